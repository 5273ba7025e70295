/- The contracts of Size, Len and few; the law's self-test, awake. -/
import Derived.Test.YtahgfggcpmnnaaaZa
import Derived.Test.YtahgfggcpmnnaaaZb
namespace Go.Proofs.Ytahgfggcpmnnaaa
open Go Go.RowKit Gs

theorem Size_any (p : Option Addr) (size : Int) (W : World) : Calls Try.prog 40 #[.agg #[.pointer p, .int .i64 size]] W fun e w' => e = .returned (.int .i64 size) ∧ Below W.heap.size W w' := by
  have HB : Hid (∀ o, Below W.heap.size W (W.alloc o)) := fun o => (Below.refl _ _).alloc (Nat.le_refl _) _
  go_enter Try.func40, Try.ntmps40
  go_wp2_with fail
  go_ret
  exact ⟨rfl, HB.out _⟩
theorem Len_any {f : Int → Int} {size s : Int} {n : Nat} {W : World} {p : Option Addr} (h : Tr f 0 size n W p) : ∃ L, Gs.Can f 0 L size ∧ L.length ≤ n ∧ Calls Try.prog 41 #[.agg #[.pointer p, .int .i64 s]] W fun e w' => e = .returned (.int .i64 L.length) ∧ Below W.heap.size W w' := by
  obtain ⟨t, t1, t2, t3⟩ := h
  refine ⟨t.L, t2, by rw [← T.sz_eq]; exact t3, ?_⟩
  have HB : Hid (∀ o, Below W.heap.size W (W.alloc o)) := fun o => (Below.refl _ _).alloc (Nat.le_refl _) _
  have HLN : Hid (∀ o, Calls Try.prog 71 #[.pointer p] (W.alloc o) fun e w' => e = .returned (.int .i64 t.sz) ∧ W.alloc o = w') := fun o => len_any t _ _ (IsT.below ((Below.refl _ _).alloc (Nat.le_refl _) _) t1)
  have HE : Hid (t.sz = t.L.length) := t.sz_eq
  clear t1 t2 t3
  generalize t.L.length = n2 at *
  generalize t.sz = n1 at *
  go_enter Try.func41, Try.ntmps41
  go_wp2_with fail
  refine (HLN.out _).mono ?_
  rintro e w1 ⟨rfl, rfl⟩
  go_wp2_with fail
  go_ret
  exact ⟨by rw [← HE.out]; rfl, HB.out _⟩
theorem few_any (a : Option Addr) (n c : Nat) (W : World) : Calls Try.prog 11 #[.slice a n c] W fun e w' => e = .returned (.bool (decide (n ≤ 60))) ∧ W = w' := by
  by_cases h : n ≤ 60
  · have h1 : (n : Int) ≤ 60 := by omega
    have HE : Hid (decide (n ≤ 60) = true) := decide_eq_true h
    clear h
    generalize decide (n ≤ 60) = d at *
    go_enter Try.func11, Try.ntmps11
    go_wp2_with fail
    go_ret
    exact ⟨by rw [HE.out]; rfl, rfl⟩
  · have h1 : ¬ (n : Int) ≤ 60 := by omega
    have HE : Hid (decide (n ≤ 60) = false) := decide_eq_false h
    clear h
    generalize decide (n ≤ 60) = d at *
    go_enter Try.func11, Try.ntmps11
    go_wp2_with fail
    go_ret
    exact ⟨by rw [HE.out]; rfl, rfl⟩
/-- the map of awake -/
def fA : Int → Int := put (fun _ => 0) 2 5 1
def LA : List R := [⟨0, 2, 0⟩, ⟨2, 5, 1⟩, ⟨5, 10, 0⟩]
theorem can_A : Gs.Can fA 0 LA 10 := by
  refine ⟨⟨rfl, by decide, fun p h1 h2 => ?_, rfl, by decide, fun p h1 h2 => ?_, rfl, by decide, fun p h1 h2 => ?_, rfl⟩, by decide, by decide, trivial⟩
  · have h2 : p < 2 := h2
    show (if 2 ≤ p ∧ p < 5 then (1 : Int) else 0) = 0
    rw [if_neg (by omega)]
  · have h1 : 2 ≤ p := h1
    have h2 : p < 5 := h2
    show (if 2 ≤ p ∧ p < 5 then (1 : Int) else 0) = 1
    rw [if_pos ⟨h1, h2⟩]
  · have h1 : 5 ≤ p := h1
    show (if 2 ≤ p ∧ p < 5 then (1 : Int) else 0) = 0
    rw [if_neg (by omega)]
theorem find_A {x : Int} (h0 : 0 ≤ x) (h1 : x < 10) (hf : fA x = 1) (hc : cb x 1 LA = 2) : x = 4 := by
  have : x = 0 ∨ x = 1 ∨ x = 2 ∨ x = 3 ∨ x = 4 ∨ x = 5 ∨ x = 6 ∨ x = 7 ∨ x = 8 ∨ x = 9 := by omega
  rcases this with rfl | rfl | rfl | rfl | rfl | rfl | rfl | rfl | rfl | rfl <;> first | rfl | (revert hf hc; decide)
set_option maxHeartbeats 2000000 in
theorem awake_any (W : World) : Calls Try.prog 12 #[] W fun e w' => e = .returned (.bool true) ∧ Below W.heap.size W w' := by
  have HN := Lib.hid (New_any 10 W)
  go_enter Try.func12, Try.ntmps12
  go_wp2_with fail
  refine HN.out.mono ?_
  rintro e w1 ⟨q, s, e2, rfl, HQ, hb⟩
  have HB1 := Lib.hid hb
  clear hb
  rcases HQ.out with ⟨rfl, rfl, hq⟩ | ⟨_, _, _, h⟩
  · have HI := Lib.hid hq
    clear hq
    obtain ⟨w2, HW2⟩ : ∃ w2, w2 = w1.alloc (.cells #[.pointer q, .int .i64 10] 27) := ⟨_, rfl⟩
    have hb2 : Below w1.heap.size w1 w2 := by rw [HW2]; exact (Below.refl _ _).alloc (Nat.le_refl _) _
    have HB2 := Lib.hid (HB1.out.trans (hb2.mono HB1.out.size))
    have HS := Lib.hid (Set_any (lo := 2) (hi := 5) (tag := 1) (HI.out.below hb2))
    have HW := Lib.hid HW2
    clear hb2 HW2
    go_wp2_with fail
    rw [← HW.out]
    refine HS.out.mono ?_
    rintro e w3 ⟨q2, s2, e3, rfl, HU, hb⟩
    have HB3 := Lib.hid (HB2.out.trans (hb.mono HB2.out.size))
    clear hb HW
    rcases HU.out with ⟨h, _⟩ | ⟨_, _, _, _, L, hL, hlen⟩ | ⟨_, rfl, rfl, hq⟩
    · exact absurd (by decide) h
    · have := Gs.Can.same hL can_A
      subst this
      exact absurd hlen (by decide)
    · obtain ⟨w4, HW4⟩ : ∃ w4, w4 = w3.alloc (.cells #[.pointer q2, .int .i64 10] 27) := ⟨_, rfl⟩
      have hm4 : Mb w3.heap.size q2 10 w4 := by rw [HW4]; exact Mb.new _ _ _ _
      have hb4 : Below w3.heap.size w3 w4 := by rw [HW4]; exact (Below.refl _ _).alloc (Nat.le_refl _) _
      have HB4 := Lib.hid (HB3.out.trans (hb4.mono HB3.out.size))
      have HI4 := Lib.hid (hq.below hb4)
      have HM4 := Lib.hid hm4
      have HW := Lib.hid HW4
      obtain ⟨L, hL, hcount⟩ := Count_ok (k := 1) (lo := 0) (hi := 4) HI4.out (by decide) (by decide) (by decide) (by decide)
      have e := Gs.Can.same hL can_A
      subst e
      have HC : Hid (Calls Try.prog 22 #[.agg #[.pointer q2, .int .i64 10], .int .i64 0, .int .i64 4, .int .i64 1] w4 fun e w' => e = .returned (.tuple #[.int .i64 2, .int .i64 0]) ∧ Below w4.heap.size w4 w') := hcount
      clear hL hcount hq hm4 hb4 HW4
      go_wp2_with fail
      rw [← HW.out]
      refine HC.out.mono ?_
      rintro e w5 ⟨rfl, hb⟩
      have HB5 := Lib.hid (HB4.out.trans (hb.mono HB4.out.size))
      have HI5 := Lib.hid (HI4.out.below hb)
      have HM5 := Lib.hid (HM4.out.next hb)
      obtain ⟨L, hL, hfind⟩ := Find_any (tag := 1) (k := 2) HI5.out
      have e := Gs.Can.same hL can_A
      subst e
      have HF := Lib.hid hfind
      have k0 := HM5.out.c0; have k1 := HM5.out.c1
      clear hb hL hfind
      go_wp2_with fail
      refine HF.out.mono ?_
      rintro e w6 ⟨x, is, rfl, HX, hb⟩
      have HB6 := Lib.hid (HB5.out.trans (hb.mono HB5.out.size))
      have HI6 := Lib.hid (HI5.out.below hb)
      have HM6 := Lib.hid (HM5.out.next hb)
      obtain ⟨L, hL, _, hlen⟩ := Len_any (s := 10) HI6.out.tr
      have e := Gs.Can.same hL can_A
      subst e
      have HL : Hid (Calls Try.prog 41 #[.agg #[.pointer q2, .int .i64 10]] w6 fun e w' => e = .returned (.int .i64 3) ∧ Below w6.heap.size w6 w') := hlen
      clear hb hL hlen k0 k1
      have k0 := HM6.out.c0; have k1 := HM6.out.c1
      rcases HX.out with ⟨rfl, _, _, _, h1, h2, h3, h4⟩ | ⟨_, _, h⟩
      · obtain rfl := find_A h1 h2 h3 h4
        clear h1 h2 h3 h4
        go_wp2_with fail
        refine HL.out.mono ?_
        rintro e w7 ⟨rfl, hb⟩
        have HB7 := Lib.hid (HB6.out.trans (hb.mono HB6.out.size))
        clear hb k0 k1
        go_wp2_with fail
        go_ret
        exact ⟨rfl, HB7.out⟩
      · exfalso
        rcases h with h | h | h
        · exact absurd h (by decide)
        · exact absurd h (by decide)
        · exact absurd h (by decide)
  · omega
end Go.Proofs.Ytahgfggcpmnnaaa
