/- The document's Runs and Count. -/
import Derived.Test.YtjbenhmpeceaeaaQn
import Derived.Test.YtjbenhmpeceaeaaQd
import Derived.BigQuiet
namespace Go.Proofs.Ytjbenhmpeceaeaa
open Go Go.RowKit Gs

/-- where the runs of a range end, of those that end at m -/
def clipE (lo hi m : Int) : Int := max lo (min hi m)
theorem clip_step {f : Int → Int} {lo hi m : Int} {lst : List R} {x : R} (h : Gs.Can f lo lst (clipE lo hi m)) (h1 : x.lo = m) (h2 : x.lo < x.hi) (h3 : ∀ p, x.lo ≤ p → p < x.hi → f p = x.tag) (hle : lo ≤ hi) :
    Gs.Can f lo (joinL lst ⟨max lo x.lo, min hi x.hi, x.tag⟩) (clipE lo hi x.hi) := by
  by_cases hx : min hi x.hi ≤ max lo x.lo
  · have e : joinL lst ⟨max lo x.lo, min hi x.hi, x.tag⟩ = lst := by unfold joinL; rw [if_pos hx]
    rw [e]
    have e2 : clipE lo hi x.hi = clipE lo hi m := by unfold clipE; omega
    rw [e2]
    exact h
  · have := join_can (x := ⟨max lo x.lo, min hi x.hi, x.tag⟩) h (by show max lo x.lo = clipE lo hi m; unfold clipE; omega) (by show clipE lo hi m ≤ min hi x.hi; unfold clipE; omega) (fun p p1 p2 => by
      have p1 : max lo x.lo ≤ p := p1
      have p2 : p < min hi x.hi := p2
      exact h3 p (by omega) (by omega))
    have e2 : clipE lo hi x.hi = min hi x.hi := by unfold clipE; omega
    rw [e2]
    exact this
/-- a list has room for what it holds -/
def Roomed (v : Value) (n : Nat) : Prop := ∃ a c, v = .slice a n c ∧ n ≤ c
theorem Roomed.of_row {W : World} {base : Nat} {e : TypeId} {size : Nat} {v : Value} {n : Nat} {xs : List Value} (h : W.ownsRow base e size v n xs) : Roomed v n := by
  rcases h.2 with ⟨rfl, rfl⟩ | ⟨g, cap, cur, rfl, _, _, h, _⟩
  · exact ⟨none, 0, rfl, Nat.le_refl _⟩
  · exact ⟨_, cap, rfl, h⟩
set_option maxRecDepth 100000 in
set_option maxHeartbeats 2000000 in
/-- the document's Runs, of a usable map and a valid range -/
theorem RRuns_ok {f : Int → Int} {size lo hi : Int} {base : Nat} {v : Value} {L : List R} {W : World} (hrs : IsRs base W v L) (hL : Gs.Can f 0 L size) (hne : 0 < L.length) (hlen : L.length ≤ 4096) (h1 : 0 ≤ lo) (h2 : lo ≤ hi) (h3 : hi ≤ size) :
    Calls Try.prog 21 #[.agg #[.int .i64 size, v], .int .i64 lo, .int .i64 hi] W fun e w' => ∃ v', e = .returned (.tuple #[v', .int .i64 0]) ∧ Hid (IsRs W.heap.size w' v' (clip lo hi L) ∧ Roomed v' (clip lo hi L).length) ∧ Below W.heap.size W w' := by
  have HRS := Lib.hid hrs
  obtain ⟨a, c, rfl, -⟩ := hrs
  obtain ⟨n, hn⟩ : ∃ n, n = L.length := ⟨_, rfl⟩
  rw [← hn] at HRS hne ⊢
  have hnb : n ≤ 4096 := by omega
  have HN := Lib.hid hn
  obtain ⟨w0, HW⟩ : ∃ w0, w0 = W.alloc (.cells #[.int .i64 size, .slice a n c] 33) := ⟨_, rfl⟩
  have hm : M2 W.heap.size (.int .i64 size) (.slice a n c) w0 := by rw [HW]; exact M2.new _ _ _ _
  have hb : Below W.heap.size W w0 := by rw [HW]; exact (Below.refl _ _).alloc (Nat.le_refl _) _
  have HUS : Hid (∀ W', Calls Try.prog 42 #[.agg #[.int .i64 size, .slice a n c]] W' fun e w' => e = .returned (.bool true) ∧ Below W'.heap.size W' w') := fun W' => by
    have := RUsable_any size a n c W'
    rwa [decide_eq_true hne] at this
  have HVA : Hid (∀ W', Calls Try.prog 48 #[.agg #[.int .i64 size, .slice a n c], .int .i64 lo, .int .i64 hi] W' fun e w' => e = .returned (.bool true) ∧ Below W'.heap.size W' w') := fun W' => by
    have := Rvalid_any size lo hi (.slice a n c) W'
    rwa [decide_eq_true (p := 0 ≤ lo ∧ lo ≤ hi ∧ hi ≤ size) ⟨h1, h2, h3⟩] at this
  have HJN : Hid (∀ (B0 : Nat) (u : Value) (l : List R) (x : R) (W' : World), rowR W' B0 u l → B0 ≤ W'.heap.size → l.length ≤ 100000 → Calls Try.prog 49 #[u, .agg #[.int .i64 x.lo, .int .i64 x.hi, .int .i64 x.tag]] W' fun e w' => ∃ v', e = .returned v' ∧ Hid (JP W' B0 u (joinL l x) v' w')) := fun B0 u l x W' h hb hl => Join_any x h hb hl
  have HM := Lib.hid hm; have HB := Lib.hid hb; have HW' := Lib.hid HW; have HL := Lib.hid hL
  have HLH : Hid (0 ≤ lo ∧ lo ≤ hi ∧ hi ≤ size) := ⟨h1, h2, h3⟩
  have k0 := HM.out.c0; have k1 := HM.out.c1
  clear hm hb HW hL hn hlen h1 h2 h3
  go_enter Try.func21, Try.ntmps21
  go_upto_region 1 with fail
  rw [← HW'.out]
  go_wp2_with fail
  refine (HUS.out _).mono ?_
  rintro e w1 ⟨rfl, hb⟩
  have HM1 := Lib.hid (HM.out.next hb)
  have HB1 := Lib.hid (HB.out.trans (hb.mono HB.out.size))
  clear hb k0 k1
  have k0 := HM1.out.c0; have k1 := HM1.out.c1
  go_wp2_with fail
  refine (HVA.out _).mono ?_
  rintro e w2 ⟨rfl, hb⟩
  have HM2 := Lib.hid (HM1.out.next hb)
  have HB2 := Lib.hid (HB1.out.trans (hb.mono HB1.out.size))
  clear hb k0 k1
  go_wp2_with fail
  go_loopw [8, 9] (fun ov iv wr => ∃ (j : Nat) (m : Int) (lst : List R), j ≤ n ∧ iv = .int .i64 j ∧ Hid (rowR wr w2.heap.size ov lst ∧ Gs.Can f lo lst (clipE lo hi m) ∧ lst.length ≤ j) ∧ Hid (Gs.Can f m (L.drop j) size ∧ 0 ≤ m) ∧ Hid (Below w2.heap.size w2 wr)) (fun _ i _ => n - (intOf i).toNat)
  case atStart => exact ⟨0, 0, [], by omega, rfl, ⟨World.ownsRow_nil _ _ _ _, by rw [show clipE lo hi 0 = lo by have := HLH.out; unfold clipE; omega]; exact Gs.Can.nil _ _, Nat.le_refl _⟩, ⟨HL.out, Int.le_refl _⟩, Below.refl _ _⟩
  case round =>
    obtain ⟨j, m, lst, hj, rfl, HROW, HCJ, HBr⟩ := hrel
    have hm := HM2.out.next HBr.out
    have k0 := hm.c0; have k1 := hm.c1
    clear hm
    by_cases hlt : j < n
    · have hj2 : (j : Int) < n := by omega
      have hjl : j < L.length := by rw [← HN.out]; exact hlt
      obtain ⟨G, rfl, c0, c1, c2⟩ := (HRS.out.below (HB2.out.trans (HBr.out.mono HB2.out.size))).at' hjl
      have hdr : L.drop j = L[j] :: L.drop (j + 1) := List.drop_eq_getElem_cons hjl
      have hcan := HCJ.out.1
      rw [hdr] at hcan
      obtain ⟨⟨xlo, xhi, xtag⟩, hx⟩ : ∃ x, x = L[j] := ⟨_, rfl⟩
      rw [← hx] at hcan c0 c1 c2
      simp only at c0 c1 c2
      obtain ⟨e1, e2, e3, e4⟩ := hcan.1
      simp only at e1 e2 e3 e4
      subst e1
      have HCAN2 : Hid (Gs.Can f xhi (L.drop (j + 1)) size ∧ 0 ≤ xhi) := ⟨⟨e4, hcan.2.tail⟩, by have := HCJ.out.2; omega⟩
      obtain ⟨A, hA⟩ : ∃ A, A = max lo xlo := ⟨_, rfl⟩
      obtain ⟨B, hB⟩ : ∃ B, B = min hi xhi := ⟨_, rfl⟩
      have HST : Hid (Gs.Can f lo (joinL lst ⟨A, B, xtag⟩) (clipE lo hi xhi)) := by rw [hA, hB]; exact clip_step (x := ⟨xlo, xhi, xtag⟩) HROW.out.2.1 rfl e2 e3 HLH.out.2.1
      have HLN : Hid ((joinL lst ⟨A, B, xtag⟩).length ≤ j + 1) := Nat.le_trans (joinL_len _ _) (by have := HROW.out.2.2; omega)
      obtain ⟨wx, HWX⟩ : ∃ wx, wx = wr.alloc (.cells #[.int .i64 xlo, .int .i64 xhi, .int .i64 xtag] 64) := ⟨_, rfl⟩
      have bx : Below wr.heap.size wr wx := by rw [HWX]; exact (Below.refl _ _).alloc (Nat.le_refl _) _
      have HRB : Hid (Rb wx wr.heap.size ⟨xlo, xhi, xtag⟩) := by rw [HWX]; exact Rb.new wr ⟨xlo, xhi, xtag⟩
      have HROWX : Hid (rowR wx w2.heap.size u8 lst) := by rw [HWX]; exact HROW.out.1.alloc _
      have HBx := Lib.hid (HBr.out.trans (bx.mono HBr.out.size))
      have HJ1 := Lib.hid (HJN.out w2.heap.size u8 lst ⟨A, B, xtag⟩ wx HROWX.out HBx.out.size (by have := HROW.out.2.2; omega))
      obtain ⟨r0, r1, r2⟩ := HRB.out.cells
      simp only at r0 r1 r2
      have HWX' := Lib.hid HWX
      have hmx : (if lo < xlo then xlo else lo) = A := by rw [hA]; split <;> omega
      have hmn : (if xhi < hi then xhi else hi) = B := by rw [hB]; split <;> omega
      have hmx2 : max lo xlo = A := hA.symm
      have hmn2 : min hi xhi = B := hB.symm
      have hmn3 : (if hi < xhi then hi else xhi) = B := by rw [hB]; split <;> omega
      clear hdr hcan hx e2 e3 e4 HWX bx hA hB
      go_upto_region 10 with fail
      rw [← HWX'.out]
      go_wp2_with fail
      refine HJ1.out.mono ?_
      rintro e y1 ⟨v1, rfl, HP1⟩
      have HF3 := Lib.hid HP1.out.own
      have HB3' := Lib.hid (HBx.out.trans HP1.out.bel)
      go_wp2_with fail
      go_roundw
      case rel => exact ⟨j + 1, xhi, _, by omega, by go_num, ⟨HF3.out, HST.out, HLN.out⟩, HCAN2.out, HB3'.out⟩
      case measure => simp [intOf]; omega
    · have hlt3 : ¬ (j : Int) < n := by omega
      have hjn : j = n := by omega
      have hdr : L.drop j = [] := List.drop_eq_nil_of_le (by have := HN.out; omega)
      have hms : m = size := by have := HCJ.out.1.1; rw [hdr] at this; exact this
      have HC9 : Hid (lst = clip lo hi L) := by
        have h1 := HROW.out.2.1
        rw [hms, show clipE lo hi size = hi by have := HLH.out; unfold clipE; omega] at h1
        exact h1.same (clip_can HL.out HLH.out.1 HLH.out.2.1 HLH.out.2.2)
      have HI9 : Hid (IsRs W.heap.size wr u8 (clip lo hi L) ∧ Roomed u8 (clip lo hi L).length) := by rw [← HC9.out]; exact ⟨(IsRs.of_row HROW.out.1).mono HB2.out.size, Roomed.of_row HROW.out.1⟩
      have HB9 := Lib.hid (HB2.out.trans (HBr.out.mono HB2.out.size))
      clear hdr hms hjn
      go_wp2_with fail
      refine bodyPost_ret (v := .tuple #[u8, .int .i64 0]) (by simp [results, Try.results21, go_sem]) rfl ?_
      exact ⟨u8, rfl, HI9, HB9.out⟩
/-- of an unusable map -/
theorem RRuns_un (lo hi : Int) (W : World) : Calls Try.prog 21 #[.agg #[.int .i64 0, .slice none 0 0], .int .i64 lo, .int .i64 hi] W fun e w' => e = .returned (.tuple #[.slice none 0 0, .int .i64 1]) ∧ Below W.heap.size W w' := by
  obtain ⟨w0, HW⟩ : ∃ w0, w0 = W.alloc (.cells #[.int .i64 0, .slice none 0 0] 33) := ⟨_, rfl⟩
  have hb : Below W.heap.size W w0 := by rw [HW]; exact (Below.refl _ _).alloc (Nat.le_refl _) _
  have hm : M2 W.heap.size (.int .i64 0) (.slice none 0 0) w0 := by rw [HW]; exact M2.new _ _ _ _
  have HUS : Hid (∀ W', Calls Try.prog 42 #[.agg #[.int .i64 0, .slice none 0 0]] W' fun e w' => e = .returned (.bool false) ∧ Below W'.heap.size W' w') := fun W' => RUsable_any 0 none 0 0 W'
  have HB := Lib.hid hb; have HW' := Lib.hid HW
  have k0 := hm.c0; have k1 := hm.c1
  clear hm hb HW
  go_enter Try.func21, Try.ntmps21
  go_upto_region 1 with fail
  rw [← HW'.out]
  go_wp2_with fail
  refine (HUS.out _).mono ?_
  rintro e w1 ⟨rfl, hb⟩
  have HB1 := Lib.hid (HB.out.trans (hb.mono HB.out.size))
  clear hb k0 k1
  go_wp2_with fail
  refine bodyPost_ret (v := .tuple #[.slice none 0 0, .int .i64 1]) (by simp [results, Try.results21, go_sem]) rfl ?_
  exact ⟨rfl, HB1.out⟩
/-- of a range that is not valid -/
theorem RRuns_range (size lo hi : Int) (a : Option Addr) (n c : Nat) (W : World) (hn : 0 < n) (hv : ¬ (0 ≤ lo ∧ lo ≤ hi ∧ hi ≤ size)) : Calls Try.prog 21 #[.agg #[.int .i64 size, .slice a n c], .int .i64 lo, .int .i64 hi] W fun e w' => e = .returned (.tuple #[.slice none 0 0, .int .i64 3]) ∧ Below W.heap.size W w' := by
  obtain ⟨w0, HW⟩ : ∃ w0, w0 = W.alloc (.cells #[.int .i64 size, .slice a n c] 33) := ⟨_, rfl⟩
  have hb : Below W.heap.size W w0 := by rw [HW]; exact (Below.refl _ _).alloc (Nat.le_refl _) _
  have hm : M2 W.heap.size (.int .i64 size) (.slice a n c) w0 := by rw [HW]; exact M2.new _ _ _ _
  have HUS : Hid (∀ W', Calls Try.prog 42 #[.agg #[.int .i64 size, .slice a n c]] W' fun e w' => e = .returned (.bool true) ∧ Below W'.heap.size W' w') := fun W' => by
    have := RUsable_any size a n c W'
    rwa [decide_eq_true hn] at this
  have HVA : Hid (∀ W', Calls Try.prog 48 #[.agg #[.int .i64 size, .slice a n c], .int .i64 lo, .int .i64 hi] W' fun e w' => e = .returned (.bool false) ∧ Below W'.heap.size W' w') := fun W' => by
    have := Rvalid_any size lo hi (.slice a n c) W'
    rwa [decide_eq_false hv] at this
  have HB := Lib.hid hb; have HW' := Lib.hid HW; have HM := Lib.hid hm
  have k0 := hm.c0; have k1 := hm.c1
  clear hm hb HW
  go_enter Try.func21, Try.ntmps21
  go_upto_region 1 with fail
  rw [← HW'.out]
  go_wp2_with fail
  refine (HUS.out _).mono ?_
  rintro e w1 ⟨rfl, hb⟩
  have HB1 := Lib.hid (HB.out.trans (hb.mono HB.out.size))
  have HM1 := Lib.hid (HM.out.next hb)
  clear hb k0 k1
  have k0 := HM1.out.c0; have k1 := HM1.out.c1
  go_wp2_with fail
  refine (HVA.out _).mono ?_
  rintro e w2 ⟨rfl, hb⟩
  have HB2 := Lib.hid (HB1.out.trans (hb.mono HB1.out.size))
  clear hb k0 k1
  go_wp2_with fail
  refine bodyPost_ret (v := .tuple #[.slice none 0 0, .int .i64 3]) (by simp [results, Try.results21, go_sem]) rfl ?_
  exact ⟨rfl, HB2.out⟩
end Go.Proofs.Ytjbenhmpeceaeaa
