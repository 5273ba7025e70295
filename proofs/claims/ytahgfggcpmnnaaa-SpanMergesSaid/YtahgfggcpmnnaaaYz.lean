/- The contracts of Get, Count and Find. -/
import Derived.Test.YtahgfggcpmnnaaaYw
import Derived.Test.YtahgfggcpmnnaaaYt
namespace Go.Proofs.Ytahgfggcpmnnaaa
open Go Go.RowKit Gs

set_option maxRecDepth 100000 in
set_option maxHeartbeats 1000000 in
theorem Get_ok {f : Int → Int} {size at' : Int} {W : World} {p : Option Addr} (h : IsM f size W p) (h1 : 0 ≤ at') (h2 : at' < size) :
    Calls Try.prog 18 #[.agg #[.pointer p, .int .i64 size], .int .i64 at'] W fun e w' => e = .returned (.tuple #[.int .i64 (f at'), .int .i64 0]) ∧ Below W.heap.size W w' := by
  obtain ⟨b, rfl⟩ := h.some
  obtain ⟨t, t1, t2, t3⟩ := h.tr
  obtain ⟨w0, HW⟩ : ∃ w0, w0 = W.alloc (.cells #[.pointer (some ⟨b, 0, none⟩), .int .i64 size] 27) := ⟨_, rfl⟩
  have hq : Mq W (some ⟨b, 0, none⟩) size w0 := by rw [HW]; exact Mq.new _ _ _ _
  have HUS := Lib.hid (isUsable_any b size w0)
  have HAT : Hid (∀ W', Below W.heap.size W W' → Calls Try.prog 45 #[.pointer (some ⟨b, 0, none⟩), .int .i64 at'] W' fun e w' => ∃ lo hi, e = .returned (.agg #[.int .i64 lo, .int .i64 hi, .int .i64 (f at')]) ∧ Below W'.heap.size W' w') := fun W' hb => by
    refine (at_any f 0 size t _ W' at' (IsT.below hb t1) t2 h1 h2).mono ?_
    rintro e w' ⟨l, lo, hi, tag, k, rfl, hk, hB⟩
    obtain ⟨e1, e2, e3⟩ := hk.out
    rw [e1] at t2
    have := t2.mid.2.2.2.1 at' e2 e3
    simp only at this
    rw [this]
    exact ⟨lo, hi, rfl, hB⟩
  have HQ := Lib.hid hq
  have HW' := Lib.hid HW
  have hfl2 : ∀ (x y z : Int) (w : World), (Instr.field 64 (.agg #[.int .i64 x, .int .i64 y, .int .i64 z]) 2).run Try.prog w = .ok (.int .i64 z) w := fun _ _ _ _ => rfl
  have h3 : ¬ at' < 0 := by omega
  have h4 : ¬ at' ≥ size := by omega
  clear h t1 t2 t3 hq HW h1 h2
  generalize f at' = fa at *
  go_enter Try.func18, Try.ntmps18
  go_wp2_with fail
  rw [← HW'.out]
  refine HUS.out.mono ?_
  rintro e w1 ⟨rfl, hb⟩
  have HQ1 := Lib.hid (HQ.out.next hb)
  have c0 := HQ1.out.c0; have c1 := HQ1.out.c1
  clear hb
  go_wp2_with fail
  refine (HAT.out _ HQ1.out.bel).mono ?_
  rintro e w2 ⟨lo, hi, rfl, hb⟩
  have HB := Lib.hid (HQ1.out.bel.trans (hb.mono HQ1.out.bel.size))
  clear hb
  go_wp2_with fail
  refine bodyPost_ret (v := .tuple #[.int .i64 fa, .int .i64 0]) (by simp [results, Try.results18, go_sem]) rfl ?_
  exact ⟨rfl, HB.out⟩
set_option maxHeartbeats 1000000 in
theorem Count_ok {f : Int → Int} {size lo hi : Int} {k : Nat} {W : World} {p : Option Addr} (h : IsM f size W p) (h1 : 0 ≤ lo) (h2 : lo ≤ hi) (h3 : hi ≤ size) (hk : k < 16) :
    ∃ L, Gs.Can f 0 L size ∧ Calls Try.prog 22 #[.agg #[.pointer p, .int .i64 size], .int .i64 lo, .int .i64 hi, .int .i64 k] W fun e w' => e = .returned (.tuple #[.int .i64 (cb hi k L - cb lo k L), .int .i64 0]) ∧ Below W.heap.size W w' := by
  obtain ⟨b, rfl⟩ := h.some
  obtain ⟨t, t1, t2, t3⟩ := h.tr
  refine ⟨t.L, t2, ?_⟩
  have hcx := h.ctx
  have hhi := h.hi
  obtain ⟨w0, HW⟩ : ∃ w0, w0 = (W.alloc (.cells #[.pointer (some ⟨b, 0, none⟩), .int .i64 size] 27)).alloc (.cells #[.int .i64 k] 3) := ⟨_, rfl⟩
  have hm1 := Mb.new W (some ⟨b, 0, none⟩) size 27
  have hb1 : Below (W.alloc (.cells #[.pointer (some ⟨b, 0, none⟩), .int .i64 size] 27)).heap.size (W.alloc (.cells #[.pointer (some ⟨b, 0, none⟩), .int .i64 size] 27)) w0 := by rw [HW]; exact (Below.refl _ _).alloc (Nat.le_refl _) _
  have hm : Mb W.heap.size (some ⟨b, 0, none⟩) size w0 := hm1.next hb1
  have hb0 : Below W.heap.size W w0 := by rw [HW]; exact ((Below.refl _ _).alloc (Nat.le_refl _) _).alloc (by simp) _
  have hlt : W.heap.size + 1 < w0.heap.size := by rw [HW]; simp
  have hc : w0.cell? ⟨W.heap.size + 1, 0, none⟩ = some (.int .i64 k) := by rw [HW]; exact World.cell?_alloc_at _ _ _ _ (by simp)
  have hek : errOf size lo hi [(k : Int)] = 0 := by
    unfold errOf
    rw [if_neg (by omega), if_pos]
    simp only [List.all_cons, List.all_nil, Bool.and_true, isT]
    exact decide_eq_true ⟨by omega, by omega⟩
  have HCK : Hid (Calls Try.prog 46 #[.agg #[.pointer (some ⟨b, 0, none⟩), .int .i64 size], .int .i64 lo, .int .i64 hi, .slice (some ⟨W.heap.size + 1, 0, none⟩) 1 1] w0 fun e w' => e = .returned (.int .i64 (errOf size lo hi [(k : Int)])) ∧ Below w0.heap.size w0 w') :=
    check_any b (W.heap.size + 1) 1 size lo hi [(k : Int)] w0 hlt (fun i hi => by
      have : i = 0 := by simp at hi; exact hi
      subst this
      exact hc) (by simp)
  rw [hek] at HCK
  have HCB : Hid (∀ x W', Below W.heap.size W W' → Calls Try.prog 50 #[.pointer (some ⟨b, 0, none⟩), .int .i64 x, .int .i64 k] W' fun e w' => e = .returned (.int .i64 (cb x k t.L)) ∧ Below W'.heap.size W' w') := fun x W' hb => countBelow_any f x k hk t 0 size _ W' (IsT.below hb t1) t2 hcx
  have z1 := cb_bd lo k t2.1; have z2 := cb_bd hi k t2.1
  have HM := Lib.hid hm; have HB := Lib.hid hb0; have HW' := Lib.hid HW
  clear h t1 t2 t3 hm1 hb1 hm hb0 hlt hc hek hk HW hcx
  have y : (-2000000000000 ≤ cb lo k t.L ∧ cb lo k t.L ≤ 2000000000000) ∧ -2000000000000 ≤ cb hi k t.L ∧ cb hi k t.L ≤ 2000000000000 := by omega
  obtain ⟨⟨y1, y2⟩, y3, y4⟩ := y
  clear z1 z2
  have HCH := Lib.hid (HCB.out hi)
  have HCL := Lib.hid (HCB.out lo)
  clear HCB
  generalize cb lo k t.L = cl at *
  generalize cb hi k t.L = ch at *
  have hw : IntKind.i64.wrap (ch - cl) = ch - cl := IntWalk.i64_in _ (by omega)
  go_enter Try.func22, Try.ntmps22
  go_wp2_with fail
  rw [← HW'.out]
  refine HCK.out.mono ?_
  rintro e w1 ⟨rfl, hb⟩
  have HM1 := Lib.hid (HM.out.next hb)
  have HB1 := Lib.hid (HB.out.trans (hb.mono HB.out.size))
  clear hb
  have HALL : Hid (∀ W', Below w1.heap.size w1 W' → W'.cell? ⟨W.heap.size, 0, none⟩ = some (.pointer (some ⟨b, 0, none⟩)) ∧ W'.cell? ⟨W.heap.size, 1, none⟩ = some (.int .i64 size)) := fun W' h => ⟨(HM1.out.next h).c0, (HM1.out.next h).c1⟩
  have HCH2 : Hid (∀ W', Below w1.heap.size w1 W' → Calls Try.prog 50 #[.pointer (some ⟨b, 0, none⟩), .int .i64 hi, .int .i64 k] W' fun e w' => e = .returned (.int .i64 ch) ∧ Below w1.heap.size w1 w') := fun W' h => (HCH.out W' (HB1.out.trans (h.mono HB1.out.size))).mono fun e w' ⟨he, hB⟩ => ⟨he, h.trans (hB.mono h.size)⟩
  have HCL2 : Hid (∀ W', Below w1.heap.size w1 W' → Calls Try.prog 50 #[.pointer (some ⟨b, 0, none⟩), .int .i64 lo, .int .i64 k] W' fun e w' => e = .returned (.int .i64 cl) ∧ Below w1.heap.size w1 w') := fun W' h => (HCL.out W' (HB1.out.trans (h.mono HB1.out.size))).mono fun e w' ⟨he, hB⟩ => ⟨he, h.trans (hB.mono h.size)⟩
  have hs : Below w1.heap.size w1 w1 := Below.refl _ _
  have hs2 := hs.drew
  have hcl := HALL.out _ hs2
  have hc0 := HALL.out _ hs
  go_wp2_with fail
  go_region_held3 (fun W' : World => W'.cell? ⟨W.heap.size, 0, none⟩ = some (.pointer (some ⟨b, 0, none⟩)) ∧ W'.cell? ⟨W.heap.size, 1, none⟩ = some (.int .i64 size)) (first | assumption | fail) (first
    | (go_at_call 50; with_reducible refine (HCH2.out _ ?h).mono ?_; (case h => assumption); rintro e w' ⟨rfl, hs1'⟩; have hc1' := HALL.out _ hs1')
    | (go_at_call 50; with_reducible refine (HCL2.out _ ?h).mono ?_; (case h => assumption); rintro e w' ⟨rfl, hs2'⟩; have hc2' := HALL.out _ hs2') | fail)
  all_goals
    have HBF := Lib.hid (HB1.out.trans (hs2'.mono HB1.out.size))
    clear hs hs2 hcl hc0 hs1' hs2' hc1' hc2'
    go_wp2_with fail
    refine bodyPost_ret (v := .tuple #[.int .i64 (ch - cl), .int .i64 0]) (by simp [results, Try.results22, go_sem]) rfl ?_
    exact ⟨rfl, HBF.out⟩
set_option maxHeartbeats 1000000 in
theorem Count_err {f : Int → Int} {size lo hi k : Int} {W : World} {p : Option Addr} (h : IsM f size W p) (her : errOf size lo hi [k] ≠ 0) :
    Calls Try.prog 22 #[.agg #[.pointer p, .int .i64 size], .int .i64 lo, .int .i64 hi, .int .i64 k] W fun e w' => e = .returned (.tuple #[.int .i64 0, .int .i64 (errOf size lo hi [k])]) ∧ Below W.heap.size W w' := by
  obtain ⟨b, rfl⟩ := h.some
  obtain ⟨w0, HW⟩ : ∃ w0, w0 = (W.alloc (.cells #[.pointer (some ⟨b, 0, none⟩), .int .i64 size] 27)).alloc (.cells #[.int .i64 k] 3) := ⟨_, rfl⟩
  have hb0 : Below W.heap.size W w0 := by rw [HW]; exact ((Below.refl _ _).alloc (Nat.le_refl _) _).alloc (by simp) _
  have hlt : W.heap.size + 1 < w0.heap.size := by rw [HW]; simp
  have hc : w0.cell? ⟨W.heap.size + 1, 0, none⟩ = some (.int .i64 k) := by rw [HW]; exact World.cell?_alloc_at _ _ _ _ (by simp)
  have HCK : Hid (Calls Try.prog 46 #[.agg #[.pointer (some ⟨b, 0, none⟩), .int .i64 size], .int .i64 lo, .int .i64 hi, .slice (some ⟨W.heap.size + 1, 0, none⟩) 1 1] w0 fun e w' => e = .returned (.int .i64 (errOf size lo hi [k])) ∧ Below w0.heap.size w0 w') :=
    check_any b (W.heap.size + 1) 1 size lo hi [k] w0 hlt (fun i hi => by
      have : i = 0 := by simp at hi; exact hi
      subst this
      exact hc) (by simp)
  have HB := Lib.hid hb0; have HW' := Lib.hid HW
  have hne : (errOf size lo hi [k] == 0) = false := beq_eq_false_iff_ne.2 her
  clear h hb0 hlt hc HW her
  generalize errOf size lo hi [k] = er at *
  go_enter Try.func22, Try.ntmps22
  go_wp2_with fail
  rw [← HW'.out]
  refine HCK.out.mono ?_
  rintro e w1 ⟨rfl, hb⟩
  have HB1 := Lib.hid (HB.out.trans (hb.mono HB.out.size))
  clear hb
  go_wp2_with fail
  refine bodyPost_ret (v := .tuple #[.int .i64 0, .int .i64 er]) (by simp [results, Try.results22, go_sem]) rfl ?_
  exact ⟨rfl, HB1.out⟩
theorem cntL_of {f : Int → Int} {n : Nat} {W : World} {p : Option Addr} {size : Int} (h : Tr f 0 size n W p) (k : Nat) (hk : k < 16) : ∃ L, Gs.Can f 0 L size ∧ ∀ W', Below W.heap.size W W' → Calls Try.prog 53 #[.pointer p, .int .i64 k] W' fun e w' => e = .returned (.int .i64 (cnt k L)) ∧ W' = w' := by
  obtain ⟨t, t1, t2, t3⟩ := h
  exact ⟨t.L, t2, fun W' hb => count_any t _ W' k hk (IsT.below hb t1)⟩
end Go.Proofs.Ytahgfggcpmnnaaa
