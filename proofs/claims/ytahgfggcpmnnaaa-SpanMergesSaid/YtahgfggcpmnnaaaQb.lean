/- The document's own map: Usable, valid, Tag, full; a box of two values. -/
import Derived.Test.YtahgfggcpmnnaaaQa
import Derived.Test.YtahgfggcpmnnaaaYw
namespace Go.Proofs.Ytahgfggcpmnnaaa
open Go Go.RowKit Gs

/-- a box of two cells -/
structure M2 (B : Nat) (x y : Value) (W' : World) : Prop where
  c0 : W'.cell? ⟨B, 0, none⟩ = some x
  c1 : W'.cell? ⟨B, 1, none⟩ = some y
  f0 : W'.frozen? ⟨B, 0, none⟩ = false
  f1 : W'.frozen? ⟨B, 1, none⟩ = false
  lt : B < W'.heap.size
section
variable {B : Nat} {x y : Value} {W' W2 : World}
theorem M2.next (h : M2 B x y W') (hb : Below W'.heap.size W' W2) : M2 B x y W2 :=
  ⟨(hb.cell (p := ⟨B, 0, none⟩) h.lt).trans h.c0, (hb.cell (p := ⟨B, 1, none⟩) h.lt).trans h.c1, (hb.frozen (p := ⟨B, 0, none⟩) h.lt).trans h.f0, (hb.frozen (p := ⟨B, 1, none⟩) h.lt).trans h.f1, Nat.lt_of_lt_of_le h.lt hb.size⟩
theorem M2.new (W : World) (x y : Value) (Ty : TypeId) : M2 W.heap.size x y (W.alloc (.cells #[x, y] Ty)) :=
  ⟨World.cell?_alloc_at _ _ _ _ rfl, World.cell?_alloc_at _ _ _ _ rfl, World.frozen?_alloc_at _ _ _ _ rfl, World.frozen?_alloc_at _ _ _ _ rfl, by simp⟩
theorem M2.put (h : M2 B x y W') (u v : Value) : M2 B u v ((W'.setCell ⟨B, 0, none⟩ u).setCell ⟨B, 1, none⟩ v) :=
  ⟨(World.cell?_setCell_other _ _ _ _ (by intro e; cases e)).trans (World.cell?_setCell_same _ _ _ h.c0), World.cell?_setCell_same _ _ _ ((World.cell?_setCell_other _ _ _ _ (by intro e; cases e)).trans h.c1),
   (World.frozen?_setCell _ _ _ _).trans ((World.frozen?_setCell _ _ _ _).trans h.f0), (World.frozen?_setCell _ _ _ _).trans ((World.frozen?_setCell _ _ _ _).trans h.f1), by rw [World.size_setCell, World.size_setCell]; exact h.lt⟩
end
theorem RUsable_any (s : Int) (a : Option Addr) (n c : Nat) (W : World) : Calls Try.prog 42 #[.agg #[.int .i64 s, .slice a n c]] W fun e w' => e = .returned (.bool (decide (0 < n))) ∧ Below W.heap.size W w' := by
  have HB : Hid (∀ o, Below W.heap.size W (W.alloc o)) := fun o => (Below.refl _ _).alloc (Nat.le_refl _) _
  go_enter Try.func42, Try.ntmps42
  go_wp2_with fail
  go_ret
  exact ⟨rfl, HB.out _⟩
theorem Rvalid_any (s lo hi : Int) (v : Value) (W : World) : Calls Try.prog 48 #[.agg #[.int .i64 s, v], .int .i64 lo, .int .i64 hi] W fun e w' => e = .returned (.bool (decide (0 ≤ lo ∧ lo ≤ hi ∧ hi ≤ s))) ∧ Below W.heap.size W w' := by
  have HB : Hid (∀ o, Below W.heap.size W (W.alloc o)) := fun o => (Below.refl _ _).alloc (Nat.le_refl _) _
  by_cases h1 : 0 ≤ lo
  · by_cases h2 : lo ≤ hi
    · by_cases h3 : hi ≤ s
      · have HE : Hid (decide (0 ≤ lo ∧ lo ≤ hi ∧ hi ≤ s) = true) := decide_eq_true ⟨h1, h2, h3⟩
        generalize decide (0 ≤ lo ∧ lo ≤ hi ∧ hi ≤ s) = d at *
        go_enter Try.func48, Try.ntmps48
        go_wp2_with fail
        go_ret
        exact ⟨by rw [HE.out]; rfl, HB.out _⟩
      · have HE : Hid (decide (0 ≤ lo ∧ lo ≤ hi ∧ hi ≤ s) = false) := decide_eq_false (fun h => h3 h.2.2)
        generalize decide (0 ≤ lo ∧ lo ≤ hi ∧ hi ≤ s) = d at *
        go_enter Try.func48, Try.ntmps48
        go_wp2_with fail
        go_ret
        exact ⟨by rw [HE.out]; rfl, HB.out _⟩
    · have HE : Hid (decide (0 ≤ lo ∧ lo ≤ hi ∧ hi ≤ s) = false) := decide_eq_false (fun h => h2 h.2.1)
      generalize decide (0 ≤ lo ∧ lo ≤ hi ∧ hi ≤ s) = d at *
      go_enter Try.func48, Try.ntmps48
      go_wp2_with fail
      go_ret
      exact ⟨by rw [HE.out]; rfl, HB.out _⟩
  · have HE : Hid (decide (0 ≤ lo ∧ lo ≤ hi ∧ hi ≤ s) = false) := decide_eq_false (fun h => h1 h.1)
    generalize decide (0 ≤ lo ∧ lo ≤ hi ∧ hi ≤ s) = d at *
    go_enter Try.func48, Try.ntmps48
    go_wp2_with fail
    go_ret
    exact ⟨by rw [HE.out]; rfl, HB.out _⟩
theorem RTag_any (t : Int) (W : World) : Calls Try.prog 51 #[.int .i64 t] W fun e w' => e = .returned (.bool (isT t)) ∧ W = w' := by
  by_cases h0 : 0 ≤ t
  · by_cases h1 : t < 16
    · have HE : Hid (isT t = true) := decide_eq_true ⟨h0, h1⟩
      have h2 : t ≥ 0 := h0
      go_enter Try.func51, Try.ntmps51
      go_wp2_with fail
      go_ret
      exact ⟨by rw [HE.out]; rfl, rfl⟩
    · have HE : Hid (isT t = false) := decide_eq_false (fun h => h1 h.2)
      have h2 : t ≥ 0 := h0
      go_enter Try.func51, Try.ntmps51
      go_wp2_with fail
      go_ret
      exact ⟨by rw [HE.out]; rfl, rfl⟩
  · have HE : Hid (isT t = false) := decide_eq_false (fun h => h0 h.1)
    have h2 : ¬ t ≥ 0 := h0
    go_enter Try.func51, Try.ntmps51
    go_wp2_with fail
    go_ret
    exact ⟨by rw [HE.out]; rfl, rfl⟩
/-- the boxes of a map and of a result behind it -/
theorem boxesR (W : World) (s : Int) (v : Value) (Ty : TypeId) : ∃ w0, w0 = (W.alloc (.cells #[.int .i64 s, v] Ty)).alloc (.cells #[.int .i64 0, .slice none 0 0] Ty) ∧ M2 W.heap.size (.int .i64 s) v w0 ∧ M2 (W.heap.size + 1) (.int .i64 0) (.slice none 0 0) w0 ∧ Below W.heap.size W w0 := by
  have h1 := M2.new W (.int .i64 s) v Ty
  have h2 := M2.new (W.alloc (.cells #[.int .i64 s, v] Ty)) (.int .i64 0) (.slice none 0 0) Ty
  rw [show (W.alloc (.cells #[.int .i64 s, v] Ty)).heap.size = W.heap.size + 1 by simp] at h2
  exact ⟨_, rfl, h1.next ((Below.refl _ _).alloc (Nat.le_refl _) _), h2, ((Below.refl _ _).alloc (Nat.le_refl _) _).alloc (by simp) _⟩
set_option maxHeartbeats 1000000 in
theorem Rfull_any (s : Int) (u : Value) (a : Option Addr) (n c : Nat) (W : World) : Calls Try.prog 65 #[.agg #[.int .i64 s, u], .slice a n c] W fun e w' => ∃ s' v e2, e = .returned (.tuple #[.agg #[.int .i64 s', v], .int .i64 e2]) ∧ Hid ((4096 < n ∧ s' = 0 ∧ v = .slice none 0 0 ∧ e2 = 5) ∨ (n ≤ 4096 ∧ s' = s ∧ v = .slice a n c ∧ e2 = 0)) ∧ Below W.heap.size W w' ∧ ∀ k, k < W.heap.size → w'.heap[k]? = W.heap[k]? := by
  obtain ⟨w0, HW, hm, hr, hb⟩ := boxesR W s u 33
  have HM := Lib.hid hm; have HR := Lib.hid hr; have HB := Lib.hid hb; have HW' := Lib.hid HW
  have k0 := HM.out.c0; have k1 := HM.out.c1
  have d0 := HR.out.c0; have d1 := HR.out.c1; have d2 := HR.out.f0; have d3 := HR.out.f1
  clear HW hm hr hb
  by_cases hn : 4096 < n
  · have h1 : (n : Int) > 4096 := by omega
    obtain ⟨u0, u1⟩ : _ ∧ _ := ⟨(HR.out.put (.int .i64 0) (.slice none 0 0)).c0, (HR.out.put (.int .i64 0) (.slice none 0 0)).c1⟩
    go_enter Try.func65, Try.ntmps65
    go_upto_region 1 with fail
    rw [← HW'.out]
    go_wp2_with fail
    refine bodyPost_ret (v := .tuple #[.agg #[.int .i64 0, .slice none 0 0], .int .i64 5]) (by simp [results, Try.results65, go_sem, u0, u1]) rfl ?_
    have HBF := below_put HB.out (B := W.heap.size + 1) (by omega) (.int .i64 0) (.slice none 0 0)
    first
    | exact ⟨0, _, 5, rfl, Or.inl ⟨hn, rfl, rfl, rfl⟩, HB.out, HB.out.block⟩
    | exact ⟨0, _, 5, rfl, Or.inl ⟨hn, rfl, rfl, rfl⟩, HBF, HBF.block⟩
  · have h1 : ¬ (n : Int) > 4096 := by omega
    obtain ⟨u0, u1⟩ : _ ∧ _ := ⟨(HR.out.put (.int .i64 s) (.slice a n c)).c0, (HR.out.put (.int .i64 s) (.slice a n c)).c1⟩
    go_enter Try.func65, Try.ntmps65
    go_upto_region 1 with fail
    rw [← HW'.out]
    go_wp2_with fail
    refine bodyPost_ret (v := .tuple #[.agg #[.int .i64 s, .slice a n c], .int .i64 0]) (by simp [results, Try.results65, go_sem, u0, u1]) rfl ?_
    have HBF := below_put HB.out (B := W.heap.size + 1) (by omega) (.int .i64 s) (.slice a n c)
    first
    | exact ⟨s, _, 0, rfl, ⟨by omega, rfl, rfl, rfl⟩, HBF, HBF.block⟩
    | exact ⟨s, _, 0, rfl, Or.inr ⟨by omega, rfl, rfl, rfl⟩, HBF, HBF.block⟩
end Go.Proofs.Ytahgfggcpmnnaaa
