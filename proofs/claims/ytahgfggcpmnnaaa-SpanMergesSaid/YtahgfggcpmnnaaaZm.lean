/- Equal, where the sizes differ, or the first map has no pieces. -/
import Derived.RangeFuncBox
import Derived.RangeFuncNested
import Derived.Test.YtahgfggcpmnnaaaZl
import Derived.Test.YtahgfggcpmnnaaaYv
namespace Go.Proofs.Ytahgfggcpmnnaaa
open Go Go.RowKit Go.Shelf Gs

attribute [local go_sem] Oper.semAt_some

set_option maxHeartbeats 1000000 in
theorem Equal_ne (p q : Option Addr) (s t : Int) (W : World) (hne : s ≠ t) : Calls Try.prog 32 #[.agg #[.pointer p, .int .i64 s], .agg #[.pointer q, .int .i64 t]] W fun e w' => e = .returned (.bool false) ∧ Below W.heap.size W w' := by
  have hne2 : (s == t) = false := beq_eq_false_iff_ne.2 hne
  have HB : Hid (∀ o o2 o3, Below W.heap.size W (((W.alloc o).alloc o2).alloc o3)) := fun o o2 o3 => (((Below.refl _ _).alloc (Nat.le_refl _) _).alloc (by simp) _).alloc (by simp; omega) _
  refine (callsIn_wide (n := 9)).1 ?_
  refine callsIn_of_wp_marks Try.func32 rfl trivial ?_ rfl
  simp only [Try.ntmps32, List.size_toArray, List.length_cons, List.length_nil, Nat.reduceAdd, Nat.reduceSub, Array.replicate_succ, Array.replicate_zero, List.push_toArray, List.append_toArray, List.nil_append, List.cons_append]
  gi_wp2
  refine ⟨.bool false, by simp [results, Try.results32, go_sem], rfl, HB.out _ _ _⟩
set_option maxRecDepth 100000 in
set_option maxHeartbeats 2000000 in
theorem Equal_un (q : Option Addr) (s : Int) (W : World) : Calls Try.prog 32 #[.agg #[.pointer none, .int .i64 s], .agg #[.pointer q, .int .i64 s]] W fun e w' => e = .returned (.bool true) ∧ Below W.heap.size W w' := by
  obtain ⟨w0, HW⟩ : ∃ w0, w0 = ((W.alloc (.cells #[.pointer none, .int .i64 s] 27)).alloc (.cells #[.pointer q, .int .i64 s] 27)).alloc (.cells #[.bool false] 4) := ⟨_, rfl⟩
  have hsz : w0.heap.size = W.heap.size + 1 + 1 + 1 := by rw [HW]; simp
  have hc : w0.cell? ⟨W.heap.size + 1 + 1, 0, none⟩ = some (.bool false) := by rw [HW]; exact World.cell?_alloc_at _ _ _ _ (by simp)
  have hf : w0.frozen? ⟨W.heap.size + 1 + 1, 0, none⟩ = false := by rw [HW]; exact World.frozen?_alloc_at _ _ _ _ (by simp)
  have hb : Below W.heap.size W w0 := by rw [HW]; exact (((Below.refl _ _).alloc (Nat.le_refl _) _).alloc (by simp) _).alloc (by simp; omega) _
  obtain ⟨w1, HW1⟩ : ∃ w1, w1 = w0.alloc (.cells #[.pointer none, .int .i64 s] 27) := ⟨_, rfl⟩
  have b1 : Below w0.heap.size w0 w1 := by rw [HW1]; exact (Below.refl _ _).alloc (Nat.le_refl _) _
  have e1 : w1.heap.size = w0.heap.size + 1 := by rw [HW1]; simp
  obtain ⟨q0, q1, q2, q3, q4⟩ := seq_cells w1 none 0 s
  have b2 := b1.trans (q4.mono b1.size)
  have hc2 := (b2.cell (p := ⟨W.heap.size + 1 + 1, 0, none⟩) (by show _ + 1 + 1 < _; omega)).trans hc
  have hf2 := (b2.frozen (p := ⟨W.heap.size + 1 + 1, 0, none⟩) (by show _ + 1 + 1 < _; omega)).trans hf
  have hb2 : Below W.heap.size W (seqW w1 none 0 s) := hb.trans (b2.mono hb.size)
  have HAL : Hid (CallsIn Fence.wide 8 Try.prog 58 #[.agg #[.pointer none, .int .i64 s]] w0 fun e w' => e = .returned (seqV w1.heap.size) ∧ w' = seqW w1 none 0 s) := callsIn_wide.2 (by rw [e1, HW1]; exact all_any none s w0)
  have hge : W.heap.size ≤ (seqW w1 none 0 s).heap.size := hb2.size
  have HSQ : Hid _ := seq_nil Fence.wide 8 trivial rfl trivial rfl w1.heap.size W.heap.size 0 s (seqW w1 none 0 s) (by rw [q3]; omega) q0 q1 q2
  have HW' := Lib.hid HW
  rw [hsz] at e1
  rw [e1] at HSQ HAL
  generalize seqW w1 none 0 s = w2 at *
  clear q0 q1 q2 q3 q4 b1 b2 HW hc hf hb HW1 e1 hsz
  refine (callsIn_wide (n := 9)).1 ?_
  refine callsIn_of_wp_marks Try.func32 rfl trivial ?_ rfl
  simp only [Try.ntmps32, List.size_toArray, List.length_cons, List.length_nil, Nat.reduceAdd, Nat.reduceSub, Array.replicate_succ, Array.replicate_zero, List.push_toArray, List.append_toArray, List.nil_append, List.cons_append]
  gi_wp2_with (refine ⟨trivial, ?_⟩; gi_at_call 58; rw [← HW'.out]; refine HAL.out.mono ?_; rintro e w' ⟨rfl, rfl⟩)
  refine wpIn_rangeFunc_ownH rfl (by omega) (gf := 72) (lb := #[.pointer (some ⟨W.heap.size + 1 + 1 + 1 + 1, 0, none⟩), .pointer (some ⟨W.heap.size + 1 + 1 + 1 + 1 + 1, 0, none⟩), .pointer (some ⟨W.heap.size + 1 + 1 + 1 + 1 + 1 + 1, 0, none⟩)]) rfl trivial (enters_of Try.func72 (by kernel_rfl) rfl)
    HSQ.out belowK_t (belowK_b hge) (Below.refl _ _) (fun _ => rfl)
    (fun pre W' => (W'.cell? ⟨W.heap.size + 1 + 1, 0, none⟩ = some (.bool false) ∧ W'.frozen? ⟨W.heap.size + 1 + 1, 0, none⟩ = false) ∧ Below W.heap.size W W')
    (fun _ _ _ => False)
    (OwnFrom.and (Own.from (fun s A B row hs hg hr => ⟨cell_kept hs.1 hg hr, (frozen_kept hs.1 hg hr).trans hs.2⟩) _) (ownFrom_below (Nat.le_refl _) hge))
    (fun _ _ _ _ _ hs _ _ => hs)
    ⟨⟨hc2, hf2⟩, hb2⟩ (fun _ _ _ => True) (fun _ _ _ _ _ _ _ _ _ => trivial) ?assign ?body ?done ?stop
  case assign =>
    rintro l pre ⟨xa, xb, xc⟩ W' K ⟨⟨h1, h2⟩, h3⟩ hK
    unfold encR
    gi_wp2
    exact hK _ _ ((KeepsOthers.alloc _ _).from _) ((Below.refl _ W').alloc h3.size _) ⟨⟨cell_kept h1 (World.grownBy_alloc W' _ none) (fun r e => by cases e), (frozen_kept h1 (World.grownBy_alloc W' _ none) (fun r e => by cases e)).trans h2⟩, h3.alloc h3.size _⟩ trivial
  case body =>
    intro l pre x a' W' _ _ _ _ hlt
    exact absurd hlt (Nat.not_lt_zero _)
  case done =>
    rintro D ys W' hD hys ⟨⟨h1, h2⟩, h3⟩ hK
    gi_wp2
    have hK2 := (KeepsOthers.setCell W' ⟨W.heap.size + 1 + 1, 0, none⟩ (.bool true)).same D _ hK rfl
    have hcell := cell_kept (World.cell?_setCell_same _ _ (.bool true) h1) (grownBy_putObj' _ D (.deferred none)) (fun r e => by cases e; exact ⟨_, hK2, rfl⟩)
    refine ⟨by simp, .inl ⟨_, _, rfl, run_takeDeferred hK2, ?_⟩⟩
    refine ⟨.bool true, by simp [results, Try.results32, go_sem, hcell], rfl, ?_⟩
    exact (h3.setCell (p := ⟨W.heap.size + 1 + 1, 0, none⟩) (by show _ ≤ W.heap.size + 1 + 1; omega) _).trans (belowK_b (w := W) (Nat.le_refl _) _ D _ _ (by omega) hK2 rfl rfl)
  case stop =>
    rintro D c pre W' _ h _
    exact h.elim
end Go.Proofs.Ytahgfggcpmnnaaa
