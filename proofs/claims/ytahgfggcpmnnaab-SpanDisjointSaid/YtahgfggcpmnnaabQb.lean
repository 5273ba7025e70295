/- The document's own map: Usable, valid, Tag, full; a box of two values. -/
import Derived.Test.YtahgfggcpmnnaabQa
import Derived.Test.YtahgfggcpmnnaabYw
namespace Go.Proofs.Ytahgfggcpmnnaab
open Go Go.RowKit Gs

/-- a box of two cells -/
structure M2 (B : Nat) (x y : Value) (W' : World) : Prop where
  c0 : W'.cell? ⟨B, 0, none⟩ = some x
  c1 : W'.cell? ⟨B, 1, none⟩ = some y
  f0 : W'.frozen? ⟨B, 0, none⟩ = false
  f1 : W'.frozen? ⟨B, 1, none⟩ = false
  lt : B < W'.heap.size
section
variable {B : Nat} {x y : Value} {W' W2 : World}
theorem M2.next (h : M2 B x y W') (hb : Below W'.heap.size W' W2) : M2 B x y W2 :=
  ⟨(hb.cell (p := ⟨B, 0, none⟩) h.lt).trans h.c0, (hb.cell (p := ⟨B, 1, none⟩) h.lt).trans h.c1, (hb.frozen (p := ⟨B, 0, none⟩) h.lt).trans h.f0, (hb.frozen (p := ⟨B, 1, none⟩) h.lt).trans h.f1, Nat.lt_of_lt_of_le h.lt hb.size⟩
theorem M2.new (W : World) (x y : Value) (Ty : TypeId) : M2 W.heap.size x y (W.alloc (.cells #[x, y] Ty)) :=
  ⟨World.cell?_alloc_at _ _ _ _ rfl, World.cell?_alloc_at _ _ _ _ rfl, World.frozen?_alloc_at _ _ _ _ rfl, World.frozen?_alloc_at _ _ _ _ rfl, by simp⟩
theorem M2.put (h : M2 B x y W') (u v : Value) : M2 B u v ((W'.setCell ⟨B, 0, none⟩ u).setCell ⟨B, 1, none⟩ v) :=
  ⟨(World.cell?_setCell_other _ _ _ _ (by intro e; cases e)).trans (World.cell?_setCell_same _ _ _ h.c0), World.cell?_setCell_same _ _ _ ((World.cell?_setCell_other _ _ _ _ (by intro e; cases e)).trans h.c1),
   (World.frozen?_setCell _ _ _ _).trans ((World.frozen?_setCell _ _ _ _).trans h.f0), (World.frozen?_setCell _ _ _ _).trans ((World.frozen?_setCell _ _ _ _).trans h.f1), by rw [World.size_setCell, World.size_setCell]; exact h.lt⟩
end
/-- the boxes of a map and of a result behind it -/
theorem boxesR (W : World) (s : Int) (v : Value) (Ty : TypeId) : ∃ w0, w0 = (W.alloc (.cells #[.int .i64 s, v] Ty)).alloc (.cells #[.int .i64 0, .slice none 0 0] Ty) ∧ M2 W.heap.size (.int .i64 s) v w0 ∧ M2 (W.heap.size + 1) (.int .i64 0) (.slice none 0 0) w0 ∧ Below W.heap.size W w0 := by
  have h1 := M2.new W (.int .i64 s) v Ty
  have h2 := M2.new (W.alloc (.cells #[.int .i64 s, v] Ty)) (.int .i64 0) (.slice none 0 0) Ty
  rw [show (W.alloc (.cells #[.int .i64 s, v] Ty)).heap.size = W.heap.size + 1 by simp] at h2
  exact ⟨_, rfl, h1.next ((Below.refl _ _).alloc (Nat.le_refl _) _), h2, ((Below.refl _ _).alloc (Nat.le_refl _) _).alloc (by simp) _⟩
end Go.Proofs.Ytahgfggcpmnnaab
