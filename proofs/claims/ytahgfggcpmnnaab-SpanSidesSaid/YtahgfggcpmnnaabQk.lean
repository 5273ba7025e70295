/- The contract of the law's do: both maps after one update. -/
import Derived.Test.YtahgfggcpmnnaabQj
import Derived.Test.YtahgfggcpmnnaabZj
namespace Go.Proofs.Ytahgfggcpmnnaab
open Go Go.RowKit Gs

theorem CodeU.below {f : Int → Int} {size : Int} {a : Act} {q : Option Addr} {s2 n2 e2 : Int} {W W' : World} (h : CodeU f size a q s2 n2 e2 W) (hb : Below W.heap.size W W') : CodeU f size a q s2 n2 e2 W' := ⟨h.1.below hb, h.2⟩
theorem CodeU.set {f : Int → Int} {size : Int} {a : Act} {q : Option Addr} {s2 n2 e2 : Int} {W : World} {X i : Nat} {u : Value} (h : CodeU f size a q s2 n2 e2 W) (h22 : W.cell? ⟨X, 22, none⟩ = none) : CodeU f size a q s2 n2 e2 (W.setCell ⟨X, i, none⟩ u) := by
  refine ⟨?_, h.2⟩
  rcases h.1 with g | g | ⟨g1, g2, g3, g4⟩
  · exact .inl g
  · exact .inr (.inl g)
  · exact .inr (.inr ⟨g1, g2, g3, g4.lo, g4.ctx, g4.tr.set h22 u⟩)
theorem DocU.below {f : Int → Int} {size : Int} {a : Act} {L : List R} {B : Nat} {s' : Int} {v' : Value} {k e : Int} {W W' : World} (h : DocU f size a L B s' v' k e W) (hb : Below W.heap.size W W') : DocU f size a L B s' v' k e W' := by
  rcases h with h | ⟨h1, L', h2, h | ⟨g1, g2, g3, g4, g5⟩⟩
  · exact .inl h
  · exact .inr ⟨h1, L', h2, .inl h⟩
  · exact .inr ⟨h1, L', h2, .inr ⟨g1, g2, g3, g4.below hb, g5⟩⟩
/-- the boxes that do lays -/
theorem boxes_do (W : World) (x0 x1 y0 y1 : Value) (zs : List Value) (hz : zs.length ≤ 22) (T1 T2 T3 : TypeId) : ∃ w0, w0 = ((((W.alloc (.cells #[x0, x1] T1)).alloc (.cells #[y0, y1] T2)).alloc (.cells zs.toArray T3)).alloc (.cells #[.pointer none, .int .i64 0] T1)).alloc (.cells #[.int .i64 0, .slice none 0 0] T2) ∧
    Bx W.heap.size [x0, x1] w0 ∧ Bx (W.heap.size + 1) [y0, y1] w0 ∧ Bx (W.heap.size + 1 + 1) zs w0 ∧ Bx (W.heap.size + 1 + 1 + 1) [.pointer none, .int .i64 0] w0 ∧ Bx (W.heap.size + 1 + 1 + 1 + 1) [.int .i64 0, .slice none 0 0] w0 ∧ Below W.heap.size W w0 ∧ w0.heap.size = W.heap.size + 5 := by
  have al : ∀ (X : World) (o : Obj), Below X.heap.size X (X.alloc o) := fun X o => (Below.refl _ _).alloc (Nat.le_refl _) _
  obtain ⟨w1, e1⟩ : ∃ w1, w1 = W.alloc (.cells #[x0, x1] T1) := ⟨_, rfl⟩
  obtain ⟨w2, e2⟩ : ∃ w2, w2 = w1.alloc (.cells #[y0, y1] T2) := ⟨_, rfl⟩
  obtain ⟨w3, e3⟩ : ∃ w3, w3 = w2.alloc (.cells zs.toArray T3) := ⟨_, rfl⟩
  obtain ⟨w4, e4⟩ : ∃ w4, w4 = w3.alloc (.cells #[.pointer none, .int .i64 0] T1) := ⟨_, rfl⟩
  obtain ⟨w5, e5⟩ : ∃ w5, w5 = w4.alloc (.cells #[.int .i64 0, .slice none 0 0] T2) := ⟨_, rfl⟩
  have s1 : w1.heap.size = W.heap.size + 1 := by rw [e1]; simp
  have s2 : w2.heap.size = W.heap.size + 1 + 1 := by rw [e2]; simp [s1]
  have s3 : w3.heap.size = W.heap.size + 1 + 1 + 1 := by rw [e3]; simp [s2]
  have s4 : w4.heap.size = W.heap.size + 1 + 1 + 1 + 1 := by rw [e4]; simp [s3]
  have s5 : w5.heap.size = W.heap.size + 1 + 1 + 1 + 1 + 1 := by rw [e5]; simp [s4]
  have a1 : Below W.heap.size W w1 := by rw [e1]; exact al _ _
  have a2 : Below w1.heap.size w1 w2 := by rw [e2]; exact al _ _
  have a3 : Below w2.heap.size w2 w3 := by rw [e3]; exact al _ _
  have a4 : Below w3.heap.size w3 w4 := by rw [e4]; exact al _ _
  have a5 : Below w4.heap.size w4 w5 := by rw [e5]; exact al _ _
  have n1 : Bx W.heap.size [x0, x1] w1 := by rw [e1]; exact Bx.new W [x0, x1] T1 (by simp)
  have n2 : Bx w1.heap.size [y0, y1] w2 := by rw [e2]; exact Bx.new w1 [y0, y1] T2 (by simp)
  have n3 : Bx w2.heap.size zs w3 := by rw [e3]; exact Bx.new w2 zs T3 hz
  have n4 : Bx w3.heap.size [.pointer none, .int .i64 0] w4 := by rw [e4]; exact Bx.new w3 [.pointer none, .int .i64 0] T1 (by simp)
  have n5 : Bx w4.heap.size [.int .i64 0, .slice none 0 0] w5 := by rw [e5]; exact Bx.new w4 [.int .i64 0, .slice none 0 0] T2 (by simp)
  rw [s1] at n2; rw [s2] at n3; rw [s3] at n4; rw [s4] at n5
  have a45 := a4.trans (a5.mono a4.size)
  have a35 := a3.trans (a45.mono a3.size)
  have a25 := a2.trans (a35.mono a2.size)
  rw [← e1, ← e2, ← e3, ← e4, ← e5]
  exact ⟨w5, rfl, n1.next a25, n2.next a35, n3.next a45, n4.next a5, n5, a1.trans (a25.mono a1.size), s5⟩

end Go.Proofs.Ytahgfggcpmnnaab
