/- How a tree of runs lies in memory. -/
import Derived.Test.YtahgfggcpmnnaaaProg
import Derived.WalkKit
import Derived.Handy
import Derived.Deep.OwnRows
import Derived.Deep.Draws
import Derived.Lib.Hide
import Derived.Test.YtahgfggcpmnnaaaYb
namespace Go.Proofs.Ytahgfggcpmnnaaa
open Go Go.RowKit Gs

theorem bcell {W w1 : World} (hb : Below W.heap.size W w1) : (∀ b o, b < W.heap.size → w1.cell? ⟨b, o, none⟩ = W.cell? ⟨b, o, none⟩) ∧ (∀ b o, b < W.heap.size → w1.frozen? ⟨b, o, none⟩ = W.frozen? ⟨b, o, none⟩) :=
  ⟨fun b o h => hb.cell (p := ⟨b, o, none⟩) h, fun b o h => hb.frozen (p := ⟨b, o, none⟩) h⟩

/-- the cells of a node -/
def nodeF (v : Value) (r : R) (u : Value) (h n : Nat) (c : Nat → Int) : Nat → Value
  | 0 => v
  | 1 => .int .i64 r.lo
  | 2 => .int .i64 r.hi
  | 3 => .int .i64 r.tag
  | 4 => u
  | 5 => .int .i64 h
  | 6 => .int .i64 n
  | k + 7 => .int .i64 (c k)
/-- the value v is the tree t -/
def IsT (W : World) : T → Value → Prop
  | .nil, v => v = .pointer none
  | .node l r k, v => ∃ b x y, v = .pointer (some ⟨b, 0, none⟩) ∧ W.rowIs b 120 23 (nodeF x r y (T.node l r k).tall (T.node l r k).sz fun i => cnt i (T.node l r k).L) ∧ IsT W l x ∧ IsT W k y
theorem IsT.below {W W' : World} (hb : Below W.heap.size W W') : ∀ {t : T} {v : Value}, IsT W t v → IsT W' t v
  | .nil, _, h => h
  | .node _l _r _k, _v, ⟨b, x, y, hv, hr, hl, hk⟩ => ⟨b, x, y, hv, hr.of_block (hb.block b hr.lt), IsT.below hb hl, IsT.below hb hk⟩
theorem IsT.ptr {W : World} {t : T} {v : Value} (h : IsT W t v) : ∃ p, v = .pointer p := by
  cases t with
  | nil => exact ⟨_, h⟩
  | node l r k => obtain ⟨b, x, y, hv, _⟩ := h; exact ⟨_, hv⟩
end Go.Proofs.Ytahgfggcpmnnaaa
