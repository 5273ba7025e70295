/- The contract of the document's own function Sub. -/
import Derived.Test.YtfkogbomijonjaaGreatDoorSb
namespace Go.Proofs.YtfkogbomijonjaaGreatDoor
open Go Go.RowKit Gu

/-- what the loop of Sub keeps: k digits are out, the borrow -/
def SbRel (a b : Nat) (w : World) (k X br : Nat) (v : Value) (wr : World) : Prop :=
  br ≤ 1 ∧ X < 65536 ^ k ∧ X + b % 65536 ^ k = a % 65536 ^ k + 65536 ^ k * br ∧ Own .i64 65536 3 wr w.heap.size v k X ∧ Below w.heap.size w wr
end Go.Proofs.YtfkogbomijonjaaGreatDoor
