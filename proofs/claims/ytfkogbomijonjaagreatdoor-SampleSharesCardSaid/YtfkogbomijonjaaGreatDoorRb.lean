/- The contracts of the document's own functions on numbers: Of, BitLen. -/
import Derived.Test.YtfkogbomijonjaaGreatDoorRa
namespace Go.Proofs.YtfkogbomijonjaaGreatDoor
open Go Go.RowKit Gu

theorem nd_le_self16 {n : Nat} (h : n ≤ 9223372036854775807) : nd 65536 n ≤ 4 := (nd_le (by decide)).2 (by omega)
/-- what the loop of Of keeps: k digits are out -/
def OfRel (n : Nat) (w : World) (k : Nat) (v : Value) (wr : World) : Prop :=
  k ≤ nd 65536 n ∧ Own .i64 65536 3 wr w.heap.size v k (n % 65536 ^ k) ∧ Below w.heap.size w wr
end Go.Proofs.YtfkogbomijonjaaGreatDoor
