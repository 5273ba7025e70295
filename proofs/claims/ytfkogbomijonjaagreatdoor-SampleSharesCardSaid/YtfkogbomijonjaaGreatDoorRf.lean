/- The contracts of the document's own functions on numbers: Int, power, Bit; and of Int and Bit of a natural number. -/
import Derived.Test.YtfkogbomijonjaaGreatDoorRe
namespace Go.Proofs.YtfkogbomijonjaaGreatDoor
open Go Go.RowKit Gu

/-- a number as an int, and whether it is one -/
def intN (n : Nat) : Nat := if n ≤ 9223372036854775807 then n else 0
def intB (n : Nat) : Bool := decide (n ≤ 9223372036854775807)
theorem nd63 {n : Nat} : nd 2 n ≤ 63 ↔ n ≤ 9223372036854775807 := by
  rw [nd_le (by decide)]; omega
end Go.Proofs.YtfkogbomijonjaaGreatDoor
