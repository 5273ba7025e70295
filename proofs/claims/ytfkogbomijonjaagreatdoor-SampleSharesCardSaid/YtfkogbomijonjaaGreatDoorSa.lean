/- The contracts of the document's own functions on numbers: at, Cmp, Add. -/
import Derived.Test.YtfkogbomijonjaaGreatDoorRh
namespace Go.Proofs.YtfkogbomijonjaaGreatDoor
open Go Go.RowKit Gu

theorem lt_of_div {a b P : Nat} (h : a / P < b / P) : a < b := by
  rcases Nat.lt_or_ge a b with h1 | h1
  · exact h1
  · have := Nat.div_le_div_right (c := P) h1; omega
end Go.Proofs.YtfkogbomijonjaaGreatDoor
