/- The contract of Parse. -/
import Derived.Test.YtfkogbomijonjaaGreatDoorWp
namespace Go.Proofs.YtfkogbomijonjaaGreatDoor
open Go Go.RowKit Gu

theorem isNum_digits {l : List UInt8} (h : isNum l = true) : l.all isDigit = true := by
  unfold isNum at h; simp only [Bool.and_eq_true] at h; exact h.2
theorem isNum_pos {l : List UInt8} (h : isNum l = true) : 0 < l.length := by
  unfold isNum at h; simp only [Bool.and_eq_true] at h
  cases l with
  | nil => simp at h
  | cons a l => simp
end Go.Proofs.YtfkogbomijonjaaGreatDoor
