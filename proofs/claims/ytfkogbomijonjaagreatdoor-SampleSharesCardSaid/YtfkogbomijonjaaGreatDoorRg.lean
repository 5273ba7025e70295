/- The contracts of the document's own Bit and Raw; Bit of a natural number; the helper made of the laws. -/
import Derived.Test.YtfkogbomijonjaaGreatDoorRf
namespace Go.Proofs.YtfkogbomijonjaaGreatDoor
open Go Go.RowKit Gu

/-- a binary digit, 0 for a negative place -/
def bitN (n : Nat) (i : Int) : Nat := if i < 0 then 0 else dg 2 n i.toNat
theorem lt_ten {n t : Nat} (h : nd 65536 n ≤ 3 * t) : n < 10 ^ (15 * t) := by
  have h1 := (nd_le (by decide : 2 ≤ 65536)).1 h
  rw [Nat.pow_mul] at h1 ⊢
  exact Nat.lt_of_lt_of_le h1 (Nat.pow_le_pow_left (by decide) _)
theorem fit_len {n m : Nat} (h : nd 65536 n ≤ m) : nd 2 n ≤ 16 * m := by
  have h1 := (nd_le (by decide : 2 ≤ 65536)).1 h
  apply (nd_le (by decide : 2 ≤ 2)).2
  rw [Nat.pow_mul]
  exact h1
theorem fit_ok {n : Nat} (h : nd 65536 n ≤ 1024) : nd 2 n ≤ 16384 := fit_len h
theorem nd_32 {n m : Nat} (h : nd 65536 n ≤ m) : nd 4294967296 n ≤ m := by
  have h1 := (nd_le (by decide : 2 ≤ 65536)).1 h
  exact (nd_le (by decide : 2 ≤ 4294967296)).2 (Nat.lt_of_lt_of_le h1 (Nat.pow_le_pow_left (by decide) _))
end Go.Proofs.YtfkogbomijonjaaGreatDoor
