/- The contract of readNumeral. -/
import Derived.Test.YtfkogbomijonjaaGreatDoorWo
import Derived.Lib.Strings
import Derived.Lib.IndexBytes
namespace Go.Proofs.YtfkogbomijonjaaGreatDoor
open Go Go.RowKit Gu

/-- how many digits the next group has -/
def grp (n : Nat) : Nat := (n - 1) % 9 + 1
theorem all_sub {l : List UInt8} (h : l.all isDigit = true) (p k : Nat) : ((l.drop p).take k).all isDigit = true := by
  rw [List.all_eq_true] at h ⊢
  intro x hx
  exact h x (List.mem_of_mem_drop (List.mem_of_mem_take hx))
theorem nd_sval {l : List UInt8} (h : l.all isDigit = true) : nd 4294967296 (sval l) ≤ l.length := by
  apply (nd_le (by decide : 2 ≤ 4294967296)).2
  exact Nat.lt_of_lt_of_le (sval_lt l h) (Nat.pow_le_pow_left (by decide) _)
theorem sval_small {l : List UInt8} (h : l.all isDigit = true) (hl : l.length ≤ 9) : sval l < 1000000000 := by
  have h1 := sval_lt l h
  have h2 : 10 ^ l.length ≤ 10 ^ 9 := Nat.pow_le_pow_right (by decide) hl
  exact Nat.lt_of_lt_of_le h1 h2
theorem sval_group {l : List UInt8} {p k : Nat} (h : p = 0 ∨ k = 9) (hl : p + k ≤ l.length) : sval (l.take (p + k)) = sval (l.take p) * 1000000000 + sval ((l.drop p).take k) := by
  rw [List.take_add, sval_append, List.length_take, List.length_drop, Nat.min_eq_left (by omega)]
  rcases h with h | h
  · subst h; simp [sval]
  · subst h; rfl
/-- what the outer loop of readNumeral keeps: p digits are read -/
def ReadRel (l : List UInt8) (w : World) (vW : Value) (t : ByteArray) (v : Value) (wr : World) : Prop :=
  ∃ p, p ≤ l.length ∧ t.data.toList = l.drop p ∧ (p = 0 ∨ (l.length - p) % 9 = 0) ∧ D wr v (sval (l.take p)) ∧ D wr vW 1000000000 ∧ Below w.heap.size w wr
end Go.Proofs.YtfkogbomijonjaaGreatDoor
