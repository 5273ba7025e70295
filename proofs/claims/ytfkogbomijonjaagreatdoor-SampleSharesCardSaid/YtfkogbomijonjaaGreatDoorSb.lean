/- The contract of the document's own function Add. -/
import Derived.Test.YtfkogbomijonjaaGreatDoorSa
namespace Go.Proofs.YtfkogbomijonjaaGreatDoor
open Go Go.RowKit Gu

/-- what the loop of Add keeps: k digits are out, the carry -/
def AddRel (a b : Nat) (w : World) (k X c : Nat) (v : Value) (wr : World) : Prop :=
  c ≤ 1 ∧ X < 65536 ^ k ∧ X + 65536 ^ k * c = a % 65536 ^ k + b % 65536 ^ k ∧ Own .i64 65536 3 wr w.heap.size v k X ∧ Below w.heap.size w wr
/-- how many digits a sum has -/
theorem sum_top {B a b M : Nat} (hB : 2 ≤ B) (ha : a < B ^ M) (hb : b < B ^ M) : a + b < B ^ (M + 1) := by
  rw [Nat.pow_succ]
  have := Nat.mul_le_mul_left (B ^ M) hB
  omega
theorem add_len {a b la lb k : Nat} (ha : nd 65536 a = la) (hb : nd 65536 b = lb) (hX : a + b < 65536 ^ k) (h1 : la ≤ k) (h2 : lb ≤ k)
    (h : k ≤ la ∨ k ≤ lb ∨ (0 < k ∧ 65536 ^ (k - 1) ≤ a + b)) : nd 65536 (a + b) = k := by
  have hB : 2 ≤ 65536 := by decide
  have hle := (nd_le hB).2 hX
  rcases Nat.eq_or_lt_of_le hle with h3 | h3
  · exact h3
  · exfalso
    have h4 := nd_mono hB (show a ≤ a + b by omega)
    have h5 := nd_mono hB (show b ≤ a + b by omega)
    rcases h with h | h | ⟨h0, h⟩
    · omega
    · omega
    · have := (nd_le hB (n := a + b) (k := k - 1)).1 (by omega)
      omega
end Go.Proofs.YtfkogbomijonjaaGreatDoor
