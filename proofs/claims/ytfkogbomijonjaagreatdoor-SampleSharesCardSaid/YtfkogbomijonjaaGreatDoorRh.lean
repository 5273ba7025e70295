/- The contract of the document's own Raw: the number with given digits. -/
import Derived.Test.YtfkogbomijonjaaGreatDoorRg
namespace Go.Proofs.YtfkogbomijonjaaGreatDoor
open Go Go.RowKit Gu

/-- a slice of digits that came in -/
def IsRaw (w : World) (v : Value) (xs : List Nat) : Prop :=
  Dig 65536 xs ∧ ((xs = [] ∧ ∃ ao c, v = .slice ao 0 c) ∨ ∃ b o c, v = .slice (some ⟨b, o, none⟩) xs.length c ∧ ∀ i (h : i < xs.length), w.cell? ⟨b, o + i, none⟩ = some (.int .u16 (xs[i] : Nat)))
theorem IsRaw.shape {w : World} {v : Value} {xs : List Nat} (h : IsRaw w v xs) : ∃ ao c, v = .slice ao xs.length c ∧ ∀ i (h : i < xs.length), ∃ b o, ao = some ⟨b, o, none⟩ ∧ w.cell? ⟨b, o + i, none⟩ = some (.int .u16 (xs[i] : Nat)) := by
  rcases h.2 with ⟨rfl, ao, c, rfl⟩ | ⟨b, o, c, rfl, hc⟩
  · exact ⟨ao, c, rfl, fun i h => by simp at h⟩
  · exact ⟨_, c, rfl, fun i h => ⟨b, o, rfl, hc i h⟩⟩
/-- the number that the first m digits make -/
def rawN (xs : List Nat) (m : Nat) : Nat := val 65536 (xs.take m)
theorem rawN_lt {xs : List Nat} (h : Dig 65536 xs) {k : Nat} (hk : k ≤ xs.length) : rawN xs k < 65536 ^ k := by
  have := val_lt (h.take k)
  rw [List.length_take, Nat.min_eq_left hk] at this
  exact this
theorem rawN_nd {xs : List Nat} (h : Dig 65536 xs) (m : Nat) : nd 65536 (rawN xs m) ≤ m := by
  apply (nd_le (by decide : 2 ≤ 65536)).2
  have := val_lt (h.take m)
  refine Nat.lt_of_lt_of_le this (Nat.pow_le_pow_right (by decide) ?_)
  rw [List.length_take]; omega
/-- what the loop of Raw keeps -/
def RawRel (xs : List Nat) (w : World) (k : Nat) (v : Value) (wr : World) : Prop :=
  Own .i64 65536 3 wr w.heap.size v k (rawN xs k) ∧ Below w.heap.size w wr
end Go.Proofs.YtfkogbomijonjaaGreatDoor
