/- The contract of the document's own BitLen. -/
import Derived.Test.YtfkogbomijonjaaGreatDoorRb
namespace Go.Proofs.YtfkogbomijonjaaGreatDoor
open Go Go.RowKit Gu

theorem nd_half {x : Nat} (h : 0 < x) : nd 2 x = nd 2 (x / 2) + 1 := by
  unfold nd; rw [digs_pos (by decide) h]; rfl
theorem bits_16 {n : Nat} (h : 0 < n) : nd 2 n = 16 * (nd 65536 n - 1) + nd 2 (dg 65536 n (nd 65536 n - 1)) := by
  have hB : 2 ≤ 65536 := by decide
  obtain ⟨k, hk⟩ : ∃ k, nd 65536 n = k + 1 := ⟨nd 65536 n - 1, by have := nd_pos hB h; omega⟩
  have ht := dg_top hB h
  rw [hk, Nat.add_sub_cancel] at ht ⊢
  have hl := nd_lt (by decide : 2 ≤ 2) (dg 65536 n k)
  have hp := nd_pow_le (by decide : 2 ≤ 2) ht
  have h0 := nd_pos (by decide : 2 ≤ 2) ht
  generalize hL : nd 2 (dg 65536 n k) = L at *
  obtain ⟨M, rfl⟩ : ∃ M, L = M + 1 := ⟨L - 1, by omega⟩
  rw [Nat.add_sub_cancel] at hp
  have := bits_top (s := 16) (by decide) hk hp hl
  rw [this]; rfl
end Go.Proofs.YtfkogbomijonjaaGreatDoor
