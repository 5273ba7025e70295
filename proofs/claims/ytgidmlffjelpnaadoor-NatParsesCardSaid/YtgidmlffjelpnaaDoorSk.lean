/- The contract of the document's own Parse. -/
import Derived.Test.YtgidmlffjelpnaaDoorSd
import Derived.Test.YtgidmlffjelpnaaDoorWp
namespace Go.Proofs.YtgidmlffjelpnaaDoor
open Go Go.RowKit Gu

/-- what the inner loop of Parse keeps: k digits of ten times the number, and one decimal digit more -/
def TenRel (N la : Nat) (w : World) (d k X c : Nat) (v : Value) (wr : World) : Prop :=
  c ≤ 10 ∧ k ≤ la + 1 ∧ X < 65536 ^ k ∧ X + 65536 ^ k * c = 10 * (N % 65536 ^ k) + d ∧ (k = la + 1 → c = 0 ∧ 65536 ^ la ≤ X) ∧ Own .i64 65536 3 wr w.heap.size v k X ∧ Below w.heap.size w wr
theorem ten_next {N la d k X c q : Nat} (hN : N < 65536 ^ la) (hk : k ≤ la) (hX : X < 65536 ^ k) (hc : c ≤ 10) (hsum : X + 65536 ^ k * c = 10 * (N % 65536 ^ k) + d) (hq : q = c + 10 * dg 65536 N k) (hcont : k < la ∨ 0 < c) :
    q / 65536 ≤ 10 ∧ X + 65536 ^ k * (q % 65536) < 65536 ^ (k + 1) ∧ (X + 65536 ^ k * (q % 65536)) + 65536 ^ (k + 1) * (q / 65536) = 10 * (N % 65536 ^ (k + 1)) + d ∧ (k + 1 = la + 1 → q / 65536 = 0 ∧ 65536 ^ la ≤ X + 65536 ^ k * (q % 65536)) := by
  have hd := dg_lt (B := 65536) (by decide) N k
  have e := Nat.mod_add_div q 65536
  have hs : (X + 65536 ^ k * (q % 65536)) + 65536 ^ (k + 1) * (q / 65536) = 10 * (N % 65536 ^ (k + 1)) + d := by
    have e1 : 65536 ^ (k + 1) * (q / 65536) = 65536 ^ k * (65536 * (q / 65536)) := by rw [Nat.pow_succ, Nat.mul_assoc]
    have e2 : 65536 ^ k * (q % 65536) + 65536 ^ k * (65536 * (q / 65536)) = 65536 ^ k * q := by rw [← Nat.mul_add, e]
    have e3 : 65536 ^ k * q = 65536 ^ k * c + 10 * (65536 ^ k * dg 65536 N k) := by rw [hq, Nat.mul_add, Nat.mul_left_comm]
    rw [e1, mod_succ, Nat.mul_add]
    omega
  refine ⟨by omega, snoc_lt hX (Nat.mod_lt _ (by decide)), hs, fun h => ?_⟩
  obtain rfl : k = la := by omega
  have hz : dg 65536 N k = 0 := dg_high (by decide) hN (Nat.le_refl _)
  rw [hz] at hq
  have h1 : q = c := by omega
  have hc0 : 0 < c := by omega
  rw [h1]
  refine ⟨by omega, ?_⟩
  rw [Nat.mod_eq_of_lt (show c < 65536 by omega)]
  have : 65536 ^ k * 1 ≤ 65536 ^ k * c := Nat.mul_le_mul_left _ hc0
  omega
theorem ten_len {N la X k : Nat} (hla : nd 65536 N = la) (hX : X < 65536 ^ k) (hle : N ≤ X) (hk : la ≤ k) (h1 : k = la + 1 → 65536 ^ la ≤ X) (hk2 : k ≤ la + 1) : nd 65536 X = k := by
  have h2 : nd 65536 X ≤ k := (nd_le (by decide)).2 hX
  have h3 := nd_mono (B := 65536) (by decide) hle
  rcases Nat.eq_or_lt_of_le hk with h | h
  · omega
  · have hk3 : k = la + 1 := by omega
    have h4 := h1 hk3
    rcases Nat.lt_or_ge (nd 65536 X) k with h5 | h5
    · have h6 : X < 65536 ^ la := (nd_le (by decide)).1 (by omega)
      omega
    · omega
end Go.Proofs.YtgidmlffjelpnaaDoor
