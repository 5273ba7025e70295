/- The contract of the document's own function Mul. -/
import Derived.Test.YtcmancfdlfhgbaaDoorSd
namespace Go.Proofs.YtcmancfdlfhgbaaDoor
open Go Go.RowKit Gu

/-- any digit of a buffer is stored anew -/
theorem Buf.at {k : IntKind} {B : Nat} {T : TypeId} {w : World} {g m V : Nat} (h : Buf k B T w g m V) (hB : 0 < B) (j : Nat) {d : Nat} (hd : d < B) :
    Buf k B T (w.setCell ⟨g, j, none⟩ (.int k d)) g m (V % B ^ j + B ^ j * (d + B * (V / B ^ (j + 1)))) := by
  have e : V = V % B ^ j + B ^ j * (dg B V j + B * (V / B ^ (j + 1))) := by
    rw [← div_succ]; exact (Nat.mod_add_div _ _).symm
  rw [e] at h
  exact Buf.set h hB (Nat.mod_lt _ (Nat.pow_pos hB)) (dg_lt hB _ _) hd
/-- .. and what the number is then -/
theorem at_val {B V j d : Nat} : V % B ^ j + B ^ j * (d + B * (V / B ^ (j + 1))) + B ^ j * dg B V j = V + B ^ j * d := by
  have e : V = V % B ^ j + B ^ j * (dg B V j + B * (V / B ^ (j + 1))) := by
    rw [← div_succ]; exact (Nat.mod_add_div _ _).symm
  have e2 : B ^ j * (d + B * (V / B ^ (j + 1))) = B ^ j * d + B ^ j * (B * (V / B ^ (j + 1))) := Nat.mul_add _ _ _
  have e3 : B ^ j * (dg B V j + B * (V / B ^ (j + 1))) = B ^ j * dg B V j + B ^ j * (B * (V / B ^ (j + 1))) := Nat.mul_add _ _ _
  omega
/-- one round of the inner loop -/
theorem mulr_round {B V c i k P a b d q : Nat} (h : V + B ^ (i + k) * c = P + B ^ i * (a * (b % B ^ k))) (hd : d + B * q = c + dg B V (i + k) + a * dg B b k) :
    (V % B ^ (i + k) + B ^ (i + k) * (d + B * (V / B ^ (i + k + 1)))) + B ^ (i + (k + 1)) * q = P + B ^ i * (a * (b % B ^ (k + 1))) := by
  have e := at_val (B := B) (V := V) (j := i + k) (d := d)
  have e1 : B ^ (i + k) * (d + B * q) = B ^ (i + k) * (c + dg B V (i + k) + a * dg B b k) := by rw [hd]
  rw [mod_succ]
  have e2 : B ^ i * (a * (b % B ^ k + B ^ k * dg B b k)) = B ^ i * (a * (b % B ^ k)) + B ^ (i + k) * (a * dg B b k) := by
    rw [Nat.mul_add a, Nat.mul_add (B ^ i), Nat.pow_add, Nat.mul_assoc (B ^ i), Nat.mul_left_comm a]
  have e3 : B ^ (i + (k + 1)) * q = B ^ (i + k) * (B * q) := by rw [← Nat.add_assoc, Nat.pow_succ, Nat.mul_assoc]
  rw [e2, e3]
  rw [Nat.mul_add, Nat.mul_add, Nat.mul_add] at e1
  omega
/-- what the outer loop keeps -/
def MulRel (a b m : Nat) (w : World) (i : Nat) (wr : World) : Prop :=
  Buf .i64 65536 3 wr w.heap.size m ((a % 65536 ^ i) * b) ∧ Below w.heap.size w wr
/-- what the inner loop keeps -/
def RowIn (a b da m : Nat) (w : World) (i k c : Nat) (wr : World) : Prop :=
  c < 65536 ∧ ∃ V, V + 65536 ^ (i + k) * c = (a % 65536 ^ i) * b + 65536 ^ i * (da * (b % 65536 ^ k)) ∧ Buf .i64 65536 3 wr w.heap.size m V ∧ Below w.heap.size w wr
theorem RowIn.next {a b da m : Nat} {w : World} {i k c q : Nat} {wr : World} {V : Nat} (h1 : V + 65536 ^ (i + k) * c = (a % 65536 ^ i) * b + 65536 ^ i * (da * (b % 65536 ^ k))) (h2 : Buf .i64 65536 3 wr w.heap.size m V) (h3 : Below w.heap.size w wr)
    (hc : c < 65536) (ha : da < 65536) (n : Nat) (ht : q = c + dg 65536 V (i + k) + da * dg 65536 b k) : RowIn a b da m w i (k + 1) (q / 65536) ((wr.drewN n).setCell ⟨w.heap.size, i + k, none⟩ (.int .i64 (q % 65536 : Nat))) := by
  have hv := dg_lt (B := 65536) (by decide) V (i + k)
  have hb := dg_lt (B := 65536) (by decide) b k
  have hm : da * dg 65536 b k ≤ 65535 * 65535 := Nat.mul_le_mul (by omega) (by omega)
  refine ⟨by omega, _, mulr_round h1 (show q % 65536 + 65536 * (q / 65536) = _ by rw [Nat.mod_add_div]; exact ht), Buf.at (w := wr.drewN n) h2 (by decide) _ (Nat.mod_lt _ (by decide)), (below_drewN h3 n).setCell (Nat.le_refl _) _⟩
/-- where the inner loop ends, and that it stays inside the row -/
theorem row_in {a b da m : Nat} {w : World} {i k c : Nat} {wr : World} (h : RowIn a b da m w i k c wr) {lb : Nat} (hb : b < 65536 ^ lb) (hda : da < 65536) (hk : lb ≤ k) (hc : 0 < c) : k = lb := by
  obtain ⟨-, V, hV, -, -⟩ := h
  rcases Nat.lt_or_ge lb k with h1 | h1
  · exfalso
    have h2 : 65536 ^ (i + k) ≤ 65536 ^ (i + k) * c := Nat.le_mul_of_pos_right _ hc
    have h3 : (a % 65536 ^ i) * b ≤ 65536 ^ i * b := Nat.mul_le_mul_right _ (Nat.le_of_lt (Nat.mod_lt _ (Nat.pow_pos (by decide))))
    have h4 : 65536 ^ i * (da * (b % 65536 ^ k)) ≤ 65536 ^ i * (65535 * b) := Nat.mul_le_mul_left _ (Nat.mul_le_mul (by omega) (Nat.mod_le _ _))
    have h5 : 65536 ^ i * (65536 * b) < 65536 ^ i * (65536 * 65536 ^ lb) := Nat.mul_lt_mul_of_pos_left (Nat.mul_lt_mul_of_pos_left hb (by decide)) (Nat.pow_pos (by decide))
    have h6 : 65536 ^ i * (65536 * 65536 ^ lb) ≤ 65536 ^ (i + k) := by
      rw [Nat.mul_comm 65536, ← Nat.pow_succ, ← Nat.pow_add]
      exact Nat.pow_le_pow_right (by decide) (by omega)
    have h7 : 65536 ^ i * (65536 * b) = 65536 ^ i * b + 65536 ^ i * (65535 * b) := by
      rw [← Nat.mul_add]; congr 1; omega
    omega
  · omega
theorem RowIn.done {a b m : Nat} {w : World} {i k : Nat} {wr : World} {lb : Nat} (h : RowIn a b (dg 65536 a i) m w i k 0 wr) (hb : b < 65536 ^ lb) (hk : lb ≤ k) : MulRel a b m w (i + 1) wr := by
  obtain ⟨-, V, hV, h1, h2⟩ := h
  have hbk : b % 65536 ^ k = b := Nat.mod_eq_of_lt (Nat.lt_of_lt_of_le hb (Nat.pow_le_pow_right (by decide) hk))
  rw [hbk, Nat.mul_zero, Nat.add_zero] at hV
  refine ⟨?_, h2⟩
  rw [mod_succ, Nat.add_mul, Nat.mul_assoc, ← hV]
  exact h1
end Go.Proofs.YtcmancfdlfhgbaaDoor
