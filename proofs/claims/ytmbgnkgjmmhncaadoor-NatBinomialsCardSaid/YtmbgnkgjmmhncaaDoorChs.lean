/- Binomial coefficients. Of no program. -/
import Derived.Test.YtmbgnkgjmmhncaaDoorNum
namespace Gu

/-- the number of subsets with k elements of a set with n elements -/
def pascalN : Nat → Nat → Nat
  | _, 0 => 1
  | 0, _ + 1 => 0
  | n + 1, k + 1 => pascalN n k + pascalN n (k + 1)
theorem pascalN_zero (n : Nat) : pascalN n 0 = 1 := by cases n <;> rfl
theorem pascalN_succ (n k : Nat) : pascalN (n + 1) (k + 1) = pascalN n k + pascalN n (k + 1) := rfl
theorem pascalN_gt : ∀ {n k : Nat}, n < k → pascalN n k = 0
  | 0, k + 1, _ => rfl
  | n + 1, k + 1, h => by rw [pascalN_succ, pascalN_gt (by omega), pascalN_gt (by omega)]
  | _, 0, h => by omega
theorem pascalN_self : ∀ n : Nat, pascalN n n = 1
  | 0 => rfl
  | n + 1 => by rw [pascalN_succ, pascalN_self n, pascalN_gt (by omega)]
/-- the next coefficient of a row -/
theorem pascalN_next : ∀ n k : Nat, k ≤ n → pascalN n (k + 1) * (k + 1) = pascalN n k * (n - k)
  | 0, 0, _ => rfl
  | n + 1, 0, _ => by
    have h := pascalN_next n 0 (Nat.zero_le _)
    rw [pascalN_zero] at h ⊢
    rw [pascalN_succ, pascalN_zero]
    omega
  | n + 1, k + 1, h => by
    rcases Nat.eq_or_lt_of_le h with h1 | h1
    · have : k = n := by omega
      subst this
      rw [pascalN_gt (by omega)]
      simp
    · have e1 := pascalN_next n k (by omega)
      have e2 := pascalN_next n (k + 1) (by omega)
      have e3 : n + 1 - (k + 1) = (n - (k + 1)) + 1 := by omega
      have e4 : pascalN n (k + 1) * (k + 1 + 1) = pascalN n (k + 1) * (k + 1) + pascalN n (k + 1) := Nat.mul_succ _ _
      have e5 : pascalN n (k + 1) * ((n - (k + 1)) + 1) = pascalN n (k + 1) * (n - (k + 1)) + pascalN n (k + 1) := Nat.mul_succ _ _
      have e6 : n - k = (n - (k + 1)) + 1 := by omega
      rw [e6] at e1
      rw [pascalN_succ n (k + 1), pascalN_succ n k, e3, Nat.add_mul, Nat.add_mul, e2, e4, e5, e1]
      omega
theorem pascalN_div {n k : Nat} (h : k ≤ n) : pascalN n k * (n - k) / (k + 1) = pascalN n (k + 1) := by
  rw [← pascalN_next n k h, Nat.mul_div_cancel _ (by omega)]
theorem pascalN_le : ∀ n k : Nat, pascalN n k ≤ 2 ^ n
  | n, 0 => by rw [pascalN_zero]; exact Nat.pow_pos (by decide)
  | 0, k + 1 => by rw [pascalN_gt (by omega)]; omega
  | n + 1, k + 1 => by
    have h1 := pascalN_le n k
    have h2 := pascalN_le n (k + 1)
    rw [pascalN_succ, Nat.pow_succ]; omega
theorem pascalN_symm : ∀ n k : Nat, k ≤ n → pascalN n k = pascalN n (n - k)
  | 0, 0, _ => rfl
  | n + 1, 0, _ => by rw [pascalN_zero, Nat.sub_zero, pascalN_self]
  | n + 1, k + 1, h => by
    rcases Nat.eq_or_lt_of_le h with h1 | h1
    · have : k = n := by omega
      subst this
      rw [pascalN_self, Nat.sub_self, pascalN_zero]
    · rw [pascalN_succ, show n + 1 - (k + 1) = (n - (k + 1)) + 1 from by omega, pascalN_succ, pascalN_symm n k (by omega), pascalN_symm n (k + 1) (by omega), show n - (k + 1) + 1 = n - k from by omega]
      omega
theorem pascalN_min {n k : Nat} (h : k ≤ n) : pascalN n (min k (n - k)) = pascalN n k := by
  rcases Nat.le_total k (n - k) with h1 | h1
  · rw [Nat.min_eq_left h1]
  · rw [Nat.min_eq_right h1, ← pascalN_symm n k h]
end Gu
