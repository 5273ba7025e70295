/- Contracts and lemmas (several texts merged into one). -/
import Derived.Test.YthafnhjnlfpifaaDoorBKdp4
import Derived.Test.YthafnhjnlfpifaaDoorBKdp3
namespace Go.Proofs.YthafnhjnlfpifaaDoor
open Go Go.RowKit Gu

theorem cmp_neg (a b : Nat) : cmpN ((b : Nat) : Int) ((a : Nat) : Int) = - cmpN ((a : Nat) : Int) ((b : Nat) : Int) := by
  rcases Nat.lt_trichotomy a b with h | h | h
  · rw [cmpN_gt (by omega), cmpN_lt (by omega)]; decide
  · rw [cmpN_eq (by omega), cmpN_eq (by omega)]; decide
  · rw [cmpN_lt (by omega), cmpN_gt (by omega)]
theorem cmp_le {a b : Nat} : cmpN ((a : Nat) : Int) ((b : Nat) : Int) ≤ 0 ↔ a ≤ b := by
  rcases Nat.lt_trichotomy a b with h | h | h
  · rw [cmpN_lt (by omega)]; simp; omega
  · rw [cmpN_eq (by omega)]; simp; omega
  · rw [cmpN_gt (by omega)]; simp; omega
theorem cmp_zero {a b : Nat} : cmpN ((a : Nat) : Int) ((b : Nat) : Int) = 0 ↔ a = b := by
  rcases Nat.lt_trichotomy a b with h | h | h
  · rw [cmpN_lt (by omega)]; simp; omega
  · rw [cmpN_eq (by omega)]; simp; omega
  · rw [cmpN_gt (by omega)]; simp; omega
theorem cmp_three (a b : Nat) : cmpN ((a : Nat) : Int) ((b : Nat) : Int) = -1 ∨ cmpN ((a : Nat) : Int) ((b : Nat) : Int) = 0 ∨ cmpN ((a : Nat) : Int) ((b : Nat) : Int) = 1 := by
  rcases Nat.lt_trichotomy a b with h | h | h
  · exact .inl (cmpN_lt (by omega))
  · exact .inr (.inl (cmpN_eq (by omega)))
  · exact .inr (.inr (cmpN_gt (by omega)))
/-- a comparison depends on the order alone -/
theorem cmp_same {a b c d : Nat} (h1 : a < b ↔ c < d) (h2 : b < a ↔ d < c) : cmpN ((a : Nat) : Int) ((b : Nat) : Int) = cmpN ((c : Nat) : Int) ((d : Nat) : Int) := by
  rcases Nat.lt_trichotomy a b with h | h | h
  · rw [cmpN_lt (by omega), cmpN_lt (by have := h1.1 h; omega)]
  · have h3 : ¬ a < b := by omega
    have h4 : ¬ b < a := by omega
    rw [h1] at h3; rw [h2] at h4
    rw [cmpN_eq (by omega), cmpN_eq (by omega)]
  · rw [cmpN_gt (by omega), cmpN_gt (by have := h2.1 h; omega)]
theorem cmp_scale {a b k : Nat} (hk : 0 < k) : cmpN ((a * k : Nat) : Int) ((b * k : Nat) : Int) = cmpN ((a : Nat) : Int) ((b : Nat) : Int) :=
  cmp_same (Nat.mul_lt_mul_right hk) (Nat.mul_lt_mul_right hk)
/-- of three fractions -/
theorem frac_trans {P1 Q1 P2 Q2 P3 Q3 : Nat} (h2 : 0 < Q2) (hx : P1 * Q2 ≤ P2 * Q1) (hy : P2 * Q3 ≤ P3 * Q2) : P1 * Q3 ≤ P3 * Q1 := by
  have e1 : P1 * Q2 * Q3 ≤ P2 * Q1 * Q3 := Nat.mul_le_mul_right _ hx
  have e2 : P2 * Q3 * Q1 ≤ P3 * Q2 * Q1 := Nat.mul_le_mul_right _ hy
  have e3 : P2 * Q1 * Q3 = P2 * Q3 * Q1 := Nat.mul_right_comm _ _ _
  have e4 : P1 * Q3 * Q2 ≤ P3 * Q1 * Q2 := by
    rw [Nat.mul_right_comm P1 Q3 Q2, Nat.mul_right_comm P3 Q1 Q2]
    omega
  exact Nat.le_of_mul_le_mul_right e4 h2
theorem low_mul {L M : Nat} : lowP L M * Nat.gcd L M = L ∧ lowQ L M * Nat.gcd L M = M := ⟨Nat.div_mul_cancel (Nat.gcd_dvd_left _ _), Nat.div_mul_cancel (Nat.gcd_dvd_right _ _)⟩
/-- fractions in lowest terms compare as what they were made of -/
theorem cmp_low {L M L' M' : Nat} (hM : 0 < M) (hM' : 0 < M') : cmpN ((lowP L M * lowQ L' M' : Nat) : Int) ((lowP L' M' * lowQ L M : Nat) : Int) = cmpN ((L * M' : Nat) : Int) ((L' * M : Nat) : Int) := by
  obtain ⟨e1, e2⟩ := low_mul (L := L) (M := M)
  obtain ⟨e3, e4⟩ := low_mul (L := L') (M := M')
  have hg : 0 < Nat.gcd L M * Nat.gcd L' M' := Nat.mul_pos (Nat.gcd_pos_of_pos_right _ hM) (Nat.gcd_pos_of_pos_right _ hM')
  rw [← cmp_scale (k := Nat.gcd L M * Nat.gcd L' M') hg]
  have a1 : lowP L M * lowQ L' M' * (Nat.gcd L M * Nat.gcd L' M') = L * M' := by
    rw [Nat.mul_mul_mul_comm, e1, e4]
  have a2 : lowP L' M' * lowQ L M * (Nat.gcd L M * Nat.gcd L' M') = L' * M := by
    rw [Nat.mul_comm (Nat.gcd L M), Nat.mul_mul_mul_comm, e3, e2]
  rw [a1, a2]
/-- a sum with one and the same fraction keeps the order -/
theorem cmp_plus {P1 Q1 P2 Q2 P3 Q3 : Nat} (h3 : 0 < Q3) :
    cmpN (((P1 * Q3 + P3 * Q1) * (Q2 * Q3) : Nat) : Int) (((P2 * Q3 + P3 * Q2) * (Q1 * Q3) : Nat) : Int) = cmpN ((P1 * Q2 : Nat) : Int) ((P2 * Q1 : Nat) : Int) := by
  have hk : 0 < Q3 * Q3 := Nat.mul_pos h3 h3
  rw [← cmp_scale (a := P1 * Q2) (b := P2 * Q1) hk]
  have a1 : (P1 * Q3 + P3 * Q1) * (Q2 * Q3) = P1 * Q2 * (Q3 * Q3) + P3 * Q1 * (Q2 * Q3) := by
    rw [Nat.add_mul, Nat.mul_mul_mul_comm]
  have a2 : (P2 * Q3 + P3 * Q2) * (Q1 * Q3) = P2 * Q1 * (Q3 * Q3) + P3 * Q1 * (Q2 * Q3) := by
    rw [Nat.add_mul, Nat.mul_mul_mul_comm, Nat.mul_mul_mul_comm P3 Q2, Nat.mul_mul_mul_comm P3 Q1]
  rw [a1, a2]
  exact cmp_same (by omega) (by omega)
theorem low_coprime {L M : Nat} (hM : 0 < M) : Nat.gcd (lowP L M) (lowQ L M) = 1 := by
  obtain ⟨e1, e2⟩ := low_mul (L := L) (M := M)
  have h := Nat.gcd_mul_right (lowP L M) (Nat.gcd L M) (lowQ L M)
  rw [e1, e2] at h
  exact Nat.eq_of_mul_eq_mul_right (Nat.gcd_pos_of_pos_right L hM) (by rw [Nat.one_mul]; exact h.symm)
/-- lowest terms are unique -/
theorem low_unique {P Q P' Q' : Nat} (h : Nat.gcd P Q = 1) (h' : Nat.gcd P' Q' = 1) (hQ : 0 < Q) (hQ' : 0 < Q') (he : P * Q' = P' * Q) : P = P' ∧ Q = Q' := by
  have d1 : Q ∣ Q' := by
    have : Q ∣ P * Q' := ⟨P', by rw [he, Nat.mul_comm]⟩
    exact (Nat.Coprime.symm h).dvd_of_dvd_mul_left this
  have d2 : Q' ∣ Q := by
    have : Q' ∣ P' * Q := ⟨P, by rw [← he, Nat.mul_comm]⟩
    exact (Nat.Coprime.symm h').dvd_of_dvd_mul_left this
  have e : Q = Q' := Nat.dvd_antisymm d1 d2
  subst e
  exact ⟨Nat.eq_of_mul_eq_mul_right hQ he, rfl⟩
theorem dec_no_slash (n : Nat) : (47 : UInt8) ∉ Lib.decDigits n := fun h => by
  have := List.all_eq_true.1 (dec_digits n) _ h
  exact absurd this (by decide)
theorem split_slash {a b c d : List UInt8} (ha : (47 : UInt8) ∉ a) (hc : (47 : UInt8) ∉ c) (h : a ++ 47 :: b = c ++ 47 :: d) : a = c ∧ b = d := by
  induction a generalizing c with
  | nil =>
    cases c with
    | nil => simpa using h
    | cons x c => simp at h; exact absurd h.1.symm (by intro e; exact hc (by rw [e]; exact List.mem_cons_self))
  | cons y a ih =>
    cases c with
    | nil => simp at h; exact absurd h.1 (by intro e; exact ha (by rw [← e]; exact List.mem_cons_self))
    | cons x c =>
      simp only [List.cons_append, List.cons.injEq] at h
      obtain ⟨h1, h2⟩ := ih (fun m => ha (List.mem_cons_of_mem _ m)) (fun m => hc (List.mem_cons_of_mem _ m)) h.2
      exact ⟨by rw [h.1, h1], h2⟩
theorem fracText_inj {P Q P' Q' : Nat} (h : fracText P Q = fracText P' Q') : P = P' ∧ Q = Q' := by
  unfold fracText at h
  have no : ∀ {n a b : Nat}, Lib.decDigits n ≠ Lib.decDigits a ++ 47 :: Lib.decDigits b := fun e => dec_no_slash _ (by rw [e]; exact List.mem_append_right _ List.mem_cons_self)
  split at h <;> split at h
  · exact ⟨dec_inj h, by omega⟩
  · exact absurd h no
  · exact absurd h.symm no
  · obtain ⟨h1, h2⟩ := split_slash (dec_no_slash _) (dec_no_slash _) h
    exact ⟨dec_inj h1, dec_inj h2⟩
theorem frac_text_cmp {P Q P' Q' : Nat} (h : Nat.gcd P Q = 1) (h' : Nat.gcd P' Q' = 1) (hQ : 0 < Q) (hQ' : 0 < Q') : (⟨(fracText P Q).toArray⟩ : ByteArray) = ⟨(fracText P' Q').toArray⟩ ↔ cmpN ((P * Q' : Nat) : Int) ((P' * Q : Nat) : Int) = 0 := by
  rw [cmp_zero]
  constructor
  · intro e
    have e1 : (fracText P Q).toArray = (fracText P' Q').toArray := congrArg ByteArray.data e
    have e2 : fracText P Q = fracText P' Q' := by simpa using congrArg Array.toList e1
    obtain ⟨rfl, rfl⟩ := fracText_inj e2
    rfl
  · intro e
    obtain ⟨rfl, rfl⟩ := low_unique h h' hQ hQ' e
    rfl
end Go.Proofs.YthafnhjnlfpifaaDoor
namespace Go.Proofs.YthafnhjnlfpifaaDoor
open Go Go.RowKit Gu

/-- the distance of x/y from p/q, times the product of their denominators -/
def gapN (p q x y : Nat) : Nat := if p * y < x * q then x * q - p * y else p * y - x * q
/-- x/y is the best approximation of p/q with a denominator of at most L -/
def IsBest (p q L x y : Nat) : Prop := 0 < y ∧ y ≤ L ∧ Nat.gcd x y = 1 ∧ ∀ c d, 0 < d → d ≤ L → gapN p q x y * d ≤ gapN p q c d * y ∧ (gapN p q x y * d = gapN p q c d * y → y < d ∨ (y = d ∧ x ≤ c))
/-- there is only one -/
theorem IsBest.unique {p q L x y x' y' : Nat} (h : IsBest p q L x y) (h' : IsBest p q L x' y') : x = x' ∧ y = y' := by
  obtain ⟨a1, a2, a3, a4⟩ := h
  obtain ⟨b1, b2, b3, b4⟩ := h'
  obtain ⟨c1, c2⟩ := a4 x' y' b1 b2
  obtain ⟨d1, d2⟩ := b4 x y a1 a2
  have e : gapN p q x y * y' = gapN p q x' y' * y := by omega
  have e1 := c2 e
  have e2 := d2 e.symm
  omega
/-- what the loop of nearest keeps -/
structure NInv (p q L bn bd ln ld l r : Nat) : Prop where
  e1 : p = ln * l + bn * r
  e2 : q = ld * l + bd * r
  det : ln * bd = bn * ld + 1 ∨ bn * ld = ln * bd + 1
  rp : 0 < r
  st : (ld = 0 ∧ bd = 1 ∧ bn = 0) ∨ (0 < ld ∧ r < l)
  lb : bd ≤ L
  ll : ld ≤ L
theorem NInv.start {p q L : Nat} (hq : L < q) (hL : 1 ≤ L) : NInv p q L 0 1 1 0 p q := ⟨by omega, by omega, .inl (by omega), by omega, .inl ⟨rfl, rfl, rfl⟩, hL, by omega⟩
theorem NInv.whole {p q L bn bd ln ld l r : Nat} (_h : NInv p q L bn bd ln ld l r) : l = l / r * r + l % r := by
  have := Nat.div_add_mod l r
  rw [Nat.mul_comm] at this
  exact this.symm
theorem NInv.sums {p q L bn bd ln ld l r : Nat} (h : NInv p q L bn bd ln ld l r) : p = (bn + l / r * ln) * r + ln * (l % r) ∧ q = (bd + l / r * ld) * r + ld * (l % r) := by
  have hw := h.whole
  have e1 := h.e1
  have e2 := h.e2
  generalize l / r = w at *
  generalize l % r = t at *
  subst hw
  constructor
  · rw [e1]; grind
  · rw [e2]; grind
theorem NInv.bound {p q L bn bd ln ld l r : Nat} (h : NInv p q L bn bd ln ld l r) : bn + l / r * ln ≤ p ∧ bd + l / r * ld ≤ q := by
  obtain ⟨h1, h2⟩ := h.sums
  have hr := h.rp
  refine ⟨?_, ?_⟩
  · exact Nat.le_trans (Nat.le_mul_of_pos_right _ hr) (by omega)
  · exact Nat.le_trans (Nat.le_mul_of_pos_right _ hr) (by omega)
theorem NInv.next {p q L bn bd ln ld l r : Nat} (h : NInv p q L bn bd ln ld l r) (hg : Nat.gcd p q = 1) (hLq : L < q) (hn : bd + l / r * ld ≤ L) : NInv p q L ln ld (bn + l / r * ln) (bd + l / r * ld) r (l % r) := by
  obtain ⟨h1, h2⟩ := h.sums
  have hr := h.rp
  have hlt := Nat.mod_lt l hr
  have hdet := h.det
  have hst := h.st
  have hll := h.ll
  have hw0 : 0 < ld → 0 < l / r := fun h0 => Nat.div_pos (by rcases hst with h3 | h3 <;> omega) hr
  refine ⟨h1, h2, ?_, ?_, .inr ⟨?_, hlt⟩, hll, hn⟩
  · generalize l / r = w at *
    rcases hdet with h3 | h3
    · right; rw [Nat.mul_add, Nat.add_mul]; grind
    · left; rw [Nat.mul_add, Nat.add_mul]; grind
  · rcases Nat.eq_zero_or_pos (l % r) with h0 | h0
    · exfalso
      rw [h0] at h1 h2
      have d1 : r ∣ p := ⟨bn + l / r * ln, by rw [h1]; grind⟩
      have d2 : r ∣ q := ⟨bd + l / r * ld, by rw [h2]; grind⟩
      have d3 : r ∣ 1 := hg ▸ Nat.dvd_gcd d1 d2
      have d4 : r = 1 := Nat.dvd_one.1 d3
      rw [d4] at h2 hn
      rw [Nat.mul_zero, Nat.add_zero, Nat.mul_one] at h2
      omega
    · exact h0
  · rcases hst with ⟨h3, h4, h5⟩ | ⟨h3, h4⟩
    · omega
    · have := hw0 h3
      have : 1 * ld ≤ l / r * ld := Nat.mul_le_mul_right _ this
      omega
/-- a fraction strictly between two neighbors has a denominator of at least the sum of theirs -/
theorem between {on od ln ld c d : Nat} (hdet : ln * od = on * ld + 1) (h1 : on * d < c * od) (h2 : c * ld < ln * d) : od + ld ≤ d := by
  obtain ⟨x, hx⟩ : ∃ x, c * od = on * d + 1 + x := ⟨c * od - (on * d + 1), by omega⟩
  obtain ⟨y, hy⟩ : ∃ y, ln * d = c * ld + 1 + y := ⟨ln * d - (c * ld + 1), by omega⟩
  have e1 : od * (ln * d) = od * (c * ld) + od + od * y := by rw [hy]; grind
  have e2 : ld * (c * od) = ld * (on * d) + ld + ld * x := by rw [hx]; grind
  have e3 : od * (ln * d) = (ln * od) * d := by grind
  have e4 : ld * (on * d) = (on * ld) * d := by grind
  have e5 : ld * (c * od) = od * (c * ld) := by grind
  rw [hdet] at e3
  have e6 : (on * ld + 1) * d = on * ld * d + d := by grind
  omega
/-- what is on the far side of a neighbor is no nearer, and as near only if it is the neighbor -/
theorem beyond {p q x y g c d : Nat} (hx : x * q = p * y + g) (hy : 0 < y) (h : x * d ≤ c * y) : g * d ≤ gapN p q c d * y ∧ (g * d = gapN p q c d * y → 0 < q → x * d = c * y) := by
  -- (c q - p d) y = c y q - p y d ≥ x d q - p y d = d g
  have e1 : x * d * q ≤ c * y * q := Nat.mul_le_mul_right _ h
  have e2 : x * d * q = p * y * d + g * d := by
    have : x * d * q = x * q * d := by grind
    rw [this, hx]; grind
  have hpd : p * d ≤ c * q := by
    apply Nat.le_of_mul_le_mul_right (c := y) _ hy
    have e3 : p * d * y = p * y * d := by grind
    have e4 : c * q * y = c * y * q := by grind
    rw [e3, e4]; omega
  have hgap : gapN p q c d = c * q - p * d := by
    unfold gapN
    split
    · rfl
    · omega
  rw [hgap, Nat.sub_mul]
  have e3 : p * d * y = p * y * d := by grind
  have e4 : c * q * y = c * y * q := by grind
  rw [e3, e4]
  refine ⟨by omega, fun he hq => ?_⟩
  have : x * d * q = c * y * q := by omega
  exact Nat.eq_of_mul_eq_mul_right hq this
theorem beneath {p q x y g c d : Nat} (hx : p * y = x * q + g) (hy : 0 < y) (h : c * y ≤ x * d) : g * d ≤ gapN p q c d * y ∧ (g * d = gapN p q c d * y → 0 < q → x * d = c * y) := by
  have e1 : c * y * q ≤ x * d * q := Nat.mul_le_mul_right _ h
  have e2 : p * y * d = x * d * q + g * d := by
    rw [hx]; grind
  have hpd : c * q ≤ p * d := by
    apply Nat.le_of_mul_le_mul_right (c := y) _ hy
    have e3 : p * d * y = p * y * d := by grind
    have e4 : c * q * y = c * y * q := by grind
    rw [e3, e4]; omega
  have hgap : gapN p q c d = p * d - c * q := by
    unfold gapN
    split
    · omega
    · rfl
  rw [hgap, Nat.sub_mul]
  have e3 : p * d * y = p * y * d := by grind
  have e4 : c * q * y = c * y * q := by grind
  rw [e3, e4]
  refine ⟨by omega, fun he hq => ?_⟩
  have : x * d * q = c * y * q := by omega
  exact Nat.eq_of_mul_eq_mul_right hq this
theorem gap_up {p q x y g : Nat} (h : x * q = p * y + g) : gapN p q x y = g := by unfold gapN; split <;> omega
theorem gap_dn {p q x y g : Nat} (h : p * y = x * q + g) : gapN p q x y = g := by unfold gapN; split <;> omega
theorem same_frac {x y c d : Nat} (hg : Nat.gcd x y = 1) (hy : 0 < y) (hd : 0 < d) (h : x * d = c * y) : y ≤ d ∧ (y = d → x = c) := by
  have h1 : y ∣ x * d := ⟨c, by rw [h, Nat.mul_comm]⟩
  have h2 : y ∣ d := (Nat.Coprime.symm hg).dvd_of_dvd_mul_left h1
  refine ⟨Nat.le_of_dvd hd h2, fun e => ?_⟩
  subst e
  exact Nat.eq_of_mul_eq_mul_right hy h
theorem det_gcd {a b c d : Nat} (h : a * d = c * b + 1) : Nat.gcd a b = 1 ∧ Nat.gcd c d = 1 := by
  refine ⟨?_, ?_⟩
  · apply Nat.dvd_one.1
    have h1 : Nat.gcd a b ∣ a * d := Nat.dvd_trans (Nat.gcd_dvd_left a b) (Nat.dvd_mul_right a d)
    have h2 : Nat.gcd a b ∣ c * b := Nat.dvd_trans (Nat.gcd_dvd_right a b) (Nat.dvd_mul_left b c)
    rw [h] at h1
    exact (Nat.dvd_add_right h2).1 h1
  · apply Nat.dvd_one.1
    have h1 : Nat.gcd c d ∣ a * d := Nat.dvd_trans (Nat.gcd_dvd_right c d) (Nat.dvd_mul_left d a)
    have h2 : Nat.gcd c d ∣ c * b := Nat.dvd_trans (Nat.gcd_dvd_left c d) (Nat.dvd_mul_right c b)
    rw [h] at h1
    exact (Nat.dvd_add_right h2).1 h1
/-- the two neighbors of p/q among the fractions with a denominator of at most L: the lower one, and the upper one; the nearer one is the best, if a tie is decided rightly -/
theorem best_of_two {p q L x y g u v k : Nat} (hq : 0 < q) (hy : 0 < y) (hv : 0 < v) (hyL : y ≤ L) (hvL : v ≤ L) (hsum : L < y + v) (lo : p * y = x * q + g) (hi : u * q = p * v + k) (hdet : u * y = x * v + 1) :
    (g * v < k * y → IsBest p q L x y) ∧ (k * y < g * v → IsBest p q L u v) ∧ (g * v = k * y → y ≤ v → IsBest p q L x y) ∧ (g * v = k * y → v < y → IsBest p q L u v) := by
  obtain ⟨gu, gx⟩ := det_gcd hdet
  have ex : gapN p q x y = g := gap_dn lo
  have eu : gapN p q u v = k := gap_up hi
  have side : ∀ c d, 0 < d → d ≤ L → c * y ≤ x * d ∨ u * d ≤ c * v := fun c d hd hdL => by
    rcases Nat.lt_or_ge (x * d) (c * y) with h1 | h1
    · rcases Nat.lt_or_ge (c * v) (u * d) with h2 | h2
      · have := between hdet h1 h2; omega
      · exact .inr h2
    · exact .inl h1
  have scale : ∀ {a b c d e f : Nat}, 0 < e → a * e ≤ b * f → b * c ≤ d * e → a * c ≤ d * f := by
    intro a b c d e f he h1 h2
    apply Nat.le_of_mul_le_mul_right (c := e) _ he
    have h3 : a * e * c ≤ b * f * c := Nat.mul_le_mul_right _ h1
    have h4 : b * c * f ≤ d * e * f := Nat.mul_le_mul_right _ h2
    have e1 : a * c * e = a * e * c := by grind
    have e2 : b * f * c = b * c * f := by grind
    have e3 : d * f * e = d * e * f := by grind
    omega
  have scale_lt : ∀ {a b c d e f : Nat}, 0 < e → 0 < c → a * e < b * f → b * c ≤ d * e → a * c < d * f := by
    intro a b c d e f he hc h1 h2
    apply Nat.lt_of_mul_lt_mul_right (a := e)
    have h3 : a * e * c < b * f * c := Nat.mul_lt_mul_of_pos_right h1 hc
    have h4 : b * c * f ≤ d * e * f := Nat.mul_le_mul_right _ h2
    have e1 : a * c * e = a * e * c := by grind
    have e2 : b * f * c = b * c * f := by grind
    have e3 : d * f * e = d * e * f := by grind
    omega
  have low : (g * v < k * y ∨ (g * v = k * y ∧ y ≤ v)) → IsBest p q L x y := fun hc => by
    refine ⟨hy, hyL, gx, fun c d hd hdL => ?_⟩
    rw [ex]
    rcases side c d hd hdL with h | h
    · obtain ⟨h1, h2⟩ := beneath lo hy h
      refine ⟨h1, fun he => ?_⟩
      obtain ⟨h3, h4⟩ := same_frac gx hy hd (h2 he hq)
      rcases Nat.lt_or_ge y d with h5 | h5
      · exact .inl h5
      · exact .inr ⟨by omega, Nat.le_of_eq (h4 (by omega))⟩
    · obtain ⟨h1, h2⟩ := beyond hi hv h
      rcases hc with hc | ⟨hc, hyv⟩
      · have h5 := scale_lt hv hd hc h1
        exact ⟨Nat.le_of_lt h5, fun he => by omega⟩
      · have h5 := scale hv (Nat.le_of_eq hc) h1
        refine ⟨h5, fun he => ?_⟩
        -- equal: c/d is the upper neighbor
        have h6 : k * d = gapN p q c d * v := by
          apply Nat.eq_of_mul_eq_mul_right hy
          have e1 : k * d * y = (k * y) * d := by grind
          have e2 : gapN p q c d * v * y = (gapN p q c d * y) * v := by grind
          rw [e1, e2, ← hc, ← he]; grind
        obtain ⟨h7, h8⟩ := same_frac gu hv hd (h2 h6 hq)
        rcases Nat.lt_or_ge y d with h9 | h9
        · exact .inl h9
        · have hyd : y = d := by omega
          have hvd : v = d := by omega
          refine .inr ⟨hyd, ?_⟩
          have h10 := h8 hvd
          have h11 : x * v < u * y := by omega
          rw [hvd, hyd] at h11
          have := Nat.lt_of_mul_lt_mul_right h11
          omega
  have upp : (k * y < g * v ∨ (g * v = k * y ∧ v < y)) → IsBest p q L u v := fun hc => by
    refine ⟨hv, hvL, gu, fun c d hd hdL => ?_⟩
    rw [eu]
    rcases side c d hd hdL with h | h
    · obtain ⟨h1, h2⟩ := beneath lo hy h
      rcases hc with hc | ⟨hc, hyv⟩
      · have h5 := scale_lt hy hd hc h1
        exact ⟨Nat.le_of_lt h5, fun he => by omega⟩
      · have h5 := scale hy (Nat.le_of_eq hc.symm) h1
        refine ⟨h5, fun he => ?_⟩
        have h6 : g * d = gapN p q c d * y := by
          apply Nat.eq_of_mul_eq_mul_right hv
          have e1 : g * d * v = (g * v) * d := by grind
          have e2 : gapN p q c d * y * v = (gapN p q c d * v) * y := by grind
          rw [e1, e2, hc, ← he]; grind
        obtain ⟨h7, h8⟩ := same_frac gx hy hd (h2 h6 hq)
        exact .inl (by omega)
    · obtain ⟨h1, h2⟩ := beyond hi hv h
      refine ⟨h1, fun he => ?_⟩
      obtain ⟨h3, h4⟩ := same_frac gu hv hd (h2 he hq)
      rcases Nat.lt_or_ge v d with h5 | h5
      · exact .inl h5
      · exact .inr ⟨by omega, Nat.le_of_eq (h4 (by omega))⟩
  exact ⟨fun h => low (.inl h), fun h => upp (.inl h), fun h h' => low (.inr ⟨h, h'⟩), fun h h' => upp (.inr ⟨h, h'⟩)⟩
/-- where the loop ends: the last convergent and the one on the other side; what is chosen is the best -/
theorem NInv.best {p q L bn bd ln ld l r : Nat} (h : NInv p q L bn bd ln ld l r) (hL : 1 ≤ L) (hb : L < bd + l / r * ld) :
    0 < ld ∧ bd ≤ L ∧ IsBest p q L (if gapN p q (bn + (L - bd) / ld * ln) (bd + (L - bd) / ld * ld) * ld < gapN p q ln ld * (bd + (L - bd) / ld * ld) then bn + (L - bd) / ld * ln else ln)
      (if gapN p q (bn + (L - bd) / ld * ln) (bd + (L - bd) / ld * ld) * ld < gapN p q ln ld * (bd + (L - bd) / ld * ld) then bd + (L - bd) / ld * ld else ld) := by
  have hld : 0 < ld ∧ r < l := by
    rcases h.st with ⟨h1, h2, h3⟩ | h1
    · rw [h1, h2] at hb; omega
    · exact h1
  obtain ⟨hld, hrl⟩ := hld
  have hlb := h.lb
  have hll := h.ll
  have hr := h.rp
  refine ⟨hld, hlb, ?_⟩
  have hs1 : (L - bd) / ld * ld ≤ L - bd := Nat.div_mul_le_self _ _
  have hs2 : L - bd < (L - bd) / ld * ld + ld := by
    have := Nat.lt_div_mul_add (a := L - bd) hld
    omega
  have hsw : (L - bd) / ld < l / r := by
    rcases Nat.lt_or_ge ((L - bd) / ld) (l / r) with h1 | h1
    · exact h1
    · have := Nat.mul_le_mul_right ld h1
      omega
  generalize (L - bd) / ld = t at *
  have hR : t * r + r ≤ l := by
    have h1 : (t + 1) * r ≤ l / r * r := Nat.mul_le_mul_right _ hsw
    have h2 := Nat.div_mul_le_self l r
    have h3 : (t + 1) * r = t * r + r := by grind
    omega
  obtain ⟨R, hRe⟩ : ∃ R, l = t * r + R := ⟨l - t * r, by omega⟩
  have hRr : r ≤ R := by omega
  have e1 := h.e1
  have e2 := h.e2
  have hq : 0 < q := by
    rw [e2]
    have : 0 < ld * l := Nat.mul_pos hld (by omega)
    omega
  have od0 : 0 < bd + t * ld := by omega
  have odL : bd + t * ld ≤ L := by omega
  have hsum : L < bd + t * ld + ld := by omega
  rcases h.det with hd | hd
  · -- the last one is above, the other one below
    have hi : ln * q = p * ld + r := by
      rw [e1, e2]
      have : ln * (ld * l + bd * r) = ln * ld * l + (ln * bd) * r := by grind
      rw [this, hd]; grind
    have lo : p * (bd + t * ld) = (bn + t * ln) * q + R := by
      rw [e1, e2, hRe]
      have a1 : (ln * (t * r + R) + bn * r) * (bd + t * ld) = (ln * bd) * (t * r + R) + bn * bd * r + t * (ln * ld * (t * r + R) + bn * ld * r) := by grind
      have a2 : (bn + t * ln) * (ld * (t * r + R) + bd * r) + R = (bn * ld) * (t * r + R) + bn * bd * r + t * (ln * ld * (t * r + R) + (ln * bd) * r) + R := by grind
      rw [a1, a2, hd]; grind
    have hdet : ln * (bd + t * ld) = (bn + t * ln) * ld + 1 := by
      have : ln * (bd + t * ld) = ln * bd + t * ln * ld := by grind
      rw [this, hd]; grind
    obtain ⟨b1, b2, b3, b4⟩ := best_of_two hq od0 hld odL hll hsum lo hi hdet
    rw [gap_dn lo, gap_up hi]
    split
    · next hc => exact b1 hc
    · next hc =>
      rcases Nat.lt_or_ge (r * (bd + t * ld)) (R * ld) with h1 | h1
      · exact b2 h1
      · have he : R * ld = r * (bd + t * ld) := by omega
        rcases Nat.lt_or_ge ld (bd + t * ld) with h2 | h2
        · exact b4 he h2
        · exfalso
          -- ld = bd + t ld, as R ≥ r
          have h3 : r * ld ≤ R * ld := Nat.mul_le_mul_right _ hRr
          have h4 : bd + t * ld = ld := by
            have : r * ld ≤ r * (bd + t * ld) := by omega
            have := Nat.le_of_mul_le_mul_left this hr
            omega
          rw [h4] at he
          have h5 : R = r := Nat.eq_of_mul_eq_mul_right hld he
          have ht : 0 < t := by
            rcases Nat.eq_zero_or_pos t with h6 | h6
            · subst h6; omega
            · exact h6
          have h6 : 1 * ld ≤ t * ld := Nat.mul_le_mul_right _ ht
          have h7 : bd = 0 := by omega
          rw [h7] at hd
          omega
  · have lo : p * ld = ln * q + r := by
      rw [e1, e2]
      have a1 : (ln * l + bn * r) * ld = ln * ld * l + (bn * ld) * r := by grind
      rw [a1, hd]; grind
    have hi : (bn + t * ln) * q = p * (bd + t * ld) + R := by
      rw [e1, e2, hRe]
      have a1 : (ln * (t * r + R) + bn * r) * (bd + t * ld) + R = (ln * bd) * (t * r + R) + bn * bd * r + t * (ln * ld * (t * r + R) + (bn * ld) * r) + R := by grind
      have a2 : (bn + t * ln) * (ld * (t * r + R) + bd * r) = (bn * ld) * (t * r + R) + bn * bd * r + t * (ln * ld * (t * r + R) + (ln * bd) * r) := by grind
      rw [a1, a2, hd]; grind
    have hdet : (bn + t * ln) * ld = ln * (bd + t * ld) + 1 := by
      have : (bn + t * ln) * ld = bn * ld + t * ln * ld := by grind
      rw [this, hd]; grind
    obtain ⟨b1, b2, b3, b4⟩ := best_of_two hq hld od0 hll odL (by omega) lo hi hdet
    rw [gap_up hi, gap_dn lo]
    split
    · next hc => exact b2 hc
    · next hc =>
      rcases Nat.lt_or_ge (r * (bd + t * ld)) (R * ld) with h1 | h1
      · exact b1 h1
      · have he : r * (bd + t * ld) = R * ld := by omega
        have h3 : r * ld ≤ R * ld := Nat.mul_le_mul_right _ hRr
        refine b3 he ?_
        have : r * ld ≤ r * (bd + t * ld) := by omega
        exact Nat.le_of_mul_le_mul_left this hr
end Go.Proofs.YthafnhjnlfpifaaDoor
namespace Go.Proofs.YthafnhjnlfpifaaDoor
open Go Go.RowKit Gu

/-- boxes (block, offset, value), the program's numbers, the document's numbers -/
structure Kq (cs : List (Nat × Nat × Value)) (ns rs : List (Value × Nat)) (w W : World) : Prop where
  num : ∀ p ∈ ns, D W p.1 p.2
  dig : ∀ p ∈ rs, R W p.1 p.2
  box : ∀ p ∈ cs, p.1 < W.heap.size ∧ W.cell? ⟨p.1, p.2.1, none⟩ = some p.2.2
  env : Env W
  bel : Below w.heap.size w W
section
variable {cs : List (Nat × Nat × Value)} {ns rs : List (Value × Nat)} {w W W' : World}
theorem Kq.start (he : Env w) : Kq [] [] [] w w := ⟨fun _ h => by simp at h, fun _ h => by simp at h, fun _ h => by simp at h, he, Below.refl _ _⟩
theorem Kq.next (h : Kq cs ns rs w W) (hb : Below W.heap.size W W') : Kq cs ns rs w W' :=
  ⟨fun p hp => (h.num p hp).below hb, fun p hp => (h.dig p hp).below hb, fun p hp => ⟨Nat.lt_of_lt_of_le (h.box p hp).1 hb.size, (hb.cell (p := ⟨p.1, p.2.1, none⟩) (h.box p hp).1).trans (h.box p hp).2⟩, h.env.below hb, h.bel.trans (hb.mono h.bel.size)⟩
theorem Kq.drewN (h : Kq cs ns rs w W) (q : Nat) : Kq cs ns rs w (W.drewN q) := h.next (below_drewN (Below.refl _ _) q)
theorem Kq.drew (h : Kq cs ns rs w W) : Kq cs ns rs w W.drew := h.next (Below.refl _ _).drew
theorem Kq.addNum (h : Kq cs ns rs w W) {v : Value} {n : Nat} (hv : D W v n) : Kq cs ((v, n) :: ns) rs w W :=
  ⟨fun p hp => by
    rcases List.mem_cons.1 hp with rfl | hp
    · exact hv
    · exact h.num p hp, h.dig, h.box, h.env, h.bel⟩
theorem Kq.addDig (h : Kq cs ns rs w W) {v : Value} {n : Nat} (hv : R W v n) : Kq cs ns ((v, n) :: rs) w W :=
  ⟨h.num, fun p hp => by
    rcases List.mem_cons.1 hp with rfl | hp
    · exact hv
    · exact h.dig p hp, h.box, h.env, h.bel⟩
theorem Kq.alloc (h : Kq cs ns rs w W) (o : Obj) : Kq cs ns rs w (W.alloc o) := h.next ((Below.refl _ _).alloc (Nat.le_refl _) _)
theorem Kq.addBox (h : Kq cs ns rs w W) {b o : Nat} {v : Value} (h1 : b < W.heap.size) (h2 : W.cell? ⟨b, o, none⟩ = some v) : Kq ((b, o, v) :: cs) ns rs w W :=
  ⟨h.num, h.dig, fun p hp => by
    rcases List.mem_cons.1 hp with rfl | hp
    · exact ⟨h1, h2⟩
    · exact h.box p hp, h.env, h.bel⟩
/-- a variable gets its box -/
theorem Kq.boxed (h : Kq cs ns rs w W) (v : Value) (T : TypeId) : Kq ((W.heap.size, 0, v) :: cs) ns rs w (W.alloc (.cells #[v] T)) :=
  (h.alloc _).addBox (by simp) (World.cell?_alloc_at _ _ _ _ rfl)
theorem Kq.boxed2 (h : Kq cs ns rs w W) (v u : Value) (T : TypeId) : Kq ((W.heap.size, 1, u) :: (W.heap.size, 0, v) :: cs) ns rs w (W.alloc (.cells #[v, u] T)) :=
  ((h.alloc _).addBox (by simp) (World.cell?_alloc_at _ _ _ _ rfl)).addBox (by simp) (World.cell?_alloc_at _ _ _ _ rfl)
theorem Kq.cell (h : Kq cs ns rs w W) {g o : Nat} {v : Value} (hm : (g, o, v) ∈ cs) : W.cell? ⟨g, o, none⟩ = some v := (h.box _ hm).2
theorem awake_Q (h : Kq cs ns rs w W) : Calls Tryd.prog 19 #[] W fun e w' => e = .returned (.bool true) ∧ Kq cs ns rs w w' :=
  (awake_any W h.env).mono fun _ _ ⟨he, hB⟩ => ⟨he, h.next hB⟩
end
end Go.Proofs.YthafnhjnlfpifaaDoor
namespace Go.Proofs.YthafnhjnlfpifaaDoor
open Go Go.RowKit Gu

/-- what a region keeps: numbers, and all that is older than W0 -/
structure Bx (W0 : World) (ns : List (Value × Nat)) (W : World) : Prop where
  n : ∀ p ∈ ns, D W p.1 p.2
  bel : Below W0.heap.size W0 W
theorem Bx.next {W0 W W' : World} {ns : List (Value × Nat)} (h : Bx W0 ns W) (hb : Below W.heap.size W W') : Bx W0 ns W' := ⟨fun p hp => (h.n p hp).below hb, h.bel.trans (hb.mono h.bel.size)⟩
theorem Bx.cell {W0 W : World} {ns : List (Value × Nat)} {k o : Nat} {x : Value} (h : Bx W0 ns W) (hk : k < W0.heap.size) (hc : W0.cell? ⟨k, o, none⟩ = some x) : W.cell? ⟨k, o, none⟩ = some x := (h.bel.cell (p := ⟨k, o, none⟩) hk).trans hc
/-- and a box of two cells for the result, right behind W0 -/
structure Px (W0 : World) (ns : List (Value × Nat)) (W : World) : Prop where
  b : Bx W0 ns W
  lt : W0.heap.size < W.heap.size
  r0 : ∃ o l k, W.cell? ⟨W0.heap.size, 0, none⟩ = some (.slice o l k)
  r1 : ∃ o l k, W.cell? ⟨W0.heap.size, 1, none⟩ = some (.slice o l k)
  z0 : W.frozen? ⟨W0.heap.size, 0, none⟩ = false
  z1 : W.frozen? ⟨W0.heap.size, 1, none⟩ = false
theorem Px.start {W0 : World} {ns : List (Value × Nat)} (h : Bx W0 ns W0) (T : TypeId) : Px W0 ns (W0.alloc (.cells #[.slice none 0 0, .slice none 0 0] T)) :=
  ⟨h.next ((Below.refl _ _).alloc (Nat.le_refl _) _), by simp, ⟨none, 0, 0, World.cell?_alloc_at _ _ _ _ rfl⟩, ⟨none, 0, 0, World.cell?_alloc_at _ _ _ _ rfl⟩, World.frozen?_alloc_at _ _ _ _ rfl, World.frozen?_alloc_at _ _ _ _ rfl⟩
theorem Px.next {W0 W W' : World} {ns : List (Value × Nat)} (h : Px W0 ns W) (hb : Below W.heap.size W W') : Px W0 ns W' := by
  obtain ⟨o0, l0, k0, e0⟩ := h.r0
  obtain ⟨o1, l1, k1, e1⟩ := h.r1
  exact ⟨h.b.next hb, Nat.lt_of_lt_of_le h.lt hb.size, ⟨o0, l0, k0, (hb.cell (p := ⟨W0.heap.size, 0, none⟩) h.lt).trans e0⟩, ⟨o1, l1, k1, (hb.cell (p := ⟨W0.heap.size, 1, none⟩) h.lt).trans e1⟩,
    (hb.frozen (p := ⟨W0.heap.size, 0, none⟩) h.lt).trans h.z0, (hb.frozen (p := ⟨W0.heap.size, 1, none⟩) h.lt).trans h.z1⟩
theorem Px.num {W0 W : World} {ns : List (Value × Nat)} (h : Px W0 ns W) {z : Value} {n : Nat} (hz : D W z n) (ro so : Option Addr) (rl rc sl sc : Nat) : D ((W.setCell ⟨W0.heap.size, 0, none⟩ (.slice ro rl rc)).setCell ⟨W0.heap.size, 1, none⟩ (.slice so sl sc)) z n := by
  obtain ⟨o0, l0, k0, d0⟩ := h.r0
  obtain ⟨o1, l1, k1, d1⟩ := h.r1
  exact IsN_setTwo hz d0 d1 (by intro d e; cases e) (by intro d e; cases e) _ _
theorem Px.set {W0 W : World} {ns : List (Value × Nat)} (h : Px W0 ns W) (ro so : Option Addr) (rl rc sl sc : Nat) : Px W0 ns ((W.setCell ⟨W0.heap.size, 0, none⟩ (.slice ro rl rc)).setCell ⟨W0.heap.size, 1, none⟩ (.slice so sl sc)) := by
  obtain ⟨o0, l0, k0, d0⟩ := h.r0
  obtain ⟨o1, l1, k1, d1⟩ := h.r1
  obtain ⟨t0, t1⟩ := read_two d0 d1 (.slice ro rl rc) (.slice so sl sc)
  refine ⟨⟨fun p hp => h.num (h.b.n p hp) _ _ _ _ _ _, (h.b.bel.setCell (Nat.le_refl _) _).setCell (Nat.le_refl _) _⟩, by rw [World.size_setCell, World.size_setCell]; exact h.lt, ⟨_, _, _, t0⟩, ⟨_, _, _, t1⟩, ?_, ?_⟩
  · have := h.z0; simpa using this
  · have := h.z1; simpa using this
theorem Px.done {W0 W : World} {ns : List (Value × Nat)} (h : Px W0 ns W) {ro so : Option Addr} {rl rc sl sc P Q : Nat} (h1 : D W (.slice ro rl rc) P) (h2 : D W (.slice so sl sc) Q) :
    let W2 := (W.setCell ⟨W0.heap.size, 0, none⟩ (.slice ro rl rc)).setCell ⟨W0.heap.size, 1, none⟩ (.slice so sl sc)
    D W2 (.slice ro rl rc) P ∧ D W2 (.slice so sl sc) Q ∧ W2.cell? ⟨W0.heap.size, 0, none⟩ = some (.slice ro rl rc) ∧ W2.cell? ⟨W0.heap.size, 1, none⟩ = some (.slice so sl sc) ∧ Below W0.heap.size W0 W2 := by
  obtain ⟨o0, l0, k0, d0⟩ := h.r0
  obtain ⟨o1, l1, k1, d1⟩ := h.r1
  obtain ⟨t0, t1⟩ := read_two d0 d1 (.slice ro rl rc) (.slice so sl sc)
  exact ⟨h.num h1 _ _ _ _ _ _, h.num h2 _ _ _ _ _ _, t0, t1, (h.b.bel.setCell (Nat.le_refl _) _).setCell (Nat.le_refl _) _⟩
set_option maxHeartbeats 4000000 in
set_option maxRecDepth 100000 in
theorem gap_any (v u x y : Value) (a b c d : Nat) (w : World) (hv : D w v a) (hu : D w u b) (hx : D w x c) (hy : D w y d) (bv : nd 4294967296 a ≤ 100000) (bu : nd 4294967296 b ≤ 100000) (bx : nd 4294967296 c ≤ 100000) (bY : nd 4294967296 d ≤ 100000) :
    Calls Tryd.prog 81 #[.agg #[v, u], .agg #[x, y]] w fun e w' => ∃ r, e = .returned r ∧ D w' r (gapN a b c d) ∧ Below w.heap.size w w' := by
  obtain ⟨W0, hW0⟩ : ∃ W0 : World, W0 = ((w.alloc (.cells #[v, u] 82)).alloc (.cells #[x, y] 82)) := ⟨_, rfl⟩
  have hz0 : W0.heap.size = w.heap.size + 1 + 1 := by rw [hW0]; simp
  have hbw : Below w.heap.size w W0 := by rw [hW0]; exact ((Below.refl _ _).alloc (Nat.le_refl _) _).alloc (by simp) _
  obtain ⟨ns, hns⟩ : ∃ ns : List (Value × Nat), ns = [(v, a), (u, b), (x, c), (y, d)] := ⟨_, rfl⟩
  have hbx : Bx W0 ns W0 := ⟨fun p hp => by
    rw [hns] at hp
    simp only [List.mem_cons, List.not_mem_nil, or_false] at hp
    rcases hp with rfl | rfl | rfl | rfl
    · exact hv.below hbw
    · exact hu.below hbw
    · exact hx.below hbw
    · exact hy.below hbw, Below.refl _ _⟩
  have mv : (v, a) ∈ ns := by rw [hns]; simp
  have mu : (u, b) ∈ ns := by rw [hns]; simp
  have mx : (x, c) ∈ ns := by rw [hns]; simp
  have my : (y, d) ∈ ns := by rw [hns]; simp
  have c00 : W0.cell? ⟨w.heap.size, 0, none⟩ = some v := by rw [hW0]; exact (World.cell?_alloc_past _ _ _ (by simp <;> omega)).trans (World.cell?_alloc_at _ _ _ _ (by simp))
  have c01 : W0.cell? ⟨w.heap.size, 1, none⟩ = some u := by rw [hW0]; exact (World.cell?_alloc_past _ _ _ (by simp <;> omega)).trans (World.cell?_alloc_at _ _ _ _ (by simp))
  have c10 : W0.cell? ⟨w.heap.size + 1, 0, none⟩ = some x := by rw [hW0]; exact World.cell?_alloc_at _ _ _ _ (by simp)
  have c11 : W0.cell? ⟨w.heap.size + 1, 1, none⟩ = some y := by rw [hW0]; exact World.cell?_alloc_at _ _ _ _ (by simp)
  have g1 := nd_mul bv bY
  have g2 := nd_mul bx bu
  have HM0 : Hid (∀ W, Bx W0 ns W → Calls Tryd.prog 30 #[v, y] W fun e w' => ∃ o l k, e = .returned (.slice o l k) ∧ D w' (.slice o l k) (a * d) ∧ Below W.heap.size W w' ∧ Bx W0 ns w') := fun W h =>
    (product_any v y a d W (h.n _ mv) (h.n _ my) (by omega) (by omega)).mono fun e w' ⟨r, he, hr, hB⟩ => by
      obtain ⟨ro, rc, rfl, -⟩ := hr.shape
      exact ⟨ro, _, rc, he, hr, hB, h.next hB⟩
  have HM1 : Hid (∀ W, Bx W0 ns W → Calls Tryd.prog 30 #[x, u] W fun e w' => ∃ o l k, e = .returned (.slice o l k) ∧ D w' (.slice o l k) (c * b) ∧ Below W.heap.size W w' ∧ Bx W0 ns w') := fun W h =>
    (product_any x u c b W (h.n _ mx) (h.n _ mu) (by omega) (by omega)).mono fun e w' ⟨r, he, hr, hB⟩ => by
      obtain ⟨ro, rc, rfl, -⟩ := hr.shape
      exact ⟨ro, _, rc, he, hr, hB, h.next hB⟩
  have HCC : Hid (∀ W, Bx W0 ns W → W.cell? ⟨w.heap.size, 0, none⟩ = some v ∧ W.cell? ⟨w.heap.size, 1, none⟩ = some u ∧ W.cell? ⟨w.heap.size + 1, 0, none⟩ = some x ∧ W.cell? ⟨w.heap.size + 1, 1, none⟩ = some y) := fun W h => ⟨h.cell (by omega) c00, h.cell (by omega) c01, h.cell (by omega) c10, h.cell (by omega) c11⟩
  have HDF := Lib.hid (fun W p q M N (h1 : D W p M) (h2 : D W q N) (h3 : nd 4294967296 M ≤ 1048576) (h4 : nd 4294967296 N ≤ 1048576) (h5 : N ≤ M) => difference_any p q M N W h1 h2 h3 h4 h5)
  have HBW := Lib.hid hbw; have HW0 := Lib.hid hW0
  obtain ⟨vo, vc, rfl, -⟩ := hv.shape
  obtain ⟨uo, uc, rfl, -⟩ := hu.shape
  obtain ⟨xo, xc, rfl, -⟩ := hx.shape
  obtain ⟨yo, yc, rfl, -⟩ := hy.shape
  have hs2 := hbx.next ((Below.refl _ _).drew)
  have hc0 := HCC.out _ hbx
  have hc2 := HCC.out _ hs2
  clear hv hu hx hy hns hz0 hbw hW0 mv mu mx my c00 c01 c10 c11
  unfold gapN
  generalize a * d = P at *
  generalize c * b = Q at *
  generalize nd 4294967296 a = la at *
  generalize nd 4294967296 b = lb at *
  generalize nd 4294967296 c = lc at *
  generalize nd 4294967296 d = ld at *
  go_enter Tryd.func81, Tryd.ntmps81
  go_wp2_with fail
  rw [← HW0.out]
  go_region_held3 (fun W : World => (W.cell? ⟨w.heap.size, 0, none⟩ = some (.slice vo la vc) ∧ W.cell? ⟨w.heap.size, 1, none⟩ = some (.slice uo lb uc) ∧ W.cell? ⟨w.heap.size + 1, 0, none⟩ = some (.slice xo lc xc) ∧ W.cell? ⟨w.heap.size + 1, 1, none⟩ = some (.slice yo ld yc)) ∧ Bx W0 ns W) (first | (refine And.intro ?_ ?_ <;> assumption) | fail) (first
    | (go_at_call 30; with_reducible refine (HM0.out _ ?h).mono ?_; (case h => assumption); rintro e w' ⟨o1, l1, k1, rfl, hr', hB', hs'⟩; have hc' := HCC.out _ hs')
    | (go_at_call 30; with_reducible refine (HM1.out _ ?h).mono ?_; (case h => assumption); rintro e w' ⟨o2, l2, k2, rfl, hr', hB', hs'⟩; have hc' := HCC.out _ hs') | fail)
  all_goals
    have h1 : D w' (.slice o1 l1 k1) P := by first | assumption | exact dchain (by assumption) (by assumption) | exact dchain (by assumption) (dchain (by assumption) (by assumption)) | exact dchain (by assumption) (dchain (by assumption) (dchain (by assumption) (by assumption))) | fail
    have h2 : D w' (.slice o2 l2 k2) Q := by first | assumption | exact dchain (by assumption) (by assumption) | exact dchain (by assumption) (dchain (by assumption) (by assumption)) | exact dchain (by assumption) (dchain (by assumption) (dchain (by assumption) (by assumption))) | fail
    have hT : Bx W0 ns w' := by assumption
    have HB := Lib.hid (HBW.out.trans (hT.bel.mono HBW.out.size))
    have HCM := Lib.hid (compare_any _ _ P Q w' h1 h2 (by omega) (by omega))
    have H1 := Lib.hid h1; have H2 := Lib.hid h2
    clear h1 h2 hT
    rcases Nat.lt_or_ge P Q with hc | hc
    · rw [cmpN_lt (by omega)] at HCM
      have HIF : Hid ((if P < Q then Q - P else P - Q) = Q - P) := if_pos hc
      go_wp2_with fail
      refine HCM.out.mono ?_
      rintro e w2 ⟨rfl, q, rfl⟩
      go_wp2_with fail
      refine (HDF.out _ _ _ Q P (IsN.drewN H2.out q) (IsN.drewN H1.out q) (by omega) (by omega) (by omega)).mono ?_
      rintro e w3 ⟨r, rfl, hr, hb⟩
      have HR := Lib.hid hr
      have HE := Lib.hid ((below_drewN HB.out q).trans (hb.mono (below_drewN HB.out q).size))
      clear hr hb
      go_wp2
      go_ret
      exact ⟨_, rfl, by first | exact HR.out | (rw [HIF.out]; exact HR.out), HE.out⟩
    · have HIF : Hid ((if P < Q then Q - P else P - Q) = P - Q) := if_neg (by omega)
      have hk : ¬ cmpN ((P : Nat) : Int) ((Q : Nat) : Int) < 0 := by
        rcases Nat.eq_or_lt_of_le hc with h | h
        · rw [cmpN_eq (by omega)]; decide
        · rw [cmpN_gt (by omega)]; decide
      generalize cmpN ((P : Nat) : Int) ((Q : Nat) : Int) = kk at *
      go_wp2_with fail
      refine HCM.out.mono ?_
      rintro e w2 ⟨rfl, q, rfl⟩
      go_wp2_with fail
      refine (HDF.out _ _ _ P Q (IsN.drewN H1.out q) (IsN.drewN H2.out q) (by omega) (by omega) (by omega)).mono ?_
      rintro e w3 ⟨r, rfl, hr, hb⟩
      have HR := Lib.hid hr
      have HE := Lib.hid ((below_drewN HB.out q).trans (hb.mono (below_drewN HB.out q).size))
      clear hr hb
      go_wp2
      go_ret
      exact ⟨_, rfl, by first | exact HR.out | (rw [HIF.out]; exact HR.out), HE.out⟩
set_option maxHeartbeats 4000000 in
set_option maxRecDepth 100000 in
theorem plus_any (v u x y z : Value) (a b c d m : Nat) (w : World) (hv : D w v a) (hu : D w u b) (hx : D w x c) (hy : D w y d) (hz : D w z m) (bv : nd 4294967296 a ≤ 100000) (bu : nd 4294967296 b ≤ 100000) (bx : nd 4294967296 c ≤ 100000) (bY : nd 4294967296 d ≤ 100000) (bz : nd 4294967296 m ≤ 100000) :
    Calls Tryd.prog 65 #[.agg #[v, u], z, .agg #[x, y]] w fun e w' => ∃ r s, e = .returned (.agg #[r, s]) ∧ D w' r (a + m * c) ∧ D w' s (b + m * d) ∧ Below w.heap.size w w' := by
  obtain ⟨W0, hW0⟩ : ∃ W0 : World, W0 = ((w.alloc (.cells #[v, u] 82)).alloc (.cells #[x, y] 82)) := ⟨_, rfl⟩
  have hz0 : W0.heap.size = w.heap.size + 1 + 1 := by rw [hW0]; simp
  have hbw : Below w.heap.size w W0 := by rw [hW0]; exact ((Below.refl _ _).alloc (Nat.le_refl _) _).alloc (by simp) _
  obtain ⟨ns, hns⟩ : ∃ ns : List (Value × Nat), ns = [(v, a), (u, b), (x, c), (y, d), (z, m)] := ⟨_, rfl⟩
  have hbx : Bx W0 ns W0 := ⟨fun p hp => by
    rw [hns] at hp
    simp only [List.mem_cons, List.not_mem_nil, or_false] at hp
    rcases hp with rfl | rfl | rfl | rfl | rfl
    · exact hv.below hbw
    · exact hu.below hbw
    · exact hx.below hbw
    · exact hy.below hbw
    · exact hz.below hbw, Below.refl _ _⟩
  have mv : (v, a) ∈ ns := by rw [hns]; simp
  have mu : (u, b) ∈ ns := by rw [hns]; simp
  have mx : (x, c) ∈ ns := by rw [hns]; simp
  have my : (y, d) ∈ ns := by rw [hns]; simp
  have mz : (z, m) ∈ ns := by rw [hns]; simp
  have c00 : W0.cell? ⟨w.heap.size, 0, none⟩ = some v := by rw [hW0]; exact (World.cell?_alloc_past _ _ _ (by simp <;> omega)).trans (World.cell?_alloc_at _ _ _ _ (by simp))
  have c01 : W0.cell? ⟨w.heap.size, 1, none⟩ = some u := by rw [hW0]; exact (World.cell?_alloc_past _ _ _ (by simp <;> omega)).trans (World.cell?_alloc_at _ _ _ _ (by simp))
  have c10 : W0.cell? ⟨w.heap.size + 1, 0, none⟩ = some x := by rw [hW0]; exact World.cell?_alloc_at _ _ _ _ (by simp)
  have c11 : W0.cell? ⟨w.heap.size + 1, 1, none⟩ = some y := by rw [hW0]; exact World.cell?_alloc_at _ _ _ _ (by simp)
  have g1 := nd_mul bz bx
  have g2 := nd_mul bz bY
  have hpx := Px.start hbx 82
  have HM0 : Hid (∀ W, Px W0 ns W → Calls Tryd.prog 30 #[z, x] W fun e w' => ∃ o l k, e = .returned (.slice o l k) ∧ D w' (.slice o l k) (m * c) ∧ Below W.heap.size W w' ∧ Px W0 ns w') := fun W h =>
    (product_any z x m c W (h.b.n _ mz) (h.b.n _ mx) (by omega) (by omega)).mono fun e w' ⟨r, he, hr, hB⟩ => by
      obtain ⟨ro, rc, rfl, -⟩ := hr.shape
      exact ⟨ro, _, rc, he, hr, hB, h.next hB⟩
  have HM1 : Hid (∀ W, Px W0 ns W → Calls Tryd.prog 30 #[z, y] W fun e w' => ∃ o l k, e = .returned (.slice o l k) ∧ D w' (.slice o l k) (m * d) ∧ Below W.heap.size W w' ∧ Px W0 ns w') := fun W h =>
    (product_any z y m d W (h.b.n _ mz) (h.b.n _ my) (by omega) (by omega)).mono fun e w' ⟨r, he, hr, hB⟩ => by
      obtain ⟨ro, rc, rfl, -⟩ := hr.shape
      exact ⟨ro, _, rc, he, hr, hB, h.next hB⟩
  have HS0 : Hid (∀ W p, Px W0 ns W → D W p (m * c) → Calls Tryd.prog 29 #[v, p] W fun e w' => ∃ o l k, e = .returned (.slice o l k) ∧ D w' (.slice o l k) (a + m * c) ∧ Below W.heap.size W w' ∧ Px W0 ns w') := fun W p h hp =>
    (sum_any v p a _ W (h.b.n _ mv) hp (by omega) (by omega)).mono fun e w' ⟨r, he, hr, hB⟩ => by
      obtain ⟨ro, rc, rfl, -⟩ := hr.shape
      exact ⟨ro, _, rc, he, hr, hB, h.next hB⟩
  have HS1 : Hid (∀ W p, Px W0 ns W → D W p (m * d) → Calls Tryd.prog 29 #[u, p] W fun e w' => ∃ o l k, e = .returned (.slice o l k) ∧ D w' (.slice o l k) (b + m * d) ∧ Below W.heap.size W w' ∧ Px W0 ns w') := fun W p h hp =>
    (sum_any u p b _ W (h.b.n _ mu) hp (by omega) (by omega)).mono fun e w' ⟨r, he, hr, hB⟩ => by
      obtain ⟨ro, rc, rfl, -⟩ := hr.shape
      exact ⟨ro, _, rc, he, hr, hB, h.next hB⟩
  have HCC : Hid (∀ W, Px W0 ns W → W.cell? ⟨w.heap.size, 0, none⟩ = some v ∧ W.cell? ⟨w.heap.size, 1, none⟩ = some u ∧ W.cell? ⟨w.heap.size + 1, 0, none⟩ = some x ∧ W.cell? ⟨w.heap.size + 1, 1, none⟩ = some y) := fun W h => ⟨h.b.cell (by omega) c00, h.b.cell (by omega) c01, h.b.cell (by omega) c10, h.b.cell (by omega) c11⟩
  have HSET : Hid (∀ W o l k o2 l2 k2, Px W0 ns W → (((W.setCell ⟨W0.heap.size, 0, none⟩ (.slice o l k)).setCell ⟨W0.heap.size, 1, none⟩ (.slice o2 l2 k2)).cell? ⟨w.heap.size, 0, none⟩ = some v ∧ ((W.setCell ⟨W0.heap.size, 0, none⟩ (.slice o l k)).setCell ⟨W0.heap.size, 1, none⟩ (.slice o2 l2 k2)).cell? ⟨w.heap.size, 1, none⟩ = some u ∧ ((W.setCell ⟨W0.heap.size, 0, none⟩ (.slice o l k)).setCell ⟨W0.heap.size, 1, none⟩ (.slice o2 l2 k2)).cell? ⟨w.heap.size + 1, 0, none⟩ = some x ∧ ((W.setCell ⟨W0.heap.size, 0, none⟩ (.slice o l k)).setCell ⟨W0.heap.size, 1, none⟩ (.slice o2 l2 k2)).cell? ⟨w.heap.size + 1, 1, none⟩ = some y) ∧ Px W0 ns ((W.setCell ⟨W0.heap.size, 0, none⟩ (.slice o l k)).setCell ⟨W0.heap.size, 1, none⟩ (.slice o2 l2 k2))) := fun W o l k o2 l2 k2 h => ⟨HCC.out _ (h.set o o2 l k l2 k2), h.set o o2 l k l2 k2⟩
  have HRR : Hid (∀ W, Px W0 ns W → (∃ o l k, W.cell? ⟨W0.heap.size, 0, none⟩ = some (.slice o l k)) ∧ (∃ o l k, W.cell? ⟨W0.heap.size, 1, none⟩ = some (.slice o l k)) ∧ W.frozen? ⟨W0.heap.size, 0, none⟩ = false ∧ W.frozen? ⟨W0.heap.size, 1, none⟩ = false) := fun W h => ⟨h.r0, h.r1, h.z0, h.z1⟩
  have HDN : Hid (∀ W ro so rl rc sl sc P Q, Px W0 ns W → D W (.slice ro rl rc) P → D W (.slice so sl sc) Q → D ((W.setCell ⟨W0.heap.size, 0, none⟩ (.slice ro rl rc)).setCell ⟨W0.heap.size, 1, none⟩ (.slice so sl sc)) (.slice ro rl rc) P ∧ D ((W.setCell ⟨W0.heap.size, 0, none⟩ (.slice ro rl rc)).setCell ⟨W0.heap.size, 1, none⟩ (.slice so sl sc)) (.slice so sl sc) Q ∧ ((W.setCell ⟨W0.heap.size, 0, none⟩ (.slice ro rl rc)).setCell ⟨W0.heap.size, 1, none⟩ (.slice so sl sc)).cell? ⟨W0.heap.size, 0, none⟩ = some (.slice ro rl rc) ∧ ((W.setCell ⟨W0.heap.size, 0, none⟩ (.slice ro rl rc)).setCell ⟨W0.heap.size, 1, none⟩ (.slice so sl sc)).cell? ⟨W0.heap.size, 1, none⟩ = some (.slice so sl sc) ∧ Below W0.heap.size W0 ((W.setCell ⟨W0.heap.size, 0, none⟩ (.slice ro rl rc)).setCell ⟨W0.heap.size, 1, none⟩ (.slice so sl sc))) := fun W ro so rl rc sl sc P Q h h1 h2 => h.done h1 h2
  have HBW := Lib.hid hbw; have HW0 := Lib.hid hW0
  obtain ⟨vo, vc, rfl, -⟩ := hv.shape
  obtain ⟨uo, uc, rfl, -⟩ := hu.shape
  obtain ⟨xo, xc, rfl, -⟩ := hx.shape
  obtain ⟨yo, yc, rfl, -⟩ := hy.shape
  obtain ⟨zo, zc, rfl, -⟩ := hz.shape
  have hs2 := hpx.next ((Below.refl _ _).drew)
  have hc0 := HCC.out _ hpx
  have hc2 := HCC.out _ hs2
  clear hv hu hx hy hz hns hbw hbx hW0 mv mu mx my mz c00 c01 c10 c11
  generalize m * c = N0 at *
  generalize m * d = N1 at *
  generalize a + N0 = N2 at *
  generalize b + N1 = N3 at *
  generalize nd 4294967296 a = la at *
  generalize nd 4294967296 b = lb at *
  generalize nd 4294967296 c = lc at *
  generalize nd 4294967296 d = ld at *
  generalize nd 4294967296 m = lk at *
  rw [hz0] at HSET HRR HDN
  have HZ0 := Lib.hid hz0
  clear hz0
  go_enter Tryd.func65, Tryd.ntmps65
  go_wp2_with fail
  rw [← HW0.out]
  go_region_held3 (fun W : World => (W.cell? ⟨w.heap.size, 0, none⟩ = some (.slice vo la vc) ∧ W.cell? ⟨w.heap.size, 1, none⟩ = some (.slice uo lb uc) ∧ W.cell? ⟨w.heap.size + 1, 0, none⟩ = some (.slice xo lc xc) ∧ W.cell? ⟨w.heap.size + 1, 1, none⟩ = some (.slice yo ld yc)) ∧ Px W0 ns W) (first | (refine And.intro ?_ ?_ <;> assumption) | (refine HSET.out _ _ _ _ _ _ _ ?_; assumption) | fail) (first
    | (go_at_call 30; with_reducible refine (HM0.out _ ?h).mono ?_; (case h => assumption); rintro e w' ⟨o1, l1, k1, rfl, hr', hB', hs'⟩; have hc' := HCC.out _ hs')
    | (go_at_call 29; with_reducible refine (HS0.out _ _ ?h ?r).mono ?_; (case h => assumption); (case r => first | assumption | exact dchain (by assumption) (by assumption) | exact dchain (by assumption) (dchain (by assumption) (by assumption)) | exact dchain (by assumption) (dchain (by assumption) (dchain (by assumption) (by assumption))) | fail); rintro e w' ⟨o2, l2, k2, rfl, hr', hB', hs'⟩; have hc' := HCC.out _ hs')
    | (go_at_call 30; with_reducible refine (HM1.out _ ?h).mono ?_; (case h => assumption); rintro e w' ⟨o3, l3, k3, rfl, hr', hB', hs'⟩; have hc' := HCC.out _ hs')
    | (go_at_call 29; with_reducible refine (HS1.out _ _ ?h ?r).mono ?_; (case h => assumption); (case r => first | assumption | exact dchain (by assumption) (by assumption) | exact dchain (by assumption) (dchain (by assumption) (by assumption)) | exact dchain (by assumption) (dchain (by assumption) (dchain (by assumption) (by assumption))) | fail); rintro e w' ⟨o4, l4, k4, rfl, hr', hB', hs'⟩; have hc' := HCC.out _ hs'; obtain ⟨⟨p0, p1, p2, y0⟩, ⟨q0, q1, q2, y1⟩, y2, y3⟩ := HRR.out _ hs') | fail)
  all_goals
    have h1 : D w' (.slice o2 l2 k2) N2 := by first | assumption | exact dchain (by assumption) (by assumption) | exact dchain (by assumption) (dchain (by assumption) (by assumption)) | exact dchain (by assumption) (dchain (by assumption) (dchain (by assumption) (by assumption))) | fail
    have h2 : D w' (.slice o4 l4 k4) N3 := by first | assumption | exact dchain (by assumption) (by assumption) | exact dchain (by assumption) (dchain (by assumption) (by assumption)) | exact dchain (by assumption) (dchain (by assumption) (dchain (by assumption) (by assumption))) | fail
    have hT : Px W0 ns w' := by assumption
    have HD := Lib.hid (HDN.out _ _ _ _ _ _ _ _ _ hT h1 h2)
    clear hT h1 h2
    go_wp2
    obtain ⟨t1, t2, t3, t4, t5⟩ := HD.out

    refine bodyPost_ret (v := .agg #[.slice o2 l2 k2, .slice o4 l4 k4]) (by simp [results, Tryd.results65, go_sem, t3, t4]) rfl ⟨_, _, rfl, t1, t2, HBW.out.trans (t5.mono (by omega))⟩
end Go.Proofs.YthafnhjnlfpifaaDoor
namespace Go.Proofs.YthafnhjnlfpifaaDoor
open Go Go.RowKit Gu

set_option maxHeartbeats 4000000 in
set_option maxRecDepth 100000 in
theorem isNearer_any (v u x y z t : Value) (a b c d e f : Nat) (w : World) (hv : D w v a) (hu : D w u b) (hx : D w x c) (hy : D w y d) (hz : D w z e) (ht : D w t f) (bv : nd 4294967296 a ≤ 100000) (bu : nd 4294967296 b ≤ 100000) (bx : nd 4294967296 c ≤ 100000) (bY : nd 4294967296 d ≤ 100000) (bz : nd 4294967296 e ≤ 100000) (bt : nd 4294967296 f ≤ 100000) :
    Calls Tryd.prog 66 #[.agg #[v, u], .agg #[x, y], .agg #[z, t]] w fun e' w' => e' = .returned (.bool (decide (gapN a b c d * f < gapN a b e f * d))) ∧ Below w.heap.size w w' := by
  obtain ⟨W0, hW0⟩ : ∃ W0 : World, W0 = (((w.alloc (.cells #[v, u] 82)).alloc (.cells #[x, y] 82)).alloc (.cells #[z, t] 82)) := ⟨_, rfl⟩
  have hz0 : W0.heap.size = w.heap.size + 1 + 1 + 1 := by rw [hW0]; simp
  have hbw : Below w.heap.size w W0 := by rw [hW0]; exact (((Below.refl _ _).alloc (Nat.le_refl _) _).alloc (by simp) _).alloc (by simp; omega) _
  obtain ⟨ns, hns⟩ : ∃ ns : List (Value × Nat), ns = [(v, a), (u, b), (x, c), (y, d), (z, e), (t, f)] := ⟨_, rfl⟩
  have hbx : Bx W0 ns W0 := ⟨fun p hp => by
    rw [hns] at hp
    simp only [List.mem_cons, List.not_mem_nil, or_false] at hp
    rcases hp with rfl | rfl | rfl | rfl | rfl | rfl
    · exact hv.below hbw
    · exact hu.below hbw
    · exact hx.below hbw
    · exact hy.below hbw
    · exact hz.below hbw
    · exact ht.below hbw, Below.refl _ _⟩
  have mv : (v, a) ∈ ns := by rw [hns]; simp
  have mu : (u, b) ∈ ns := by rw [hns]; simp
  have mx : (x, c) ∈ ns := by rw [hns]; simp
  have my : (y, d) ∈ ns := by rw [hns]; simp
  have mz : (z, e) ∈ ns := by rw [hns]; simp
  have mt : (t, f) ∈ ns := by rw [hns]; simp
  have past : ∀ (W : World) (o : Obj) (k j : Nat) (q : Value), k < W.heap.size → W.cell? ⟨k, j, none⟩ = some q → (W.alloc o).cell? ⟨k, j, none⟩ = some q := fun W o k j q h1 h2 => (World.cell?_alloc_past _ _ _ h1).trans h2
  have c00 : W0.cell? ⟨w.heap.size, 0, none⟩ = some v := by rw [hW0]; exact past _ _ _ _ _ (by simp <;> omega) (past _ _ _ _ _ (by simp) (World.cell?_alloc_at _ _ _ _ rfl))
  have c01 : W0.cell? ⟨w.heap.size, 1, none⟩ = some u := by rw [hW0]; exact past _ _ _ _ _ (by simp <;> omega) (past _ _ _ _ _ (by simp) (World.cell?_alloc_at _ _ _ _ rfl))
  have c10 : W0.cell? ⟨w.heap.size + 1, 0, none⟩ = some x := by rw [hW0]; exact past _ _ _ _ _ (by simp) (World.cell?_alloc_at _ _ _ _ (by simp))
  have c11 : W0.cell? ⟨w.heap.size + 1, 1, none⟩ = some y := by rw [hW0]; exact past _ _ _ _ _ (by simp) (World.cell?_alloc_at _ _ _ _ (by simp))
  have c20 : W0.cell? ⟨w.heap.size + 1 + 1, 0, none⟩ = some z := by rw [hW0]; exact World.cell?_alloc_at _ _ _ _ (by simp)
  have c21 : W0.cell? ⟨w.heap.size + 1 + 1, 1, none⟩ = some t := by rw [hW0]; exact World.cell?_alloc_at _ _ _ _ (by simp)
  have gb : ∀ {a b c d : Nat}, nd 4294967296 a ≤ 100000 → nd 4294967296 b ≤ 100000 → nd 4294967296 c ≤ 100000 → nd 4294967296 d ≤ 100000 → nd 4294967296 (gapN a b c d) ≤ 200000 := fun {a b c d} h1 h2 h3 h4 => by
    have e1 := nd_mul h1 h4
    have e2 := nd_mul h3 h2
    unfold gapN
    split
    · exact Nat.le_trans (nd_mono (by decide) (Nat.sub_le _ _)) e2
    · exact Nat.le_trans (nd_mono (by decide) (Nat.sub_le _ _)) e1
  have g1 := gb bv bu bx bY
  have g2 := gb bv bu bz bt
  have g3 := nd_mul g1 bt
  have g4 := nd_mul g2 bY
  have HG0 : Hid (∀ W, Bx W0 ns W → Calls Tryd.prog 81 #[.agg #[v, u], .agg #[x, y]] W fun e w' => ∃ o l k, e = .returned (.slice o l k) ∧ D w' (.slice o l k) (gapN a b c d) ∧ Below W.heap.size W w' ∧ Bx W0 ns w') := fun W h =>
    (gap_any v u x y a b c d W (h.n _ mv) (h.n _ mu) (h.n _ mx) (h.n _ my) bv bu bx bY).mono fun e w' ⟨r, he, hr, hB⟩ => by
      obtain ⟨ro, rc, rfl, -⟩ := hr.shape
      exact ⟨ro, _, rc, he, hr, hB, h.next hB⟩
  have HG1 : Hid (∀ W, Bx W0 ns W → Calls Tryd.prog 81 #[.agg #[v, u], .agg #[z, t]] W fun e' w' => ∃ o l k, e' = .returned (.slice o l k) ∧ D w' (.slice o l k) (gapN a b e f) ∧ Below W.heap.size W w' ∧ Bx W0 ns w') := fun W h =>
    (gap_any v u z t a b e f W (h.n _ mv) (h.n _ mu) (h.n _ mz) (h.n _ mt) bv bu bz bt).mono fun e w' ⟨r, he, hr, hB⟩ => by
      obtain ⟨ro, rc, rfl, -⟩ := hr.shape
      exact ⟨ro, _, rc, he, hr, hB, h.next hB⟩
  have HP0 : Hid (∀ W p, Bx W0 ns W → D W p (gapN a b c d) → Calls Tryd.prog 30 #[p, t] W fun e w' => ∃ o l k, e = .returned (.slice o l k) ∧ D w' (.slice o l k) (gapN a b c d * f) ∧ Below W.heap.size W w' ∧ Bx W0 ns w') := fun W p h hp =>
    (product_any p t _ f W hp (h.n _ mt) (by omega) (by omega)).mono fun e w' ⟨r, he, hr, hB⟩ => by
      obtain ⟨ro, rc, rfl, -⟩ := hr.shape
      exact ⟨ro, _, rc, he, hr, hB, h.next hB⟩
  have HP1 : Hid (∀ W p, Bx W0 ns W → D W p (gapN a b e f) → Calls Tryd.prog 30 #[p, y] W fun e' w' => ∃ o l k, e' = .returned (.slice o l k) ∧ D w' (.slice o l k) (gapN a b e f * d) ∧ Below W.heap.size W w' ∧ Bx W0 ns w') := fun W p h hp =>
    (product_any p y _ d W hp (h.n _ my) (by omega) (by omega)).mono fun e w' ⟨r, he, hr, hB⟩ => by
      obtain ⟨ro, rc, rfl, -⟩ := hr.shape
      exact ⟨ro, _, rc, he, hr, hB, h.next hB⟩
  obtain ⟨kk, hkk⟩ : ∃ kk, kk = cmpN ((gapN a b c d * f : Nat) : Int) ((gapN a b e f * d : Nat) : Int) := ⟨_, rfl⟩
  have hdec : decide (kk < 0) = decide (gapN a b c d * f < gapN a b e f * d) := by
    rw [hkk]
    rcases Nat.lt_trichotomy (gapN a b c d * f) (gapN a b e f * d) with h | h | h
    · rw [cmpN_lt (by omega)]; simp [h]
    · rw [cmpN_eq (by omega)]; simp; omega
    · rw [cmpN_gt (by omega)]; simp; omega
  have HDE := Lib.hid hdec
  have HCM : Hid (∀ W p q, Bx W0 ns W → D W p (gapN a b c d * f) → D W q (gapN a b e f * d) → Calls Tryd.prog 31 #[p, q] W fun e w' => e = .returned (.int .i64 kk) ∧ Bx W0 ns w') := fun W p q h hp hq => by
    rw [hkk]
    exact (compare_any p q _ _ W hp hq (by omega) (by omega)).mono fun e w' ⟨he, k, hw⟩ => ⟨he, by rw [hw]; exact h.next (below_drewN (Below.refl _ _) k)⟩
  have HCC : Hid (∀ W, Bx W0 ns W → W.cell? ⟨w.heap.size, 0, none⟩ = some v ∧ W.cell? ⟨w.heap.size, 1, none⟩ = some u ∧ W.cell? ⟨w.heap.size + 1, 0, none⟩ = some x ∧ W.cell? ⟨w.heap.size + 1, 1, none⟩ = some y ∧ W.cell? ⟨w.heap.size + 1 + 1, 0, none⟩ = some z ∧ W.cell? ⟨w.heap.size + 1 + 1, 1, none⟩ = some t) := fun W h => ⟨h.cell (by omega) c00, h.cell (by omega) c01, h.cell (by omega) c10, h.cell (by omega) c11, h.cell (by omega) c20, h.cell (by omega) c21⟩
  have HBW := Lib.hid hbw; have HW0 := Lib.hid hW0
  obtain ⟨vo, vc, rfl, -⟩ := hv.shape
  obtain ⟨uo, uc, rfl, -⟩ := hu.shape
  obtain ⟨xo, xc, rfl, -⟩ := hx.shape
  obtain ⟨yo, yc, rfl, -⟩ := hy.shape
  obtain ⟨zo, zc, rfl, -⟩ := hz.shape
  obtain ⟨to', tc, rfl, -⟩ := ht.shape
  have hs2 := hbx.next ((Below.refl _ _).drew)
  have hc0 := HCC.out _ hbx
  have hc2 := HCC.out _ hs2
  clear hv hu hx hy hz ht hns hz0 hbw hW0 mv mu mx my mz mt c00 c01 c10 c11 c20 c21 gb g1 g2 g3 g4 past hkk hdec
  generalize gapN a b c d * f = N2 at *
  generalize gapN a b e f * d = N3 at *
  generalize gapN a b c d = N0 at *
  generalize gapN a b e f = N1 at *
  generalize nd 4294967296 a = la at *
  generalize nd 4294967296 b = lb at *
  generalize nd 4294967296 c = lc at *
  generalize nd 4294967296 d = ld at *
  generalize nd 4294967296 e = le at *
  generalize nd 4294967296 f = lf at *
  go_enter Tryd.func66, Tryd.ntmps66
  go_wp2_with fail
  rw [← HW0.out]
  go_region_held3 (fun W : World => (W.cell? ⟨w.heap.size, 0, none⟩ = some (.slice vo la vc) ∧ W.cell? ⟨w.heap.size, 1, none⟩ = some (.slice uo lb uc) ∧ W.cell? ⟨w.heap.size + 1, 0, none⟩ = some (.slice xo lc xc) ∧ W.cell? ⟨w.heap.size + 1, 1, none⟩ = some (.slice yo ld yc) ∧ W.cell? ⟨w.heap.size + 1 + 1, 0, none⟩ = some (.slice zo le zc) ∧ W.cell? ⟨w.heap.size + 1 + 1, 1, none⟩ = some (.slice to' lf tc)) ∧ Bx W0 ns W) (first | (refine And.intro ?_ ?_ <;> assumption) | fail) (first
    | (go_at_call 81; with_reducible refine (HG0.out _ ?h).mono ?_; (case h => assumption); rintro e w' ⟨o1, l1, k1, rfl, hr', hB', hs'⟩; have hc' := HCC.out _ hs')
    | (go_at_call 81; with_reducible refine (HG1.out _ ?h).mono ?_; (case h => assumption); rintro e w' ⟨o2, l2, k2, rfl, hr', hB', hs'⟩; have hc' := HCC.out _ hs')
    | (go_at_call 30; with_reducible refine (HP0.out _ _ ?h ?r).mono ?_; (case h => assumption); (case r => first | assumption | exact dchain (by assumption) (by assumption) | fail); rintro e w' ⟨o3, l3, k3, rfl, hr', hB', hs'⟩; have hc' := HCC.out _ hs')
    | (go_at_call 30; with_reducible refine (HP1.out _ _ ?h ?r).mono ?_; (case h => assumption); (case r => first | assumption | exact dchain (by assumption) (by assumption) | fail); rintro e w' ⟨o4, l4, k4, rfl, hr', hB', hs'⟩; have hc' := HCC.out _ hs')
    | (go_at_call 31; with_reducible refine (HCM.out _ _ _ ?h ?r ?r2).mono ?_; (case h => assumption); (case r => first | assumption | exact dchain (by assumption) (by assumption) | exact dchain (by assumption) (dchain (by assumption) (by assumption)) | fail); (case r2 => first | assumption | exact dchain (by assumption) (by assumption) | fail); rintro e w' ⟨rfl, hs'⟩; have hc' := HCC.out _ hs') | fail)
  all_goals
    have hT : Bx W0 ns w' := by assumption
    have HB := Lib.hid (HBW.out.trans (hT.bel.mono HBW.out.size))
    clear hT
    go_wp2
    go_ret
    exact ⟨by rw [← HDE.out]; rfl, HB.out⟩
end Go.Proofs.YthafnhjnlfpifaaDoor
namespace Go.Proofs.YthafnhjnlfpifaaDoor
open Go Go.RowKit Gu

/-- bounds of what the loop of nearest divides -/
theorem NInv.le {p q L bn bd ln ld l r : Nat} (h : NInv p q L bn bd ln ld l r) (hp : 0 < p) : 0 < l ∧ (l ≤ p ∨ l ≤ q) ∧ r ≤ q ∧ bn ≤ p ∧ bd ≤ q ∧ ln ≤ p ∧ ld ≤ q := by
  have e1 := h.e1
  have e2 := h.e2
  have hr := h.rp
  have hbn : bn ≤ p := Nat.le_trans (Nat.le_mul_of_pos_right _ hr) (by rw [e1]; exact Nat.le_add_left _ _)
  have hbd : bd ≤ q := Nat.le_trans (Nat.le_mul_of_pos_right _ hr) (by rw [e2]; exact Nat.le_add_left _ _)
  rcases h.st with ⟨h1, h2, h0⟩ | ⟨h1, h2⟩
  · have hdet := h.det
    rw [h1, h2, h0] at hdet
    have h4 : ln = 1 := by omega
    rw [h0, h4] at e1
    rw [h1, h2] at e2
    exact ⟨by omega, .inl (by omega), by omega, hbn, hbd, by omega, by omega⟩
  · have hl0 : 0 < l := by omega
    have hlq : l ≤ q := Nat.le_trans (Nat.le_mul_of_pos_left _ h1) (by rw [e2]; exact Nat.le_add_right _ _)
    have hln : ln ≤ p := Nat.le_trans (Nat.le_mul_of_pos_right _ hl0) (by rw [e1]; exact Nat.le_add_right _ _)
    have hld : ld ≤ q := Nat.le_trans (Nat.le_mul_of_pos_right _ hl0) (by rw [e2]; exact Nat.le_add_right _ _)
    exact ⟨hl0, .inr hlq, by omega, hbn, hbd, hln, hld⟩
/-- what the loop of nearest keeps in memory: target, limit, the last two convergents in their boxes B and B + 1, what is left -/
structure NS (w : World) (B : Nat) (v u z : Value) (p q L bn bd ln ld l r : Nat) (b0 b1 l0 l1 vl vr : Value) (W : World) : Prop where
  nv : D W v p
  nu : D W u q
  nz : D W z L
  n0 : D W b0 bn
  n1 : D W b1 bd
  n2 : D W l0 ln
  n3 : D W l1 ld
  n4 : D W vl l
  n5 : D W vr r
  t0 : W.cell? ⟨w.heap.size, 0, none⟩ = some v
  t1 : W.cell? ⟨w.heap.size, 1, none⟩ = some u
  r0 : W.cell? ⟨w.heap.size + 1, 0, none⟩ = some (.slice none 0 0)
  r1 : W.cell? ⟨w.heap.size + 1, 1, none⟩ = some (.slice none 0 0)
  z0 : W.frozen? ⟨w.heap.size + 1, 0, none⟩ = false
  z1 : W.frozen? ⟨w.heap.size + 1, 1, none⟩ = false
  c0 : W.cell? ⟨B, 0, none⟩ = some b0
  c1 : W.cell? ⟨B, 1, none⟩ = some b1
  c2 : W.cell? ⟨B + 1, 0, none⟩ = some l0
  c3 : W.cell? ⟨B + 1, 1, none⟩ = some l1
  f0 : W.frozen? ⟨B, 0, none⟩ = false
  f1 : W.frozen? ⟨B, 1, none⟩ = false
  f2 : W.frozen? ⟨B + 1, 0, none⟩ = false
  f3 : W.frozen? ⟨B + 1, 1, none⟩ = false
  lt : w.heap.size + 1 < B
  lb : B + 1 < W.heap.size
  bel : Below w.heap.size w W
theorem NS.next {w : World} {B : Nat} {v u z : Value} {p q L bn bd ln ld l r : Nat} {b0 b1 l0 l1 vl vr : Value} {W W' : World} (h : NS w B v u z p q L bn bd ln ld l r b0 b1 l0 l1 vl vr W) (hb : Below W.heap.size W W') : NS w B v u z p q L bn bd ln ld l r b0 b1 l0 l1 vl vr W' := by
  have hlt := h.lt
  have hlb := h.lb
  have cc : ∀ k o x, k < W.heap.size → W.cell? ⟨k, o, none⟩ = some x → W'.cell? ⟨k, o, none⟩ = some x := fun k o x hk hx => (hb.cell (p := ⟨k, o, none⟩) hk).trans hx
  have ff : ∀ k o, k < W.heap.size → W.frozen? ⟨k, o, none⟩ = false → W'.frozen? ⟨k, o, none⟩ = false := fun k o hk hx => (hb.frozen (p := ⟨k, o, none⟩) hk).trans hx
  exact ⟨h.nv.below hb, h.nu.below hb, h.nz.below hb, h.n0.below hb, h.n1.below hb, h.n2.below hb, h.n3.below hb, h.n4.below hb, h.n5.below hb,
    cc _ _ _ (by omega) h.t0, cc _ _ _ (by omega) h.t1, cc _ _ _ (by omega) h.r0, cc _ _ _ (by omega) h.r1, ff _ _ (by omega) h.z0, ff _ _ (by omega) h.z1,
    cc _ _ _ (by omega) h.c0, cc _ _ _ (by omega) h.c1, cc _ _ _ (by omega) h.c2, cc _ _ _ (by omega) h.c3, ff _ _ (by omega) h.f0, ff _ _ (by omega) h.f1, ff _ _ (by omega) h.f2, ff _ _ (by omega) h.f3, hlt, Nat.lt_of_lt_of_le hlb hb.size, h.bel.trans (hb.mono h.bel.size)⟩
/-- other numbers left -/
theorem NS.left {w : World} {B : Nat} {v u z : Value} {p q L bn bd ln ld l r : Nat} {b0 b1 l0 l1 vl vr : Value} {W : World} (h : NS w B v u z p q L bn bd ln ld l r b0 b1 l0 l1 vl vr W) {l' r' : Nat} {vl' vr' : Value} (h1 : D W vl' l') (h2 : D W vr' r') : NS w B v u z p q L bn bd ln ld l' r' b0 b1 l0 l1 vl' vr' W :=
  ⟨h.nv, h.nu, h.nz, h.n0, h.n1, h.n2, h.n3, h1, h2, h.t0, h.t1, h.r0, h.r1, h.z0, h.z1, h.c0, h.c1, h.c2, h.c3, h.f0, h.f1, h.f2, h.f3, h.lt, h.lb, h.bel⟩
/-- the last two convergents move on -/
theorem NS.shift {w : World} {B : Nat} {v u z : Value} {p q L bn bd ln ld l r nn nm R : Nat} {b0 b1 vl vr rv : Value} {l0o l1o no mo : Option Addr} {l0l l0c l1l l1c nl nc ml mc : Nat} {W : World} (h : NS w B v u z p q L bn bd ln ld l r b0 b1 (.slice l0o l0l l0c) (.slice l1o l1l l1c) vl vr W)
    (sb0 : ∃ o a c, b0 = .slice o a c) (sb1 : ∃ o a c, b1 = .slice o a c) (h1 : D W (.slice no nl nc) nn) (h2 : D W (.slice mo ml mc) nm) (h3 : D W rv R) :
    NS w B v u z p q L ln ld nn nm r R (.slice l0o l0l l0c) (.slice l1o l1l l1c) (.slice no nl nc) (.slice mo ml mc) vr rv
      ((((W.setCell ⟨B, 0, none⟩ (.slice l0o l0l l0c)).setCell ⟨B, 1, none⟩ (.slice l1o l1l l1c)).setCell ⟨B + 1, 0, none⟩ (.slice no nl nc)).setCell ⟨B + 1, 1, none⟩ (.slice mo ml mc)) := by
  obtain ⟨o0, a0, x0, rfl⟩ := sb0
  obtain ⟨o1, a1, x1, rfl⟩ := sb1
  have hlt := h.lt
  obtain ⟨W1, hW1⟩ : ∃ W1, W1 = (W.setCell ⟨B, 0, none⟩ (.slice l0o l0l l0c)).setCell ⟨B, 1, none⟩ (.slice l1o l1l l1c) := ⟨_, rfl⟩
  obtain ⟨p0, p1⟩ := read_two h.c0 h.c1 (.slice l0o l0l l0c) (.slice l1o l1l l1c)
  have k1 : ∀ {x : Value} {n : Nat}, D W x n → D W1 x n := fun hx => by rw [hW1]; exact IsN_setTwo hx h.c0 h.c1 (by intro d e; cases e) (by intro d e; cases e) _ _
  have far1 : ∀ j o, j ≠ B → W1.cell? ⟨j, o, none⟩ = W.cell? ⟨j, o, none⟩ := fun j o hj => by
    rw [hW1, World.cell?_setCell_far _ _ _ _ (by show B ≠ j; omega), World.cell?_setCell_far _ _ _ _ (by show B ≠ j; omega)]
  have d2 : W1.cell? ⟨B + 1, 0, none⟩ = some (.slice l0o l0l l0c) := (far1 _ _ (by omega)).trans h.c2
  have d3 : W1.cell? ⟨B + 1, 1, none⟩ = some (.slice l1o l1l l1c) := (far1 _ _ (by omega)).trans h.c3
  rw [← hW1] at p0 p1 ⊢
  obtain ⟨p2, p3⟩ := read_two d2 d3 (.slice no nl nc) (.slice mo ml mc)
  have k2 : ∀ {x : Value} {n : Nat}, D W x n → D ((W1.setCell ⟨B + 1, 0, none⟩ (.slice no nl nc)).setCell ⟨B + 1, 1, none⟩ (.slice mo ml mc)) x n := fun hx => IsN_setTwo (k1 hx) d2 d3 (by intro d e; cases e) (by intro d e; cases e) _ _
  have far2 : ∀ j o, j ≠ B + 1 → ((W1.setCell ⟨B + 1, 0, none⟩ (.slice no nl nc)).setCell ⟨B + 1, 1, none⟩ (.slice mo ml mc)).cell? ⟨j, o, none⟩ = W1.cell? ⟨j, o, none⟩ := fun j o hj => by
    rw [World.cell?_setCell_far _ _ _ _ (by show B + 1 ≠ j; omega), World.cell?_setCell_far _ _ _ _ (by show B + 1 ≠ j; omega)]
  have far : ∀ j o x, j ≠ B → j ≠ B + 1 → W.cell? ⟨j, o, none⟩ = some x → ((W1.setCell ⟨B + 1, 0, none⟩ (.slice no nl nc)).setCell ⟨B + 1, 1, none⟩ (.slice mo ml mc)).cell? ⟨j, o, none⟩ = some x := fun j o x h1 h2 h3 => by rw [far2 _ _ h2, far1 _ _ h1]; exact h3
  have fz : ∀ j o, W.frozen? ⟨j, o, none⟩ = false → ((W1.setCell ⟨B + 1, 0, none⟩ (.slice no nl nc)).setCell ⟨B + 1, 1, none⟩ (.slice mo ml mc)).frozen? ⟨j, o, none⟩ = false := fun j o hf => by rw [hW1]; simpa using hf
  have sz : ((W1.setCell ⟨B + 1, 0, none⟩ (.slice no nl nc)).setCell ⟨B + 1, 1, none⟩ (.slice mo ml mc)).heap.size = W.heap.size := by rw [hW1]; simp only [World.size_setCell]
  have bl : Below w.heap.size w ((W1.setCell ⟨B + 1, 0, none⟩ (.slice no nl nc)).setCell ⟨B + 1, 1, none⟩ (.slice mo ml mc)) := by
    rw [hW1]
    exact (((h.bel.setCell (by show w.heap.size ≤ B; omega) _).setCell (by show w.heap.size ≤ B; omega) _).setCell (by show w.heap.size ≤ B + 1; omega) _).setCell (by show w.heap.size ≤ B + 1; omega) _
  exact ⟨k2 h.nv, k2 h.nu, k2 h.nz, k2 h.n2, k2 h.n3, k2 h1, k2 h2, k2 h.n5, k2 h3, far _ _ _ (by omega) (by omega) h.t0, far _ _ _ (by omega) (by omega) h.t1, far _ _ _ (by omega) (by omega) h.r0, far _ _ _ (by omega) (by omega) h.r1, fz _ _ h.z0, fz _ _ h.z1,
    (far2 _ _ (by omega)).trans p0, (far2 _ _ (by omega)).trans p1, p2, p3, fz _ _ h.f0, fz _ _ h.f1, fz _ _ h.f2, fz _ _ h.f3, hlt, by rw [sz]; exact h.lb, bl⟩
/-- at the loop's start -/
theorem NS.start {w w2 : World} {v u z va vb : Value} {p q L : Nat} (hb : Below ((w.alloc (.cells #[v, u] 82)).alloc (.cells #[.slice none 0 0, .slice none 0 0] 82)).heap.size ((w.alloc (.cells #[v, u] 82)).alloc (.cells #[.slice none 0 0, .slice none 0 0] 82)) w2)
    (hv : D w v p) (hu : D w u q) (hz : D w z L) (ha : D w2 va 1) (hvb : D w2 vb 1) :
    NS w w2.heap.size v u z p q L 0 1 1 0 p q (.slice none 0 0) va vb (.slice none 0 0) v u ((w2.alloc (.cells #[.slice none 0 0, va] 82)).alloc (.cells #[vb, .slice none 0 0] 82)) := by
  obtain ⟨W1, hW1⟩ : ∃ W1, W1 = ((w.alloc (.cells #[v, u] 82)).alloc (.cells #[.slice none 0 0, .slice none 0 0] 82)) := ⟨_, rfl⟩
  have hz1 : W1.heap.size = w.heap.size + 1 + 1 := by rw [hW1]; simp
  have hb1 : Below w.heap.size w W1 := by rw [hW1]; exact ((Below.refl _ _).alloc (Nat.le_refl _) _).alloc (by simp) _
  have t0 : W1.cell? ⟨w.heap.size, 0, none⟩ = some v := by rw [hW1]; exact (World.cell?_alloc_past _ _ _ (by simp)).trans (World.cell?_alloc_at _ _ _ _ rfl)
  have t1 : W1.cell? ⟨w.heap.size, 1, none⟩ = some u := by rw [hW1]; exact (World.cell?_alloc_past _ _ _ (by simp)).trans (World.cell?_alloc_at _ _ _ _ rfl)
  have r0 : W1.cell? ⟨w.heap.size + 1, 0, none⟩ = some (.slice none 0 0) := by rw [hW1]; exact World.cell?_alloc_at _ _ _ _ (by simp)
  have r1 : W1.cell? ⟨w.heap.size + 1, 1, none⟩ = some (.slice none 0 0) := by rw [hW1]; exact World.cell?_alloc_at _ _ _ _ (by simp)
  have z0 : W1.frozen? ⟨w.heap.size + 1, 0, none⟩ = false := by rw [hW1]; exact World.frozen?_alloc_at _ _ _ _ (by simp)
  have z1 : W1.frozen? ⟨w.heap.size + 1, 1, none⟩ = false := by rw [hW1]; exact World.frozen?_alloc_at _ _ _ _ (by simp)
  rw [← hW1] at hb
  have hs := hb.size
  have hb3 : Below w2.heap.size w2 ((w2.alloc (.cells #[.slice none 0 0, va] 82)).alloc (.cells #[vb, .slice none 0 0] 82)) := ((Below.refl _ _).alloc (Nat.le_refl _) _).alloc (by simp) _
  have hb4 := hb.trans (hb3.mono hs)
  have hbw := hb1.trans (hb4.mono hb1.size)
  have cc : ∀ k o x, k < W1.heap.size → W1.cell? ⟨k, o, none⟩ = some x → _ := fun k o x hk hx => (hb4.cell (p := ⟨k, o, none⟩) hk).trans hx
  have ff : ∀ k o, k < W1.heap.size → W1.frozen? ⟨k, o, none⟩ = false → _ := fun k o hk hx => (hb4.frozen (p := ⟨k, o, none⟩) hk).trans hx
  exact ⟨hv.below hbw, hu.below hbw, hz.below hbw, IsN.zero _ _ _ _ _, ha.below hb3, hvb.below hb3, IsN.zero _ _ _ _ _, hv.below hbw, hu.below hbw,
    cc _ _ _ (by omega) t0, cc _ _ _ (by omega) t1, cc _ _ _ (by omega) r0, cc _ _ _ (by omega) r1, ff _ _ (by omega) z0, ff _ _ (by omega) z1,
    (World.cell?_alloc_past _ _ _ (by simp)).trans (World.cell?_alloc_at _ _ _ _ rfl), (World.cell?_alloc_past _ _ _ (by simp)).trans (World.cell?_alloc_at _ _ _ _ rfl), World.cell?_alloc_at _ _ _ _ (by simp), World.cell?_alloc_at _ _ _ _ (by simp),
    by simp, by simp,
    World.frozen?_alloc_at _ _ _ _ (by simp), World.frozen?_alloc_at _ _ _ _ (by simp), by omega, by simp, hbw⟩
set_option maxHeartbeats 4000000 in
set_option maxRecDepth 100000 in
theorem nearest_any (v u z : Value) (p q L : Nat) (w : World) (hv : D w v p) (hu : D w u q) (hz : D w z L) (bp : nd 4294967296 p ≤ 1000) (bq : nd 4294967296 q ≤ 1000) (bL : nd 4294967296 L ≤ 1000) (hp : 0 < p) (hg : Nat.gcd p q = 1) (hL : 1 ≤ L) (hq : L < q) :
    Calls Tryd.prog 45 #[.agg #[v, u], z] w fun e w' => ∃ r s x y, e = .returned (.agg #[r, s]) ∧ D w' r x ∧ D w' s y ∧ IsBest p q L x y ∧ Below w.heap.size w w' := by
  have HQ := Lib.hid hq
  have HG := Lib.hid hg
  have HV := Lib.hid hv; have HU := Lib.hid hu; have HZ := Lib.hid hz
  have HB2 : Hid (∀ o1 o2, Below w.heap.size w ((w.alloc o1).alloc o2)) := fun o1 o2 => ((Below.refl _ _).alloc (Nat.le_refl _) _).alloc (by simp) _
  obtain ⟨vo, vc, rfl, -⟩ := hv.shape
  obtain ⟨uo, uc, rfl, -⟩ := hu.shape
  obtain ⟨zo, zc, rfl, -⟩ := hz.shape
  obtain ⟨N, hN⟩ : ∃ N, N = 1000 := ⟨_, rfl⟩
  have HDV := Lib.hid (divide_long N (by omega))
  have HNN := Lib.hid hN
  clear hv hu hz hq hg hN
  go_enter Tryd.func45, Tryd.ntmps45
  go_wp2_with fail
  refine (digitsOf_any 1 _ (by decide)).mono ?_
  rintro e w1 ⟨va, rfl, ha, hb1⟩
  obtain ⟨ao, ac, rfl, -⟩ := ha.shape
  have HB1 := Lib.hid hb1; have HA := Lib.hid ha
  clear ha hb1
  go_wp2_with fail
  refine (digitsOf_any 1 _ (by decide)).mono ?_
  rintro e w2 ⟨vb, rfl, hb, hb2⟩
  obtain ⟨bo, bc, rfl, -⟩ := hb.shape
  have HB := Lib.hid hb
  have HBB := Lib.hid (HB1.out.trans (hb2.mono HB1.out.size))
  have HA2 := Lib.hid (HA.out.below hb2)
  clear hb hb2 HA HB1
  have hs := NS.start HBB.out HV.out HU.out HZ.out HA2.out HB.out
  have d0 := hs.t0
  have d1 := hs.t1
  have HS0 := Lib.hid (hs.next ((Below.refl _ _).drew))
  clear hs HBB HA2 HB
  go_wp2_with fail
  go_region
  go_wp2_with fail
  generalize w2.heap.size = B at *
  clear d0 d1
  go_loopg [7, 8] q (fun m vl vr wr => ∃ bn bd ln ld l r b0 b1 l0 l1 x y, Hid (m = r) ∧ vl = x ∧ vr = y ∧ Hid (NInv p q L bn bd ln ld l r) ∧ Hid (NS w B (.slice vo (nd 4294967296 p) vc) (.slice uo (nd 4294967296 q) uc) (.slice zo (nd 4294967296 L) zc) p q L bn bd ln ld l r b0 b1 l0 l1 x y wr))
  case atStart => exact ⟨0, 1, 1, 0, p, q, _, _, _, _, _, _, rfl, rfl, rfl, NInv.start HQ.out hL, HS0.out⟩
  case round =>
    obtain ⟨bn, bd, ln, ld, l, r, b0, b1, l0, l1, x, y, HM, rfl, rfl, HI, HS⟩ := hrel
    obtain ⟨xo, xc, rfl, -⟩ := HS.out.n4.shape
    obtain ⟨yo, yc, rfl, -⟩ := HS.out.n5.shape
    obtain ⟨b0o, b0c, rfl, -⟩ := HS.out.n0.shape
    obtain ⟨b1o, b1c, rfl, -⟩ := HS.out.n1.shape
    obtain ⟨l0o, l0c, rfl, -⟩ := HS.out.n2.shape
    obtain ⟨l1o, l1c, rfl, -⟩ := HS.out.n3.shape
    obtain ⟨g1, g2, g3, g4, g5, g6, g7⟩ := HI.out.le hp
    obtain ⟨g8, g9⟩ := HI.out.bound
    have kl : nd 4294967296 l ≤ 1000 := by
      rcases g2 with h | h
      · exact Nat.le_trans (nd_mono (by decide) h) bp
      · exact Nat.le_trans (nd_mono (by decide) h) bq
    have kr : nd 4294967296 r ≤ 1000 := Nat.le_trans (nd_mono (by decide) g3) bq
    have k0 : nd 4294967296 bn ≤ 1000 := Nat.le_trans (nd_mono (by decide) g4) bp
    have k1 : nd 4294967296 bd ≤ 1000 := Nat.le_trans (nd_mono (by decide) g5) bq
    have k2 : nd 4294967296 ln ≤ 1000 := Nat.le_trans (nd_mono (by decide) g6) bp
    have k3 : nd 4294967296 ld ≤ 1000 := Nat.le_trans (nd_mono (by decide) g7) bq
    have k4 : nd 4294967296 (l / r) ≤ 1000 := Nat.le_trans (nd_mono (by decide) (Nat.div_le_self _ _)) kl
    have k5 : nd 4294967296 (bn + l / r * ln) ≤ 1000 := Nat.le_trans (nd_mono (by decide) g8) bp
    have k6 : nd 4294967296 (bd + l / r * ld) ≤ 1000 := Nat.le_trans (nd_mono (by decide) g9) bq
    have HDR := Lib.hid (HDV.out _ _ l r wr HS.out.n4 HS.out.n5 HI.out.rp ((nd_le (by decide)).1 (by rw [HNN.out]; omega)) ((nd_le (by decide)).1 (by rw [HNN.out]; omega)))
    have HNX := Lib.hid (HI.out.next HG.out HQ.out)
    have HBT := Lib.hid (HI.out.best hL)
    have HRL := Lib.hid (Nat.mod_lt l HI.out.rp)
    have hW : Hid (∃ W, W = l / r) := ⟨_, rfl⟩
    generalize l / r = W at *
    generalize l % r = R at *
    clear hW g1 g2 g3 g4 g5 g6 g7 g8 g9
    go_wp2_with fail
    refine HDR.out.mono ?_
    rintro e w3 ⟨qv, rv, rfl, hqv, hrv, hb⟩
    obtain ⟨qo, qc, rfl, -⟩ := hqv.shape
    obtain ⟨ro, rc, rfl, -⟩ := hrv.shape
    have HS3 := Lib.hid (HS.out.next hb)
    have HQV := Lib.hid hqv; have HRV := Lib.hid hrv
    have d0 := HS3.out.c0; have d1 := HS3.out.c1; have d2 := HS3.out.c2; have d3 := HS3.out.c3
    have HPL := Lib.hid (plus_any _ _ _ _ _ bn bd ln ld W w3 HS3.out.n0 HS3.out.n1 HS3.out.n2 HS3.out.n3 HQV.out (by omega) (by omega) (by omega) (by omega) (by omega))
    generalize bn + W * ln = nn at *
    generalize bd + W * ld = nm at *
    clear hqv hrv hb HS HDR
    go_wp2_with fail
    refine HPL.out.mono ?_
    rintro e w4 ⟨nv, mv, rfl, hnv, hmv, hb⟩
    obtain ⟨no, nc, rfl, -⟩ := hnv.shape
    obtain ⟨mo, mc, rfl, -⟩ := hmv.shape
    have hal : ∀ o, Below w4.heap.size w4 (w4.alloc o) := fun o => (Below.refl _ _).alloc (Nat.le_refl _) _
    obtain ⟨W4, hW4⟩ : ∃ W4 : World, W4 = w4.alloc (.cells #[.slice no (nd 4294967296 nn) nc, .slice mo (nd 4294967296 nm) mc] 82) := ⟨_, rfl⟩
    have hbW4 : Below w4.heap.size w4 W4 := by rw [hW4]; exact hal _
    have HS4 := Lib.hid ((HS3.out.next hb).next hbW4)
    have HQ4 := Lib.hid ((HQV.out.below hb).below hbW4); have HR4 := Lib.hid ((HRV.out.below hb).below hbW4)
    have HN4 := Lib.hid (hnv.below hbW4); have HM4 := Lib.hid (hmv.below hbW4)
    have e0 : W4.cell? ⟨w4.heap.size, 0, none⟩ = some (.slice no (nd 4294967296 nn) nc) := by rw [hW4]; exact World.cell?_alloc_at _ _ _ _ rfl
    have e1 : W4.cell? ⟨w4.heap.size, 1, none⟩ = some (.slice mo (nd 4294967296 nm) mc) := by rw [hW4]; exact World.cell?_alloc_at _ _ _ _ rfl
    have hwz : w4.heap.size < W4.heap.size := by rw [hW4]; simp
    have hwb : B + 1 < w4.heap.size := (HS3.out.next hb).lb
    have HCM := Lib.hid (compare_any _ _ nm L W4 HM4.out HS4.out.nz (by omega) (by omega))
    have HW4 := Lib.hid hW4
    have HE0 := Lib.hid e0; have HE1 := Lib.hid e1; have HWZ := Lib.hid hwz; have HWB := Lib.hid hwb
    clear hnv hmv hb hbW4 hal hW4 HS3 HQV HRV HPL d0 d1 d2 d3 hwz hwb
    rcases Nat.lt_or_ge L nm with hc | hc
    · rw [cmpN_gt (by omega)] at HCM
      go_wp2_with fail
      rw [← HW4.out]
      go_wp2_with fail
      refine HCM.out.mono ?_
      rintro e w5 ⟨rfl, k, hw5⟩
      have hb5 : Below W4.heap.size W4 w5 := by rw [hw5]; exact below_drewN (Below.refl W4.heap.size W4) k
      have HS5 := Lib.hid (HS4.out.next hb5)
      clear hw5 hb5
      obtain ⟨hld, hbd, hbest⟩ := HBT.out (by omega)
      have HBE := Lib.hid hbest
      obtain ⟨t, ht⟩ : ∃ t, t = (L - bd) / ld := ⟨_, rfl⟩
      have kLb : nd 4294967296 (L - bd) ≤ 1000 := Nat.le_trans (nd_mono (by decide) (Nat.sub_le _ _)) bL
      have kt : nd 4294967296 t ≤ 1000 := by rw [ht]; exact Nat.le_trans (nd_mono (by decide) (Nat.div_le_self _ _)) kLb
      have HD1 : Hid (∀ W, NS w B (.slice vo (nd 4294967296 p) vc) (.slice uo (nd 4294967296 q) uc) (.slice zo (nd 4294967296 L) zc) p q L bn bd ln ld l r (.slice b0o (nd 4294967296 bn) b0c) (.slice b1o (nd 4294967296 bd) b1c) (.slice l0o (nd 4294967296 ln) l0c) (.slice l1o (nd 4294967296 ld) l1c) (.slice xo (nd 4294967296 l) xc) (.slice yo (nd 4294967296 r) yc) W →
          Calls Tryd.prog 32 #[.slice zo (nd 4294967296 L) zc, .slice b1o (nd 4294967296 bd) b1c] W fun e w' => ∃ o a c, e = .returned (.slice o a c) ∧ D w' (.slice o a c) (L - bd) ∧ NS w B (.slice vo (nd 4294967296 p) vc) (.slice uo (nd 4294967296 q) uc) (.slice zo (nd 4294967296 L) zc) p q L bn bd ln ld l r (.slice b0o (nd 4294967296 bn) b0c) (.slice b1o (nd 4294967296 bd) b1c) (.slice l0o (nd 4294967296 ln) l0c) (.slice l1o (nd 4294967296 ld) l1c) (.slice xo (nd 4294967296 l) xc) (.slice yo (nd 4294967296 r) yc) w') := fun W h =>
        (difference_any _ _ L bd W h.nz h.n1 (by omega) (by omega) hbd).mono fun e w' ⟨r, he, hr, hB⟩ => by
          obtain ⟨ro, rc, rfl, -⟩ := hr.shape
          exact ⟨ro, _, rc, he, hr, h.next hB⟩
      have HD2 : Hid (∀ W x, NS w B (.slice vo (nd 4294967296 p) vc) (.slice uo (nd 4294967296 q) uc) (.slice zo (nd 4294967296 L) zc) p q L bn bd ln ld l r (.slice b0o (nd 4294967296 bn) b0c) (.slice b1o (nd 4294967296 bd) b1c) (.slice l0o (nd 4294967296 ln) l0c) (.slice l1o (nd 4294967296 ld) l1c) (.slice xo (nd 4294967296 l) xc) (.slice yo (nd 4294967296 r) yc) W → D W x (L - bd) →
          Calls Tryd.prog 38 #[x, .slice l1o (nd 4294967296 ld) l1c] W fun e w' => ∃ o a c, e = .returned (.slice o a c) ∧ D w' (.slice o a c) t ∧ NS w B (.slice vo (nd 4294967296 p) vc) (.slice uo (nd 4294967296 q) uc) (.slice zo (nd 4294967296 L) zc) p q L bn bd ln ld l r (.slice b0o (nd 4294967296 bn) b0c) (.slice b1o (nd 4294967296 bd) b1c) (.slice l0o (nd 4294967296 ln) l0c) (.slice l1o (nd 4294967296 ld) l1c) (.slice xo (nd 4294967296 l) xc) (.slice yo (nd 4294967296 r) yc) w') := fun W x h hx => by
        rw [ht]
        exact (quotient_any HDV.out x _ (L - bd) ld W hx h.n3 hld ((nd_le (by decide)).1 (by rw [HNN.out]; omega)) ((nd_le (by decide)).1 (by rw [HNN.out]; omega))).mono fun e w' ⟨r, he, hr, hB⟩ => by
          obtain ⟨ro, rc, rfl, -⟩ := hr.shape
          exact ⟨ro, _, rc, he, hr, h.next hB⟩
      rw [← ht] at HBE
      have HCC : Hid (∀ W, NS w B (.slice vo (nd 4294967296 p) vc) (.slice uo (nd 4294967296 q) uc) (.slice zo (nd 4294967296 L) zc) p q L bn bd ln ld l r (.slice b0o (nd 4294967296 bn) b0c) (.slice b1o (nd 4294967296 bd) b1c) (.slice l0o (nd 4294967296 ln) l0c) (.slice l1o (nd 4294967296 ld) l1c) (.slice xo (nd 4294967296 l) xc) (.slice yo (nd 4294967296 r) yc) W → W.cell? ⟨B, 1, none⟩ = some (.slice b1o (nd 4294967296 bd) b1c) ∧ W.cell? ⟨B + 1, 1, none⟩ = some (.slice l1o (nd 4294967296 ld) l1c)) := fun W h => ⟨h.c1, h.c3⟩
      clear HS4 HQ4 HR4 HN4 HM4 e0 e1 HW4 HE0 HE1 HWZ HWB HNX HBT HRL hbest ht hld hbd HI HM
      have hs0 := HS5.out
      have hs2 := hs0.next ((Below.refl _ _).drew)
      have hc0 := HCC.out _ hs0
      have hc2 := HCC.out _ hs2
      go_wp2_with fail
      go_region_held3 (fun W : World => (W.cell? ⟨B, 1, none⟩ = some (.slice b1o (nd 4294967296 bd) b1c) ∧ W.cell? ⟨B + 1, 1, none⟩ = some (.slice l1o (nd 4294967296 ld) l1c)) ∧ NS w B (.slice vo (nd 4294967296 p) vc) (.slice uo (nd 4294967296 q) uc) (.slice zo (nd 4294967296 L) zc) p q L bn bd ln ld l r (.slice b0o (nd 4294967296 bn) b0c) (.slice b1o (nd 4294967296 bd) b1c) (.slice l0o (nd 4294967296 ln) l0c) (.slice l1o (nd 4294967296 ld) l1c) (.slice xo (nd 4294967296 l) xc) (.slice yo (nd 4294967296 r) yc) W) (first | (refine And.intro ?_ ?_ <;> assumption) | fail) (first
        | (go_at_call 32; with_reducible refine (HD1.out _ ?h).mono ?_; (case h => assumption); rintro e w' ⟨o1, a1, c1, rfl, hr', hs'⟩; have hc' := HCC.out _ hs')
        | (go_at_call 38; with_reducible refine (HD2.out _ _ ?h ?r).mono ?_; (case h => assumption); (case r => assumption); rintro e w' ⟨o2, a2, c2, rfl, hr', hs'⟩; have hc' := HCC.out _ hs') | fail)
      all_goals
        have hT : NS w B (.slice vo (nd 4294967296 p) vc) (.slice uo (nd 4294967296 q) uc) (.slice zo (nd 4294967296 L) zc) p q L bn bd ln ld l r (.slice b0o (nd 4294967296 bn) b0c) (.slice b1o (nd 4294967296 bd) b1c) (.slice l0o (nd 4294967296 ln) l0c) (.slice l1o (nd 4294967296 ld) l1c) (.slice xo (nd 4294967296 l) xc) (.slice yo (nd 4294967296 r) yc) w' := by assumption
        have hD : D w' (.slice o2 a2 c2) t := by assumption
        have HS6 := Lib.hid hT
        have HPL := Lib.hid (plus_any _ _ _ _ _ bn bd ln ld t w' hT.n0 hT.n1 hT.n2 hT.n3 hD (by omega) (by omega) (by omega) (by omega) (by omega))
        have d0 := hT.c0; have d1 := hT.c1; have d2 := hT.c2; have d3 := hT.c3
        have kon : nd 4294967296 (bn + t * ln) ≤ 2001 := by
          have := nd_mul kt k2
          exact nd_add (m := 2000) (by omega) (by omega)
        have kod : nd 4294967296 (bd + t * ld) ≤ 2001 := by
          have := nd_mul kt k3
          exact nd_add (m := 2000) (by omega) (by omega)
        clear hT hD HS5 HD1 HD2 HCC
        generalize bn + t * ln = on at *
        generalize bd + t * ld = od at *
        go_wp2_with fail
        refine HPL.out.mono ?_
        rintro e w6 ⟨nv, mv, rfl, hnv, hmv, hb⟩
        obtain ⟨no, nc, rfl, -⟩ := hnv.shape
        obtain ⟨mo, mc, rfl, -⟩ := hmv.shape
        obtain ⟨W6, hW6⟩ : ∃ W6 : World, W6 = w6.alloc (.cells #[.slice no (nd 4294967296 on) nc, .slice mo (nd 4294967296 od) mc] 82) := ⟨_, rfl⟩
        have hbW6 : Below w6.heap.size w6 W6 := by rw [hW6]; exact (Below.refl _ _).alloc (Nat.le_refl _) _
        have hS := (HS6.out.next hb).next hbW6
        have HS7 := Lib.hid hS
        have e0 : W6.cell? ⟨w6.heap.size, 0, none⟩ = some (.slice no (nd 4294967296 on) nc) := by rw [hW6]; exact World.cell?_alloc_at _ _ _ _ rfl
        have e1 : W6.cell? ⟨w6.heap.size, 1, none⟩ = some (.slice mo (nd 4294967296 od) mc) := by rw [hW6]; exact World.cell?_alloc_at _ _ _ _ rfl
        have HIN := Lib.hid (isNearer_any _ _ _ _ _ _ p q on od ln ld W6 hS.nv hS.nu (hnv.below hbW6) (hmv.below hbW6) hS.n2 hS.n3 (by omega) (by omega) (by omega) (by omega) (by omega) (by omega))
        have HN6 := Lib.hid (hnv.below hbW6); have HM6 := Lib.hid (hmv.below hbW6)
        have hwz : w6.heap.size < W6.heap.size := by rw [hW6]; simp
        have HWZ := Lib.hid hwz
        have HW6 := Lib.hid hW6
        have HE0 := Lib.hid e0; have HE1 := Lib.hid e1
        clear d0 d1 d2 d3
        have d2 := hS.c2; have d3 := hS.c3; have d4 := hS.t0; have d5 := hS.t1
        rw [hW6] at d2 d3 d4 d5
        clear hS hb hbW6 hnv hmv hW6 hwz HS6 HPL e0 e1
        by_cases hC : gapN p q on od * ld < gapN p q ln ld * od
        · rw [decide_eq_true hC] at HIN
          rw [if_pos hC, if_pos hC] at HBE
          clear hC
          go_wp2_with fail
          rw [← HW6.out]
          refine HIN.out.mono ?_
          rintro e w7 ⟨rfl, hb7⟩
          have hS := HS7.out.next hb7
          have hn := HN6.out.below hb7; have hm := HM6.out.below hb7
          have x0 := (hb7.cell (p := ⟨w6.heap.size, 0, none⟩) HWZ.out).trans HE0.out
          have x1 := (hb7.cell (p := ⟨w6.heap.size, 1, none⟩) HWZ.out).trans HE1.out
          have y0 := hS.r0; have y1 := hS.r1; have y2 := hS.z0; have y3 := hS.z1
          obtain ⟨t0, t1⟩ := read_two y0 y1 (.slice no (nd 4294967296 on) nc) (.slice mo (nd 4294967296 od) mc)
          have T0 := Lib.hid t0; have T1 := Lib.hid t1
          have E1 := Lib.hid (IsN_setTwo hn y0 y1 (by intro d h; cases h) (by intro d h; cases h) (.slice no (nd 4294967296 on) nc) (.slice mo (nd 4294967296 od) mc))
          have E2 := Lib.hid (IsN_setTwo hm y0 y1 (by intro d h; cases h) (by intro d h; cases h) (.slice no (nd 4294967296 on) nc) (.slice mo (nd 4294967296 od) mc))
          have E3 := Lib.hid ((hS.bel.setCell (p := ⟨w.heap.size + 1, 0, none⟩) (by show w.heap.size ≤ w.heap.size + 1; omega) (.slice no (nd 4294967296 on) nc)).setCell (p := ⟨w.heap.size + 1, 1, none⟩) (by show w.heap.size ≤ w.heap.size + 1; omega) (.slice mo (nd 4294967296 od) mc))
          clear hS hn hm hb7 t0 t1
          go_wp2
          have t0 := T0.out; have t1 := T1.out
          refine bodyPost_ret (v := .agg #[.slice no (nd 4294967296 on) nc, .slice mo (nd 4294967296 od) mc]) (by simp [results, Tryd.results45, go_sem, t0, t1]) rfl ⟨_, _, _, _, rfl, E1.out, E2.out, HBE.out, E3.out⟩
        · rw [decide_eq_false hC] at HIN
          rw [if_neg hC, if_neg hC] at HBE
          clear hC
          go_wp2_with fail
          rw [← HW6.out]
          refine HIN.out.mono ?_
          rintro e w7 ⟨rfl, hb7⟩
          have hS := HS7.out.next hb7
          have x0 := hS.c2; have x1 := hS.c3
          have y0 := hS.r0; have y1 := hS.r1; have y2 := hS.z0; have y3 := hS.z1
          obtain ⟨t0, t1⟩ := read_two y0 y1 (.slice l0o (nd 4294967296 ln) l0c) (.slice l1o (nd 4294967296 ld) l1c)
          have T0 := Lib.hid t0; have T1 := Lib.hid t1
          have E1 := Lib.hid (IsN_setTwo hS.n2 y0 y1 (by intro d h; cases h) (by intro d h; cases h) (.slice l0o (nd 4294967296 ln) l0c) (.slice l1o (nd 4294967296 ld) l1c))
          have E2 := Lib.hid (IsN_setTwo hS.n3 y0 y1 (by intro d h; cases h) (by intro d h; cases h) (.slice l0o (nd 4294967296 ln) l0c) (.slice l1o (nd 4294967296 ld) l1c))
          have E3 := Lib.hid ((hS.bel.setCell (p := ⟨w.heap.size + 1, 0, none⟩) (by show w.heap.size ≤ w.heap.size + 1; omega) (.slice l0o (nd 4294967296 ln) l0c)).setCell (p := ⟨w.heap.size + 1, 1, none⟩) (by show w.heap.size ≤ w.heap.size + 1; omega) (.slice l1o (nd 4294967296 ld) l1c))
          clear hS hb7 t0 t1
          go_wp2
          have t0 := T0.out; have t1 := T1.out
          refine bodyPost_ret (v := .agg #[.slice l0o (nd 4294967296 ln) l0c, .slice l1o (nd 4294967296 ld) l1c]) (by simp [results, Tryd.results45, go_sem, t0, t1]) rfl ⟨_, _, _, _, rfl, E1.out, E2.out, HBE.out, E3.out⟩
    · have hk : ¬ (0 : Int) < cmpN ((nm : Nat) : Int) ((L : Nat) : Int) := by
        rcases Nat.eq_or_lt_of_le hc with h | h
        · rw [cmpN_eq (by omega)]; decide
        · rw [cmpN_lt (by omega)]; decide
      generalize cmpN ((nm : Nat) : Int) ((L : Nat) : Int) = kk at *
      go_wp2_with fail
      rw [← HW4.out]
      go_wp2_with fail
      refine HCM.out.mono ?_
      rintro e w5 ⟨rfl, k, rfl⟩
      have d0 := HS4.out.c0; have d1 := HS4.out.c1; have d2 := HS4.out.c2; have d3 := HS4.out.c3; have y0 := HS4.out.f0; have y1 := HS4.out.f1; have y2 := HS4.out.f2; have y3 := HS4.out.f3
      have e0 := HE0.out; have e1 := HE1.out
      have hne1 : ¬ B = w4.heap.size := by have := HWB.out; omega
      have hne2 : ¬ w4.heap.size = B := by have := HWB.out; omega
      have hne3 : ¬ B + 1 = w4.heap.size := by have := HWB.out; omega
      have hne4 : ¬ w4.heap.size = B + 1 := by have := HWB.out; omega
      have bk := below_drewN (Below.refl W4.heap.size W4) (k + 1)
      have HSN := Lib.hid ((HS4.out.next bk).shift ⟨_, _, _, rfl⟩ ⟨_, _, _, rfl⟩ (HN4.out.below bk) (HM4.out.below bk) (HR4.out.below bk))
      clear bk
      go_wp2_with fail
      go_region
      go_wp2
      go_roundg R
      case measure => have h1 := HRL.out; have h2 := HM.out; omega
      case rel => exact ⟨ln, ld, nn, nm, r, R, _, _, _, _, _, _, rfl, rfl, rfl, HNX.out (by omega), HSN.out⟩
end Go.Proofs.YthafnhjnlfpifaaDoor
