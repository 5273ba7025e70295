/- Plain arithmetic of digits: numbers as lists of digits to a base, the lowest first; what one round of each loop over digits does; one digit of a long division. No Go, no program. -/
namespace Gu

def val (B : Nat) : List Nat → Nat
  | [] => 0
  | d :: l => d + B * val B l

def Dig (B : Nat) (l : List Nat) : Prop := ∀ i (h : i < l.length), l[i] < B

theorem Dig.nil (B : Nat) : Dig B [] := fun i h => by simp at h
theorem Dig.tail {B d : Nat} {l : List Nat} (h : Dig B (d :: l)) : Dig B l := fun i hi => by
  have := h (i + 1) (by simp; omega); simpa using this
theorem Dig.head {B d : Nat} {l : List Nat} (h : Dig B (d :: l)) : d < B := by
  have := h 0 (by simp); simpa using this
theorem Dig.cons {B d : Nat} {l : List Nat} (hd : d < B) (h : Dig B l) : Dig B (d :: l) := fun i hi => by
  cases i with
  | zero => simpa using hd
  | succ i => have := h i (by simp at hi; omega); simpa using this
theorem Dig.take {B : Nat} {l : List Nat} (h : Dig B l) (k : Nat) : Dig B (l.take k) := fun i hi => by
  simp at hi; have := h i (by omega); simpa using this
theorem Dig.drop {B : Nat} {l : List Nat} (h : Dig B l) (k : Nat) : Dig B (l.drop k) := fun i hi => by
  simp at hi; have := h (k + i) (by omega); simpa using this
theorem Dig.append {B : Nat} {l m : List Nat} (h : Dig B l) (h' : Dig B m) : Dig B (l ++ m) := fun i hi => by
  rw [List.getElem_append]; split
  · exact h _ _
  · exact h' _ _
theorem Dig.set {B : Nat} {l : List Nat} (h : Dig B l) (k d : Nat) (hd : d < B) : Dig B (l.set k d) := fun i hi => by
  rw [List.getElem_set]; split
  · exact hd
  · exact h _ _
theorem Dig.replicate {B : Nat} (n : Nat) (h : 0 < B) : Dig B (List.replicate n 0) := fun i hi => by simpa using h
theorem Dig.getD {B : Nat} {l : List Nat} (h : Dig B l) (hB : 0 < B) (i : Nat) : l.getD i 0 < B := by
  rw [List.getD_eq_getElem?_getD]
  by_cases hi : i < l.length
  · simp [hi]; exact h i hi
  · simp [Nat.not_lt.1 hi]; exact hB

theorem val_nil (B : Nat) : val B [] = 0 := rfl
theorem val_cons (B d : Nat) (l : List Nat) : val B (d :: l) = d + B * val B l := rfl
theorem val_append (B : Nat) (l m : List Nat) : val B (l ++ m) = val B l + B ^ l.length * val B m := by
  induction l with
  | nil => simp [val]
  | cons d l ih => simp only [List.cons_append, val_cons, ih, List.length_cons, Nat.pow_succ]; rw [Nat.mul_add, Nat.add_assoc, Nat.mul_comm (B ^ l.length) B, Nat.mul_assoc]
theorem val_replicate (B n : Nat) : val B (List.replicate n 0) = 0 := by
  induction n with
  | zero => rfl
  | succ n ih => simp [List.replicate_succ, val_cons, ih]
theorem val_snoc (B d : Nat) (l : List Nat) : val B (l ++ [d]) = val B l + B ^ l.length * d := by rw [val_append]; simp [val]
theorem val_lt {B : Nat} {l : List Nat} (h : Dig B l) : val B l < B ^ l.length := by
  induction l with
  | nil => simp [val]
  | cons d l ih =>
    have h1 := ih h.tail
    have h2 := h.head
    rw [val_cons, List.length_cons, Nat.pow_succ]
    calc d + B * val B l < B + B * val B l := by omega
      _ = B * (val B l + 1) := by rw [Nat.mul_add]; omega
      _ ≤ B * B ^ l.length := Nat.mul_le_mul_left _ h1
      _ = B ^ l.length * B := Nat.mul_comm _ _

/-- taking one digit more -/
theorem val_take_succ (B : Nat) (l : List Nat) (k : Nat) (h : k < l.length) : val B (l.take (k + 1)) = val B (l.take k) + B ^ k * l[k] := by
  rw [List.take_succ_eq_append_getElem h, val_snoc, List.length_take, Nat.min_eq_left (by omega)]

theorem val_take_drop (B : Nat) (l : List Nat) (k : Nat) (h : k ≤ l.length) : val B l = val B (l.take k) + B ^ k * val B (l.drop k) := by
  have := val_append B (l.take k) (l.drop k)
  rw [List.take_append_drop, List.length_take, Nat.min_eq_left h] at this
  exact this

/-- storing a digit where there was none -/
theorem val_set (B : Nat) (l : List Nat) (k d : Nat) (h : k < l.length) : val B (l.set k d) + B ^ k * l[k] = val B l + B ^ k * d := by
  induction l generalizing k with
  | nil => simp at h
  | cons x l ih =>
    cases k with
    | zero => simp [val_cons]; omega
    | succ k =>
      have := ih k (by simpa using h)
      simp only [List.set_cons_succ, val_cons, List.getElem_cons_succ, Nat.pow_succ]
      have e1 : B ^ k * B * l[k]'(by simpa using h) = B * (B ^ k * l[k]'(by simpa using h)) := by rw [Nat.mul_comm (B ^ k) B, Nat.mul_assoc]
      have e2 : B ^ k * B * d = B * (B ^ k * d) := by rw [Nat.mul_comm (B ^ k) B, Nat.mul_assoc]
      rw [e1, e2, Nat.add_assoc, ← Nat.mul_add, this, Nat.mul_add]; omega

/-! canonical digits -/
def digs (B n : Nat) : List Nat :=
  if _h : n = 0 ∨ B < 2 then [] else n % B :: digs B (n / B)
termination_by n
decreasing_by exact Nat.div_lt_self (by omega) (by omega)

theorem digs_zero (B : Nat) : digs B 0 = [] := by unfold digs; simp
theorem digs_pos {B n : Nat} (hB : 2 ≤ B) (h : 0 < n) : digs B n = n % B :: digs B (n / B) := by
  rw [digs]; rw [dif_neg (by omega)]
theorem digs_dig {B : Nat} (hB : 2 ≤ B) (n : Nat) : Dig B (digs B n) := by
  induction n using Nat.strongRecOn with
  | ind n ih =>
    by_cases h : n = 0
    · subst h; rw [digs_zero]; exact Dig.nil B
    · rw [digs_pos hB (by omega)]
      exact Dig.cons (Nat.mod_lt _ (by omega)) (ih _ (Nat.div_lt_self (by omega) (by omega)))
theorem val_digs {B : Nat} (hB : 2 ≤ B) (n : Nat) : val B (digs B n) = n := by
  induction n using Nat.strongRecOn with
  | ind n ih =>
    by_cases h : n = 0
    · subst h; rw [digs_zero]; rfl
    · rw [digs_pos hB (by omega), val_cons, ih _ (Nat.div_lt_self (by omega) (by omega))]
      exact Nat.mod_add_div n B
/-- no zero at the top -/
def Tr (l : List Nat) : Prop := ∀ h : 0 < l.length, l[l.length - 1] ≠ 0
theorem Tr.tail {d : Nat} {l : List Nat} (h : Tr (d :: l)) : Tr l := fun hl => by
  have h1 := h (by simp)
  have e : (d :: l).length - 1 = (l.length - 1) + 1 := by simp; omega
  simp only [e, List.getElem_cons_succ] at h1
  exact h1
theorem val_pos {B : Nat} {l : List Nat} (hB : 0 < B) (ht : Tr l) (hl : 0 < l.length) : 0 < val B l := by
  induction l with
  | nil => simp at hl
  | cons d l ih =>
    rw [val_cons]
    by_cases h0 : l.length = 0
    · have := ht hl
      have hnil : l = [] := List.length_eq_zero_iff.1 h0
      subst hnil
      simp at this; omega
    · have := ih ht.tail (by omega)
      have := Nat.mul_pos hB this
      omega
theorem digs_val {B : Nat} (hB : 2 ≤ B) {l : List Nat} (hd : Dig B l) (ht : Tr l) : digs B (val B l) = l := by
  induction l with
  | nil => exact digs_zero B
  | cons d l ih =>
    have hp := val_pos (by omega : 0 < B) ht (by simp)
    rw [digs_pos hB hp, val_cons]
    have h1 : (d + B * val B l) % B = d := by rw [Nat.add_mul_mod_self_left, Nat.mod_eq_of_lt hd.head]
    have h2 : (d + B * val B l) / B = val B l := by rw [Nat.add_mul_div_left _ _ (by omega : 0 < B), Nat.div_eq_of_lt hd.head]; omega
    rw [h1, h2, ih hd.tail ht.tail]
theorem digs_tr {B : Nat} (hB : 2 ≤ B) (n : Nat) : Tr (digs B n) := by
  induction n using Nat.strongRecOn with
  | ind n ih =>
    by_cases h : n = 0
    · subst h; rw [digs_zero]; intro h; simp at h
    · rw [digs_pos hB (by omega)]
      intro hl
      have hi := ih _ (Nat.div_lt_self (by omega : 0 < n) hB)
      by_cases h0 : n / B = 0
      · simp only [h0, digs_zero]
        simp
        have : n < B := by
          rcases Nat.lt_or_ge n B with h' | h'
          · exact h'
          · have := Nat.div_pos h' (by omega); omega
        rw [Nat.mod_eq_of_lt this]; omega
      · have hl' : 0 < (digs B (n / B)).length := by rw [digs_pos hB (Nat.pos_of_ne_zero h0)]; simp
        have := hi hl'
        have e : (n % B :: digs B (n / B)).length - 1 = ((digs B (n / B)).length - 1) + 1 := by simp; omega
        simp only [e, List.getElem_cons_succ]
        exact this
theorem digs_getD {B : Nat} (hB : 2 ≤ B) (n i : Nat) : (digs B n).getD i 0 = n / B ^ i % B := by
  induction i generalizing n with
  | zero =>
    by_cases h : n = 0
    · subst h; rw [digs_zero]; simp
    · rw [digs_pos hB (by omega)]; simp
  | succ i ih =>
    by_cases h : n = 0
    · subst h; rw [digs_zero]; simp
    · rw [digs_pos hB (by omega), List.getD_cons_succ, ih, Nat.div_div_eq_div_mul, Nat.pow_succ, Nat.mul_comm B]
theorem digs_getElem {B : Nat} (hB : 2 ≤ B) (n i : Nat) (h : i < (digs B n).length) : (digs B n)[i] = n / B ^ i % B := by
  rw [← digs_getD hB]; simp [h]
theorem digs_len_le {B : Nat} (hB : 2 ≤ B) {n k : Nat} : (digs B n).length ≤ k ↔ n < B ^ k := by
  induction k generalizing n with
  | zero =>
    constructor
    · intro h
      have : digs B n = [] := List.length_eq_zero_iff.1 (by omega)
      have h2 := val_digs hB n
      rw [this] at h2; simp [val] at h2; simp; omega
    · intro h
      have : n = 0 := by simp at h; omega
      subst this; rw [digs_zero]; simp
  | succ k ih =>
    by_cases h : n = 0
    · subst h; rw [digs_zero]; simp; exact Nat.pow_pos (by omega)
    · rw [digs_pos hB (by omega), List.length_cons, Nat.add_le_add_iff_right, ih, Nat.div_lt_iff_lt_mul (by omega), Nat.pow_succ]
theorem digs_lt_pow {B : Nat} (hB : 2 ≤ B) (n : Nat) : n < B ^ (digs B n).length := (digs_len_le hB).1 (Nat.le_refl _)
theorem digs_len_mono {B : Nat} (hB : 2 ≤ B) {m n : Nat} (h : m ≤ n) : (digs B m).length ≤ (digs B n).length :=
  (digs_len_le hB).2 (Nat.lt_of_le_of_lt h (digs_lt_pow hB n))
theorem digs_pow_le {B : Nat} (hB : 2 ≤ B) {n : Nat} (h : 0 < n) : B ^ ((digs B n).length - 1) ≤ n := by
  rcases Nat.lt_or_ge n (B ^ ((digs B n).length - 1)) with h' | h'
  · have := (digs_len_le hB).2 h'
    have hp : 0 < (digs B n).length := by rw [digs_pos hB h]; simp
    omega
  · exact h'
theorem digs_len_zero {B : Nat} (hB : 2 ≤ B) {n : Nat} : (digs B n).length = 0 ↔ n = 0 := by
  have := digs_len_le hB (n := n) (k := 0)
  simp at this
  constructor
  · intro h; have h2 : digs B n = [] := List.length_eq_zero_iff.1 h; exact this.1 h2
  · intro h; subst h; rw [digs_zero]; rfl
theorem val_take_digs {B : Nat} (hB : 2 ≤ B) (n k : Nat) : val B ((digs B n).take k) = n % B ^ k := by
  induction k generalizing n with
  | zero => simp [val, Nat.mod_one]
  | succ k ih =>
    by_cases h : n = 0
    · subst h; rw [digs_zero]; simp [val]
    · rw [digs_pos hB (by omega), List.take_succ_cons, val_cons, ih, Nat.pow_succ, Nat.mul_comm (B ^ k) B, Nat.mod_mul]
/-- dropping zeros at the top changes no value -/
theorem val_take_of_zero (B : Nat) (l : List Nat) (n : Nat) (h : ∀ i (hi : i < l.length), n ≤ i → l[i] = 0) : val B (l.take n) = val B l := by
  by_cases hn : n ≤ l.length
  · have hz : l.drop n = List.replicate (l.length - n) 0 := by
      apply List.ext_getElem (by simp)
      intro i h1 h2
      simp at h1 ⊢
      exact h _ _ (by omega)
    rw [val_take_drop B l n hn, hz, val_replicate]; simp
  · rw [List.take_of_length_le (by omega)]

/-- the digits of the value are the list without its zeros at the top -/
theorem digs_of_take {B : Nat} (hB : 2 ≤ B) {l : List Nat} (hd : Dig B l) {n : Nat} (hn : n ≤ l.length) (hz : ∀ i (hi : i < l.length), n ≤ i → l[i] = 0) (ht : ∀ h : 0 < n, l[n - 1]'(by omega) ≠ 0) : digs B (val B l) = l.take n := by
  rw [← val_take_of_zero B l n hz]
  apply digs_val hB (hd.take n)
  intro h
  simp only [List.length_take, Nat.min_eq_left hn] at h ⊢
  simpa using ht h

/-! ### digits by their place -/
/-- the digit of x with the weight B^i -/
def dg (B x i : Nat) : Nat := x / B ^ i % B
/-- the number of digits -/
def nd (B n : Nat) : Nat := (digs B n).length
/-- the lowest m digits, as a list -/
def pad (B m x : Nat) : List Nat := (List.range m).map (dg B x)

theorem dg_lt {B : Nat} (hB : 0 < B) (x i : Nat) : dg B x i < B := Nat.mod_lt _ hB
theorem dg_zero (B i : Nat) : dg B 0 i = 0 := by simp [dg]
theorem dg_high {B x k i : Nat} (hB : 0 < B) (hx : x < B ^ k) (h : k ≤ i) : dg B x i = 0 := by
  have : x < B ^ i := Nat.lt_of_lt_of_le hx (Nat.pow_le_pow_right hB h)
  simp [dg, Nat.div_eq_of_lt this]
theorem dg_mod {B x k i : Nat} (_hB : 0 < B) (h : i < k) : dg B (x % B ^ k) i = dg B x i := by
  obtain ⟨j, rfl⟩ : ∃ j, k = i + (j + 1) := ⟨k - i - 1, by omega⟩
  unfold dg
  rw [Nat.pow_add, Nat.mod_mul_right_div_self, Nat.pow_succ, Nat.mul_comm (B ^ j) B, Nat.mod_mul_right_mod]
/-- digits of a sum of a low and a high part -/
theorem dg_low {B x y k i : Nat} (hB : 0 < B) (h : i < k) : dg B (x + B ^ k * y) i = dg B x i := by
  rw [← dg_mod hB h, Nat.add_mul_mod_self_left, dg_mod hB h]
theorem dg_up {B x y k i : Nat} (hB : 0 < B) (hx : x < B ^ k) : dg B (x + B ^ k * y) (k + i) = dg B y i := by
  unfold dg
  rw [Nat.pow_add, ← Nat.div_div_eq_div_mul, Nat.add_mul_div_left _ _ (Nat.pow_pos hB), Nat.div_eq_of_lt hx, Nat.zero_add]
theorem dg_self {B x y k : Nat} (hB : 0 < B) (hx : x < B ^ k) (hy : y < B) : dg B (x + B ^ k * y) k = y := by
  have := dg_up (i := 0) (y := y) hB hx
  rw [Nat.add_zero] at this
  rw [this, dg]; simp [Nat.mod_eq_of_lt hy]
/-- one digit more -/
theorem mod_succ (B x k : Nat) : x % B ^ (k + 1) = x % B ^ k + B ^ k * dg B x k := by
  unfold dg; exact Nat.mod_pow_succ
theorem div_succ (B x k : Nat) : x / B ^ k = dg B x k + B * (x / B ^ (k + 1)) := by
  unfold dg
  rw [Nat.pow_succ, ← Nat.div_div_eq_div_mul]
  exact (Nat.mod_add_div _ _).symm
theorem eq_mod {B x k : Nat} (hx : x < B ^ k) : x % B ^ k = x := Nat.mod_eq_of_lt hx
/-- two numbers with the same digits -/
theorem eq_of_dg {B x y m : Nat} (hx : x < B ^ m) (hy : y < B ^ m) (h : ∀ i, i < m → dg B x i = dg B y i) : x = y := by
  have key : ∀ k, k ≤ m → x % B ^ k = y % B ^ k := by
    intro k
    induction k with
    | zero => intro _; simp [Nat.mod_one]
    | succ k ih => intro hk; rw [mod_succ, mod_succ, ih (by omega), h k (by omega)]
  have := key m (Nat.le_refl _)
  rwa [eq_mod hx, eq_mod hy] at this
theorem snoc_lt {B x d k : Nat} (hx : x < B ^ k) (hd : d < B) : x + B ^ k * d < B ^ (k + 1) := by
  have : B ^ k * d + B ^ k ≤ B ^ k * B := by rw [← Nat.mul_succ]; exact Nat.mul_le_mul_left _ hd
  rw [Nat.pow_succ]; omega

theorem pad_length (B m x : Nat) : (pad B m x).length = m := by simp [pad]
theorem pad_getElem (B m x i : Nat) (h : i < (pad B m x).length) : (pad B m x)[i] = dg B x i := by simp [pad]
theorem pad_getD (B m x i : Nat) (h : i < m) : (pad B m x).getD i 0 = dg B x i := by simp [pad, h]
theorem pad_zero (B m : Nat) : pad B m 0 = List.replicate m 0 := by
  apply List.ext_getElem (by simp [pad])
  intro i h1 h2; simp [pad, dg_zero]
theorem pad_succ {B x d k : Nat} (hB : 0 < B) (hx : x < B ^ k) (hd : d < B) : pad B (k + 1) (x + B ^ k * d) = pad B k x ++ [d] := by
  unfold pad
  rw [List.range_succ, List.map_append]
  congr 1
  · apply List.map_congr_left
    intro i hi
    exact dg_low hB (by simpa using hi)
  · simp [dg_self hB hx hd]
/-- storing a digit at place k of a number whose digit there is 0 -/
theorem pad_set {B m x k : Nat} (hB : 0 < B) (hx : x < B ^ k) {d : Nat} (hd : d < B) : (pad B m x).set k d = pad B m (x + B ^ k * d) := by
  apply List.ext_getElem (by simp [pad])
  intro i h1 h2
  simp only [List.getElem_set, pad_getElem]
  split
  · rename_i h; subst h; rw [dg_self hB hx hd]
  · rename_i h
    rcases Nat.lt_or_gt_of_ne h with h' | h'
    · obtain ⟨j, rfl⟩ : ∃ j, i = k + 1 + j := ⟨i - k - 1, by omega⟩
      rw [dg_high hB hx (by omega), dg_high hB (snoc_lt hx hd) (by omega)]
    · rw [dg_low hB h']
theorem digs_eq_pad {B : Nat} (hB : 2 ≤ B) (n : Nat) : digs B n = pad B (nd B n) n := by
  apply List.ext_getElem (by simp [pad, nd])
  intro i h1 h2
  rw [pad_getElem, digs_getElem hB, dg]
theorem nd_le {B : Nat} (hB : 2 ≤ B) {n k : Nat} : nd B n ≤ k ↔ n < B ^ k := digs_len_le hB
theorem nd_lt {B : Nat} (hB : 2 ≤ B) (n : Nat) : n < B ^ nd B n := digs_lt_pow hB n
theorem nd_mono {B : Nat} (hB : 2 ≤ B) {m n : Nat} (h : m ≤ n) : nd B m ≤ nd B n := digs_len_mono hB h
theorem nd_zero (B : Nat) : nd B 0 = 0 := by simp [nd, digs_zero]
theorem nd_eq_zero {B : Nat} (hB : 2 ≤ B) {n : Nat} : nd B n = 0 ↔ n = 0 := digs_len_zero hB
theorem nd_pow_le {B : Nat} (hB : 2 ≤ B) {n : Nat} (h : 0 < n) : B ^ (nd B n - 1) ≤ n := digs_pow_le hB h
theorem nd_pos {B : Nat} (hB : 2 ≤ B) {n : Nat} (h : 0 < n) : 0 < nd B n := by
  rcases Nat.eq_zero_or_pos (nd B n) with h' | h'
  · have := (nd_eq_zero hB).1 h'; omega
  · exact h'
/-- the highest digit is not 0 -/
theorem dg_top {B : Nat} (hB : 2 ≤ B) {n : Nat} (h : 0 < n) : 0 < dg B n (nd B n - 1) := by
  have h1 := nd_pow_le hB h
  have h2 := nd_lt hB n
  have h3 := nd_pos hB h
  obtain ⟨k, hk⟩ : ∃ k, nd B n = k + 1 := ⟨nd B n - 1, by omega⟩
  rw [hk] at h1 h2 ⊢
  simp only [Nat.add_sub_cancel] at h1 ⊢
  unfold dg
  have hq : n / B ^ k < B := by rw [Nat.div_lt_iff_lt_mul (Nat.pow_pos (by omega)), Nat.mul_comm]; rwa [Nat.pow_succ] at h2
  rw [Nat.mod_eq_of_lt hq]
  exact Nat.div_pos h1 (Nat.pow_pos (by omega))
/-- where the number of digits is known -/
theorem nd_of {B : Nat} (hB : 2 ≤ B) {n k : Nat} (h : n < B ^ k) (ht : 0 < k → dg B n (k - 1) ≠ 0) : nd B n = k := by
  have h1 := (nd_le hB).2 h
  rcases Nat.lt_or_ge (nd B n) k with h' | h'
  · have := ht (by omega)
    have := dg_high (by omega : 0 < B) (nd_lt hB n) (show nd B n ≤ k - 1 by omega)
    omega
  · omega
theorem nd_snoc {B : Nat} (hB : 2 ≤ B) {x d k : Nat} (hx : x < B ^ k) (hd : d < B) (h0 : 0 < d) : nd B (x + B ^ k * d) = k + 1 :=
  nd_of hB (snoc_lt hx hd) (fun _ => by rw [Nat.add_sub_cancel, dg_self (by omega) hx hd]; omega)

end Gu

namespace Gu

theorem add_step {P B X c A C da db : Nat} (h : X + P * c = A + C) :
    (X + P * ((c + da + db) % B)) + P * B * ((c + da + db) / B) = (A + P * da) + (C + P * db) := by
  have e := Nat.mod_add_div (c + da + db) B
  generalize (c + da + db) % B = m at *
  generalize (c + da + db) / B = q at *
  have e2 : P * (m + B * q) = P * (c + da + db) := by rw [e]
  rw [Nat.mul_add, Nat.mul_add, Nat.mul_add, ← Nat.mul_assoc] at e2
  omega
/-- one round of the addition: the numbers to the power k, their digits, the carry -/
theorem sum_round {B a b X c k : Nat} (h : X + B ^ k * c = a % B ^ k + b % B ^ k) :
    (X + B ^ k * ((c + dg B a k + dg B b k) % B)) + B ^ (k + 1) * ((c + dg B a k + dg B b k) / B) = a % B ^ (k + 1) + b % B ^ (k + 1) := by
  rw [mod_succ, mod_succ, Nat.pow_succ]
  exact add_step h
/-- the borrow -/
theorem sub_step {P B X br A C da db d br' : Nat} (h : X + C = A + P * br) (hd : d + db + br = da + B * br') :
    (X + P * d) + (C + P * db) = (A + P * da) + P * B * br' := by
  have e : P * (d + db + br) = P * (da + B * br') := by rw [hd]
  rw [Nat.mul_add, Nat.mul_add, Nat.mul_add, ← Nat.mul_assoc] at e
  omega
theorem sub_round {B a b X br k d br' : Nat} (h : X + b % B ^ k = a % B ^ k + B ^ k * br) (hd : d + dg B b k + br = dg B a k + B * br') :
    (X + B ^ k * d) + b % B ^ (k + 1) = a % B ^ (k + 1) + B ^ (k + 1) * br' := by
  rw [mod_succ, mod_succ, Nat.pow_succ]
  exact sub_step h hd
/-- adding a multiple of a row to a window -/
theorem mul_step {P B X c O R dO dR f : Nat} (h : X + P * c = O + f * R) :
    (X + P * ((c + dR * f + dO) % B)) + P * B * ((c + dR * f + dO) / B) = (O + P * dO) + f * (R + P * dR) := by
  have e := Nat.mod_add_div (c + dR * f + dO) B
  generalize (c + dR * f + dO) % B = m at *
  generalize (c + dR * f + dO) / B = q at *
  have e2 : P * (m + B * q) = P * (c + dR * f + dO) := by rw [e]
  rw [Nat.mul_add, Nat.mul_add, Nat.mul_add, ← Nat.mul_assoc] at e2
  have e3 : f * (R + P * dR) = f * R + P * (dR * f) := by rw [Nat.mul_add, Nat.mul_comm dR f, Nat.mul_left_comm]
  omega
theorem mul_round {B o r X c f k : Nat} (h : X + B ^ k * c = o % B ^ k + f * (r % B ^ k)) :
    (X + B ^ k * ((c + dg B r k * f + dg B o k) % B)) + B ^ (k + 1) * ((c + dg B r k * f + dg B o k) / B) = o % B ^ (k + 1) + f * (r % B ^ (k + 1)) := by
  rw [mod_succ, mod_succ, Nat.pow_succ]
  exact mul_step h
/-- the carry of a product of digits is a digit -/
theorem carry_lt {B c d f o : Nat} (hc : c < B) (hd : d < B) (hf : f < B) (ho : o < B) : (c + d * f + o) / B < B := by
  have h1 : d * f ≤ (B - 1) * (B - 1) := Nat.mul_le_mul (by omega) (by omega)
  obtain ⟨b, rfl⟩ : ∃ b, B = b + 1 := ⟨B - 1, by omega⟩
  simp only [Nat.add_sub_cancel] at h1
  rw [Nat.div_lt_iff_lt_mul (by omega)]
  have : (b + 1) * (b + 1) = b * b + 2 * b + 1 := by rw [Nat.add_mul, Nat.mul_add]; omega
  omega
/-- subtracting a multiple of a row from a window: the product's carry and the borrow -/
theorem subrow_step {P B X c br O R dO dR f m q d br' : Nat} (h : X + f * R = O + P * c + P * br) (e : m + B * q = c + dR * f) (hd : d + m + br = dO + B * br') :
    (X + P * d) + f * (R + P * dR) = (O + P * dO) + P * B * q + P * B * br' := by
  have e2 : P * (m + B * q) = P * (c + dR * f) := by rw [e]
  have e4 : P * (d + m + br) = P * (dO + B * br') := by rw [hd]
  rw [Nat.mul_add, Nat.mul_add, ← Nat.mul_assoc] at e2
  rw [Nat.mul_add, Nat.mul_add, Nat.mul_add, ← Nat.mul_assoc] at e4
  have e3 : f * (R + P * dR) = f * R + P * (dR * f) := by rw [Nat.mul_add, Nat.mul_comm dR f, Nat.mul_left_comm]
  omega
theorem subrow_round {B o r X c br f k m q d br' : Nat} (h : X + f * (r % B ^ k) = o % B ^ k + B ^ k * c + B ^ k * br) (e : m + B * q = c + dg B r k * f) (hd : d + m + br = dg B o k + B * br') :
    (X + B ^ k * d) + f * (r % B ^ (k + 1)) = o % B ^ (k + 1) + B ^ (k + 1) * q + B ^ (k + 1) * br' := by
  rw [mod_succ, mod_succ, Nat.pow_succ]
  exact subrow_step h e hd
/-- dividing by one digit, from the top -/
theorem divdig_round {B a b Q r k : Nat} (hb : 0 < b) (h : a / B ^ (k + 1) = Q * b + r) (_hr : r < b) :
    a / B ^ k = (B * Q + (r * B + dg B a k) / b) * b + (r * B + dg B a k) % b := by
  rw [div_succ B a k, h]
  have e := Nat.div_add_mod (r * B + dg B a k) b
  generalize (r * B + dg B a k) / b = q at *
  generalize (r * B + dg B a k) % b = m at *
  rw [Nat.add_mul, Nat.mul_add, Nat.mul_assoc, Nat.mul_comm r B] at *
  have := Nat.mul_comm b q
  have := hb
  omega
theorem divdig_lt {B b r d : Nat} (hr : r < b) (hd : d < B) : (r * B + d) / b < B := by
  rw [Nat.div_lt_iff_lt_mul (by omega)]
  have : r * B + B ≤ b * B := by rw [← Nat.succ_mul]; exact Nat.mul_le_mul_right _ hr
  rw [Nat.mul_comm B b]; omega
/-- shifting left -/
theorem shl_step {P B X c A s d : Nat} (h : X + P * c = A * s) :
    (X + P * ((c + d * s) % B)) + P * B * ((c + d * s) / B) = (A + P * d) * s := by
  have e := Nat.mod_add_div (c + d * s) B
  generalize (c + d * s) % B = m at *
  generalize (c + d * s) / B = q at *
  have e2 : P * (m + B * q) = P * (c + d * s) := by rw [e]
  rw [Nat.mul_add, Nat.mul_add, ← Nat.mul_assoc] at e2
  have e3 : (A + P * d) * s = A * s + P * (d * s) := by rw [Nat.add_mul, Nat.mul_assoc]
  omega
theorem shl_round {B a X c s k : Nat} (h : X + B ^ k * c = (a % B ^ k) * s) :
    (X + B ^ k * ((c + dg B a k * s) % B)) + B ^ (k + 1) * ((c + dg B a k * s) / B) = (a % B ^ (k + 1)) * s := by
  rw [mod_succ, Nat.pow_succ]
  exact shl_step h
theorem shl_carry {B c d s : Nat} (hc : c < s) (hd : d < B) : (c + d * s) / B < s := by
  rw [Nat.div_lt_iff_lt_mul (by omega)]
  have : d * s + s ≤ B * s := by rw [← Nat.succ_mul]; exact Nat.mul_le_mul_right _ hd
  rw [Nat.mul_comm s B]; omega
/-- shifting right: the digit i of a divided by B^w * s comes of two digits of a -/
theorem shr_digit {B a w s i : Nat} (hB : 0 < B) (hsB : s ∣ B) :
    dg B (a / (B ^ w * s)) i = ((dg B a (i + w) + B * dg B a (i + w + 1)) / s) % B := by
  unfold dg
  rw [Nat.div_div_eq_div_mul, show B ^ w * s * B ^ i = B ^ (i + w) * s by rw [Nat.pow_add, Nat.mul_comm (B ^ i), Nat.mul_assoc, Nat.mul_assoc, Nat.mul_comm s], ← Nat.div_div_eq_div_mul]
  have e1 : a / B ^ (i + w + 1) = a / B ^ (i + w) / B := by rw [Nat.pow_succ, ← Nat.div_div_eq_div_mul]
  rw [e1]
  generalize a / B ^ (i + w) = x
  obtain ⟨t, rfl⟩ := hsB
  have ht : 0 < t := Nat.pos_of_mul_pos_left hB
  -- x / s % (s t) against ((x % (s t) + s t * (x / (s t) % (s t))) / s) % (s t)
  have e2 : x % (s * t) + s * t * (x / (s * t) % (s * t)) = x % ((s * t) * (s * t)) := (Nat.mod_mul).symm
  rw [e2]
  have e3 : x % (s * t * (s * t)) / s = x / s % (t * (s * t)) := by
    rw [Nat.mul_assoc, Nat.mod_mul_right_div_self]
  rw [e3, Nat.mul_comm t (s * t), Nat.mod_mul_right_mod]
end Gu

namespace Gu

/-- what the estimate comes to: the greatest guess that is a digit and whose product with the two highest digits of the divisor is at most the three highest of the window -/
def est (B u v : Nat) : Nat := min (B - 1) (u / v)

theorem est_ge {B P u v wl dl q : Nat} (hv : 0 < v) (hB : 0 < B) (hwl : wl < P) (hlt : P * u + wl < (P * v + dl) * B) (hq : q = (P * u + wl) / (P * v + dl)) : q ≤ est B u v := by
  have hD : 0 < P * v + dl := by have : 0 < P * v := Nat.mul_pos (by omega) hv; omega
  have h1 : q ≤ B - 1 := by
    have : q < B := by rw [hq, Nat.div_lt_iff_lt_mul hD, Nat.mul_comm B]; exact hlt
    omega
  have h2 : q ≤ u / v := by
    rw [Nat.le_div_iff_mul_le hv]
    have h3 : q * (P * v + dl) ≤ P * u + wl := by rw [hq]; exact Nat.div_mul_le_self _ _
    have h4 : P * (q * v) ≤ q * (P * v + dl) := by
      have : P * (q * v) = q * (P * v) := Nat.mul_left_comm _ _ _
      rw [Nat.mul_add]; omega
    have h5 : P * (q * v) < P * (u + 1) := by rw [Nat.mul_add, Nat.mul_one]; omega
    have h6 := Nat.lt_of_mul_lt_mul_left h5
    omega
  exact Nat.le_min.2 ⟨h1, h2⟩
theorem est_le {B P u v wl dl q : Nat} (hP : 0 < P) (hv : B ≤ v) (hB : 0 < B) (hdl : dl < P) (hlt : P * u + wl < (P * v + dl) * B) (hq : q = (P * u + wl) / (P * v + dl)) : est B u v ≤ q + 1 := by
  have hD : 0 < P * v + dl := by have : 0 < P * v := Nat.mul_pos hP (by omega); omega
  have hqB : q < B := by rw [hq, Nat.div_lt_iff_lt_mul hD, Nat.mul_comm B]; exact hlt
  apply Nat.le_of_not_lt
  intro h
  have hg : q + 2 ≤ est B u v := h
  have h1 : (q + 2) * v ≤ u := by
    have : q + 2 ≤ u / v := Nat.le_trans hg (Nat.min_le_right _ _)
    exact (Nat.le_div_iff_mul_le (by omega)).1 this
  have h2 : P * u + wl < (q + 1) * (P * v + dl) := by
    have := Nat.lt_div_mul_add hD (a := P * u + wl)
    rw [← hq] at this
    rw [Nat.add_mul, Nat.one_mul]; exact this
  have h3 : P * ((q + 2) * v) ≤ P * u := Nat.mul_le_mul_left _ h1
  have h4 : (q + 1) * dl ≤ B * dl := Nat.mul_le_mul_right _ hqB
  have h5 : B * dl ≤ v * dl := Nat.mul_le_mul_right _ hv
  have h6 : v * dl ≤ v * P := Nat.mul_le_mul_left _ (by omega)
  have e1 : P * ((q + 2) * v) = P * ((q + 1) * v) + P * v := by
    rw [show q + 2 = (q + 1) + 1 from rfl, Nat.add_mul (q + 1) 1 v, Nat.one_mul, Nat.mul_add]
  have e2 : (q + 1) * (P * v + dl) = P * ((q + 1) * v) + (q + 1) * dl := by rw [Nat.mul_add, Nat.mul_left_comm]
  have e3 : v * P = P * v := Nat.mul_comm _ _
  rw [e1] at h3
  rw [e2] at h2
  omega
/-- a guess that is too great, by the test -/
theorem est_down {B f s high next g r : Nat} (hB : 0 < B) (h : g * f + r = high) (hbad : B ≤ g ∨ r * B + next < g * s) (he : est B (high * B + next) (f * B + s) ≤ g) :
    est B (high * B + next) (f * B + s) ≤ g - 1 ∧ 0 < g := by
  have key : est B (high * B + next) (f * B + s) < g ∧ 0 < g := by
    rcases hbad with hb | hb
    · have h1 : est B (high * B + next) (f * B + s) ≤ B - 1 := Nat.min_le_left _ _
      exact ⟨by omega, by omega⟩
    · have hg : 0 < g := by
        rcases Nat.eq_zero_or_pos g with h0 | h0
        · subst h0; omega
        · exact h0
      refine ⟨?_, hg⟩
      apply Nat.lt_of_le_of_lt (Nat.min_le_right _ _)
      have hv : 0 < f * B + s := by
        have : 0 < s := Nat.pos_of_mul_pos_left (a := g) (by omega)
        omega
      rw [Nat.div_lt_iff_lt_mul hv, ← h]
      have e1 : (g * f + r) * B = g * (f * B) + r * B := by rw [Nat.add_mul, Nat.mul_assoc]
      rw [e1, Nat.mul_add]; omega
  exact ⟨by omega, key.2⟩
/-- a guess that passes the test is the estimate -/
theorem est_found {B f s high next g r : Nat} (hf : 0 < f) (hB : 0 < B) (h : g * f + r = high) (h1 : g < B) (h2 : g * s ≤ r * B + next) (he : est B (high * B + next) (f * B + s) ≤ g) :
    g = est B (high * B + next) (f * B + s) := by
  refine Nat.le_antisymm (Nat.le_min.2 ⟨by omega, ?_⟩) he
  have hv : 0 < f * B + s := by have := Nat.mul_pos hf hB; omega
  rw [Nat.le_div_iff_mul_le hv, ← h]
  have e1 : (g * f + r) * B = g * (f * B) + r * B := by rw [Nat.add_mul, Nat.mul_assoc]
  rw [e1, Nat.mul_add]; omega
/-- a remainder that is no digit any more ends the search -/
theorem est_stop {B f s high next g r w0 w1 : Nat} (hf : 0 < f) (hB : 0 < B) (hs : s < B) (hh : high = w1 * B + w0) (hw1 : w1 ≤ f) (hw0 : w0 < B) (h : g * f + r = high) (hr : B ≤ r) (he : est B (high * B + next) (f * B + s) ≤ g) :
    g = est B (high * B + next) (f * B + s) := by
  have h1 : g < B := by
    have h3 : w1 * B ≤ f * B := Nat.mul_le_mul_right _ hw1
    have h4 : g * f < B * f := by rw [Nat.mul_comm B f]; omega
    exact Nat.lt_of_mul_lt_mul_right h4
  refine est_found hf hB h h1 ?_ he
  have h5 : g * s ≤ B * B := Nat.mul_le_mul (by omega) (by omega)
  have h6 : B * B ≤ r * B := Nat.mul_le_mul_right _ hr
  omega
/-- the first guess -/
theorem est_first {B f s high next : Nat} (hf : 0 < f) (hB : 0 < B) (hn : next < B) : est B (high * B + next) (f * B + s) ≤ high / f := by
  apply Nat.le_trans (Nat.min_le_right _ _)
  rw [Nat.le_div_iff_mul_le hf]
  have hv : 0 < f * B + s := by have := Nat.mul_pos hf hB; omega
  have h1 := Nat.div_mul_le_self (high * B + next) (f * B + s)
  generalize (high * B + next) / (f * B + s) = g at *
  have h2 : g * f * B ≤ g * (f * B + s) := by rw [Nat.mul_assoc, Nat.mul_add]; omega
  have h3 : g * f * B < (high + 1) * B := by rw [Nat.add_mul, Nat.one_mul]; omega
  have := Nat.lt_of_mul_lt_mul_right h3
  omega
/-- after the subtraction: the guess was right -/
theorem window_ok {Q W D Wl wn X g c : Nat} (hD : D < Q) (hW : W = Wl + Q * wn) (h : X + g * D = Wl + Q * c) (hq : g = W / D ∨ g = W / D + 1) (hD0 : 0 < D) (hc : c ≤ wn) :
    g = W / D ∧ X = W % D := by
  have e := Nat.div_add_mod W D
  have hm := Nat.mod_lt W hD0
  have h1 : Q * c ≤ Q * wn := Nat.mul_le_mul_left _ hc
  have hgW : g * D ≤ W := by omega
  have hg : g = W / D := by
    rcases hq with hq | hq
    · exact hq
    · rw [hq, Nat.add_mul, Nat.mul_comm] at hgW; omega
  refine ⟨hg, ?_⟩
  have hcw : c = wn := by
    rcases Nat.lt_or_ge c wn with h' | h'
    · have : Q * c + Q ≤ Q * wn := by rw [← Nat.mul_succ]; exact Nat.mul_le_mul_left _ h'
      have : g * D = D * (W / D) := by rw [hg, Nat.mul_comm]
      omega
    · omega
  subst hcw
  have : g * D = D * (W / D) := by rw [hg, Nat.mul_comm]
  omega
/-- .. it was one too great: adding the divisor wraps back -/
theorem window_back {Q W D Wl wn X g c Y k : Nat} (hX : X < Q) (hD : D < Q) (hW : W = Wl + Q * wn) (h : X + g * D = Wl + Q * c) (hq : g = W / D ∨ g = W / D + 1) (hD0 : 0 < D) (hc : wn < c) (hY : Y < Q) (hback : Y + Q * k = X + 1 * D) :
    g = W / D + 1 ∧ Y = W % D := by
  have e := Nat.div_add_mod W D
  have hm := Nat.mod_lt W hD0
  have h1 : Q * wn + Q ≤ Q * c := by rw [← Nat.mul_succ]; exact Nat.mul_le_mul_left _ hc
  have hg : g = W / D + 1 := by
    rcases hq with hq | hq
    · have : g * D = D * (W / D) := by rw [hq, Nat.mul_comm]
      omega
    · exact hq
  refine ⟨hg, ?_⟩
  have e2 : g * D = D * (W / D) + D := by rw [hg, Nat.add_mul, Nat.one_mul, Nat.mul_comm]
  obtain ⟨j, rfl⟩ : ∃ j, c = wn + 1 + j := ⟨c - wn - 1, by omega⟩
  have e3 : Q * (wn + 1 + j) = Q * wn + Q + Q * j := by rw [Nat.mul_add, Nat.mul_add, Nat.mul_one]
  have hj : j = 0 := by
    rcases Nat.eq_zero_or_pos j with h' | h'
    · exact h'
    · have : Q ≤ Q * j := Nat.le_mul_of_pos_right _ h'
      omega
  subst hj
  have hk : k = 1 := by
    have e4 : Y + Q * k = W % D + Q := by omega
    rcases Nat.lt_or_ge k 1 with h' | h'
    · have : k = 0 := by omega
      subst this; omega
    · rcases Nat.lt_or_ge 1 k with h'' | h''
      · have : Q * 2 ≤ Q * k := Nat.mul_le_mul_left _ h''
        omega
      · omega
  subst hk
  omega
/-- the highest digit in which two numbers differ decides -/
theorem lt_of_dg {B a b k : Nat} (h : a / B ^ (k + 1) = b / B ^ (k + 1)) (hd : dg B a k < dg B b k) : a < b := by
  have h1 : a / B ^ k < b / B ^ k := by rw [div_succ B a k, div_succ B b k, h]; omega
  rcases Nat.lt_or_ge a b with h' | h'
  · exact h'
  · have := Nat.div_le_div_right (c := B ^ k) h'; omega
theorem div_of_dg {B a b k : Nat} (h : a / B ^ (k + 1) = b / B ^ (k + 1)) (hd : dg B a k = dg B b k) : a / B ^ k = b / B ^ k := by
  rw [div_succ B a k, div_succ B b k, h, hd]
/-- the digits of a number in a low part, one digit and a high part -/
theorem dg_mid {B A y Z j i : Nat} (hB : 0 < B) (hA : A < B ^ j) (hy : y < B) : dg B (A + B ^ j * (y + B * Z)) i = if i < j then dg B A i else if i = j then y else dg B Z (i - j - 1) := by
  split
  · rename_i h; exact dg_low hB h
  · split
    · rename_i h1 h; subst h
      have := dg_up (i := 0) (y := y + B * Z) hB hA
      rw [Nat.add_zero] at this
      rw [this]; simp [dg, Nat.add_mul_mod_self_left, Nat.mod_eq_of_lt hy]
    · rename_i h1 h2
      obtain ⟨t, rfl⟩ : ∃ t, i = j + (1 + t) := ⟨i - j - 1, by omega⟩
      rw [dg_up hB hA]
      have e : y + B * Z = y + B ^ 1 * Z := by rw [Nat.pow_one]
      rw [e, dg_up hB (by rw [Nat.pow_one]; exact hy)]
      congr 1; omega
/-- a row is added to a window of a number: the number behind k digits -/
theorem win_split {B L X W H o n k : Nat} (hk : k < n) : L + B ^ o * (X + B ^ k * (W / B ^ k + B ^ (n - k) * H)) = (L + B ^ o * X) + B ^ (o + k) * (dg B W k + B * (W / B ^ (k + 1) + B ^ (n - (k + 1)) * H)) := by
  rw [div_succ B W k]
  have e : B ^ (n - k) = B * B ^ (n - (k + 1)) := by
    rw [show n - k = (n - (k + 1)) + 1 from by omega, Nat.pow_succ, Nat.mul_comm]
  rw [e]
  generalize W / B ^ (k + 1) = u
  generalize B ^ (n - (k + 1)) = v
  rw [Nat.pow_add, Nat.mul_add B, Nat.mul_assoc B, Nat.mul_add (B ^ o), Nat.mul_assoc (B ^ o), Nat.add_assoc L, Nat.add_assoc (dg B W k)]
theorem win_join {B L X d W H o n k : Nat} (_hk : k < n) : (L + B ^ o * X) + B ^ (o + k) * (d + B * (W / B ^ (k + 1) + B ^ (n - (k + 1)) * H)) = L + B ^ o * ((X + B ^ k * d) + B ^ (k + 1) * (W / B ^ (k + 1) + B ^ (n - (k + 1)) * H)) := by
  generalize W / B ^ (k + 1) + B ^ (n - (k + 1)) * H = t
  have e1 : B ^ (o + k) * (d + B * t) = B ^ o * (B ^ k * d) + B ^ o * (B ^ (k + 1) * t) := by
    rw [Nat.pow_add, Nat.mul_assoc, Nat.mul_add, Nat.mul_add, Nat.pow_succ, Nat.mul_assoc (B ^ k)]
  have e2 : B ^ o * ((X + B ^ k * d) + B ^ (k + 1) * t) = B ^ o * X + B ^ o * (B ^ k * d) + B ^ o * (B ^ (k + 1) * t) := by rw [Nat.mul_add, Nat.mul_add]
  rw [e1, e2]
  omega
theorem win_lt {B L X o k : Nat} (hL : L < B ^ o) (hX : X < B ^ k) : L + B ^ o * X < B ^ (o + k) := by
  have : B ^ o * X + B ^ o ≤ B ^ o * B ^ k := by rw [← Nat.mul_succ]; exact Nat.mul_le_mul_left _ hX
  rw [Nat.pow_add]; omega
theorem mul_bound {c d f o : Nat} (hc : c < 4294967296) (hd : d < 4294967296) (hf : f < 4294967296) (ho : o < 4294967296) : d * f + o < 18446744073709551616 ∧ c + (d * f + o) < 18446744073709551616 ∧ d * f < 18446744073709551616 := by
  have h1 : d * f ≤ 4294967295 * 4294967295 := Nat.mul_le_mul (by omega) (by omega)
  omega
end Gu
