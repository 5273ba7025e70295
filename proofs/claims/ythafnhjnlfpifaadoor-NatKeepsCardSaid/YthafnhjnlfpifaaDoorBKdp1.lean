/- Contracts and lemmas (several texts merged into one). -/
import Derived.Lib.ItoaNum
import Derived.Lib.Repeat
import Derived.Lib.BitFns
import Derived.WalkKit
import Derived.Handy
import Derived.Deep.OwnRows
import Derived.Deep.Draws
import Derived.Lib.Hide
import Derived.Test.YthafnhjnlfpifaaDoorChecked
import Derived.WalkLawsBesides
import Derived.WalkSpells
import Derived.Outline
import Derived.Test.YthafnhjnlfpifaaDoorShelf
import Derived.Deep.QuietTactic
import Derived.BigQuiet
namespace Gu

def val (B : Nat) : List Nat → Nat
  | [] => 0
  | d :: l => d + B * val B l

def Dig (B : Nat) (l : List Nat) : Prop := ∀ i (h : i < l.length), l[i] < B

theorem Dig.nil (B : Nat) : Dig B [] := fun i h => by simp at h
theorem Dig.tail {B d : Nat} {l : List Nat} (h : Dig B (d :: l)) : Dig B l := fun i hi => by
  have := h (i + 1) (by simp; omega); simpa using this
theorem Dig.head {B d : Nat} {l : List Nat} (h : Dig B (d :: l)) : d < B := by
  have := h 0 (by simp); simpa using this
theorem Dig.cons {B d : Nat} {l : List Nat} (hd : d < B) (h : Dig B l) : Dig B (d :: l) := fun i hi => by
  cases i with
  | zero => simpa using hd
  | succ i => have := h i (by simp at hi; omega); simpa using this
theorem Dig.take {B : Nat} {l : List Nat} (h : Dig B l) (k : Nat) : Dig B (l.take k) := fun i hi => by
  simp at hi; have := h i (by omega); simpa using this
theorem Dig.drop {B : Nat} {l : List Nat} (h : Dig B l) (k : Nat) : Dig B (l.drop k) := fun i hi => by
  simp at hi; have := h (k + i) (by omega); simpa using this
theorem Dig.append {B : Nat} {l m : List Nat} (h : Dig B l) (h' : Dig B m) : Dig B (l ++ m) := fun i hi => by
  rw [List.getElem_append]; split
  · exact h _ _
  · exact h' _ _
theorem Dig.set {B : Nat} {l : List Nat} (h : Dig B l) (k d : Nat) (hd : d < B) : Dig B (l.set k d) := fun i hi => by
  rw [List.getElem_set]; split
  · exact hd
  · exact h _ _
theorem Dig.replicate {B : Nat} (n : Nat) (h : 0 < B) : Dig B (List.replicate n 0) := fun i hi => by simpa using h
theorem Dig.getD {B : Nat} {l : List Nat} (h : Dig B l) (hB : 0 < B) (i : Nat) : l.getD i 0 < B := by
  rw [List.getD_eq_getElem?_getD]
  by_cases hi : i < l.length
  · simp [hi]; exact h i hi
  · simp [Nat.not_lt.1 hi]; exact hB

theorem val_nil (B : Nat) : val B [] = 0 := rfl
theorem val_cons (B d : Nat) (l : List Nat) : val B (d :: l) = d + B * val B l := rfl
theorem val_append (B : Nat) (l m : List Nat) : val B (l ++ m) = val B l + B ^ l.length * val B m := by
  induction l with
  | nil => simp [val]
  | cons d l ih => simp only [List.cons_append, val_cons, ih, List.length_cons, Nat.pow_succ]; rw [Nat.mul_add, Nat.add_assoc, Nat.mul_comm (B ^ l.length) B, Nat.mul_assoc]
theorem val_replicate (B n : Nat) : val B (List.replicate n 0) = 0 := by
  induction n with
  | zero => rfl
  | succ n ih => simp [List.replicate_succ, val_cons, ih]
theorem val_snoc (B d : Nat) (l : List Nat) : val B (l ++ [d]) = val B l + B ^ l.length * d := by rw [val_append]; simp [val]
theorem val_lt {B : Nat} {l : List Nat} (h : Dig B l) : val B l < B ^ l.length := by
  induction l with
  | nil => simp [val]
  | cons d l ih =>
    have h1 := ih h.tail
    have h2 := h.head
    rw [val_cons, List.length_cons, Nat.pow_succ]
    calc d + B * val B l < B + B * val B l := by omega
      _ = B * (val B l + 1) := by rw [Nat.mul_add]; omega
      _ ≤ B * B ^ l.length := Nat.mul_le_mul_left _ h1
      _ = B ^ l.length * B := Nat.mul_comm _ _

/-- taking one digit more -/
theorem val_take_succ (B : Nat) (l : List Nat) (k : Nat) (h : k < l.length) : val B (l.take (k + 1)) = val B (l.take k) + B ^ k * l[k] := by
  rw [List.take_succ_eq_append_getElem h, val_snoc, List.length_take, Nat.min_eq_left (by omega)]

theorem val_take_drop (B : Nat) (l : List Nat) (k : Nat) (h : k ≤ l.length) : val B l = val B (l.take k) + B ^ k * val B (l.drop k) := by
  have := val_append B (l.take k) (l.drop k)
  rw [List.take_append_drop, List.length_take, Nat.min_eq_left h] at this
  exact this

/-- storing a digit where there was none -/
theorem val_set (B : Nat) (l : List Nat) (k d : Nat) (h : k < l.length) : val B (l.set k d) + B ^ k * l[k] = val B l + B ^ k * d := by
  induction l generalizing k with
  | nil => simp at h
  | cons x l ih =>
    cases k with
    | zero => simp [val_cons]; omega
    | succ k =>
      have := ih k (by simpa using h)
      simp only [List.set_cons_succ, val_cons, List.getElem_cons_succ, Nat.pow_succ]
      have e1 : B ^ k * B * l[k]'(by simpa using h) = B * (B ^ k * l[k]'(by simpa using h)) := by rw [Nat.mul_comm (B ^ k) B, Nat.mul_assoc]
      have e2 : B ^ k * B * d = B * (B ^ k * d) := by rw [Nat.mul_comm (B ^ k) B, Nat.mul_assoc]
      rw [e1, e2, Nat.add_assoc, ← Nat.mul_add, this, Nat.mul_add]; omega

/-! canonical digits -/
def digs (B n : Nat) : List Nat :=
  if _h : n = 0 ∨ B < 2 then [] else n % B :: digs B (n / B)
termination_by n
decreasing_by exact Nat.div_lt_self (by omega) (by omega)

theorem digs_zero (B : Nat) : digs B 0 = [] := by unfold digs; simp
theorem digs_pos {B n : Nat} (hB : 2 ≤ B) (h : 0 < n) : digs B n = n % B :: digs B (n / B) := by
  rw [digs]; rw [dif_neg (by omega)]
theorem digs_dig {B : Nat} (hB : 2 ≤ B) (n : Nat) : Dig B (digs B n) := by
  induction n using Nat.strongRecOn with
  | ind n ih =>
    by_cases h : n = 0
    · subst h; rw [digs_zero]; exact Dig.nil B
    · rw [digs_pos hB (by omega)]
      exact Dig.cons (Nat.mod_lt _ (by omega)) (ih _ (Nat.div_lt_self (by omega) (by omega)))
theorem val_digs {B : Nat} (hB : 2 ≤ B) (n : Nat) : val B (digs B n) = n := by
  induction n using Nat.strongRecOn with
  | ind n ih =>
    by_cases h : n = 0
    · subst h; rw [digs_zero]; rfl
    · rw [digs_pos hB (by omega), val_cons, ih _ (Nat.div_lt_self (by omega) (by omega))]
      exact Nat.mod_add_div n B
/-- no zero at the top -/
def Tr (l : List Nat) : Prop := ∀ h : 0 < l.length, l[l.length - 1] ≠ 0
theorem Tr.tail {d : Nat} {l : List Nat} (h : Tr (d :: l)) : Tr l := fun hl => by
  have h1 := h (by simp)
  have e : (d :: l).length - 1 = (l.length - 1) + 1 := by simp; omega
  simp only [e, List.getElem_cons_succ] at h1
  exact h1
theorem val_pos {B : Nat} {l : List Nat} (hB : 0 < B) (ht : Tr l) (hl : 0 < l.length) : 0 < val B l := by
  induction l with
  | nil => simp at hl
  | cons d l ih =>
    rw [val_cons]
    by_cases h0 : l.length = 0
    · have := ht hl
      have hnil : l = [] := List.length_eq_zero_iff.1 h0
      subst hnil
      simp at this; omega
    · have := ih ht.tail (by omega)
      have := Nat.mul_pos hB this
      omega
theorem digs_val {B : Nat} (hB : 2 ≤ B) {l : List Nat} (hd : Dig B l) (ht : Tr l) : digs B (val B l) = l := by
  induction l with
  | nil => exact digs_zero B
  | cons d l ih =>
    have hp := val_pos (by omega : 0 < B) ht (by simp)
    rw [digs_pos hB hp, val_cons]
    have h1 : (d + B * val B l) % B = d := by rw [Nat.add_mul_mod_self_left, Nat.mod_eq_of_lt hd.head]
    have h2 : (d + B * val B l) / B = val B l := by rw [Nat.add_mul_div_left _ _ (by omega : 0 < B), Nat.div_eq_of_lt hd.head]; omega
    rw [h1, h2, ih hd.tail ht.tail]
theorem digs_tr {B : Nat} (hB : 2 ≤ B) (n : Nat) : Tr (digs B n) := by
  induction n using Nat.strongRecOn with
  | ind n ih =>
    by_cases h : n = 0
    · subst h; rw [digs_zero]; intro h; simp at h
    · rw [digs_pos hB (by omega)]
      intro hl
      have hi := ih _ (Nat.div_lt_self (by omega : 0 < n) hB)
      by_cases h0 : n / B = 0
      · simp only [h0, digs_zero]
        simp
        have : n < B := by
          rcases Nat.lt_or_ge n B with h' | h'
          · exact h'
          · have := Nat.div_pos h' (by omega); omega
        rw [Nat.mod_eq_of_lt this]; omega
      · have hl' : 0 < (digs B (n / B)).length := by rw [digs_pos hB (Nat.pos_of_ne_zero h0)]; simp
        have := hi hl'
        have e : (n % B :: digs B (n / B)).length - 1 = ((digs B (n / B)).length - 1) + 1 := by simp; omega
        simp only [e, List.getElem_cons_succ]
        exact this
theorem digs_getD {B : Nat} (hB : 2 ≤ B) (n i : Nat) : (digs B n).getD i 0 = n / B ^ i % B := by
  induction i generalizing n with
  | zero =>
    by_cases h : n = 0
    · subst h; rw [digs_zero]; simp
    · rw [digs_pos hB (by omega)]; simp
  | succ i ih =>
    by_cases h : n = 0
    · subst h; rw [digs_zero]; simp
    · rw [digs_pos hB (by omega), List.getD_cons_succ, ih, Nat.div_div_eq_div_mul, Nat.pow_succ, Nat.mul_comm B]
theorem digs_getElem {B : Nat} (hB : 2 ≤ B) (n i : Nat) (h : i < (digs B n).length) : (digs B n)[i] = n / B ^ i % B := by
  rw [← digs_getD hB]; simp [h]
theorem digs_len_le {B : Nat} (hB : 2 ≤ B) {n k : Nat} : (digs B n).length ≤ k ↔ n < B ^ k := by
  induction k generalizing n with
  | zero =>
    constructor
    · intro h
      have : digs B n = [] := List.length_eq_zero_iff.1 (by omega)
      have h2 := val_digs hB n
      rw [this] at h2; simp [val] at h2; simp; omega
    · intro h
      have : n = 0 := by simp at h; omega
      subst this; rw [digs_zero]; simp
  | succ k ih =>
    by_cases h : n = 0
    · subst h; rw [digs_zero]; simp; exact Nat.pow_pos (by omega)
    · rw [digs_pos hB (by omega), List.length_cons, Nat.add_le_add_iff_right, ih, Nat.div_lt_iff_lt_mul (by omega), Nat.pow_succ]
theorem digs_lt_pow {B : Nat} (hB : 2 ≤ B) (n : Nat) : n < B ^ (digs B n).length := (digs_len_le hB).1 (Nat.le_refl _)
theorem digs_len_mono {B : Nat} (hB : 2 ≤ B) {m n : Nat} (h : m ≤ n) : (digs B m).length ≤ (digs B n).length :=
  (digs_len_le hB).2 (Nat.lt_of_le_of_lt h (digs_lt_pow hB n))
theorem digs_pow_le {B : Nat} (hB : 2 ≤ B) {n : Nat} (h : 0 < n) : B ^ ((digs B n).length - 1) ≤ n := by
  rcases Nat.lt_or_ge n (B ^ ((digs B n).length - 1)) with h' | h'
  · have := (digs_len_le hB).2 h'
    have hp : 0 < (digs B n).length := by rw [digs_pos hB h]; simp
    omega
  · exact h'
theorem digs_len_zero {B : Nat} (hB : 2 ≤ B) {n : Nat} : (digs B n).length = 0 ↔ n = 0 := by
  have := digs_len_le hB (n := n) (k := 0)
  simp at this
  constructor
  · intro h; have h2 : digs B n = [] := List.length_eq_zero_iff.1 h; exact this.1 h2
  · intro h; subst h; rw [digs_zero]; rfl
theorem val_take_digs {B : Nat} (hB : 2 ≤ B) (n k : Nat) : val B ((digs B n).take k) = n % B ^ k := by
  induction k generalizing n with
  | zero => simp [val, Nat.mod_one]
  | succ k ih =>
    by_cases h : n = 0
    · subst h; rw [digs_zero]; simp [val]
    · rw [digs_pos hB (by omega), List.take_succ_cons, val_cons, ih, Nat.pow_succ, Nat.mul_comm (B ^ k) B, Nat.mod_mul]
/-- dropping zeros at the top changes no value -/
theorem val_take_of_zero (B : Nat) (l : List Nat) (n : Nat) (h : ∀ i (hi : i < l.length), n ≤ i → l[i] = 0) : val B (l.take n) = val B l := by
  by_cases hn : n ≤ l.length
  · have hz : l.drop n = List.replicate (l.length - n) 0 := by
      apply List.ext_getElem (by simp)
      intro i h1 h2
      simp at h1 ⊢
      exact h _ _ (by omega)
    rw [val_take_drop B l n hn, hz, val_replicate]; simp
  · rw [List.take_of_length_le (by omega)]

/-- the digits of the value are the list without its zeros at the top -/
theorem digs_of_take {B : Nat} (hB : 2 ≤ B) {l : List Nat} (hd : Dig B l) {n : Nat} (hn : n ≤ l.length) (hz : ∀ i (hi : i < l.length), n ≤ i → l[i] = 0) (ht : ∀ h : 0 < n, l[n - 1]'(by omega) ≠ 0) : digs B (val B l) = l.take n := by
  rw [← val_take_of_zero B l n hz]
  apply digs_val hB (hd.take n)
  intro h
  simp only [List.length_take, Nat.min_eq_left hn] at h ⊢
  simpa using ht h

/-! ### digits by their place -/
/-- the digit of x with the weight B^i -/
def dg (B x i : Nat) : Nat := x / B ^ i % B
/-- the number of digits -/
def nd (B n : Nat) : Nat := (digs B n).length
/-- the lowest m digits, as a list -/
def pad (B m x : Nat) : List Nat := (List.range m).map (dg B x)

theorem dg_lt {B : Nat} (hB : 0 < B) (x i : Nat) : dg B x i < B := Nat.mod_lt _ hB
theorem dg_zero (B i : Nat) : dg B 0 i = 0 := by simp [dg]
theorem dg_high {B x k i : Nat} (hB : 0 < B) (hx : x < B ^ k) (h : k ≤ i) : dg B x i = 0 := by
  have : x < B ^ i := Nat.lt_of_lt_of_le hx (Nat.pow_le_pow_right hB h)
  simp [dg, Nat.div_eq_of_lt this]
theorem dg_mod {B x k i : Nat} (_hB : 0 < B) (h : i < k) : dg B (x % B ^ k) i = dg B x i := by
  obtain ⟨j, rfl⟩ : ∃ j, k = i + (j + 1) := ⟨k - i - 1, by omega⟩
  unfold dg
  rw [Nat.pow_add, Nat.mod_mul_right_div_self, Nat.pow_succ, Nat.mul_comm (B ^ j) B, Nat.mod_mul_right_mod]
/-- digits of a sum of a low and a high part -/
theorem dg_low {B x y k i : Nat} (hB : 0 < B) (h : i < k) : dg B (x + B ^ k * y) i = dg B x i := by
  rw [← dg_mod hB h, Nat.add_mul_mod_self_left, dg_mod hB h]
theorem dg_up {B x y k i : Nat} (hB : 0 < B) (hx : x < B ^ k) : dg B (x + B ^ k * y) (k + i) = dg B y i := by
  unfold dg
  rw [Nat.pow_add, ← Nat.div_div_eq_div_mul, Nat.add_mul_div_left _ _ (Nat.pow_pos hB), Nat.div_eq_of_lt hx, Nat.zero_add]
theorem dg_self {B x y k : Nat} (hB : 0 < B) (hx : x < B ^ k) (hy : y < B) : dg B (x + B ^ k * y) k = y := by
  have := dg_up (i := 0) (y := y) hB hx
  rw [Nat.add_zero] at this
  rw [this, dg]; simp [Nat.mod_eq_of_lt hy]
/-- one digit more -/
theorem mod_succ (B x k : Nat) : x % B ^ (k + 1) = x % B ^ k + B ^ k * dg B x k := by
  unfold dg; exact Nat.mod_pow_succ
theorem div_succ (B x k : Nat) : x / B ^ k = dg B x k + B * (x / B ^ (k + 1)) := by
  unfold dg
  rw [Nat.pow_succ, ← Nat.div_div_eq_div_mul]
  exact (Nat.mod_add_div _ _).symm
theorem eq_mod {B x k : Nat} (hx : x < B ^ k) : x % B ^ k = x := Nat.mod_eq_of_lt hx
/-- two numbers with the same digits -/
theorem eq_of_dg {B x y m : Nat} (hx : x < B ^ m) (hy : y < B ^ m) (h : ∀ i, i < m → dg B x i = dg B y i) : x = y := by
  have key : ∀ k, k ≤ m → x % B ^ k = y % B ^ k := by
    intro k
    induction k with
    | zero => intro _; simp [Nat.mod_one]
    | succ k ih => intro hk; rw [mod_succ, mod_succ, ih (by omega), h k (by omega)]
  have := key m (Nat.le_refl _)
  rwa [eq_mod hx, eq_mod hy] at this
theorem snoc_lt {B x d k : Nat} (hx : x < B ^ k) (hd : d < B) : x + B ^ k * d < B ^ (k + 1) := by
  have : B ^ k * d + B ^ k ≤ B ^ k * B := by rw [← Nat.mul_succ]; exact Nat.mul_le_mul_left _ hd
  rw [Nat.pow_succ]; omega

theorem pad_length (B m x : Nat) : (pad B m x).length = m := by simp [pad]
theorem pad_getElem (B m x i : Nat) (h : i < (pad B m x).length) : (pad B m x)[i] = dg B x i := by simp [pad]
theorem pad_getD (B m x i : Nat) (h : i < m) : (pad B m x).getD i 0 = dg B x i := by simp [pad, h]
theorem pad_zero (B m : Nat) : pad B m 0 = List.replicate m 0 := by
  apply List.ext_getElem (by simp [pad])
  intro i h1 h2; simp [pad, dg_zero]
theorem pad_succ {B x d k : Nat} (hB : 0 < B) (hx : x < B ^ k) (hd : d < B) : pad B (k + 1) (x + B ^ k * d) = pad B k x ++ [d] := by
  unfold pad
  rw [List.range_succ, List.map_append]
  congr 1
  · apply List.map_congr_left
    intro i hi
    exact dg_low hB (by simpa using hi)
  · simp [dg_self hB hx hd]
/-- storing a digit at place k of a number whose digit there is 0 -/
theorem pad_set {B m x k : Nat} (hB : 0 < B) (hx : x < B ^ k) {d : Nat} (hd : d < B) : (pad B m x).set k d = pad B m (x + B ^ k * d) := by
  apply List.ext_getElem (by simp [pad])
  intro i h1 h2
  simp only [List.getElem_set, pad_getElem]
  split
  · rename_i h; subst h; rw [dg_self hB hx hd]
  · rename_i h
    rcases Nat.lt_or_gt_of_ne h with h' | h'
    · obtain ⟨j, rfl⟩ : ∃ j, i = k + 1 + j := ⟨i - k - 1, by omega⟩
      rw [dg_high hB hx (by omega), dg_high hB (snoc_lt hx hd) (by omega)]
    · rw [dg_low hB h']
theorem digs_eq_pad {B : Nat} (hB : 2 ≤ B) (n : Nat) : digs B n = pad B (nd B n) n := by
  apply List.ext_getElem (by simp [pad, nd])
  intro i h1 h2
  rw [pad_getElem, digs_getElem hB, dg]
theorem nd_le {B : Nat} (hB : 2 ≤ B) {n k : Nat} : nd B n ≤ k ↔ n < B ^ k := digs_len_le hB
theorem nd_lt {B : Nat} (hB : 2 ≤ B) (n : Nat) : n < B ^ nd B n := digs_lt_pow hB n
theorem nd_mono {B : Nat} (hB : 2 ≤ B) {m n : Nat} (h : m ≤ n) : nd B m ≤ nd B n := digs_len_mono hB h
theorem nd_zero (B : Nat) : nd B 0 = 0 := by simp [nd, digs_zero]
theorem nd_eq_zero {B : Nat} (hB : 2 ≤ B) {n : Nat} : nd B n = 0 ↔ n = 0 := digs_len_zero hB
theorem nd_pow_le {B : Nat} (hB : 2 ≤ B) {n : Nat} (h : 0 < n) : B ^ (nd B n - 1) ≤ n := digs_pow_le hB h
theorem nd_pos {B : Nat} (hB : 2 ≤ B) {n : Nat} (h : 0 < n) : 0 < nd B n := by
  rcases Nat.eq_zero_or_pos (nd B n) with h' | h'
  · have := (nd_eq_zero hB).1 h'; omega
  · exact h'
/-- the highest digit is not 0 -/
theorem dg_top {B : Nat} (hB : 2 ≤ B) {n : Nat} (h : 0 < n) : 0 < dg B n (nd B n - 1) := by
  have h1 := nd_pow_le hB h
  have h2 := nd_lt hB n
  have h3 := nd_pos hB h
  obtain ⟨k, hk⟩ : ∃ k, nd B n = k + 1 := ⟨nd B n - 1, by omega⟩
  rw [hk] at h1 h2 ⊢
  simp only [Nat.add_sub_cancel] at h1 ⊢
  unfold dg
  have hq : n / B ^ k < B := by rw [Nat.div_lt_iff_lt_mul (Nat.pow_pos (by omega)), Nat.mul_comm]; rwa [Nat.pow_succ] at h2
  rw [Nat.mod_eq_of_lt hq]
  exact Nat.div_pos h1 (Nat.pow_pos (by omega))
/-- where the number of digits is known -/
theorem nd_of {B : Nat} (hB : 2 ≤ B) {n k : Nat} (h : n < B ^ k) (ht : 0 < k → dg B n (k - 1) ≠ 0) : nd B n = k := by
  have h1 := (nd_le hB).2 h
  rcases Nat.lt_or_ge (nd B n) k with h' | h'
  · have := ht (by omega)
    have := dg_high (by omega : 0 < B) (nd_lt hB n) (show nd B n ≤ k - 1 by omega)
    omega
  · omega
theorem nd_snoc {B : Nat} (hB : 2 ≤ B) {x d k : Nat} (hx : x < B ^ k) (hd : d < B) (h0 : 0 < d) : nd B (x + B ^ k * d) = k + 1 :=
  nd_of hB (snoc_lt hx hd) (fun _ => by rw [Nat.add_sub_cancel, dg_self (by omega) hx hd]; omega)

end Gu

namespace Gu

theorem add_step {P B X c A C da db : Nat} (h : X + P * c = A + C) :
    (X + P * ((c + da + db) % B)) + P * B * ((c + da + db) / B) = (A + P * da) + (C + P * db) := by
  have e := Nat.mod_add_div (c + da + db) B
  generalize (c + da + db) % B = m at *
  generalize (c + da + db) / B = q at *
  have e2 : P * (m + B * q) = P * (c + da + db) := by rw [e]
  rw [Nat.mul_add, Nat.mul_add, Nat.mul_add, ← Nat.mul_assoc] at e2
  omega
/-- one round of the addition: the numbers to the power k, their digits, the carry -/
theorem sum_round {B a b X c k : Nat} (h : X + B ^ k * c = a % B ^ k + b % B ^ k) :
    (X + B ^ k * ((c + dg B a k + dg B b k) % B)) + B ^ (k + 1) * ((c + dg B a k + dg B b k) / B) = a % B ^ (k + 1) + b % B ^ (k + 1) := by
  rw [mod_succ, mod_succ, Nat.pow_succ]
  exact add_step h
/-- the borrow -/
theorem sub_step {P B X br A C da db d br' : Nat} (h : X + C = A + P * br) (hd : d + db + br = da + B * br') :
    (X + P * d) + (C + P * db) = (A + P * da) + P * B * br' := by
  have e : P * (d + db + br) = P * (da + B * br') := by rw [hd]
  rw [Nat.mul_add, Nat.mul_add, Nat.mul_add, ← Nat.mul_assoc] at e
  omega
theorem sub_round {B a b X br k d br' : Nat} (h : X + b % B ^ k = a % B ^ k + B ^ k * br) (hd : d + dg B b k + br = dg B a k + B * br') :
    (X + B ^ k * d) + b % B ^ (k + 1) = a % B ^ (k + 1) + B ^ (k + 1) * br' := by
  rw [mod_succ, mod_succ, Nat.pow_succ]
  exact sub_step h hd
/-- adding a multiple of a row to a window -/
theorem mul_step {P B X c O R dO dR f : Nat} (h : X + P * c = O + f * R) :
    (X + P * ((c + dR * f + dO) % B)) + P * B * ((c + dR * f + dO) / B) = (O + P * dO) + f * (R + P * dR) := by
  have e := Nat.mod_add_div (c + dR * f + dO) B
  generalize (c + dR * f + dO) % B = m at *
  generalize (c + dR * f + dO) / B = q at *
  have e2 : P * (m + B * q) = P * (c + dR * f + dO) := by rw [e]
  rw [Nat.mul_add, Nat.mul_add, Nat.mul_add, ← Nat.mul_assoc] at e2
  have e3 : f * (R + P * dR) = f * R + P * (dR * f) := by rw [Nat.mul_add, Nat.mul_comm dR f, Nat.mul_left_comm]
  omega
theorem mul_round {B o r X c f k : Nat} (h : X + B ^ k * c = o % B ^ k + f * (r % B ^ k)) :
    (X + B ^ k * ((c + dg B r k * f + dg B o k) % B)) + B ^ (k + 1) * ((c + dg B r k * f + dg B o k) / B) = o % B ^ (k + 1) + f * (r % B ^ (k + 1)) := by
  rw [mod_succ, mod_succ, Nat.pow_succ]
  exact mul_step h
/-- the carry of a product of digits is a digit -/
theorem carry_lt {B c d f o : Nat} (hc : c < B) (hd : d < B) (hf : f < B) (ho : o < B) : (c + d * f + o) / B < B := by
  have h1 : d * f ≤ (B - 1) * (B - 1) := Nat.mul_le_mul (by omega) (by omega)
  obtain ⟨b, rfl⟩ : ∃ b, B = b + 1 := ⟨B - 1, by omega⟩
  simp only [Nat.add_sub_cancel] at h1
  rw [Nat.div_lt_iff_lt_mul (by omega)]
  have : (b + 1) * (b + 1) = b * b + 2 * b + 1 := by rw [Nat.add_mul, Nat.mul_add]; omega
  omega
/-- subtracting a multiple of a row from a window: the product's carry and the borrow -/
theorem subrow_step {P B X c br O R dO dR f m q d br' : Nat} (h : X + f * R = O + P * c + P * br) (e : m + B * q = c + dR * f) (hd : d + m + br = dO + B * br') :
    (X + P * d) + f * (R + P * dR) = (O + P * dO) + P * B * q + P * B * br' := by
  have e2 : P * (m + B * q) = P * (c + dR * f) := by rw [e]
  have e4 : P * (d + m + br) = P * (dO + B * br') := by rw [hd]
  rw [Nat.mul_add, Nat.mul_add, ← Nat.mul_assoc] at e2
  rw [Nat.mul_add, Nat.mul_add, Nat.mul_add, ← Nat.mul_assoc] at e4
  have e3 : f * (R + P * dR) = f * R + P * (dR * f) := by rw [Nat.mul_add, Nat.mul_comm dR f, Nat.mul_left_comm]
  omega
theorem subrow_round {B o r X c br f k m q d br' : Nat} (h : X + f * (r % B ^ k) = o % B ^ k + B ^ k * c + B ^ k * br) (e : m + B * q = c + dg B r k * f) (hd : d + m + br = dg B o k + B * br') :
    (X + B ^ k * d) + f * (r % B ^ (k + 1)) = o % B ^ (k + 1) + B ^ (k + 1) * q + B ^ (k + 1) * br' := by
  rw [mod_succ, mod_succ, Nat.pow_succ]
  exact subrow_step h e hd
/-- dividing by one digit, from the top -/
theorem divdig_round {B a b Q r k : Nat} (hb : 0 < b) (h : a / B ^ (k + 1) = Q * b + r) (_hr : r < b) :
    a / B ^ k = (B * Q + (r * B + dg B a k) / b) * b + (r * B + dg B a k) % b := by
  rw [div_succ B a k, h]
  have e := Nat.div_add_mod (r * B + dg B a k) b
  generalize (r * B + dg B a k) / b = q at *
  generalize (r * B + dg B a k) % b = m at *
  rw [Nat.add_mul, Nat.mul_add, Nat.mul_assoc, Nat.mul_comm r B] at *
  have := Nat.mul_comm b q
  have := hb
  omega
theorem divdig_lt {B b r d : Nat} (hr : r < b) (hd : d < B) : (r * B + d) / b < B := by
  rw [Nat.div_lt_iff_lt_mul (by omega)]
  have : r * B + B ≤ b * B := by rw [← Nat.succ_mul]; exact Nat.mul_le_mul_right _ hr
  rw [Nat.mul_comm B b]; omega
/-- shifting left -/
theorem shl_step {P B X c A s d : Nat} (h : X + P * c = A * s) :
    (X + P * ((c + d * s) % B)) + P * B * ((c + d * s) / B) = (A + P * d) * s := by
  have e := Nat.mod_add_div (c + d * s) B
  generalize (c + d * s) % B = m at *
  generalize (c + d * s) / B = q at *
  have e2 : P * (m + B * q) = P * (c + d * s) := by rw [e]
  rw [Nat.mul_add, Nat.mul_add, ← Nat.mul_assoc] at e2
  have e3 : (A + P * d) * s = A * s + P * (d * s) := by rw [Nat.add_mul, Nat.mul_assoc]
  omega
theorem shl_round {B a X c s k : Nat} (h : X + B ^ k * c = (a % B ^ k) * s) :
    (X + B ^ k * ((c + dg B a k * s) % B)) + B ^ (k + 1) * ((c + dg B a k * s) / B) = (a % B ^ (k + 1)) * s := by
  rw [mod_succ, Nat.pow_succ]
  exact shl_step h
theorem shl_carry {B c d s : Nat} (hc : c < s) (hd : d < B) : (c + d * s) / B < s := by
  rw [Nat.div_lt_iff_lt_mul (by omega)]
  have : d * s + s ≤ B * s := by rw [← Nat.succ_mul]; exact Nat.mul_le_mul_right _ hd
  rw [Nat.mul_comm s B]; omega
/-- shifting right: the digit i of a divided by B^w * s comes of two digits of a -/
theorem shr_digit {B a w s i : Nat} (hB : 0 < B) (hsB : s ∣ B) :
    dg B (a / (B ^ w * s)) i = ((dg B a (i + w) + B * dg B a (i + w + 1)) / s) % B := by
  unfold dg
  rw [Nat.div_div_eq_div_mul, show B ^ w * s * B ^ i = B ^ (i + w) * s by rw [Nat.pow_add, Nat.mul_comm (B ^ i), Nat.mul_assoc, Nat.mul_assoc, Nat.mul_comm s], ← Nat.div_div_eq_div_mul]
  have e1 : a / B ^ (i + w + 1) = a / B ^ (i + w) / B := by rw [Nat.pow_succ, ← Nat.div_div_eq_div_mul]
  rw [e1]
  generalize a / B ^ (i + w) = x
  obtain ⟨t, rfl⟩ := hsB
  have ht : 0 < t := Nat.pos_of_mul_pos_left hB
  -- x / s % (s t) against ((x % (s t) + s t * (x / (s t) % (s t))) / s) % (s t)
  have e2 : x % (s * t) + s * t * (x / (s * t) % (s * t)) = x % ((s * t) * (s * t)) := (Nat.mod_mul).symm
  rw [e2]
  have e3 : x % (s * t * (s * t)) / s = x / s % (t * (s * t)) := by
    rw [Nat.mul_assoc, Nat.mod_mul_right_div_self]
  rw [e3, Nat.mul_comm t (s * t), Nat.mod_mul_right_mod]
end Gu

namespace Gu

/-- what the estimate comes to: the greatest guess that is a digit and whose product with the two highest digits of the divisor is at most the three highest of the window -/
def est (B u v : Nat) : Nat := min (B - 1) (u / v)

theorem est_ge {B P u v wl dl q : Nat} (hv : 0 < v) (hB : 0 < B) (hwl : wl < P) (hlt : P * u + wl < (P * v + dl) * B) (hq : q = (P * u + wl) / (P * v + dl)) : q ≤ est B u v := by
  have hD : 0 < P * v + dl := by have : 0 < P * v := Nat.mul_pos (by omega) hv; omega
  have h1 : q ≤ B - 1 := by
    have : q < B := by rw [hq, Nat.div_lt_iff_lt_mul hD, Nat.mul_comm B]; exact hlt
    omega
  have h2 : q ≤ u / v := by
    rw [Nat.le_div_iff_mul_le hv]
    have h3 : q * (P * v + dl) ≤ P * u + wl := by rw [hq]; exact Nat.div_mul_le_self _ _
    have h4 : P * (q * v) ≤ q * (P * v + dl) := by
      have : P * (q * v) = q * (P * v) := Nat.mul_left_comm _ _ _
      rw [Nat.mul_add]; omega
    have h5 : P * (q * v) < P * (u + 1) := by rw [Nat.mul_add, Nat.mul_one]; omega
    have h6 := Nat.lt_of_mul_lt_mul_left h5
    omega
  exact Nat.le_min.2 ⟨h1, h2⟩
theorem est_le {B P u v wl dl q : Nat} (hP : 0 < P) (hv : B ≤ v) (hB : 0 < B) (hdl : dl < P) (hlt : P * u + wl < (P * v + dl) * B) (hq : q = (P * u + wl) / (P * v + dl)) : est B u v ≤ q + 1 := by
  have hD : 0 < P * v + dl := by have : 0 < P * v := Nat.mul_pos hP (by omega); omega
  have hqB : q < B := by rw [hq, Nat.div_lt_iff_lt_mul hD, Nat.mul_comm B]; exact hlt
  apply Nat.le_of_not_lt
  intro h
  have hg : q + 2 ≤ est B u v := h
  have h1 : (q + 2) * v ≤ u := by
    have : q + 2 ≤ u / v := Nat.le_trans hg (Nat.min_le_right _ _)
    exact (Nat.le_div_iff_mul_le (by omega)).1 this
  have h2 : P * u + wl < (q + 1) * (P * v + dl) := by
    have := Nat.lt_div_mul_add hD (a := P * u + wl)
    rw [← hq] at this
    rw [Nat.add_mul, Nat.one_mul]; exact this
  have h3 : P * ((q + 2) * v) ≤ P * u := Nat.mul_le_mul_left _ h1
  have h4 : (q + 1) * dl ≤ B * dl := Nat.mul_le_mul_right _ hqB
  have h5 : B * dl ≤ v * dl := Nat.mul_le_mul_right _ hv
  have h6 : v * dl ≤ v * P := Nat.mul_le_mul_left _ (by omega)
  have e1 : P * ((q + 2) * v) = P * ((q + 1) * v) + P * v := by
    rw [show q + 2 = (q + 1) + 1 from rfl, Nat.add_mul (q + 1) 1 v, Nat.one_mul, Nat.mul_add]
  have e2 : (q + 1) * (P * v + dl) = P * ((q + 1) * v) + (q + 1) * dl := by rw [Nat.mul_add, Nat.mul_left_comm]
  have e3 : v * P = P * v := Nat.mul_comm _ _
  rw [e1] at h3
  rw [e2] at h2
  omega
/-- a guess that is too great, by the test -/
theorem est_down {B f s high next g r : Nat} (hB : 0 < B) (h : g * f + r = high) (hbad : B ≤ g ∨ r * B + next < g * s) (he : est B (high * B + next) (f * B + s) ≤ g) :
    est B (high * B + next) (f * B + s) ≤ g - 1 ∧ 0 < g := by
  have key : est B (high * B + next) (f * B + s) < g ∧ 0 < g := by
    rcases hbad with hb | hb
    · have h1 : est B (high * B + next) (f * B + s) ≤ B - 1 := Nat.min_le_left _ _
      exact ⟨by omega, by omega⟩
    · have hg : 0 < g := by
        rcases Nat.eq_zero_or_pos g with h0 | h0
        · subst h0; omega
        · exact h0
      refine ⟨?_, hg⟩
      apply Nat.lt_of_le_of_lt (Nat.min_le_right _ _)
      have hv : 0 < f * B + s := by
        have : 0 < s := Nat.pos_of_mul_pos_left (a := g) (by omega)
        omega
      rw [Nat.div_lt_iff_lt_mul hv, ← h]
      have e1 : (g * f + r) * B = g * (f * B) + r * B := by rw [Nat.add_mul, Nat.mul_assoc]
      rw [e1, Nat.mul_add]; omega
  exact ⟨by omega, key.2⟩
/-- a guess that passes the test is the estimate -/
theorem est_found {B f s high next g r : Nat} (hf : 0 < f) (hB : 0 < B) (h : g * f + r = high) (h1 : g < B) (h2 : g * s ≤ r * B + next) (he : est B (high * B + next) (f * B + s) ≤ g) :
    g = est B (high * B + next) (f * B + s) := by
  refine Nat.le_antisymm (Nat.le_min.2 ⟨by omega, ?_⟩) he
  have hv : 0 < f * B + s := by have := Nat.mul_pos hf hB; omega
  rw [Nat.le_div_iff_mul_le hv, ← h]
  have e1 : (g * f + r) * B = g * (f * B) + r * B := by rw [Nat.add_mul, Nat.mul_assoc]
  rw [e1, Nat.mul_add]; omega
/-- a remainder that is no digit any more ends the search -/
theorem est_stop {B f s high next g r w0 w1 : Nat} (hf : 0 < f) (hB : 0 < B) (hs : s < B) (hh : high = w1 * B + w0) (hw1 : w1 ≤ f) (hw0 : w0 < B) (h : g * f + r = high) (hr : B ≤ r) (he : est B (high * B + next) (f * B + s) ≤ g) :
    g = est B (high * B + next) (f * B + s) := by
  have h1 : g < B := by
    have h3 : w1 * B ≤ f * B := Nat.mul_le_mul_right _ hw1
    have h4 : g * f < B * f := by rw [Nat.mul_comm B f]; omega
    exact Nat.lt_of_mul_lt_mul_right h4
  refine est_found hf hB h h1 ?_ he
  have h5 : g * s ≤ B * B := Nat.mul_le_mul (by omega) (by omega)
  have h6 : B * B ≤ r * B := Nat.mul_le_mul_right _ hr
  omega
/-- the first guess -/
theorem est_first {B f s high next : Nat} (hf : 0 < f) (hB : 0 < B) (hn : next < B) : est B (high * B + next) (f * B + s) ≤ high / f := by
  apply Nat.le_trans (Nat.min_le_right _ _)
  rw [Nat.le_div_iff_mul_le hf]
  have hv : 0 < f * B + s := by have := Nat.mul_pos hf hB; omega
  have h1 := Nat.div_mul_le_self (high * B + next) (f * B + s)
  generalize (high * B + next) / (f * B + s) = g at *
  have h2 : g * f * B ≤ g * (f * B + s) := by rw [Nat.mul_assoc, Nat.mul_add]; omega
  have h3 : g * f * B < (high + 1) * B := by rw [Nat.add_mul, Nat.one_mul]; omega
  have := Nat.lt_of_mul_lt_mul_right h3
  omega
/-- after the subtraction: the guess was right -/
theorem window_ok {Q W D Wl wn X g c : Nat} (hD : D < Q) (hW : W = Wl + Q * wn) (h : X + g * D = Wl + Q * c) (hq : g = W / D ∨ g = W / D + 1) (hD0 : 0 < D) (hc : c ≤ wn) :
    g = W / D ∧ X = W % D := by
  have e := Nat.div_add_mod W D
  have hm := Nat.mod_lt W hD0
  have h1 : Q * c ≤ Q * wn := Nat.mul_le_mul_left _ hc
  have hgW : g * D ≤ W := by omega
  have hg : g = W / D := by
    rcases hq with hq | hq
    · exact hq
    · rw [hq, Nat.add_mul, Nat.mul_comm] at hgW; omega
  refine ⟨hg, ?_⟩
  have hcw : c = wn := by
    rcases Nat.lt_or_ge c wn with h' | h'
    · have : Q * c + Q ≤ Q * wn := by rw [← Nat.mul_succ]; exact Nat.mul_le_mul_left _ h'
      have : g * D = D * (W / D) := by rw [hg, Nat.mul_comm]
      omega
    · omega
  subst hcw
  have : g * D = D * (W / D) := by rw [hg, Nat.mul_comm]
  omega
/-- .. it was one too great: adding the divisor wraps back -/
theorem window_back {Q W D Wl wn X g c Y k : Nat} (hX : X < Q) (hD : D < Q) (hW : W = Wl + Q * wn) (h : X + g * D = Wl + Q * c) (hq : g = W / D ∨ g = W / D + 1) (hD0 : 0 < D) (hc : wn < c) (hY : Y < Q) (hback : Y + Q * k = X + 1 * D) :
    g = W / D + 1 ∧ Y = W % D := by
  have e := Nat.div_add_mod W D
  have hm := Nat.mod_lt W hD0
  have h1 : Q * wn + Q ≤ Q * c := by rw [← Nat.mul_succ]; exact Nat.mul_le_mul_left _ hc
  have hg : g = W / D + 1 := by
    rcases hq with hq | hq
    · have : g * D = D * (W / D) := by rw [hq, Nat.mul_comm]
      omega
    · exact hq
  refine ⟨hg, ?_⟩
  have e2 : g * D = D * (W / D) + D := by rw [hg, Nat.add_mul, Nat.one_mul, Nat.mul_comm]
  obtain ⟨j, rfl⟩ : ∃ j, c = wn + 1 + j := ⟨c - wn - 1, by omega⟩
  have e3 : Q * (wn + 1 + j) = Q * wn + Q + Q * j := by rw [Nat.mul_add, Nat.mul_add, Nat.mul_one]
  have hj : j = 0 := by
    rcases Nat.eq_zero_or_pos j with h' | h'
    · exact h'
    · have : Q ≤ Q * j := Nat.le_mul_of_pos_right _ h'
      omega
  subst hj
  have hk : k = 1 := by
    have e4 : Y + Q * k = W % D + Q := by omega
    rcases Nat.lt_or_ge k 1 with h' | h'
    · have : k = 0 := by omega
      subst this; omega
    · rcases Nat.lt_or_ge 1 k with h'' | h''
      · have : Q * 2 ≤ Q * k := Nat.mul_le_mul_left _ h''
        omega
      · omega
  subst hk
  omega
/-- the highest digit in which two numbers differ decides -/
theorem lt_of_dg {B a b k : Nat} (h : a / B ^ (k + 1) = b / B ^ (k + 1)) (hd : dg B a k < dg B b k) : a < b := by
  have h1 : a / B ^ k < b / B ^ k := by rw [div_succ B a k, div_succ B b k, h]; omega
  rcases Nat.lt_or_ge a b with h' | h'
  · exact h'
  · have := Nat.div_le_div_right (c := B ^ k) h'; omega
theorem div_of_dg {B a b k : Nat} (h : a / B ^ (k + 1) = b / B ^ (k + 1)) (hd : dg B a k = dg B b k) : a / B ^ k = b / B ^ k := by
  rw [div_succ B a k, div_succ B b k, h, hd]
/-- the digits of a number in a low part, one digit and a high part -/
theorem dg_mid {B A y Z j i : Nat} (hB : 0 < B) (hA : A < B ^ j) (hy : y < B) : dg B (A + B ^ j * (y + B * Z)) i = if i < j then dg B A i else if i = j then y else dg B Z (i - j - 1) := by
  split
  · rename_i h; exact dg_low hB h
  · split
    · rename_i h1 h; subst h
      have := dg_up (i := 0) (y := y + B * Z) hB hA
      rw [Nat.add_zero] at this
      rw [this]; simp [dg, Nat.add_mul_mod_self_left, Nat.mod_eq_of_lt hy]
    · rename_i h1 h2
      obtain ⟨t, rfl⟩ : ∃ t, i = j + (1 + t) := ⟨i - j - 1, by omega⟩
      rw [dg_up hB hA]
      have e : y + B * Z = y + B ^ 1 * Z := by rw [Nat.pow_one]
      rw [e, dg_up hB (by rw [Nat.pow_one]; exact hy)]
      congr 1; omega
/-- a row is added to a window of a number: the number behind k digits -/
theorem win_split {B L X W H o n k : Nat} (hk : k < n) : L + B ^ o * (X + B ^ k * (W / B ^ k + B ^ (n - k) * H)) = (L + B ^ o * X) + B ^ (o + k) * (dg B W k + B * (W / B ^ (k + 1) + B ^ (n - (k + 1)) * H)) := by
  rw [div_succ B W k]
  have e : B ^ (n - k) = B * B ^ (n - (k + 1)) := by
    rw [show n - k = (n - (k + 1)) + 1 from by omega, Nat.pow_succ, Nat.mul_comm]
  rw [e]
  generalize W / B ^ (k + 1) = u
  generalize B ^ (n - (k + 1)) = v
  rw [Nat.pow_add, Nat.mul_add B, Nat.mul_assoc B, Nat.mul_add (B ^ o), Nat.mul_assoc (B ^ o), Nat.add_assoc L, Nat.add_assoc (dg B W k)]
theorem win_join {B L X d W H o n k : Nat} (_hk : k < n) : (L + B ^ o * X) + B ^ (o + k) * (d + B * (W / B ^ (k + 1) + B ^ (n - (k + 1)) * H)) = L + B ^ o * ((X + B ^ k * d) + B ^ (k + 1) * (W / B ^ (k + 1) + B ^ (n - (k + 1)) * H)) := by
  generalize W / B ^ (k + 1) + B ^ (n - (k + 1)) * H = t
  have e1 : B ^ (o + k) * (d + B * t) = B ^ o * (B ^ k * d) + B ^ o * (B ^ (k + 1) * t) := by
    rw [Nat.pow_add, Nat.mul_assoc, Nat.mul_add, Nat.mul_add, Nat.pow_succ, Nat.mul_assoc (B ^ k)]
  have e2 : B ^ o * ((X + B ^ k * d) + B ^ (k + 1) * t) = B ^ o * X + B ^ o * (B ^ k * d) + B ^ o * (B ^ (k + 1) * t) := by rw [Nat.mul_add, Nat.mul_add]
  rw [e1, e2]
  omega
theorem win_lt {B L X o k : Nat} (hL : L < B ^ o) (hX : X < B ^ k) : L + B ^ o * X < B ^ (o + k) := by
  have : B ^ o * X + B ^ o ≤ B ^ o * B ^ k := by rw [← Nat.mul_succ]; exact Nat.mul_le_mul_left _ hX
  rw [Nat.pow_add]; omega
theorem mul_bound {c d f o : Nat} (hc : c < 4294967296) (hd : d < 4294967296) (hf : f < 4294967296) (ho : o < 4294967296) : d * f + o < 18446744073709551616 ∧ c + (d * f + o) < 18446744073709551616 ∧ d * f < 18446744073709551616 := by
  have h1 : d * f ≤ 4294967295 * 4294967295 := Nat.mul_le_mul (by omega) (by omega)
  omega
end Gu
namespace Gu
open Go.Lib (decDigits nDigits)

/-- the last k decimal digits of g, the highest first -/
def padz : Nat → Nat → List UInt8
  | 0, _ => []
  | k + 1, g => padz k (g / 10) ++ [UInt8.ofNat (48 + g % 10)]

theorem padz_length (k g : Nat) : (padz k g).length = k := by
  induction k generalizing g with
  | zero => rfl
  | succ k ih => simp [padz, ih]
theorem decDigits_big {u : Nat} (h : 10 ≤ u) : decDigits u = decDigits (u / 10) ++ [UInt8.ofNat (48 + u % 10)] := by
  rw [decDigits, dif_neg (by omega)]
theorem decDigits_small {u : Nat} (h : u < 10) : decDigits u = [UInt8.ofNat (48 + u)] := by
  rw [decDigits, dif_pos h]
/-- a numeral in two groups -/
theorem decDigits_split (k g r : Nat) (hg : g < 10 ^ k) (hr : 0 < r) : decDigits (g + 10 ^ k * r) = decDigits r ++ padz k g := by
  induction k generalizing g with
  | zero => simp at hg; subst hg; simp [padz]
  | succ k ih =>
    rw [Nat.pow_succ] at hg
    have hp : 0 < 10 ^ k := Nat.pow_pos (by decide)
    have e : g + 10 ^ (k + 1) * r = 10 * (g / 10 + 10 ^ k * r) + g % 10 := by
      rw [Nat.pow_succ, Nat.mul_comm (10 ^ k) 10, Nat.mul_assoc, Nat.mul_add]; omega
    have hbig : 10 ≤ g + 10 ^ (k + 1) * r := by
      have : 1 ≤ 10 ^ k * r := Nat.mul_pos hp hr
      omega
    rw [decDigits_big hbig, e]
    have e1 : (10 * (g / 10 + 10 ^ k * r) + g % 10) / 10 = g / 10 + 10 ^ k * r := by omega
    have e2 : (10 * (g / 10 + 10 ^ k * r) + g % 10) % 10 = g % 10 := by omega
    rw [e1, e2, ih (g / 10) (by omega), padz, List.append_assoc]
theorem repl_zero (k : Nat) : Go.Lib.repeatL [48] k = List.replicate k (48 : UInt8) := by
  induction k with
  | zero => rfl
  | succ k ih => rw [Go.Lib.repeatL, ih, List.replicate_succ]; rfl
theorem padz_zero (k : Nat) : padz k 0 = List.replicate k (48 : UInt8) := by
  induction k with
  | zero => rfl
  | succ k ih => rw [padz, Nat.zero_div, ih, List.replicate_succ']; rfl
/-- zeros ahead of a numeral -/
theorem padz_eq (k g : Nat) (h : nDigits g ≤ k) : padz k g = List.replicate (k - nDigits g) (48 : UInt8) ++ decDigits g := by
  induction k generalizing g with
  | zero => have := Go.Lib.nDigits_pos g; omega
  | succ k ih =>
    by_cases hg : g < 10
    · rw [padz, Nat.div_eq_of_lt hg, padz_zero, Go.Lib.nDigits_small hg, decDigits_small hg, Nat.mod_eq_of_lt hg]; rfl
    · have h1 := Go.Lib.nDigits_big hg
      have h2 : nDigits (g / 10) ≤ k := by rw [h1] at h; exact Nat.le_of_succ_le_succ h
      have h3 : k + 1 - (nDigits (g / 10) + 1) = k - nDigits (g / 10) := Nat.add_sub_add_right _ _ _
      rw [padz, ih (g / 10) h2, decDigits_big (Nat.le_of_not_lt hg), h1, h3, ← List.append_assoc]
theorem nDigits_le {k g : Nat} (hk : 0 < k) (h : g < 10 ^ k) : nDigits g ≤ k := by
  induction k generalizing g with
  | zero => omega
  | succ k ih =>
    by_cases hg : g < 10
    · rw [Go.Lib.nDigits_small hg]; omega
    · rw [Go.Lib.nDigits_big hg]
      rw [Nat.pow_succ] at h
      have : g / 10 < 10 ^ k := by omega
      have hk : 0 < k := by
        rcases Nat.eq_zero_or_pos k with h' | h'
        · subst h'; simp at this; omega
        · exact h'
      have := ih hk this; omega
/-- the group of nine digits as the program writes it -/
theorem group_eq (g : Nat) (h : g < 1000000000) : Go.Lib.repeatL [48] (9 - (decDigits g).length) ++ decDigits g = padz 9 g := by
  rw [Go.Lib.decDigits_length, repl_zero, padz_eq 9 g (nDigits_le (by decide) (by simpa using h))]

/-! reading -/
def isDigit (c : UInt8) : Bool := 48 ≤ c && c ≤ 57
theorem snoc_ind {P : List UInt8 → Prop} (h0 : P []) (hs : ∀ s c, P s → P (s ++ [c])) (s : List UInt8) : P s := by
  have : ∀ t : List UInt8, P t.reverse := by
    intro t
    induction t with
    | nil => exact h0
    | cons c t ih => rw [List.reverse_cons]; exact hs _ _ ih
  have h := this s.reverse
  rwa [List.reverse_reverse] at h
def sval (s : List UInt8) : Nat := s.foldl (fun a c => a * 10 + (c.toNat - 48)) 0
theorem sval_snoc (s : List UInt8) (c : UInt8) : sval (s ++ [c]) = sval s * 10 + (c.toNat - 48) := by simp [sval]
/-- a numeral: digits, and no 0 ahead of others -/
def isNum (s : List UInt8) : Bool := !s.isEmpty && !(s.head? == some 48 && decide (1 < s.length)) && s.all isDigit
theorem digit_ofNat {d : Nat} (h : d < 10) : (UInt8.ofNat (48 + d)).toNat = 48 + d := by
  simp; omega
theorem sval_dec (n : Nat) : sval (decDigits n) = n := by
  induction n using Nat.strongRecOn with
  | ind n ih =>
    by_cases h : n < 10
    · rw [decDigits_small h]; simp [sval]; omega
    · rw [decDigits_big (by omega), sval_snoc, ih _ (by omega), digit_ofNat (by omega)]; omega
theorem isDigit_ofNat {d : Nat} (h : d < 10) : isDigit (UInt8.ofNat (48 + d)) = true := by
  simp only [isDigit, UInt8.le_iff_toNat_le, digit_ofNat h, Bool.and_eq_true, decide_eq_true_eq]
  constructor
  · show 48 ≤ 48 + d; omega
  · show 48 + d ≤ 57; omega
theorem dec_ne_nil (n : Nat) : decDigits n ≠ [] := by
  intro h
  have := Go.Lib.decDigits_length n
  rw [h] at this
  have := Go.Lib.nDigits_pos n
  simp at *; omega
theorem dec_head (n : Nat) : 0 < n → ∃ d l, 1 ≤ d ∧ d < 10 ∧ decDigits n = UInt8.ofNat (48 + d) :: l := by
  induction n using Nat.strongRecOn with
  | ind n ih =>
    intro hn
    by_cases h : n < 10
    · exact ⟨n, [], by omega, h, decDigits_small h⟩
    · obtain ⟨d, l, h1, h2, h3⟩ := ih (n / 10) (by omega) (by omega)
      exact ⟨d, l ++ [UInt8.ofNat (48 + n % 10)], h1, h2, by rw [decDigits_big (by omega), h3]; rfl⟩
theorem dec_digits (n : Nat) : (decDigits n).all isDigit = true := by
  induction n using Nat.strongRecOn with
  | ind n ih =>
    by_cases h : n < 10
    · rw [decDigits_small h, List.all_cons, isDigit_ofNat h]; rfl
    · rw [decDigits_big (by omega), List.all_append, ih _ (by omega), List.all_cons, isDigit_ofNat (Nat.mod_lt n (by decide : 0 < 10))]; rfl
theorem isNum_dec (n : Nat) : isNum (decDigits n) = true := by
  unfold isNum
  rw [dec_digits n]
  rcases Nat.eq_zero_or_pos n with h | h
  · subst h; rw [decDigits_small (by decide)]; rfl
  · obtain ⟨d, l, h1, h2, h3⟩ := dec_head n h
    rw [h3]
    have hne : UInt8.ofNat (48 + d) ≠ 48 := by
      intro e
      have := congrArg UInt8.toNat e
      rw [digit_ofNat h2] at this
      have h48 : (48 : UInt8).toNat = 48 := rfl
      omega
    generalize UInt8.ofNat (48 + d) = c at hne
    simp [hne]
theorem sval_append (a b : List UInt8) : sval (a ++ b) = sval a * 10 ^ b.length + sval b := by
  induction b using snoc_ind with
  | h0 => simp [sval]
  | hs b c ih =>
    rw [← List.append_assoc, sval_snoc, ih, sval_snoc, List.length_append, Nat.add_mul, Nat.mul_assoc]
    simp [Nat.pow_succ]; omega
theorem sval_lt (s : List UInt8) (h : s.all isDigit = true) : sval s < 10 ^ s.length := by
  induction s using snoc_ind with
  | h0 => simp [sval]
  | hs s c ih =>
    simp only [List.all_append, Bool.and_eq_true, List.all_cons, List.all_nil, Bool.and_true] at h
    obtain ⟨h1, h2⟩ := h
    have := ih h1
    simp only [isDigit, UInt8.le_iff_toNat_le, Bool.and_eq_true, decide_eq_true_eq] at h2
    have h57 : (57 : UInt8).toNat = 57 := rfl
    rw [sval_snoc, List.length_append]
    simp only [List.length_singleton, Nat.pow_succ]
    omega
/-- what is read is what is written -/
theorem dec_sval (s : List UInt8) (h : isNum s = true) : decDigits (sval s) = s := by
  have key : ∀ s : List UInt8, s.all isDigit = true → (∀ c l, s = c :: l → c ≠ 48) → s ≠ [] → decDigits (sval s) = s ∧ 0 < sval s := by
    intro s
    induction s using snoc_ind with
    | h0 => intro _ _ h; exact absurd rfl h
    | hs s c ih =>
      intro h1 h2 _
      simp only [List.all_append, Bool.and_eq_true, List.all_cons, List.all_nil, Bool.and_true] at h1
      obtain ⟨ha, hc⟩ := h1
      simp only [isDigit, UInt8.le_iff_toNat_le, Bool.and_eq_true, decide_eq_true_eq] at hc
      have h57 : (57 : UInt8).toNat = 57 := rfl
      have h48 : (48 : UInt8).toNat = 48 := rfl
      have hcc : UInt8.ofNat (48 + (c.toNat - 48)) = c := by
        apply UInt8.toNat_inj.1
        rw [digit_ofNat (by omega)]; omega
      by_cases hs : s = []
      · subst hs
        have hne := h2 c [] rfl
        have hne' : c.toNat ≠ 48 := fun e => hne (UInt8.toNat_inj.1 (by rw [e]; rfl))
        have e : sval ([] ++ [c]) = c.toNat - 48 := by simp [sval]
        rw [e, decDigits_small (by omega), hcc]
        exact ⟨rfl, by omega⟩
      · obtain ⟨g1, g2⟩ := ih ha (fun d l e => h2 d (l ++ [c]) (by rw [e]; rfl)) hs
        rw [sval_snoc, decDigits_big (by omega)]
        have e1 : (sval s * 10 + (c.toNat - 48)) / 10 = sval s := by omega
        have e2 : (sval s * 10 + (c.toNat - 48)) % 10 = c.toNat - 48 := by omega
        rw [e1, e2, g1, hcc]
        exact ⟨rfl, by omega⟩
  unfold isNum at h
  simp only [Bool.and_eq_true, Bool.not_eq_true', Bool.and_eq_false_iff] at h
  obtain ⟨⟨h1, h2⟩, h3⟩ := h
  cases s with
  | nil => simp at h1
  | cons c l =>
    rcases h2 with h2 | h2
    · refine (key _ h3 (fun d m e => ?_) (by simp)).1
      simp only [List.cons.injEq] at e
      obtain ⟨rfl, _⟩ := e
      intro hc; subst hc; simp at h2
    · have : l = [] := by
        simp at h2; exact h2
      subst this
      simp only [List.all_cons, List.all_nil, Bool.and_true, isDigit, UInt8.le_iff_toNat_le, Bool.and_eq_true, decide_eq_true_eq] at h3
      have h57 : (57 : UInt8).toNat = 57 := rfl
      have h48 : (48 : UInt8).toNat = 48 := rfl
      have e : sval [c] = c.toNat - 48 := by simp [sval]
      rw [e, decDigits_small (by omega)]
      congr 1
      apply UInt8.toNat_inj.1
      rw [digit_ofNat (by omega)]; omega
theorem dec_inj {a b : Nat} (h : decDigits a = decDigits b) : a = b := by rw [← sval_dec a, ← sval_dec b, h]
end Gu

namespace Gu
open Go.Lib (decDigits nDigits)

theorem nd_eq {B n k : Nat} (hB : 2 ≤ B) (h1 : B ^ k ≤ n) (h2 : n < B ^ (k + 1)) : nd B n = k + 1 := by
  have a := (nd_le hB).2 h2
  rcases Nat.lt_or_ge (nd B n) (k + 1) with h | h
  · have := (nd_le hB).1 (Nat.le_of_lt_succ h); omega
  · omega
/-- a number in a high digit and the rest -/
theorem top_split {B n k : Nat} (hB : 2 ≤ B) (hk : nd B n = k + 1) : n = n % B ^ k + B ^ k * dg B n k := by
  have h := nd_lt hB n
  rw [hk] at h
  rw [← mod_succ, eq_mod h]
/-- bits of a number out of its highest digit: B is 2^s -/
theorem bits_top {s n k L : Nat} (hs : 0 < s) (hk : nd (2 ^ s) n = k + 1) (h1 : 2 ^ L ≤ dg (2 ^ s) n k) (h2 : dg (2 ^ s) n k < 2 ^ (L + 1)) : nd 2 n = s * k + L + 1 := by
  have hB : 2 ≤ 2 ^ s := by
    calc 2 = 2 ^ 1 := rfl
      _ ≤ 2 ^ s := Nat.pow_le_pow_right (by decide) hs
  have e := top_split hB hk
  have hp : 0 < (2 ^ s) ^ k := Nat.pow_pos (by omega)
  have hlow : n % (2 ^ s) ^ k < (2 ^ s) ^ k := Nat.mod_lt _ hp
  have ep : (2 ^ s) ^ k = 2 ^ (s * k) := (Nat.pow_mul _ _ _).symm
  generalize dg (2 ^ s) n k = t at *
  generalize n % (2 ^ s) ^ k = l at *
  rw [ep] at hlow e hp
  apply nd_eq (by decide)
  · rw [e, Nat.pow_add]
    have := Nat.mul_le_mul_left (2 ^ (s * k)) h1
    omega
  · rw [e, show s * k + L + 1 = s * k + (L + 1) from by omega, Nat.pow_add]
    have : 2 ^ (s * k) * t + 2 ^ (s * k) ≤ 2 ^ (s * k) * 2 ^ (L + 1) := by rw [← Nat.mul_succ]; exact Nat.mul_le_mul_left _ h2
    omega
theorem bitLen_spec {x : Nat} (h : x < 2 ^ 64) (h0 : 0 < x) : ∃ L, Go.Lib.bitLen x = L + 1 ∧ 2 ^ L ≤ x ∧ x < 2 ^ (L + 1) := by
  obtain ⟨a, b, c⟩ := Go.Lib.bitLenAux_bounds 64 x h (by omega)
  refine ⟨Go.Lib.bitLen x - 1, ?_, b, ?_⟩
  · unfold Go.Lib.bitLen; omega
  · unfold Go.Lib.bitLen
    rwa [Nat.sub_add_cancel a]
theorem bitLen_zero : Go.Lib.bitLen 0 = 0 := Go.Lib.bitLenAux_zero 64
/-- bitLen of the program -/
theorem bits_32 {n : Nat} (h : 0 < n) : nd 2 n = 32 * (nd (2 ^ 32) n - 1) + Go.Lib.bitLen (dg (2 ^ 32) n (nd (2 ^ 32) n - 1)) := by
  have hB : 2 ≤ 2 ^ 32 := by decide
  obtain ⟨k, hk⟩ : ∃ k, nd (2 ^ 32) n = k + 1 := ⟨nd (2 ^ 32) n - 1, by have := nd_pos hB h; omega⟩
  have ht := dg_top hB h
  rw [hk, Nat.add_sub_cancel] at ht ⊢
  obtain ⟨L, e, h1, h2⟩ := bitLen_spec (Nat.lt_trans (dg_lt (by decide) n k) (by decide : 2 ^ 32 < 2 ^ 64)) ht
  rw [e, bits_top (by decide) hk h1 h2]; rfl
theorem bitLen_eq {x : Nat} (h : x < 2 ^ 64) : Go.Lib.bitLen x = nd 2 x := by
  rcases Nat.eq_zero_or_pos x with h0 | h0
  · subst h0; rw [bitLen_zero, nd_zero]
  · obtain ⟨L, e, h1, h2⟩ := bitLen_spec h h0
    rw [e, nd_eq (by decide) h1 h2]

/-! numerals -/
theorem nDigits_eq {n : Nat} (h : 0 < n) : nDigits n = nd 10 n := by
  have h1 := nd_lt (by decide : 2 ≤ 10) n
  have h2 := nd_pow_le (by decide : 2 ≤ 10) h
  obtain ⟨k, hk⟩ : ∃ k, nd 10 n = k + 1 := ⟨nd 10 n - 1, by have := nd_pos (by decide : 2 ≤ 10) h; omega⟩
  rw [hk] at h1 h2 ⊢
  rw [Nat.add_sub_cancel] at h2
  exact Go.Lib.nDigits_unique k n h2 h1
theorem dec_eq_digits {n : Nat} (h : 0 < n) : decDigits n = ((pad 10 (nd 10 n) n).map fun d => UInt8.ofNat (48 + d)).reverse := by
  rw [Go.Lib.decDigits_eq, nDigits_eq h]
  apply List.ext_getElem (by simp [pad])
  intro i h1 h2
  simp only [List.length_map, List.length_range] at h1
  simp only [List.getElem_map, List.getElem_range, List.getElem_reverse, pad_getElem, List.length_map, pad_length, Go.Lib.dg, dg]
/-- one group of nine digits more -/
theorem dec_group {n j : Nat} (h : 0 < n / 1000000000 ^ (j + 1)) : decDigits (n / 1000000000 ^ j) = decDigits (n / 1000000000 ^ (j + 1)) ++ padz 9 (dg 1000000000 n j) := by
  rw [div_succ 1000000000 n j]
  have := decDigits_split 9 (dg 1000000000 n j) (n / 1000000000 ^ (j + 1)) (dg_lt (by decide) _ _) h
  exact this
theorem dec_len_le {n k : Nat} (hk : 0 < k) (h : n < 10 ^ k) : (decDigits n).length ≤ k := by
  rw [Go.Lib.decDigits_length]; exact nDigits_le hk h
/-- a binary digit out of a digit to the base 2^s -/
theorem dg_two (s n i : Nat) (hs : 0 < s) : dg 2 n i = dg (2 ^ s) n (i / s) / 2 ^ (i % s) % 2 := by
  unfold dg
  have hr : i % s < s := Nat.mod_lt _ hs
  obtain ⟨t, ht⟩ : ∃ t, s = i % s + (1 + t) := ⟨s - (i % s) - 1, by omega⟩
  have e1 : 2 ^ i = (2 ^ s) ^ (i / s) * 2 ^ (i % s) := by
    rw [← Nat.pow_mul, ← Nat.pow_add, Nat.div_add_mod]
  rw [e1, ← Nat.div_div_eq_div_mul]
  generalize n / (2 ^ s) ^ (i / s) = x
  have e2 : x % 2 ^ s = x % (2 ^ (i % s) * (2 * 2 ^ t)) := by
    rw [show 2 ^ (i % s) * (2 * 2 ^ t) = 2 ^ s from by
      conv => rhs; rw [ht]
      rw [Nat.pow_add, Nat.pow_add, Nat.pow_one]]
  rw [e2, Nat.mod_mul_right_div_self, Nat.mod_mul_right_mod]
end Gu
namespace Gu
open Go Go.RowKit

/-- the slice v holds the digits of n to the base B, as integers of kind k, the lowest first, and none beyond -/
def IsN (k : IntKind) (B : Nat) (w : World) (v : Value) (n : Nat) : Prop :=
  (n = 0 ∧ ∃ ao cap, v = .slice ao 0 cap) ∨
  (0 < n ∧ ∃ b o cap, v = .slice (some ⟨b, o, none⟩) (nd B n) cap ∧ ∀ i, i < nd B n → w.cell? ⟨b, o + i, none⟩ = some (.int k (dg B n i)))

theorem IsN.zero (k : IntKind) (B : Nat) (w : World) (ao : Option Addr) (cap : Nat) : IsN k B w (.slice ao 0 cap) 0 := .inl ⟨rfl, ao, cap, rfl⟩
theorem IsN.below {k : IntKind} {B : Nat} {w w' : World} {v : Value} {n : Nat} (h : IsN k B w v n) (hb : Below w.heap.size w w') : IsN k B w' v n := by
  rcases h with h | ⟨h0, b, o, cap, hv, hc⟩
  · exact .inl h
  · refine .inr ⟨h0, b, o, cap, hv, fun i hi => ?_⟩
    have h1 := hc i hi
    have hlt : b < w.heap.size := World.block_lt_of_cell? _ _ h1
    rw [hb.cell (p := ⟨b, o + i, none⟩) hlt]; exact h1
theorem IsN.alike {k : IntKind} {B : Nat} {w w' : World} {v : Value} {n : Nat} (h : IsN k B w v n) (hb : w'.Alike w) : IsN k B w' v n := by
  rcases h with h | ⟨h0, b, o, cap, hv, hc⟩
  · exact .inl h
  · exact .inr ⟨h0, b, o, cap, hv, fun i hi => by rw [hb.cell]; exact hc i hi⟩
/-- the slice's shape: a length that is known, and cells where there are any -/
theorem IsN.shape {k : IntKind} {B : Nat} {w : World} {v : Value} {n : Nat} (h : IsN k B w v n) : ∃ ao cap, v = .slice ao (nd B n) cap ∧ ∀ i, i < nd B n → ∃ b o, ao = some ⟨b, o, none⟩ ∧ w.cell? ⟨b, o + i, none⟩ = some (.int k (dg B n i)) := by
  rcases h with ⟨h0, ao, cap, hv⟩ | ⟨h0, b, o, cap, hv, hc⟩
  · subst h0; exact ⟨ao, cap, by rw [nd_zero]; exact hv, fun i hi => by rw [nd_zero] at hi; omega⟩
  · exact ⟨_, cap, hv, fun i hi => ⟨b, o, rfl, hc i hi⟩⟩

/-- a buffer of m cells that holds the digits of x -/
def Buf (k : IntKind) (B : Nat) (T : TypeId) (w : World) (g m x : Nat) : Prop := w.rowIs g T m (fun i => .int k (dg B x i))

theorem Buf.made (k : IntKind) (B : Nat) (T : TypeId) (w : World) (m : Nat) : Buf k B T (w.alloc (.cells (madeCells #[.int k 0] m) T)) w.heap.size m 0 :=
  (World.rowIs_made w (.int k 0) m T).congr (fun i _ => by rw [dg_zero]; rfl)
theorem Buf.cell {k : IntKind} {B : Nat} {T : TypeId} {w : World} {g m x : Nat} (h : Buf k B T w g m x) {i : Nat} (hi : i < m) : w.cell? ⟨g, i, none⟩ = some (.int k (dg B x i)) := World.rowIs.cell h hi
theorem Buf.frozen {k : IntKind} {B : Nat} {T : TypeId} {w : World} {g m x : Nat} (h : Buf k B T w g m x) (i : Nat) : w.frozen? ⟨g, i, none⟩ = false := World.rowIs.frozen h i
theorem Buf.lt {k : IntKind} {B : Nat} {T : TypeId} {w : World} {g m x : Nat} (h : Buf k B T w g m x) : g < w.heap.size := World.rowIs.lt h
theorem Buf.below {k : IntKind} {B : Nat} {T : TypeId} {w w' : World} {g m x B' : Nat} (h : Buf k B T w g m x) (hb : Below B' w w') (hg : g < B') : Buf k B T w' g m x := World.rowIs.of_block h (hb.block g hg)
theorem Buf.alloc {k : IntKind} {B : Nat} {T : TypeId} {w : World} {g m x : Nat} (h : Buf k B T w g m x) (o : Obj) : Buf k B T (w.alloc o) g m x := World.rowIs.alloc h o
/-- a digit is stored where there was none -/
theorem Buf.put {k : IntKind} {B : Nat} {T : TypeId} {w : World} {g m x j : Nat} (h : Buf k B T w g m x) (hB : 0 < B) (hx : x < B ^ j) {d : Nat} (hd : d < B) : Buf k B T (w.setCell ⟨g, j, none⟩ (.int k d)) g m (x + B ^ j * d) := by
  refine (World.rowIs.set h j (.int k d)).congr (fun i _ => ?_)
  by_cases e : i = j
  · subst e; rw [if_pos rfl, dg_self hB hx hd]
  · rw [if_neg e]
    rcases Nat.lt_or_gt_of_ne e with h' | h'
    · rw [dg_low hB h']
    · rw [dg_high hB hx (by omega), dg_high hB (snoc_lt hx hd) (by omega)]
/-- the filled buffer, cut to the digits that the number has -/
theorem Buf.isN {k : IntKind} {B : Nat} {T : TypeId} {w : World} {g m x : Nat} (h : Buf k B T w g m x) (hB : 2 ≤ B) (hx : x < B ^ m) (cap : Nat) : IsN k B w (.slice (some ⟨g, 0, none⟩) (nd B x) cap) x := by
  rcases Nat.eq_zero_or_pos x with h0 | h0
  · subst h0; rw [nd_zero]; exact IsN.zero _ _ _ _ _
  · refine .inr ⟨h0, g, 0, cap, rfl, fun i hi => ?_⟩
    rw [Nat.zero_add]
    exact h.cell (Nat.lt_of_lt_of_le hi ((nd_le hB).2 hx))
/-- a slice that the call has built by append, of m digits of x -/
def Own (k : IntKind) (B : Nat) (T : TypeId) (w : World) (base : Nat) (v : Value) (m x : Nat) : Prop := w.ownsRow base T 1 v m ((pad B m x).map fun d : Nat => Value.int k (d : Int))

theorem Own.nil (k : IntKind) (B : Nat) (T : TypeId) (w : World) (base : Nat) : Own k B T w base (.slice none 0 0) 0 0 := by
  unfold Own; exact World.ownsRow_nil _ _ _ _
theorem Own.shape {k : IntKind} {B : Nat} {T : TypeId} {w : World} {base : Nat} {v : Value} {m x : Nat} (h : Own k B T w base v m x) :
    (v = .slice none 0 0 ∧ m = 0) ∨ ∃ g cap, v = .slice (some ⟨g, 0, none⟩) m cap ∧ base ≤ g ∧ g < w.heap.size ∧ m ≤ cap ∧ cap ≤ maxLen ∧ (∀ i, i < m → w.cell? ⟨g, i, none⟩ = some (.int k (dg B x i))) := by
  have h' := h
  rcases h.2 with h2 | ⟨g, cap, cur, hv, hb, hg, hm, hc, hs, ht⟩
  · exact .inl h2
  · refine .inr ⟨g, cap, hv, hb, (Array.getElem?_eq_some_iff.1 hg).1, hm, hc, fun i hi => ?_⟩
    subst hv
    rw [World.ownsRow.cellAt h' i (by omega)]
    simp [pad, hi]
theorem Own.isN {k : IntKind} {B : Nat} {T : TypeId} {w : World} {base : Nat} {v : Value} {m x : Nat} (h : Own k B T w base v m x) (hB : 2 ≤ B) (hm : nd B x = m) : IsN k B w v x := by
  rcases h.shape with ⟨hv, h0⟩ | ⟨g, cap, hv, _, _, _, _, hc⟩
  · subst hv h0; rw [(nd_eq_zero hB).1 hm]; exact IsN.zero _ _ _ _ _
  · rcases Nat.eq_zero_or_pos x with h0 | h0
    · subst h0; rw [nd_zero] at hm; subst hm; rw [hv]; exact IsN.zero _ _ _ _ _
    · exact .inr ⟨h0, g, 0, cap, by rw [hm]; exact hv, fun i hi => by rw [Nat.zero_add]; exact hc i (by omega)⟩
/-- one digit of a buffer is stored anew -/
theorem Buf.set {k : IntKind} {B : Nat} {T : TypeId} {w : World} {g m A y Z j : Nat} (h : Buf k B T w g m (A + B ^ j * (y + B * Z))) (hB : 0 < B) (hA : A < B ^ j) (hy : y < B) {d : Nat} (hd : d < B) :
    Buf k B T (w.setCell ⟨g, j, none⟩ (.int k d)) g m (A + B ^ j * (d + B * Z)) := by
  refine (World.rowIs.set h j (.int k d)).congr (fun i _ => ?_)
  rw [dg_mid hB hA hd, dg_mid hB hA hy]
  by_cases e : i = j
  · subst e; rw [if_pos rfl, if_neg (Nat.lt_irrefl _), if_pos rfl]
  · rw [if_neg e]
    simp only [if_neg e]
theorem grownBy_setCell (w : World) (g j : Nat) (v : Value) : w.grownBy (w.setCell ⟨g, j, none⟩ v) (some g) :=
  ⟨rfl, rfl, rfl, by simp [World.setCell], fun k _ hk => Below.heap_setCell _ _ _ _ (fun e => hk (by simp [e]))⟩
theorem grownBy_trans {a b c : World} {row : Option Nat} (h : a.grownBy b row) (h' : b.grownBy c row) : a.grownBy c row :=
  ⟨h'.os.trans h.os, h'.tape.trans h.tape, h'.output.trans h.output, Nat.le_trans h.size h'.size, fun k hk hr => (h'.block k (Nat.lt_of_lt_of_le hk h.size) hr).trans (h.block k hk hr)⟩
theorem grownBy_drewN {a b : World} {row : Option Nat} (h : a.grownBy b row) (q : Nat) : a.grownBy (b.drewN q) row := ⟨h.os, h.tape, h.output, h.size, h.block⟩
theorem grownBy_refl (a : World) (row : Option Nat) : a.grownBy a row := ⟨rfl, rfl, rfl, Nat.le_refl _, fun _ _ _ => rfl⟩
/-- a number in another block than the one that is written -/
theorem IsN.grown {k : IntKind} {B : Nat} {w w' : World} {v : Value} {n g : Nat} (h : IsN k B w v n) (hb : w.grownBy w' (some g)) (hne : ∀ b o c l, v = .slice (some ⟨b, o, none⟩) l c → 0 < n → b ≠ g) : IsN k B w' v n := by
  rcases h with h | ⟨h0, b, o, cap, hv, hc⟩
  · exact .inl h
  · exact .inr ⟨h0, b, o, cap, hv, fun i hi => hb.cell (hc i hi) (by simp; exact hne b o cap _ hv h0)⟩
/-- a store into a cell that holds something else than a digit -/
theorem IsN.setCell {k : IntKind} {B : Nat} {w : World} {v : Value} {n : Nat} (h : IsN k B w v n) {p : Addr} {x : Value} (hp : w.cell? p = some x) (hx : ∀ d : Int, x ≠ .int k d) (u : Value) : IsN k B (w.setCell p u) v n := by
  rcases h with h | ⟨h0, b, o, cap, hv, hc⟩
  · exact .inl h
  · refine .inr ⟨h0, b, o, cap, hv, fun i hi => ?_⟩
    rw [World.cell?_setCell_other]
    · exact hc i hi
    · intro e
      subst e
      rw [hc i hi] at hp
      exact hx _ (Option.some.inj hp).symm
end Gu
namespace Go.Proofs.YthafnhjnlfpifaaDoor
open Go Go.RowKit Gu

/-- the base -/
abbrev B32 : Nat := 4294967296
abbrev D (w : World) (v : Value) (n : Nat) : Prop := IsN .u32 4294967296 w v n

theorem at_any (v : Value) (n i : Nat) (w : World) (h : D w v n) (hn : nd 4294967296 n ≤ 4611686018427387904) :
    Calls Tryd.prog 57 #[v, .int .i64 i] w fun e w' => e = .returned (.int .u64 (dg 4294967296 n i)) ∧ w = w' := by
  rcases h with ⟨h0, ao, cap, hv⟩ | ⟨h0, b, o, cap, hv, hc⟩
  · subst h0; subst hv
    go_enter Tryd.func57, Tryd.ntmps57
    go_wp2
    go_ret
    exact ⟨by rw [dg_zero]; rfl, rfl⟩
  · subst hv
    have hB : 2 ≤ 4294967296 := by decide
    have hx := dg_lt (B := 4294967296) (by decide) n i
    by_cases hlt : i < nd 4294967296 n
    · have hci := hc i hlt
      clear hc
      generalize hd : dg 4294967296 n i = d at *
      generalize hm : nd 4294967296 n = m at *
      clear hd hm
      go_enter Tryd.func57, Tryd.ntmps57
      go_wp2
      go_ret
      exact ⟨rfl, rfl⟩
    · have hz : dg 4294967296 n i = 0 := dg_high (by decide) (nd_lt hB n) (by omega)
      clear hc
      rw [hz]
      generalize hm : nd 4294967296 n = m at *
      clear hm hz hx
      go_enter Tryd.func57, Tryd.ntmps57
      go_wp2
      go_ret
      exact ⟨rfl, rfl⟩
end Go.Proofs.YthafnhjnlfpifaaDoor
namespace Go.Proofs.YthafnhjnlfpifaaDoor
open Go Go.RowKit Gu

theorem ret_slice {a : Option Addr} {l c l' c' : Nat} (h : l = l') (h' : c = c') : Ending.returned (.slice a l c) = .returned (.slice a l' c') := by rw [h, h']

theorem ret_int' {k : IntKind} {a b : Int} (h : a = b) : Ending.returned (.int k a) = .returned (.int k b) := by rw [h]

set_option maxHeartbeats 400000 in
theorem trim_any (g m cap x : Nat) (w : World) (hc : ∀ i, i < m → w.cell? ⟨g, i, none⟩ = some (.int .u32 (dg 4294967296 x i : Nat))) (hx : x < 4294967296 ^ m) (hm : m ≤ 4611686018427387904) (hcap : m ≤ cap) :
    Calls Tryd.prog 50 #[.slice (some ⟨g, 0, none⟩) m cap] w fun e w' => e = .returned (.slice (some ⟨g, 0, none⟩) (nd 4294967296 x) (nd 4294967296 x)) ∧ w = w' := by
  have hB : 2 ≤ 4294967296 := by decide
  have hle : nd 4294967296 x ≤ m := (nd_le hB).2 hx
  go_enter Tryd.func50, Tryd.ntmps50
  go_wp2
  go_loop [3] (fun n => ∃ k : Nat, nd 4294967296 x ≤ k ∧ k ≤ m ∧ n = .int .i64 k) (fun n => (intOf n).toNat)
  case atStart => exact ⟨m, hle, Nat.le_refl _, rfl⟩
  case round =>
    obtain ⟨k, hk1, hk2, rfl⟩ := hrel
    rcases Nat.eq_or_lt_of_le hk1 with hk | hk
    · have HK := Lib.hid hk
      rcases Nat.eq_zero_or_pos k with h0 | h0
      · subst h0
        clear hk hc
        go_wp2
        go_ret
        exact ⟨ret_slice HK.out.symm HK.out.symm, rfl⟩
      · have htop : 0 < dg 4294967296 x (k - 1) := by
          rw [← hk]; exact dg_top hB (by rcases Nat.eq_zero_or_pos x with h | h; (subst h; rw [nd_zero] at hk; omega); exact h)
        have hcell := hc (k - 1) (by omega)
        generalize dg 4294967296 x (k - 1) = t at *
        clear hk hc
        go_wp2
        go_ret
        exact ⟨ret_slice HK.out.symm HK.out.symm, rfl⟩
    · have hz : dg 4294967296 x (k - 1) = 0 := dg_high (by decide) (nd_lt hB x) (by omega)
      have hcell := hc (k - 1) (by omega)
      rw [hz] at hcell
      clear hz hc
      go_wp2
      go_round
      case rel => exact ⟨k - 1, by omega, by omega, by go_num⟩
      case measure => simp [intOf]; omega
end Go.Proofs.YthafnhjnlfpifaaDoor
namespace Go.Proofs.YthafnhjnlfpifaaDoor
open Go Go.RowKit Gu

theorem two_cells (n i : Nat) (hi : i < 2) : (#[Value.int .u32 (↑n % 4294967296), Value.int .u32 (↑n / 4294967296 % 4294967296)] : Array Value)[i]? = some (.int .u32 (dg 4294967296 n i : Nat)) := by
  match i, hi with
  | 0, _ => simp [dg]
  | 1, _ => simp [dg]
theorem digitsOf_any (n : Nat) (w : World) (hn : n < 2 ^ 64) :
    Calls Tryd.prog 37 #[.int .u64 n] w fun e w' => ∃ v, e = .returned v ∧ D w' v n ∧ Below w.heap.size w w' := by
  have H := Lib.hid hn; clear hn
  go_enter Tryd.func37, Tryd.ntmps37
  go_wp2_with fail
  refine (trim_any _ _ _ n _ (fun i hi => ?_) ?_ (by decide) (by decide)).mono ?_
  · rw [World.cell?_alloc_at _ _ _ _ rfl]; exact two_cells n i hi
  · exact H.out
  rintro e w' ⟨rfl, rfl⟩
  go_wp2
  go_ret
  refine ⟨_, rfl, ?_, (Below.refl _ _).alloc (Nat.le_refl _) _⟩
  rcases Nat.eq_zero_or_pos n with h0 | h0
  · subst h0; rw [nd_zero]; exact IsN.zero _ _ _ _ _
  · refine .inr ⟨h0, _, 0, _, rfl, fun i hi => ?_⟩
    have : nd 4294967296 n ≤ 2 := (nd_le (by decide)).2 H.out
    rw [Nat.zero_add, World.cell?_alloc_at _ _ _ _ rfl]; exact two_cells n i (by omega)
theorem isZero_any (v : Value) (n : Nat) (w : World) (h : D w v n) :
    Calls Tryd.prog 22 #[v] w fun e w' => e = .returned (.bool (decide (n = 0))) ∧ w = w' := by
  obtain ⟨ao, cap, rfl, -⟩ := h.shape
  have e : ((nd 4294967296 n : Int) == 0) = decide (n = 0) := by
    rw [Bool.eq_iff_iff]; simp; exact nd_eq_zero (by decide)
  have H := Lib.hid e; clear e h
  go_enter Tryd.func22, Tryd.ntmps22
  go_wp2
  go_ret
  exact ⟨by first | rfl | (rw [← H.out]; rfl), rfl⟩
theorem isOne_any (v : Value) (n : Nat) (w : World) (h : D w v n) :
    Calls Tryd.prog 69 #[v] w fun e w' => e = .returned (.bool (decide (n = 1))) ∧ w = w' := by
  rcases h with ⟨h0, ao, cap, hv⟩ | ⟨h0, b, o, cap, hv, hc⟩
  · subst h0; subst hv
    go_enter Tryd.func69, Tryd.ntmps69
    go_wp2
    go_ret
    exact ⟨rfl, rfl⟩
  · have hB : 2 ≤ 4294967296 := by decide
    have hp := nd_pos hB h0
    have hl := nd_lt hB n
    have hc0 := hc 0 hp
    rw [Nat.add_zero] at hc0
    have hd : dg 4294967296 n 0 = n % 4294967296 := by simp [dg]
    rw [hd] at hc0
    subst hv
    have hne : n ≠ 1 ∨ n = 1 := by omega
    by_cases h1 : nd 4294967296 n = 1
    · rw [h1] at hl
      have hl' : n < 4294967296 := by simpa using hl
      rw [Nat.mod_eq_of_lt hl'] at hc0
      rw [h1]
      clear hc hl hp hd h1
      have E : Hid (((n : Int) == 1) = decide (n = 1)) := by
        show _ = _
        rw [Bool.eq_iff_iff]; simp; omega
      go_enter Tryd.func69, Tryd.ntmps69
      go_wp2
      go_ret
      exact ⟨by first | rfl | (rw [← E.out]; rfl), rfl⟩
    · have h2 : n ≠ 1 := by
        intro e; subst e
        exact h1 (nd_of hB (by decide) (fun _ => by decide))
      have hf : (((nd 4294967296 n : Nat) : Int) == 1) = false := by simp; omega
      have hd1 : decide (n = 1) = false := by simp [h2]
      rw [hd1]
      generalize nd 4294967296 n = m at *
      clear hc hl hd hc0 hd1 h2 h1 hne
      go_enter Tryd.func69, Tryd.ntmps69
      go_wp2
      go_ret
      exact ⟨rfl, rfl⟩
theorem bitLen_any (v : Value) (n : Nat) (w : World) (h : D w v n) (hn : nd 4294967296 n ≤ 1048576) :
    Calls Tryd.prog 34 #[v] w fun e w' => e = .returned (.int .i64 (nd 2 n)) ∧ w = w' := by
  have hz := isZero_any v n w h
  rcases h with ⟨h0, ao, cap, hv⟩ | ⟨h0, b, o, cap, hv, hc⟩
  · subst h0; subst hv
    have HZ := Lib.hid hz; clear hz
    rw [nd_zero]
    go_enter Tryd.func34, Tryd.ntmps34
    go_wp2_with (go_at_call 22; refine HZ.out.mono ?_; rintro e w' ⟨rfl, rfl⟩)
    go_ret
    exact ⟨rfl, rfl⟩
  · have hB : 2 ≤ 4294967296 := by decide
    have hp := nd_pos hB h0
    have hcell := hc (nd 4294967296 n - 1) (by omega)
    have hbits : nd 2 n = 32 * (nd 4294967296 n - 1) + Go.Lib.bitLen (dg 4294967296 n (nd 4294967296 n - 1)) := bits_32 h0
    have hlt := dg_lt (B := 4294967296) (by decide) n (nd 4294967296 n - 1)
    rw [show decide (n = 0) = false from by simp; omega] at hz
    subst hv
    rw [hbits]
    clear hc hbits
    generalize dg 4294967296 n (nd 4294967296 n - 1) = t at *
    generalize nd 4294967296 n = m at *
    have HL := Lib.hid (Tryd.bits_Len32 t w (by omega) (by omega))
    have hbl : Go.Lib.bitLen t ≤ 64 := Go.Lib.bitLen_le t 64 (Nat.le_refl _) (by omega)
    have HZ := Lib.hid hz; clear hz
    rw [Int.toNat_natCast] at HL
    go_enter Tryd.func34, Tryd.ntmps34
    go_wp2_with (first | (go_at_call 22; refine HZ.out.mono ?_; rintro e w' ⟨rfl, rfl⟩) | (go_at_call 62; refine HL.out.mono ?_; rintro e w' ⟨rfl, rfl⟩))
    go_ret
    exact ⟨ret_int' (by omega), rfl⟩
end Go.Proofs.YthafnhjnlfpifaaDoor
namespace Go.Proofs.YthafnhjnlfpifaaDoor
open Go Go.RowKit Gu

/-- the comparison of two numbers -/
def cmpN (a b : Int) : Int := if a < b then -1 else if b < a then 1 else 0
theorem cmpN_lt {a b : Int} (h : a < b) : cmpN a b = -1 := if_pos h
theorem cmpN_gt {a b : Int} (h : b < a) : cmpN a b = 1 := by unfold cmpN; rw [if_neg (by omega), if_pos h]
theorem cmpN_eq {a b : Int} (h : a = b) : cmpN a b = 0 := by unfold cmpN; rw [if_neg (by omega), if_neg (by omega)]

theorem cmp_int (x y : Int) (w : World) : Calls Tryd.prog 59 #[.int .i64 x, .int .i64 y] w fun e w' => e = .returned (.int .i64 (cmpN x y)) ∧ w = w' := by
  rcases Int.lt_trichotomy x y with h | h | h
  · rw [cmpN_lt h]
    go_enter Tryd.func59, Tryd.ntmps59
    go_wp2
    go_ret
    exact ⟨rfl, rfl⟩
  · subst h
    rw [cmpN_eq rfl]
    go_enter Tryd.func59, Tryd.ntmps59
    go_wp2
    go_ret
    exact ⟨rfl, rfl⟩
  · rw [cmpN_gt h]
    go_enter Tryd.func59, Tryd.ntmps59
    go_wp2
    go_ret
    exact ⟨rfl, rfl⟩
theorem cmp_u32 (x y : Int) (w : World) : Calls Tryd.prog 60 #[.int .u32 x, .int .u32 y] w fun e w' => e = .returned (.int .i64 (cmpN x y)) ∧ w = w' := by
  rcases Int.lt_trichotomy x y with h | h | h
  · rw [cmpN_lt h]
    go_enter Tryd.func60, Tryd.ntmps60
    go_wp2
    go_ret
    exact ⟨rfl, rfl⟩
  · subst h
    rw [cmpN_eq rfl]
    go_enter Tryd.func60, Tryd.ntmps60
    go_wp2
    go_ret
    exact ⟨rfl, rfl⟩
  · rw [cmpN_gt h]
    go_enter Tryd.func60, Tryd.ntmps60
    go_wp2
    go_ret
    exact ⟨rfl, rfl⟩
theorem cmp_u32' (x y : Int) (w : World) : Calls Tryd.prog 60 #[.int .u32 x, .int .u32 y] w fun e w' => e = .returned (.int .i64 (cmpN x y)) ∧ w' = w :=
  (cmp_u32 x y w).mono fun _ _ ⟨h, h'⟩ => ⟨h, h'.symm⟩
/-- a call that turns nothing, in a second region that draws -/
theorem quiet_again {P : Program} {f : FuncId} {args : Array Value} {w : World} {a m : Nat} {v : Value} (h : Calls P f args (w.drewN (a + m)) fun e w' => e = .returned v ∧ w' = w.drewN (a + m)) :
    Calls P f args (w.drewN (a + m)) fun e w'' => e = .returned v ∧ ∃ n, w'' = w.drewN (a + n) := h.mono fun _ _ ⟨he, hm⟩ => ⟨he, m, hm⟩
theorem cmp_dg {a b k : Nat} (h : a / 4294967296 ^ (k + 1) = b / 4294967296 ^ (k + 1)) (hne : dg 4294967296 a k ≠ dg 4294967296 b k) : cmpN (dg 4294967296 a k) (dg 4294967296 b k) = cmpN a b := by
  rcases Nat.lt_or_gt_of_ne hne with h' | h'
  · have := lt_of_dg h h'
    rw [cmpN_lt (by omega), cmpN_lt (by omega)]
  · have := lt_of_dg h.symm h'
    rw [cmpN_gt (by omega), cmpN_gt (by omega)]
/-- what the loop of compare has seen -/
def CmpRel (a b : Nat) (w : World) (k : Nat) (wr : World) : Prop := a / 4294967296 ^ k = b / 4294967296 ^ k ∧ ∃ q, wr = w.drewN q
set_option maxHeartbeats 800000 in
theorem compare_eqlen (ba oa ac bb ob bc a b la : Nat) (w : World) (hla : la ≤ 1048576) (h0 : 0 < la) (ha : a < 4294967296 ^ la) (hb : b < 4294967296 ^ la)
    (hca : ∀ i, i < la → w.cell? ⟨ba, oa + i, none⟩ = some (.int .u32 (dg 4294967296 a i : Nat))) (hcb : ∀ i, i < la → w.cell? ⟨bb, ob + i, none⟩ = some (.int .u32 (dg 4294967296 b i : Nat))) :
    Calls Tryd.prog 31 #[.slice (some ⟨ba, oa, none⟩) la ac, .slice (some ⟨bb, ob, none⟩) la bc] w fun e w' => e = .returned (.int .i64 (cmpN a b)) ∧ ∃ k, w' = w.drewN k := by
  have hstart : CmpRel a b w la w := ⟨by rw [Nat.div_eq_of_lt ha, Nat.div_eq_of_lt hb], 0, rfl⟩
  clear ha hb
  go_enter Tryd.func31, Tryd.ntmps31
  go_wp2
  go_loopw [5] (fun i wr => ∃ k : Nat, k ≤ la ∧ i = .int .i64 ((k : Int) - 1) ∧ CmpRel a b w k wr) (fun i _ => (intOf i + 1).toNat)
  case atStart => exact ⟨la, Nat.le_refl _, rfl, hstart⟩
  case round =>
    obtain ⟨k, hk, rfl, hrel1, q, rfl⟩ := hrel
    cases k with
    | zero =>
      rw [show ((0 : Nat) : Int) - 1 = -1 from rfl]
      have he : a = b := by simpa using hrel1
      clear hrel1 hca hcb hstart
      have HE := Lib.hid he; clear he
      go_wp2
      go_ret
      exact ⟨ret_int' (cmpN_eq (by rw [HE.out])).symm, q, rfl⟩
    | succ k =>
      rw [show ((k + 1 : Nat) : Int) - 1 = k from by omega]
      have ca : w.cell? ⟨ba, oa + k, none⟩ = some (.int .u32 (dg 4294967296 a k : Nat)) := hca k (by omega)
      have cb : w.cell? ⟨bb, ob + k, none⟩ = some (.int .u32 (dg 4294967296 b k : Nat)) := hcb k (by omega)
      clear hca hcb hstart
      have HR := Lib.hid hrel1; clear hrel1
      have hkl : (k : Int) < la := by omega
      by_cases hd : dg 4294967296 a k = dg 4294967296 b k
      · have HN := Lib.hid (div_of_dg HR.out hd)
        rw [hd] at ca
        clear hd HR
        generalize dg 4294967296 b k = db at *
        go_wp2
        go_quiet (fail)
        go_wp2
        go_roundw
        case rel => exact ⟨k, by omega, by go_num, HN.out, _, rfl⟩
        case measure => simp [intOf]
      · have HD := Lib.hid (cmp_dg HR.out hd)
        generalize dg 4294967296 a k = da at *
        generalize dg 4294967296 b k = db at *
        have hne : ((da : Int) != db) = true := by simp; omega
        clear HR hd
        go_wp2
        go_quiet (fail)
        go_wp2
        go_quiet ((go_at_call 60; exact quiet_again (cmp_u32' _ _ _)))
        go_wp2
        go_ret
        refine ⟨ret_int' HD.out, ?_⟩
        simp only [World.drewN_drewN]
        exact ⟨_, rfl⟩
set_option maxHeartbeats 800000 in
theorem compare_any (v u : Value) (a b : Nat) (w : World) (hv : D w v a) (hu : D w u b) (ha : nd 4294967296 a ≤ 1048576) (hb : nd 4294967296 b ≤ 1048576) :
    Calls Tryd.prog 31 #[v, u] w fun e w' => e = .returned (.int .i64 (cmpN a b)) ∧ ∃ k, w' = w.drewN k := by
  have hB : 2 ≤ 4294967296 := by decide
  obtain ⟨ao, ac, rfl, hca⟩ := hv.shape
  obtain ⟨bo, bc, rfl, hcb⟩ := hu.shape
  by_cases hl : nd 4294967296 a = nd 4294967296 b
  · rcases Nat.eq_zero_or_pos (nd 4294967296 a) with h0 | h0
    · have ha0 := (nd_eq_zero hB).1 h0
      have hb0 := (nd_eq_zero hB).1 (hl ▸ h0)
      subst ha0; subst hb0
      rw [nd_zero]
      clear hca hcb hv hu hl h0
      go_enter Tryd.func31, Tryd.ntmps31
      go_wp2
      refine wp_loop_rounds 1 ?_; rw [rounds_succ]
      go_wp2
      go_ret
      exact ⟨rfl, 0, rfl⟩
    · have ha1 := nd_lt hB a
      have hb1 := nd_lt hB b
      obtain ⟨ba, oa, rfl, -⟩ := hca 0 h0
      obtain ⟨bb, ob, rfl, -⟩ := hcb 0 (by omega)
      rw [← hl] at hb1 hcb ⊢
      refine compare_eqlen ba oa ac bb ob bc a b _ w ha h0 ha1 hb1 (fun i hi => ?_) (fun i hi => ?_)
      · obtain ⟨_, _, e, h⟩ := hca i hi; simp only [Option.some.injEq, Addr.mk.injEq, and_true] at e; obtain ⟨rfl, rfl⟩ := e; exact h
      · obtain ⟨_, _, e, h⟩ := hcb i hi; simp only [Option.some.injEq, Addr.mk.injEq, and_true] at e; obtain ⟨rfl, rfl⟩ := e; exact h
  · have hne : ((nd 4294967296 a : Int) != nd 4294967296 b) = true := by simp; omega
    have hr : cmpN (nd 4294967296 a) (nd 4294967296 b) = cmpN a b := by
      rcases Nat.lt_or_gt_of_ne hl with h | h
      · rw [cmpN_lt (by omega), cmpN_lt]
        rcases Nat.lt_or_ge a b with h' | h'
        · omega
        · have := nd_mono hB h'; omega
      · rw [cmpN_gt (by omega), cmpN_gt]
        rcases Nat.lt_or_ge b a with h' | h'
        · omega
        · have := nd_mono hB h'; omega
    rw [← hr]
    clear hr hca hcb hl hv hu
    generalize nd 4294967296 a = la at *
    generalize nd 4294967296 b = lb at *
    go_enter Tryd.func31, Tryd.ntmps31
    go_wp2_with (go_at_call 59; refine (cmp_int _ _ _).mono ?_; rintro e w' ⟨rfl, rfl⟩)
    go_ret
    exact ⟨rfl, 0, rfl⟩
end Go.Proofs.YthafnhjnlfpifaaDoor
namespace Go.Proofs.YthafnhjnlfpifaaDoor
open Go Go.RowKit Gu

theorem wrap_u64 (x : Int) : IntKind.u64.wrap x = x % 18446744073709551616 := IntKind.wrap_u64 x

theorem Tryd.infoU32 : (Tryd.prog.info? 54).map (fun i => (i.zero, i.size, i.bytes)) = some (some (.int .u32 0), 1, 4) := by kernel_rfl
theorem made_u32 (n : Nat) (h : n ≤ 1099511627776) : ∀ w, (Instr.makeSlice 23 (.int .i64 (n : Int)) (.int .i64 (n : Int))).run Tryd.prog w = .ok (.slice (some ⟨w.heap.size, 0, none⟩) n n) (w.alloc (.cells (madeCells #[.int .u32 0] n) 54)) := fun w => by
  have := run_make_row' (P := Tryd.prog) 23 54 (.int .u32 0) 4 Tryd.underlying23 Tryd.infoU32 rfl .i64 .i64 n (by omega) (by omega)
  exact this w

theorem trim_buf (g m cap x : Nat) (w : World) (h : Buf .u32 4294967296 54 w g m x) (hx : x < 4294967296 ^ m) (hm : m ≤ 4611686018427387904) (hcap : m ≤ cap) :
    Calls Tryd.prog 50 #[.slice (some ⟨g, 0, none⟩) m cap] w fun e w' => e = .returned (.slice (some ⟨g, 0, none⟩) (nd 4294967296 x) (nd 4294967296 x)) ∧ w = w' :=
  trim_any g m cap x w (fun _ hi => h.cell hi) hx hm hcap
/-- what the loop of sum keeps: the buffer's number, the carry -/
def SumRel (a b m : Nat) (w : World) (k X c : Nat) (wr : World) : Prop :=
  c ≤ 1 ∧ X < 4294967296 ^ k ∧ X + 4294967296 ^ k * c = a % 4294967296 ^ k + b % 4294967296 ^ k ∧ Buf .u32 4294967296 54 wr w.heap.size (m + 1) X ∧ Below w.heap.size w wr
theorem SumRel.next {a b m : Nat} {w : World} {k X c : Nat} {wr : World} (h : SumRel a b m w k X c wr) (_hk : k ≤ m) :
    SumRel a b m w (k + 1) (X + 4294967296 ^ k * ((c + dg 4294967296 a k + dg 4294967296 b k) % 4294967296)) ((c + dg 4294967296 a k + dg 4294967296 b k) / 4294967296)
      (wr.setCell ⟨w.heap.size, k, none⟩ (.int .u32 (((c + dg 4294967296 a k + dg 4294967296 b k) % 4294967296 : Nat) : Int))) := by
  obtain ⟨h1, h2, h3, h4, h5⟩ := h
  have da := dg_lt (B := 4294967296) (by decide) a k
  have db := dg_lt (B := 4294967296) (by decide) b k
  have hd : (c + dg 4294967296 a k + dg 4294967296 b k) % 4294967296 < 4294967296 := Nat.mod_lt _ (by decide)
  exact ⟨by omega, snoc_lt h2 hd, sum_round h3, h4.put (by decide) h2 hd, h5.setCell (Nat.le_refl _) _⟩
set_option maxHeartbeats 800000 in
theorem sum_any (v u : Value) (a b : Nat) (w : World) (hv : D w v a) (hu : D w u b) (ha : nd 4294967296 a ≤ 1048576) (hb : nd 4294967296 b ≤ 1048576) :
    Calls Tryd.prog 29 #[v, u] w fun e w' => ∃ r, e = .returned r ∧ D w' r (a + b) ∧ Below w.heap.size w w' := by
  have hB : 2 ≤ 4294967296 := by decide
  obtain ⟨ao, ac, hv', -⟩ := hv.shape
  obtain ⟨bo, bc, hu', -⟩ := hu.shape
  have HV := Lib.hid hv; have HU := Lib.hid hu
  subst hv'; subst hu'
  obtain ⟨m, hm⟩ : ∃ m, m = max (nd 4294967296 a) (nd 4294967296 b) := ⟨_, rfl⟩
  have hmk := made_u32 (m + 1) (by omega)
  rw [show (((m + 1 : Nat)) : Int) = (m : Int) + 1 from by omega] at hmk
  have hmx : max ((nd 4294967296 a : Nat) : Int) ((nd 4294967296 b : Nat) : Int) = m := by omega
  have hml : m ≤ 1048576 := by omega
  have HM := Lib.hid hm
  clear hv hu hm
  go_enter Tryd.func29, Tryd.ntmps29
  go_wp2
  go_loopw [7, 18] (fun c t wr => ∃ k X cc : Nat, k ≤ m ∧ t = .int .i64 k ∧ c = .int .u64 cc ∧ SumRel a b m w k X cc wr) (fun _ t _ => m - (intOf t).toNat)
  case atStart => exact ⟨0, 0, 0, Nat.zero_le _, rfl, rfl, by omega, by simp, by simp [Nat.mod_one], Buf.made _ _ _ _ _, (Below.refl _ _).alloc (Nat.le_refl _) _⟩
  case round =>
    obtain ⟨k, X, c, hk, rfl, rfl, hrel⟩ := hrel
    have hbel := hrel.2.2.2.2
    have hbuf := hrel.2.2.2.1
    have hc1 : c ≤ 1 := hrel.1
    by_cases hlt : k < m
    · have hA := Lib.hid (at_any _ a k wr (HV.out.below hbel) (by omega))
      have hB' := Lib.hid (at_any _ b k wr (HU.out.below hbel) (by omega))
      have HN := Lib.hid (hrel.next hk)
      have hcell := hbuf.cell (i := k) (by omega)
      have hfr := hbuf.frozen k
      clear hrel hbuf hbel
      have hda := dg_lt (B := 4294967296) (by decide) a k
      have hdb := dg_lt (B := 4294967296) (by decide) b k
      generalize dg 4294967296 a k = da at *
      generalize dg 4294967296 b k = db at *
      generalize dg 4294967296 X k = dx at *
      have HE : Hid ((((c + da + db) % 4294967296 : Nat) : Int) = (c + (da + db) : Int) % 4294967296) := by show _ = _; omega
      have HE2 : Hid ((((c + da + db) / 4294967296 : Nat) : Int) = (c + (da + db) : Int) / 4294967296) := by show _ = _; omega
      go_wp2_with fail
      refine hA.out.mono ?_
      rintro e w' ⟨rfl, rfl⟩
      go_wp2_with fail
      refine hB'.out.mono ?_
      rintro e w' ⟨rfl, rfl⟩
      go_wp2
      go_roundw
      case rel =>
        exact ⟨k + 1, X + 4294967296 ^ k * ((c + da + db) % 4294967296), (c + da + db) / 4294967296, by omega, by go_num, congrArg (Value.int .u64) HE2.out.symm, by rw [← HE.out]; exact HN.out⟩
      case measure => simp [intOf]; omega
    · obtain rfl : k = m := by omega
      clear hlt hk
      have hcell := hbuf.cell (i := k) (by omega)
      have hfr := hbuf.frozen k
      obtain ⟨-, hX, hsum, -, -⟩ := hrel
      have ha' : a % 4294967296 ^ k = a := Nat.mod_eq_of_lt ((nd_le hB).1 (by have := HM.out; omega))
      have hb' : b % 4294967296 ^ k = b := Nat.mod_eq_of_lt ((nd_le hB).1 (by have := HM.out; omega))
      rw [ha', hb'] at hsum
      have hput := hbuf.put (by decide) hX (show c < 4294967296 by omega)
      have hlt := snoc_lt hX (show c < 4294967296 by omega)
      rw [hsum] at hput hlt
      have hbel' := hbel.setCell (p := ⟨w.heap.size, k, none⟩) (Nat.le_refl _) (.int .u32 c)
      have HP := Lib.hid hput; have HL := Lib.hid hlt; have HBel := Lib.hid hbel'
      clear hsum ha' hb' hX hbuf hbel hput hlt hbel'
      go_wp2_with fail
      refine (trim_buf _ _ _ (a + b) _ HP.out HL.out (by omega) (by omega)).mono ?_
      rintro e w' ⟨rfl, rfl⟩
      go_wp2
      go_ret
      exact ⟨_, rfl, HP.out.isN hB HL.out _, HBel.out⟩
end Go.Proofs.YthafnhjnlfpifaaDoor
namespace Go.Proofs.YthafnhjnlfpifaaDoor
open Go Go.RowKit Gu

/-- one digit of a row times a digit, as the machine adds it -/
theorem mul_digits (c d f o : Nat) (h1 : c < 4294967296) (h2 : d < 4294967296) (h3 : f < 4294967296) (h4 : o < 4294967296) :
    IntKind.u64.wrap ((c : Int) + IntKind.u64.wrap (IntKind.u64.wrap ((d : Int) * f) + o)) = ((c + d * f + o : Nat) : Int) := by
  obtain ⟨b1, b2, b3⟩ := mul_bound h1 h2 h3 h4
  simp only [wrap_u64]
  have e : ((d : Int) * f) = ((d * f : Nat) : Int) := by simp
  rw [e]
  generalize d * f = p at *
  omega
/-- what the loop of addRow keeps -/
def RowRel (g M o n L W H r f : Nat) (w : World) (k X c : Nat) (wr : World) : Prop :=
  c < 4294967296 ∧ X < 4294967296 ^ k ∧ X + 4294967296 ^ k * c = W % 4294967296 ^ k + f * (r % 4294967296 ^ k) ∧
  Buf .u32 4294967296 54 wr g M (L + 4294967296 ^ o * (X + 4294967296 ^ k * (W / 4294967296 ^ k + 4294967296 ^ (n - k) * H))) ∧ w.grownBy wr (some g)
theorem RowRel.next {g M o n L W H r f : Nat} {w : World} {k X c : Nat} {wr : World} (h : RowRel g M o n L W H r f w k X c wr) (hL : L < 4294967296 ^ o) (hk : k < n) (hf : f < 4294967296) (q : Nat) :
    RowRel g M o n L W H r f w (k + 1) (X + 4294967296 ^ k * ((c + dg 4294967296 r k * f + dg 4294967296 W k) % 4294967296)) ((c + dg 4294967296 r k * f + dg 4294967296 W k) / 4294967296)
      ((wr.drewN q).setCell ⟨g, o + k, none⟩ (.int .u32 (((c + dg 4294967296 r k * f + dg 4294967296 W k) % 4294967296 : Nat) : Int))) := by
  obtain ⟨h1, h2, h3, h4, h5⟩ := h
  have hdr := dg_lt (B := 4294967296) (by decide) r k
  have hdw := dg_lt (B := 4294967296) (by decide) W k
  have hd : (c + dg 4294967296 r k * f + dg 4294967296 W k) % 4294967296 < 4294967296 := Nat.mod_lt _ (by decide)
  rw [win_split hk] at h4
  refine ⟨carry_lt h1 hdr hf hdw, snoc_lt h2 hd, mul_round h3, ?_, grownBy_trans (grownBy_drewN h5 q) (grownBy_setCell _ _ _ _)⟩
  rw [← win_join hk]
  exact Buf.set (w := wr.drewN q) h4 (by decide) (win_lt hL h2) hdw hd
set_option maxHeartbeats 1000000 in
theorem addRow_any (g M o n cap L W H r f : Nat) (v : Value) (w : World) (hb : Buf .u32 4294967296 54 w g M (L + 4294967296 ^ o * (W + 4294967296 ^ n * H))) (hL : L < 4294967296 ^ o) (hW : W < 4294967296 ^ n) (hM : o + n ≤ M) (hn : n ≤ 1048576)
    (hr : D w v r) (hrn : nd 4294967296 r = n) (hne : ∀ b o c l, v = .slice (some ⟨b, o, none⟩) l c → 0 < r → b ≠ g) (hf : f < 4294967296) :
    Calls Tryd.prog 58 #[.slice (some ⟨g, o, none⟩) n cap, v, .int .u32 f] w fun e w' => ∃ X c : Nat, e = .returned (.int .u32 c) ∧ c < 4294967296 ∧ X < 4294967296 ^ n ∧ X + 4294967296 ^ n * c = W + f * r ∧
      Buf .u32 4294967296 54 w' g M (L + 4294967296 ^ o * (X + 4294967296 ^ n * H)) ∧ w.grownBy w' (some g) := by
  have hB : 2 ≤ 4294967296 := by decide
  have hstart : RowRel g M o n L W H r f w 0 0 0 w := ⟨by decide, by simp, by simp [Nat.mod_one], by simpa using hb, grownBy_refl _ _⟩
  have hrlt : r < 4294967296 ^ n := by rw [← hrn]; exact nd_lt hB r
  have HE : Hid (∀ X c wr, RowRel g M o n L W H r f w n X c wr → X < 4294967296 ^ n ∧ X + 4294967296 ^ n * c = W + f * r ∧ Buf .u32 4294967296 54 wr g M (L + 4294967296 ^ o * (X + 4294967296 ^ n * H)) ∧ w.grownBy wr (some g)) := by
    rintro X c wr ⟨-, h2, h3, h4, h5⟩
    rw [Nat.mod_eq_of_lt hW, Nat.mod_eq_of_lt hrlt] at h3
    rw [Nat.div_eq_of_lt hW, Nat.sub_self, Nat.pow_zero, Nat.one_mul, Nat.zero_add] at h4
    exact ⟨h2, h3, h4, h5⟩
  have HR := Lib.hid hr
  have HNE := Lib.hid hne
  have hr0 : 0 < n → 0 < r := by
    intro h
    rcases Nat.eq_zero_or_pos r with h' | h'
    · subst h'; rw [nd_zero] at hrn; omega
    · exact h'
  obtain ⟨ao, ac, rfl, hcv⟩ := hr.shape
  rw [hrn] at hcv HR HNE ⊢
  have HS := Lib.hid hstart
  have HL := Lib.hid hL
  clear hb hW hr hne hstart hrlt hL hrn
  go_enter Tryd.func58, Tryd.ntmps58
  go_wp2
  go_loopw [7, 11] (fun c t wr => ∃ k X cc : Nat, k ≤ n ∧ t = .int .i64 k ∧ c = .int .u64 cc ∧ RowRel g M o n L W H r f w k X cc wr) (fun _ t _ => n - (intOf t).toNat)
  case atStart => exact ⟨0, 0, 0, Nat.zero_le _, rfl, rfl, HS.out⟩
  case round =>
    obtain ⟨k, X, c, hk, rfl, rfl, hrel⟩ := hrel
    have hc1 := hrel.1
    by_cases hlt : k < n
    · have HRR := Lib.hid hrel
      obtain ⟨-, h2, -, h4, h5⟩ := hrel
      rw [win_split hlt] at h4
      have hcell := h4.cell (i := o + k) (by omega)
      have hfr := h4.frozen (o + k)
      rw [dg_mid (by decide) (win_lt HL.out h2) (dg_lt (by decide) _ _), if_neg (Nat.lt_irrefl _), if_pos rfl] at hcell
      obtain ⟨gb, go, rfl, hca⟩ := hcv k hlt
      have hca' : wr.cell? ⟨gb, go + k, none⟩ = some (.int .u32 (dg 4294967296 r k : Nat)) := h5.cell hca (by
        simp only [Option.some.injEq, ne_eq]
        refine HNE.out gb go ac n rfl ?_
        exact hr0 (by omega))
      clear h2 h4 h5 hca hcv
      have hdr := dg_lt (B := 4294967296) (by decide) r k
      have hdw := dg_lt (B := 4294967296) (by decide) W k
      have hkl : (k : Int) < n := by omega
      go_wp2
      go_quiet (fail)
      rw [mul_digits c _ f _ hc1 hdr hf hdw]
      have HNX := HRR.out.next HL.out hlt hf
      generalize dg 4294967296 r k = dr at *
      generalize dg 4294967296 W k = dw at *
      generalize ht : c + dr * f + dw = t at *
      go_wp2
      have HN := HNX nq
      rw [show ((t % 4294967296 : Nat) : Int) = (t : Int) % 4294967296 from by omega] at HN
      clear HNX
      go_roundw
      case rel => exact ⟨k + 1, X + 4294967296 ^ k * (t % 4294967296), t / 4294967296, by omega, by go_num, by go_num, HN⟩
      case measure => simp [intOf]; omega
    · obtain rfl : k = n := by omega
      have HF := Lib.hid (HE.out X c wr hrel)
      clear hrel hcv hlt hk
      go_wp2
      go_ret
      exact ⟨X, c, rfl, hc1, HF.out⟩
end Go.Proofs.YthafnhjnlfpifaaDoor
