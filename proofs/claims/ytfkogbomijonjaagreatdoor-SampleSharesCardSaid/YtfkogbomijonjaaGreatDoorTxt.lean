/- Plain arithmetic of decimal numerals as bytes, and of bit lengths. No Go program. -/
import Derived.Lib.ItoaNum
import Derived.Lib.Repeat
import Derived.Lib.BitFns
import Derived.Test.YtfkogbomijonjaaGreatDoorNum
namespace Gu
open Go.Lib (decDigits nDigits)

/-- the last k decimal digits of g, the highest first -/
def padz : Nat → Nat → List UInt8
  | 0, _ => []
  | k + 1, g => padz k (g / 10) ++ [UInt8.ofNat (48 + g % 10)]

theorem padz_length (k g : Nat) : (padz k g).length = k := by
  induction k generalizing g with
  | zero => rfl
  | succ k ih => simp [padz, ih]
theorem decDigits_big {u : Nat} (h : 10 ≤ u) : decDigits u = decDigits (u / 10) ++ [UInt8.ofNat (48 + u % 10)] := by
  rw [decDigits, dif_neg (by omega)]
theorem decDigits_small {u : Nat} (h : u < 10) : decDigits u = [UInt8.ofNat (48 + u)] := by
  rw [decDigits, dif_pos h]
/-- a numeral in two groups -/
theorem decDigits_split (k g r : Nat) (hg : g < 10 ^ k) (hr : 0 < r) : decDigits (g + 10 ^ k * r) = decDigits r ++ padz k g := by
  induction k generalizing g with
  | zero => simp at hg; subst hg; simp [padz]
  | succ k ih =>
    rw [Nat.pow_succ] at hg
    have hp : 0 < 10 ^ k := Nat.pow_pos (by decide)
    have e : g + 10 ^ (k + 1) * r = 10 * (g / 10 + 10 ^ k * r) + g % 10 := by
      rw [Nat.pow_succ, Nat.mul_comm (10 ^ k) 10, Nat.mul_assoc, Nat.mul_add]; omega
    have hbig : 10 ≤ g + 10 ^ (k + 1) * r := by
      have : 1 ≤ 10 ^ k * r := Nat.mul_pos hp hr
      omega
    rw [decDigits_big hbig, e]
    have e1 : (10 * (g / 10 + 10 ^ k * r) + g % 10) / 10 = g / 10 + 10 ^ k * r := by omega
    have e2 : (10 * (g / 10 + 10 ^ k * r) + g % 10) % 10 = g % 10 := by omega
    rw [e1, e2, ih (g / 10) (by omega), padz, List.append_assoc]
theorem repl_zero (k : Nat) : Go.Lib.repeatL [48] k = List.replicate k (48 : UInt8) := by
  induction k with
  | zero => rfl
  | succ k ih => rw [Go.Lib.repeatL, ih, List.replicate_succ]; rfl
theorem padz_zero (k : Nat) : padz k 0 = List.replicate k (48 : UInt8) := by
  induction k with
  | zero => rfl
  | succ k ih => rw [padz, Nat.zero_div, ih, List.replicate_succ']; rfl
/-- zeros ahead of a numeral -/
theorem padz_eq (k g : Nat) (h : nDigits g ≤ k) : padz k g = List.replicate (k - nDigits g) (48 : UInt8) ++ decDigits g := by
  induction k generalizing g with
  | zero => have := Go.Lib.nDigits_pos g; omega
  | succ k ih =>
    by_cases hg : g < 10
    · rw [padz, Nat.div_eq_of_lt hg, padz_zero, Go.Lib.nDigits_small hg, decDigits_small hg, Nat.mod_eq_of_lt hg]; rfl
    · have h1 := Go.Lib.nDigits_big hg
      have h2 : nDigits (g / 10) ≤ k := by rw [h1] at h; exact Nat.le_of_succ_le_succ h
      have h3 : k + 1 - (nDigits (g / 10) + 1) = k - nDigits (g / 10) := Nat.add_sub_add_right _ _ _
      rw [padz, ih (g / 10) h2, decDigits_big (Nat.le_of_not_lt hg), h1, h3, ← List.append_assoc]
theorem nDigits_le {k g : Nat} (hk : 0 < k) (h : g < 10 ^ k) : nDigits g ≤ k := by
  induction k generalizing g with
  | zero => omega
  | succ k ih =>
    by_cases hg : g < 10
    · rw [Go.Lib.nDigits_small hg]; omega
    · rw [Go.Lib.nDigits_big hg]
      rw [Nat.pow_succ] at h
      have : g / 10 < 10 ^ k := by omega
      have hk : 0 < k := by
        rcases Nat.eq_zero_or_pos k with h' | h'
        · subst h'; simp at this; omega
        · exact h'
      have := ih hk this; omega
/-- the group of nine digits as the program writes it -/
theorem group_eq (g : Nat) (h : g < 1000000000) : Go.Lib.repeatL [48] (9 - (decDigits g).length) ++ decDigits g = padz 9 g := by
  rw [Go.Lib.decDigits_length, repl_zero, padz_eq 9 g (nDigits_le (by decide) (by simpa using h))]

/-! reading -/
def isDigit (c : UInt8) : Bool := 48 ≤ c && c ≤ 57
theorem snoc_ind {P : List UInt8 → Prop} (h0 : P []) (hs : ∀ s c, P s → P (s ++ [c])) (s : List UInt8) : P s := by
  have : ∀ t : List UInt8, P t.reverse := by
    intro t
    induction t with
    | nil => exact h0
    | cons c t ih => rw [List.reverse_cons]; exact hs _ _ ih
  have h := this s.reverse
  rwa [List.reverse_reverse] at h
def sval (s : List UInt8) : Nat := s.foldl (fun a c => a * 10 + (c.toNat - 48)) 0
theorem sval_snoc (s : List UInt8) (c : UInt8) : sval (s ++ [c]) = sval s * 10 + (c.toNat - 48) := by simp [sval]
/-- a numeral: digits, and no 0 ahead of others -/
def isNum (s : List UInt8) : Bool := !s.isEmpty && !(s.head? == some 48 && decide (1 < s.length)) && s.all isDigit
theorem digit_ofNat {d : Nat} (h : d < 10) : (UInt8.ofNat (48 + d)).toNat = 48 + d := by
  simp; omega
theorem sval_dec (n : Nat) : sval (decDigits n) = n := by
  induction n using Nat.strongRecOn with
  | ind n ih =>
    by_cases h : n < 10
    · rw [decDigits_small h]; simp [sval]; omega
    · rw [decDigits_big (by omega), sval_snoc, ih _ (by omega), digit_ofNat (by omega)]; omega
theorem isDigit_ofNat {d : Nat} (h : d < 10) : isDigit (UInt8.ofNat (48 + d)) = true := by
  simp only [isDigit, UInt8.le_iff_toNat_le, digit_ofNat h, Bool.and_eq_true, decide_eq_true_eq]
  constructor
  · show 48 ≤ 48 + d; omega
  · show 48 + d ≤ 57; omega
theorem dec_ne_nil (n : Nat) : decDigits n ≠ [] := by
  intro h
  have := Go.Lib.decDigits_length n
  rw [h] at this
  have := Go.Lib.nDigits_pos n
  simp at *; omega
theorem dec_head (n : Nat) : 0 < n → ∃ d l, 1 ≤ d ∧ d < 10 ∧ decDigits n = UInt8.ofNat (48 + d) :: l := by
  induction n using Nat.strongRecOn with
  | ind n ih =>
    intro hn
    by_cases h : n < 10
    · exact ⟨n, [], by omega, h, decDigits_small h⟩
    · obtain ⟨d, l, h1, h2, h3⟩ := ih (n / 10) (by omega) (by omega)
      exact ⟨d, l ++ [UInt8.ofNat (48 + n % 10)], h1, h2, by rw [decDigits_big (by omega), h3]; rfl⟩
theorem dec_digits (n : Nat) : (decDigits n).all isDigit = true := by
  induction n using Nat.strongRecOn with
  | ind n ih =>
    by_cases h : n < 10
    · rw [decDigits_small h, List.all_cons, isDigit_ofNat h]; rfl
    · rw [decDigits_big (by omega), List.all_append, ih _ (by omega), List.all_cons, isDigit_ofNat (Nat.mod_lt n (by decide : 0 < 10))]; rfl
theorem isNum_dec (n : Nat) : isNum (decDigits n) = true := by
  unfold isNum
  rw [dec_digits n]
  rcases Nat.eq_zero_or_pos n with h | h
  · subst h; rw [decDigits_small (by decide)]; rfl
  · obtain ⟨d, l, h1, h2, h3⟩ := dec_head n h
    rw [h3]
    have hne : UInt8.ofNat (48 + d) ≠ 48 := by
      intro e
      have := congrArg UInt8.toNat e
      rw [digit_ofNat h2] at this
      have h48 : (48 : UInt8).toNat = 48 := rfl
      omega
    generalize UInt8.ofNat (48 + d) = c at hne
    simp [hne]
theorem sval_append (a b : List UInt8) : sval (a ++ b) = sval a * 10 ^ b.length + sval b := by
  induction b using snoc_ind with
  | h0 => simp [sval]
  | hs b c ih =>
    rw [← List.append_assoc, sval_snoc, ih, sval_snoc, List.length_append, Nat.add_mul, Nat.mul_assoc]
    simp [Nat.pow_succ]; omega
theorem sval_lt (s : List UInt8) (h : s.all isDigit = true) : sval s < 10 ^ s.length := by
  induction s using snoc_ind with
  | h0 => simp [sval]
  | hs s c ih =>
    simp only [List.all_append, Bool.and_eq_true, List.all_cons, List.all_nil, Bool.and_true] at h
    obtain ⟨h1, h2⟩ := h
    have := ih h1
    simp only [isDigit, UInt8.le_iff_toNat_le, Bool.and_eq_true, decide_eq_true_eq] at h2
    have h57 : (57 : UInt8).toNat = 57 := rfl
    rw [sval_snoc, List.length_append]
    simp only [List.length_singleton, Nat.pow_succ]
    omega
/-- what is read is what is written -/
theorem dec_sval (s : List UInt8) (h : isNum s = true) : decDigits (sval s) = s := by
  have key : ∀ s : List UInt8, s.all isDigit = true → (∀ c l, s = c :: l → c ≠ 48) → s ≠ [] → decDigits (sval s) = s ∧ 0 < sval s := by
    intro s
    induction s using snoc_ind with
    | h0 => intro _ _ h; exact absurd rfl h
    | hs s c ih =>
      intro h1 h2 _
      simp only [List.all_append, Bool.and_eq_true, List.all_cons, List.all_nil, Bool.and_true] at h1
      obtain ⟨ha, hc⟩ := h1
      simp only [isDigit, UInt8.le_iff_toNat_le, Bool.and_eq_true, decide_eq_true_eq] at hc
      have h57 : (57 : UInt8).toNat = 57 := rfl
      have h48 : (48 : UInt8).toNat = 48 := rfl
      have hcc : UInt8.ofNat (48 + (c.toNat - 48)) = c := by
        apply UInt8.toNat_inj.1
        rw [digit_ofNat (by omega)]; omega
      by_cases hs : s = []
      · subst hs
        have hne := h2 c [] rfl
        have hne' : c.toNat ≠ 48 := fun e => hne (UInt8.toNat_inj.1 (by rw [e]; rfl))
        have e : sval ([] ++ [c]) = c.toNat - 48 := by simp [sval]
        rw [e, decDigits_small (by omega), hcc]
        exact ⟨rfl, by omega⟩
      · obtain ⟨g1, g2⟩ := ih ha (fun d l e => h2 d (l ++ [c]) (by rw [e]; rfl)) hs
        rw [sval_snoc, decDigits_big (by omega)]
        have e1 : (sval s * 10 + (c.toNat - 48)) / 10 = sval s := by omega
        have e2 : (sval s * 10 + (c.toNat - 48)) % 10 = c.toNat - 48 := by omega
        rw [e1, e2, g1, hcc]
        exact ⟨rfl, by omega⟩
  unfold isNum at h
  simp only [Bool.and_eq_true, Bool.not_eq_true', Bool.and_eq_false_iff] at h
  obtain ⟨⟨h1, h2⟩, h3⟩ := h
  cases s with
  | nil => simp at h1
  | cons c l =>
    rcases h2 with h2 | h2
    · refine (key _ h3 (fun d m e => ?_) (by simp)).1
      simp only [List.cons.injEq] at e
      obtain ⟨rfl, _⟩ := e
      intro hc; subst hc; simp at h2
    · have : l = [] := by
        simp at h2; exact h2
      subst this
      simp only [List.all_cons, List.all_nil, Bool.and_true, isDigit, UInt8.le_iff_toNat_le, Bool.and_eq_true, decide_eq_true_eq] at h3
      have h57 : (57 : UInt8).toNat = 57 := rfl
      have h48 : (48 : UInt8).toNat = 48 := rfl
      have e : sval [c] = c.toNat - 48 := by simp [sval]
      rw [e, decDigits_small (by omega)]
      congr 1
      apply UInt8.toNat_inj.1
      rw [digit_ofNat (by omega)]; omega
theorem dec_inj {a b : Nat} (h : decDigits a = decDigits b) : a = b := by rw [← sval_dec a, ← sval_dec b, h]
end Gu

namespace Gu
open Go.Lib (decDigits nDigits)

theorem nd_eq {B n k : Nat} (hB : 2 ≤ B) (h1 : B ^ k ≤ n) (h2 : n < B ^ (k + 1)) : nd B n = k + 1 := by
  have a := (nd_le hB).2 h2
  rcases Nat.lt_or_ge (nd B n) (k + 1) with h | h
  · have := (nd_le hB).1 (Nat.le_of_lt_succ h); omega
  · omega
/-- a number in a high digit and the rest -/
theorem top_split {B n k : Nat} (hB : 2 ≤ B) (hk : nd B n = k + 1) : n = n % B ^ k + B ^ k * dg B n k := by
  have h := nd_lt hB n
  rw [hk] at h
  rw [← mod_succ, eq_mod h]
/-- bits of a number out of its highest digit: B is 2^s -/
theorem bits_top {s n k L : Nat} (hs : 0 < s) (hk : nd (2 ^ s) n = k + 1) (h1 : 2 ^ L ≤ dg (2 ^ s) n k) (h2 : dg (2 ^ s) n k < 2 ^ (L + 1)) : nd 2 n = s * k + L + 1 := by
  have hB : 2 ≤ 2 ^ s := by
    calc 2 = 2 ^ 1 := rfl
      _ ≤ 2 ^ s := Nat.pow_le_pow_right (by decide) hs
  have e := top_split hB hk
  have hp : 0 < (2 ^ s) ^ k := Nat.pow_pos (by omega)
  have hlow : n % (2 ^ s) ^ k < (2 ^ s) ^ k := Nat.mod_lt _ hp
  have ep : (2 ^ s) ^ k = 2 ^ (s * k) := (Nat.pow_mul _ _ _).symm
  generalize dg (2 ^ s) n k = t at *
  generalize n % (2 ^ s) ^ k = l at *
  rw [ep] at hlow e hp
  apply nd_eq (by decide)
  · rw [e, Nat.pow_add]
    have := Nat.mul_le_mul_left (2 ^ (s * k)) h1
    omega
  · rw [e, show s * k + L + 1 = s * k + (L + 1) from by omega, Nat.pow_add]
    have : 2 ^ (s * k) * t + 2 ^ (s * k) ≤ 2 ^ (s * k) * 2 ^ (L + 1) := by rw [← Nat.mul_succ]; exact Nat.mul_le_mul_left _ h2
    omega
theorem bitLen_spec {x : Nat} (h : x < 2 ^ 64) (h0 : 0 < x) : ∃ L, Go.Lib.bitLen x = L + 1 ∧ 2 ^ L ≤ x ∧ x < 2 ^ (L + 1) := by
  obtain ⟨a, b, c⟩ := Go.Lib.bitLenAux_bounds 64 x h (by omega)
  refine ⟨Go.Lib.bitLen x - 1, ?_, b, ?_⟩
  · unfold Go.Lib.bitLen; omega
  · unfold Go.Lib.bitLen
    rwa [Nat.sub_add_cancel a]
theorem bitLen_zero : Go.Lib.bitLen 0 = 0 := Go.Lib.bitLenAux_zero 64
/-- bitLen of the program -/
theorem bits_32 {n : Nat} (h : 0 < n) : nd 2 n = 32 * (nd (2 ^ 32) n - 1) + Go.Lib.bitLen (dg (2 ^ 32) n (nd (2 ^ 32) n - 1)) := by
  have hB : 2 ≤ 2 ^ 32 := by decide
  obtain ⟨k, hk⟩ : ∃ k, nd (2 ^ 32) n = k + 1 := ⟨nd (2 ^ 32) n - 1, by have := nd_pos hB h; omega⟩
  have ht := dg_top hB h
  rw [hk, Nat.add_sub_cancel] at ht ⊢
  obtain ⟨L, e, h1, h2⟩ := bitLen_spec (Nat.lt_trans (dg_lt (by decide) n k) (by decide : 2 ^ 32 < 2 ^ 64)) ht
  rw [e, bits_top (by decide) hk h1 h2]; rfl
theorem bitLen_eq {x : Nat} (h : x < 2 ^ 64) : Go.Lib.bitLen x = nd 2 x := by
  rcases Nat.eq_zero_or_pos x with h0 | h0
  · subst h0; rw [bitLen_zero, nd_zero]
  · obtain ⟨L, e, h1, h2⟩ := bitLen_spec h h0
    rw [e, nd_eq (by decide) h1 h2]

/-! numerals -/
theorem nDigits_eq {n : Nat} (h : 0 < n) : nDigits n = nd 10 n := by
  have h1 := nd_lt (by decide : 2 ≤ 10) n
  have h2 := nd_pow_le (by decide : 2 ≤ 10) h
  obtain ⟨k, hk⟩ : ∃ k, nd 10 n = k + 1 := ⟨nd 10 n - 1, by have := nd_pos (by decide : 2 ≤ 10) h; omega⟩
  rw [hk] at h1 h2 ⊢
  rw [Nat.add_sub_cancel] at h2
  exact Go.Lib.nDigits_unique k n h2 h1
theorem dec_eq_digits {n : Nat} (h : 0 < n) : decDigits n = ((pad 10 (nd 10 n) n).map fun d => UInt8.ofNat (48 + d)).reverse := by
  rw [Go.Lib.decDigits_eq, nDigits_eq h]
  apply List.ext_getElem (by simp [pad])
  intro i h1 h2
  simp only [List.length_map, List.length_range] at h1
  simp only [List.getElem_map, List.getElem_range, List.getElem_reverse, pad_getElem, List.length_map, pad_length, Go.Lib.dg, dg]
/-- one group of nine digits more -/
theorem dec_group {n j : Nat} (h : 0 < n / 1000000000 ^ (j + 1)) : decDigits (n / 1000000000 ^ j) = decDigits (n / 1000000000 ^ (j + 1)) ++ padz 9 (dg 1000000000 n j) := by
  rw [div_succ 1000000000 n j]
  have := decDigits_split 9 (dg 1000000000 n j) (n / 1000000000 ^ (j + 1)) (dg_lt (by decide) _ _) h
  exact this
theorem dec_len_le {n k : Nat} (hk : 0 < k) (h : n < 10 ^ k) : (decDigits n).length ≤ k := by
  rw [Go.Lib.decDigits_length]; exact nDigits_le hk h
/-- a binary digit out of a digit to the base 2^s -/
theorem dg_two (s n i : Nat) (hs : 0 < s) : dg 2 n i = dg (2 ^ s) n (i / s) / 2 ^ (i % s) % 2 := by
  unfold dg
  have hr : i % s < s := Nat.mod_lt _ hs
  obtain ⟨t, ht⟩ : ∃ t, s = i % s + (1 + t) := ⟨s - (i % s) - 1, by omega⟩
  have e1 : 2 ^ i = (2 ^ s) ^ (i / s) * 2 ^ (i % s) := by
    rw [← Nat.pow_mul, ← Nat.pow_add, Nat.div_add_mod]
  rw [e1, ← Nat.div_div_eq_div_mul]
  generalize n / (2 ^ s) ^ (i / s) = x
  have e2 : x % 2 ^ s = x % (2 ^ (i % s) * (2 * 2 ^ t)) := by
    rw [show 2 ^ (i % s) * (2 * 2 ^ t) = 2 ^ s from by
      conv => rhs; rw [ht]
      rw [Nat.pow_add, Nat.pow_add, Nat.pow_one]]
  rw [e2, Nat.mod_mul_right_div_self, Nat.mod_mul_right_mod]
end Gu
