/- The contract of isNumeral. -/
import Derived.Test.YtfkogbomijonjaaGreatDoorWn
namespace Go.Proofs.YtfkogbomijonjaaGreatDoor
open Go Go.RowKit Gu

theorem byte_at (s : ByteArray) (k : Nat) (h : k < s.size) : s.data.toList[k]'(by simpa using h) = s[k] := rfl
theorem len_data (s : ByteArray) : s.data.toList.length = s.size := Array.length_toList
theorem cons_of (l : List UInt8) (h : 0 < l.length) : l = l[0] :: l.tail := by
  cases l with
  | nil => simp at h
  | cons a l => rfl
theorem take_byte (s : ByteArray) (k : Nat) (h : k < s.size) : s.data.toList.take (k + 1) = s.data.toList.take k ++ [s[k]] := by
  rw [List.take_succ_eq_append_getElem (by simpa using h)]; rfl
theorem digit_iff (c : UInt8) : isDigit c = true ↔ 48 ≤ c.toNat ∧ c.toNat ≤ 57 := by
  unfold isDigit
  rw [Bool.and_eq_true, decide_eq_true_eq, decide_eq_true_eq, UInt8.le_iff_toNat_le, UInt8.le_iff_toNat_le]
  exact Iff.rfl
theorem all_take (s : ByteArray) (k : Nat) (h : k < s.size) (h1 : (s.data.toList.take k).all isDigit = true) (h2 : isDigit s[k] = true) : (s.data.toList.take (k + 1)).all isDigit = true := by
  rw [take_byte s k h, List.all_append, h1]; simp [h2]
theorem all_false (s : ByteArray) (k : Nat) (h : k < s.size) (h2 : ¬ isDigit s[k] = true) : s.data.toList.all isDigit = false := by
  rw [List.all_eq_false]
  exact ⟨s[k], List.getElem_mem (by simpa using h), h2⟩
theorem isNum_lead (s : ByteArray) (h : 0 < s.size) (h0 : s[0].toNat ≠ 48) : isNum s.data.toList = s.data.toList.all isDigit := by
  have e : s.data.toList = s[0] :: s.data.toList.tail := by
    exact cons_of _ (by rw [len_data]; exact h)
  unfold isNum
  rw [e]
  have hne : s[0] ≠ 48 := fun e => h0 (by rw [e]; rfl)
  generalize s[0] = c at *
  simp [hne]
theorem isNum_zero (s : ByteArray) (h : 1 < s.size) (h0 : s[0].toNat = 48) : isNum s.data.toList = false := by
  have e : s.data.toList = s[0] :: s.data.toList.tail := by
    exact cons_of _ (by rw [len_data]; omega)
  have hl : 1 < s.data.toList.length := by simpa using h
  have he : s[0] = 48 := UInt8.toNat_inj.1 (by rw [h0]; rfl)
  unfold isNum
  simp only [Bool.and_eq_false_iff, Bool.not_eq_false', Bool.and_eq_true]
  refine .inl (.inr ⟨?_, by simpa using hl⟩)
  rw [e, he]; rfl
theorem one_byte (s : ByteArray) (h : s.size = 1) : s = ⟨#[s[0]'(by omega)]⟩ := by
  rcases s with ⟨⟨l⟩⟩
  match l, h with
  | [a], _ => rfl
theorem ne_empty (s : ByteArray) (h : 0 < s.size) : s.toList.isEmpty = false := by
  rw [ByteArray.toList_eq]
  have hl := len_data s
  cases hh : s.data.toList with
  | nil => rw [hh] at hl; simp at hl; omega
  | cons a l => rfl
end Go.Proofs.YtfkogbomijonjaaGreatDoor
