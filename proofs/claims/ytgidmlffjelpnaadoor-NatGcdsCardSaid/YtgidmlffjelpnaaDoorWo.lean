/- The contract of isNumeral. -/
import Derived.Test.YtgidmlffjelpnaaDoorWn
namespace Go.Proofs.YtgidmlffjelpnaaDoor
open Go Go.RowKit Gu

theorem byte_at (s : ByteArray) (k : Nat) (h : k < s.size) : s.data.toList[k]'(by simpa using h) = s[k] := rfl
theorem len_data (s : ByteArray) : s.data.toList.length = s.size := Array.length_toList
theorem cons_of (l : List UInt8) (h : 0 < l.length) : l = l[0] :: l.tail := by
  cases l with
  | nil => simp at h
  | cons a l => rfl
theorem take_byte (s : ByteArray) (k : Nat) (h : k < s.size) : s.data.toList.take (k + 1) = s.data.toList.take k ++ [s[k]] := by
  rw [List.take_succ_eq_append_getElem (by simpa using h)]; rfl
theorem digit_iff (c : UInt8) : isDigit c = true ↔ 48 ≤ c.toNat ∧ c.toNat ≤ 57 := by
  unfold isDigit
  rw [Bool.and_eq_true, decide_eq_true_eq, decide_eq_true_eq, UInt8.le_iff_toNat_le, UInt8.le_iff_toNat_le]
  exact Iff.rfl
theorem all_take (s : ByteArray) (k : Nat) (h : k < s.size) (h1 : (s.data.toList.take k).all isDigit = true) (h2 : isDigit s[k] = true) : (s.data.toList.take (k + 1)).all isDigit = true := by
  rw [take_byte s k h, List.all_append, h1]; simp [h2]
theorem all_false (s : ByteArray) (k : Nat) (h : k < s.size) (h2 : ¬ isDigit s[k] = true) : s.data.toList.all isDigit = false := by
  rw [List.all_eq_false]
  exact ⟨s[k], List.getElem_mem (by simpa using h), h2⟩
theorem isNum_lead (s : ByteArray) (h : 0 < s.size) (h0 : s[0].toNat ≠ 48) : isNum s.data.toList = s.data.toList.all isDigit := by
  have e : s.data.toList = s[0] :: s.data.toList.tail := by
    exact cons_of _ (by rw [len_data]; exact h)
  unfold isNum
  rw [e]
  have hne : s[0] ≠ 48 := fun e => h0 (by rw [e]; rfl)
  generalize s[0] = c at *
  simp [hne]
theorem isNum_zero (s : ByteArray) (h : 1 < s.size) (h0 : s[0].toNat = 48) : isNum s.data.toList = false := by
  have e : s.data.toList = s[0] :: s.data.toList.tail := by
    exact cons_of _ (by rw [len_data]; omega)
  have hl : 1 < s.data.toList.length := by simpa using h
  have he : s[0] = 48 := UInt8.toNat_inj.1 (by rw [h0]; rfl)
  unfold isNum
  simp only [Bool.and_eq_false_iff, Bool.not_eq_false', Bool.and_eq_true]
  refine .inl (.inr ⟨?_, by simpa using hl⟩)
  rw [e, he]; rfl
theorem one_byte (s : ByteArray) (h : s.size = 1) : s = ⟨#[s[0]'(by omega)]⟩ := by
  rcases s with ⟨⟨l⟩⟩
  match l, h with
  | [a], _ => rfl
theorem ne_empty (s : ByteArray) (h : 0 < s.size) : s.toList.isEmpty = false := by
  rw [ByteArray.toList_eq]
  have hl := len_data s
  cases hh : s.data.toList with
  | nil => rw [hh] at hl; simp at hl; omega
  | cons a l => rfl
set_option maxHeartbeats 400000 in
theorem isNumeral_any (s : ByteArray) (w : World) (hs : s.size ≤ 1048576) :
    Calls Tryd.prog 44 #[.string s] w fun e w' => e = .returned (.bool (isNum s.data.toList)) ∧ w = w' := by
  rcases Nat.eq_zero_or_pos s.size with h0 | h0
  · obtain rfl : s = ⟨#[]⟩ := by
      rcases s with ⟨⟨l⟩⟩
      cases l with
      | nil => rfl
      | cons a l => simp [ByteArray.size] at h0
    go_enter Tryd.func44, Tryd.ntmps44
    go_wp2
    go_ret
    exact ⟨rfl, rfl⟩
  · have hne := ne_empty s h0
    by_cases hz : s[0].toNat = 48
    · by_cases h1 : 1 < s.size
      · have HE := Lib.hid (isNum_zero s h1 hz)
        have hb : ((s[0].toNat : Int) == 48) = true := by simp; omega
        clear hz
        go_enter Tryd.func44, Tryd.ntmps44
        go_wp2
        go_ret
        exact ⟨by rw [HE.out]; rfl, rfl⟩
      · obtain rfl : s = ⟨#[48]⟩ := by
          have := one_byte s (by omega)
          have he : s[0] = 48 := UInt8.toNat_inj.1 (by rw [hz]; rfl)
          rw [this]; rw [he]
        clear hne hz h1 h0 hs
        go_enter Tryd.func44, Tryd.ntmps44
        go_wp2
        refine wp_loop_rounds 2 ?_
        repeat any_goals (rw [rounds_succ]; go_wp2)
        go_ret
        exact ⟨rfl, rfl⟩
    · have HE := Lib.hid (isNum_lead s h0 hz)
      have hb : ((s[0].toNat : Int) == 48) = false := by simp; omega
      clear hz
      go_enter Tryd.func44, Tryd.ntmps44
      go_wp2
      go_loop [18] (fun t => ∃ k : Nat, k ≤ s.size ∧ t = .int .i64 k ∧ Hid ((s.data.toList.take k).all isDigit = true)) (fun t => s.size - (intOf t).toNat)
      case atStart => exact ⟨0, Nat.zero_le _, rfl, rfl⟩
      case round =>
        obtain ⟨k, hk, rfl, hall⟩ := hrel
        by_cases hlt : k < s.size
        · by_cases hd : isDigit s[k] = true
          · obtain ⟨d1, d2⟩ := (digit_iff _).1 hd
            have HN : Hid ((s.data.toList.take (k + 1)).all isDigit = true) := all_take s k hlt hall.out hd
            clear hd
            go_wp2
            go_round
            case rel => exact ⟨k + 1, by omega, by go_num, HN⟩
            case measure => simp [intOf]; omega
          · have HF := Lib.hid (all_false s k hlt hd)
            have hd' : s[k].toNat < 48 ∨ 57 < s[k].toNat := by
              have := mt (digit_iff s[k]).2 hd
              omega
            clear hd
            rcases hd' with h | h
            · have h' : (s[k].toNat : Int) < 48 := by omega
              go_wp2
              go_ret
              exact ⟨by rw [HE.out, HF.out]; rfl, rfl⟩
            · have h' : (57 : Int) < s[k].toNat := by omega
              go_wp2
              go_ret
              exact ⟨by rw [HE.out, HF.out]; rfl, rfl⟩
        · obtain rfl : k = s.size := by omega
          have HT : Hid (s.data.toList.all isDigit = true) := by
            have := hall.out
            rw [List.take_of_length_le (by rw [len_data]; exact Nat.le_refl _)] at this
            exact this
          go_wp2
          go_ret
          exact ⟨by rw [HE.out, HT.out]; rfl, rfl⟩
end Go.Proofs.YtgidmlffjelpnaaDoor
