/- The contracts of the document's own Numeral and Parse. -/
import Derived.Test.YtgidmlffjelpnaaDoorSd
import Derived.Test.YtgidmlffjelpnaaDoorWp
namespace Go.Proofs.YtgidmlffjelpnaaDoor
open Go Go.RowKit Gu

set_option maxHeartbeats 400000 in
theorem RNumeral_any (s : ByteArray) (w : World) (hs : s.size ≤ 1048576) :
    Calls Tryd.prog 46 #[.string s] w fun e w' => e = .returned (.bool (isNum s.data.toList)) ∧ w = w' := by
  rcases Nat.eq_zero_or_pos s.size with h0 | h0
  · obtain rfl : s = ⟨#[]⟩ := by
      rcases s with ⟨⟨l⟩⟩
      cases l with
      | nil => rfl
      | cons a l => simp [ByteArray.size] at h0
    go_enter Tryd.func46, Tryd.ntmps46
    go_wp2
    go_ret
    exact ⟨rfl, rfl⟩
  · have hn0 : ((s.size : Int) == 0) = false := beq_eq_false_iff_ne.2 (by omega)
    have hn1 : ¬ s = ByteArray.empty := by rintro rfl; exact absurd h0 (by decide)
    by_cases hz : s[0].toNat = 48
    · by_cases h1 : 1 < s.size
      · have HE := Lib.hid (isNum_zero s h1 hz)
        have hb : ((s[0].toNat : Int) == 48) = true := by simp; omega
        clear hz
        go_enter Tryd.func46, Tryd.ntmps46
        go_wp2
        all_goals (go_ret; exact ⟨by rw [HE.out]; rfl, rfl⟩)
      · obtain rfl : s = ⟨#[48]⟩ := by
          have := one_byte s (by omega)
          have he : s[0] = 48 := UInt8.toNat_inj.1 (by rw [hz]; rfl)
          rw [this]; rw [he]
        clear hn0 hn1 hz h1 h0 hs
        go_enter Tryd.func46, Tryd.ntmps46
        go_wp2
        refine wp_loop_rounds 2 ?_
        repeat any_goals (rw [rounds_succ]; go_wp2)
        go_ret
        exact ⟨rfl, rfl⟩
    · have HE := Lib.hid (isNum_lead s h0 hz)
      have hb : ((s[0].toNat : Int) == 48) = false := by simp; omega
      clear hz
      rcases (show (1 : Int) < s.size ∨ ¬ (1 : Int) < s.size from Decidable.em _) with h1 | h1
      all_goals
       go_enter Tryd.func46, Tryd.ntmps46
       go_wp2
       go_loop [3] (fun t => ∃ k : Nat, k ≤ s.size ∧ t = .int .i64 k ∧ Hid ((s.data.toList.take k).all isDigit = true)) (fun t => s.size - (intOf t).toNat)
       case atStart => exact ⟨0, Nat.zero_le _, rfl, rfl⟩
       case round =>
         obtain ⟨k, hk, rfl, hall⟩ := hrel
         by_cases hlt : k < s.size
         · by_cases hd : isDigit s[k] = true
           · obtain ⟨d1, d2⟩ := (digit_iff _).1 hd
             have HN : Hid ((s.data.toList.take (k + 1)).all isDigit = true) := all_take s k hlt hall.out hd
             clear hd
             go_wp2
             go_round
             case rel => exact ⟨k + 1, by omega, by go_num, HN⟩
             case measure => simp [intOf]; omega
           · have HF := Lib.hid (all_false s k hlt hd)
             have hd' : s[k].toNat < 48 ∨ 57 < s[k].toNat := by
               have := mt (digit_iff s[k]).2 hd
               omega
             clear hd
             rcases hd' with h | h
             · have h' : (s[k].toNat : Int) < 48 := by omega
               go_wp2
               go_ret
               exact ⟨by rw [HE.out, HF.out]; rfl, rfl⟩
             · have h' : (57 : Int) < s[k].toNat := by omega
               go_wp2
               go_ret
               exact ⟨by rw [HE.out, HF.out]; rfl, rfl⟩
         · obtain rfl : k = s.size := by omega
           have HT : Hid (s.data.toList.all isDigit = true) := by
             have := hall.out
             rw [List.take_of_length_le (by rw [len_data]; exact Nat.le_refl _)] at this
             exact this
           go_wp2
           go_ret
           exact ⟨by rw [HE.out, HT.out]; rfl, rfl⟩
end Go.Proofs.YtgidmlffjelpnaaDoor
