/- The contract of readNumeral. -/
import Derived.Test.YtgidmlffjelpnaaDoorWo
import Derived.Lib.Strings
import Derived.Lib.IndexBytes
namespace Go.Proofs.YtgidmlffjelpnaaDoor
open Go Go.RowKit Gu

/-- how many digits the next group has -/
def grp (n : Nat) : Nat := (n - 1) % 9 + 1
theorem all_sub {l : List UInt8} (h : l.all isDigit = true) (p k : Nat) : ((l.drop p).take k).all isDigit = true := by
  rw [List.all_eq_true] at h ⊢
  intro x hx
  exact h x (List.mem_of_mem_drop (List.mem_of_mem_take hx))
theorem nd_sval {l : List UInt8} (h : l.all isDigit = true) : nd 4294967296 (sval l) ≤ l.length := by
  apply (nd_le (by decide : 2 ≤ 4294967296)).2
  exact Nat.lt_of_lt_of_le (sval_lt l h) (Nat.pow_le_pow_left (by decide) _)
theorem sval_small {l : List UInt8} (h : l.all isDigit = true) (hl : l.length ≤ 9) : sval l < 1000000000 := by
  have h1 := sval_lt l h
  have h2 : 10 ^ l.length ≤ 10 ^ 9 := Nat.pow_le_pow_right (by decide) hl
  exact Nat.lt_of_lt_of_le h1 h2
theorem sval_group {l : List UInt8} {p k : Nat} (h : p = 0 ∨ k = 9) (hl : p + k ≤ l.length) : sval (l.take (p + k)) = sval (l.take p) * 1000000000 + sval ((l.drop p).take k) := by
  rw [List.take_add, sval_append, List.length_take, List.length_drop, Nat.min_eq_left (by omega)]
  rcases h with h | h
  · subst h; simp [sval]
  · subst h; rfl
/-- what the outer loop of readNumeral keeps: p digits are read -/
def ReadRel (l : List UInt8) (w : World) (vW : Value) (t : ByteArray) (v : Value) (wr : World) : Prop :=
  ∃ p, p ≤ l.length ∧ t.data.toList = l.drop p ∧ (p = 0 ∨ (l.length - p) % 9 = 0) ∧ D wr v (sval (l.take p)) ∧ D wr vW 1000000000 ∧ Below w.heap.size w wr
set_option maxHeartbeats 1000000 in
theorem readNumeral_any (s : ByteArray) (w : World) (h0 : 0 < s.size) (hs : s.size ≤ 5463) (hd : s.data.toList.all isDigit = true) :
    Calls Tryd.prog 45 #[.string s] w fun e w' => ∃ r, e = .returned (.tuple #[.agg #[r], .int .i64 (fitE (sval s.data.toList))]) ∧ D w' r (fitN (sval s.data.toList)) ∧ Below w.heap.size w w' := by
  have HW := Lib.hid (fun w => digitsOf_any 1000000000 w (by decide))
  have HD := Lib.hid hd; clear hd
  go_enter Tryd.func45, Tryd.ntmps45
  go_wp2_with fail
  refine (HW.out _).mono ?_
  rintro e w1 ⟨vW, rfl, hvW, hbel⟩
  have HVW := Lib.hid hvW; have HB1 := Lib.hid hbel
  clear hvW hbel
  go_wp2
  go_loopg [0, 4] s.size (fun n x v wr => ∃ t : ByteArray, x = .string t ∧ Hid (n = t.size) ∧ ReadRel s.data.toList w1 vW t v wr)
  case atStart => exact ⟨s, rfl, rfl, 0, Nat.zero_le _, rfl, .inl rfl, by rw [List.take_zero]; exact IsN.zero _ _ _ _ _, HVW.out, Below.refl _ _⟩
  case round =>
    obtain ⟨t, rfl, HG, p, hp, htl, hpp, hv, hvw, hb⟩ := hrel
    have hlen : t.size = s.size - p := by rw [← len_data t, htl, List.length_drop, len_data]
    have HTL := Lib.hid htl; have HPP := Lib.hid hpp; have HV := Lib.hid hv; have HVW' := Lib.hid hvw; have HB := Lib.hid hb
    clear htl hpp hv hvw hb
    rw [len_data] at hp
    by_cases h1 : 0 < t.size
    · have hts : t.size ≤ 5463 := by omega
      have HL := Lib.hid hlen; clear hlen
      obtain ⟨N, hN⟩ : ∃ N : Nat, ((t.size : Int) - 1) % 9 + 1 = N := ⟨grp t.size, by unfold grp; omega⟩
      have hN1 : 1 ≤ N := by omega
      have hN9 : N ≤ 9 := by omega
      have hNt : N ≤ t.size := by omega
      have HNN : Hid (N = grp t.size) := by show _ = _; unfold grp; omega
      have HALL : Hid (t.data.toList.all isDigit = true) := by
        have := all_sub HD.out p s.size
        rw [List.take_of_length_le (by rw [List.length_drop, len_data]; omega), ← HTL.out] at this
        exact this
      have h9 : Hid (∀ k, k ≤ N → sval (t.data.toList.take k) < 1000000000) := fun k hk => by
        have := all_sub HALL.out 0 k
        rw [List.drop_zero] at this
        exact sval_small this (by rw [List.length_take, len_data]; omega)
      have HDG : Hid (∀ k (h : k < t.size), isDigit t[k] = true) := fun k h => by
        rw [← byte_at t k h]
        exact List.all_eq_true.1 HALL.out _ (List.getElem_mem _)
      go_wp2
      go_loop [7, 23] (fun g i => ∃ k : Nat, k ≤ N ∧ i = .int .i64 k ∧ g = .int .u64 (sval (t.data.toList.take k))) (fun _ i => N - (intOf i).toNat)
      case atStart => exact ⟨0, Nat.zero_le _, rfl, rfl⟩
      case round =>
        obtain ⟨k, hk, rfl, rfl⟩ := hrel
        by_cases hlt : k < N
        · obtain ⟨d1, d2⟩ := (digit_iff _).1 (HDG.out k (by omega))
          have hkt : k < t.size := by omega
          have HS : Hid (sval (t.data.toList.take (k + 1)) = sval (t.data.toList.take k) * 10 + (t[k].toNat - 48)) := by
            show _ = _
            rw [take_byte t k hkt, sval_snoc]
          have hg := h9.out (k + 1) (by omega)
          rw [HS.out] at hg
          generalize sval (t.data.toList.take k) = g at *
          go_wp2
          go_round
          case rel => exact ⟨k + 1, by omega, by go_num, by rw [HS.out]; go_num⟩
          case measure => simp [intOf]; omega
        · obtain rfl : k = N := by omega
          have hG := h9.out k (Nat.le_refl _)
          have HGV : Hid (sval (t.data.toList.take k) = sval (t.data.toList.take k)) := rfl
          generalize hgg : sval (t.data.toList.take k) = g at *
          have HGG := Lib.hid hgg; clear hgg HGV
          have hn1 : nd 4294967296 (sval (s.data.toList.take p)) ≤ 5463 := by
            have := nd_sval (all_sub HD.out 0 p)
            rw [List.drop_zero, List.length_take, len_data] at this
            omega
          have hn2 : nd 4294967296 1000000000 ≤ 1 := (nd_le (by decide)).2 (by decide)
          have hn3 := nd_mul hn1 hn2
          have hn4 : nd 4294967296 g ≤ 1 := (nd_le (by decide)).2 (by rw [Nat.pow_one]; omega)
          have HP := Lib.hid (fun w' (h : Below wr.heap.size wr w') => product_any _ _ _ _ w' (HV.out.below h) (HVW'.out.below h) (by omega) (by omega))
          go_wp2_with fail
          refine (HP.out _ (Below.refl _ _)).mono ?_
          rintro e w2 ⟨r1, rfl, hr1, hb1⟩
          have HR1 := Lib.hid hr1; have HB2 := Lib.hid hb1
          clear hr1 hb1
          have HD2 := Lib.hid (digitsOf_any g w2 (by omega))
          go_wp2_with fail
          refine HD2.out.mono ?_
          rintro e w3 ⟨r2, rfl, hr2, hb2⟩
          have HS3 := Lib.hid (sum_any r1 r2 _ g w3 (HR1.out.below hb2) hr2 (by omega) (by omega))
          have HB3 := Lib.hid hb2
          clear hr2 hb2
          go_wp2_with fail
          refine HS3.out.mono ?_
          rintro e w4 ⟨r3, rfl, hr3, hb3⟩
          have HR3 := Lib.hid hr3; have HB4 := Lib.hid hb3
          clear hr3 hb3
          have HEX : Hid ((t.extract k t.size).size = t.size - k ∧ (t.extract k t.size).data.toList = s.data.toList.drop (p + k)) := by
            have e : (t.extract k t.size).data.toList = t.data.toList.drop k := by
              rw [Lib.extract_to_end]
            refine ⟨?_, ?_⟩
            · rw [← len_data, e, List.length_drop, len_data]
            · rw [e, HTL.out, List.drop_drop]
          have HVN : Hid (sval (s.data.toList.take (p + k)) = sval (s.data.toList.take p) * 1000000000 + g) := by
            show _ = _
            rw [sval_group (k := k) ?_ (by rw [len_data]; have := HL.out; omega), ← HTL.out, HGG.out]
            have := HPP.out
            rw [len_data] at this
            have h2 := HNN.out
            unfold grp at h2
            have h3 := HL.out
            omega
          have HBB : Hid (Below wr.heap.size wr w4) := (HB2.out.trans (HB3.out.mono HB2.out.size)).trans (HB4.out.mono (Nat.le_trans HB2.out.size HB3.out.size))
          have HFIN : Hid (ReadRel s.data.toList w1 vW (t.extract k t.size) r3 w4) := by
            refine ⟨p + k, by rw [len_data]; have := HL.out; omega, HEX.out.2, .inr ?_, by rw [HVN.out]; exact HR3.out, HVW'.out.below HBB.out, HB.out.trans (HBB.out.mono HB.out.size)⟩
            rw [len_data]
            have h2 := HNN.out
            unfold grp at h2
            have h3 := HL.out
            omega
          clear hn1 hn2 hn3 hn4
          go_wp2
          go_roundg (t.size - k)
          case measure => have := HG.out; omega
          case rel => exact ⟨_, rfl, HEX.out.1.symm, HFIN.out⟩
    · have ht0 : t.size = 0 := by omega
      have hps : p = s.size := by omega
      have hv' := HV.out
      rw [hps, List.take_of_length_le (by rw [len_data]; exact Nat.le_refl _)] at hv'
      have hnd : nd 4294967296 (sval s.data.toList) ≤ 5463 := by have := nd_sval HD.out; rw [len_data] at this; omega
      have HF := Lib.hid (fitting_any _ _ wr hv' (Nat.le_trans hnd (by decide)))
      clear hv' hnd hps hlen
      have c0 : w1.cell? ⟨w.heap.size, 0, none⟩ = some (.slice none 0 0) := (HB1.out.cell (p := ⟨w.heap.size, 0, none⟩) (by simp)).trans (World.cell?_alloc_at _ _ _ _ rfl)
      have f0 : w1.frozen? ⟨w.heap.size, 0, none⟩ = false := (HB1.out.frozen (p := ⟨w.heap.size, 0, none⟩) (by simp)).trans (World.frozen?_alloc_at _ _ _ _ rfl)
      have hz : w.heap.size + 1 ≤ w1.heap.size := by have := HB1.out.size; simp at this; exact this
      have C0 := Lib.hid c0; have F0 := Lib.hid f0
      clear c0 f0
      go_wp2_with fail
      refine HF.out.mono ?_
      rintro e w5 ⟨r, rfl, hr, hb5⟩
      have h15 := HB.out.trans (hb5.mono HB.out.size)
      have d0 := (h15.cell (p := ⟨w.heap.size, 0, none⟩) (by show w.heap.size < _; omega)).trans C0.out
      have g0 := (h15.frozen (p := ⟨w.heap.size, 0, none⟩) (by show w.heap.size < _; omega)).trans F0.out
      have HBF := Lib.hid (((Below.refl w.heap.size w).alloc (Nat.le_refl _) (.cells #[.slice none 0 0] 26)).trans ((HB1.out.trans (h15.mono (by simp; omega))).mono (by simp)))
      obtain ⟨ro, rc, rfl, -⟩ := hr.shape
      have HR := Lib.hid hr; have D0 := Lib.hid d0
      clear hr hb5 h15
      go_wp2
      refine bodyPost_ret (v := .tuple #[.agg #[.slice ro (nd 4294967296 (fitN (sval s.data.toList))) rc], .int .i64 (fitE (sval s.data.toList))]) (by simp [results, Tryd.results45, go_sem, d0]) rfl ⟨_, rfl, HR.out.setCell D0.out (by intro d h; cases h) _, HBF.out.setCell (Nat.le_refl _) _⟩
end Go.Proofs.YtgidmlffjelpnaaDoor
