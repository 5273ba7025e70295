/- The contract of the document's own Parse. -/
import Derived.Test.YtgidmlffjelpnaaDoorSk
import Derived.Test.YtgidmlffjelpnaaDoorSj
import Derived.Test.YtgidmlffjelpnaaDoorWq
namespace Go.Proofs.YtgidmlffjelpnaaDoor
open Go Go.RowKit Gu

theorem nd_sval16 {l : List UInt8} (h : l.all isDigit = true) : nd 65536 (sval l) ≤ l.length :=
  (nd_le (by decide)).2 (Nat.lt_of_lt_of_le (sval_lt l h) (Nat.pow_le_pow_left (by decide) _))
set_option maxHeartbeats 400000 in
theorem RParse_no (s : ByteArray) (w : World) (hs : s.size ≤ 1048576) (hd : isNum s.data.toList = false) :
    Calls Tryd.prog 13 #[.string s] w fun e w' => e = .returned (.tuple #[.slice none 0 0, .int .i64 4]) ∧ w = w' := by
  have HI := Lib.hid (RNumeral_any s w hs)
  rw [hd] at HI
  clear hd
  go_enter Tryd.func13, Tryd.ntmps13
  go_wp2_with fail
  refine HI.out.mono ?_
  rintro e w' ⟨rfl, rfl⟩
  go_wp2
  go_ret2
  exact ⟨rfl, rfl⟩
set_option maxHeartbeats 400000 in
theorem RParse_long (s : ByteArray) (w : World) (hs : s.size ≤ 1048576) (hl : 5000 < s.size) (hd : isNum s.data.toList = true) :
    Calls Tryd.prog 13 #[.string s] w fun e w' => e = .returned (.tuple #[.slice none 0 0, .int .i64 3]) ∧ w = w' := by
  have HI := Lib.hid (RNumeral_any s w hs)
  rw [hd] at HI
  have hl' : (5000 : Int) < s.size := by omega
  clear hd
  go_enter Tryd.func13, Tryd.ntmps13
  go_wp2_with fail
  refine HI.out.mono ?_
  rintro e w' ⟨rfl, rfl⟩
  go_wp2
  go_ret2
  exact ⟨rfl, rfl⟩
set_option maxHeartbeats 2000000 in
set_option maxRecDepth 100000 in
theorem RParse_yes (s : ByteArray) (w : World) (hs : s.size ≤ 5000) (hd : isNum s.data.toList = true) :
    Calls Tryd.prog 13 #[.string s] w fun e w' => ∃ r, e = .returned (.tuple #[r, .int .i64 (fitE (sval s.data.toList))]) ∧ R w' r (fitN (sval s.data.toList)) ∧ Below w.heap.size w w' := by
  obtain ⟨i0, hi, hz0, hz1, hz2⟩ := info_parts Tryd.infoInt
  have hB : 2 ≤ 65536 := by decide
  have HI := Lib.hid (RNumeral_any s w (by omega))
  rw [hd] at HI
  have HALL := Lib.hid (isNum_digits hd)
  have HDG : Hid (∀ k (h : k < s.size), isDigit s[k] = true) := fun k h => by
    rw [← byte_at s k h]
    exact List.all_eq_true.1 HALL.out _ (List.getElem_mem _)
  have HND : Hid (∀ i, nd 65536 (sval (s.data.toList.take i)) ≤ 5000) := fun i => by
    have h1 := all_sub HALL.out 0 i
    rw [List.drop_zero] at h1
    have h2 := nd_sval16 h1
    have h3 : (s.data.toList.take i).length ≤ s.data.toList.length := List.length_take_le' _ _
    rw [len_data] at h3
    omega
  clear hd
  go_enter Tryd.func13, Tryd.ntmps13
  go_wp2_with fail
  refine HI.out.mono ?_
  rintro e w' ⟨rfl, rfl⟩
  go_wp2
  go_loopw [4, 5] (fun v t wr => ∃ i : Nat, i ≤ s.size ∧ t = .int .i64 i ∧ R wr v (sval (s.data.toList.take i)) ∧ Below w.heap.size w wr) (fun _ t _ => s.size - (intOf t).toNat)
  case atStart => exact ⟨0, Nat.zero_le _, rfl, by rw [List.take_zero]; exact IsN.zero _ _ _ _ _, Below.refl _ _⟩
  case round =>
    obtain ⟨i, hil, rfl, hv, hb⟩ := hrel
    by_cases hlt : i < s.size
    · obtain ⟨wo, rfl⟩ : ∃ wo : World, wo = wr := ⟨_, rfl⟩
      obtain ⟨vo, vc, rfl, -⟩ := hv.shape
      obtain ⟨d1, d2⟩ := (digit_iff _).1 (HDG.out i hlt)
      have HS : Hid (sval (s.data.toList.take (i + 1)) = sval (s.data.toList.take i) * 10 + (s[i].toNat - 48)) := by
        show _ = _
        rw [take_byte s i hlt, sval_snoc]
      have hn := HND.out i
      have HNl := Lib.hid (nd_lt (B := 65536) (by decide) (sval (s.data.toList.take i)))
      have HV := Lib.hid hv; have HB := Lib.hid hb
      clear hv hb
      generalize sval (s.data.toList.take i) = N at *
      obtain ⟨la, hla⟩ : ∃ la, nd 65536 N = la := ⟨_, rfl⟩
      have HLA := Lib.hid hla
      rw [hla] at hn HNl HV ⊢
      clear hla
      have HNa : Hid (nd 65536 N ≤ 4611686018427387904) := by show _ ≤ _; rw [HLA.out]; omega
      have hdig : s[i].toNat - 48 ≤ 9 := by omega
      have HDI : Hid (((s[i].toNat - 48 : Nat) : Int) = (s[i].toNat : Int) - 48) := by show _ = _; omega
      have HST : Hid (TenRel N la wo (s[i].toNat - 48) 0 0 (s[i].toNat - 48) (.slice none 0 0) wo) :=
        ⟨by omega, by omega, by simp, by simp [Nat.mod_one], fun h => by omega, Own.nil _ _ _ _ _, Below.refl _ _⟩
      generalize hdd : s[i].toNat - 48 = d at *
      have HDD := Lib.hid hdd
      clear hdd
      go_wp2
      go_loopg [6, 7, 8] (la + 1) (fun m c out x wr => ∃ k X cc : Nat, Hid (m + k = la + 1) ∧ x = .int .i64 k ∧ c = .int .i64 cc ∧ TenRel N la wo d k X cc out wr)
      case atStart => exact ⟨0, 0, d, rfl, rfl, by rw [HDI.out], HST.out⟩
      case round =>
        obtain ⟨k, X, c, HK, rfl, rfl, hrel⟩ := hrel
        have hc1 : c ≤ 10 := hrel.1
        have hk1 : k ≤ la + 1 := hrel.2.1
        by_cases hcont : k < la ∨ 0 < c
        · obtain ⟨-, -, hX, hsum, hend, hown, hbel⟩ := hrel
          have hkM : k ≤ la := by
            rcases Nat.lt_or_ge la k with h | h
            · have := (hend (by omega)).1; omega
            · exact h
          have hA := Lib.hid (Rat_any _ N k wr (HV.out.below hbel) HNa.out)
          have hda := dg_lt (B := 65536) (by decide) N k
          have HTN := Lib.hid (ten_next HNl.out hkM hX hc1 hsum rfl hcont)
          have HPS := Lib.hid (fun dd (h : dd < 65536) => pad_succ (B := 65536) (by decide) hX h)
          have HB2 := Lib.hid hbel
          have hltw := hown.lt
          have HLT := Lib.hid hltw
          have hsz := hbel.size
          unfold Own at hown
          clear hbel hltw hsum hX hend
          generalize dg 65536 N k = da at *
          obtain ⟨q, hq⟩ : ∃ q, c + 10 * da = q := ⟨_, rfl⟩
          have hq1 : q ≤ 655360 := by omega
          have HQ : Hid ((c : Int) + 10 * (da : Int) = (q : Int)) := by show _ = _; omega
          have hqm : q % 65536 < 65536 := Nat.mod_lt _ (by decide)
          rw [hq] at HTN
          have HPS2 := Lib.hid (HPS.out _ hqm)
          have hcond : (k : Int) < la ∨ (¬ (k : Int) < la ∧ (0 : Int) < c) := by omega
          clear hcont hq HPS
          have HE : Hid (((q % 65536 : Nat) : Int) = (c + 10 * da : Int) % 65536) := by show _ = _; rw [HQ.out]; omega
          have HE2 : Hid (((q / 65536 : Nat) : Int) = (c + 10 * da : Int) / 65536) := by show _ = _; rw [HQ.out]; omega
          rcases hcond with hcond | ⟨hcond0, hcond⟩
          all_goals
            go_wp2_with fail
            refine hA.out.mono ?_
            rintro e w' ⟨rfl, rfl⟩
            go_wp2_with (at_builtin; refine wpList_append_own _ rfl _ _ 30 rfl wo.heap.size 3 i0 (.int .i64 0) 1 8 Tryd.underlying30 hi hz0 hz1 hz2 rfl (by decide) _ _ _ rfl (hown.alloc _) ⟨wr.heap.size, 0, none⟩ 1 1 [.int .i64 ((c + 10 * da : Int) % 65536)] rfl rfl ?c1 ?c2 ?c3 ?c4 ?c5 ?_)
            case c1 => exact cell_one_new _ _ _
            case c2 => intro u hu; simp at hu; subst hu; rfl
            case c3 => unfold maxLen; omega
            case c4 => omega
            case c5 => simp; omega
            intro v' w4 hown4 hgrow hnil
            have HFIN : Hid (TenRel N la wo d (k + 1) (X + 65536 ^ k * (q % 65536)) (q / 65536) v' w4) := by
              obtain ⟨t1, t2, t3, t4⟩ := HTN.out
              refine ⟨t1, by omega, t2, t3, t4, ?_, ?_⟩
              · unfold Own
                rw [HPS2.out, List.map_append]
                show w4.ownsRow _ _ _ _ _ (_ ++ [Value.int .i64 ((q % 65536 : Nat) : Int)])
                rw [HE.out]
                exact hown4
              · refine Below.grown (HB2.out.alloc (by omega) _) hgrow (by simp; omega) ?_
                intro j hj
                exact (HLT.out _ hj).1
            clear hown4 hgrow hnil
            go_wp2
            go_roundg (la + 1 - (k + 1))
            case measure => have := HK.out; omega
            case rel => exact ⟨k + 1, _, _, by show _ = _; omega, by go_num, congrArg _ HE2.out.symm, HFIN.out⟩
        · have hk2 : la ≤ k := by omega
          have hc0 : c = 0 := by omega
          subst hc0
          obtain ⟨-, -, hX, hsum, hend, hown, hbel⟩ := hrel
          have h1 : N < 65536 ^ k := Nat.lt_of_lt_of_le HNl.out (Nat.pow_le_pow_right (by decide) hk2)
          rw [Nat.mod_eq_of_lt h1, Nat.mul_zero, Nat.add_zero] at hsum
          have hnd : nd 65536 X = k := ten_len HLA.out hX (by omega) hk2 (fun h => (hend h).2) hk1
          have HR := Lib.hid (hown.isN hB hnd)
          have HXE : Hid (X = sval (s.data.toList.take (i + 1))) := by
            show _ = _
            rw [HS.out, hsum]; omega
          have HB2 := Lib.hid (HB.out.trans (hbel.mono HB.out.size))
          have h0 : ¬ ((k : Int) < la) := by omega
          clear hX hsum hend hown hbel hnd hcont h1
          go_wp2
          go_roundw
          case rel => exact ⟨i + 1, by omega, by go_num, by rw [← HXE.out]; exact HR.out, HB2.out⟩
          case measure => simp [intOf]; omega
    · obtain rfl : i = s.size := by omega
      rw [List.take_of_length_le (by rw [len_data]; exact Nat.le_refl _)] at hv
      have hn := HND.out s.size
      rw [List.take_of_length_le (by rw [len_data]; exact Nat.le_refl _)] at hn
      have HV := Lib.hid hv; have HB := Lib.hid hb
      have HBL := Lib.hid (RBitLen_any _ _ _ hv (by omega))
      clear hv hb hn
      obtain ⟨N, hN⟩ : ∃ N, N = sval s.data.toList := ⟨_, rfl⟩
      have HN := Lib.hid hN
      rw [← hN] at HV HBL
      clear hN
      by_cases hfit : nd 2 N ≤ 16384
      · have HE : Hid (fitE N = 0 ∧ fitN N = N) := ⟨if_pos hfit, if_pos hfit⟩
        have hf : ¬ ((16384 : Int) < ((nd 2 N : Nat) : Int)) := by omega
        generalize hbl : nd 2 N = bl at hf HBL
        clear hbl hfit
        go_wp2_with fail
        refine HBL.out.mono ?_
        rintro e w5 ⟨rfl, rfl⟩
        go_wp2
        go_ret2
        exact ⟨_, by rw [← HN.out, HE.out.1]; rfl, by rw [← HN.out, HE.out.2]; exact HV.out, HB.out⟩
      · have HE : Hid (fitE N = 3 ∧ fitN N = 0) := ⟨if_neg hfit, if_neg hfit⟩
        have hf : ((16384 : Int) < ((nd 2 N : Nat) : Int)) := by omega
        generalize hbl : nd 2 N = bl at hf HBL
        clear hbl hfit
        go_wp2_with fail
        refine HBL.out.mono ?_
        rintro e w5 ⟨rfl, rfl⟩
        go_wp2
        go_ret2
        exact ⟨.slice none 0 0, by rw [← HN.out, HE.out.1]; rfl, by rw [← HN.out, HE.out.2]; exact IsN.zero _ _ _ _ _, HB.out⟩
end Go.Proofs.YtgidmlffjelpnaaDoor
