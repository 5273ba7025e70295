/- SerialParts: the walk. -/
import Derived.Test.YtgblfobomiiofaaCScn
namespace Go.Proofs.Ytgblfobomiiofaa
open Go Go.RowKit Go.Shelf Gw Go.Maps

theorem slice_in {s : ByteArray} {n m : Nat} (h : n ≤ m) (h2 : m ≤ s.size) (W : World) : (Instr.slice 9 (.string s) (some (.int .i64 (n : Int))) (some (.int .i64 (m : Int))) none).run Try.prog W = .ok (.string (s.extract n m)) W := by
  rw [run_slice_string_if _ _ _ _ _ _ _ Try.underlying9, if_pos ⟨by omega, by omega⟩, if_pos ⟨by omega, by omega⟩]
  rfl
set_option maxRecDepth 100000 in
set_option maxHeartbeats 8000000 in
theorem serialParts_law {s : Sch} {bv : Value} {t : ByteArray} {I M : Int} {w : World} (hv : IsSs w bv s.bl) (_hnil : NilOk bv) :
    Calls Try.prog 10 #[schV s bv, .string t, .int .i64 I, .int .i64 M] w fun e w' => e = .returned (.bool true) ∧ Hid (Below w.heap.size w w') := by
  have HAW := Lib.hid serawake_any
  obtain ⟨w1, hw1⟩ : ∃ w1, w1 = w.alloc (.cells #[.string s.al, .int .i64 s.len, bv, .bool s.ck] 24) := ⟨_, rfl⟩
  have hb1 : Below w.heap.size w w1 := by rw [hw1]; exact below_al _ _
  have H41 : Hid (B4 w.heap.size (.string s.al) (.int .i64 s.len) bv (.bool s.ck) w1) := by rw [hw1]; exact B4.new _ _ _ _ _ _
  have HFW := few_any (s := s) (hv.below hb1)
  have HV1 := Lib.hid (hv.below hb1)
  have HB1 := Lib.hid hb1
  have HW1 := Lib.hid hw1
  obtain ⟨fb, hfb⟩ : ∃ fb, fb = fewB s := ⟨_, rfl⟩
  unfold FewP at HFW
  rw [← hfb] at HFW
  have HeS : Hid (∀ v, schV s v = .agg #[.string s.al, .int .i64 s.len, v, .bool s.ck]) := fun v => rfl
  unfold schV at HFW ⊢
  obtain ⟨bo, bc, hbv, -⟩ := hv
  obtain ⟨bm, hbm⟩ : ∃ bm, bm = s.bl.length := ⟨_, rfl⟩
  rw [← hbm] at hbv
  subst hbv
  have HFW := Lib.hid HFW
  obtain ⟨al, hal⟩ : ∃ al, al = s.al := ⟨_, rfl⟩
  obtain ⟨len, hlen⟩ : ∃ len, len = s.len := ⟨_, rfl⟩
  obtain ⟨ck, hck⟩ : ∃ ck, ck = s.ck := ⟨_, rfl⟩
  rw [← hal, ← hlen, ← hck] at H41 HW1 HFW HeS ⊢
  have HAL := Lib.hid hal
  have HLEN := Lib.hid hlen
  have HCK := Lib.hid hck
  clear hw1 hb1 hfb hbm hal hlen hck
  have k0 := H41.out.c0; have k1 := H41.out.c1; have k2 := H41.out.c2; have k3 := H41.out.c3
  go_enter Try.func10, Try.ntmps10
  go_upto_region 1 with fail
  rw [← HW1.out]
  cases fb with
  | false =>
    go_wp2_with (first
      | (go_at_call 16; (with_reducible refine HFW.out.mono ?_); rintro e w2 ⟨rfl, HBf⟩; have H42 := Lib.hid (H41.out.below HBf.out); have HV2 := Lib.hid (HV1.out.below HBf.out); have HB2 := Lib.hid (HB1.out.trans (HBf.out.mono HB1.out.size)); have a20 := H42.out.c0; have a21 := H42.out.c1; have a22 := H42.out.c2; have a23 := H42.out.c3)
      | fail)
    refine (HAW.out _).mono ?_
    rintro e wz ⟨rfl, HBz⟩
    go_wp2_with fail
    go_ret
    exact ⟨rfl, (HB2.out).trans (HBz.out.mono (HB2.out).size)⟩
  | true =>
  by_cases p1 : t.size > 100
  · have p2 : (t.size : Int) > 100 := by omega
    go_wp2_with (first
      | (go_at_call 16; (with_reducible refine HFW.out.mono ?_); rintro e w2 ⟨rfl, HBf⟩; have H42 := Lib.hid (H41.out.below HBf.out); have HV2 := Lib.hid (HV1.out.below HBf.out); have HB2 := Lib.hid (HB1.out.trans (HBf.out.mono HB1.out.size)); have a20 := H42.out.c0; have a21 := H42.out.c1; have a22 := H42.out.c2; have a23 := H42.out.c3)
      | fail)
    refine (HAW.out _).mono ?_
    rintro e wz ⟨rfl, HBz⟩
    go_wp2_with fail
    go_ret
    exact ⟨rfl, (HB2.out).trans (HBz.out.mono (HB2.out).size)⟩
  have p2 : ¬ (t.size : Int) > 100 := by omega
  by_cases hVM : ValidS s ∧ IsMask s t
  case neg =>
    have HMA : Hid (∀ (W : World), IsSs W (.slice bo bm bc) s.bl → Calls Try.prog 27 #[.agg #[.string al, .int .i64 len, .slice bo bm bc, .bool ck], .string t] W fun e w' => ∃ E : Int, e = .returned (.tuple #[.int .i64 0, .int .i64 E]) ∧ (E != 0) = true ∧ Hid (Below W.heap.size W w')) := fun W h => by rw [← HeS.out]; exact Matches_no h hVM
    clear hVM
    go_wp2_with (first
      | (go_at_call 16; (with_reducible refine HFW.out.mono ?_); rintro e w2 ⟨rfl, HBf⟩; have H42 := Lib.hid (H41.out.below HBf.out); have HV2 := Lib.hid (HV1.out.below HBf.out); have HB2 := Lib.hid (HB1.out.trans (HBf.out.mono HB1.out.size)); have a20 := H42.out.c0; have a21 := H42.out.c1; have a22 := H42.out.c2; have a23 := H42.out.c3)
      | (go_at_call 27; (with_reducible refine (HMA.out _ HV2.out).mono ?_); rintro e wa ⟨E, rfl, hE, HBq⟩; have H4A := Lib.hid (H42.out.below HBq.out); have HVA := Lib.hid (HV2.out.below HBq.out); have HBA := Lib.hid (HB2.out.trans (HBq.out.mono HB2.out.size)); have aA0 := H4A.out.c0; have aA1 := H4A.out.c1; have aA2 := H4A.out.c2; have aA3 := H4A.out.c3)
      | fail)
    refine (HAW.out _).mono ?_
    rintro e wz ⟨rfl, HBz⟩
    go_wp2_with fail
    go_ret
    exact ⟨rfl, (HBA.out).trans (HBz.out.mono (HBA.out).size)⟩
  obtain ⟨hV, ht⟩ := hVM
  obtain ⟨N, hN⟩ : ∃ N, N = (wordsM s t).length := ⟨_, rfl⟩
  have HMA : Hid (∀ (W : World), IsSs W (.slice bo bm bc) s.bl → Calls Try.prog 27 #[.agg #[.string al, .int .i64 len, .slice bo bm bc, .bool ck], .string t] W fun e w' => e = .returned (.tuple #[.int .i64 (N : Int), .int .i64 0]) ∧ Hid (Below W.heap.size W w')) := fun W h => by rw [← HeS.out, hN]; exact Matches_yes h hV ht
  by_cases hI : 0 ≤ I ∧ I < (t.size : Int)
  case neg =>
    clear hV ht hN
    by_cases q1 : I < 0
    · skip
      go_wp2_with (first
        | (go_at_call 16; (with_reducible refine HFW.out.mono ?_); rintro e w2 ⟨rfl, HBf⟩; have H42 := Lib.hid (H41.out.below HBf.out); have HV2 := Lib.hid (HV1.out.below HBf.out); have HB2 := Lib.hid (HB1.out.trans (HBf.out.mono HB1.out.size)); have a20 := H42.out.c0; have a21 := H42.out.c1; have a22 := H42.out.c2; have a23 := H42.out.c3)
        | (go_at_call 27; (with_reducible refine (HMA.out _ HV2.out).mono ?_); rintro e wa ⟨rfl, HBq⟩; have H4A := Lib.hid (H42.out.below HBq.out); have HVA := Lib.hid (HV2.out.below HBq.out); have HBA := Lib.hid (HB2.out.trans (HBq.out.mono HB2.out.size)); have aA0 := H4A.out.c0; have aA1 := H4A.out.c1; have aA2 := H4A.out.c2; have aA3 := H4A.out.c3)
        | fail)
      refine (HAW.out _).mono ?_
      rintro e wz ⟨rfl, HBz⟩
      go_wp2_with fail
      go_ret
      exact ⟨rfl, (HBA.out).trans (HBz.out.mono (HBA.out).size)⟩
    · have q2 : I ≥ (t.size : Int) := by omega
      go_wp2_with (first
        | (go_at_call 16; (with_reducible refine HFW.out.mono ?_); rintro e w2 ⟨rfl, HBf⟩; have H42 := Lib.hid (H41.out.below HBf.out); have HV2 := Lib.hid (HV1.out.below HBf.out); have HB2 := Lib.hid (HB1.out.trans (HBf.out.mono HB1.out.size)); have a20 := H42.out.c0; have a21 := H42.out.c1; have a22 := H42.out.c2; have a23 := H42.out.c3)
        | (go_at_call 27; (with_reducible refine (HMA.out _ HV2.out).mono ?_); rintro e wa ⟨rfl, HBq⟩; have H4A := Lib.hid (H42.out.below HBq.out); have HVA := Lib.hid (HV2.out.below HBq.out); have HBA := Lib.hid (HB2.out.trans (HBq.out.mono HB2.out.size)); have aA0 := H4A.out.c0; have aA1 := H4A.out.c1; have aA2 := H4A.out.c2; have aA3 := H4A.out.c3)
        | fail)
      refine (HAW.out _).mono ?_
      rintro e wz ⟨rfl, HBz⟩
      go_wp2_with fail
      go_ret
      exact ⟨rfl, (HBA.out).trans (HBz.out.mono (HBA.out).size)⟩
  obtain ⟨i, rfl⟩ : ∃ i : Nat, I = i := ⟨I.toNat, by omega⟩
  have hi : i < t.size := by omega
  have q1 : ¬ (i : Int) < 0 := by omega
  have q2 : ¬ (i : Int) ≥ (t.size : Int) := by omega
  have hix := fun W => index_str hi W
  by_cases h63 : t[i] = 63
  case neg =>
    obtain ⟨y, hy⟩ : ∃ y, y = t[i] := ⟨_, rfl⟩
    rw [← hy] at hix h63
    have hc : ((y.toNat : Int) != 63) = true := by
      rw [bne_iff_ne]
      intro e
      exact h63 (UInt8.toNat_inj.1 (by rw [show (63 : UInt8).toNat = 63 from rfl]; omega))
    clear hV ht hN hy
    go_wp2_with (first
      | (go_at_call 16; (with_reducible refine HFW.out.mono ?_); rintro e w2 ⟨rfl, HBf⟩; have H42 := Lib.hid (H41.out.below HBf.out); have HV2 := Lib.hid (HV1.out.below HBf.out); have HB2 := Lib.hid (HB1.out.trans (HBf.out.mono HB1.out.size)); have a20 := H42.out.c0; have a21 := H42.out.c1; have a22 := H42.out.c2; have a23 := H42.out.c3)
      | (go_at_call 27; (with_reducible refine (HMA.out _ HV2.out).mono ?_); rintro e wa ⟨rfl, HBq⟩; have H4A := Lib.hid (H42.out.below HBq.out); have HVA := Lib.hid (HV2.out.below HBq.out); have HBA := Lib.hid (HB2.out.trans (HBq.out.mono HB2.out.size)); have aA0 := H4A.out.c0; have aA1 := H4A.out.c1; have aA2 := H4A.out.c2; have aA3 := H4A.out.c3)
      | fail)
    refine (HAW.out _).mono ?_
    rintro e wz ⟨rfl, HBz⟩
    go_wp2_with fail
    go_ret
    exact ⟨rfl, (HBA.out).trans (HBz.out.mono (HBA.out).size)⟩
  have h630 := h63
  rw [h63] at hix
  have hc : (((63 : UInt8).toNat : Int) != 63) = false := by decide
  obtain ⟨P, F, hF, hP⟩ := Below_P hV M
  obtain ⟨T, hT⟩ : ∃ T, T = totS s := ⟨_, rfl⟩
  obtain ⟨B, hB⟩ : ∃ B, B = (wordsM s t).countP P := ⟨_, rfl⟩
  have hT40 : T ≤ 2 ^ 40 := by rw [hT]; exact hV.2.2
  have hNT : N ≤ T := by rw [hN, hT]; exact wordsM_len ht
  have HCO : Hid (∀ (W : World), IsSs W (.slice bo bm bc) s.bl → Calls Try.prog 21 #[.agg #[.string al, .int .i64 len, .slice bo bm bc, .bool ck]] W fun e w' => e = .returned (.tuple #[.int .i64 (T : Int), .int .i64 0]) ∧ Hid (Below W.heap.size W w')) := fun W h => by rw [← HeS.out, hT]; exact Count_yes h hV
  have hs1 : ∀ W, (Instr.slice 9 (.string t) none (some (.int .i64 (i : Int))) none).run Try.prog W = .ok (.string (t.extract 0 i)) W := fun W => slice_to (Nat.le_of_lt hi) W
  obtain ⟨i1, hi1⟩ : ∃ i1, i1 = i + 1 := ⟨_, rfl⟩
  have hs3 : ∀ W, (Instr.slice 9 (.string t) (some (.int .i64 (i1 : Int))) none none).run Try.prog W = .ok (.string (t.extract i1 t.size)) W := fun W => slice_from (by omega) W
  have hw1 : IntKind.i64.wrap ((i : Int) + 1) = (i1 : Int) := by rw [IntWalk.i64_in _ (by omega)]; omega
  have hal36 : al.size ≤ 36 := by rw [HAL.out]; exact hV.1.1.2.1
  rw [← hT] at hF
  have HVV := Lib.hid hV; have HTT := Lib.hid ht; have HNN := Lib.hid hN; have HII := Lib.hid hi; have H63 : Hid (∃ h : i < t.size, t[i]'h = 63) := ⟨hi, h630⟩; have HI1 := Lib.hid hi1
  have HPP : Hid (∀ (t : ByteArray), IsMask s t → ∀ {bv : Value} {w : World}, IsSs w bv s.bl → Calls Try.prog 29 #[schV s bv, .string t, .int .i64 M] w fun e w' => e = .returned (.tuple #[.int .i64 (((wordsM s t).countP P : Nat) : Int), .int .i64 F]) ∧ Hid (Below w.heap.size w w')) := Lib.hid hP
  have HBQ := Lib.hid hB; have HT40 := Lib.hid hT40; have HNT := Lib.hid hNT; have HAL36 := Lib.hid hal36; have HSZ := Lib.hid (Nat.not_lt.1 p1)
  have HBE : Hid (∀ (W : World), IsSs W (.slice bo bm bc) s.bl → Calls Try.prog 29 #[.agg #[.string al, .int .i64 len, .slice bo bm bc, .bool ck], .string t, .int .i64 M] W fun e w' => e = .returned (.tuple #[.int .i64 (B : Int), .int .i64 F]) ∧ Hid (Below W.heap.size W w')) := fun W h => by rw [← HeS.out, hB]; exact hP t ht h
  clear hP hV ht hN hi h63 h630 hT40 hNT hB hT hi1 hI hal36
  by_cases c1 : M ≥ 0
  · by_cases c2 : M ≤ (T : Int)
    · obtain rfl : F = 0 := by rw [hF, if_pos ⟨c1, c2⟩]
      clear hF
      go_wp2_with (first
        | (go_at_call 16; (with_reducible refine HFW.out.mono ?_); rintro e w2 ⟨rfl, HBf⟩; have H42 := Lib.hid (H41.out.below HBf.out); have HV2 := Lib.hid (HV1.out.below HBf.out); have HB2 := Lib.hid (HB1.out.trans (HBf.out.mono HB1.out.size)); have a20 := H42.out.c0; have a21 := H42.out.c1; have a22 := H42.out.c2; have a23 := H42.out.c3)
        | (go_at_call 27; (with_reducible refine (HMA.out _ HV2.out).mono ?_); rintro e wa ⟨rfl, HBq⟩; have H4A := Lib.hid (H42.out.below HBq.out); have HVA := Lib.hid (HV2.out.below HBq.out); have HBA := Lib.hid (HB2.out.trans (HBq.out.mono HB2.out.size)); have aA0 := H4A.out.c0; have aA1 := H4A.out.c1; have aA2 := H4A.out.c2; have aA3 := H4A.out.c3)
        | (go_at_call 21; (with_reducible refine (HCO.out _ HVA.out).mono ?_); rintro e wb ⟨rfl, HBq⟩; have H4B := Lib.hid (H4A.out.below HBq.out); have HVB := Lib.hid (HVA.out.below HBq.out); have HBB := Lib.hid (HBA.out.trans (HBq.out.mono HBA.out.size)); have aB0 := H4B.out.c0; have aB1 := H4B.out.c1; have aB2 := H4B.out.c2; have aB3 := H4B.out.c3)
        | (go_at_call 29; (with_reducible refine (HBE.out _ HVB.out).mono ?_); rintro e wc ⟨rfl, HBq⟩; have H4C := Lib.hid (H4B.out.below HBq.out); have HVC := Lib.hid (HVB.out.below HBq.out); have HBC := Lib.hid (HBB.out.trans (HBq.out.mono HBB.out.size)); have aC0 := H4C.out.c0; have aC1 := H4C.out.c1; have aC2 := H4C.out.c2; have aC3 := H4C.out.c3)
        | fail)
      go_loopw [15, 16, 17] (fun sA sB sC wr => ∃ c a b : Nat, c ≤ al.size ∧ sA = .int .i64 a ∧ sB = .int .i64 b ∧ sC = .int .i64 c ∧ Hid (a = sumP s t (fun _ => true) i c) ∧ Hid (b = sumP s t P i c) ∧ Hid (B4 w.heap.size (.string al) (.int .i64 len) (.slice bo bm bc) (.bool ck) wr) ∧ Hid (IsSs wr (.slice bo bm bc) s.bl) ∧ Hid (Below w.heap.size w wr)) (fun _ _ sC _ => al.size - (intOf sC).toNat)
      case atStart => exact ⟨0, 0, 0, Nat.zero_le _, rfl, rfl, rfl, (sumP_zero _ _ _ _).symm, (sumP_zero _ _ _ _).symm, H4C, HVC, HBC⟩
      case round =>
        obtain ⟨c, a, b, hcl, rfl, rfl, rfl, HA, HB, H4R, HVR, HBR⟩ := hrel
        have c0 := H4R.out.c0; have c1 := H4R.out.c1; have c2 := H4R.out.c2; have c3 := H4R.out.c3
        by_cases q : c < al.size
        · have q0 : (c : Int) < (al.size : Int) := by omega
          have hcs : c < s.al.size := by rw [← HAL.out]; exact q
          obtain ⟨cc, hcc⟩ : ∃ cc, cc = c + 1 := ⟨_, rfl⟩
          have hw : IntKind.i64.wrap ((c : Int) + 1) = (cc : Int) := by have := HAL36.out; rw [IntWalk.i64_in _ (by omega)]; omega
          have hs2 : ∀ W, (Instr.slice 9 (.string al) (some (.int .i64 (c : Int))) (some (.int .i64 (cc : Int))) none).run Try.prog W = .ok (.string (al.extract c cc)) W := fun W => slice_in (by omega) (by omega) W
          obtain ⟨p, hp⟩ : ∃ p, p = t.extract 0 i ++ al.extract c cc ++ t.extract i1 t.size := ⟨_, rfl⟩
          have hpT : p = partT t s.al i c := by rw [hp, hcc, HAL.out, HI1.out]; rfl
          have hpm : IsMask s p := by rw [hpT]; exact part_mask HVV.out HTT.out HII.out hcs
          have hl1 : (t.extract 0 i).size ≤ 100 := by rw [ByteArray.size_extract]; have := HSZ.out; omega
          have hl2 : (al.extract c cc).size ≤ 36 := by rw [ByteArray.size_extract]; have := HAL36.out; omega
          have hl3 : (t.extract i1 t.size).size ≤ 100 := by rw [ByteArray.size_extract]; have := HSZ.out; omega
          have ha1 : ∀ W : World, (Op.stringOp .add (t.extract 0 i) (al.extract c cc)).run Try.prog W = .ok (.string (t.extract 0 i ++ al.extract c cc)) W := fun W => run_string_add_sum W _ _ (by omega)
          have ha2 : ∀ W : World, (Op.stringOp .add (t.extract 0 i ++ al.extract c cc) (t.extract i1 t.size)).run Try.prog W = .ok (.string p) W := fun W => by rw [run_string_add_sum W _ _ (by rw [ByteArray.size_append]; omega), hp]
          obtain ⟨k, hk⟩ : ∃ k, k = (wordsM s p).length := ⟨_, rfl⟩
          obtain ⟨j, hj⟩ : ∃ j, j = (wordsM s p).countP P := ⟨_, rfl⟩
          have hsA := sumP_succ (fun _ => true) HVV.out HTT.out HII.out H63.out.2 hcs
          have hsB := sumP_succ P HVV.out HTT.out HII.out H63.out.2 hcs
          have hlA := sumP_le s t (fun _ => true) i (c + 1)
          have hlB := sumP_le s t P i (c + 1)
          rw [← hpT, ← HA.out, List.countP_true, ← hk] at hsA
          rw [← hpT, ← HB.out, ← hj] at hsB
          rw [← HNN.out] at hlA hlB
          obtain ⟨a1, hea1⟩ : ∃ a1, a1 = sumP s t (fun _ => true) i (c + 1) := ⟨_, rfl⟩
          obtain ⟨b1, heb1⟩ : ∃ b1, b1 = sumP s t P i (c + 1) := ⟨_, rfl⟩
          rw [← hea1] at hsA hlA
          rw [← heb1] at hsB hlB
          have hwa : IntKind.i64.wrap ((a : Int) + (k : Int)) = (a1 : Int) := by have := HNT.out; have := HT40.out; rw [IntWalk.i64_in _ (by omega)]; omega
          have hwb : IntKind.i64.wrap ((b : Int) + (j : Int)) = (b1 : Int) := by have := HNT.out; have := HT40.out; rw [IntWalk.i64_in _ (by omega)]; omega
          rw [← hcc] at hea1 heb1
          have HEA := Lib.hid hea1
          have HEB := Lib.hid heb1
          have HMP : Hid (∀ (W : World), IsSs W (.slice bo bm bc) s.bl → Calls Try.prog 27 #[.agg #[.string al, .int .i64 len, .slice bo bm bc, .bool ck], .string p] W fun e w' => e = .returned (.tuple #[.int .i64 (k : Int), .int .i64 0]) ∧ Hid (Below W.heap.size W w')) := fun W h => by rw [← HeS.out, hk]; exact Matches_yes h HVV.out hpm
          have HBP : Hid (∀ (W : World), IsSs W (.slice bo bm bc) s.bl → Calls Try.prog 29 #[.agg #[.string al, .int .i64 len, .slice bo bm bc, .bool ck], .string p, .int .i64 M] W fun e w' => e = .returned (.tuple #[.int .i64 (j : Int), .int .i64 0]) ∧ Hid (Below W.heap.size W w')) := fun W h => by rw [← HeS.out, hj]; exact HPP.out p hpm h
          have hm1 : al.size - cc < al.size - c := by omega
          have hcl1 : cc ≤ al.size := by omega
          clear hcs hcc hp hpT hpm hl1 hl2 hl3 hk hj hsA hsB hlA hlB hea1 heb1
          go_upto_region 14 with fail
          go_quiet (fail)
          rename_i nq
          have H4S := Lib.hid (H4R.out.below (below_dr wr nq))
          have HVS := Lib.hid (HVR.out.below (below_dr wr nq))
          have HBS := Lib.hid (HBR.out.trans ((below_dr wr nq).mono HBR.out.size))
          clear c0 c1 c2 c3
          generalize World.drewN wr nq = ws at *
          have c0 := H4S.out.c0; have c1 := H4S.out.c1; have c2 := H4S.out.c2; have c3 := H4S.out.c3
          go_wp2_with (first
            | (go_at_call 27; (with_reducible refine (HMP.out _ HVS.out).mono ?_); rintro e wd ⟨rfl, HBq⟩; have H4D := Lib.hid (H4S.out.below HBq.out); have HVD := Lib.hid (HVS.out.below HBq.out); have HBD := Lib.hid (HBS.out.trans (HBq.out.mono HBS.out.size)); have aD0 := H4D.out.c0; have aD1 := H4D.out.c1; have aD2 := H4D.out.c2; have aD3 := H4D.out.c3)
            | (go_at_call 29; (with_reducible refine (HBP.out _ HVD.out).mono ?_); rintro e we ⟨rfl, HBq⟩; have H4E := Lib.hid (H4D.out.below HBq.out); have HVE := Lib.hid (HVD.out.below HBq.out); have HBE := Lib.hid (HBD.out.trans (HBq.out.mono HBD.out.size)); have aE0 := H4E.out.c0; have aE1 := H4E.out.c1; have aE2 := H4E.out.c2; have aE3 := H4E.out.c3)
            | fail)
          go_roundw
          case rel => exact ⟨cc, a1, b1, hcl1, by go_num, by go_num, by go_num, HEA, HEB, H4E, HVE, HBE⟩
          case measure => simp [intOf]; omega
        · obtain rfl : c = al.size := by omega
          have q0 : ¬ (al.size : Int) < (al.size : Int) := by omega
          obtain rfl : a = N := by
            rw [HA.out, HNN.out, HAL.out, sumP_all _ HVV.out HTT.out HII.out, List.countP_true]
          obtain rfl : b = B := by
            rw [HB.out, HBQ.out, HAL.out, sumP_all _ HVV.out HTT.out HII.out]
          go_wp2_with fail
          refine (HAW.out _).mono ?_
          rintro e wz ⟨rfl, HBz⟩
          go_wp2_with fail
          go_ret
          exact ⟨rfl, (HBR.out).trans (HBz.out.mono (HBR.out).size)⟩
    · obtain rfl : F = 3 := by rw [hF, if_neg (fun h => c2 h.2)]
      clear hF
      go_wp2_with (first
        | (go_at_call 16; (with_reducible refine HFW.out.mono ?_); rintro e w2 ⟨rfl, HBf⟩; have H42 := Lib.hid (H41.out.below HBf.out); have HV2 := Lib.hid (HV1.out.below HBf.out); have HB2 := Lib.hid (HB1.out.trans (HBf.out.mono HB1.out.size)); have a20 := H42.out.c0; have a21 := H42.out.c1; have a22 := H42.out.c2; have a23 := H42.out.c3)
        | (go_at_call 27; (with_reducible refine (HMA.out _ HV2.out).mono ?_); rintro e wa ⟨rfl, HBq⟩; have H4A := Lib.hid (H42.out.below HBq.out); have HVA := Lib.hid (HV2.out.below HBq.out); have HBA := Lib.hid (HB2.out.trans (HBq.out.mono HB2.out.size)); have aA0 := H4A.out.c0; have aA1 := H4A.out.c1; have aA2 := H4A.out.c2; have aA3 := H4A.out.c3)
        | (go_at_call 21; (with_reducible refine (HCO.out _ HVA.out).mono ?_); rintro e wb ⟨rfl, HBq⟩; have H4B := Lib.hid (H4A.out.below HBq.out); have HVB := Lib.hid (HVA.out.below HBq.out); have HBB := Lib.hid (HBA.out.trans (HBq.out.mono HBA.out.size)); have aB0 := H4B.out.c0; have aB1 := H4B.out.c1; have aB2 := H4B.out.c2; have aB3 := H4B.out.c3)
        | (go_at_call 29; (with_reducible refine (HBE.out _ HVB.out).mono ?_); rintro e wc ⟨rfl, HBq⟩; have H4C := Lib.hid (H4B.out.below HBq.out); have HVC := Lib.hid (HVB.out.below HBq.out); have HBC := Lib.hid (HBB.out.trans (HBq.out.mono HBB.out.size)); have aC0 := H4C.out.c0; have aC1 := H4C.out.c1; have aC2 := H4C.out.c2; have aC3 := H4C.out.c3)
        | fail)
      go_loopw [15, 16, 17] (fun sA sB sC wr => ∃ c a b : Nat, c ≤ al.size ∧ sA = .int .i64 a ∧ sB = .int .i64 b ∧ sC = .int .i64 c ∧ Hid (a = sumP s t (fun _ => true) i c) ∧ Hid (b = sumP s t P i c) ∧ Hid (B4 w.heap.size (.string al) (.int .i64 len) (.slice bo bm bc) (.bool ck) wr) ∧ Hid (IsSs wr (.slice bo bm bc) s.bl) ∧ Hid (Below w.heap.size w wr)) (fun _ _ sC _ => al.size - (intOf sC).toNat)
      case atStart => exact ⟨0, 0, 0, Nat.zero_le _, rfl, rfl, rfl, (sumP_zero _ _ _ _).symm, (sumP_zero _ _ _ _).symm, H4C, HVC, HBC⟩
      case round =>
        obtain ⟨c, a, b, hcl, rfl, rfl, rfl, HA, HB, H4R, HVR, HBR⟩ := hrel
        have c0 := H4R.out.c0; have c1 := H4R.out.c1; have c2 := H4R.out.c2; have c3 := H4R.out.c3
        by_cases q : c < al.size
        · have q0 : (c : Int) < (al.size : Int) := by omega
          have hcs : c < s.al.size := by rw [← HAL.out]; exact q
          obtain ⟨cc, hcc⟩ : ∃ cc, cc = c + 1 := ⟨_, rfl⟩
          have hw : IntKind.i64.wrap ((c : Int) + 1) = (cc : Int) := by have := HAL36.out; rw [IntWalk.i64_in _ (by omega)]; omega
          have hs2 : ∀ W, (Instr.slice 9 (.string al) (some (.int .i64 (c : Int))) (some (.int .i64 (cc : Int))) none).run Try.prog W = .ok (.string (al.extract c cc)) W := fun W => slice_in (by omega) (by omega) W
          obtain ⟨p, hp⟩ : ∃ p, p = t.extract 0 i ++ al.extract c cc ++ t.extract i1 t.size := ⟨_, rfl⟩
          have hpT : p = partT t s.al i c := by rw [hp, hcc, HAL.out, HI1.out]; rfl
          have hpm : IsMask s p := by rw [hpT]; exact part_mask HVV.out HTT.out HII.out hcs
          have hl1 : (t.extract 0 i).size ≤ 100 := by rw [ByteArray.size_extract]; have := HSZ.out; omega
          have hl2 : (al.extract c cc).size ≤ 36 := by rw [ByteArray.size_extract]; have := HAL36.out; omega
          have hl3 : (t.extract i1 t.size).size ≤ 100 := by rw [ByteArray.size_extract]; have := HSZ.out; omega
          have ha1 : ∀ W : World, (Op.stringOp .add (t.extract 0 i) (al.extract c cc)).run Try.prog W = .ok (.string (t.extract 0 i ++ al.extract c cc)) W := fun W => run_string_add_sum W _ _ (by omega)
          have ha2 : ∀ W : World, (Op.stringOp .add (t.extract 0 i ++ al.extract c cc) (t.extract i1 t.size)).run Try.prog W = .ok (.string p) W := fun W => by rw [run_string_add_sum W _ _ (by rw [ByteArray.size_append]; omega), hp]
          obtain ⟨k, hk⟩ : ∃ k, k = (wordsM s p).length := ⟨_, rfl⟩
          obtain ⟨j, hj⟩ : ∃ j, j = (wordsM s p).countP P := ⟨_, rfl⟩
          have hsA := sumP_succ (fun _ => true) HVV.out HTT.out HII.out H63.out.2 hcs
          have hsB := sumP_succ P HVV.out HTT.out HII.out H63.out.2 hcs
          have hlA := sumP_le s t (fun _ => true) i (c + 1)
          have hlB := sumP_le s t P i (c + 1)
          rw [← hpT, ← HA.out, List.countP_true, ← hk] at hsA
          rw [← hpT, ← HB.out, ← hj] at hsB
          rw [← HNN.out] at hlA hlB
          obtain ⟨a1, hea1⟩ : ∃ a1, a1 = sumP s t (fun _ => true) i (c + 1) := ⟨_, rfl⟩
          obtain ⟨b1, heb1⟩ : ∃ b1, b1 = sumP s t P i (c + 1) := ⟨_, rfl⟩
          rw [← hea1] at hsA hlA
          rw [← heb1] at hsB hlB
          have hwa : IntKind.i64.wrap ((a : Int) + (k : Int)) = (a1 : Int) := by have := HNT.out; have := HT40.out; rw [IntWalk.i64_in _ (by omega)]; omega
          have hwb : IntKind.i64.wrap ((b : Int) + (j : Int)) = (b1 : Int) := by have := HNT.out; have := HT40.out; rw [IntWalk.i64_in _ (by omega)]; omega
          rw [← hcc] at hea1 heb1
          have HEA := Lib.hid hea1
          have HEB := Lib.hid heb1
          have HMP : Hid (∀ (W : World), IsSs W (.slice bo bm bc) s.bl → Calls Try.prog 27 #[.agg #[.string al, .int .i64 len, .slice bo bm bc, .bool ck], .string p] W fun e w' => e = .returned (.tuple #[.int .i64 (k : Int), .int .i64 0]) ∧ Hid (Below W.heap.size W w')) := fun W h => by rw [← HeS.out, hk]; exact Matches_yes h HVV.out hpm
          have HBP : Hid (∀ (W : World), IsSs W (.slice bo bm bc) s.bl → Calls Try.prog 29 #[.agg #[.string al, .int .i64 len, .slice bo bm bc, .bool ck], .string p, .int .i64 M] W fun e w' => e = .returned (.tuple #[.int .i64 (j : Int), .int .i64 3]) ∧ Hid (Below W.heap.size W w')) := fun W h => by rw [← HeS.out, hj]; exact HPP.out p hpm h
          have hm1 : al.size - cc < al.size - c := by omega
          have hcl1 : cc ≤ al.size := by omega
          clear hcs hcc hp hpT hpm hl1 hl2 hl3 hk hj hsA hsB hlA hlB hea1 heb1
          go_upto_region 14 with fail
          go_quiet (fail)
          rename_i nq
          have H4S := Lib.hid (H4R.out.below (below_dr wr nq))
          have HVS := Lib.hid (HVR.out.below (below_dr wr nq))
          have HBS := Lib.hid (HBR.out.trans ((below_dr wr nq).mono HBR.out.size))
          clear c0 c1 c2 c3
          generalize World.drewN wr nq = ws at *
          have c0 := H4S.out.c0; have c1 := H4S.out.c1; have c2 := H4S.out.c2; have c3 := H4S.out.c3
          go_wp2_with (first
            | (go_at_call 27; (with_reducible refine (HMP.out _ HVS.out).mono ?_); rintro e wd ⟨rfl, HBq⟩; have H4D := Lib.hid (H4S.out.below HBq.out); have HVD := Lib.hid (HVS.out.below HBq.out); have HBD := Lib.hid (HBS.out.trans (HBq.out.mono HBS.out.size)); have aD0 := H4D.out.c0; have aD1 := H4D.out.c1; have aD2 := H4D.out.c2; have aD3 := H4D.out.c3)
            | (go_at_call 29; (with_reducible refine (HBP.out _ HVD.out).mono ?_); rintro e we ⟨rfl, HBq⟩; have H4E := Lib.hid (H4D.out.below HBq.out); have HVE := Lib.hid (HVD.out.below HBq.out); have HBE := Lib.hid (HBD.out.trans (HBq.out.mono HBD.out.size)); have aE0 := H4E.out.c0; have aE1 := H4E.out.c1; have aE2 := H4E.out.c2; have aE3 := H4E.out.c3)
            | fail)
          go_roundw
          case rel => exact ⟨cc, a1, b1, hcl1, by go_num, by go_num, by go_num, HEA, HEB, H4E, HVE, HBE⟩
          case measure => simp [intOf]; omega
        · obtain rfl : c = al.size := by omega
          have q0 : ¬ (al.size : Int) < (al.size : Int) := by omega
          obtain rfl : a = N := by
            rw [HA.out, HNN.out, HAL.out, sumP_all _ HVV.out HTT.out HII.out, List.countP_true]
          obtain rfl : b = B := by
            rw [HB.out, HBQ.out, HAL.out, sumP_all _ HVV.out HTT.out HII.out]
          go_wp2_with fail
          refine (HAW.out _).mono ?_
          rintro e wz ⟨rfl, HBz⟩
          go_wp2_with fail
          go_ret
          exact ⟨rfl, (HBR.out).trans (HBz.out.mono (HBR.out).size)⟩
  · obtain rfl : F = 3 := by rw [hF, if_neg (fun h => c1 h.1)]
    clear hF
    go_wp2_with (first
      | (go_at_call 16; (with_reducible refine HFW.out.mono ?_); rintro e w2 ⟨rfl, HBf⟩; have H42 := Lib.hid (H41.out.below HBf.out); have HV2 := Lib.hid (HV1.out.below HBf.out); have HB2 := Lib.hid (HB1.out.trans (HBf.out.mono HB1.out.size)); have a20 := H42.out.c0; have a21 := H42.out.c1; have a22 := H42.out.c2; have a23 := H42.out.c3)
      | (go_at_call 27; (with_reducible refine (HMA.out _ HV2.out).mono ?_); rintro e wa ⟨rfl, HBq⟩; have H4A := Lib.hid (H42.out.below HBq.out); have HVA := Lib.hid (HV2.out.below HBq.out); have HBA := Lib.hid (HB2.out.trans (HBq.out.mono HB2.out.size)); have aA0 := H4A.out.c0; have aA1 := H4A.out.c1; have aA2 := H4A.out.c2; have aA3 := H4A.out.c3)
      | (go_at_call 21; (with_reducible refine (HCO.out _ HVA.out).mono ?_); rintro e wb ⟨rfl, HBq⟩; have H4B := Lib.hid (H4A.out.below HBq.out); have HVB := Lib.hid (HVA.out.below HBq.out); have HBB := Lib.hid (HBA.out.trans (HBq.out.mono HBA.out.size)); have aB0 := H4B.out.c0; have aB1 := H4B.out.c1; have aB2 := H4B.out.c2; have aB3 := H4B.out.c3)
      | (go_at_call 29; (with_reducible refine (HBE.out _ HVB.out).mono ?_); rintro e wc ⟨rfl, HBq⟩; have H4C := Lib.hid (H4B.out.below HBq.out); have HVC := Lib.hid (HVB.out.below HBq.out); have HBC := Lib.hid (HBB.out.trans (HBq.out.mono HBB.out.size)); have aC0 := H4C.out.c0; have aC1 := H4C.out.c1; have aC2 := H4C.out.c2; have aC3 := H4C.out.c3)
      | fail)
    go_loopw [15, 16, 17] (fun sA sB sC wr => ∃ c a b : Nat, c ≤ al.size ∧ sA = .int .i64 a ∧ sB = .int .i64 b ∧ sC = .int .i64 c ∧ Hid (a = sumP s t (fun _ => true) i c) ∧ Hid (b = sumP s t P i c) ∧ Hid (B4 w.heap.size (.string al) (.int .i64 len) (.slice bo bm bc) (.bool ck) wr) ∧ Hid (IsSs wr (.slice bo bm bc) s.bl) ∧ Hid (Below w.heap.size w wr)) (fun _ _ sC _ => al.size - (intOf sC).toNat)
    case atStart => exact ⟨0, 0, 0, Nat.zero_le _, rfl, rfl, rfl, (sumP_zero _ _ _ _).symm, (sumP_zero _ _ _ _).symm, H4C, HVC, HBC⟩
    case round =>
      obtain ⟨c, a, b, hcl, rfl, rfl, rfl, HA, HB, H4R, HVR, HBR⟩ := hrel
      have c0 := H4R.out.c0; have c1 := H4R.out.c1; have c2 := H4R.out.c2; have c3 := H4R.out.c3
      by_cases q : c < al.size
      · have q0 : (c : Int) < (al.size : Int) := by omega
        have hcs : c < s.al.size := by rw [← HAL.out]; exact q
        obtain ⟨cc, hcc⟩ : ∃ cc, cc = c + 1 := ⟨_, rfl⟩
        have hw : IntKind.i64.wrap ((c : Int) + 1) = (cc : Int) := by have := HAL36.out; rw [IntWalk.i64_in _ (by omega)]; omega
        have hs2 : ∀ W, (Instr.slice 9 (.string al) (some (.int .i64 (c : Int))) (some (.int .i64 (cc : Int))) none).run Try.prog W = .ok (.string (al.extract c cc)) W := fun W => slice_in (by omega) (by omega) W
        obtain ⟨p, hp⟩ : ∃ p, p = t.extract 0 i ++ al.extract c cc ++ t.extract i1 t.size := ⟨_, rfl⟩
        have hpT : p = partT t s.al i c := by rw [hp, hcc, HAL.out, HI1.out]; rfl
        have hpm : IsMask s p := by rw [hpT]; exact part_mask HVV.out HTT.out HII.out hcs
        have hl1 : (t.extract 0 i).size ≤ 100 := by rw [ByteArray.size_extract]; have := HSZ.out; omega
        have hl2 : (al.extract c cc).size ≤ 36 := by rw [ByteArray.size_extract]; have := HAL36.out; omega
        have hl3 : (t.extract i1 t.size).size ≤ 100 := by rw [ByteArray.size_extract]; have := HSZ.out; omega
        have ha1 : ∀ W : World, (Op.stringOp .add (t.extract 0 i) (al.extract c cc)).run Try.prog W = .ok (.string (t.extract 0 i ++ al.extract c cc)) W := fun W => run_string_add_sum W _ _ (by omega)
        have ha2 : ∀ W : World, (Op.stringOp .add (t.extract 0 i ++ al.extract c cc) (t.extract i1 t.size)).run Try.prog W = .ok (.string p) W := fun W => by rw [run_string_add_sum W _ _ (by rw [ByteArray.size_append]; omega), hp]
        obtain ⟨k, hk⟩ : ∃ k, k = (wordsM s p).length := ⟨_, rfl⟩
        obtain ⟨j, hj⟩ : ∃ j, j = (wordsM s p).countP P := ⟨_, rfl⟩
        have hsA := sumP_succ (fun _ => true) HVV.out HTT.out HII.out H63.out.2 hcs
        have hsB := sumP_succ P HVV.out HTT.out HII.out H63.out.2 hcs
        have hlA := sumP_le s t (fun _ => true) i (c + 1)
        have hlB := sumP_le s t P i (c + 1)
        rw [← hpT, ← HA.out, List.countP_true, ← hk] at hsA
        rw [← hpT, ← HB.out, ← hj] at hsB
        rw [← HNN.out] at hlA hlB
        obtain ⟨a1, hea1⟩ : ∃ a1, a1 = sumP s t (fun _ => true) i (c + 1) := ⟨_, rfl⟩
        obtain ⟨b1, heb1⟩ : ∃ b1, b1 = sumP s t P i (c + 1) := ⟨_, rfl⟩
        rw [← hea1] at hsA hlA
        rw [← heb1] at hsB hlB
        have hwa : IntKind.i64.wrap ((a : Int) + (k : Int)) = (a1 : Int) := by have := HNT.out; have := HT40.out; rw [IntWalk.i64_in _ (by omega)]; omega
        have hwb : IntKind.i64.wrap ((b : Int) + (j : Int)) = (b1 : Int) := by have := HNT.out; have := HT40.out; rw [IntWalk.i64_in _ (by omega)]; omega
        rw [← hcc] at hea1 heb1
        have HEA := Lib.hid hea1
        have HEB := Lib.hid heb1
        have HMP : Hid (∀ (W : World), IsSs W (.slice bo bm bc) s.bl → Calls Try.prog 27 #[.agg #[.string al, .int .i64 len, .slice bo bm bc, .bool ck], .string p] W fun e w' => e = .returned (.tuple #[.int .i64 (k : Int), .int .i64 0]) ∧ Hid (Below W.heap.size W w')) := fun W h => by rw [← HeS.out, hk]; exact Matches_yes h HVV.out hpm
        have HBP : Hid (∀ (W : World), IsSs W (.slice bo bm bc) s.bl → Calls Try.prog 29 #[.agg #[.string al, .int .i64 len, .slice bo bm bc, .bool ck], .string p, .int .i64 M] W fun e w' => e = .returned (.tuple #[.int .i64 (j : Int), .int .i64 3]) ∧ Hid (Below W.heap.size W w')) := fun W h => by rw [← HeS.out, hj]; exact HPP.out p hpm h
        have hm1 : al.size - cc < al.size - c := by omega
        have hcl1 : cc ≤ al.size := by omega
        clear hcs hcc hp hpT hpm hl1 hl2 hl3 hk hj hsA hsB hlA hlB hea1 heb1
        go_upto_region 14 with fail
        go_quiet (fail)
        rename_i nq
        have H4S := Lib.hid (H4R.out.below (below_dr wr nq))
        have HVS := Lib.hid (HVR.out.below (below_dr wr nq))
        have HBS := Lib.hid (HBR.out.trans ((below_dr wr nq).mono HBR.out.size))
        clear c0 c1 c2 c3
        generalize World.drewN wr nq = ws at *
        have c0 := H4S.out.c0; have c1 := H4S.out.c1; have c2 := H4S.out.c2; have c3 := H4S.out.c3
        go_wp2_with (first
          | (go_at_call 27; (with_reducible refine (HMP.out _ HVS.out).mono ?_); rintro e wd ⟨rfl, HBq⟩; have H4D := Lib.hid (H4S.out.below HBq.out); have HVD := Lib.hid (HVS.out.below HBq.out); have HBD := Lib.hid (HBS.out.trans (HBq.out.mono HBS.out.size)); have aD0 := H4D.out.c0; have aD1 := H4D.out.c1; have aD2 := H4D.out.c2; have aD3 := H4D.out.c3)
          | (go_at_call 29; (with_reducible refine (HBP.out _ HVD.out).mono ?_); rintro e we ⟨rfl, HBq⟩; have H4E := Lib.hid (H4D.out.below HBq.out); have HVE := Lib.hid (HVD.out.below HBq.out); have HBE := Lib.hid (HBD.out.trans (HBq.out.mono HBD.out.size)); have aE0 := H4E.out.c0; have aE1 := H4E.out.c1; have aE2 := H4E.out.c2; have aE3 := H4E.out.c3)
          | fail)
        go_roundw
        case rel => exact ⟨cc, a1, b1, hcl1, by go_num, by go_num, by go_num, HEA, HEB, H4E, HVE, HBE⟩
        case measure => simp [intOf]; omega
      · obtain rfl : c = al.size := by omega
        have q0 : ¬ (al.size : Int) < (al.size : Int) := by omega
        obtain rfl : a = N := by
          rw [HA.out, HNN.out, HAL.out, sumP_all _ HVV.out HTT.out HII.out, List.countP_true]
        obtain rfl : b = B := by
          rw [HB.out, HBQ.out, HAL.out, sumP_all _ HVV.out HTT.out HII.out]
        go_wp2_with fail
        refine (HAW.out _).mono ?_
        rintro e wz ⟨rfl, HBz⟩
        go_wp2_with fail
        go_ret
        exact ⟨rfl, (HBR.out).trans (HBz.out.mono (HBR.out).size)⟩
end Go.Proofs.Ytgblfobomiiofaa
