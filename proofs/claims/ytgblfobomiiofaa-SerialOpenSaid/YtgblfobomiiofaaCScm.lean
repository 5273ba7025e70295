/- SerialOpen: the walk. -/
import Derived.Test.YtgblfobomiiofaaCScl
namespace Go.Proofs.Ytgblfobomiiofaa
open Go Go.RowKit Go.Shelf Gw Go.Maps

set_option maxRecDepth 100000 in
set_option maxHeartbeats 4000000 in
theorem serialOpen_law {s : Sch} {bv : Value} {t : ByteArray} {w : World} (hv : IsSs w bv s.bl) (_hnil : NilOk bv) :
    Calls Try.prog 12 #[schV s bv, .string t] w fun e w' => e = .returned (.bool true) ∧ Hid (Below w.heap.size w w') := by
  have HAW := Lib.hid serawake_any
  obtain ⟨w1, hw1⟩ : ∃ w1, w1 = w.alloc (.cells #[.string s.al, .int .i64 s.len, bv, .bool s.ck] 24) := ⟨_, rfl⟩
  have hb1 : Below w.heap.size w w1 := by rw [hw1]; exact below_al _ _
  have H41 : Hid (B4 w.heap.size (.string s.al) (.int .i64 s.len) bv (.bool s.ck) w1) := by rw [hw1]; exact B4.new _ _ _ _ _ _
  have HFW := few_any (s := s) (hv.below hb1)
  have HV1 := Lib.hid (hv.below hb1)
  have HB1 := Lib.hid hb1
  have HW1 := Lib.hid hw1
  obtain ⟨fb, hfb⟩ : ∃ fb, fb = fewB s := ⟨_, rfl⟩
  unfold FewP at HFW
  rw [← hfb] at HFW
  have HeS : Hid (∀ v, schV s v = .agg #[.string s.al, .int .i64 s.len, v, .bool s.ck]) := fun v => rfl
  unfold schV at HFW ⊢
  obtain ⟨bo, bc, hbv, -⟩ := hv
  obtain ⟨bm, hbm⟩ : ∃ bm, bm = s.bl.length := ⟨_, rfl⟩
  rw [← hbm] at hbv
  subst hbv
  have HFW := Lib.hid HFW
  obtain ⟨al, hal⟩ : ∃ al, al = s.al := ⟨_, rfl⟩
  obtain ⟨len, hlen⟩ : ∃ len, len = s.len := ⟨_, rfl⟩
  obtain ⟨ck, hck⟩ : ∃ ck, ck = s.ck := ⟨_, rfl⟩
  rw [← hal, ← hlen, ← hck] at H41 HW1 HFW HeS ⊢
  have HAL := Lib.hid hal
  have HLEN := Lib.hid hlen
  have HCK := Lib.hid hck
  clear hw1 hb1 hfb hbm hal hlen hck
  have k0 := H41.out.c0; have k1 := H41.out.c1; have k2 := H41.out.c2; have k3 := H41.out.c3
  go_enter Try.func12, Try.ntmps12
  go_upto_region 1 with fail
  rw [← HW1.out]
  cases fb with
  | false =>
    go_wp2_with (first
      | (go_at_call 16; (with_reducible refine HFW.out.mono ?_); rintro e w2 ⟨rfl, HBf⟩; have H42 := Lib.hid (H41.out.below HBf.out); have HV2 := Lib.hid (HV1.out.below HBf.out); have HB2 := Lib.hid (HB1.out.trans (HBf.out.mono HB1.out.size)); have a20 := H42.out.c0; have a21 := H42.out.c1; have a22 := H42.out.c2; have a23 := H42.out.c3)
      | fail)
    refine (HAW.out _).mono ?_
    rintro e wz ⟨rfl, HBz⟩
    go_wp2_with fail
    go_ret
    exact ⟨rfl, (HB2.out).trans (HBz.out.mono (HB2.out).size)⟩
  | true =>
  by_cases p1 : t.size > 100
  · have p2 : (t.size : Int) > 100 := by omega
    go_wp2_with (first
      | (go_at_call 16; (with_reducible refine HFW.out.mono ?_); rintro e w2 ⟨rfl, HBf⟩; have H42 := Lib.hid (H41.out.below HBf.out); have HV2 := Lib.hid (HV1.out.below HBf.out); have HB2 := Lib.hid (HB1.out.trans (HBf.out.mono HB1.out.size)); have a20 := H42.out.c0; have a21 := H42.out.c1; have a22 := H42.out.c2; have a23 := H42.out.c3)
      | fail)
    refine (HAW.out _).mono ?_
    rintro e wz ⟨rfl, HBz⟩
    go_wp2_with fail
    go_ret
    exact ⟨rfl, (HB2.out).trans (HBz.out.mono (HB2.out).size)⟩
  have p2 : ¬ (t.size : Int) > 100 := by omega
  by_cases hV : ValidS s
  case neg =>
    have HCO : Hid (∀ (W : World), IsSs W (.slice bo bm bc) s.bl → Calls Try.prog 21 #[.agg #[.string al, .int .i64 len, .slice bo bm bc, .bool ck]] W fun e w' => ∃ E : Int, e = .returned (.tuple #[.int .i64 0, .int .i64 E]) ∧ (E != 0) = true ∧ Hid (Below W.heap.size W w')) := fun W h => by rw [← HeS.out]; exact Count_no h hV
    clear hV
    go_wp2_with (first
      | (go_at_call 16; (with_reducible refine HFW.out.mono ?_); rintro e w2 ⟨rfl, HBf⟩; have H42 := Lib.hid (H41.out.below HBf.out); have HV2 := Lib.hid (HV1.out.below HBf.out); have HB2 := Lib.hid (HB1.out.trans (HBf.out.mono HB1.out.size)); have a20 := H42.out.c0; have a21 := H42.out.c1; have a22 := H42.out.c2; have a23 := H42.out.c3; have HCO2 := Lib.hid (HCO.out _ HV2.out))
      | (go_at_call 21; (with_reducible refine HCO2.out.mono ?_); rintro e wa ⟨E, rfl, hE, HBa⟩; have HBA := Lib.hid (HB2.out.trans (HBa.out.mono HB2.out.size)))
      | fail)
    refine (HAW.out _).mono ?_
    rintro e wz ⟨rfl, HBz⟩
    go_wp2_with fail
    go_ret
    exact ⟨rfl, (HBA.out).trans (HBz.out.mono (HBA.out).size)⟩
  obtain ⟨T, hT⟩ : ∃ T, T = totS s := ⟨_, rfl⟩
  obtain ⟨Z, hZ⟩ : ∃ Z, Z = szN (nS s) s.ck := ⟨_, rfl⟩
  have hT40 : T ≤ 2 ^ 40 := by rw [hT]; exact hV.2.2
  have hn16 : nS s ≤ 16 := by have := hV.1.2.2.1; unfold nS; omega
  have hZ17 : Z ≤ 17 := by rw [hZ]; unfold szN; split <;> omega
  have hlen : s.len = (nS s : Int) := by have := hV.1.2.1; unfold nS; omega
  have hq := qs_words s
  have hqm := qs_is s
  rw [← hZ] at hq hqm
  have hTl : (wordsM s (qs Z)).length = T := by rw [hq, ← totS_words, hT]
  have HCO : Hid (∀ (W : World), IsSs W (.slice bo bm bc) s.bl → Calls Try.prog 21 #[.agg #[.string al, .int .i64 len, .slice bo bm bc, .bool ck]] W fun e w' => e = .returned (.tuple #[.int .i64 (T : Int), .int .i64 0]) ∧ Hid (Below W.heap.size W w')) := fun W h => by rw [← HeS.out, hT]; exact Count_yes h hV
  have HMO : Hid (∀ (W : World), IsSs W (.slice bo bm bc) s.bl → Calls Try.prog 27 #[.agg #[.string al, .int .i64 len, .slice bo bm bc, .bool ck], .string (qs Z)] W fun e w' => e = .returned (.tuple #[.int .i64 (T : Int), .int .i64 0]) ∧ Hid (Below W.heap.size W w')) := fun W h => by rw [← HeS.out, ← hTl]; exact Matches_yes h hV hqm
  have HBO : Hid (∀ (W : World), IsSs W (.slice bo bm bc) s.bl → Calls Try.prog 29 #[.agg #[.string al, .int .i64 len, .slice bo bm bc, .bool ck], .string (qs Z), .int .i64 (T : Int)] W fun e w' => e = .returned (.tuple #[.int .i64 (T : Int), .int .i64 0]) ∧ Hid (Below W.heap.size W w')) := fun W h => by have h3 := Below_all h hV hqm hT; rw [hTl] at h3; rw [← HeS.out]; exact h3
  have HLO : Hid (∀ (W : World) (v : Value), v = .slice bo bm bc → Calls Try.prog 40 #[.agg #[.string al, .int .i64 len, v, .bool ck]] W fun e w' => e = .returned (.int .i64 (Z : Int)) ∧ Hid (Below W.heap.size W w')) := fun W v _ => by rw [← HeS.out, hZ]; exact Long_any hlen hn16
  have HTT := Lib.hid hT40
  have HZZ := Lib.hid hZ17
  have HVV := Lib.hid hV
  have HTE := Lib.hid hT
  have HZE := Lib.hid hZ
  clear hV hT hZ hn16 hlen hq hqm hTl hT40 hZ17
  go_wp2_with (first
    | (go_at_call 16; (with_reducible refine HFW.out.mono ?_); rintro e w2 ⟨rfl, HBf⟩; have H42 := Lib.hid (H41.out.below HBf.out); have HV2 := Lib.hid (HV1.out.below HBf.out); have HB2 := Lib.hid (HB1.out.trans (HBf.out.mono HB1.out.size)); have a20 := H42.out.c0; have a21 := H42.out.c1; have a22 := H42.out.c2; have a23 := H42.out.c3)
    | (go_at_call 21; (with_reducible refine (HCO.out _ HV2.out).mono ?_); rintro e wa ⟨rfl, HBq⟩; have H4A := Lib.hid (H42.out.below HBq.out); have HVA := Lib.hid (HV2.out.below HBq.out); have HBA := Lib.hid (HB2.out.trans (HBq.out.mono HB2.out.size)); have aA0 := H4A.out.c0; have aA1 := H4A.out.c1; have aA2 := H4A.out.c2; have aA3 := H4A.out.c3)
    | fail)
  obtain ⟨wa0, hwa0⟩ : ∃ W, W = wa := ⟨_, rfl⟩
  go_loopw [7, 8] (fun s7 s8 wr => ∃ i : Nat, i ≤ Z ∧ s7 = .string (qs i) ∧ s8 = .int .i64 i ∧ Hid (B4 w.heap.size (.string al) (.int .i64 len) (.slice bo bm bc) (.bool ck) wr) ∧ Hid (IsSs wr (.slice bo bm bc) s.bl) ∧ Hid (Below w.heap.size w wr)) (fun _ s8 _ => Z - (intOf s8).toNat)
  case atStart => exact ⟨0, Nat.zero_le _, rfl, rfl, H4A, HVA, HBA⟩
  case round =>
    obtain ⟨i, hi, rfl, rfl, H4R, HVR, HBR⟩ := hrel
    have c0 := H4R.out.c0; have c1 := H4R.out.c1; have c2 := H4R.out.c2; have c3 := H4R.out.c3
    by_cases q : i < Z
    · have q1 : (i : Int) < Z := by omega
      have hw : IntKind.i64.wrap ((i : Int) + 1) = ((i + 1 : Nat) : Int) := by have := HZZ.out; rw [IntWalk.i64_in _ (by omega)]; omega
      have hadd : ∀ W : World, (Op.stringOp .add (qs i) ⟨#[63]⟩).run Try.prog W = .ok (.string (qs (i + 1))) W := fun W => by
        rw [run_string_add_sum W _ _ (by have := HZZ.out; have e : (⟨#[63]⟩ : ByteArray).size = 1 := rfl; rw [qs_size, e]; omega), qs_succ]
      go_wp2_with (first
        | (go_at_call 40; (with_reducible refine (HLO.out _ _ rfl).mono ?_); rintro e wb ⟨rfl, HBq⟩; have H4B := Lib.hid (H4R.out.below HBq.out); have HVB := Lib.hid (HVR.out.below HBq.out); have HBB := Lib.hid (HBR.out.trans (HBq.out.mono HBR.out.size)); have aB0 := H4B.out.c0; have aB1 := H4B.out.c1; have aB2 := H4B.out.c2; have aB3 := H4B.out.c3)
        | fail)
      go_roundw
      case rel => exact ⟨i + 1, q, by go_num, by go_num, H4B, HVB, HBB⟩
      case measure => simp [intOf]; omega
    · obtain rfl : i = Z := by omega
      have q1 : ¬ (i : Int) < i := by omega
      have hV := HVV.out
      have hZ := HZE.out
      by_cases hS : t.size = szN (nS s) s.ck ∧ OfA t s.al
      case neg =>
        have HNU : Hid (∀ (W : World), IsSs W (.slice bo bm bc) s.bl → Calls Try.prog 25 #[.agg #[.string al, .int .i64 len, .slice bo bm bc, .bool ck], .string t] W fun e w' => e = .returned (.tuple #[.int .i64 0, .int .i64 4]) ∧ Hid (Below W.heap.size W w')) := fun W h => by rw [← HeS.out]; exact Num_syn h hV hS
        clear hS hV hZ
        go_wp2_with (first
          | (go_at_call 40; (with_reducible refine (HLO.out _ _ rfl).mono ?_); rintro e wb ⟨rfl, HBq⟩; have H4B := Lib.hid (H4R.out.below HBq.out); have HVB := Lib.hid (HVR.out.below HBq.out); have HBB := Lib.hid (HBR.out.trans (HBq.out.mono HBR.out.size)); have aB0 := H4B.out.c0; have aB1 := H4B.out.c1; have aB2 := H4B.out.c2; have aB3 := H4B.out.c3)
          | (go_at_call 27; (with_reducible refine (HMO.out _ HVB.out).mono ?_); rintro e wc ⟨rfl, HBq⟩; have H4C := Lib.hid (H4B.out.below HBq.out); have HVC := Lib.hid (HVB.out.below HBq.out); have HBC := Lib.hid (HBB.out.trans (HBq.out.mono HBB.out.size)); have aC0 := H4C.out.c0; have aC1 := H4C.out.c1; have aC2 := H4C.out.c2; have aC3 := H4C.out.c3)
          | (go_at_call 29; (with_reducible refine (HBO.out _ HVC.out).mono ?_); rintro e wd ⟨rfl, HBq⟩; have H4D := Lib.hid (H4C.out.below HBq.out); have HVD := Lib.hid (HVC.out.below HBq.out); have HBD := Lib.hid (HBC.out.trans (HBq.out.mono HBC.out.size)); have aD0 := H4D.out.c0; have aD1 := H4D.out.c1; have aD2 := H4D.out.c2; have aD3 := H4D.out.c3)
          | (go_at_call 25; (with_reducible refine (HNU.out _ HVD.out).mono ?_); rintro e we ⟨rfl, HBq⟩; have H4E := Lib.hid (H4D.out.below HBq.out); have HVE := Lib.hid (HVD.out.below HBq.out); have HBE := Lib.hid (HBD.out.trans (HBq.out.mono HBD.out.size)); have aE0 := H4E.out.c0; have aE1 := H4E.out.c1; have aE2 := H4E.out.c2; have aE3 := H4E.out.c3)
          | fail)
        refine (HAW.out _).mono ?_
        rintro e wz ⟨rfl, HBz⟩
        go_wp2_with fail
        go_ret
        exact ⟨rfl, (HBE.out).trans (HBz.out.mono (HBE.out).size)⟩
      by_cases hA : AllowW (bansS s) ((wordN s.al t).take (nS s)) ∧ endsB s.al.size (nS s) s.ck (wordN s.al t) = true
      case neg =>
        have hnone := syn_none hV hS hA
        have hM := syn_mask hS
        have HNU : Hid (∀ (W : World), IsSs W (.slice bo bm bc) s.bl → Calls Try.prog 25 #[.agg #[.string al, .int .i64 len, .slice bo bm bc, .bool ck], .string t] W fun e w' => ∃ E : Int, e = .returned (.tuple #[.int .i64 0, .int .i64 E]) ∧ (E == 4) = false ∧ (E != 0) = true ∧ (E = 21 ∨ E = 22) ∧ Hid (Below W.heap.size W w')) := fun W h => by rw [← HeS.out]; exact Num_not h hV hS hA
        have HMT : Hid (∀ (W : World), IsSs W (.slice bo bm bc) s.bl → Calls Try.prog 27 #[.agg #[.string al, .int .i64 len, .slice bo bm bc, .bool ck], .string t] W fun e w' => e = .returned (.tuple #[.int .i64 0, .int .i64 0]) ∧ Hid (Below W.heap.size W w')) := fun W h => by have h3 := Matches_yes h hV hM; rw [hnone] at h3; rw [← HeS.out]; exact h3
        clear hS hV hZ hA hnone hM
        go_wp2_with (first
          | (go_at_call 40; (with_reducible refine (HLO.out _ _ rfl).mono ?_); rintro e wb ⟨rfl, HBq⟩; have H4B := Lib.hid (H4R.out.below HBq.out); have HVB := Lib.hid (HVR.out.below HBq.out); have HBB := Lib.hid (HBR.out.trans (HBq.out.mono HBR.out.size)); have aB0 := H4B.out.c0; have aB1 := H4B.out.c1; have aB2 := H4B.out.c2; have aB3 := H4B.out.c3)
          | (go_at_call 27; (with_reducible refine (HMO.out _ HVB.out).mono ?_); rintro e wc ⟨rfl, HBq⟩; have H4C := Lib.hid (H4B.out.below HBq.out); have HVC := Lib.hid (HVB.out.below HBq.out); have HBC := Lib.hid (HBB.out.trans (HBq.out.mono HBB.out.size)); have aC0 := H4C.out.c0; have aC1 := H4C.out.c1; have aC2 := H4C.out.c2; have aC3 := H4C.out.c3)
          | (go_at_call 29; (with_reducible refine (HBO.out _ HVC.out).mono ?_); rintro e wd ⟨rfl, HBq⟩; have H4D := Lib.hid (H4C.out.below HBq.out); have HVD := Lib.hid (HVC.out.below HBq.out); have HBD := Lib.hid (HBC.out.trans (HBq.out.mono HBC.out.size)); have aD0 := H4D.out.c0; have aD1 := H4D.out.c1; have aD2 := H4D.out.c2; have aD3 := H4D.out.c3)
          | (go_at_call 25; (with_reducible refine (HNU.out _ HVD.out).mono ?_); rintro e we ⟨E, rfl, hE4, hE0, HE, HBq⟩; have H4E := Lib.hid (H4D.out.below HBq.out); have HVE := Lib.hid (HVD.out.below HBq.out); have HBE := Lib.hid (HBD.out.trans (HBq.out.mono HBD.out.size)); have aE0 := H4E.out.c0; have aE1 := H4E.out.c1; have aE2 := H4E.out.c2; have aE3 := H4E.out.c3)
          | (go_at_call 27; (with_reducible refine (HMT.out _ HVE.out).mono ?_); rintro e wf ⟨rfl, HBq⟩; have H4F := Lib.hid (H4E.out.below HBq.out); have HVF := Lib.hid (HVE.out.below HBq.out); have HBF := Lib.hid (HBE.out.trans (HBq.out.mono HBE.out.size)); have aF0 := H4F.out.c0; have aF1 := H4F.out.c1; have aF2 := H4F.out.c2; have aF3 := H4F.out.c3)
          | fail)
        refine (HAW.out _).mono ?_
        rintro e wz ⟨rfl, HBz⟩
        go_wp2_with fail
        go_ret
        exact ⟨rfl, (HBF.out).trans (HBz.out.mono (HBF.out).size)⟩
      have hone := syn_one hV hS hA.1 hA.2
      have hM := syn_mask hS
      obtain ⟨n, hnl, hne⟩ := List.mem_iff_getElem.1 (syn_word hV hS hA.1)
      have hn : (wordsS s)[n]? = some ((wordN s.al t).take (nS s)) := by rw [List.getElem?_eq_getElem hnl, hne]
      have hK : (wordsM s t)[0]? = some ((wordN s.al t).take (nS s)) := by rw [hone]; rfl
      have hnT : n < totS s := by rw [totS_words]; exact hnl
      have hT40 := hV.2.2
      obtain ⟨n1, hn1⟩ : ∃ n1, n1 = n + 1 := ⟨_, rfl⟩
      have hw1 : IntKind.i64.wrap ((n : Int) + 1) = (n1 : Int) := by rw [IntWalk.i64_in _ (by omega)]; omega
      have HNU : Hid (∀ (W : World), IsSs W (.slice bo bm bc) s.bl → Calls Try.prog 25 #[.agg #[.string al, .int .i64 len, .slice bo bm bc, .bool ck], .string t] W fun e w' => e = .returned (.tuple #[.int .i64 (n : Int), .int .i64 0]) ∧ Hid (Below W.heap.size W w')) := fun W h => by rw [← HeS.out]; exact Num_ok h hV hS hA.1 hA.2 hn
      have HMT : Hid (∀ (W : World), IsSs W (.slice bo bm bc) s.bl → Calls Try.prog 27 #[.agg #[.string al, .int .i64 len, .slice bo bm bc, .bool ck], .string t] W fun e w' => e = .returned (.tuple #[.int .i64 1, .int .i64 0]) ∧ Hid (Below W.heap.size W w')) := fun W h => by have h3 := Matches_yes h hV hM; rw [hone] at h3; rw [← HeS.out]; exact h3
      have HB0 : Hid (∀ (W : World), IsSs W (.slice bo bm bc) s.bl → Calls Try.prog 29 #[.agg #[.string al, .int .i64 len, .slice bo bm bc, .bool ck], .string t, .int .i64 (n : Int)] W fun e w' => e = .returned (.tuple #[.int .i64 0, .int .i64 0]) ∧ Hid (Below W.heap.size W w')) := fun W h => by have h3 := Below_in h hV hM hn; rw [bel_M hK] at h3; rw [← HeS.out]; exact h3
      have HB1' : Hid (∀ (W : World), IsSs W (.slice bo bm bc) s.bl → Calls Try.prog 29 #[.agg #[.string al, .int .i64 len, .slice bo bm bc, .bool ck], .string t, .int .i64 (n1 : Int)] W fun e w' => e = .returned (.tuple #[.int .i64 1, .int .i64 0]) ∧ Hid (Below W.heap.size W w')) := fun W h => by
        rw [hn1]
        by_cases q : n + 1 = totS s
        · have h3 := Below_all h hV hM q
          rw [hone] at h3
          rw [← HeS.out]; exact h3
        · have hl : n + 1 < (wordsS s).length := by rw [← totS_words]; omega
          have hn' : (wordsS s)[n + 1]? = some (wordsS s)[n + 1] := List.getElem?_eq_getElem hl
          have h3 := Below_in h hV hM hn'
          rw [bel_next_M hM hK hn hn'] at h3
          rw [← HeS.out]; exact h3
      clear hV hS hA hone hM hnl hne hn hK hnT hn1 hZ
      go_wp2_with (first
        | (go_at_call 40; (with_reducible refine (HLO.out _ _ rfl).mono ?_); rintro e wb ⟨rfl, HBq⟩; have H4B := Lib.hid (H4R.out.below HBq.out); have HVB := Lib.hid (HVR.out.below HBq.out); have HBB := Lib.hid (HBR.out.trans (HBq.out.mono HBR.out.size)); have aB0 := H4B.out.c0; have aB1 := H4B.out.c1; have aB2 := H4B.out.c2; have aB3 := H4B.out.c3)
        | (go_at_call 27; (with_reducible refine (HMO.out _ HVB.out).mono ?_); rintro e wc ⟨rfl, HBq⟩; have H4C := Lib.hid (H4B.out.below HBq.out); have HVC := Lib.hid (HVB.out.below HBq.out); have HBC := Lib.hid (HBB.out.trans (HBq.out.mono HBB.out.size)); have aC0 := H4C.out.c0; have aC1 := H4C.out.c1; have aC2 := H4C.out.c2; have aC3 := H4C.out.c3)
        | (go_at_call 29; (with_reducible refine (HBO.out _ HVC.out).mono ?_); rintro e wd ⟨rfl, HBq⟩; have H4D := Lib.hid (H4C.out.below HBq.out); have HVD := Lib.hid (HVC.out.below HBq.out); have HBD := Lib.hid (HBC.out.trans (HBq.out.mono HBC.out.size)); have aD0 := H4D.out.c0; have aD1 := H4D.out.c1; have aD2 := H4D.out.c2; have aD3 := H4D.out.c3)
        | (go_at_call 25; (with_reducible refine (HNU.out _ HVD.out).mono ?_); rintro e we ⟨rfl, HBq⟩; have H4E := Lib.hid (H4D.out.below HBq.out); have HVE := Lib.hid (HVD.out.below HBq.out); have HBE := Lib.hid (HBD.out.trans (HBq.out.mono HBD.out.size)); have aE0 := H4E.out.c0; have aE1 := H4E.out.c1; have aE2 := H4E.out.c2; have aE3 := H4E.out.c3)
        | (go_at_call 27; (with_reducible refine (HMT.out _ HVE.out).mono ?_); rintro e wf ⟨rfl, HBq⟩; have H4F := Lib.hid (H4E.out.below HBq.out); have HVF := Lib.hid (HVE.out.below HBq.out); have HBF := Lib.hid (HBE.out.trans (HBq.out.mono HBE.out.size)); have aF0 := H4F.out.c0; have aF1 := H4F.out.c1; have aF2 := H4F.out.c2; have aF3 := H4F.out.c3)
        | (go_at_call 29; (with_reducible refine (HB0.out _ HVF.out).mono ?_); rintro e wg ⟨rfl, HBq⟩; have H4G := Lib.hid (H4F.out.below HBq.out); have HVG := Lib.hid (HVF.out.below HBq.out); have HBG := Lib.hid (HBF.out.trans (HBq.out.mono HBF.out.size)); have aG0 := H4G.out.c0; have aG1 := H4G.out.c1; have aG2 := H4G.out.c2; have aG3 := H4G.out.c3)
        | (go_at_call 29; (with_reducible refine (HB1'.out _ HVG.out).mono ?_); rintro e wh ⟨rfl, HBq⟩; have H4H := Lib.hid (H4G.out.below HBq.out); have HVH := Lib.hid (HVG.out.below HBq.out); have HBH := Lib.hid (HBG.out.trans (HBq.out.mono HBG.out.size)); have aH0 := H4H.out.c0; have aH1 := H4H.out.c1; have aH2 := H4H.out.c2; have aH3 := H4H.out.c3)
        | fail)
      refine (HAW.out _).mono ?_
      rintro e wz ⟨rfl, HBz⟩
      go_wp2_with fail
      go_ret
      exact ⟨rfl, (HBH.out).trans (HBz.out.mono (HBH.out).size)⟩
end Go.Proofs.Ytgblfobomiiofaa
