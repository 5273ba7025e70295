/- SerialRanks: the walk. -/
import Derived.Test.YtgblfobomiiofaaTSerC
namespace Go.Proofs.Ytgblfobomiiofaa
open Go Go.RowKit Go.Shelf Gw Go.Maps

set_option maxRecDepth 100000 in
set_option maxHeartbeats 4000000 in
theorem serialRanks_law {s : Sch} {bv : Value} {t : ByteArray} {M : Int} {w : World} (hv : IsSs w bv s.bl) (_hnil : NilOk bv) :
    Calls Try.prog 11 #[schV s bv, .string t, .int .i64 M] w fun e w' => e = .returned (.bool true) ∧ Hid (Below w.heap.size w w') := by
  have HAW := Lib.hid serawake_any
  obtain ⟨w1, hw1⟩ : ∃ w1, w1 = w.alloc (.cells #[.string s.al, .int .i64 s.len, bv, .bool s.ck] 24) := ⟨_, rfl⟩
  have hb1 : Below w.heap.size w w1 := by rw [hw1]; exact below_al _ _
  have H41 : Hid (B4 w.heap.size (.string s.al) (.int .i64 s.len) bv (.bool s.ck) w1) := by rw [hw1]; exact B4.new _ _ _ _ _ _
  have HFW := few_any (s := s) (hv.below hb1)
  have HV1 := Lib.hid (hv.below hb1)
  have HB1 := Lib.hid hb1
  have HW1 := Lib.hid hw1
  obtain ⟨fb, hfb⟩ : ∃ fb, fb = fewB s := ⟨_, rfl⟩
  unfold FewP at HFW
  rw [← hfb] at HFW
  have HeS : Hid (∀ v, schV s v = .agg #[.string s.al, .int .i64 s.len, v, .bool s.ck]) := fun v => rfl
  unfold schV at HFW ⊢
  obtain ⟨bo, bc, hbv, -⟩ := hv
  obtain ⟨bm, hbm⟩ : ∃ bm, bm = s.bl.length := ⟨_, rfl⟩
  rw [← hbm] at hbv
  subst hbv
  have HFW := Lib.hid HFW
  obtain ⟨al, hal⟩ : ∃ al, al = s.al := ⟨_, rfl⟩
  obtain ⟨len, hlen⟩ : ∃ len, len = s.len := ⟨_, rfl⟩
  obtain ⟨ck, hck⟩ : ∃ ck, ck = s.ck := ⟨_, rfl⟩
  rw [← hal, ← hlen, ← hck] at H41 HW1 HFW HeS ⊢
  have HAL := Lib.hid hal
  have HLEN := Lib.hid hlen
  have HCK := Lib.hid hck
  clear hw1 hb1 hfb hbm hal hlen hck
  have k0 := H41.out.c0; have k1 := H41.out.c1; have k2 := H41.out.c2; have k3 := H41.out.c3
  go_enter Try.func11, Try.ntmps11
  go_upto_region 1 with fail
  rw [← HW1.out]
  cases fb with
  | false =>
    go_wp2_with (first
      | (go_at_call 16; (with_reducible refine HFW.out.mono ?_); rintro e w2 ⟨rfl, HBf⟩; have H42 := Lib.hid (H41.out.below HBf.out); have HV2 := Lib.hid (HV1.out.below HBf.out); have HB2 := Lib.hid (HB1.out.trans (HBf.out.mono HB1.out.size)); have a20 := H42.out.c0; have a21 := H42.out.c1; have a22 := H42.out.c2; have a23 := H42.out.c3)
      | fail)
    refine (HAW.out _).mono ?_
    rintro e wz ⟨rfl, HBz⟩
    go_wp2_with fail
    go_ret
    exact ⟨rfl, (HB2.out).trans (HBz.out.mono (HB2.out).size)⟩
  | true =>
  by_cases p1 : t.size > 100
  · have p2 : (t.size : Int) > 100 := by omega
    go_wp2_with (first
      | (go_at_call 16; (with_reducible refine HFW.out.mono ?_); rintro e w2 ⟨rfl, HBf⟩; have H42 := Lib.hid (H41.out.below HBf.out); have HV2 := Lib.hid (HV1.out.below HBf.out); have HB2 := Lib.hid (HB1.out.trans (HBf.out.mono HB1.out.size)); have a20 := H42.out.c0; have a21 := H42.out.c1; have a22 := H42.out.c2; have a23 := H42.out.c3)
      | fail)
    refine (HAW.out _).mono ?_
    rintro e wz ⟨rfl, HBz⟩
    go_wp2_with fail
    go_ret
    exact ⟨rfl, (HB2.out).trans (HBz.out.mono (HB2.out).size)⟩
  have p2 : ¬ (t.size : Int) > 100 := by omega
  by_cases hVM : ValidS s ∧ IsMask s t
  case neg =>
    have HMA : Hid (∀ (W : World), IsSs W (.slice bo bm bc) s.bl → Calls Try.prog 27 #[.agg #[.string al, .int .i64 len, .slice bo bm bc, .bool ck], .string t] W fun e w' => ∃ E : Int, e = .returned (.tuple #[.int .i64 0, .int .i64 E]) ∧ (E != 0) = true ∧ Hid (Below W.heap.size W w')) := fun W h => by rw [← HeS.out]; exact Matches_no h hVM
    clear hVM
    go_wp2_with (first
      | (go_at_call 16; (with_reducible refine HFW.out.mono ?_); rintro e w2 ⟨rfl, HBf⟩; have H42 := Lib.hid (H41.out.below HBf.out); have HV2 := Lib.hid (HV1.out.below HBf.out); have HB2 := Lib.hid (HB1.out.trans (HBf.out.mono HB1.out.size)); have a20 := H42.out.c0; have a21 := H42.out.c1; have a22 := H42.out.c2; have a23 := H42.out.c3; have HMA2 := Lib.hid (HMA.out _ HV2.out))
      | (go_at_call 27; (with_reducible refine HMA2.out.mono ?_); rintro e wa ⟨E, rfl, hE, HBa⟩; have HBA := Lib.hid (HB2.out.trans (HBa.out.mono HB2.out.size)))
      | fail)
    refine (HAW.out _).mono ?_
    rintro e wz ⟨rfl, HBz⟩
    go_wp2_with fail
    go_ret
    exact ⟨rfl, (HBA.out).trans (HBz.out.mono (HBA.out).size)⟩
  obtain ⟨hV, ht⟩ := hVM
  obtain ⟨N, hN⟩ : ∃ N, N = (wordsM s t).length := ⟨_, rfl⟩
  have HMA : Hid (∀ (W : World), IsSs W (.slice bo bm bc) s.bl → Calls Try.prog 27 #[.agg #[.string al, .int .i64 len, .slice bo bm bc, .bool ck], .string t] W fun e w' => e = .returned (.tuple #[.int .i64 (N : Int), .int .i64 0]) ∧ Hid (Below W.heap.size W w')) := fun W h => by rw [← HeS.out, hN]; exact Matches_yes h hV ht
  by_cases hM : 0 ≤ M ∧ M < (N : Int)
  case neg =>
    have HMC : Hid (∀ (W : World), IsSs W (.slice bo bm bc) s.bl → Calls Try.prog 28 #[.agg #[.string al, .int .i64 len, .slice bo bm bc, .bool ck], .string t, .int .i64 M] W fun e w' => e = .returned (.tuple #[.string ⟨#[]⟩, .int .i64 3]) ∧ Hid (Below W.heap.size W w')) := fun W h => by rw [← HeS.out]; exact Match_out h hV ht (by rw [← hN]; exact hM)
    clear hV ht hN
    by_cases q1 : M < 0
    · go_wp2_with (first
        | (go_at_call 16; (with_reducible refine HFW.out.mono ?_); rintro e w2 ⟨rfl, HBf⟩; have H42 := Lib.hid (H41.out.below HBf.out); have HV2 := Lib.hid (HV1.out.below HBf.out); have HB2 := Lib.hid (HB1.out.trans (HBf.out.mono HB1.out.size)); have a20 := H42.out.c0; have a21 := H42.out.c1; have a22 := H42.out.c2; have a23 := H42.out.c3; have HMA2 := Lib.hid (HMA.out _ HV2.out))
        | (go_at_call 27; (with_reducible refine HMA2.out.mono ?_); rintro e wa ⟨rfl, HBa⟩; have H4A := Lib.hid (H42.out.below HBa.out); have HVA := Lib.hid (HV2.out.below HBa.out); have HBA := Lib.hid (HB2.out.trans (HBa.out.mono HB2.out.size)); have aA0 := H4A.out.c0; have aA1 := H4A.out.c1; have aA2 := H4A.out.c2; have aA3 := H4A.out.c3; have HMCa := Lib.hid (HMC.out _ HVA.out))
        | (go_at_call 28; (with_reducible refine HMCa.out.mono ?_); rintro e wb ⟨rfl, HBb⟩; have H4B := Lib.hid (H4A.out.below HBb.out); have HVB := Lib.hid (HVA.out.below HBb.out); have HBB := Lib.hid (HBA.out.trans (HBb.out.mono HBA.out.size)); have aB0 := H4B.out.c0; have aB1 := H4B.out.c1; have aB2 := H4B.out.c2; have aB3 := H4B.out.c3)
        | fail)
      refine (HAW.out _).mono ?_
      rintro e wz ⟨rfl, HBz⟩
      go_wp2_with fail
      go_ret
      exact ⟨rfl, (HBB.out).trans (HBz.out.mono (HBB.out).size)⟩
    have q2 : M ≥ (N : Int) := by omega
    go_wp2_with (first
      | (go_at_call 16; (with_reducible refine HFW.out.mono ?_); rintro e w2 ⟨rfl, HBf⟩; have H42 := Lib.hid (H41.out.below HBf.out); have HV2 := Lib.hid (HV1.out.below HBf.out); have HB2 := Lib.hid (HB1.out.trans (HBf.out.mono HB1.out.size)); have a20 := H42.out.c0; have a21 := H42.out.c1; have a22 := H42.out.c2; have a23 := H42.out.c3; have HMA2 := Lib.hid (HMA.out _ HV2.out))
      | (go_at_call 27; (with_reducible refine HMA2.out.mono ?_); rintro e wa ⟨rfl, HBa⟩; have H4A := Lib.hid (H42.out.below HBa.out); have HVA := Lib.hid (HV2.out.below HBa.out); have HBA := Lib.hid (HB2.out.trans (HBa.out.mono HB2.out.size)); have aA0 := H4A.out.c0; have aA1 := H4A.out.c1; have aA2 := H4A.out.c2; have aA3 := H4A.out.c3; have HMCa := Lib.hid (HMC.out _ HVA.out))
      | (go_at_call 28; (with_reducible refine HMCa.out.mono ?_); rintro e wb ⟨rfl, HBb⟩; have H4B := Lib.hid (H4A.out.below HBb.out); have HVB := Lib.hid (HVA.out.below HBb.out); have HBB := Lib.hid (HBA.out.trans (HBb.out.mono HBA.out.size)); have aB0 := H4B.out.c0; have aB1 := H4B.out.c1; have aB2 := H4B.out.c2; have aB3 := H4B.out.c3)
      | fail)
    refine (HAW.out _).mono ?_
    rintro e wz ⟨rfl, HBz⟩
    go_wp2_with fail
    go_ret
    exact ⟨rfl, (HBB.out).trans (HBz.out.mono (HBB.out).size)⟩
  obtain ⟨K, rfl⟩ : ∃ K : Nat, M = K := ⟨M.toNat, by omega⟩
  have q1 : ¬ (K : Int) < 0 := by omega
  have q2 : ¬ (K : Int) ≥ (N : Int) := by omega
  have hKN : K < (wordsM s t).length := by omega
  obtain ⟨u, hu⟩ : ∃ u, (wordsM s t)[K]? = some u := ⟨_, List.getElem?_eq_getElem hKN⟩
  obtain ⟨hmS, hpass⟩ := wordsM_mem ht (List.mem_of_getElem? hu)
  obtain ⟨n, hnl, hne⟩ := List.mem_iff_getElem.1 hmS
  have hn : (wordsS s)[n]? = some u := by rw [List.getElem?_eq_getElem hnl, hne]
  obtain ⟨m1, m2, _⟩ := wordsS_mem hmS
  have hmat := pass_match hV ht m1 m2 hpass
  have hnT : n < totS s := by rw [totS_words]; exact hnl
  have hT40 := hV.2.2
  have hNT := wordsM_len ht
  have hbel := bel_M hu
  obtain ⟨A, hA⟩ : ∃ A, A = serB s.al s.ck u := ⟨_, rfl⟩
  have hAs : A.size = t.size := by rw [hA, serB_size _ _ _ m1, ht.1]
  have HMC : Hid (∀ (W : World), IsSs W (.slice bo bm bc) s.bl → Calls Try.prog 28 #[.agg #[.string al, .int .i64 len, .slice bo bm bc, .bool ck], .string t, .int .i64 (K : Int)] W fun e w' => e = .returned (.tuple #[.string A, .int .i64 0]) ∧ Hid (Below W.heap.size W w')) := fun W h => by rw [← HeS.out, hA]; exact Match_in h hV ht hu
  have HNU : Hid (∀ (W : World), IsSs W (.slice bo bm bc) s.bl → Calls Try.prog 25 #[.agg #[.string al, .int .i64 len, .slice bo bm bc, .bool ck], .string A] W fun e w' => e = .returned (.tuple #[.int .i64 (n : Int), .int .i64 0]) ∧ Hid (Below W.heap.size W w')) := fun W h => by rw [← HeS.out, hA]; exact Num_of h hV hn
  have HB0 : Hid (∀ (W : World), IsSs W (.slice bo bm bc) s.bl → Calls Try.prog 29 #[.agg #[.string al, .int .i64 len, .slice bo bm bc, .bool ck], .string t, .int .i64 (n : Int)] W fun e w' => e = .returned (.tuple #[.int .i64 (K : Int), .int .i64 0]) ∧ Hid (Below W.heap.size W w')) := fun W h => by
    have h3 := Below_in h hV ht hn
    rw [hbel] at h3
    rw [← HeS.out]; exact h3
  have HBN : Hid (∀ (W : World), IsSs W (.slice bo bm bc) s.bl → Calls Try.prog 29 #[.agg #[.string al, .int .i64 len, .slice bo bm bc, .bool ck], .string t, .int .i64 ((n + 1 : Nat) : Int)] W fun e w' => e = .returned (.tuple #[.int .i64 ((K + 1 : Nat) : Int), .int .i64 0]) ∧ Hid (Below W.heap.size W w')) := fun W h => by
    by_cases q : n + 1 = totS s
    · have h3 := Below_all h hV ht q
      rw [last_M ht hu hn q] at h3
      rw [← HeS.out]; exact h3
    · have hl : n + 1 < (wordsS s).length := by rw [← totS_words]; omega
      have hn' : (wordsS s)[n + 1]? = some (wordsS s)[n + 1] := List.getElem?_eq_getElem hl
      have h3 := Below_in h hV ht hn'
      rw [bel_next_M ht hu hn hn'] at h3
      rw [← HeS.out]; exact h3
  have HRM : Hid (∀ (W : World), Calls Try.prog 37 #[.string t, .string A] W fun e w' => e = .returned (.bool true) ∧ Hid (Below W.heap.size W w')) := fun W => by
    refine (RMatches_any hAs (by omega) W).mono ?_
    rintro e w' ⟨r, rfl, hr, hb⟩
    rw [hr.2 (by rw [hA]; exact hmat)]
    exact ⟨rfl, hb⟩
  have hw1 : IntKind.i64.wrap ((n : Int) + 1) = ((n + 1 : Nat) : Int) := by rw [IntWalk.i64_in _ (by omega)]; omega
  have hw2 : IntKind.i64.wrap ((K : Int) + 1) = ((K + 1 : Nat) : Int) := by rw [IntWalk.i64_in _ (by omega)]; omega
  obtain ⟨n1, hn1⟩ : ∃ n1, n1 = n + 1 := ⟨_, rfl⟩
  obtain ⟨K1, hK1⟩ : ∃ K1, K1 = K + 1 := ⟨_, rfl⟩
  rw [← hn1] at HBN hw1
  rw [← hK1] at HBN hw2
  clear hV ht hN hu hmS hpass hnl hne hn m1 m2 hmat hbel hA hAs hn1 hK1 hM
  go_wp2_with (first
    | (go_at_call 16; (with_reducible refine HFW.out.mono ?_); rintro e w2 ⟨rfl, HBf⟩; have H42 := Lib.hid (H41.out.below HBf.out); have HV2 := Lib.hid (HV1.out.below HBf.out); have HB2 := Lib.hid (HB1.out.trans (HBf.out.mono HB1.out.size)); have a20 := H42.out.c0; have a21 := H42.out.c1; have a22 := H42.out.c2; have a23 := H42.out.c3; have HMA2 := Lib.hid (HMA.out _ HV2.out))
    | (go_at_call 27; (with_reducible refine HMA2.out.mono ?_); rintro e wa ⟨rfl, HBa⟩; have H4A := Lib.hid (H42.out.below HBa.out); have HVA := Lib.hid (HV2.out.below HBa.out); have HBA := Lib.hid (HB2.out.trans (HBa.out.mono HB2.out.size)); have aA0 := H4A.out.c0; have aA1 := H4A.out.c1; have aA2 := H4A.out.c2; have aA3 := H4A.out.c3; have HMCa := Lib.hid (HMC.out _ HVA.out))
    | (go_at_call 28; (with_reducible refine HMCa.out.mono ?_); rintro e wb ⟨rfl, HBb⟩; have H4B := Lib.hid (H4A.out.below HBb.out); have HVB := Lib.hid (HVA.out.below HBb.out); have HBB := Lib.hid (HBA.out.trans (HBb.out.mono HBA.out.size)); have aB0 := H4B.out.c0; have aB1 := H4B.out.c1; have aB2 := H4B.out.c2; have aB3 := H4B.out.c3; have HNUb := Lib.hid (HNU.out _ HVB.out))
    | (go_at_call 25; (with_reducible refine HNUb.out.mono ?_); rintro e wc ⟨rfl, HBc⟩; have H4C := Lib.hid (H4B.out.below HBc.out); have HVC := Lib.hid (HVB.out.below HBc.out); have HBC := Lib.hid (HBB.out.trans (HBc.out.mono HBB.out.size)); have aC0 := H4C.out.c0; have aC1 := H4C.out.c1; have aC2 := H4C.out.c2; have aC3 := H4C.out.c3; have HB0c := Lib.hid (HB0.out _ HVC.out))
    | (go_at_call 29; (with_reducible refine HB0c.out.mono ?_); rintro e wd ⟨rfl, HBd⟩; have H4D := Lib.hid (H4C.out.below HBd.out); have HVD := Lib.hid (HVC.out.below HBd.out); have HBD := Lib.hid (HBC.out.trans (HBd.out.mono HBC.out.size)); have aD0 := H4D.out.c0; have aD1 := H4D.out.c1; have aD2 := H4D.out.c2; have aD3 := H4D.out.c3; have HBNd := Lib.hid (HBN.out _ HVD.out))
    | (go_at_call 29; (with_reducible refine HBNd.out.mono ?_); rintro e we ⟨rfl, HBe⟩; have H4E := Lib.hid (H4D.out.below HBe.out); have HVE := Lib.hid (HVD.out.below HBe.out); have HBE := Lib.hid (HBD.out.trans (HBe.out.mono HBD.out.size)); have aE0 := H4E.out.c0; have aE1 := H4E.out.c1; have aE2 := H4E.out.c2; have aE3 := H4E.out.c3; have HRMe := Lib.hid (HRM.out we))
    | (go_at_call 37; (with_reducible refine HRMe.out.mono ?_); rintro e wf ⟨rfl, HBf2⟩; have HBF := Lib.hid (HBE.out.trans (HBf2.out.mono HBE.out.size)))
    | fail)
  refine (HAW.out _).mono ?_
  rintro e wz ⟨rfl, HBz⟩
  go_wp2_with fail
  go_ret
  exact ⟨rfl, (HBF.out).trans (HBz.out.mono (HBF.out).size)⟩
end Go.Proofs.Ytgblfobomiiofaa
