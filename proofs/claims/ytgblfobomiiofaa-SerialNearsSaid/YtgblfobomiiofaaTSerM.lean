/- Contracts and lemmas (several texts merged into one). -/
import Derived.Test.YtgblfobomiiofaaTSerL
import Derived.Test.YtgblfobomiiofaaTSerB
import Derived.Test.YtgblfobomiiofaaTSerA
namespace Go.Proofs.Ytgblfobomiiofaa
open Go Go.RowKit Go.Shelf Gw Go.Maps

set_option maxRecDepth 100000 in
set_option maxHeartbeats 4000000 in
theorem serialTexts_law {s : Sch} {bv : Value} {N : Int} {w : World} (hv : IsSs w bv s.bl) (_hnil : NilOk bv) :
    Calls Try.prog 4 #[schV s bv, .int .i64 N] w fun e w' => e = .returned (.bool true) ∧ Hid (Below w.heap.size w w') := by
  have HAW := Lib.hid serawake_any
  obtain ⟨w1, hw1⟩ : ∃ w1, w1 = w.alloc (.cells #[.string s.al, .int .i64 s.len, bv, .bool s.ck] 24) := ⟨_, rfl⟩
  have hb1 : Below w.heap.size w w1 := by rw [hw1]; exact below_al _ _
  have H41 : Hid (B4 w.heap.size (.string s.al) (.int .i64 s.len) bv (.bool s.ck) w1) := by rw [hw1]; exact B4.new _ _ _ _ _ _
  have HFW := few_any (s := s) (hv.below hb1)
  have HV1 := Lib.hid (hv.below hb1)
  have HB1 := Lib.hid hb1
  have HW1 := Lib.hid hw1
  obtain ⟨fb, hfb⟩ : ∃ fb, fb = fewB s := ⟨_, rfl⟩
  unfold FewP at HFW
  rw [← hfb] at HFW
  have HeS : Hid (∀ v, schV s v = .agg #[.string s.al, .int .i64 s.len, v, .bool s.ck]) := fun v => rfl
  unfold schV at HFW ⊢
  obtain ⟨bo, bc, hbv, -⟩ := hv
  obtain ⟨bm, hbm⟩ : ∃ bm, bm = s.bl.length := ⟨_, rfl⟩
  rw [← hbm] at hbv
  subst hbv
  have HFW := Lib.hid HFW
  obtain ⟨al, hal⟩ : ∃ al, al = s.al := ⟨_, rfl⟩
  obtain ⟨len, hlen⟩ : ∃ len, len = s.len := ⟨_, rfl⟩
  obtain ⟨ck, hck⟩ : ∃ ck, ck = s.ck := ⟨_, rfl⟩
  rw [← hal, ← hlen, ← hck] at H41 HW1 HFW HeS ⊢
  have HAL := Lib.hid hal
  have HLEN := Lib.hid hlen
  have HCK := Lib.hid hck
  clear hw1 hb1 hfb hbm hal hlen hck
  have k0 := H41.out.c0; have k1 := H41.out.c1; have k2 := H41.out.c2; have k3 := H41.out.c3
  go_enter Try.func4, Try.ntmps4
  go_upto_region 1 with fail
  rw [← HW1.out]
  cases fb with
  | false =>
    go_wp2_with (first
      | (go_at_call 16; (with_reducible refine HFW.out.mono ?_); rintro e w2 ⟨rfl, HBf⟩; have H42 := Lib.hid (H41.out.below HBf.out); have HV2 := Lib.hid (HV1.out.below HBf.out); have HB2 := Lib.hid (HB1.out.trans (HBf.out.mono HB1.out.size)); have a20 := H42.out.c0; have a21 := H42.out.c1; have a22 := H42.out.c2; have a23 := H42.out.c3)
      | fail)
    refine (HAW.out _).mono ?_
    rintro e wz ⟨rfl, HBz⟩
    go_wp2_with fail
    go_ret
    exact ⟨rfl, (HB2.out).trans (HBz.out.mono (HB2.out).size)⟩
  | true =>
  by_cases hV : ValidS s
  case neg =>
    have HCK : Hid (∀ (W : World), IsSs W (.slice bo bm bc) s.bl → Calls Try.prog 19 #[.agg #[.string al, .int .i64 len, .slice bo bm bc, .bool ck]] W fun e w' => ∃ E : Int, e = .returned (.tuple #[.agg #[.slice none 0 0, .slice none 0 0, .slice none 0 0], .int .i64 E]) ∧ (E != 0) = true ∧ Hid (Below W.heap.size W w')) := fun W h => by rw [← HeS.out]; exact RCheck_no h hV
    clear hV
    go_wp2_with (first
      | (go_at_call 16; (with_reducible refine HFW.out.mono ?_); rintro e w2 ⟨rfl, HBf⟩; have H42 := Lib.hid (H41.out.below HBf.out); have HV2 := Lib.hid (HV1.out.below HBf.out); have HB2 := Lib.hid (HB1.out.trans (HBf.out.mono HB1.out.size)); have a20 := H42.out.c0; have a21 := H42.out.c1; have a22 := H42.out.c2; have a23 := H42.out.c3; have HCK2 := Lib.hid (HCK.out _ HV2.out))
      | (go_at_call 19; (with_reducible refine HCK2.out.mono ?_); rintro e wa ⟨E, rfl, hE, HBa⟩; have HBA := Lib.hid (HB2.out.trans (HBa.out.mono HB2.out.size)))
      | fail)
    have HBC := Lib.hid (HBA.out.trans ((below_al wa (.cells #[.slice none 0 0, .slice none 0 0, .slice none 0 0] 30)).mono HBA.out.size))
    refine (HAW.out _).mono ?_
    rintro e wz ⟨rfl, HBz⟩
    go_wp2_with fail
    go_ret
    exact ⟨rfl, (HBC.out).trans (HBz.out.mono (HBC.out).size)⟩
  obtain ⟨T, hT⟩ : ∃ T, T = totS s := ⟨_, rfl⟩
  have HT := Lib.hid hT
  have HVS := Lib.hid hV
  have HCK : Hid (∀ (W : World), IsSs W (.slice bo bm bc) s.bl → Calls Try.prog 19 #[.agg #[.string al, .int .i64 len, .slice bo bm bc, .bool ck]] W fun e w' => ∃ ba nb bcp na k nc ya n1 yc, e = .returned (.tuple #[.agg #[.slice ba nb bcp, .slice na k nc, .slice ya n1 yc], .int .i64 0]) ∧ Hid (TabV s w' (.slice ba nb bcp) na nc ya yc) ∧ Hid (k = (LD s).length ∧ n1 = nS s + 1) ∧ Hid (Below W.heap.size W w')) := fun W h => by rw [← HeS.out]; exact RCheck_yes h hV
  clear hV hT
  go_upto_region 4 with (first
      | (go_at_call 16; (with_reducible refine HFW.out.mono ?_); rintro e w2 ⟨rfl, HBf⟩; have H42 := Lib.hid (H41.out.below HBf.out); have HV2 := Lib.hid (HV1.out.below HBf.out); have HB2 := Lib.hid (HB1.out.trans (HBf.out.mono HB1.out.size)); have a20 := H42.out.c0; have a21 := H42.out.c1; have a22 := H42.out.c2; have a23 := H42.out.c3; have HCK2 := Lib.hid (HCK.out _ HV2.out))
      | (go_at_call 19; (with_reducible refine HCK2.out.mono ?_); rintro e wa ⟨ba, nb, bcp, na, k, nc, ya, n1, yc, rfl, HTa, HKN, HBa⟩; have HBA := Lib.hid (HB2.out.trans (HBa.out.mono HB2.out.size)))
      | fail)
  obtain ⟨Y, hY⟩ : ∃ Y, Y = wa.heap.size := ⟨_, rfl⟩
  obtain ⟨w3, hw3⟩ : ∃ w3, w3 = wa.alloc (.cells #[.slice ba nb bcp, .slice na k nc, .slice ya n1 yc] 30) := ⟨_, rfl⟩
  have hb3 := below_al wa (.cells #[.slice ba nb bcp, .slice na k nc, .slice ya n1 yc] 30)
  have y3 := BxR.new wa (.slice ba nb bcp) (.slice na k nc) (.slice ya n1 yc) 30
  rw [← hw3] at hb3 y3
  rw [← hw3, ← hY]
  rw [← hY] at y3
  have H43 := Lib.hid ((H42.out.below HBa.out).below hb3)
  have HV3 := Lib.hid ((HV2.out.below HBa.out).below hb3)
  have HB3 := Lib.hid (HBA.out.trans (hb3.mono HBA.out.size))
  have HT3 := Lib.hid (HTa.out.below hb3)
  have HR3 := Lib.hid y3
  clear hY hw3 hb3 y3 a20 a21 a22 a23 k0 k1 k2 k3
  have a30 := H43.out.c0; have a31 := H43.out.c1; have a32 := H43.out.c2; have a33 := H43.out.c3
  have b30 := HR3.out.c0; have b31 := HR3.out.c1; have b32 := HR3.out.c2
  have HRC : Hid (∀ W, TabV s W (.slice ba nb bcp) na nc ya yc → Calls Try.prog 22 #[.agg #[.string al, .int .i64 len, .slice bo bm bc, .bool ck], .agg #[.slice ba nb bcp, .slice na k nc, .slice ya n1 yc]] W fun e w' => e = .returned (.int .i64 (T : Int)) ∧ Hid (Below W.heap.size W w')) := fun W h => by rw [← HeS.out, HT.out]; exact RCount_v HVS.out HKN.out h
  by_cases c1 : N < 0
  · have HTX : Hid (∀ W, IsSs W (.slice bo bm bc) s.bl → Calls Try.prog 24 #[.agg #[.string al, .int .i64 len, .slice bo bm bc, .bool ck], .int .i64 N] W fun e w' => e = .returned (.tuple #[.string ⟨#[]⟩, .int .i64 3]) ∧ Hid (Below W.heap.size W w')) := fun W h => by rw [← HeS.out]; exact TextN_no h HVS.out (by omega)
    have HTX3 := Lib.hid (HTX.out _ HV3.out)
    go_wp2_with (first
      | (go_at_call 24; (with_reducible refine HTX3.out.mono ?_); rintro e w4 ⟨rfl, HBb⟩; have H44 := Lib.hid (H43.out.below HBb.out); have HV4 := Lib.hid (HV3.out.below HBb.out); have HB4 := Lib.hid (HB3.out.trans (HBb.out.mono HB3.out.size)); have a40 := H44.out.c0; have a41 := H44.out.c1; have a42 := H44.out.c2; have a43 := H44.out.c3; have HT4 := Lib.hid (HT3.out.below HBb.out); have HR4 := Lib.hid (HR3.out.below HBb.out); have b40 := HR4.out.c0; have b41 := HR4.out.c1; have b42 := HR4.out.c2)
      | fail)
    refine (HAW.out _).mono ?_
    rintro e wz ⟨rfl, HBz⟩
    go_wp2_with fail
    go_ret
    exact ⟨rfl, (HB4.out).trans (HBz.out.mono (HB4.out).size)⟩
  by_cases c2 : N ≥ (T : Int)
  · have HTX : Hid (∀ W, IsSs W (.slice bo bm bc) s.bl → Calls Try.prog 24 #[.agg #[.string al, .int .i64 len, .slice bo bm bc, .bool ck], .int .i64 N] W fun e w' => e = .returned (.tuple #[.string ⟨#[]⟩, .int .i64 3]) ∧ Hid (Below W.heap.size W w')) := fun W h => by rw [← HeS.out]; exact TextN_no h HVS.out (by rw [← HT.out]; omega)
    have HTX3 := Lib.hid (HTX.out _ HV3.out)
    go_wp2_with (first
      | (go_at_call 24; (with_reducible refine HTX3.out.mono ?_); rintro e w4 ⟨rfl, HBb⟩; have H44 := Lib.hid (H43.out.below HBb.out); have HV4 := Lib.hid (HV3.out.below HBb.out); have HB4 := Lib.hid (HB3.out.trans (HBb.out.mono HB3.out.size)); have a40 := H44.out.c0; have a41 := H44.out.c1; have a42 := H44.out.c2; have a43 := H44.out.c3; have HT4 := Lib.hid (HT3.out.below HBb.out); have HR4 := Lib.hid (HR3.out.below HBb.out); have b40 := HR4.out.c0; have b41 := HR4.out.c1; have b42 := HR4.out.c2; have HRC4 := Lib.hid (HRC.out _ HT4.out))
      | (go_at_call 22; (with_reducible refine HRC4.out.mono ?_); rintro e w5 ⟨rfl, HBc⟩; have H45 := Lib.hid (H44.out.below HBc.out); have HV5 := Lib.hid (HV4.out.below HBc.out); have HB5 := Lib.hid (HB4.out.trans (HBc.out.mono HB4.out.size)); have a50 := H45.out.c0; have a51 := H45.out.c1; have a52 := H45.out.c2; have a53 := H45.out.c3; have HT5 := Lib.hid (HT4.out.below HBc.out); have HR5 := Lib.hid (HR4.out.below HBc.out); have b50 := HR5.out.c0; have b51 := HR5.out.c1; have b52 := HR5.out.c2)
      | fail)
    refine (HAW.out _).mono ?_
    rintro e wz ⟨rfl, HBz⟩
    go_wp2_with fail
    go_ret
    exact ⟨rfl, (HB5.out).trans (HBz.out.mono (HB5.out).size)⟩
  obtain ⟨K, rfl⟩ : ∃ K : Nat, N = K := ⟨N.toNat, by omega⟩
  have hK : K < T := by omega
  have hl : K < (wordsS s).length := by rw [← totS_words, ← HT.out]; exact hK
  obtain ⟨u, hu⟩ : ∃ u, (wordsS s)[K]? = some u := ⟨_, List.getElem?_eq_getElem hl⟩
  obtain ⟨S, hS⟩ : ∃ S, S = serB s.al s.ck u := ⟨_, rfl⟩
  have HTX : Hid (∀ W, IsSs W (.slice bo bm bc) s.bl → Calls Try.prog 24 #[.agg #[.string al, .int .i64 len, .slice bo bm bc, .bool ck], .int .i64 (K : Int)] W fun e w' => e = .returned (.tuple #[.string S, .int .i64 0]) ∧ Hid (Below W.heap.size W w')) := fun W h => by rw [← HeS.out, hS]; exact Text_of h HVS.out (by rw [← HT.out]; exact hK) hu
  have HRT : Hid (∀ W, TabV s W (.slice ba nb bcp) na nc ya yc → Calls Try.prog 31 #[.agg #[.string al, .int .i64 len, .slice bo bm bc, .bool ck], .agg #[.slice ba nb bcp, .slice na k nc, .slice ya n1 yc], .int .i64 (K : Int)] W fun e w' => e = .returned (.string S) ∧ Hid (Below W.heap.size W w')) := fun W h => by rw [← HeS.out, hS]; exact RText_v HVS.out HKN.out (by rw [← HT.out]; exact hK) hu h
  have HTX3 := Lib.hid (HTX.out _ HV3.out)
  have g1 : ¬ (K : Int) < 0 := by omega
  have g2 : ¬ (K : Int) ≥ (T : Int) := by omega
  have g3 : (S == S) = true := by
    obtain ⟨d⟩ := S
    show (d == d) = true
    simp
  clear hK hl hu hS c1 c2
  go_wp2_with (first
      | (go_at_call 24; (with_reducible refine HTX3.out.mono ?_); rintro e w4 ⟨rfl, HBb⟩; have H44 := Lib.hid (H43.out.below HBb.out); have HV4 := Lib.hid (HV3.out.below HBb.out); have HB4 := Lib.hid (HB3.out.trans (HBb.out.mono HB3.out.size)); have a40 := H44.out.c0; have a41 := H44.out.c1; have a42 := H44.out.c2; have a43 := H44.out.c3; have HT4 := Lib.hid (HT3.out.below HBb.out); have HR4 := Lib.hid (HR3.out.below HBb.out); have b40 := HR4.out.c0; have b41 := HR4.out.c1; have b42 := HR4.out.c2; have HRC4 := Lib.hid (HRC.out _ HT4.out))
      | (go_at_call 22; (with_reducible refine HRC4.out.mono ?_); rintro e w5 ⟨rfl, HBc⟩; have H45 := Lib.hid (H44.out.below HBc.out); have HV5 := Lib.hid (HV4.out.below HBc.out); have HB5 := Lib.hid (HB4.out.trans (HBc.out.mono HB4.out.size)); have a50 := H45.out.c0; have a51 := H45.out.c1; have a52 := H45.out.c2; have a53 := H45.out.c3; have HT5 := Lib.hid (HT4.out.below HBc.out); have HR5 := Lib.hid (HR4.out.below HBc.out); have b50 := HR5.out.c0; have b51 := HR5.out.c1; have b52 := HR5.out.c2; have HRT5 := Lib.hid (HRT.out _ HT5.out))
      | (go_at_call 31; (with_reducible refine HRT5.out.mono ?_); rintro e w6 ⟨rfl, HBd⟩; have H46 := Lib.hid (H45.out.below HBd.out); have HV6 := Lib.hid (HV5.out.below HBd.out); have HB6 := Lib.hid (HB5.out.trans (HBd.out.mono HB5.out.size)); have a60 := H46.out.c0; have a61 := H46.out.c1; have a62 := H46.out.c2; have a63 := H46.out.c3; have HT6 := Lib.hid (HT5.out.below HBd.out); have HR6 := Lib.hid (HR5.out.below HBd.out); have b60 := HR6.out.c0; have b61 := HR6.out.c1; have b62 := HR6.out.c2)
      | fail)
  refine (HAW.out _).mono ?_
  rintro e wz ⟨rfl, HBz⟩
  go_wp2_with fail
  go_ret
  exact ⟨rfl, (HB6.out).trans (HBz.out.mono (HB6.out).size)⟩
end Go.Proofs.Ytgblfobomiiofaa
