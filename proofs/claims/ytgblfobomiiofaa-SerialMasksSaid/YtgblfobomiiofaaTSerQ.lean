/- Contracts and lemmas (several texts merged into one). -/
import Derived.Test.YtgblfobomiiofaaTSerP
import Derived.Test.YtgblfobomiiofaaTSerM
namespace Go.Proofs.Ytgblfobomiiofaa
open Go Go.RowKit Go.Shelf Gw Go.Maps

theorem M_no {s : Sch} {bv : Value} {t : ByteArray} {w : World} (hv : IsSs w bv s.bl) (hV : ValidS s) (ht : ¬ IsMask s t) : Calls Try.prog 27 #[schV s bv, .string t] w fun e w' => e = .returned (.tuple #[.int .i64 0, .int .i64 4]) ∧ Hid (Below w.heap.size w w') := by
  refine (Matches_any hv).mono ?_
  rintro e w' ⟨hb, ⟨h, _⟩ | ⟨_, h, _⟩ | ⟨_, _, rfl⟩ | ⟨_, h, _⟩⟩
  · exact absurd hV.1 h
  · exact absurd hV.2 h
  · exact ⟨rfl, hb⟩
  · exact absurd h ht
theorem T_no {s : Sch} {bv : Value} {t : ByteArray} {M : Int} {w : World} (hv : IsSs w bv s.bl) (hV : ValidS s) (ht : ¬ IsMask s t) : Calls Try.prog 28 #[schV s bv, .string t, .int .i64 M] w fun e w' => e = .returned (.tuple #[.string ⟨#[]⟩, .int .i64 4]) ∧ Hid (Below w.heap.size w w') := by
  refine (Match_any hv).mono ?_
  rintro e w' ⟨hb, ⟨h, _⟩ | ⟨_, h, _⟩ | ⟨_, _, rfl⟩ | ⟨_, h, _⟩ | ⟨_, h, _⟩⟩
  · exact absurd hV.1 h
  · exact absurd hV.2 h
  · exact ⟨rfl, hb⟩
  · exact absurd h ht
  · exact absurd h ht
theorem B_no {s : Sch} {bv : Value} {t : ByteArray} {M : Int} {w : World} (hv : IsSs w bv s.bl) (hV : ValidS s) (ht : ¬ IsMask s t) : Calls Try.prog 29 #[schV s bv, .string t, .int .i64 M] w fun e w' => e = .returned (.tuple #[.int .i64 0, .int .i64 4]) ∧ Hid (Below w.heap.size w w') := by
  refine (Below_any hv).mono ?_
  rintro e w' ⟨hb, ⟨h, _⟩ | ⟨_, h, _⟩ | ⟨_, _, rfl⟩ | ⟨_, h, _⟩ | ⟨_, h, _⟩ | ⟨_, h, _⟩⟩
  · exact absurd hV.1 h
  · exact absurd hV.2 h
  · exact ⟨rfl, hb⟩
  · exact absurd h ht
  · exact absurd h ht
  · exact absurd h ht
theorem B_out {s : Sch} {bv : Value} {t : ByteArray} {M : Int} {w : World} (hv : IsSs w bv s.bl) (hV : ValidS s) (ht : IsMask s t) (hM : ¬ (0 ≤ M ∧ M ≤ totS s)) : Calls Try.prog 29 #[schV s bv, .string t, .int .i64 M] w fun e w' => e = .returned (.tuple #[.int .i64 0, .int .i64 3]) ∧ Hid (Below w.heap.size w w') := by
  refine (Below_any hv).mono ?_
  rintro e w' ⟨hb, ⟨h, _⟩ | ⟨_, h, _⟩ | ⟨_, h, _⟩ | ⟨_, _, _, rfl⟩ | ⟨_, _, h, _⟩ | ⟨_, _, K, u, h, hu, _⟩⟩
  · exact absurd hV.1 h
  · exact absurd hV.2 h
  · exact absurd ht h
  · exact ⟨rfl, hb⟩
  · exact absurd ⟨by omega, by omega⟩ hM
  · have h1 := (List.getElem?_eq_some_iff.1 hu).1
    rw [← totS_words] at h1
    exact absurd ⟨by omega, by omega⟩ hM
theorem T_val {s : Sch} {t : ByteArray} (K : Int) (hV : ValidS s) (ht : IsMask s t) : ∃ (one : ByteArray) (g : Int), (∀ (bv : Value) (w : World), IsSs w bv s.bl → Calls Try.prog 28 #[schV s bv, .string t, .int .i64 K] w fun e w' => e = .returned (.tuple #[.string one, .int .i64 g]) ∧ Hid (Below w.heap.size w w')) ∧ ((0 ≤ K ∧ K < ((wordsM s t).length : Int) ∧ g = 0 ∧ one = wantB s t K (wordsM s t).length) ∨ (¬ (0 ≤ K ∧ K < ((wordsM s t).length : Int)) ∧ g = 3 ∧ one = ⟨#[]⟩)) := by
  by_cases h : 0 ≤ K ∧ K < ((wordsM s t).length : Int)
  · obtain ⟨k, rfl⟩ : ∃ k : Nat, K = k := ⟨K.toNat, by omega⟩
    have hk : k < (wordsM s t).length := by omega
    have hu := List.getElem?_eq_getElem hk
    exact ⟨_, 0, fun bv w hv => Match_in hv hV ht hu, .inl ⟨h.1, h.2, rfl, (wantB_end hk hu).symm⟩⟩
  · exact ⟨_, 3, fun bv w hv => Match_out hv hV ht h, .inr ⟨h, rfl, rfl⟩⟩
theorem B_val {s : Sch} {t : ByteArray} (N : Int) (hV : ValidS s) (ht : IsMask s t) : ∃ (bl h : Int), (∀ (bv : Value) (w : World), IsSs w bv s.bl → Calls Try.prog 29 #[schV s bv, .string t, .int .i64 N] w fun e w' => e = .returned (.tuple #[.int .i64 bl, .int .i64 h]) ∧ Hid (Below w.heap.size w w')) ∧ ((0 ≤ N ∧ N ≤ (totS s : Int) ∧ h = 0 ∧ bl = ((cntM s t N.toNat : Nat) : Int)) ∨ (¬ (0 ≤ N ∧ N ≤ (totS s : Int)) ∧ h = 3 ∧ bl = 0)) := by
  by_cases h : 0 ≤ N ∧ N ≤ (totS s : Int)
  · obtain ⟨k, rfl⟩ : ∃ k : Nat, N = k := ⟨N.toNat, by omega⟩
    by_cases q : k = totS s
    · exact ⟨_, 0, fun bv w hv => Below_all hv hV ht q, .inl ⟨h.1, h.2, rfl, by rw [Int.toNat_natCast, cntM_all ht (by rw [← totS_words]; omega)]⟩⟩
    · have hk : k < (wordsS s).length := by rw [← totS_words]; omega
      have hu := List.getElem?_eq_getElem hk
      exact ⟨_, 0, fun bv w hv => Below_in hv hV ht hu, .inl ⟨h.1, h.2, rfl, by rw [Int.toNat_natCast, bel_cnt ht hk]⟩⟩
  · exact ⟨_, 3, fun bv w hv => B_out hv hV ht h, .inr ⟨h, rfl, rfl⟩⟩
set_option maxRecDepth 100000 in
set_option maxHeartbeats 8000000 in
theorem serialMasks_law {s : Sch} {bv : Value} {t : ByteArray} {K N : Int} {w : World} (hv : IsSs w bv s.bl) (_hnil : NilOk bv) :
    Calls Try.prog 6 #[schV s bv, .string t, .int .i64 K, .int .i64 N] w fun e w' => e = .returned (.bool true) ∧ Hid (Below w.heap.size w w') := by
  have HAW := Lib.hid serawake_any
  obtain ⟨w1, hw1⟩ : ∃ w1, w1 = w.alloc (.cells #[.string s.al, .int .i64 s.len, bv, .bool s.ck] 24) := ⟨_, rfl⟩
  have hb1 : Below w.heap.size w w1 := by rw [hw1]; exact below_al _ _
  have H41 : Hid (B4 w.heap.size (.string s.al) (.int .i64 s.len) bv (.bool s.ck) w1) := by rw [hw1]; exact B4.new _ _ _ _ _ _
  have HFW := few_any (s := s) (hv.below hb1)
  have HV1 := Lib.hid (hv.below hb1)
  have HB1 := Lib.hid hb1
  have HW1 := Lib.hid hw1
  obtain ⟨fb, hfb⟩ : ∃ fb, fb = fewB s := ⟨_, rfl⟩
  unfold FewP at HFW
  rw [← hfb] at HFW
  have HeS : Hid (∀ v, schV s v = .agg #[.string s.al, .int .i64 s.len, v, .bool s.ck]) := fun v => rfl
  unfold schV at HFW ⊢
  obtain ⟨bo, bc, hbv, -⟩ := hv
  obtain ⟨bm, hbm⟩ : ∃ bm, bm = s.bl.length := ⟨_, rfl⟩
  rw [← hbm] at hbv
  subst hbv
  have HFW := Lib.hid HFW
  obtain ⟨al, hal⟩ : ∃ al, al = s.al := ⟨_, rfl⟩
  obtain ⟨len, hlen⟩ : ∃ len, len = s.len := ⟨_, rfl⟩
  obtain ⟨ck, hck⟩ : ∃ ck, ck = s.ck := ⟨_, rfl⟩
  rw [← hal, ← hlen, ← hck] at H41 HW1 HFW HeS ⊢
  have HAL := Lib.hid hal
  have HLEN := Lib.hid hlen
  have HCK := Lib.hid hck
  clear hw1 hb1 hfb hbm hal hlen hck
  have k0 := H41.out.c0; have k1 := H41.out.c1; have k2 := H41.out.c2; have k3 := H41.out.c3
  go_enter Try.func6, Try.ntmps6
  go_upto_region 1 with fail
  rw [← HW1.out]
  cases fb with
  | false =>
    go_wp2_with (first
      | (go_at_call 16; (with_reducible refine HFW.out.mono ?_); rintro e w2 ⟨rfl, HBf⟩; have H42 := Lib.hid (H41.out.below HBf.out); have HV2 := Lib.hid (HV1.out.below HBf.out); have HB2 := Lib.hid (HB1.out.trans (HBf.out.mono HB1.out.size)); have a20 := H42.out.c0; have a21 := H42.out.c1; have a22 := H42.out.c2; have a23 := H42.out.c3)
      | fail)
    refine (HAW.out _).mono ?_
    rintro e wz ⟨rfl, HBz⟩
    go_wp2_with fail
    go_ret
    exact ⟨rfl, (HB2.out).trans (HBz.out.mono (HB2.out).size)⟩
  | true =>
  by_cases hbig : t.size > 100
  case pos =>
    have hbig1 : (t.size : Int) > 100 := by omega
    go_wp2_with (first
      | (go_at_call 16; (with_reducible refine HFW.out.mono ?_); rintro e w2 ⟨rfl, HBf⟩; have H42 := Lib.hid (H41.out.below HBf.out); have HV2 := Lib.hid (HV1.out.below HBf.out); have HB2 := Lib.hid (HB1.out.trans (HBf.out.mono HB1.out.size)); have a20 := H42.out.c0; have a21 := H42.out.c1; have a22 := H42.out.c2; have a23 := H42.out.c3)
      | fail)
    refine (HAW.out _).mono ?_
    rintro e wz ⟨rfl, HBz⟩
    go_wp2_with fail
    go_ret
    exact ⟨rfl, (HB2.out).trans (HBz.out.mono (HB2.out).size)⟩
  have hbig1 : ¬ (t.size : Int) > 100 := by omega
  have HSZ : Hid (t.size ≤ 100) := by show _ ≤ _; omega
  clear hbig
  by_cases hV : ValidS s
  case neg =>
    have HCK : Hid (∀ (W : World), IsSs W (.slice bo bm bc) s.bl → Calls Try.prog 19 #[.agg #[.string al, .int .i64 len, .slice bo bm bc, .bool ck]] W fun e w' => ∃ E : Int, e = .returned (.tuple #[.agg #[.slice none 0 0, .slice none 0 0, .slice none 0 0], .int .i64 E]) ∧ (E != 0) = true ∧ Hid (Below W.heap.size W w')) := fun W h => by rw [← HeS.out]; exact RCheck_no h hV
    clear hV
    go_wp2_with (first
      | (go_at_call 16; (with_reducible refine HFW.out.mono ?_); rintro e w2 ⟨rfl, HBf⟩; have H42 := Lib.hid (H41.out.below HBf.out); have HV2 := Lib.hid (HV1.out.below HBf.out); have HB2 := Lib.hid (HB1.out.trans (HBf.out.mono HB1.out.size)); have a20 := H42.out.c0; have a21 := H42.out.c1; have a22 := H42.out.c2; have a23 := H42.out.c3; have HCK2 := Lib.hid (HCK.out _ HV2.out))
      | (go_at_call 19; (with_reducible refine HCK2.out.mono ?_); rintro e wa ⟨E, rfl, hE, HBa⟩; have HBA := Lib.hid (HB2.out.trans (HBa.out.mono HB2.out.size)))
      | fail)
    have HBC := Lib.hid (HBA.out.trans ((below_al wa (.cells #[.slice none 0 0, .slice none 0 0, .slice none 0 0] 30)).mono HBA.out.size))
    refine (HAW.out _).mono ?_
    rintro e wz ⟨rfl, HBz⟩
    go_wp2_with fail
    go_ret
    exact ⟨rfl, (HBC.out).trans (HBz.out.mono (HBC.out).size)⟩
  have HVS := Lib.hid hV
  have HCK : Hid (∀ (W : World), IsSs W (.slice bo bm bc) s.bl → Calls Try.prog 19 #[.agg #[.string al, .int .i64 len, .slice bo bm bc, .bool ck]] W fun e w' => ∃ ba nb bcp na k nc ya n1 yc, e = .returned (.tuple #[.agg #[.slice ba nb bcp, .slice na k nc, .slice ya n1 yc], .int .i64 0]) ∧ Hid (TabV s w' (.slice ba nb bcp) na nc ya yc) ∧ Hid (k = (LD s).length ∧ n1 = nS s + 1) ∧ Hid (Below W.heap.size W w')) := fun W h => by rw [← HeS.out]; exact RCheck_yes h hV
  go_upto_region 4 with (first
      | (go_at_call 16; (with_reducible refine HFW.out.mono ?_); rintro e w2 ⟨rfl, HBf⟩; have H42 := Lib.hid (H41.out.below HBf.out); have HV2 := Lib.hid (HV1.out.below HBf.out); have HB2 := Lib.hid (HB1.out.trans (HBf.out.mono HB1.out.size)); have a20 := H42.out.c0; have a21 := H42.out.c1; have a22 := H42.out.c2; have a23 := H42.out.c3; have HCK2 := Lib.hid (HCK.out _ HV2.out))
      | (go_at_call 19; (with_reducible refine HCK2.out.mono ?_); rintro e wa ⟨ba, nb, bcp, na, k, nc, ya, n1, yc, rfl, HTa, HKN, HBa⟩; have HBA := Lib.hid (HB2.out.trans (HBa.out.mono HB2.out.size)))
      | fail)
  obtain ⟨w3, hw3⟩ : ∃ w3, w3 = wa.alloc (.cells #[.slice ba nb bcp, .slice na k nc, .slice ya n1 yc] 30) := ⟨_, rfl⟩
  have hb3 := below_al wa (.cells #[.slice ba nb bcp, .slice na k nc, .slice ya n1 yc] 30)
  rw [← hw3] at hb3
  rw [← hw3]
  have H43 := Lib.hid ((H42.out.below HBa.out).below hb3)
  have HV3 := Lib.hid ((HV2.out.below HBa.out).below hb3)
  have HB3 := Lib.hid (HBA.out.trans (hb3.mono HBA.out.size))
  clear hw3 hb3 a20 a21 a22 a23 k0 k1 k2 k3
  have a30 := H43.out.c0; have a31 := H43.out.c1; have a32 := H43.out.c2; have a33 := H43.out.c3
  have HSMA : Hid (∀ W, IsSs W (.slice bo bm bc) s.bl → Calls Try.prog 34 #[.agg #[.string al, .int .i64 len, .slice bo bm bc, .bool ck], .int .i64 4000] W fun e w' => ∃ r : Bool, e = .returned (.bool r) ∧ Hid (r = true ↔ s.al.size ^ nS s ≤ 4000) ∧ Hid (Below W.heap.size W w')) := fun W _ => by
    rw [← HeS.out]
    exact (Small_any (s := s) (M := 4000) hV.1 (by decide)).mono fun e w' ⟨r, h1, h2, h3⟩ => ⟨r, h1, h2, h3⟩
  by_cases hsm : s.al.size ^ nS s ≤ 4000
  case neg =>
    have HS3 : Hid (Calls Try.prog 34 #[.agg #[.string al, .int .i64 len, .slice bo bm bc, .bool ck], .int .i64 4000] w3 fun e w' => e = .returned (.bool false) ∧ Hid (Below w3.heap.size w3 w')) := by
      refine (HSMA.out _ HV3.out).mono ?_
      rintro e w' ⟨r, rfl, hr, hb⟩
      cases r with
      | true => exact absurd (hr.out.1 rfl) hsm
      | false => exact ⟨rfl, hb⟩
    clear hV hsm
    go_wp2_with (first
      | (go_at_call 34; (with_reducible refine HS3.out.mono ?_); rintro e w4 ⟨rfl, HBb⟩; have H44 := Lib.hid (H43.out.below HBb.out); have HV4 := Lib.hid (HV3.out.below HBb.out); have HB4 := Lib.hid (HB3.out.trans (HBb.out.mono HB3.out.size)); have a40 := H44.out.c0; have a41 := H44.out.c1; have a42 := H44.out.c2; have a43 := H44.out.c3)
      | fail)
    refine (HAW.out _).mono ?_
    rintro e wz ⟨rfl, HBz⟩
    go_wp2_with fail
    go_ret
    exact ⟨rfl, (HB4.out).trans (HBz.out.mono (HB4.out).size)⟩
  have HS3 : Hid (Calls Try.prog 34 #[.agg #[.string al, .int .i64 len, .slice bo bm bc, .bool ck], .int .i64 4000] w3 fun e w' => e = .returned (.bool true) ∧ Hid (Below w3.heap.size w3 w')) := by
    refine (HSMA.out _ HV3.out).mono ?_
    rintro e w' ⟨r, rfl, hr, hb⟩
    cases r with
    | false => exact absurd (hr.out.2 hsm) (by decide)
    | true => exact ⟨rfl, hb⟩
  have HSM := Lib.hid hsm
  have HMKr : Hid (∀ W, IsSs W (.slice bo bm bc) s.bl → Calls Try.prog 35 #[.agg #[.string al, .int .i64 len, .slice bo bm bc, .bool ck], .string t] W fun e w' => ∃ r : Bool, e = .returned (.bool r) ∧ Hid (r = true ↔ IsMask s t) ∧ Hid (Below W.heap.size W w')) := fun W _ => by rw [← HeS.out]; exact RMask_any HVS.out.1 (by have := HSZ.out; omega)
  by_cases ht : IsMask s t
  case neg =>
    have HM : Hid (∀ W, IsSs W (.slice bo bm bc) s.bl → Calls Try.prog 27 #[.agg #[.string al, .int .i64 len, .slice bo bm bc, .bool ck], .string t] W fun e w' => e = .returned (.tuple #[.int .i64 0, .int .i64 4]) ∧ Hid (Below W.heap.size W w')) := fun W h => by rw [← HeS.out]; exact M_no h hV ht
    have HT : Hid (∀ W, IsSs W (.slice bo bm bc) s.bl → Calls Try.prog 28 #[.agg #[.string al, .int .i64 len, .slice bo bm bc, .bool ck], .string t, .int .i64 K] W fun e w' => e = .returned (.tuple #[.string ⟨#[]⟩, .int .i64 4]) ∧ Hid (Below W.heap.size W w')) := fun W h => by rw [← HeS.out]; exact T_no h hV ht
    have HB : Hid (∀ W, IsSs W (.slice bo bm bc) s.bl → Calls Try.prog 29 #[.agg #[.string al, .int .i64 len, .slice bo bm bc, .bool ck], .string t, .int .i64 N] W fun e w' => e = .returned (.tuple #[.int .i64 0, .int .i64 4]) ∧ Hid (Below W.heap.size W w')) := fun W h => by rw [← HeS.out]; exact B_no h hV ht
    have HMK : Hid (∀ W, IsSs W (.slice bo bm bc) s.bl → Calls Try.prog 35 #[.agg #[.string al, .int .i64 len, .slice bo bm bc, .bool ck], .string t] W fun e w' => e = .returned (.bool false) ∧ Hid (Below W.heap.size W w')) := fun W h => by
      refine (HMKr.out W h).mono ?_
      rintro e w' ⟨r, rfl, hr, hb⟩
      cases r with
      | true => exact absurd (hr.out.1 rfl) ht
      | false => exact ⟨rfl, hb⟩
    clear hV hsm ht
    go_wp2_with (first
      | (go_at_call 34; (with_reducible refine HS3.out.mono ?_); rintro e w4 ⟨rfl, HBb⟩; have H44 := Lib.hid (H43.out.below HBb.out); have HV4 := Lib.hid (HV3.out.below HBb.out); have HB4 := Lib.hid (HB3.out.trans (HBb.out.mono HB3.out.size)); have a40 := H44.out.c0; have a41 := H44.out.c1; have a42 := H44.out.c2; have a43 := H44.out.c3; have HM4 := Lib.hid (HM.out _ HV4.out))
      | (go_at_call 27; (with_reducible refine HM4.out.mono ?_); rintro e w5 ⟨rfl, HBc⟩; have H45 := Lib.hid (H44.out.below HBc.out); have HV5 := Lib.hid (HV4.out.below HBc.out); have HB5 := Lib.hid (HB4.out.trans (HBc.out.mono HB4.out.size)); have a50 := H45.out.c0; have a51 := H45.out.c1; have a52 := H45.out.c2; have a53 := H45.out.c3; have HT5 := Lib.hid (HT.out _ HV5.out))
      | (go_at_call 28; (with_reducible refine HT5.out.mono ?_); rintro e w6 ⟨rfl, HBd⟩; have H46 := Lib.hid (H45.out.below HBd.out); have HV6 := Lib.hid (HV5.out.below HBd.out); have HB6 := Lib.hid (HB5.out.trans (HBd.out.mono HB5.out.size)); have a60 := H46.out.c0; have a61 := H46.out.c1; have a62 := H46.out.c2; have a63 := H46.out.c3; have HB6' := Lib.hid (HB.out _ HV6.out))
      | (go_at_call 29; (with_reducible refine HB6'.out.mono ?_); rintro e w7 ⟨rfl, HBe⟩; have H47 := Lib.hid (H46.out.below HBe.out); have HV7 := Lib.hid (HV6.out.below HBe.out); have HB7 := Lib.hid (HB6.out.trans (HBe.out.mono HB6.out.size)); have a70 := H47.out.c0; have a71 := H47.out.c1; have a72 := H47.out.c2; have a73 := H47.out.c3; have HMK7 := Lib.hid (HMK.out _ HV7.out))
      | (go_at_call 35; (with_reducible refine HMK7.out.mono ?_); rintro e w8 ⟨rfl, HBf'⟩; have H48 := Lib.hid (H47.out.below HBf'.out); have HV8 := Lib.hid (HV7.out.below HBf'.out); have HB8 := Lib.hid (HB7.out.trans (HBf'.out.mono HB7.out.size)); have a80 := H48.out.c0; have a81 := H48.out.c1; have a82 := H48.out.c2; have a83 := H48.out.c3)
      | fail)
    refine (HAW.out _).mono ?_
    rintro e wz ⟨rfl, HBz⟩
    go_wp2_with fail
    go_ret
    exact ⟨rfl, (HB8.out).trans (HBz.out.mono (HB8.out).size)⟩
  have HTM := Lib.hid ht
  have HMK : Hid (∀ W, IsSs W (.slice bo bm bc) s.bl → Calls Try.prog 35 #[.agg #[.string al, .int .i64 len, .slice bo bm bc, .bool ck], .string t] W fun e w' => e = .returned (.bool true) ∧ Hid (Below W.heap.size W w')) := fun W h => by
    refine (HMKr.out W h).mono ?_
    rintro e w' ⟨r, rfl, hr, hb⟩
    cases r with
    | false => exact absurd (hr.out.2 ht) (by decide)
    | true => exact ⟨rfl, hb⟩
  obtain ⟨C, hC⟩ : ∃ C, C = (wordsM s t).length := ⟨_, rfl⟩
  obtain ⟨one, g, hone, honeV⟩ := T_val K hV ht
  obtain ⟨bl, hh, hbl, hblV⟩ := B_val N hV ht
  rw [← hC] at honeV
  have HONE := Lib.hid honeV; have HBL := Lib.hid hblV
  have HM : Hid (∀ W, IsSs W (.slice bo bm bc) s.bl → Calls Try.prog 27 #[.agg #[.string al, .int .i64 len, .slice bo bm bc, .bool ck], .string t] W fun e w' => e = .returned (.tuple #[.int .i64 (C : Int), .int .i64 0]) ∧ Hid (Below W.heap.size W w')) := fun W h => by rw [← HeS.out, hC]; exact Matches_yes h hV ht
  have HT : Hid (∀ W, IsSs W (.slice bo bm bc) s.bl → Calls Try.prog 28 #[.agg #[.string al, .int .i64 len, .slice bo bm bc, .bool ck], .string t, .int .i64 K] W fun e w' => e = .returned (.tuple #[.string one, .int .i64 g]) ∧ Hid (Below W.heap.size W w')) := fun W h => by rw [← HeS.out]; exact hone _ _ h
  have HB : Hid (∀ W, IsSs W (.slice bo bm bc) s.bl → Calls Try.prog 29 #[.agg #[.string al, .int .i64 len, .slice bo bm bc, .bool ck], .string t, .int .i64 N] W fun e w' => e = .returned (.tuple #[.int .i64 bl, .int .i64 hh]) ∧ Hid (Below W.heap.size W w')) := fun W h => by rw [← HeS.out]; exact hbl _ _ h
  obtain ⟨T, hT⟩ : ∃ T, T = (wordsS s).length := ⟨_, rfl⟩
  have HTT := Lib.hid hT
  have HAL : Hid (∀ W, IsSs W (.slice bo bm bc) s.bl → Calls Try.prog 36 #[.agg #[.string al, .int .i64 len, .slice bo bm bc, .bool ck]] W fun e w' => ∃ ao ac, e = .returned (.slice ao T ac) ∧ Hid (IsSs w' (.slice ao T ac) ((wordsS s).map (serB s.al s.ck))) ∧ Hid (Below W.heap.size W w')) := fun W h => by
    rw [← HeS.out]
    refine (RAll_any HVS.out.1 h HSM.out).mono ?_
    rintro e w' ⟨v, rfl, hv2, hb⟩
    have hv3 := hv2.out
    obtain ⟨ao, ac, rfl, -⟩ := hv3
    rw [List.length_map, ← hT] at hv2 ⊢
    exact ⟨ao, ac, rfl, hv2, hb⟩
  have HCC := Lib.hid hC
  have hTl : T ≤ 4000 := by
    rw [hT, wordsS_filter HVS.out.1]
    exact Nat.le_trans (List.length_filter_le _ _) (by rw [allW_len]; exact HSM.out)
  clear hV hsm ht hC hone honeV hbl hblV hT
  go_upto_region 12 with (first
      | (go_at_call 34; (with_reducible refine HS3.out.mono ?_); rintro e w4 ⟨rfl, HBb⟩; have H44 := Lib.hid (H43.out.below HBb.out); have HV4 := Lib.hid (HV3.out.below HBb.out); have HB4 := Lib.hid (HB3.out.trans (HBb.out.mono HB3.out.size)); have a40 := H44.out.c0; have a41 := H44.out.c1; have a42 := H44.out.c2; have a43 := H44.out.c3; have HM4 := Lib.hid (HM.out _ HV4.out))
      | (go_at_call 27; (with_reducible refine HM4.out.mono ?_); rintro e w5 ⟨rfl, HBc⟩; have H45 := Lib.hid (H44.out.below HBc.out); have HV5 := Lib.hid (HV4.out.below HBc.out); have HB5 := Lib.hid (HB4.out.trans (HBc.out.mono HB4.out.size)); have a50 := H45.out.c0; have a51 := H45.out.c1; have a52 := H45.out.c2; have a53 := H45.out.c3; have HT5 := Lib.hid (HT.out _ HV5.out))
      | (go_at_call 28; (with_reducible refine HT5.out.mono ?_); rintro e w6 ⟨rfl, HBd⟩; have H46 := Lib.hid (H45.out.below HBd.out); have HV6 := Lib.hid (HV5.out.below HBd.out); have HB6 := Lib.hid (HB5.out.trans (HBd.out.mono HB5.out.size)); have a60 := H46.out.c0; have a61 := H46.out.c1; have a62 := H46.out.c2; have a63 := H46.out.c3; have HB6' := Lib.hid (HB.out _ HV6.out))
      | (go_at_call 29; (with_reducible refine HB6'.out.mono ?_); rintro e w7 ⟨rfl, HBe⟩; have H47 := Lib.hid (H46.out.below HBe.out); have HV7 := Lib.hid (HV6.out.below HBe.out); have HB7 := Lib.hid (HB6.out.trans (HBe.out.mono HB6.out.size)); have a70 := H47.out.c0; have a71 := H47.out.c1; have a72 := H47.out.c2; have a73 := H47.out.c3; have HMK7 := Lib.hid (HMK.out _ HV7.out))
      | (go_at_call 35; (with_reducible refine HMK7.out.mono ?_); rintro e w8 ⟨rfl, HBf'⟩; have H48 := Lib.hid (H47.out.below HBf'.out); have HV8 := Lib.hid (HV7.out.below HBf'.out); have HB8 := Lib.hid (HB7.out.trans (HBf'.out.mono HB7.out.size)); have a80 := H48.out.c0; have a81 := H48.out.c1; have a82 := H48.out.c2; have a83 := H48.out.c3; have HAL8 := Lib.hid (HAL.out _ HV8.out))
      | (go_at_call 36; (with_reducible refine HAL8.out.mono ?_); rintro e w9 ⟨ao, ac, rfl, HIS, HBg⟩; have HB9 := Lib.hid (HB8.out.trans (HBg.out.mono HB8.out.size)))
      | fail)
  clear a30 a31 a32 a33 a40 a41 a42 a43 a50 a51 a52 a53 a60 a61 a62 a63 a70 a71 a72 a73 a80 a81 a82 a83
  go_wp2_with fail
  go_loopw [18, 19, 20, 21] (fun s18 s19 s20 s21 wr => ∃ (c l i : Nat) (X : ByteArray), i ≤ T ∧ c ≤ i ∧ l ≤ i ∧ s18 = .int .i64 c ∧ s19 = .int .i64 l ∧ s20 = .string X ∧ s21 = .int .i64 i ∧ Hid (c = cntM s t i) ∧ Hid (l = cntM s t (min i N.toNat)) ∧ Hid (X = wantB s t K c) ∧ Hid (Below w9.heap.size w9 wr)) (fun _ _ _ s21 _ => T - (intOf s21).toNat)
  case atStart => exact ⟨0, 0, 0, ⟨#[]⟩, Nat.zero_le _, Nat.le_refl _, Nat.le_refl _, rfl, rfl, rfl, rfl, (cntM_zero s t).symm, by show _ = _; rw [Nat.zero_min, cntM_zero], (wantB_zero s t K).symm, Below.refl _ _⟩
  case round =>
    obtain ⟨c, l, i, X, hi, hci, hli, rfl, rfl, rfl, rfl, HC, HL, HX, HBR⟩ := hrel
    have HBX := Lib.hid (HB9.out.trans (HBR.out.mono HB9.out.size))
    by_cases q : i < T
    · have q1 : (i : Int) < (T : Int) := by omega
      have hiT : i < (wordsS s).length := by rw [← HTT.out]; exact q
      obtain ⟨B, o, hao, d1⟩ := (HIS.out.below HBR.out).at' (j := i) (by rw [List.length_map]; exact hiT)
      rw [List.getElem_map] at d1
      obtain ⟨Y, hY⟩ : ∃ Y, Y = serB s.al s.ck (wordsS s)[i] := ⟨_, rfl⟩
      rw [← hY] at d1
      obtain ⟨hum1, -, -⟩ := wordsS_mem (List.getElem_mem hiT)
      have hYs : Y.size = t.size := by rw [hY, serB_size _ _ _ hum1, HTM.out.1]
      have HRM := Lib.hid (fun (W : World) => RMatches_any (t := t) (b := Y) hYs (by have := HSZ.out; omega) W)
      obtain ⟨i1, hi1⟩ : ∃ i1, i1 = i + 1 := ⟨_, rfl⟩
      have hwi : IntKind.i64.wrap ((i : Int) + 1) = (i1 : Int) := by rw [IntWalk.i64_in _ (by omega)]; omega
      have him : T - i1 < T - i := by omega
      have hi1T : i1 ≤ T := by omega
      have hci1 : c ≤ i1 := by omega
      have hli1 : l ≤ i1 := by omega
      by_cases hp : passM s t (wordsS s)[i] = true
      · have HR1 : Hid (∀ W, Calls Try.prog 37 #[.string t, .string Y] W fun e w' => e = .returned (.bool true) ∧ Hid (Below W.heap.size W w')) := fun W => by
          refine (HRM.out W).mono ?_
          rintro e w' ⟨r, rfl, hr, hb⟩
          have hm := (pass_iff HVS.out HTM.out (List.getElem_mem hiT)).1 hp
          rw [← hY] at hm
          cases r with
          | true => exact ⟨rfl, hb⟩
          | false => exact absurd (hr.2 hm) (by decide)
        have hcy := cntM_yes hiT hp
        obtain ⟨c1, hc1⟩ : ∃ c1, c1 = c + 1 := ⟨_, rfl⟩
        have hwc : IntKind.i64.wrap ((c : Int) + 1) = (c1 : Int) := by rw [IntWalk.i64_in _ (by omega)]; omega
        have hc1i : c1 ≤ i1 := by omega
        have HC1 : Hid (c1 = cntM s t i1) := by show c1 = _; rw [hi1, hcy, ← HC.out, hc1]
        obtain ⟨X1, hX1, hX1c⟩ : ∃ X1, X1 = wantB s t K c1 ∧ (((c : Int) = K ∧ X1 = Y) ∨ (¬ (c : Int) = K ∧ X1 = X)) := by
          by_cases e : (c : Int) = K
          · refine ⟨_, rfl, .inl ⟨e, ?_⟩⟩
            rw [hc1, HC.out, hY]
            exact wantB_hit HTM.out hiT hp (by rw [← HC.out]; exact e)
          · refine ⟨_, rfl, .inr ⟨e, ?_⟩⟩
            rw [hc1, HX.out]
            exact wantB_miss e
        have HX1 := Lib.hid hX1
        obtain ⟨l1, hl1⟩ : ∃ l1, l1 = l + 1 := ⟨_, rfl⟩
        have hwl : IntKind.i64.wrap ((l : Int) + 1) = (l1 : Int) := by rw [IntWalk.i64_in _ (by omega)]; omega
        have hl1i : l1 ≤ i1 := by omega
        have hlc : ((i : Int) < N ∧ l1 = cntM s t (min i1 N.toNat)) ∨ (¬ (i : Int) < N ∧ l = cntM s t (min i1 N.toNat)) := by
          by_cases e : (i : Int) < N
          · refine .inl ⟨e, ?_⟩
            have h5 := HL.out
            rw [show min i N.toNat = i by omega] at h5
            rw [show min i1 N.toNat = i + 1 by omega, hcy, hl1, h5]
          · refine .inr ⟨e, ?_⟩
            have h5 := HL.out
            rw [show min i N.toNat = N.toNat by omega] at h5
            rw [show min i1 N.toNat = N.toNat by omega, h5]
        subst hao
        clear hY hum1 hYs hi1 hp hcy hc1 hX1 hl1 hiT
        rcases hX1c with ⟨e1, rfl⟩ | ⟨e1, rfl⟩
        · have e3 : ((c : Int) == K) = true := by rw [e1]; simp
          clear e1
          rcases hlc with ⟨e2, hL⟩ | ⟨e2, hL⟩
          · have HL1 := Lib.hid hL
            clear hL
            go_wp2_with (first
              | (go_at_call 37; (with_reducible refine (HR1.out _).mono ?_); rintro e wq ⟨rfl, HBq⟩; have HBQ := Lib.hid (HBR.out.trans (HBq.out.mono HBR.out.size)); have d1q := (HBq.out.cell (p := ⟨B, o + i, none⟩) (World.block_lt_of_cell? _ _ d1)).trans d1)
              | fail)
            go_roundw
            case rel => exact ⟨c1, l1, i1, _, hi1T, hc1i, hl1i, by go_num, by go_num, rfl, by go_num, HC1, HL1, HX1, HBQ⟩
            case measure => simp [intOf]; omega
          · have HL1 := Lib.hid hL
            clear hL
            go_wp2_with (first
              | (go_at_call 37; (with_reducible refine (HR1.out _).mono ?_); rintro e wq ⟨rfl, HBq⟩; have HBQ := Lib.hid (HBR.out.trans (HBq.out.mono HBR.out.size)); have d1q := (HBq.out.cell (p := ⟨B, o + i, none⟩) (World.block_lt_of_cell? _ _ d1)).trans d1)
              | fail)
            go_roundw
            case rel => exact ⟨c1, l, i1, _, hi1T, hc1i, hli1, by go_num, rfl, rfl, by go_num, HC1, HL1, HX1, HBQ⟩
            case measure => simp [intOf]; omega
        · have e3 : ((c : Int) == K) = false := beq_eq_false_iff_ne.2 e1
          clear e1
          rcases hlc with ⟨e2, hL⟩ | ⟨e2, hL⟩
          · have HL1 := Lib.hid hL
            clear hL
            go_wp2_with (first
              | (go_at_call 37; (with_reducible refine (HR1.out _).mono ?_); rintro e wq ⟨rfl, HBq⟩; have HBQ := Lib.hid (HBR.out.trans (HBq.out.mono HBR.out.size)); have d1q := (HBq.out.cell (p := ⟨B, o + i, none⟩) (World.block_lt_of_cell? _ _ d1)).trans d1)
              | fail)
            go_roundw
            case rel => exact ⟨c1, l1, i1, _, hi1T, hc1i, hl1i, by go_num, by go_num, rfl, by go_num, HC1, HL1, HX1, HBQ⟩
            case measure => simp [intOf]; omega
          · have HL1 := Lib.hid hL
            clear hL
            go_wp2_with (first
              | (go_at_call 37; (with_reducible refine (HR1.out _).mono ?_); rintro e wq ⟨rfl, HBq⟩; have HBQ := Lib.hid (HBR.out.trans (HBq.out.mono HBR.out.size)); have d1q := (HBq.out.cell (p := ⟨B, o + i, none⟩) (World.block_lt_of_cell? _ _ d1)).trans d1)
              | fail)
            go_roundw
            case rel => exact ⟨c1, l, i1, _, hi1T, hc1i, hli1, by go_num, rfl, rfl, by go_num, HC1, HL1, HX1, HBQ⟩
            case measure => simp [intOf]; omega
      · have HR1 : Hid (∀ W, Calls Try.prog 37 #[.string t, .string Y] W fun e w' => e = .returned (.bool false) ∧ Hid (Below W.heap.size W w')) := fun W => by
          refine (HRM.out W).mono ?_
          rintro e w' ⟨r, rfl, hr, hb⟩
          cases r with
          | false => exact ⟨rfl, hb⟩
          | true =>
            have hm := hr.1 rfl
            rw [hY] at hm
            exact absurd ((pass_iff HVS.out HTM.out (List.getElem_mem hiT)).2 hm) hp
        have hcn := cntM_no hiT hp
        have HC1 : Hid (c = cntM s t i1) := by show c = _; rw [hi1, hcn]; exact HC.out
        have HL1 : Hid (l = cntM s t (min i1 N.toNat)) := by
          show l = _
          by_cases e : (i : Int) < N
          · have h5 := HL.out
            rw [show min i N.toNat = i by omega] at h5
            rw [show min i1 N.toNat = i + 1 by omega, hcn, h5]
          · have h5 := HL.out
            rw [show min i N.toNat = N.toNat by omega] at h5
            rw [show min i1 N.toNat = N.toNat by omega, h5]
        subst hao
        clear hY hum1 hYs hi1 hp hcn hiT
        go_wp2_with (first
          | (go_at_call 37; (with_reducible refine (HR1.out _).mono ?_); rintro e wq ⟨rfl, HBq⟩; have HBQ := Lib.hid (HBR.out.trans (HBq.out.mono HBR.out.size)))
          | fail)
        go_roundw
        case rel => exact ⟨c, l, i1, X, hi1T, hci1, hli1, rfl, rfl, rfl, by go_num, HC1, HL1, HX, HBQ⟩
        case measure => simp [intOf]; omega
    · obtain rfl : i = T := by omega
      have q1 : ¬ (i : Int) < (i : Int) := by omega
      have hcC : c = C := by rw [HC.out, HCC.out]; exact cntM_all HTM.out (by rw [← HTT.out]; exact Nat.le_refl _)
      subst hcC
      have hXX : (X.toList == X.toList) = true := by simp
      have hone : (K < 0 ∧ g = 3 ∧ one = ⟨#[]⟩) ∨ (¬ K < 0 ∧ K ≥ (c : Int) ∧ g = 3 ∧ one = ⟨#[]⟩) ∨ (¬ K < 0 ∧ ¬ K ≥ (c : Int) ∧ g = 0 ∧ one = X) := by
        rcases HONE.out with ⟨h1, h2, h3, h4⟩ | ⟨h1, h2, h3⟩
        · exact .inr (.inr ⟨by omega, by omega, h3, by rw [h4, HX.out]⟩)
        · by_cases e : K < 0
          · exact .inl ⟨e, h2, h3⟩
          · exact .inr (.inl ⟨e, by omega, h2, h3⟩)
      have hbl : (N < 0 ∧ hh = 3 ∧ bl = 0) ∨ (¬ N < 0 ∧ N > (i : Int) ∧ hh = 3 ∧ bl = 0) ∨ (¬ N < 0 ∧ ¬ N > (i : Int) ∧ hh = 0 ∧ bl = (l : Int)) := by
        have htt : totS s = i := by rw [totS_words, HTT.out]
        rcases HBL.out with ⟨h1, h2, h3, h4⟩ | ⟨h1, h2, h3⟩
        · refine .inr (.inr ⟨by omega, by omega, h3, ?_⟩)
          rw [h4, HL.out, show min i N.toNat = N.toNat by omega]
        · by_cases e : N < 0
          · exact .inl ⟨e, h2, h3⟩
          · exact .inr (.inl ⟨e, by omega, h2, h3⟩)
      rcases hone with ⟨m1, rfl, rfl⟩ | ⟨m1, m2, rfl, rfl⟩ | ⟨m1, m2, rfl, rfl⟩ <;> rcases hbl with ⟨p1, rfl, rfl⟩ | ⟨p1, p2, rfl, rfl⟩ | ⟨p1, p2, rfl, rfl⟩
      all_goals
        go_wp2_with fail
        refine (HAW.out _).mono ?_
        rintro e wz ⟨rfl, HBz⟩
        go_wp2_with fail
        go_ret
        exact ⟨rfl, HBX.out.trans (HBz.out.mono HBX.out.size)⟩
end Go.Proofs.Ytgblfobomiiofaa
