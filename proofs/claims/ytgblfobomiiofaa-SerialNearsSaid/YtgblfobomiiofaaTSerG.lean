/- Contracts and lemmas (several texts merged into one). -/
import Derived.Test.YtgblfobomiiofaaTSerF
import Derived.Test.YtgblfobomiiofaaTSerD
namespace Go.Proofs.Ytgblfobomiiofaa
open Go Go.RowKit Go.Shelf Gw Go.Maps

/-- a word with a sign changed -/
theorem partT_word {t al : ByteArray} (ha : GoodA al) {i c : Nat} (hi : i < t.size) (hc : c < al.size) : wordN al (partT t al i c) = (wordN al t).set i c := by
  unfold wordN
  rw [partT_bys hi hc, List.map_set]
  congr 1
  exact idx_sign ha hc
theorem partT_of {t al : ByteArray} {i c : Nat} (hi : i < t.size) (hc : c < al.size) (h : OfA t al) : OfA (partT t al i c) al := fun b hb => by
  rw [partT_bys hi hc] at hb
  rcases List.mem_or_eq_of_mem_set hb with h1 | h1
  · exact h b h1
  · rw [h1]; exact bys_at hc
/-- Near of a serial with a check character -/
theorem Near_serial {s : Sch} {bv : Value} {w : World} (hv : IsSs w bv s.bl) (hV : ValidS s) (hck : s.ck = true) {u : List Nat} (hu : u ∈ wordsS s) :
    Calls Try.prog 30 #[schV s bv, .string (serB s.al s.ck u)] w fun e w' => ∃ ao c, e = .returned (.tuple #[.slice ao 0 c, .int .i64 0]) ∧ Hid (Below w.heap.size w w') := by
  obtain ⟨h1, h2, h3⟩ := wordsS_mem hu
  have hw := serB_word hV.1.1 s.ck h2
  have hP : (serB s.al s.ck u).size = szN (nS s) s.ck ∧ OfA (serB s.al s.ck u) s.al := ⟨serB_size _ _ _ h1, serB_of hV.1.1.1 _ h2⟩
  have hE := serU_ends s.al (nS s) s.ck h1
  have hN : nbS s (serB s.al s.ck u) = [] := by
    unfold nbS
    rw [hw]
    have hev := hV.1.2.2.2.2 hck
    have hl : (serU s.al s.ck u).length = nS s + 1 := by rw [serU_len _ _ _ h1, hck]; rfl
    rw [hck] at hE hl ⊢
    exact nbI_none hev hV.1.1.1 hl (serU_lt hV.1.1.1 true h2) hE (Nat.le_refl _)
  refine (Near_all hv).mono ?_
  rintro e w' ⟨hb, ⟨hn, _⟩ | ⟨_, hn, _⟩ | ⟨_, hn, _⟩ | ⟨_, _, L, sv, hp, _, rfl, hs⟩⟩
  · exact absurd hV.1 hn
  · exact absurd hV.2 hn
  · exact absurd hP hn
  · rw [hN] at hp
    obtain rfl := hp.eq_nil
    obtain ⟨a, c, rfl, _⟩ := hs
    exact ⟨a, c, rfl, hb⟩
set_option maxRecDepth 100000 in
set_option maxHeartbeats 8000000 in
theorem serialApart_law {s : Sch} {bv : Value} {N I M : Int} {w : World} (hv : IsSs w bv s.bl) (_hnil : NilOk bv) :
    Calls Try.prog 13 #[schV s bv, .int .i64 N, .int .i64 I, .int .i64 M] w fun e w' => e = .returned (.bool true) ∧ Hid (Below w.heap.size w w') := by
  have HAW := Lib.hid serawake_any
  obtain ⟨w1, hw1⟩ : ∃ w1, w1 = w.alloc (.cells #[.string s.al, .int .i64 s.len, bv, .bool s.ck] 24) := ⟨_, rfl⟩
  have hb1 : Below w.heap.size w w1 := by rw [hw1]; exact below_al _ _
  have H41 : Hid (B4 w.heap.size (.string s.al) (.int .i64 s.len) bv (.bool s.ck) w1) := by rw [hw1]; exact B4.new _ _ _ _ _ _
  have HFW := few_any (s := s) (hv.below hb1)
  have HV1 := Lib.hid (hv.below hb1)
  have HB1 := Lib.hid hb1
  have HW1 := Lib.hid hw1
  obtain ⟨fb, hfb⟩ : ∃ fb, fb = fewB s := ⟨_, rfl⟩
  unfold FewP at HFW
  rw [← hfb] at HFW
  have HeS : Hid (∀ v, schV s v = .agg #[.string s.al, .int .i64 s.len, v, .bool s.ck]) := fun v => rfl
  unfold schV at HFW ⊢
  obtain ⟨bo, bc, hbv, -⟩ := hv
  obtain ⟨bm, hbm⟩ : ∃ bm, bm = s.bl.length := ⟨_, rfl⟩
  rw [← hbm] at hbv
  subst hbv
  have HFW := Lib.hid HFW
  obtain ⟨al, hal⟩ : ∃ al, al = s.al := ⟨_, rfl⟩
  obtain ⟨len, hlen⟩ : ∃ len, len = s.len := ⟨_, rfl⟩
  obtain ⟨ck, hck⟩ : ∃ ck, ck = s.ck := ⟨_, rfl⟩
  rw [← hal, ← hlen, ← hck] at H41 HW1 HFW HeS ⊢
  have HAL := Lib.hid hal
  have HLEN := Lib.hid hlen
  have HCK := Lib.hid hck
  clear hw1 hb1 hfb hbm hal hlen hck
  have k0 := H41.out.c0; have k1 := H41.out.c1; have k2 := H41.out.c2; have k3 := H41.out.c3
  go_enter Try.func13, Try.ntmps13
  go_upto_region 1 with fail
  rw [← HW1.out]
  cases fb with
  | false =>
    go_wp2_with (first
      | (go_at_call 16; (with_reducible refine HFW.out.mono ?_); rintro e w2 ⟨rfl, HBf⟩; have H42 := Lib.hid (H41.out.below HBf.out); have HV2 := Lib.hid (HV1.out.below HBf.out); have HB2 := Lib.hid (HB1.out.trans (HBf.out.mono HB1.out.size)); have a20 := H42.out.c0; have a21 := H42.out.c1; have a22 := H42.out.c2; have a23 := H42.out.c3)
      | fail)
    refine (HAW.out _).mono ?_
    rintro e wz ⟨rfl, HBz⟩
    go_wp2_with fail
    go_ret
    exact ⟨rfl, (HB2.out).trans (HBz.out.mono (HB2.out).size)⟩
  | true =>
  by_cases hV : ValidS s
  case neg =>
    have HCO : Hid (∀ (W : World), IsSs W (.slice bo bm bc) s.bl → Calls Try.prog 21 #[.agg #[.string al, .int .i64 len, .slice bo bm bc, .bool ck]] W fun e w' => ∃ E : Int, e = .returned (.tuple #[.int .i64 0, .int .i64 E]) ∧ (E != 0) = true ∧ Hid (Below W.heap.size W w')) := fun W h => by rw [← HeS.out]; exact Count_no h hV
    clear hV
    go_wp2_with (first
      | (go_at_call 16; (with_reducible refine HFW.out.mono ?_); rintro e w2 ⟨rfl, HBf⟩; have H42 := Lib.hid (H41.out.below HBf.out); have HV2 := Lib.hid (HV1.out.below HBf.out); have HB2 := Lib.hid (HB1.out.trans (HBf.out.mono HB1.out.size)); have a20 := H42.out.c0; have a21 := H42.out.c1; have a22 := H42.out.c2; have a23 := H42.out.c3)
      | (go_at_call 21; (with_reducible refine (HCO.out _ HV2.out).mono ?_); rintro e wa ⟨E, rfl, hE, HBq⟩; have H4A := Lib.hid (H42.out.below HBq.out); have HVA := Lib.hid (HV2.out.below HBq.out); have HBA := Lib.hid (HB2.out.trans (HBq.out.mono HB2.out.size)); have aA0 := H4A.out.c0; have aA1 := H4A.out.c1; have aA2 := H4A.out.c2; have aA3 := H4A.out.c3)
      | fail)
    refine (HAW.out _).mono ?_
    rintro e wz ⟨rfl, HBz⟩
    go_wp2_with fail
    go_ret
    exact ⟨rfl, (HBA.out).trans (HBz.out.mono (HBA.out).size)⟩
  obtain ⟨T, hT⟩ : ∃ T, T = totS s := ⟨_, rfl⟩
  have HCO : Hid (∀ (W : World), IsSs W (.slice bo bm bc) s.bl → Calls Try.prog 21 #[.agg #[.string al, .int .i64 len, .slice bo bm bc, .bool ck]] W fun e w' => e = .returned (.tuple #[.int .i64 (T : Int), .int .i64 0]) ∧ Hid (Below W.heap.size W w')) := fun W h => by rw [← HeS.out, hT]; exact Count_yes h hV
  cases ck with
  | false =>
    clear hV hT
    go_wp2_with (first
      | (go_at_call 16; (with_reducible refine HFW.out.mono ?_); rintro e w2 ⟨rfl, HBf⟩; have H42 := Lib.hid (H41.out.below HBf.out); have HV2 := Lib.hid (HV1.out.below HBf.out); have HB2 := Lib.hid (HB1.out.trans (HBf.out.mono HB1.out.size)); have a20 := H42.out.c0; have a21 := H42.out.c1; have a22 := H42.out.c2; have a23 := H42.out.c3)
      | (go_at_call 21; (with_reducible refine (HCO.out _ HV2.out).mono ?_); rintro e wa ⟨rfl, HBq⟩; have H4A := Lib.hid (H42.out.below HBq.out); have HVA := Lib.hid (HV2.out.below HBq.out); have HBA := Lib.hid (HB2.out.trans (HBq.out.mono HB2.out.size)); have aA0 := H4A.out.c0; have aA1 := H4A.out.c1; have aA2 := H4A.out.c2; have aA3 := H4A.out.c3)
      | fail)
    refine (HAW.out _).mono ?_
    rintro e wz ⟨rfl, HBz⟩
    go_wp2_with fail
    go_ret
    exact ⟨rfl, (HBA.out).trans (HBz.out.mono (HBA.out).size)⟩
  | true =>
  by_cases q1 : N < 0
  · clear hV hT
    go_wp2_with (first
      | (go_at_call 16; (with_reducible refine HFW.out.mono ?_); rintro e w2 ⟨rfl, HBf⟩; have H42 := Lib.hid (H41.out.below HBf.out); have HV2 := Lib.hid (HV1.out.below HBf.out); have HB2 := Lib.hid (HB1.out.trans (HBf.out.mono HB1.out.size)); have a20 := H42.out.c0; have a21 := H42.out.c1; have a22 := H42.out.c2; have a23 := H42.out.c3)
      | (go_at_call 21; (with_reducible refine (HCO.out _ HV2.out).mono ?_); rintro e wa ⟨rfl, HBq⟩; have H4A := Lib.hid (H42.out.below HBq.out); have HVA := Lib.hid (HV2.out.below HBq.out); have HBA := Lib.hid (HB2.out.trans (HBq.out.mono HB2.out.size)); have aA0 := H4A.out.c0; have aA1 := H4A.out.c1; have aA2 := H4A.out.c2; have aA3 := H4A.out.c3)
      | fail)
    refine (HAW.out _).mono ?_
    rintro e wz ⟨rfl, HBz⟩
    go_wp2_with fail
    go_ret
    exact ⟨rfl, (HBA.out).trans (HBz.out.mono (HBA.out).size)⟩
  by_cases q2 : N ≥ (T : Int)
  · clear hV hT
    go_wp2_with (first
      | (go_at_call 16; (with_reducible refine HFW.out.mono ?_); rintro e w2 ⟨rfl, HBf⟩; have H42 := Lib.hid (H41.out.below HBf.out); have HV2 := Lib.hid (HV1.out.below HBf.out); have HB2 := Lib.hid (HB1.out.trans (HBf.out.mono HB1.out.size)); have a20 := H42.out.c0; have a21 := H42.out.c1; have a22 := H42.out.c2; have a23 := H42.out.c3)
      | (go_at_call 21; (with_reducible refine (HCO.out _ HV2.out).mono ?_); rintro e wa ⟨rfl, HBq⟩; have H4A := Lib.hid (H42.out.below HBq.out); have HVA := Lib.hid (HV2.out.below HBq.out); have HBA := Lib.hid (HB2.out.trans (HBq.out.mono HB2.out.size)); have aA0 := H4A.out.c0; have aA1 := H4A.out.c1; have aA2 := H4A.out.c2; have aA3 := H4A.out.c3)
      | fail)
    refine (HAW.out _).mono ?_
    rintro e wz ⟨rfl, HBz⟩
    go_wp2_with fail
    go_ret
    exact ⟨rfl, (HBA.out).trans (HBz.out.mono (HBA.out).size)⟩
  by_cases q3 : I < 0
  · clear hV hT
    go_wp2_with (first
      | (go_at_call 16; (with_reducible refine HFW.out.mono ?_); rintro e w2 ⟨rfl, HBf⟩; have H42 := Lib.hid (H41.out.below HBf.out); have HV2 := Lib.hid (HV1.out.below HBf.out); have HB2 := Lib.hid (HB1.out.trans (HBf.out.mono HB1.out.size)); have a20 := H42.out.c0; have a21 := H42.out.c1; have a22 := H42.out.c2; have a23 := H42.out.c3)
      | (go_at_call 21; (with_reducible refine (HCO.out _ HV2.out).mono ?_); rintro e wa ⟨rfl, HBq⟩; have H4A := Lib.hid (H42.out.below HBq.out); have HVA := Lib.hid (HV2.out.below HBq.out); have HBA := Lib.hid (HB2.out.trans (HBq.out.mono HB2.out.size)); have aA0 := H4A.out.c0; have aA1 := H4A.out.c1; have aA2 := H4A.out.c2; have aA3 := H4A.out.c3)
      | fail)
    refine (HAW.out _).mono ?_
    rintro e wz ⟨rfl, HBz⟩
    go_wp2_with fail
    go_ret
    exact ⟨rfl, (HBA.out).trans (HBz.out.mono (HBA.out).size)⟩
  by_cases q4 : M < 0
  · clear hV hT
    go_wp2_with (first
      | (go_at_call 16; (with_reducible refine HFW.out.mono ?_); rintro e w2 ⟨rfl, HBf⟩; have H42 := Lib.hid (H41.out.below HBf.out); have HV2 := Lib.hid (HV1.out.below HBf.out); have HB2 := Lib.hid (HB1.out.trans (HBf.out.mono HB1.out.size)); have a20 := H42.out.c0; have a21 := H42.out.c1; have a22 := H42.out.c2; have a23 := H42.out.c3)
      | (go_at_call 21; (with_reducible refine (HCO.out _ HV2.out).mono ?_); rintro e wa ⟨rfl, HBq⟩; have H4A := Lib.hid (H42.out.below HBq.out); have HVA := Lib.hid (HV2.out.below HBq.out); have HBA := Lib.hid (HB2.out.trans (HBq.out.mono HB2.out.size)); have aA0 := H4A.out.c0; have aA1 := H4A.out.c1; have aA2 := H4A.out.c2; have aA3 := H4A.out.c3)
      | fail)
    refine (HAW.out _).mono ?_
    rintro e wz ⟨rfl, HBz⟩
    go_wp2_with fail
    go_ret
    exact ⟨rfl, (HBA.out).trans (HBz.out.mono (HBA.out).size)⟩
  obtain ⟨n, rfl⟩ : ∃ n : Nat, N = n := ⟨N.toNat, by omega⟩
  obtain ⟨i0, rfl⟩ : ∃ i0 : Nat, I = i0 := ⟨I.toNat, by omega⟩
  obtain ⟨m, rfl⟩ : ∃ m : Nat, M = m := ⟨M.toNat, by omega⟩
  have hck : s.ck = true := HCK.out.symm
  have hnT : n < totS s := by rw [← hT]; omega
  have hnl : n < (wordsS s).length := by rw [← totS_words]; exact hnT
  obtain ⟨u, hu⟩ : ∃ u, (wordsS s)[n]? = some u := ⟨_, List.getElem?_eq_getElem hnl⟩
  have hm := List.mem_of_getElem? hu
  obtain ⟨m1, m2, _⟩ := wordsS_mem hm
  have hn16 : nS s ≤ 16 := by have := hV.1.2.2.1; unfold nS; omega
  have hlen : s.len = (nS s : Int) := by have := hV.1.2.1; unfold nS; omega
  have hA36 : al.size ≤ 36 := by rw [HAL.out]; exact hV.1.1.2.1
  have hA2 : 2 ≤ al.size := by rw [HAL.out]; exact hV.1.1.1
  have hev : al.size % 2 = 0 := by rw [HAL.out]; exact hV.1.2.2.2.2 hck
  obtain ⟨Z, hZ⟩ : ∃ Z, Z = nS s := ⟨_, rfl⟩
  obtain ⟨A, hA⟩ : ∃ A, A = serB s.al s.ck u := ⟨_, rfl⟩
  have hAs : A.size = Z + 1 := by rw [hA, serB_size _ _ _ m1, hck, hZ]; rfl
  have hAO : OfA A s.al := by rw [hA]; exact serB_of hV.1.1.1 _ m2
  have HTX : Hid (∀ (W : World), IsSs W (.slice bo bm bc) s.bl → Calls Try.prog 24 #[.agg #[.string al, .int .i64 len, .slice bo bm bc, .bool true], .int .i64 (n : Int)] W fun e w' => e = .returned (.tuple #[.string A, .int .i64 0]) ∧ Hid (Below W.heap.size W w')) := fun W h => by rw [← HeS.out, hA]; exact Text_of h hV hnT hu
  have HNE : Hid (∀ (W : World), IsSs W (.slice bo bm bc) s.bl → Calls Try.prog 30 #[.agg #[.string al, .int .i64 len, .slice bo bm bc, .bool true], .string A] W fun e w' => ∃ ao c, e = .returned (.tuple #[.slice ao 0 c, .int .i64 0]) ∧ Hid (Below W.heap.size W w')) := fun W h => by rw [← HeS.out, hA]; exact Near_serial h hV hck hm
  have hlZ : len = (Z : Int) := by rw [HLEN.out, hlen, hZ]
  obtain ⟨i, hi⟩ : ∃ i, i = i0 % (Z + 1) := ⟨_, rfl⟩
  have hiZ : i < Z + 1 := by rw [hi]; exact Nat.mod_lt _ (by omega)
  obtain ⟨z1, hz1⟩ : ∃ z1, z1 = Z + 1 := ⟨_, rfl⟩
  have hwz : IntKind.i64.wrap ((Z : Int) + 1) = (z1 : Int) := by rw [IntWalk.i64_in _ (by omega)]; omega
  have hne1 : ((z1 : Int) != (z1 : Int)) = false := by simp
  have hti : ((i0 : Int)).tmod (z1 : Int) = (i : Int) := by rw [Int.tmod_eq_emod_of_nonneg (by omega), hz1, hi]; simp
  have hti2 : ((i0 : Int)) % (z1 : Int) = (i : Int) := by rw [hz1, hi]; simp
  have hz02 : ¬ (z1 : Int) = 0 := by omega
  have hwi : IntKind.i64.wrap (i : Int) = (i : Int) := by rw [IntWalk.i64_in _ (by omega)]
  have hz0 : ((z1 : Int) == 0) = false := beq_eq_false_iff_ne.2 (by omega)
  have hiA : i < A.size := by omega
  have hix := fun W => index_str hiA W
  obtain ⟨b, hb⟩ : ∃ b, b = A[i] := ⟨_, rfl⟩
  rw [← hb] at hix
  obtain ⟨x, hx⟩ : ∃ x, x = (serU s.al s.ck u).getD i 0 := ⟨_, rfl⟩
  have hul : i < (serU s.al s.ck u).length := by rw [serU_len _ _ _ m1, hck, ← hZ]; exact hiZ
  have hxA : x < al.size := by
    rw [hx, List.getD_eq_getElem?_getD, List.getElem?_eq_getElem hul, HAL.out]
    exact serU_lt hV.1.1.1 _ m2 _ (List.getElem_mem hul)
  have hVal : Lib.indexByte (bys al) b = (x : Int) := by
    subst hA
    rw [hb, hx, HAL.out]
    exact serB_at hV.1.1 s.ck m2 hiA
  have HVL : Hid (∀ (W : World), Calls Try.prog 41 #[.string al, .int .u8 (b.toNat : Int)] W fun e w' => e = .returned (.int .i64 (x : Int)) ∧ W = w') := fun W => by
    have h3 := Value_any (al := al) b (by omega) W
    rw [hVal] at h3
    exact h3
  obtain ⟨Q, hQ⟩ : ∃ Q, Q = al.size := ⟨_, rfl⟩
  have hls : ∀ (t ty : TypeId), Try.prog.underlying t = some .string → ∀ W, (Builtin.len_ #[t] ty #[.string al]).run Try.prog W = .ok (.int .i64 (Q : Int)) W := fun t ty ht W => by rw [run_len_string _ _ _ _ ht, hQ]; rfl
  obtain ⟨a1, ha1⟩ : ∃ a1, a1 = al.size - 1 := ⟨_, rfl⟩
  obtain ⟨y, hy⟩ : ∃ y, y = m % a1 := ⟨_, rfl⟩
  have hya : y < a1 := by rw [hy]; exact Nat.mod_lt _ (by omega)
  have hwa : IntKind.i64.wrap ((Q : Int) - 1) = (a1 : Int) := by rw [IntWalk.i64_in _ (by omega)]; omega
  have ha0 : ((a1 : Int) == 0) = false := beq_eq_false_iff_ne.2 (by omega)
  have hty : ((m : Int)).tmod (a1 : Int) = (y : Int) := by rw [Int.tmod_eq_emod_of_nonneg (by omega), hy]; simp
  have hty2 : ((m : Int)) % (a1 : Int) = (y : Int) := by rw [hy]; simp
  have ha02 : ¬ (a1 : Int) = 0 := by omega
  have hwy : IntKind.i64.wrap (y : Int) = (y : Int) := by rw [IntWalk.i64_in _ (by omega)]
  obtain ⟨x1, hx1⟩ : ∃ x1, x1 = x + 1 := ⟨_, rfl⟩
  have hwx : IntKind.i64.wrap ((x : Int) + 1) = (x1 : Int) := by rw [IntWalk.i64_in _ (by omega)]; omega
  obtain ⟨d, hd⟩ : ∃ d, d = x1 + y := ⟨_, rfl⟩
  have hwd : IntKind.i64.wrap ((x1 : Int) + (y : Int)) = (d : Int) := by rw [IntWalk.i64_in _ (by omega)]; omega
  obtain ⟨v, hvv⟩ : ∃ v, v = d % al.size := ⟨_, rfl⟩
  have hvA : v < al.size := by rw [hvv]; exact Nat.mod_lt _ (by omega)
  have hvx : v ≠ x := by
    rw [hvv]
    by_cases p : d < al.size
    · rw [Nat.mod_eq_of_lt p]; omega
    · rw [Nat.mod_eq_sub_mod (by omega), Nat.mod_eq_of_lt (by omega)]; omega
  have hal0 : ((Q : Int) == 0) = false := beq_eq_false_iff_ne.2 (by omega)
  have htv : ((d : Int)).tmod (Q : Int) = (v : Int) := by rw [Int.tmod_eq_emod_of_nonneg (by omega), hQ, hvv]; simp
  have htv2 : ((d : Int)) % (Q : Int) = (v : Int) := by rw [hQ, hvv]; simp
  have hal02 : ¬ (Q : Int) = 0 := by omega
  have hwv : IntKind.i64.wrap (v : Int) = (v : Int) := by rw [IntWalk.i64_in _ (by omega)]
  obtain ⟨v1, hv1⟩ : ∃ v1, v1 = v + 1 := ⟨_, rfl⟩
  have hwv1 : IntKind.i64.wrap ((v : Int) + 1) = (v1 : Int) := by rw [IntWalk.i64_in _ (by omega)]; omega
  obtain ⟨i1, hi1⟩ : ∃ i1, i1 = i + 1 := ⟨_, rfl⟩
  have hwi1 : IntKind.i64.wrap ((i : Int) + 1) = (i1 : Int) := by rw [IntWalk.i64_in _ (by omega)]; omega
  have hs1 : ∀ W, (Instr.slice 9 (.string A) none (some (.int .i64 (i : Int))) none).run Try.prog W = .ok (.string (A.extract 0 i)) W := fun W => slice_to (Nat.le_of_lt hiA) W
  have hs2 : ∀ W, (Instr.slice 9 (.string al) (some (.int .i64 (v : Int))) (some (.int .i64 (v1 : Int))) none).run Try.prog W = .ok (.string (al.extract v v1)) W := fun W => slice_in (by omega) (by omega) W
  have hs3 : ∀ W, (Instr.slice 9 (.string A) (some (.int .i64 (i1 : Int))) none none).run Try.prog W = .ok (.string (A.extract i1 A.size)) W := fun W => slice_from (by omega) W
  obtain ⟨p, hp⟩ : ∃ p, p = A.extract 0 i ++ al.extract v v1 ++ A.extract i1 A.size := ⟨_, rfl⟩
  have hpT : p = partT A s.al i v := by rw [hp, hv1, HAL.out, hi1]; rfl
  have hl1 : (A.extract 0 i).size ≤ 100 := by rw [ByteArray.size_extract]; omega
  have hl2 : (al.extract v v1).size ≤ 36 := by rw [ByteArray.size_extract]; omega
  have hl3 : (A.extract i1 A.size).size ≤ 100 := by rw [ByteArray.size_extract]; omega
  have hd1 : ∀ W : World, (Op.stringOp .add (A.extract 0 i) (al.extract v v1)).run Try.prog W = .ok (.string (A.extract 0 i ++ al.extract v v1)) W := fun W => run_string_add_sum W _ _ (by omega)
  have hd2 : ∀ W : World, (Op.stringOp .add (A.extract 0 i ++ al.extract v v1) (A.extract i1 A.size)).run Try.prog W = .ok (.string p) W := fun W => by rw [run_string_add_sum W _ _ (by rw [ByteArray.size_append]; omega), hp]
  have hvs : v < s.al.size := by rw [← HAL.out]; exact hvA
  have hpz : p.size = szN (nS s) s.ck ∧ OfA p s.al := ⟨by rw [hpT, partT_size hiA hvs, hAs, hck, ← hZ]; rfl, by rw [hpT]; exact partT_of hiA hvs hAO⟩
  have hpn : ¬ (AllowW (bansS s) ((wordN s.al p).take (nS s)) ∧ endsB s.al.size (nS s) s.ck (wordN s.al p) = true) := by
    rintro ⟨_, h5⟩
    have hw : wordN s.al A = serU s.al s.ck u := by rw [hA]; exact serB_word hV.1.1 s.ck m2
    rw [hpT, partT_word hV.1.1 hiA hvs, hw] at h5
    have hsu : serU s.al s.ck u = serU s.al true u := by rw [hck]
    have hll : (serU s.al true u).length = nS s + 1 := serU_len _ _ true m1
    have hul2 : i < (serU s.al true u).length := by rw [hll, ← hZ]; exact hiZ
    have hgx : x = (serU s.al true u)[i]'hul2 := by rw [hx, hsu, List.getD_eq_getElem?_getD, List.getElem?_eq_getElem hul2]; rfl
    rw [hsu, hck] at h5
    have h6 := ends_apart (by rw [← HAL.out]; exact hev) hV.1.1.1 hll (serU_lt hV.1.1.1 true m2) hul2 hvs (by rw [← hgx]; exact hvx) (serU_ends s.al (nS s) true m1)
    rw [h6] at h5
    cases h5
  have HNU : Hid (∀ (W : World), IsSs W (.slice bo bm bc) s.bl → Calls Try.prog 25 #[.agg #[.string al, .int .i64 len, .slice bo bm bc, .bool true], .string p] W fun e w' => ∃ E : Int, e = .returned (.tuple #[.int .i64 0, .int .i64 E]) ∧ (E == 4) = false ∧ (E != 0) = true ∧ (E = 21 ∨ E = 22) ∧ Hid (Below W.heap.size W w')) := fun W h => by rw [← HeS.out]; exact Num_not h hV hpz hpn
  have hAz : (A.size : Int) = (z1 : Int) := by omega
  have HAZ : A.size = z1 := by omega
  rw [HAZ] at hs3
  rw [HAZ] at hd2
  subst hlZ
  clear hAz
  have hAz : (A.size : Int) = (z1 : Int) := by rw [HAZ]
  clear hV hT hck hnT hnl hu hm m1 m2 hlen hev hZ hA hAO hAs HAZ hi hb hx hul hVal hQ ha1 hy hx1 hd hvv hv1 hi1 hp hpT hvs hpz hpn hz1
  go_upto_region 11 with (first
    | (go_at_call 16; (with_reducible refine HFW.out.mono ?_); rintro e w2 ⟨rfl, HBf⟩; have H42 := Lib.hid (H41.out.below HBf.out); have HV2 := Lib.hid (HV1.out.below HBf.out); have HB2 := Lib.hid (HB1.out.trans (HBf.out.mono HB1.out.size)); have a20 := H42.out.c0; have a21 := H42.out.c1; have a22 := H42.out.c2; have a23 := H42.out.c3)
    | (go_at_call 21; (with_reducible refine (HCO.out _ HV2.out).mono ?_); rintro e wa ⟨rfl, HBq⟩; have H4A := Lib.hid (H42.out.below HBq.out); have HVA := Lib.hid (HV2.out.below HBq.out); have HBA := Lib.hid (HB2.out.trans (HBq.out.mono HB2.out.size)); have aA0 := H4A.out.c0; have aA1 := H4A.out.c1; have aA2 := H4A.out.c2; have aA3 := H4A.out.c3)
    | (go_at_call 24; (with_reducible refine (HTX.out _ HVA.out).mono ?_); rintro e wb ⟨rfl, HBq⟩; have H4B := Lib.hid (H4A.out.below HBq.out); have HVB := Lib.hid (HVA.out.below HBq.out); have HBB := Lib.hid (HBA.out.trans (HBq.out.mono HBA.out.size)); have aB0 := H4B.out.c0; have aB1 := H4B.out.c1; have aB2 := H4B.out.c2; have aB3 := H4B.out.c3)
    | (go_at_call 30; (with_reducible refine (HNE.out _ HVB.out).mono ?_); rintro e wc ⟨ao, c, rfl, HBq⟩; have H4C := Lib.hid (H4B.out.below HBq.out); have HVC := Lib.hid (HVB.out.below HBq.out); have HBC := Lib.hid (HBB.out.trans (HBq.out.mono HBB.out.size)); have aC0 := H4C.out.c0; have aC1 := H4C.out.c1; have aC2 := H4C.out.c2; have aC3 := H4C.out.c3)
    | fail)
  have HVAd : Hid (∀ q, Calls Try.prog 41 #[.string al, .int .u8 (b.toNat : Int)] (wc.drewN q) fun e w' => e = .returned (.int .i64 (x : Int)) ∧ ∃ k, w' = wc.drewN k) := fun q => (HVL.out (wc.drewN q)).mono fun e w' ⟨h1, h2⟩ => ⟨h1, q, h2.symm⟩
  go_cut [15] from 87 to 104 (fun s15 wz => s15 = .int .i64 (v : Int) ∧ Hid (Below wc.heap.size wc wz))
  case first =>
    clear k0 k1 k2 k3 a20 a21 a22 a23 aA0 aA1 aA2 aA3 aB0 aB1 aB2 aB3 hs1 hs2 hs3 hd1 hd2 hwv1 hwi1 hl1 hl2 hl3 HNU HVL
    go_quiet ((go_at_call 41; exact HVAd.out _))
    rename_i nq
    go_wp2_with fail
    go_meet
    exact ⟨rfl, below_dr wc nq⟩
  case rest =>
    obtain ⟨rfl, HBv⟩ := hcut
    obtain ⟨we, hwe⟩ : ∃ W, W = wc := ⟨_, rfl⟩
    subst hwe
    have H4E := Lib.hid (H4C.out.below HBv.out); have HVE := Lib.hid (HVC.out.below HBv.out); have HBE := Lib.hid (HBC.out.trans (HBv.out.mono HBC.out.size))
    have aE0 := H4E.out.c0; have aE1 := H4E.out.c1; have aE2 := H4E.out.c2; have aE3 := H4E.out.c3
    apply_assumption
    go_upto_region 12 with fail
    have HNUd := Lib.hid (HNU.out we.drew (HVE.out.below (below_dr we 1)))
    go_cut [17] from 105 to 126 (fun s17 wz => ∃ E : Int, s17 = .int .i64 E ∧ (E = 21 ∨ E = 22) ∧ Hid (Below we.heap.size we wz))
    case first =>
      clear hix hwz hne1 hti hti2 hz0 hz02 hwi hwa ha0 ha02 hty hty2 hwy hwx hwd hal0 hal02 htv htv2 hwv HVAd HVL HTX HNE HCO HFW HNU k0 k1 k2 k3 a20 a21 a22 a23 aA0 aA1 aA2 aA3 aB0 aB1 aB2 aB3 aC0 aC1 aC2 aC3 q1 q2 q3 q4 hls
      go_region_with (first
        | (go_at_call 25; (with_reducible refine HNUd.out.mono ?_); rintro e wb ⟨E, rfl, _, _, hE, HBq⟩)
        | fail)
      all_goals go_wp2_with fail
      all_goals go_meet
      all_goals exact ⟨E, rfl, hE, (below_dr we 1).trans HBq.out⟩
    case rest =>
      obtain ⟨E, rfl, hE, HBq⟩ := hcut
      have HBF := Lib.hid (HBE.out.trans (HBq.out.mono HBE.out.size))
      apply_assumption
      rcases hE with rfl | rfl
      · go_wp2_with fail
        refine (HAW.out _).mono ?_
        rintro e wz ⟨rfl, HBz⟩
        go_wp2_with fail
        go_ret
        exact ⟨rfl, (HBF.out).trans (HBz.out.mono (HBF.out).size)⟩
      · go_wp2_with fail
        refine (HAW.out _).mono ?_
        rintro e wz ⟨rfl, HBz⟩
        go_wp2_with fail
        go_ret
        exact ⟨rfl, (HBF.out).trans (HBz.out.mono (HBF.out).size)⟩
end Go.Proofs.Ytgblfobomiiofaa
