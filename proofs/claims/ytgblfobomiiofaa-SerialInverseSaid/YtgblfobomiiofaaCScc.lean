/- SerialInverse: the walk. -/
import Derived.Test.YtgblfobomiiofaaCScb
namespace Go.Proofs.Ytgblfobomiiofaa
open Go Go.RowKit Go.Shelf Gw Go.Maps

theorem ltW_first : ∀ {u w : List Nat} {i : Nat} (_ : u.length = w.length) (h : i < u.length) (h' : i < w.length), (∀ j (hj : j < i), u[j]'(Nat.lt_trans hj h) = w[j]'(Nat.lt_trans hj h')) → u[i] < w[i] → ltW u w
  | a :: u, b :: w, 0, _, _, _, _, hlt => .inl hlt
  | a :: u, b :: w, i + 1, hl, h, h', he, hlt => by
    have e0 : a = b := he 0 (Nat.succ_pos _)
    exact .inr ⟨e0, ltW_first (i := i) (by simpa using hl) (by simpa using h) (by simpa using h') (fun j hj => by simpa using he (j + 1) (by omega)) (by simpa using hlt)⟩
theorem sorted_idx {l : List (List Nat)} (hs : l.Pairwise ltW) {a b : Nat} {u w : List Nat} (ha : l[a]? = some u) (hb : l[b]? = some w) (h : ltW u w) : a < b := by
  obtain ⟨ha1, rfl⟩ := List.getElem?_eq_some_iff.1 ha
  obtain ⟨hb1, rfl⟩ := List.getElem?_eq_some_iff.1 hb
  rw [List.pairwise_iff_getElem] at hs
  rcases Nat.lt_trichotomy a b with c | c | c
  · exact c
  · subst c; exact absurd h (ltW_irrefl _)
  · exact absurd (ltW_trans h (hs b a hb1 ha1 c)) (ltW_irrefl _)
/-- the first byte at which two serials differ tells which is less -/
theorem ser_first {s : Sch} {a b : Nat} {u w : List Nat} (hV : ValidS s) (ha : (wordsS s)[a]? = some u) (hb : (wordsS s)[b]? = some w) {i : Nat} (hi : i < szN (nS s) s.ck)
    (he : ∀ j, j < i → (serU s.al s.ck u).getD j 0 = (serU s.al s.ck w).getD j 0) (hlt : (serU s.al s.ck u).getD i 0 < (serU s.al s.ck w).getD i 0) : a < b := by
  obtain ⟨hu1, hu2, _⟩ := wordsS_mem (List.mem_of_getElem? ha)
  obtain ⟨hw1, hw2, _⟩ := wordsS_mem (List.mem_of_getElem? hb)
  have gt : ∀ {x : List Nat} {j : Nat}, x.length = nS s → j < nS s → (serU s.al s.ck x).getD j 0 = x.getD j 0 := fun {x j} hx hj => by
    unfold serU
    cases s.ck with
    | false => rfl
    | true => simp [List.getElem?_append_left (show j < x.length by omega)]
  by_cases q : i < nS s
  · have hlu : i < u.length := by omega
    have hlw : i < w.length := by omega
    refine sorted_idx (sorted_words _ _ _) ha hb (ltW_first (i := i) (by omega) hlu hlw (fun j hj => ?_) ?_)
    · have h3 := he j hj
      rw [gt hu1 (by omega), gt hw1 (by omega)] at h3
      simpa [show j < u.length by omega, show j < w.length by omega] using h3
    · rw [gt hu1 q, gt hw1 q] at hlt
      simpa [hlu, hlw] using hlt
  · have huw : u = w := List.ext_getElem (by omega) (fun j h1 h2 => by
      have h3 := he j (by omega)
      rw [gt hu1 (by omega), gt hw1 (by omega)] at h3
      simpa [h1, h2] using h3)
    subst huw
    exact absurd hlt (Nat.lt_irrefl _)
theorem ser_same {s : Sch} {a b : Nat} {u w : List Nat} (ha : (wordsS s)[a]? = some u) (hb : (wordsS s)[b]? = some w)
    (he : ∀ j, j < szN (nS s) s.ck → (serU s.al s.ck u).getD j 0 = (serU s.al s.ck w).getD j 0) : a = b := by
  obtain ⟨hu1, _, _⟩ := wordsS_mem (List.mem_of_getElem? ha)
  obtain ⟨hw1, _, _⟩ := wordsS_mem (List.mem_of_getElem? hb)
  have hU : serU s.al s.ck u = serU s.al s.ck w := List.ext_getElem (by rw [serU_len _ _ _ hu1, serU_len _ _ _ hw1]) (fun j h1 h2 => by
    have h3 := he j (by rw [serU_len _ _ _ hu1] at h1; exact h1)
    simpa [h1, h2] using h3)
  have huw : u = w := by rw [← serU_take s.al s.ck hu1, ← serU_take s.al s.ck hw1, hU]
  subst huw
  obtain ⟨ha1, e1⟩ := List.getElem?_eq_some_iff.1 ha
  obtain ⟨hb1, e2⟩ := List.getElem?_eq_some_iff.1 hb
  have hs : (wordsS s).Pairwise ltW := sorted_words _ _ _
  rw [List.pairwise_iff_getElem] at hs
  rcases Nat.lt_trichotomy a b with c | c | c
  · have h3 := hs a b ha1 hb1 c
    rw [e1, e2] at h3
    exact absurd h3 (ltW_irrefl _)
  · exact c
  · have h3 := hs b a hb1 ha1 c
    rw [e1, e2] at h3
    exact absurd h3 (ltW_irrefl _)
theorem Long_any {s : Sch} {bv : Value} {w : World} (hl : s.len = (nS s : Int)) (hn : nS s ≤ 16) : Calls Try.prog 40 #[schV s bv] w fun e w' => e = .returned (.int .i64 (szN (nS s) s.ck : Nat)) ∧ Hid (Below w.heap.size w w') := by
  obtain ⟨w1, hw1⟩ : ∃ w1, w1 = w.alloc (.cells #[.string s.al, .int .i64 s.len, bv, .bool s.ck] 24) := ⟨_, rfl⟩
  have hb1 : Below w.heap.size w w1 := by rw [hw1]; exact below_al _ _
  have H4 : Hid (B4 w.heap.size (.string s.al) (.int .i64 s.len) bv (.bool s.ck) w1) := by rw [hw1]; exact B4.new _ _ _ _ _ _
  have HW1 := Lib.hid hw1
  have HB1 := Lib.hid hb1
  unfold schV
  obtain ⟨n, hn2⟩ : ∃ n, n = nS s := ⟨_, rfl⟩
  rw [← hn2] at hl hn ⊢
  rw [hl] at H4 HW1 ⊢
  have hw : IntKind.i64.wrap ((n : Int) + 1) = ((n + 1 : Nat) : Int) := by rw [IntWalk.i64_in _ (by omega)]; omega
  clear hw1 hb1 hn2 hl
  cases hck : s.ck with
  | false =>
    rw [hck] at H4 HW1
    have k1 := H4.out.c1; have k3 := H4.out.c3
    clear hck
    go_enter Try.func40, Try.ntmps40
    go_upto_region 1 with fail
    rw [← HW1.out]
    go_wp2_with fail
    go_ret
    exact ⟨rfl, HB1⟩
  | true =>
    rw [hck] at H4 HW1
    have k1 := H4.out.c1; have k3 := H4.out.c3
    clear hck
    go_enter Try.func40, Try.ntmps40
    go_upto_region 1 with fail
    rw [← HW1.out]
    go_wp2_with fail
    go_ret
    exact ⟨rfl, HB1⟩
set_option maxRecDepth 100000 in
set_option maxHeartbeats 4000000 in
theorem serialInverse_law {s : Sch} {bv : Value} {N M : Int} {w : World} (hv : IsSs w bv s.bl) (_hnil : NilOk bv) :
    Calls Try.prog 8 #[schV s bv, .int .i64 N, .int .i64 M] w fun e w' => e = .returned (.bool true) ∧ Hid (Below w.heap.size w w') := by
  have HAW := Lib.hid serawake_any
  obtain ⟨w1, hw1⟩ : ∃ w1, w1 = w.alloc (.cells #[.string s.al, .int .i64 s.len, bv, .bool s.ck] 24) := ⟨_, rfl⟩
  have hb1 : Below w.heap.size w w1 := by rw [hw1]; exact below_al _ _
  have H41 : Hid (B4 w.heap.size (.string s.al) (.int .i64 s.len) bv (.bool s.ck) w1) := by rw [hw1]; exact B4.new _ _ _ _ _ _
  have HFW := few_any (s := s) (hv.below hb1)
  have HV1 := Lib.hid (hv.below hb1)
  have HB1 := Lib.hid hb1
  have HW1 := Lib.hid hw1
  obtain ⟨fb, hfb⟩ : ∃ fb, fb = fewB s := ⟨_, rfl⟩
  unfold FewP at HFW
  rw [← hfb] at HFW
  have HeS : Hid (∀ v, schV s v = .agg #[.string s.al, .int .i64 s.len, v, .bool s.ck]) := fun v => rfl
  unfold schV at HFW ⊢
  obtain ⟨bo, bc, hbv, -⟩ := hv
  obtain ⟨bm, hbm⟩ : ∃ bm, bm = s.bl.length := ⟨_, rfl⟩
  rw [← hbm] at hbv
  subst hbv
  have HFW := Lib.hid HFW
  obtain ⟨al, hal⟩ : ∃ al, al = s.al := ⟨_, rfl⟩
  obtain ⟨len, hlen⟩ : ∃ len, len = s.len := ⟨_, rfl⟩
  obtain ⟨ck, hck⟩ : ∃ ck, ck = s.ck := ⟨_, rfl⟩
  rw [← hal, ← hlen, ← hck] at H41 HW1 HFW HeS ⊢
  have HAL := Lib.hid hal
  have HLEN := Lib.hid hlen
  have HCK := Lib.hid hck
  clear hw1 hb1 hfb hbm hal hlen hck
  have k0 := H41.out.c0; have k1 := H41.out.c1; have k2 := H41.out.c2; have k3 := H41.out.c3
  go_enter Try.func8, Try.ntmps8
  go_upto_region 1 with fail
  rw [← HW1.out]
  cases fb with
  | false =>
    go_wp2_with (first
      | (go_at_call 16; (with_reducible refine HFW.out.mono ?_); rintro e w2 ⟨rfl, HBf⟩; have H42 := Lib.hid (H41.out.below HBf.out); have HV2 := Lib.hid (HV1.out.below HBf.out); have HB2 := Lib.hid (HB1.out.trans (HBf.out.mono HB1.out.size)); have a20 := H42.out.c0; have a21 := H42.out.c1; have a22 := H42.out.c2; have a23 := H42.out.c3)
      | fail)
    refine (HAW.out _).mono ?_
    rintro e wz ⟨rfl, HBz⟩
    go_wp2_with fail
    go_ret
    exact ⟨rfl, (HB2.out).trans (HBz.out.mono (HB2.out).size)⟩
  | true =>
  by_cases hV : ValidS s
  case neg =>
    have HCO : Hid (∀ (W : World), IsSs W (.slice bo bm bc) s.bl → Calls Try.prog 21 #[.agg #[.string al, .int .i64 len, .slice bo bm bc, .bool ck]] W fun e w' => ∃ E : Int, e = .returned (.tuple #[.int .i64 0, .int .i64 E]) ∧ (E != 0) = true ∧ Hid (Below W.heap.size W w')) := fun W h => by rw [← HeS.out]; exact Count_no h hV
    clear hV
    go_wp2_with (first
      | (go_at_call 16; (with_reducible refine HFW.out.mono ?_); rintro e w2 ⟨rfl, HBf⟩; have H42 := Lib.hid (H41.out.below HBf.out); have HV2 := Lib.hid (HV1.out.below HBf.out); have HB2 := Lib.hid (HB1.out.trans (HBf.out.mono HB1.out.size)); have a20 := H42.out.c0; have a21 := H42.out.c1; have a22 := H42.out.c2; have a23 := H42.out.c3; have HCO2 := Lib.hid (HCO.out _ HV2.out))
      | (go_at_call 21; (with_reducible refine HCO2.out.mono ?_); rintro e wa ⟨E, rfl, hE, HBa⟩; have HBA := Lib.hid (HB2.out.trans (HBa.out.mono HB2.out.size)))
      | fail)
    refine (HAW.out _).mono ?_
    rintro e wz ⟨rfl, HBz⟩
    go_wp2_with fail
    go_ret
    exact ⟨rfl, (HBA.out).trans (HBz.out.mono (HBA.out).size)⟩
  obtain ⟨T, hT⟩ : ∃ T, T = totS s := ⟨_, rfl⟩
  have HT := Lib.hid hT
  have HVS := Lib.hid hV
  have HCO : Hid (∀ (W : World), IsSs W (.slice bo bm bc) s.bl → Calls Try.prog 21 #[.agg #[.string al, .int .i64 len, .slice bo bm bc, .bool ck]] W fun e w' => e = .returned (.tuple #[.int .i64 (T : Int), .int .i64 0]) ∧ Hid (Below W.heap.size W w')) := fun W h => by rw [← HeS.out, hT]; exact Count_yes h hV
  clear hV hT
  by_cases hcond : N < 0 ∨ M < 0 ∨ N ≥ (T : Int) ∨ M ≥ (T : Int)
  case pos =>
    by_cases c1 : N < 0
    · go_wp2_with (first
        | (go_at_call 16; (with_reducible refine HFW.out.mono ?_); rintro e w2 ⟨rfl, HBf⟩; have H42 := Lib.hid (H41.out.below HBf.out); have HV2 := Lib.hid (HV1.out.below HBf.out); have HB2 := Lib.hid (HB1.out.trans (HBf.out.mono HB1.out.size)); have a20 := H42.out.c0; have a21 := H42.out.c1; have a22 := H42.out.c2; have a23 := H42.out.c3; have HCO2 := Lib.hid (HCO.out _ HV2.out))
        | (go_at_call 21; (with_reducible refine HCO2.out.mono ?_); rintro e wa ⟨rfl, HBa⟩; have HBA := Lib.hid (HB2.out.trans (HBa.out.mono HB2.out.size)))
        | fail)
      refine (HAW.out _).mono ?_
      rintro e wz ⟨rfl, HBz⟩
      go_wp2_with fail
      go_ret
      exact ⟨rfl, (HBA.out).trans (HBz.out.mono (HBA.out).size)⟩
    by_cases c2 : M < 0
    · go_wp2_with (first
        | (go_at_call 16; (with_reducible refine HFW.out.mono ?_); rintro e w2 ⟨rfl, HBf⟩; have H42 := Lib.hid (H41.out.below HBf.out); have HV2 := Lib.hid (HV1.out.below HBf.out); have HB2 := Lib.hid (HB1.out.trans (HBf.out.mono HB1.out.size)); have a20 := H42.out.c0; have a21 := H42.out.c1; have a22 := H42.out.c2; have a23 := H42.out.c3; have HCO2 := Lib.hid (HCO.out _ HV2.out))
        | (go_at_call 21; (with_reducible refine HCO2.out.mono ?_); rintro e wa ⟨rfl, HBa⟩; have HBA := Lib.hid (HB2.out.trans (HBa.out.mono HB2.out.size)))
        | fail)
      refine (HAW.out _).mono ?_
      rintro e wz ⟨rfl, HBz⟩
      go_wp2_with fail
      go_ret
      exact ⟨rfl, (HBA.out).trans (HBz.out.mono (HBA.out).size)⟩
    by_cases c3 : N ≥ (T : Int)
    · go_wp2_with (first
        | (go_at_call 16; (with_reducible refine HFW.out.mono ?_); rintro e w2 ⟨rfl, HBf⟩; have H42 := Lib.hid (H41.out.below HBf.out); have HV2 := Lib.hid (HV1.out.below HBf.out); have HB2 := Lib.hid (HB1.out.trans (HBf.out.mono HB1.out.size)); have a20 := H42.out.c0; have a21 := H42.out.c1; have a22 := H42.out.c2; have a23 := H42.out.c3; have HCO2 := Lib.hid (HCO.out _ HV2.out))
        | (go_at_call 21; (with_reducible refine HCO2.out.mono ?_); rintro e wa ⟨rfl, HBa⟩; have HBA := Lib.hid (HB2.out.trans (HBa.out.mono HB2.out.size)))
        | fail)
      refine (HAW.out _).mono ?_
      rintro e wz ⟨rfl, HBz⟩
      go_wp2_with fail
      go_ret
      exact ⟨rfl, (HBA.out).trans (HBz.out.mono (HBA.out).size)⟩
    have c4 : M ≥ (T : Int) := by omega
    go_wp2_with (first
      | (go_at_call 16; (with_reducible refine HFW.out.mono ?_); rintro e w2 ⟨rfl, HBf⟩; have H42 := Lib.hid (H41.out.below HBf.out); have HV2 := Lib.hid (HV1.out.below HBf.out); have HB2 := Lib.hid (HB1.out.trans (HBf.out.mono HB1.out.size)); have a20 := H42.out.c0; have a21 := H42.out.c1; have a22 := H42.out.c2; have a23 := H42.out.c3; have HCO2 := Lib.hid (HCO.out _ HV2.out))
      | (go_at_call 21; (with_reducible refine HCO2.out.mono ?_); rintro e wa ⟨rfl, HBa⟩; have HBA := Lib.hid (HB2.out.trans (HBa.out.mono HB2.out.size)))
      | fail)
    refine (HAW.out _).mono ?_
    rintro e wz ⟨rfl, HBz⟩
    go_wp2_with fail
    go_ret
    exact ⟨rfl, (HBA.out).trans (HBz.out.mono (HBA.out).size)⟩
  obtain ⟨K1, rfl⟩ : ∃ K : Nat, N = K := ⟨N.toNat, by omega⟩
  obtain ⟨K2, rfl⟩ : ∃ K : Nat, M = K := ⟨M.toNat, by omega⟩
  have hK1 : K1 < T := by omega
  have hK2 : K2 < T := by omega
  have c1 : ¬ (K1 : Int) < 0 := by omega
  have c2 : ¬ (K2 : Int) < 0 := by omega
  have c3 : ¬ (K1 : Int) ≥ (T : Int) := by omega
  have c4 : ¬ (K2 : Int) ≥ (T : Int) := by omega
  have hl1 : K1 < (wordsS s).length := by rw [← totS_words, ← HT.out]; exact hK1
  have hl2 : K2 < (wordsS s).length := by rw [← totS_words, ← HT.out]; exact hK2
  obtain ⟨u1, hu1⟩ : ∃ u, (wordsS s)[K1]? = some u := ⟨_, List.getElem?_eq_getElem hl1⟩
  obtain ⟨u2, hu2⟩ : ∃ u, (wordsS s)[K2]? = some u := ⟨_, List.getElem?_eq_getElem hl2⟩
  obtain ⟨m1a, m1b, _⟩ := wordsS_mem (List.mem_of_getElem? hu1)
  obtain ⟨m2a, m2b, _⟩ := wordsS_mem (List.mem_of_getElem? hu2)
  have hGA := HVS.out.1.1
  obtain ⟨A, hA⟩ : ∃ A, A = serB s.al s.ck u1 := ⟨_, rfl⟩
  obtain ⟨B, hB⟩ : ∃ B, B = serB s.al s.ck u2 := ⟨_, rfl⟩
  obtain ⟨z, hz⟩ : ∃ z, z = szN (nS s) s.ck := ⟨_, rfl⟩
  have hn16 : nS s ≤ 16 := by have := HVS.out.1.2.2.1; unfold nS; omega
  have hlen2 : s.len = (nS s : Int) := by have := HVS.out.1.2.1; unfold nS; omega
  have hz17 : z ≤ 17 := by rw [hz]; unfold szN; split <;> omega
  have hAs : A.size = z := by rw [hA, hz]; exact serB_size _ _ _ m1a
  have hBs : B.size = z := by rw [hB, hz]; exact serB_size _ _ _ m2a
  have HAV : Hid (∀ i (h : i < A.size), Lib.indexByte (bys al) A[i] = (((serU s.al s.ck u1).getD i 0 : Nat) : Int)) := by subst hA; rw [HAL.out]; exact fun i h => serB_at hGA s.ck m1b h
  have HBV : Hid (∀ i (h : i < B.size), Lib.indexByte (bys al) B[i] = (((serU s.al s.ck u2).getD i 0 : Nat) : Int)) := by subst hB; rw [HAL.out]; exact fun i h => serB_at hGA s.ck m2b h
  have HT1 : Hid (∀ (W : World), IsSs W (.slice bo bm bc) s.bl → Calls Try.prog 24 #[.agg #[.string al, .int .i64 len, .slice bo bm bc, .bool ck], .int .i64 (K1 : Int)] W fun e w' => e = .returned (.tuple #[.string A, .int .i64 0]) ∧ Hid (Below W.heap.size W w')) := fun W h => by rw [← HeS.out, hA]; exact Text_of h HVS.out (by rw [← HT.out]; exact hK1) hu1
  have HT2 : Hid (∀ (W : World), IsSs W (.slice bo bm bc) s.bl → Calls Try.prog 24 #[.agg #[.string al, .int .i64 len, .slice bo bm bc, .bool ck], .int .i64 (K2 : Int)] W fun e w' => e = .returned (.tuple #[.string B, .int .i64 0]) ∧ Hid (Below W.heap.size W w')) := fun W h => by rw [← HeS.out, hB]; exact Text_of h HVS.out (by rw [← HT.out]; exact hK2) hu2
  have HNU : Hid (∀ (W : World), IsSs W (.slice bo bm bc) s.bl → Calls Try.prog 25 #[.agg #[.string al, .int .i64 len, .slice bo bm bc, .bool ck], .string A] W fun e w' => e = .returned (.tuple #[.int .i64 (K1 : Int), .int .i64 0]) ∧ Hid (Below W.heap.size W w')) := fun W h => by rw [← HeS.out, hA]; exact Num_of h HVS.out hu1
  have HLG : Hid (∀ (W : World), Calls Try.prog 40 #[.agg #[.string al, .int .i64 len, .slice bo bm bc, .bool ck]] W fun e w' => e = .returned (.int .i64 (z : Int)) ∧ Hid (Below W.heap.size W w')) := fun W => by rw [← HeS.out, hz]; exact Long_any hlen2 hn16
  have HFI : Hid (∀ i, i < z → (∀ j, j < i → (serU s.al s.ck u1).getD j 0 = (serU s.al s.ck u2).getD j 0) → ((serU s.al s.ck u1).getD i 0 < (serU s.al s.ck u2).getD i 0 → K1 < K2) ∧ ((serU s.al s.ck u2).getD i 0 < (serU s.al s.ck u1).getD i 0 → K2 < K1)) := fun i hi he =>
    ⟨fun h => ser_first HVS.out hu1 hu2 (by rw [← hz]; exact hi) he h, fun h => ser_first HVS.out hu2 hu1 (by rw [← hz]; exact hi) (fun j hj => (he j hj).symm) h⟩
  have HSM : Hid ((∀ j, j < z → (serU s.al s.ck u1).getD j 0 = (serU s.al s.ck u2).getD j 0) → K1 = K2) := fun he => ser_same hu1 hu2 (by rw [← hz]; exact he)
  have hal36 : al.size ≤ 1000 := by rw [HAL.out]; have := hGA.2.1; omega
  have hlsA : ∀ (t ty : TypeId), Try.prog.underlying t = some .string → ∀ W, (Builtin.len_ #[t] ty #[.string A]).run Try.prog W = .ok (.int .i64 (z : Int)) W := fun t ty ht W => by rw [run_len_string _ _ _ _ ht, ← hAs]; rfl
  have hlsB : ∀ (t ty : TypeId), Try.prog.underlying t = some .string → ∀ W, (Builtin.len_ #[t] ty #[.string B]).run Try.prog W = .ok (.int .i64 (z : Int)) W := fun t ty ht W => by rw [run_len_string _ _ _ _ ht, ← hBs]; rfl
  have HAS := Lib.hid hAs
  have HBS := Lib.hid hBs
  generalize (serU s.al s.ck u1) = U1 at *
  generalize (serU s.al s.ck u2) = U2 at *
  clear hu1 hu2 m1a m1b m2a m2b hA hB hz hAs hBs hl1 hl2 hGA hn16 hlen2 hK1 hK2 hcond
  go_upto_region 11 with (first
    | (go_at_call 16; (with_reducible refine HFW.out.mono ?_); rintro e w2 ⟨rfl, HBf⟩; have H42 := Lib.hid (H41.out.below HBf.out); have HV2 := Lib.hid (HV1.out.below HBf.out); have HB2 := Lib.hid (HB1.out.trans (HBf.out.mono HB1.out.size)); have a20 := H42.out.c0; have a21 := H42.out.c1; have a22 := H42.out.c2; have a23 := H42.out.c3; have HCO2 := Lib.hid (HCO.out _ HV2.out))
    | (go_at_call 21; (with_reducible refine HCO2.out.mono ?_); rintro e wa ⟨rfl, HBa⟩; have H4A := Lib.hid (H42.out.below HBa.out); have HVA := Lib.hid (HV2.out.below HBa.out); have HBA := Lib.hid (HB2.out.trans (HBa.out.mono HB2.out.size)); have aA0 := H4A.out.c0; have aA1 := H4A.out.c1; have aA2 := H4A.out.c2; have aA3 := H4A.out.c3; have HT1A := Lib.hid (HT1.out _ HVA.out))
    | (go_at_call 24; (with_reducible refine HT1A.out.mono ?_); rintro e wb ⟨rfl, HBb⟩; have H4B := Lib.hid (H4A.out.below HBb.out); have HVB := Lib.hid (HVA.out.below HBb.out); have HBB := Lib.hid (HBA.out.trans (HBb.out.mono HBA.out.size)); have aB0 := H4B.out.c0; have aB1 := H4B.out.c1; have aB2 := H4B.out.c2; have aB3 := H4B.out.c3; have HT2B := Lib.hid (HT2.out _ HVB.out))
    | (go_at_call 24; (with_reducible refine HT2B.out.mono ?_); rintro e wc ⟨rfl, HBc⟩; have H4C := Lib.hid (H4B.out.below HBc.out); have HVC := Lib.hid (HVB.out.below HBc.out); have HBC := Lib.hid (HBB.out.trans (HBc.out.mono HBB.out.size)); have aC0 := H4C.out.c0; have aC1 := H4C.out.c1; have aC2 := H4C.out.c2; have aC3 := H4C.out.c3; have HNUC := Lib.hid (HNU.out _ HVC.out))
    | (go_at_call 25; (with_reducible refine HNUC.out.mono ?_); rintro e wd ⟨rfl, HBd⟩; have H4D := Lib.hid (H4C.out.below HBd.out); have HVD := Lib.hid (HVC.out.below HBd.out); have HBD := Lib.hid (HBC.out.trans (HBd.out.mono HBC.out.size)); have aD0 := H4D.out.c0; have aD1 := H4D.out.c1; have aD2 := H4D.out.c2; have aD3 := H4D.out.c3; have HLGD := Lib.hid (HLG.out wd))
    | (go_at_call 40; (with_reducible refine HLGD.out.mono ?_); rintro e we ⟨rfl, HBe⟩; have H4E := Lib.hid (H4D.out.below HBe.out); have HVE := Lib.hid (HVD.out.below HBe.out); have HBE := Lib.hid (HBD.out.trans (HBe.out.mono HBD.out.size)); have aE0 := H4E.out.c0; have aE1 := H4E.out.c1; have aE2 := H4E.out.c2; have aE3 := H4E.out.c3)
    | fail)
  clear aA0 aA1 aA2 aA3 aB0 aB1 aB2 aB3 aC0 aC1 aC2 aC3 aD0 aD1 aD2 aD3 a20 a21 a22 a23 H42 H4A H4B H4C H4D HVA HVB HVC HVD HV2 HB2 HBA HBB HBC HBD k0 k1 k2 k3
  go_wp2_with fail
  go_loopw [15] (fun s15 wr => ∃ i : Nat, i ≤ z ∧ s15 = .int .i64 i ∧ Hid (B4 w.heap.size (.string al) (.int .i64 len) (.slice bo bm bc) (.bool ck) wr) ∧ Hid (Below w.heap.size w wr) ∧ Hid (∀ j, j < i → U1.getD j 0 = U2.getD j 0)) (fun s15 _ => z - (intOf s15).toNat)
  case atStart => exact ⟨0, Nat.zero_le _, rfl, H4E, HBE, fun j h => by omega⟩
  case round =>
    obtain ⟨i, hi, rfl, H4r, HBr, HEr⟩ := hrel
    clear aE0 aE1 aE2 aE3
    have k0 := H4r.out.c0
    by_cases q : i < z
    · have q1 : (i : Int) < (z : Int) := by omega
      have hw : IntKind.i64.wrap ((i : Int) + 1) = ((i + 1 : Nat) : Int) := by rw [IntWalk.i64_in _ (by omega)]; omega
      have hiA : i < A.size := by rw [HAS.out]; exact q
      have hiB : i < B.size := by rw [HBS.out]; exact q
      have hxA := fun W => index_str hiA W
      have hxB := fun W => index_str hiB W
      have HV1' := Lib.hid (fun q => Value_any (al := al) (A[i]) hal36 (wr.drewN q))
      have HV2' := Lib.hid (fun q => Value_any (al := al) (B[i]) hal36 (wr.drewN q))
      rw [HAV.out i hiA] at HV1'
      rw [HBV.out i hiB] at HV2'
      obtain ⟨y1, hy1⟩ : ∃ y1, y1 = U1.getD i 0 := ⟨_, rfl⟩
      obtain ⟨y2, hy2⟩ : ∃ y2, y2 = U2.getD i 0 := ⟨_, rfl⟩
      rw [← hy1] at HV1'
      rw [← hy2] at HV2'
      have HV1d : Hid (∀ q, Calls Try.prog 41 #[.string al, .int .u8 ((A[i]).toNat : Int)] (wr.drewN q) fun e w' => e = .returned (.int .i64 (y1 : Int)) ∧ ∃ k, w' = wr.drewN k) := fun q => (HV1'.out q).mono fun e w' ⟨h1, h2⟩ => ⟨h1, q, h2.symm⟩
      have HV2d : Hid (∀ q, Calls Try.prog 41 #[.string al, .int .u8 ((B[i]).toNat : Int)] (wr.drewN q) fun e w' => e = .returned (.int .i64 (y2 : Int)) ∧ ∃ k, w' = wr.drewN k) := fun q => (HV2'.out q).mono fun e w' ⟨h1, h2⟩ => ⟨h1, q, h2.symm⟩
      have HFr := HFI.out i q HEr.out
      rw [← hy1, ← hy2] at HFr
      have HFR := Lib.hid HFr
      have HY := Lib.hid (And.intro hy1 hy2)
      generalize ((A[i]).toNat : Int) = va at *
      generalize ((B[i]).toNat : Int) = vb at *
      clear hy1 hy2 HV1' HV2' HFr
      go_upto_region 14 with fail
      go_quiet (first | (go_at_call 41; with_reducible exact HV1d.out _) | (go_at_call 41; with_reducible exact HV2d.out _))
      rename_i nq
      have H4q := Lib.hid (H4r.out.below (below_dr wr nq))
      have HBq := Lib.hid (HBr.out.trans ((below_dr wr nq).mono HBr.out.size))
      clear hxA hxB HV1d HV2d k0
      generalize World.drewN wr nq = wq at *
      rcases Nat.lt_trichotomy y1 y2 with c | c | c
      · have hK := HFR.out.1 c
        have g1 : ((y1 : Int) != (y2 : Int)) = true := by rw [bne_iff_ne]; omega
        have g2 : (y1 : Int) < (y2 : Int) := by omega
        have g3 : (K1 : Int) < (K2 : Int) := by omega
        have g4 : ((K1 : Int) != (K2 : Int)) = true := by rw [bne_iff_ne]; omega
        clear hK
        go_wp2_with fail
        refine (HAW.out _).mono ?_
        rintro e wz ⟨rfl, HBz⟩
        go_wp2_with fail
        go_ret
        exact ⟨rfl, HBq.out.trans (HBz.out.mono HBq.out.size)⟩
      · subst c
        have HE2 : Hid (∀ j, j < i + 1 → U1.getD j 0 = U2.getD j 0) := fun j hj => by
          rcases Nat.lt_succ_iff_lt_or_eq.1 hj with h | h
          · exact HEr.out j h
          · subst h; rw [← HY.out.1, ← HY.out.2]
        go_wp2_with fail
        go_roundw
        case rel => exact ⟨i + 1, q, by go_num, H4q, HBq, HE2⟩
        case measure => simp [intOf]; omega
      · have hK := HFR.out.2 c
        have g1 : ((y1 : Int) != (y2 : Int)) = true := by rw [bne_iff_ne]; omega
        have g2 : ¬ (y1 : Int) < (y2 : Int) := by omega
        have g3 : ¬ (K1 : Int) < (K2 : Int) := by omega
        have g4 : ((K1 : Int) != (K2 : Int)) = true := by rw [bne_iff_ne]; omega
        clear hK
        go_wp2_with fail
        refine (HAW.out _).mono ?_
        rintro e wz ⟨rfl, HBz⟩
        go_wp2_with fail
        go_ret
        exact ⟨rfl, HBq.out.trans (HBz.out.mono HBq.out.size)⟩
    · obtain rfl : i = z := by omega
      have q1 : ¬ (i : Int) < (i : Int) := by omega
      have hKK := HSM.out HEr.out
      subst hKK
      go_wp2_with fail
      refine (HAW.out _).mono ?_
      rintro e wz ⟨rfl, HBz⟩
      go_wp2_with fail
      go_ret
      exact ⟨rfl, HBr.out.trans (HBz.out.mono HBr.out.size)⟩
end Go.Proofs.Ytgblfobomiiofaa
