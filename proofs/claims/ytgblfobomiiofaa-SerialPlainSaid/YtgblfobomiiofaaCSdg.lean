/- SerialPlain: the walk. -/
import Derived.Test.YtgblfobomiiofaaCSde
namespace Go.Proofs.Ytgblfobomiiofaa
open Go Go.RowKit Go.Shelf Gw Go.Maps

theorem serB_cons {al : ByteArray} {v : Nat} (hv : v < al.size) (u : List Nat) : al.extract v (v + 1) ++ serB al false u = serB al false (v :: u) := by
  refine bys_inj ?_
  rw [bys_append, bys_extract]
  have e2 : ((bys al).take (v + 1)).drop v = [al[v]] := by
    rw [List.take_add_one, List.drop_append]
    have e2 : (bys al)[v]? = some al[v] := by rw [List.getElem?_eq_getElem (by rw [bys_len]; exact hv)]; rfl
    rw [e2]
    simp [Nat.min_eq_left (Nat.le_of_lt hv)]
  rw [e2]
  show [al[v]] ++ signs al u = signs al (v :: u)
  unfold signs
  simp [hv]
theorem few_size {al : ByteArray} {L : Int} {ck : Bool} (h : fewB ⟨al, L, [], ck⟩ = true) : al.size ≤ 400 := by
  unfold fewB at h
  rw [Bool.and_eq_true] at h
  have h2 := of_decide_eq_true h.2
  simp [fewZ] at h2
  omega
theorem Comp_of {s : Sch} {bv : Value} {u : List Nat} {w : World} (hv : IsSs w bv s.bl) (hV : ValidS s) (hl : u.length = nS s) (hu : ∀ v ∈ u, v < s.al.size) (ha : AllowW (bansS s) u) :
    Calls Try.prog 26 #[schV s bv, .string (serB s.al false u)] w fun e w' => e = .returned (.tuple #[.string (serB s.al s.ck u), .int .i64 0]) ∧ Hid (Below w.heap.size w w') := by
  have hw : wordN s.al (serB s.al false u) = u := by rw [serB_word hV.1.1 false hu]; rfl
  have ht : (serB s.al false u).size = nS s ∧ OfA (serB s.al false u) s.al := ⟨by rw [serB_size s.al _ false hl]; rfl, serB_of hV.1.1.1 false hu⟩
  refine (Complete_any hv).mono ?_
  rintro e w' ⟨hb, ⟨hn, _⟩ | ⟨_, hn, _⟩ | ⟨_, hn, _⟩ | ⟨_, _, hn, _⟩ | ⟨_, _, _, rfl⟩⟩
  · exact absurd hV.1 hn
  · exact absurd hV.2 hn
  · exact absurd ht hn
  · rw [hw] at hn; exact absurd ha hn
  · rw [hw]; exact ⟨rfl, hb⟩
set_option maxRecDepth 100000 in
set_option maxHeartbeats 8000000 in
theorem serialPlain_law {al : ByteArray} {L I : Int} {ck : Bool} {w : World} :
    Calls Try.prog 9 #[.string al, .int .i64 L, .int .i64 I, .bool ck] w fun e w' => e = .returned (.bool true) ∧ Hid (Below w.heap.size w w') := by
  obtain ⟨s, hs⟩ : ∃ s : Sch, s = ⟨al, L, [], ck⟩ := ⟨_, rfl⟩
  have hv : ∀ W : World, IsSs W (.slice none 0 0) s.bl := fun W => by rw [hs]; exact ⟨none, 0, rfl, fun h => absurd h (by simp)⟩
  have HeS : Hid (schV s (.slice none 0 0) = .agg #[.string al, .int .i64 L, .slice none 0 0, .bool ck]) := by show _ = _; rw [hs]; rfl
  have HAW := Lib.hid serawake_any
  obtain ⟨w1, hw1⟩ : ∃ w1, w1 = w.alloc (.cells #[.string al, .int .i64 L, .slice none 0 0, .bool ck] 24) := ⟨_, rfl⟩
  have hb1 : Below w.heap.size w w1 := by rw [hw1]; exact below_al _ _
  have H41 : Hid (B4 w.heap.size (.string al) (.int .i64 L) (.slice none 0 0) (.bool ck) w1) := by rw [hw1]; exact B4.new _ _ _ _ _ _
  have HB1 := Lib.hid hb1
  have HW1 := Lib.hid hw1
  have HVV := Lib.hid hv
  clear hw1 hb1
  have k0 := H41.out.c0; have k1 := H41.out.c1; have k2 := H41.out.c2; have k3 := H41.out.c3
  obtain ⟨fb, hfb⟩ : ∃ fb, fb = fewB s := ⟨_, rfl⟩
  have HFW : Hid (∀ (W : World), Calls Try.prog 16 #[.agg #[.string al, .int .i64 L, .slice none 0 0, .bool ck]] W fun e w' => e = .returned (.bool fb) ∧ Hid (Below W.heap.size W w')) := fun W => by rw [← HeS.out, hfb]; exact few_any (hv W)
  go_enter Try.func9, Try.ntmps9
  go_upto_region 2 with fail
  rw [← HW1.out]
  cases fb with
  | false =>
    clear hfb hv
    go_wp2_with (first
      | (go_at_call 16; (with_reducible refine (HFW.out _).mono ?_); rintro e wa ⟨rfl, HBq⟩; have H4A := Lib.hid (H41.out.below HBq.out); have HBA := Lib.hid (HB1.out.trans (HBq.out.mono HB1.out.size)); have aA0 := H4A.out.c0; have aA1 := H4A.out.c1; have aA2 := H4A.out.c2; have aA3 := H4A.out.c3)
      | fail)
    refine (HAW.out _).mono ?_
    rintro e wz ⟨rfl, HBz⟩
    go_wp2_with fail
    go_ret
    exact ⟨rfl, (HBA.out).trans (HBz.out.mono (HBA.out).size)⟩
  | true =>
  have ha4 : al.size ≤ 400 := few_size (by rw [← hs]; exact hfb.symm)
  have hal : s.al = al := by rw [hs]
  have hFO := fun W => Formed_any (hv W) (by rw [hal]; omega)
  by_cases hW : WellF s
  case neg =>
    have HFO : Hid (∀ (W : World), Calls Try.prog 42 #[.agg #[.string al, .int .i64 L, .slice none 0 0, .bool ck]] W fun e w' => e = .returned (.bool false) ∧ Hid (Below W.heap.size W w')) := fun W => by rw [← HeS.out]; refine (hFO W).mono ?_; rintro e w' ⟨r, rfl, hr, hb⟩; cases r with
      | true => exact absurd (hr.1 rfl) hW
      | false => exact ⟨rfl, hb⟩
    clear hfb hv hFO hW
    go_wp2_with (first
      | (go_at_call 16; (with_reducible refine (HFW.out _).mono ?_); rintro e wa ⟨rfl, HBq⟩; have H4A := Lib.hid (H41.out.below HBq.out); have HBA := Lib.hid (HB1.out.trans (HBq.out.mono HB1.out.size)); have aA0 := H4A.out.c0; have aA1 := H4A.out.c1; have aA2 := H4A.out.c2; have aA3 := H4A.out.c3)
      | (go_at_call 42; (with_reducible refine (HFO.out _).mono ?_); rintro e wb ⟨rfl, HBq⟩; have H4B := Lib.hid (H4A.out.below HBq.out); have HBB := Lib.hid (HBA.out.trans (HBq.out.mono HBA.out.size)); have aB0 := H4B.out.c0; have aB1 := H4B.out.c1; have aB2 := H4B.out.c2; have aB3 := H4B.out.c3)
      | fail)
    refine (HAW.out _).mono ?_
    rintro e wz ⟨rfl, HBz⟩
    go_wp2_with fail
    go_ret
    exact ⟨rfl, (HBB.out).trans (HBz.out.mono (HBB.out).size)⟩
  have HFO : Hid (∀ (W : World), Calls Try.prog 42 #[.agg #[.string al, .int .i64 L, .slice none 0 0, .bool ck]] W fun e w' => e = .returned (.bool true) ∧ Hid (Below W.heap.size W w')) := fun W => by rw [← HeS.out]; refine (hFO W).mono ?_; rintro e w' ⟨r, rfl, hr, hb⟩; rw [hr.2 hW]; exact ⟨rfl, hb⟩
  have hA2 : 2 ≤ al.size := by rw [← hal]; exact hW.1.1
  have hA36 : al.size ≤ 36 := by rw [← hal]; exact hW.1.2.1
  have hSM := fun W => Small_any (s := s) (bv := .slice none 0 0) (M := 1099511627776) (w := W) hW (by decide)
  obtain ⟨n, hn⟩ : ∃ n, n = nS s := ⟨_, rfl⟩
  have hL : L = (n : Int) := by
    have h1 : s.len = L := by rw [hs]
    rw [hn, ← h1]
    have := hW.2.1
    unfold nS
    omega
  subst hL
  have hn16 : n ≤ 16 := by have h1 := hW.2.2.1; have h2 : s.len = (n : Int) := by rw [hs]
                           omega
  rw [hal, ← hn] at hSM
  obtain ⟨A, hA⟩ : ∃ A, A = al.size := ⟨_, rfl⟩
  have hls : ∀ (t ty : TypeId), Try.prog.underlying t = some .string → ∀ W, (Builtin.len_ #[t] ty #[.string al]).run Try.prog W = .ok (.int .i64 (A : Int)) W := fun t ty ht W => by rw [run_len_string _ _ _ _ ht, hA]; rfl
  rw [← hA] at hSM hA2 hA36
  by_cases hT : A ^ n ≤ 1099511627776
  case neg =>
    have HSM : Hid (∀ (W : World), Calls Try.prog 34 #[.agg #[.string al, .int .i64 (n : Int), .slice none 0 0, .bool ck], .int .i64 1099511627776] W fun e w' => e = .returned (.bool false) ∧ Hid (Below W.heap.size W w')) := fun W => by rw [← HeS.out]; refine (hSM W).mono ?_; rintro e w' ⟨r, rfl, hr, hb⟩; cases r with
      | true => exact absurd (hr.1 rfl) hT
      | false => exact ⟨rfl, hb⟩
    clear hfb hv hFO hW hSM hT hs hn hal hA
    go_wp2_with (first
      | (go_at_call 16; (with_reducible refine (HFW.out _).mono ?_); rintro e wa ⟨rfl, HBq⟩; have H4A := Lib.hid (H41.out.below HBq.out); have HBA := Lib.hid (HB1.out.trans (HBq.out.mono HB1.out.size)); have aA0 := H4A.out.c0; have aA1 := H4A.out.c1; have aA2 := H4A.out.c2; have aA3 := H4A.out.c3)
      | (go_at_call 42; (with_reducible refine (HFO.out _).mono ?_); rintro e wb ⟨rfl, HBq⟩; have H4B := Lib.hid (H4A.out.below HBq.out); have HBB := Lib.hid (HBA.out.trans (HBq.out.mono HBA.out.size)); have aB0 := H4B.out.c0; have aB1 := H4B.out.c1; have aB2 := H4B.out.c2; have aB3 := H4B.out.c3)
      | (go_at_call 34; (with_reducible refine (HSM.out _).mono ?_); rintro e wc ⟨rfl, HBq⟩; have H4C := Lib.hid (H4B.out.below HBq.out); have HBC := Lib.hid (HBB.out.trans (HBq.out.mono HBB.out.size)); have aC0 := H4C.out.c0; have aC1 := H4C.out.c1; have aC2 := H4C.out.c2; have aC3 := H4C.out.c3)
      | fail)
    refine (HAW.out _).mono ?_
    rintro e wz ⟨rfl, HBz⟩
    go_wp2_with fail
    go_ret
    exact ⟨rfl, (HBC.out).trans (HBz.out.mono (HBC.out).size)⟩
  have HSM : Hid (∀ (W : World), Calls Try.prog 34 #[.agg #[.string al, .int .i64 (n : Int), .slice none 0 0, .bool ck], .int .i64 1099511627776] W fun e w' => e = .returned (.bool true) ∧ Hid (Below W.heap.size W w')) := fun W => by rw [← HeS.out]; refine (hSM W).mono ?_; rintro e w' ⟨r, rfl, hr, hb⟩; rw [hr.2 hT]; exact ⟨rfl, hb⟩
  have hbl : s.bl = [] := by rw [hs]
  have hck : s.ck = ck := by rw [hs]
  have htot : totS s = A ^ n := by rw [plain_tot hW hbl, hal, ← hA, ← hn]
  obtain ⟨T, hTT⟩ : ∃ T, T = A ^ n := ⟨_, rfl⟩
  rw [← hTT] at hT htot
  have hV : ValidS s := ⟨hW, by rw [htot, hTT]; exact Nat.pow_pos (by omega), by rw [htot]; exact hT⟩
  have HCO : Hid (∀ (W : World), Calls Try.prog 21 #[.agg #[.string al, .int .i64 (n : Int), .slice none 0 0, .bool ck]] W fun e w' => e = .returned (.tuple #[.int .i64 (T : Int), .int .i64 0]) ∧ Hid (Below W.heap.size W w')) := fun W => by rw [← HeS.out, ← htot]; exact Count_yes (hv W) hV
  have HS := Lib.hid (And.intro hs (And.intro hV (And.intro hn (And.intro hA (And.intro htot (And.intro hal (And.intro hck hbl)))))))
  have HTT := Lib.hid hTT
  clear hfb hv hFO hW hSM hs hn hal hA hbl hck htot hV hTT
  go_wp2_with (first
    | (go_at_call 16; (with_reducible refine (HFW.out _).mono ?_); rintro e wa ⟨rfl, HBq⟩; have H4A := Lib.hid (H41.out.below HBq.out); have HBA := Lib.hid (HB1.out.trans (HBq.out.mono HB1.out.size)); have aA0 := H4A.out.c0; have aA1 := H4A.out.c1; have aA2 := H4A.out.c2; have aA3 := H4A.out.c3)
    | (go_at_call 42; (with_reducible refine (HFO.out _).mono ?_); rintro e wb ⟨rfl, HBq⟩; have H4B := Lib.hid (H4A.out.below HBq.out); have HBB := Lib.hid (HBA.out.trans (HBq.out.mono HBA.out.size)); have aB0 := H4B.out.c0; have aB1 := H4B.out.c1; have aB2 := H4B.out.c2; have aB3 := H4B.out.c3)
    | (go_at_call 34; (with_reducible refine (HSM.out _).mono ?_); rintro e wc ⟨rfl, HBq⟩; have H4C := Lib.hid (H4B.out.below HBq.out); have HBC := Lib.hid (HBB.out.trans (HBq.out.mono HBB.out.size)); have aC0 := H4C.out.c0; have aC1 := H4C.out.c1; have aC2 := H4C.out.c2; have aC3 := H4C.out.c3)
    | fail)
  go_loopw [10, 11] (fun sC sI wr => ∃ i p : Nat, i ≤ n ∧ p ≤ 1099511627776 ∧ sI = .int .i64 i ∧ sC = .int .i64 p ∧ Hid (p = A ^ i) ∧ Hid (wc = wr)) (fun _ sI _ => n - (intOf sI).toNat)
  case atStart => exact ⟨0, 1, Nat.zero_le _, by decide, rfl, rfl, rfl, rfl⟩
  case round =>
    obtain ⟨i, p, hi, hp, rfl, rfl, HP, HWR⟩ := hrel
    obtain rfl := HWR.out
    by_cases q : i < n
    · have q1 : (i : Int) < (n : Int) := by omega
      obtain ⟨i1, hi1⟩ : ∃ i1, i1 = i + 1 := ⟨_, rfl⟩
      have hw : IntKind.i64.wrap ((i : Int) + 1) = (i1 : Int) := by rw [IntWalk.i64_in _ (by omega)]; omega
      obtain ⟨d, hd⟩ : ∃ d, d = p * A := ⟨_, rfl⟩
      have hdA : d = A ^ i1 := by rw [hd, HP.out, hi1, Nat.pow_succ]
      have hdT : d ≤ 1099511627776 := by
        have h5 : A ^ i1 ≤ A ^ n := Nat.pow_le_pow_right (by omega) (by omega)
        rw [← HTT.out] at h5
        omega
      have hdi : (p : Int) * (A : Int) = (d : Int) := by rw [hd]; simp
      have v1 : IntKind.i64.wrap ((p : Int) * (A : Int)) = (d : Int) := by rw [hdi, IntWalk.i64_in _ (by omega)]
      have HP2 : Hid (d = A ^ i1) := hdA
      have him : n - i1 < n - i := by omega
      have hil : i1 ≤ n := by omega
      clear hd hdA hdi hi1
      go_wp2_with fail
      go_roundw
      case rel => exact ⟨i1, d, hil, hdT, by go_num, by go_num, HP2, (by first | exact rfl | exact Lib.hid trivial)⟩
      case measure => simp [intOf]; omega
    · obtain rfl : i = n := by omega
      have q1 : ¬ (i : Int) < (i : Int) := by omega
      obtain rfl : p = T := by rw [HP.out, HTT.out]
      by_cases hIT : 0 ≤ I ∧ I < (p : Int)
      case neg =>
        by_cases g1 : I < 0
        · skip
          go_wp2_with (first
            | (go_at_call 21; (with_reducible refine (HCO.out _).mono ?_); rintro e wd ⟨rfl, HBq⟩; have H4D := Lib.hid (H4C.out.below HBq.out); have HBD := Lib.hid (HBC.out.trans (HBq.out.mono HBC.out.size)); have aD0 := H4D.out.c0; have aD1 := H4D.out.c1; have aD2 := H4D.out.c2; have aD3 := H4D.out.c3)
            | fail)
          refine (HAW.out _).mono ?_
          rintro e wz ⟨rfl, HBz⟩
          go_wp2_with fail
          go_ret
          exact ⟨rfl, (HBD.out).trans (HBz.out.mono (HBD.out).size)⟩
        · have g2 : I ≥ (p : Int) := by omega
          go_wp2_with (first
            | (go_at_call 21; (with_reducible refine (HCO.out _).mono ?_); rintro e wd ⟨rfl, HBq⟩; have H4D := Lib.hid (H4C.out.below HBq.out); have HBD := Lib.hid (HBC.out.trans (HBq.out.mono HBC.out.size)); have aD0 := H4D.out.c0; have aD1 := H4D.out.c1; have aD2 := H4D.out.c2; have aD3 := H4D.out.c3)
            | fail)
          refine (HAW.out _).mono ?_
          rintro e wz ⟨rfl, HBz⟩
          go_wp2_with fail
          go_ret
          exact ⟨rfl, (HBD.out).trans (HBz.out.mono (HBD.out).size)⟩
      obtain ⟨N, rfl⟩ : ∃ N : Nat, I = N := ⟨I.toNat, by omega⟩
      have g1 : ¬ (N : Int) < 0 := by omega
      have g2 : ¬ (N : Int) ≥ (p : Int) := by omega
      have hNp : N < p := by omega
      clear hIT
      obtain ⟨X0, hX0⟩ : ∃ X0 : ByteArray, X0 = ⟨#[]⟩ := ⟨_, rfl⟩
      go_wp2_with (first
        | (go_at_call 21; (with_reducible refine (HCO.out _).mono ?_); rintro e wd ⟨rfl, HBq⟩; have H4D := Lib.hid (H4C.out.below HBq.out); have HBD := Lib.hid (HBC.out.trans (HBq.out.mono HBC.out.size)); have aD0 := H4D.out.c0; have aD1 := H4D.out.c1; have aD2 := H4D.out.c2; have aD3 := H4D.out.c3)
        | fail)
      go_loopw [14, 15, 16] (fun sB sK sI wr => ∃ (j k : Nat) (X : ByteArray), j ≤ i ∧ k ≤ N ∧ sI = .int .i64 j ∧ sK = .int .i64 k ∧ sB = .string X ∧ Hid (k = N / A ^ j ∧ X = serB al false (lowD A j N)) ∧ Hid (B4 w.heap.size (.string al) (.int .i64 (i : Int)) (.slice none 0 0) (.bool ck) wr) ∧ Hid (Below w.heap.size w wr)) (fun _ _ sI _ => i - (intOf sI).toNat)
      case atStart => exact ⟨0, N, ⟨#[]⟩, Nat.zero_le _, Nat.le_refl _, rfl, rfl, rfl, ⟨by simp, rfl⟩, H4D, HBD⟩
      case round =>
        obtain ⟨j, k, X, hj, hk, rfl, rfl, rfl, HK, H4R, HBR⟩ := hrel
        have r0 := H4R.out.c0; have r1 := H4R.out.c1; have r2 := H4R.out.c2; have r3 := H4R.out.c3
        by_cases q2 : j < i
        · have q3 : (j : Int) < (i : Int) := by omega
          obtain ⟨j1, hj1⟩ : ∃ j1, j1 = j + 1 := ⟨_, rfl⟩
          have hw : IntKind.i64.wrap ((j : Int) + 1) = (j1 : Int) := by rw [IntWalk.i64_in _ (by omega)]; omega
          obtain ⟨v, hv⟩ : ∃ v, v = k % A := ⟨_, rfl⟩
          have hvA : v < A := by rw [hv]; exact Nat.mod_lt _ (by omega)
          obtain ⟨k1, hk1⟩ : ∃ k1, k1 = k / A := ⟨_, rfl⟩
          have hk1k : k1 ≤ N := by rw [hk1]; exact Nat.le_trans (Nat.div_le_self _ _) hk
          have hAz : ((A : Int) == 0) = false := beq_eq_false_iff_ne.2 (by omega)
          have hAz2 : ¬ (A : Int) = 0 := by omega
          have m1 : ((k : Int)).tmod (A : Int) = (v : Int) := by rw [Int.tmod_eq_emod_of_nonneg (by omega), hv]; simp
          have m2 : ((k : Int)) % (A : Int) = (v : Int) := by rw [hv]; simp
          have m3 : IntKind.i64.wrap (v : Int) = (v : Int) := IntWalk.i64_in _ (by omega)
          have d1 : ((k : Int)).tdiv (A : Int) = (k1 : Int) := by rw [Int.tdiv_eq_ediv_of_nonneg (by omega), hk1]; simp
          have d2 : ((k : Int)) / (A : Int) = (k1 : Int) := by rw [hk1]; simp
          have d3 : IntKind.i64.wrap (k1 : Int) = (k1 : Int) := IntWalk.i64_in _ (by omega)
          obtain ⟨v1, hv1⟩ : ∃ v1, v1 = v + 1 := ⟨_, rfl⟩
          have m4 : IntKind.i64.wrap ((v : Int) + 1) = (v1 : Int) := by rw [IntWalk.i64_in _ (by omega)]; omega
          have hA := HS.out.2.2.2.1
          have hsl : ∀ W, (Instr.slice 9 (.string al) (some (.int .i64 (v : Int))) (some (.int .i64 (v1 : Int))) none).run Try.prog W = .ok (.string (al.extract v v1)) W := fun W => slice_in (by omega) (by omega) W
          obtain ⟨Y, hY⟩ : ∃ Y, Y = al.extract v v1 ++ X := ⟨_, rfl⟩
          have hXs : X.size ≤ 16 := by rw [HK.out.2, serB_size al j false (lowD_len A j N)]; unfold szN; simp; omega
          have hes : (al.extract v v1).size ≤ 36 := by rw [ByteArray.size_extract]; omega
          have hadd : ∀ W : World, (Op.stringOp .add (al.extract v v1) X).run Try.prog W = .ok (.string Y) W := fun W => by rw [run_string_add_sum W _ _ (by omega), hY]
          have HK2 : Hid (k1 = N / A ^ j1 ∧ Y = serB al false (lowD A j1 N)) := by
            refine ⟨?_, ?_⟩
            · rw [hk1, HK.out.1, hj1, Nat.div_div_eq_div_mul, Nat.pow_succ]
            · rw [hY, hv1, HK.out.2, serB_cons (by omega), hj1]
              show _ = serB al false ((N / A ^ j % A) :: lowD A j N)
              rw [hv, HK.out.1]
          have him : i - j1 < i - j := by omega
          have hil : j1 ≤ i := by omega
          clear hv hk1 hv1 hY hj1 hA hXs hes
          go_upto_region 16 with fail
          go_quiet (fail)
          rename_i nq
          have H4q := Lib.hid (H4R.out.below (below_dr wr nq))
          have HBq := Lib.hid (HBR.out.trans ((below_dr wr nq).mono HBR.out.size))
          go_wp2_with fail
          go_roundw
          case rel => exact ⟨j1, k1, Y, hil, hk1k, by go_num, by go_num, by go_num, HK2, H4q, HBq⟩
          case measure => simp [intOf]; omega
        · obtain rfl : j = i := by omega
          have q3 : ¬ (j : Int) < (j : Int) := by omega
          obtain ⟨hs, hV, hn, hA, htot, hal, hck, hbl⟩ := HS.out
          have hXX := HK.out.2
          obtain ⟨u, hu⟩ : ∃ u, u = lowD A j N := ⟨_, rfl⟩
          have huA : ∀ v ∈ u, v < s.al.size := fun v hv => by rw [hal, ← hA]; rw [hu] at hv; exact lowD_lt (by omega) hv
          have hul : u.length = j := by rw [hu, lowD_len]
          have hat : (wordsS s)[N]? = some u := by
            have h5 := plain_at hV.1 hbl (n := N) (by rw [hal, ← hA, ← hn, ← HTT.out]; exact hNp)
            rw [hal, ← hA, ← hn, ← hu] at h5
            exact h5
          obtain ⟨Z, hZ⟩ : ∃ Z, Z = serB al ck u := ⟨_, rfl⟩
          have hX2 : X = serB s.al false u := by rw [hXX, hal, hu]
          have HTX : Hid (∀ (W : World), Calls Try.prog 24 #[.agg #[.string al, .int .i64 (j : Int), .slice none 0 0, .bool ck], .int .i64 (N : Int)] W fun e w' => e = .returned (.tuple #[.string Z, .int .i64 0]) ∧ Hid (Below W.heap.size W w')) := fun W => by rw [← HeS.out, hZ, ← hal, ← hck]; exact Text_of (HVV.out W) hV (by rw [htot]; exact hNp) hat
          have HCM : Hid (∀ (W : World), Calls Try.prog 26 #[.agg #[.string al, .int .i64 (j : Int), .slice none 0 0, .bool ck], .string X] W fun e w' => e = .returned (.tuple #[.string Z, .int .i64 0]) ∧ Hid (Below W.heap.size W w')) := fun W => by rw [← HeS.out, hZ, ← hal, ← hck, hX2]; exact Comp_of (HVV.out W) hV (by rw [hul]; exact hn) huA (fun b hb => by unfold bansS at hb; rw [hbl] at hb; simp at hb)
          have HSE : Hid (∀ (W : World), Calls Try.prog 43 #[.agg #[.string al, .int .i64 (j : Int), .slice none 0 0, .bool ck], .string X] W fun e w' => e = .returned (.string Z) ∧ Hid (Below W.heap.size W w')) := fun W => by rw [← HeS.out, hZ, ← hal, ← hck, hX2]; exact RSerial_any hV.1 huA (by omega)
          clear hs hV hn hA htot hal hck hbl hXX hu huA hul hat hZ hX2
          go_wp2_with (first
            | (go_at_call 24; (with_reducible refine (HTX.out _).mono ?_); rintro e we ⟨rfl, HBq⟩; have H4E := Lib.hid (H4R.out.below HBq.out); have HBE := Lib.hid (HBR.out.trans (HBq.out.mono HBR.out.size)); have aE0 := H4E.out.c0; have aE1 := H4E.out.c1; have aE2 := H4E.out.c2; have aE3 := H4E.out.c3)
            | (go_at_call 26; (with_reducible refine (HCM.out _).mono ?_); rintro e wf ⟨rfl, HBq⟩; have H4F := Lib.hid (H4E.out.below HBq.out); have HBF := Lib.hid (HBE.out.trans (HBq.out.mono HBE.out.size)); have aF0 := H4F.out.c0; have aF1 := H4F.out.c1; have aF2 := H4F.out.c2; have aF3 := H4F.out.c3)
            | (go_at_call 43; (with_reducible refine (HSE.out _).mono ?_); rintro e wg ⟨rfl, HBq⟩; have H4G := Lib.hid (H4F.out.below HBq.out); have HBG := Lib.hid (HBF.out.trans (HBq.out.mono HBF.out.size)); have aG0 := H4G.out.c0; have aG1 := H4G.out.c1; have aG2 := H4G.out.c2; have aG3 := H4G.out.c3)
            | fail)
          refine (HAW.out _).mono ?_
          rintro e wz ⟨rfl, HBz⟩
          go_wp2_with fail
          go_ret
          exact ⟨rfl, (HBG.out).trans (HBz.out.mono (HBG.out).size)⟩
end Go.Proofs.Ytgblfobomiiofaa
