/- The law SampleShares: its walk. -/
import Derived.Test.YtfkogbomijonjaaGreatDoorTSzB
import Derived.Test.YtfkogbomijonjaaGreatDoorTSz3
namespace Go.Proofs.YtfkogbomijonjaaGreatDoor
open Go Go.RowKit Gu

theorem sumF_elem (f : Nat → Nat) {i m : Nat} (h : i < m) : f i ≤ sumF f m :=
  Nat.le_trans (Nat.le_add_left _ _) (sumF_mono f (show i + 1 ≤ m from h))
set_option maxRecDepth 100000 in
set_option maxHeartbeats 2000000 in
theorem sampleShares_law {n : Int} {v : Value} {l : List Int} {W : World} (hn : -9223372036854775808 ≤ n ∧ n ≤ 9223372036854775807) (hv : IsIs W v l) (he : Env W) :
    Calls Tryz.prog 3 #[.int .i64 n, v] W fun e w' => e = .returned (.bool true) ∧ Below W.heap.size W w' := by
  have HAW : Hid (∀ W', Below W.heap.size W W' → Calls Tryz.prog 5 #[] W' fun e w' => e = .returned (.bool true) ∧ Hid (Below W'.heap.size W' w')) := fun W' h => sawake_any W' (he.below h)
  have HI := Lib.hid hv
  have HTO := Lib.hid (Total_any (n := n) hv)
  have HALL := Lib.hid (Allot_any (n := n) hv)
  obtain ⟨ao, c, rfl, -⟩ := hv
  obtain ⟨m, hm⟩ : ∃ m, m = l.length := ⟨_, rfl⟩
  rw [← hm] at HTO HALL HI
  rw [← hm]
  have HM := Lib.hid hm
  clear hm he
  go_enter Tryz.func3, Tryz.ntmps3
  go_wp2_with fail
  refine HTO.out.mono ?_
  rintro _ w' ⟨⟨t, b, rfl, hb, ht⟩, rfl⟩
  have HBF := Lib.hid hb; have HT := Lib.hid ht
  clear hb ht HTO
  cases b with
  | false =>
    go_wp2_with fail
    refine (HAW.out _ (Below.refl _ _)).mono ?_
    rintro e w' ⟨rfl, hb⟩
    go_wp2_with fail
    go_ret
    exact ⟨rfl, hb.out⟩
  | true =>
    by_cases t1 : t < 1
    · have d1 : decide (t < 1) = true := decide_eq_true t1
      go_wp2_with fail
      refine (HAW.out _ (Below.refl _ _)).mono ?_
      rintro e w' ⟨rfl, hb⟩
      go_wp2_with fail
      go_ret
      exact ⟨rfl, hb.out⟩
    · have d1 : decide (t < 1) = false := decide_eq_false t1
      by_cases t2 : t > 67108864
      · have d2 : decide (t > 67108864) = true := decide_eq_true t2
        have d3 : decide (67108864 < t) = true := decide_eq_true t2
        go_wp2_with fail
        refine (HAW.out _ (Below.refl _ _)).mono ?_
        rintro e w' ⟨rfl, hb⟩
        go_wp2_with fail
        go_ret
        exact ⟨rfl, hb.out⟩
      · have d2 : decide (t > 67108864) = false := decide_eq_false t2
        have d3 : decide (67108864 < t) = false := decide_eq_false t2
        have HP : Hid (AllotP n l) := HBF.out.1 rfl
        obtain ⟨tt, htt⟩ : ∃ k, k = sumF (szF l) l.length := ⟨_, rfl⟩
        have e0 : t = (tt : Int) := by rw [htt]; exact HT.out HP.out.1
        have hn2 := HP.out.2
        rw [← htt] at hn2
        obtain ⟨nn, rfl⟩ : ∃ k : Nat, n = (k : Int) := ⟨n.toNat, by omega⟩
        have HTT := Lib.hid htt
        have hnt : nn ≤ tt := by omega
        have htt1 : 0 < tt := by omega
        have htt2 : tt ≤ 67108864 := by omega
        subst e0
        clear htt hn2 HBF HT
        go_wp2_with fail
        refine HALL.out.mono ?_
        rintro _ w2 ⟨hr, HB2⟩
        rcases hr with ⟨-, a, L, rfl, hk, hr⟩ | ⟨hno, -⟩
        · obtain ⟨s, τ, p1, p2, p3, hτ, p4, p5⟩ := hk
          rw [← HTT.out, show ((nn : Int)).toNat = nn by omega, ← HM.out] at p5
          rw [← HTT.out, show ((nn : Int)).toNat = nn by omega, ← HM.out] at p4
          rw [← HM.out] at p3 hr hτ
          rw [← HM.out] at HTT
          obtain ⟨u, hu⟩ : ∃ u, u = nn - sumF (quoF nn tt (szF l)) m := ⟨_, rfl⟩
          have HSU : Hid (sumF (allotF nn tt (szF l) τ u) m = nn) := by rw [hu]; exact allot_sum HTT.out htt1 p1 p2 p3 hτ
          have HLE : Hid (∀ i, i < m → allotF nn tt (szF l) τ u i ≤ szF l i) := fun i hi => by rw [hu]; exact allot_le HTT.out htt1 p1 p2 p3 hτ p4 hnt hi
          have HRE : Hid (∀ i, i < m → τ i < u → 0 < remF nn tt (szF l) i) := fun i hi h => allot_rem HTT.out htt1 p1 p2 p3 hτ p4 hi (by rw [← hu]; exact h)
          rw [← hu] at p5
          have HZ : Hid (IsZs w2 (.slice a m m) L) := IsZs.of_row hr (by rw [p5, fnL_len])
          have HL := Lib.hid p5
          have HI2 : Hid (IsIs w2 (.slice ao m c) l) := HI.out.below HB2.out
          have HSZ : Hid (∀ i (h : i < l.length), (szF l i : Int) = l[i] ∧ szF l i ≤ tt) := fun i h => ⟨szF_at h (HP.out.1.2 i h), by rw [HTT.out]; exact sumF_elem _ (by rw [HM.out]; exact h)⟩
          have hm64 : m ≤ 64 := by rw [HM.out]; exact HP.out.1.1
          have hnn : nn ≤ 67108864 := by omega
          have htt3 : ¬ (tt : Int) = 0 := by omega
          have hmm : ((m : Int) != (m : Int)) = false := by simp
          clear p1 p2 p3 p4 p5 hr hτ hu HALL HI HP
          rw [← HM.out]
          go_wp2_with fail
          go_loopw [9, 10, 11, 12, 47] (fun s _ _ _ k wr => ∃ i ss : Nat, i ≤ m ∧ ss ≤ nn ∧ k = .int .i64 i ∧ s = .int .i64 ss ∧ Hid (ss = sumF (allotF nn tt (szF l) τ u) i) ∧ w2 = wr) (fun _ _ _ _ k _ => m - (intOf k).toNat)
          case atStart => exact ⟨0, 0, Nat.zero_le _, Nat.zero_le _, rfl, rfl, rfl, rfl⟩
          case round =>
            obtain ⟨i, ss, him, hss, rfl, rfl, HS, rfl⟩ := hrel
            by_cases q : i < m
            · have q1 : (i : Int) < m := by omega
              have hw : IntKind.i64.wrap ((i : Int) + 1) = ((i + 1 : Nat) : Int) := by rw [IntWalk.i64_in _ (by omega)]; omega
              have hil : i < l.length := by rw [← HM.out]; exact q
              obtain ⟨B, o, e1, d0⟩ := HI2.out.at' hil
              obtain ⟨B2, o2, e2, d1'⟩ := HZ.out.at' (j := i) (by rw [HL.out, fnL_len]; exact q)
              have hLi : (L[i]'(by rw [HL.out, fnL_len]; exact q)) = allotF nn tt (szF l) τ u i := by simp [HL.out, fnL]
              obtain ⟨y, hy⟩ : ∃ y, y = szF l i := ⟨_, rfl⟩
              have hyl := (HSZ.out i hil).1
              have hyt := (HSZ.out i hil).2
              rw [← hyl, ← hy] at d0
              rw [← hy] at hyt
              obtain ⟨z, hz⟩ : ∃ z, z = allotF nn tt (szF l) τ u i := ⟨_, rfl⟩
              rw [hLi, ← hz] at d1'
              have hzy : z ≤ y := by rw [hz, hy]; exact HLE.out i q
              obtain ⟨P, hP⟩ : ∃ P, P = nn * y := ⟨_, rfl⟩
              have hPb : P ≤ 67108864 * 67108864 := by rw [hP]; exact Nat.mul_le_mul hnn (by omega)
              obtain ⟨lo, hlo⟩ : ∃ k, k = P / tt := ⟨_, rfl⟩
              obtain ⟨re, hre⟩ : ∃ k, k = P % tt := ⟨_, rfl⟩
              have hlq : lo = quoF nn tt (szF l) i := by rw [hlo, hP, hy]; rfl
              have hrq : re = remF nn tt (szF l) i := by rw [hre, hP, hy]; rfl
              have hlP : lo ≤ P := by rw [hlo]; exact Nat.div_le_self _ _
              have hzl : (z = lo) ∨ (z = lo + 1 ∧ 0 < re) := by
                rw [hz, hlq, hrq]
                unfold allotF
                by_cases c : τ i < u
                · rw [if_pos c]; exact .inr ⟨rfl, HRE.out i q c⟩
                · rw [if_neg c]; exact .inl rfl
              have w1 : IntKind.i64.wrap ((nn : Int) * (y : Int)) = (P : Int) := by
                rw [show (nn : Int) * y = ((nn * y : Nat) : Int) by simp, ← hP]; exact IntWalk.i64_in _ (by omega)
              have w3 : (P : Int) / (tt : Int) = (lo : Int) := by rw [hlo]; simp
              have w4 : (P : Int) % (tt : Int) = (re : Int) := by rw [hre]; simp
              have w3b : (P : Int).tdiv (tt : Int) = (lo : Int) := by rw [Int.tdiv_eq_ediv_of_nonneg (by omega)]; exact w3
              have w4b : (P : Int).tmod (tt : Int) = (re : Int) := by rw [Int.tmod_eq_emod_of_nonneg (by omega)]; exact w4
              have w5 : IntKind.i64.wrap (lo : Int) = (lo : Int) := IntWalk.i64_in _ (by omega)
              obtain ⟨s2, hs2⟩ : ∃ k, k = ss + z := ⟨_, rfl⟩
              have HS2 : Hid (s2 = sumF (allotF nn tt (szF l) τ u) (i + 1)) := by rw [hs2, HS.out, hz]; exact rfl
              have hs2n : s2 ≤ nn := by
                have h1 := sumF_mono (allotF nn tt (szF l) τ u) (show i + 1 ≤ m from q)
                have h2 := HS2.out
                have h3 := HSU.out
                omega
              have w6 : IntKind.i64.wrap ((ss : Int) + (z : Int)) = (s2 : Int) := by rw [IntWalk.i64_in _ (by omega)]; omega
              have w7 : ¬ (z : Int) > (y : Int) := by omega
              have w8 : decide ((z : Int) > (y : Int)) = false := decide_eq_false w7
              have w9 : decide ((y : Int) < (z : Int)) = false := decide_eq_false w7
              subst e1; subst e2
              clear hy hyl hz hP hlo hre hlq hrq hLi hs2
              rcases hzl with rfl | ⟨rfl, hre0⟩
              · have v1 : ¬ (z : Int) < (z : Int) := by omega
                have v2 : decide ((z : Int) < (z : Int)) = false := decide_eq_false v1
                have v3 : IntKind.i64.wrap ((z : Int) + 1) = (z : Int) + 1 := IntWalk.i64_in _ (by omega)
                have v4 : decide ((z : Int) > (z : Int) + 1) = false := decide_eq_false (by omega)
                have v5 : decide ((z : Int) + 1 < (z : Int)) = false := decide_eq_false (by omega)
                go_wp2_with fail
                go_roundw
                case rel => exact ⟨i + 1, s2, q, hs2n, by go_num, rfl, HS2, by trivial⟩
                case measure => simp [intOf]; omega
              · obtain ⟨z, hz⟩ : ∃ z, z = lo + 1 := ⟨_, rfl⟩
                rw [← hz] at d1' w6 w7 w8 w9 hzy
                have v1 : ¬ (z : Int) < (lo : Int) := by omega
                have v2 : decide ((z : Int) < (lo : Int)) = false := decide_eq_false v1
                have v3 : IntKind.i64.wrap ((lo : Int) + 1) = (z : Int) := by rw [IntWalk.i64_in _ (by omega)]; omega
                have v4 : decide ((z : Int) > (z : Int)) = false := decide_eq_false (by omega)
                have v4b : decide ((z : Int) < (z : Int)) = false := decide_eq_false (by omega)
                have v5 : decide ((z : Int) > (lo : Int)) = true := decide_eq_true (by omega)
                have v6 : decide ((lo : Int) < (z : Int)) = true := decide_eq_true (by omega)
                have v7 : ((re : Int) == 0) = false := beq_eq_false_iff_ne.2 (by omega)
                have v8 : ¬ (re : Int) = 0 := by omega
                clear hz
                go_wp2_with fail
                all_goals
                  go_roundw
                  case rel => exact ⟨i + 1, s2, q, hs2n, by go_num, rfl, HS2, by trivial⟩
                  case measure => simp [intOf]; omega
            · obtain rfl : i = m := by omega
              have q1 : ¬ (i : Int) < i := by omega
              have hssn : ss = nn := by rw [HS.out, HSU.out]
              have v1 : ((ss : Int) == (nn : Int)) = true := by rw [hssn]; simp
              have HA2 := Lib.hid (HAW.out _ HB2.out)
              have HSN := Lib.hid hssn
              subst hssn
              go_wp2_with fail
              refine HA2.out.mono ?_
              rintro e w5 ⟨rfl, hb⟩
              go_wp2_with fail
              go_ret
              exact ⟨rfl, HB2.out.trans (hb.out.mono HB2.out.size)⟩
        · exact absurd HP.out hno
end Go.Proofs.YtfkogbomijonjaaGreatDoor
