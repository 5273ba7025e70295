/- Contracts and lemmas (several texts merged into one). -/
import Derived.Test.YtgblfobomiiofaaTSerL
import Derived.Test.YtgblfobomiiofaaTSerF
import Derived.Test.YtgblfobomiiofaaTSerC
import Derived.Test.YtgblfobomiiofaaTSerB
import Derived.Test.YtgblfobomiiofaaTSerA
namespace Go.Proofs.Ytgblfobomiiofaa
open Go Go.RowKit Go.Shelf Gw Go.Maps

open Classical in
/-- the error of a scheme that is not valid -/
noncomputable def errV (s : Sch) : Int := if WellF s then 3 else 20
theorem errV_no {s : Sch} (h : ¬ WellF s) : errV s = 20 := by unfold errV; rw [if_neg h]
theorem errV_yes {s : Sch} (h : WellF s) : errV s = 3 := by unfold errV; rw [if_pos h]
theorem errV_or (s : Sch) : errV s = 3 ∨ errV s = 20 := by
  by_cases h : WellF s
  · exact .inl (errV_yes h)
  · exact .inr (errV_no h)
theorem E_check {s : Sch} {bv : Value}  {w : World} (hv : IsSs w bv s.bl) (hV : ¬ ValidS s) : Calls Try.prog 20 #[schV s bv] w fun e w' => e = .returned (.int .i64 (errV s)) ∧ Hid (Below w.heap.size w w') := by
  refine (Check_any hv).mono ?_
  rintro e w' ⟨hb, ⟨h, rfl⟩ | ⟨h, _, rfl⟩ | ⟨h, _⟩⟩
  · exact ⟨by rw [errV_no h] <;> rfl, hb⟩
  · exact ⟨by rw [errV_yes h] <;> rfl, hb⟩
  · exact absurd h hV
theorem E_rcheck {s : Sch} {bv : Value}  {w : World} (hv : IsSs w bv s.bl) (hV : ¬ ValidS s) : Calls Try.prog 19 #[schV s bv] w fun e w' => e = .returned (.tuple #[.agg #[.slice none 0 0, .slice none 0 0, .slice none 0 0], .int .i64 (errV s)]) ∧ Hid (Below w.heap.size w w') := by
  refine (RCheck_any hv).mono ?_
  rintro e w' ⟨hb, ⟨h, rfl⟩ | ⟨h, _, rfl⟩ | ⟨h, _⟩⟩
  · exact ⟨by rw [errV_no h] <;> rfl, hb⟩
  · exact ⟨by rw [errV_yes h] <;> rfl, hb⟩
  · exact absurd h hV
theorem E_count {s : Sch} {bv : Value}  {w : World} (hv : IsSs w bv s.bl) (hV : ¬ ValidS s) : Calls Try.prog 21 #[schV s bv] w fun e w' => e = .returned (.tuple #[.int .i64 0, .int .i64 (errV s)]) ∧ Hid (Below w.heap.size w w') := by
  refine (Count_any hv).mono ?_
  rintro e w' ⟨hb, ⟨h, rfl⟩ | ⟨h, _, rfl⟩ | ⟨h, _⟩⟩
  · exact ⟨by rw [errV_no h] <;> rfl, hb⟩
  · exact ⟨by rw [errV_yes h] <;> rfl, hb⟩
  · exact absurd h hV
theorem E_text {s : Sch} {bv : Value} {N : Int} {w : World} (hv : IsSs w bv s.bl) (hV : ¬ ValidS s) : Calls Try.prog 24 #[schV s bv, .int .i64 N] w fun e w' => e = .returned (.tuple #[.string ⟨#[]⟩, .int .i64 (errV s)]) ∧ Hid (Below w.heap.size w w') := by
  refine (Text_any hv).mono ?_
  rintro e w' ⟨hb, ⟨h, rfl⟩ | ⟨h, _, rfl⟩ | ⟨h, _⟩ | ⟨h, _⟩⟩
  · exact ⟨by rw [errV_no h] <;> rfl, hb⟩
  · exact ⟨by rw [errV_yes h] <;> rfl, hb⟩
  · exact absurd h hV
  · exact absurd h hV
theorem E_number {s : Sch} {bv : Value} {t : ByteArray} {w : World} (hv : IsSs w bv s.bl) (hV : ¬ ValidS s) : Calls Try.prog 25 #[schV s bv, .string t] w fun e w' => e = .returned (.tuple #[.int .i64 0, .int .i64 (errV s)]) ∧ Hid (Below w.heap.size w w') := by
  refine (Number_any hv).mono ?_
  rintro e w' ⟨hb, ⟨h, rfl⟩ | ⟨h, _, rfl⟩ | ⟨h, _⟩ | ⟨h, _⟩ | ⟨h, _⟩ | ⟨h, _⟩⟩
  · exact ⟨by rw [errV_no h] <;> rfl, hb⟩
  · exact ⟨by rw [errV_yes h] <;> rfl, hb⟩
  · exact absurd h hV
  · exact absurd h hV
  · exact absurd h hV
  · exact absurd h hV
theorem E_complete {s : Sch} {bv : Value} {t : ByteArray} {w : World} (hv : IsSs w bv s.bl) (hV : ¬ ValidS s) : Calls Try.prog 26 #[schV s bv, .string t] w fun e w' => e = .returned (.tuple #[.string ⟨#[]⟩, .int .i64 (errV s)]) ∧ Hid (Below w.heap.size w w') := by
  refine (Complete_any hv).mono ?_
  rintro e w' ⟨hb, ⟨h, rfl⟩ | ⟨h, _, rfl⟩ | ⟨h, _⟩ | ⟨h, _⟩ | ⟨h, _⟩⟩
  · exact ⟨by rw [errV_no h] <;> rfl, hb⟩
  · exact ⟨by rw [errV_yes h] <;> rfl, hb⟩
  · exact absurd h hV
  · exact absurd h hV
  · exact absurd h hV
theorem E_matches {s : Sch} {bv : Value} {t : ByteArray} {w : World} (hv : IsSs w bv s.bl) (hV : ¬ ValidS s) : Calls Try.prog 27 #[schV s bv, .string t] w fun e w' => e = .returned (.tuple #[.int .i64 0, .int .i64 (errV s)]) ∧ Hid (Below w.heap.size w w') := by
  refine (Matches_any hv).mono ?_
  rintro e w' ⟨hb, ⟨h, rfl⟩ | ⟨h, _, rfl⟩ | ⟨h, _⟩ | ⟨h, _⟩⟩
  · exact ⟨by rw [errV_no h] <;> rfl, hb⟩
  · exact ⟨by rw [errV_yes h] <;> rfl, hb⟩
  · exact absurd h hV
  · exact absurd h hV
theorem E_match {s : Sch} {bv : Value} {t : ByteArray} {N : Int} {w : World} (hv : IsSs w bv s.bl) (hV : ¬ ValidS s) : Calls Try.prog 28 #[schV s bv, .string t, .int .i64 N] w fun e w' => e = .returned (.tuple #[.string ⟨#[]⟩, .int .i64 (errV s)]) ∧ Hid (Below w.heap.size w w') := by
  refine (Match_any hv).mono ?_
  rintro e w' ⟨hb, ⟨h, rfl⟩ | ⟨h, _, rfl⟩ | ⟨h, _⟩ | ⟨h, _⟩ | ⟨h, _⟩⟩
  · exact ⟨by rw [errV_no h] <;> rfl, hb⟩
  · exact ⟨by rw [errV_yes h] <;> rfl, hb⟩
  · exact absurd h hV
  · exact absurd h hV
  · exact absurd h hV
theorem E_below {s : Sch} {bv : Value} {t : ByteArray} {N : Int} {w : World} (hv : IsSs w bv s.bl) (hV : ¬ ValidS s) : Calls Try.prog 29 #[schV s bv, .string t, .int .i64 N] w fun e w' => e = .returned (.tuple #[.int .i64 0, .int .i64 (errV s)]) ∧ Hid (Below w.heap.size w w') := by
  refine (Below_any hv).mono ?_
  rintro e w' ⟨hb, ⟨h, rfl⟩ | ⟨h, _, rfl⟩ | ⟨h, _⟩ | ⟨h, _⟩ | ⟨h, _⟩ | ⟨h, _⟩⟩
  · exact ⟨by rw [errV_no h] <;> rfl, hb⟩
  · exact ⟨by rw [errV_yes h] <;> rfl, hb⟩
  · exact absurd h hV
  · exact absurd h hV
  · exact absurd h hV
  · exact absurd h hV
theorem E_near {s : Sch} {bv : Value} {t : ByteArray} {w : World} (hv : IsSs w bv s.bl) (hV : ¬ ValidS s) : Calls Try.prog 30 #[schV s bv, .string t] w fun e w' => e = .returned (.tuple #[.slice none 0 0, .int .i64 (errV s)]) ∧ Hid (Below w.heap.size w w') := by
  refine (Near_all hv).mono ?_
  rintro e w' ⟨hb, ⟨h, rfl⟩ | ⟨h, _, rfl⟩ | ⟨h, _⟩ | ⟨h, _⟩⟩
  · exact ⟨by rw [errV_no h] <;> rfl, hb⟩
  · exact ⟨by rw [errV_yes h] <;> rfl, hb⟩
  · exact absurd h hV
  · exact absurd h hV
theorem Check_ok {s : Sch} {bv : Value} {w : World} (hv : IsSs w bv s.bl) (hV : ValidS s) : Calls Try.prog 20 #[schV s bv] w fun e w' => e = .returned (.int .i64 0) ∧ Hid (Below w.heap.size w w') := by
  refine (Check_any hv).mono ?_
  rintro e w' ⟨hb, ⟨h, _⟩ | ⟨_, h, _⟩ | ⟨_, rfl⟩⟩
  · exact absurd hV.1 h
  · exact absurd hV.2 h
  · exact ⟨rfl, hb⟩
set_option maxRecDepth 100000 in
set_option maxHeartbeats 2000000 in
theorem same_any {a b : Value} {l : List ByteArray} {w : World} (ha : IsSs w a l) (hb : IsSs w b l) (hl : l.length ≤ 20) : Calls Try.prog 23 #[a, b] w fun e w' => e = .returned (.bool true) ∧ Hid (Below w.heap.size w w') := by
  have HA := Lib.hid ha; have HB := Lib.hid hb
  obtain ⟨ao, ac, rfl, -⟩ := ha
  obtain ⟨bo, bc, rfl, -⟩ := hb
  obtain ⟨n, hn⟩ : ∃ n, n = l.length := ⟨_, rfl⟩
  rw [← hn] at HA HB hl ⊢
  have HN := Lib.hid hn
  have hne : ((n : Int) != (n : Int)) = false := by simp
  clear hn
  go_enter Try.func23, Try.ntmps23
  go_wp2_with fail
  go_loopw [5] (fun s5 wr => ∃ (i : Nat), i ≤ n ∧ s5 = .int .i64 i ∧ Hid (Below w.heap.size w wr)) (fun s5 _ => n - (intOf s5).toNat)
  case atStart => exact ⟨0, Nat.zero_le _, rfl, Below.refl _ _⟩
  case round =>
    obtain ⟨i, hi, rfl, HR⟩ := hrel
    by_cases q : i < n
    · have q1 : (i : Int) < (n : Int) := by omega
      have hil : i < l.length := by rw [← HN.out]; exact q
      obtain ⟨B, o, hao, d1⟩ := (HA.out.below HR.out).at' hil
      obtain ⟨B', o', hbo, d2⟩ := (HB.out.below HR.out).at' hil
      obtain ⟨x, hx⟩ : ∃ x, x = l[i] := ⟨_, rfl⟩
      rw [← hx] at d1 d2
      obtain ⟨i1, hi1⟩ : ∃ i1, i1 = i + 1 := ⟨_, rfl⟩
      have hwi : IntKind.i64.wrap ((i : Int) + 1) = (i1 : Int) := by rw [IntWalk.i64_in _ (by omega)]; omega
      have hi1n : i1 ≤ n := by omega
      have hmm : n - i1 < n - i := by omega
      have hxx : (x.toList == x.toList) = true := by simp
      subst hao; subst hbo
      clear hx hi1 hil
      go_upto_region 6 with fail
      go_quiet (fail)
      have HR2 := Lib.hid (HR.out.trans ((below_dr wr nq).mono HR.out.size))
      clear d1 d2
      generalize World.drewN wr nq = wq at *
      go_wp2_with fail
      go_roundw
      case rel => exact ⟨i1, hi1n, by go_num, HR2⟩
      case measure => simp [intOf]; omega
    · obtain rfl : i = n := by omega
      have q1 : ¬ (i : Int) < (i : Int) := by omega
      go_wp2_with fail
      go_ret
      exact ⟨rfl, HR⟩
end Go.Proofs.Ytgblfobomiiofaa
namespace Go.Proofs.Ytgblfobomiiofaa
open Go Go.RowKit Go.Shelf Gw Go.Maps

set_option maxRecDepth 100000 in
set_option maxHeartbeats 8000000 in
theorem serialChecks_law {s : Sch} {bv : Value} {t : ByteArray} {N : Int} {w : World} (hv : IsSs w bv s.bl) (hnil : NilOk bv) :
    Calls Try.prog 3 #[schV s bv, .string t, .int .i64 N] w fun e w' => e = .returned (.bool true) ∧ Hid (Below w.heap.size w w') := by
  have HAW := Lib.hid serawake_any
  obtain ⟨w1, hw1⟩ : ∃ w1, w1 = w.alloc (.cells #[.string s.al, .int .i64 s.len, bv, .bool s.ck] 24) := ⟨_, rfl⟩
  have hb1 : Below w.heap.size w w1 := by rw [hw1]; exact below_al _ _
  have H41 : Hid (B4 w.heap.size (.string s.al) (.int .i64 s.len) bv (.bool s.ck) w1) := by rw [hw1]; exact B4.new _ _ _ _ _ _
  have HFW := few_any (s := s) (hv.below hb1)
  have HV1 := Lib.hid (hv.below hb1)
  have HB1 := Lib.hid hb1
  have HW1 := Lib.hid hw1
  obtain ⟨fb, hfb⟩ : ∃ fb, fb = fewB s := ⟨_, rfl⟩
  unfold FewP at HFW
  rw [← hfb] at HFW
  have HeS : Hid (∀ v, schV s v = .agg #[.string s.al, .int .i64 s.len, v, .bool s.ck]) := fun v => rfl
  unfold schV at HFW ⊢
  obtain ⟨bo, bc, hbv, -⟩ := hv
  obtain ⟨bm, hbm⟩ : ∃ bm, bm = s.bl.length := ⟨_, rfl⟩
  rw [← hbm] at hbv
  subst hbv
  have HBM := Lib.hid hbm
  have HFW := Lib.hid HFW
  obtain ⟨al, hal⟩ : ∃ al, al = s.al := ⟨_, rfl⟩
  obtain ⟨len, hlen⟩ : ∃ len, len = s.len := ⟨_, rfl⟩
  obtain ⟨ck, hck⟩ : ∃ ck, ck = s.ck := ⟨_, rfl⟩
  rw [← hal, ← hlen, ← hck] at H41 HW1 HFW HeS ⊢
  have HAL := Lib.hid hal
  have HLEN := Lib.hid hlen
  have HCK := Lib.hid hck
  have HFB := Lib.hid hfb
  have HNIL := Lib.hid hnil
  clear hnil hw1 hb1 hfb hbm hal hlen hck
  have k0 := H41.out.c0; have k1 := H41.out.c1; have k2 := H41.out.c2; have k3 := H41.out.c3
  go_enter Try.func3, Try.ntmps3
  go_upto_region 1 with fail
  rw [← HW1.out]
  cases fb with
  | false =>
    go_wp2_with (first
      | (go_at_call 16; (with_reducible refine HFW.out.mono ?_); rintro e w2 ⟨rfl, HBf⟩; have H42 := Lib.hid (H41.out.below HBf.out); have HV2 := Lib.hid (HV1.out.below HBf.out); have HB2 := Lib.hid (HB1.out.trans (HBf.out.mono HB1.out.size)); have a20 := H42.out.c0; have a21 := H42.out.c1; have a22 := H42.out.c2; have a23 := H42.out.c3)
      | fail)
    refine (HAW.out _).mono ?_
    rintro e wz ⟨rfl, HBz⟩
    go_wp2_with fail
    go_ret
    exact ⟨rfl, (HB2.out).trans (HBz.out.mono (HB2.out).size)⟩
  | true =>
  by_cases hbig : t.size > 100
  case pos =>
    have hbig1 : (t.size : Int) > 100 := by omega
    go_wp2_with (first
      | (go_at_call 16; (with_reducible refine HFW.out.mono ?_); rintro e w2 ⟨rfl, HBf⟩; have H42 := Lib.hid (H41.out.below HBf.out); have HV2 := Lib.hid (HV1.out.below HBf.out); have HB2 := Lib.hid (HB1.out.trans (HBf.out.mono HB1.out.size)); have a20 := H42.out.c0; have a21 := H42.out.c1; have a22 := H42.out.c2; have a23 := H42.out.c3)
      | fail)
    refine (HAW.out _).mono ?_
    rintro e wz ⟨rfl, HBz⟩
    go_wp2_with fail
    go_ret
    exact ⟨rfl, (HB2.out).trans (HBz.out.mono (HB2.out).size)⟩
  have hbig1 : ¬ (t.size : Int) > 100 := by omega
  clear hbig
  have HL20 : Hid (s.bl.length ≤ 20) := fewB_len HFB.out.symm
  have HCP : Hid (∀ W, IsSs W (.slice bo bm bc) s.bl → Calls Try.prog 18 #[.agg #[.string al, .int .i64 len, .slice bo bm bc, .bool ck]] W fun e w' => ∃ so sc, e = .returned (.agg #[.string al, .int .i64 len, .slice so bm sc, .bool ck]) ∧ Hid (IsSs w' (.slice so bm sc) s.bl) ∧ Hid (Below W.heap.size W w')) := fun W h => by
    rw [← HeS.out]
    refine (copied_any h HNIL.out HL20.out).mono ?_
    rintro e w' ⟨v, rfl, hrow, hb⟩
    have h3 := isSs_of_row hrow
    obtain ⟨so, sc, rfl⟩ := row_sl hrow
    rw [← HBM.out] at h3
    exact ⟨so, sc, by rw [HeS.out, ← HBM.out], h3, hb⟩
  go_upto_region 4 with (first
      | (go_at_call 16; (with_reducible refine HFW.out.mono ?_); rintro e w2 ⟨rfl, HBf⟩; have H42 := Lib.hid (H41.out.below HBf.out); have HV2 := Lib.hid (HV1.out.below HBf.out); have HB2 := Lib.hid (HB1.out.trans (HBf.out.mono HB1.out.size)); have a20 := H42.out.c0; have a21 := H42.out.c1; have a22 := H42.out.c2; have a23 := H42.out.c3; have HCP2 := Lib.hid (HCP.out _ HV2.out))
      | (go_at_call 18; (with_reducible refine HCP2.out.mono ?_); rintro e w3 ⟨so, sc, rfl, HSO3, HB3'⟩; have H43 := Lib.hid (H42.out.below HB3'.out); have HV3 := Lib.hid (HV2.out.below HB3'.out); have HB3 := Lib.hid (HB2.out.trans (HB3'.out.mono HB2.out.size)))
      | fail)
  obtain ⟨Y, hY⟩ : ∃ Y, Y = w3.heap.size := ⟨_, rfl⟩
  obtain ⟨w4, hw4⟩ : ∃ w4, w4 = w3.alloc (.cells #[.string al, .int .i64 len, .slice so bm sc, .bool ck] 24) := ⟨_, rfl⟩
  have hb4 : Below w3.heap.size w3 w4 := by rw [hw4]; exact below_al _ _
  have hi4 : B4 Y (.string al) (.int .i64 len) (.slice so bm sc) (.bool ck) w4 := by rw [hY, hw4]; exact B4.new _ _ _ _ _ _
  rw [← hw4, ← hY]
  have H44 := Lib.hid (H43.out.below hb4)
  have HV4 := Lib.hid (HV3.out.below hb4)
  have HB4 := Lib.hid (HB3.out.trans (hb4.mono HB3.out.size))
  have HVI4 := Lib.hid (HSO3.out.below hb4)
  have HI4 := Lib.hid hi4
  clear hY hw4 hb4 hi4 a20 a21 a22 a23 k0 k1 k2 k3
  have a40 := H44.out.c0; have a41 := H44.out.c1; have a42 := H44.out.c2; have a43 := H44.out.c3
  by_cases hV : ValidS s
  case neg =>
    obtain ⟨E, hE⟩ : ∃ E, E = errV s := ⟨_, rfl⟩
    have hE0 : E = 3 ∨ E = 20 := by rw [hE]; exact errV_or s
    have e1 : (E == 0) = false := beq_eq_false_iff_ne.2 (by omega)
    have e2 : (E != E) = false := by simp
    have e3 : IntKind.i64.wrap E = E := IntWalk.i64_in _ (by omega)
    have HRK : Hid (∀ W, IsSs W (.slice bo bm bc) s.bl → Calls Try.prog 19 #[.agg #[.string al, .int .i64 len, .slice bo bm bc, .bool ck]] W fun e w' => e = .returned (.tuple #[.agg #[.slice none 0 0, .slice none 0 0, .slice none 0 0], .int .i64 E]) ∧ Hid (Below W.heap.size W w')) := fun W h => by rw [← HeS.out, hE]; exact E_rcheck h hV
    have HCK : Hid (∀ W, IsSs W (.slice so bm sc) s.bl → Calls Try.prog 20 #[.agg #[.string al, .int .i64 len, .slice so bm sc, .bool ck]] W fun e w' => e = .returned (.int .i64 E) ∧ Hid (Below W.heap.size W w')) := fun W h => by rw [← HeS.out, hE]; exact E_check h hV
    have HCO : Hid (∀ W, IsSs W (.slice so bm sc) s.bl → Calls Try.prog 21 #[.agg #[.string al, .int .i64 len, .slice so bm sc, .bool ck]] W fun e w' => e = .returned (.tuple #[.int .i64 0, .int .i64 E]) ∧ Hid (Below W.heap.size W w')) := fun W h => by rw [← HeS.out, hE]; exact E_count h hV
    have HTX : Hid (∀ W, IsSs W (.slice so bm sc) s.bl → Calls Try.prog 24 #[.agg #[.string al, .int .i64 len, .slice so bm sc, .bool ck], .int .i64 N] W fun e w' => e = .returned (.tuple #[.string ⟨#[]⟩, .int .i64 E]) ∧ Hid (Below W.heap.size W w')) := fun W h => by rw [← HeS.out, hE]; exact E_text h hV
    have HNU : Hid (∀ W, IsSs W (.slice so bm sc) s.bl → Calls Try.prog 25 #[.agg #[.string al, .int .i64 len, .slice so bm sc, .bool ck], .string t] W fun e w' => e = .returned (.tuple #[.int .i64 0, .int .i64 E]) ∧ Hid (Below W.heap.size W w')) := fun W h => by rw [← HeS.out, hE]; exact E_number h hV
    have HCM : Hid (∀ W, IsSs W (.slice so bm sc) s.bl → Calls Try.prog 26 #[.agg #[.string al, .int .i64 len, .slice so bm sc, .bool ck], .string t] W fun e w' => e = .returned (.tuple #[.string ⟨#[]⟩, .int .i64 E]) ∧ Hid (Below W.heap.size W w')) := fun W h => by rw [← HeS.out, hE]; exact E_complete h hV
    have HMS : Hid (∀ W, IsSs W (.slice so bm sc) s.bl → Calls Try.prog 27 #[.agg #[.string al, .int .i64 len, .slice so bm sc, .bool ck], .string t] W fun e w' => e = .returned (.tuple #[.int .i64 0, .int .i64 E]) ∧ Hid (Below W.heap.size W w')) := fun W h => by rw [← HeS.out, hE]; exact E_matches h hV
    have HMT : Hid (∀ W, IsSs W (.slice so bm sc) s.bl → Calls Try.prog 28 #[.agg #[.string al, .int .i64 len, .slice so bm sc, .bool ck], .string t, .int .i64 N] W fun e w' => e = .returned (.tuple #[.string ⟨#[]⟩, .int .i64 E]) ∧ Hid (Below W.heap.size W w')) := fun W h => by rw [← HeS.out, hE]; exact E_match h hV
    have HBE : Hid (∀ W, IsSs W (.slice so bm sc) s.bl → Calls Try.prog 29 #[.agg #[.string al, .int .i64 len, .slice so bm sc, .bool ck], .string t, .int .i64 N] W fun e w' => e = .returned (.tuple #[.int .i64 0, .int .i64 E]) ∧ Hid (Below W.heap.size W w')) := fun W h => by rw [← HeS.out, hE]; exact E_below h hV
    have HNE : Hid (∀ W, IsSs W (.slice so bm sc) s.bl → Calls Try.prog 30 #[.agg #[.string al, .int .i64 len, .slice so bm sc, .bool ck], .string t] W fun e w' => e = .returned (.tuple #[.slice none 0 0, .int .i64 E]) ∧ Hid (Below W.heap.size W w')) := fun W h => by rw [← HeS.out, hE]; exact E_near h hV
    have HRK4 := Lib.hid (HRK.out _ HV4.out)
    clear hV hE hE0
    go_upto_region 5 with (first
      | (go_at_call 19; (with_reducible refine HRK4.out.mono ?_); rintro e w5 ⟨rfl, HB5'⟩)
      | fail)
    obtain ⟨w6, hw6⟩ : ∃ w6, w6 = w5.alloc (.cells #[.slice none 0 0, .slice none 0 0, .slice none 0 0] 30) := ⟨_, rfl⟩
    have hb6 : Below w5.heap.size w5 w6 := by rw [hw6]; exact below_al _ _
    rw [← hw6]
    have HI6 := Lib.hid ((HI4.out.below HB5'.out).below hb6)
    have HVI6 := Lib.hid ((HVI4.out.below HB5'.out).below hb6)
    have HB6 := Lib.hid ((HB4.out.trans (HB5'.out.mono HB4.out.size)).trans (hb6.mono (HB4.out.trans (HB5'.out.mono HB4.out.size)).size))
    have HCK6 := Lib.hid (HCK.out _ HVI6.out)
    clear hw6 hb6 a40 a41 a42 a43
    have i60 := HI6.out.c0; have i61 := HI6.out.c1; have i62 := HI6.out.c2; have i63 := HI6.out.c3
    go_wp2_with (first
      | (go_at_call 20; (with_reducible refine HCK6.out.mono ?_); rintro e w7 ⟨rfl, HBx7⟩; have HI7 := Lib.hid (HI6.out.below HBx7.out); have HVI7 := Lib.hid (HVI6.out.below HBx7.out); have HB7 := Lib.hid (HB6.out.trans (HBx7.out.mono HB6.out.size)); have i70 := HI7.out.c0; have i71 := HI7.out.c1; have i72 := HI7.out.c2; have i73 := HI7.out.c3; have HCO7 := Lib.hid (HCO.out _ HVI7.out); clear i60 i61 i62 i63)
      | (go_at_call 21; (with_reducible refine HCO7.out.mono ?_); rintro e w8 ⟨rfl, HBx8⟩; have HI8 := Lib.hid (HI7.out.below HBx8.out); have HVI8 := Lib.hid (HVI7.out.below HBx8.out); have HB8 := Lib.hid (HB7.out.trans (HBx8.out.mono HB7.out.size)); have i80 := HI8.out.c0; have i81 := HI8.out.c1; have i82 := HI8.out.c2; have i83 := HI8.out.c3; have HTX8 := Lib.hid (HTX.out _ HVI8.out); clear i70 i71 i72 i73)
      | (go_at_call 24; (with_reducible refine HTX8.out.mono ?_); rintro e w9 ⟨rfl, HBx9⟩; have HI9 := Lib.hid (HI8.out.below HBx9.out); have HVI9 := Lib.hid (HVI8.out.below HBx9.out); have HB9 := Lib.hid (HB8.out.trans (HBx9.out.mono HB8.out.size)); have i90 := HI9.out.c0; have i91 := HI9.out.c1; have i92 := HI9.out.c2; have i93 := HI9.out.c3; have HNU9 := Lib.hid (HNU.out _ HVI9.out); clear i80 i81 i82 i83)
      | (go_at_call 25; (with_reducible refine HNU9.out.mono ?_); rintro e w10 ⟨rfl, HBx10⟩; have HI10 := Lib.hid (HI9.out.below HBx10.out); have HVI10 := Lib.hid (HVI9.out.below HBx10.out); have HB10 := Lib.hid (HB9.out.trans (HBx10.out.mono HB9.out.size)); have i100 := HI10.out.c0; have i101 := HI10.out.c1; have i102 := HI10.out.c2; have i103 := HI10.out.c3; have HCM10 := Lib.hid (HCM.out _ HVI10.out); clear i90 i91 i92 i93)
      | (go_at_call 26; (with_reducible refine HCM10.out.mono ?_); rintro e w11 ⟨rfl, HBx11⟩; have HI11 := Lib.hid (HI10.out.below HBx11.out); have HVI11 := Lib.hid (HVI10.out.below HBx11.out); have HB11 := Lib.hid (HB10.out.trans (HBx11.out.mono HB10.out.size)); have i110 := HI11.out.c0; have i111 := HI11.out.c1; have i112 := HI11.out.c2; have i113 := HI11.out.c3; have HMS11 := Lib.hid (HMS.out _ HVI11.out); clear i100 i101 i102 i103)
      | (go_at_call 27; (with_reducible refine HMS11.out.mono ?_); rintro e w12 ⟨rfl, HBx12⟩; have HI12 := Lib.hid (HI11.out.below HBx12.out); have HVI12 := Lib.hid (HVI11.out.below HBx12.out); have HB12 := Lib.hid (HB11.out.trans (HBx12.out.mono HB11.out.size)); have i120 := HI12.out.c0; have i121 := HI12.out.c1; have i122 := HI12.out.c2; have i123 := HI12.out.c3; have HMT12 := Lib.hid (HMT.out _ HVI12.out); clear i110 i111 i112 i113)
      | (go_at_call 28; (with_reducible refine HMT12.out.mono ?_); rintro e w13 ⟨rfl, HBx13⟩; have HI13 := Lib.hid (HI12.out.below HBx13.out); have HVI13 := Lib.hid (HVI12.out.below HBx13.out); have HB13 := Lib.hid (HB12.out.trans (HBx13.out.mono HB12.out.size)); have i130 := HI13.out.c0; have i131 := HI13.out.c1; have i132 := HI13.out.c2; have i133 := HI13.out.c3; have HBE13 := Lib.hid (HBE.out _ HVI13.out); clear i120 i121 i122 i123)
      | (go_at_call 29; (with_reducible refine HBE13.out.mono ?_); rintro e w14 ⟨rfl, HBx14⟩; have HI14 := Lib.hid (HI13.out.below HBx14.out); have HVI14 := Lib.hid (HVI13.out.below HBx14.out); have HB14 := Lib.hid (HB13.out.trans (HBx14.out.mono HB13.out.size)); have i140 := HI14.out.c0; have i141 := HI14.out.c1; have i142 := HI14.out.c2; have i143 := HI14.out.c3; have HNE14 := Lib.hid (HNE.out _ HVI14.out); clear i130 i131 i132 i133)
      | (go_at_call 30; (with_reducible refine HNE14.out.mono ?_); rintro e w15 ⟨rfl, HBx15⟩; have HI15 := Lib.hid (HI14.out.below HBx15.out); have HVI15 := Lib.hid (HVI14.out.below HBx15.out); have HB15 := Lib.hid (HB14.out.trans (HBx15.out.mono HB14.out.size)); have i150 := HI15.out.c0; have i151 := HI15.out.c1; have i152 := HI15.out.c2; have i153 := HI15.out.c3; clear i140 i141 i142 i143)
      | fail)
    refine (HAW.out _).mono ?_
    rintro e wz ⟨rfl, HBz⟩
    go_wp2_with fail
    go_ret
    exact ⟨rfl, (HB15.out).trans (HBz.out.mono (HB15.out).size)⟩
  obtain ⟨T, hT⟩ : ∃ T, T = totS s := ⟨_, rfl⟩
  have HTT := Lib.hid hT
  have HVS := Lib.hid hV
  have HRK : Hid (∀ (W : World), IsSs W (.slice bo bm bc) s.bl → Calls Try.prog 19 #[.agg #[.string al, .int .i64 len, .slice bo bm bc, .bool ck]] W fun e w' => ∃ ba nb bcp na k nc ya n1 yc, e = .returned (.tuple #[.agg #[.slice ba nb bcp, .slice na k nc, .slice ya n1 yc], .int .i64 0]) ∧ Hid (TabV s w' (.slice ba nb bcp) na nc ya yc) ∧ Hid (k = (LD s).length ∧ n1 = nS s + 1) ∧ Hid (Below W.heap.size W w')) := fun W h => by rw [← HeS.out]; exact RCheck_yes h hV
  have HCK : Hid (∀ W, IsSs W (.slice so bm sc) s.bl → Calls Try.prog 20 #[.agg #[.string al, .int .i64 len, .slice so bm sc, .bool ck]] W fun e w' => e = .returned (.int .i64 0) ∧ Hid (Below W.heap.size W w')) := fun W h => by rw [← HeS.out]; exact Check_ok h hV
  have HCO : Hid (∀ W, IsSs W (.slice so bm sc) s.bl → Calls Try.prog 21 #[.agg #[.string al, .int .i64 len, .slice so bm sc, .bool ck]] W fun e w' => e = .returned (.tuple #[.int .i64 (T : Int), .int .i64 0]) ∧ Hid (Below W.heap.size W w')) := fun W h => by rw [← HeS.out, hT]; exact Count_yes h hV
  have HSA : Hid (∀ W, IsSs W (.slice so bm sc) s.bl → IsSs W (.slice bo bm bc) s.bl → Calls Try.prog 23 #[.slice so bm sc, .slice bo bm bc] W fun e w' => e = .returned (.bool true) ∧ Hid (Below W.heap.size W w')) := fun W h h2 => same_any h h2 HL20.out
  have HRK4 := Lib.hid (HRK.out _ HV4.out)
  clear hV hT
  go_upto_region 5 with (first
      | (go_at_call 19; (with_reducible refine HRK4.out.mono ?_); rintro e w5 ⟨ba, nb, bcp, na, k, nc, ya, n1, yc, rfl, HT5, HKN, HB5'⟩)
      | fail)
  obtain ⟨Z, hZ⟩ : ∃ Z, Z = w5.heap.size := ⟨_, rfl⟩
  obtain ⟨w6, hw6⟩ : ∃ w6, w6 = w5.alloc (.cells #[.slice ba nb bcp, .slice na k nc, .slice ya n1 yc] 30) := ⟨_, rfl⟩
  have hb6 := below_al w5 (.cells #[.slice ba nb bcp, .slice na k nc, .slice ya n1 yc] 30)
  have y6 := BxR.new w5 (.slice ba nb bcp) (.slice na k nc) (.slice ya n1 yc) 30
  rw [← hw6] at hb6 y6
  rw [← hw6, ← hZ]
  rw [← hZ] at y6
  have H46 := Lib.hid ((H44.out.below HB5'.out).below hb6)
  have HV6 := Lib.hid ((HV4.out.below HB5'.out).below hb6)
  have HI6 := Lib.hid ((HI4.out.below HB5'.out).below hb6)
  have HVI6 := Lib.hid ((HVI4.out.below HB5'.out).below hb6)
  have HB6 := Lib.hid ((HB4.out.trans (HB5'.out.mono HB4.out.size)).trans (hb6.mono (HB4.out.trans (HB5'.out.mono HB4.out.size)).size))
  have HT6 := Lib.hid (HT5.out.below hb6)
  have HR6 := Lib.hid y6
  have HCK6 := Lib.hid (HCK.out _ HVI6.out)
  have HRC : Hid (∀ W, TabV s W (.slice ba nb bcp) na nc ya yc → Calls Try.prog 22 #[.agg #[.string al, .int .i64 len, .slice bo bm bc, .bool ck], .agg #[.slice ba nb bcp, .slice na k nc, .slice ya n1 yc]] W fun e w' => e = .returned (.int .i64 (T : Int)) ∧ Hid (Below W.heap.size W w')) := fun W h => by rw [← HeS.out, HTT.out]; exact RCount_v HVS.out HKN.out h
  clear hZ hw6 hb6 y6 a40 a41 a42 a43
  have a60 := H46.out.c0; have a61 := H46.out.c1; have a62 := H46.out.c2; have a63 := H46.out.c3
  have b60 := HR6.out.c0; have b61 := HR6.out.c1; have b62 := HR6.out.c2
  have i60 := HI6.out.c0; have i61 := HI6.out.c1; have i62 := HI6.out.c2; have i63 := HI6.out.c3
  go_wp2_with (first
      | (go_at_call 20; (with_reducible refine HCK6.out.mono ?_); rintro e w7 ⟨rfl, HBx7⟩; have HI7 := Lib.hid (HI6.out.below HBx7.out); have HVI7 := Lib.hid (HVI6.out.below HBx7.out); have HB7 := Lib.hid (HB6.out.trans (HBx7.out.mono HB6.out.size)); have i70 := HI7.out.c0; have i71 := HI7.out.c1; have i72 := HI7.out.c2; have i73 := HI7.out.c3; have H47 := Lib.hid (H46.out.below HBx7.out); have HV7 := Lib.hid (HV6.out.below HBx7.out); have HT7 := Lib.hid (HT6.out.below HBx7.out); have HR7 := Lib.hid (HR6.out.below HBx7.out); have a70 := H47.out.c0; have a71 := H47.out.c1; have a72 := H47.out.c2; have a73 := H47.out.c3; have b70 := HR7.out.c0; have b71 := HR7.out.c1; have b72 := HR7.out.c2; have HCO7 := Lib.hid (HCO.out _ HVI7.out))
      | (go_at_call 21; (with_reducible refine HCO7.out.mono ?_); rintro e w8 ⟨rfl, HBx8⟩; have HI8 := Lib.hid (HI7.out.below HBx8.out); have HVI8 := Lib.hid (HVI7.out.below HBx8.out); have HB8 := Lib.hid (HB7.out.trans (HBx8.out.mono HB7.out.size)); have i80 := HI8.out.c0; have i81 := HI8.out.c1; have i82 := HI8.out.c2; have i83 := HI8.out.c3; have H48 := Lib.hid (H47.out.below HBx8.out); have HV8 := Lib.hid (HV7.out.below HBx8.out); have HT8 := Lib.hid (HT7.out.below HBx8.out); have HR8 := Lib.hid (HR7.out.below HBx8.out); have a80 := H48.out.c0; have a81 := H48.out.c1; have a82 := H48.out.c2; have a83 := H48.out.c3; have b80 := HR8.out.c0; have b81 := HR8.out.c1; have b82 := HR8.out.c2; have HRC8 := Lib.hid (HRC.out _ HT8.out))
      | (go_at_call 22; (with_reducible refine HRC8.out.mono ?_); rintro e w9 ⟨rfl, HBx9⟩; have HI9 := Lib.hid (HI8.out.below HBx9.out); have HVI9 := Lib.hid (HVI8.out.below HBx9.out); have HB9 := Lib.hid (HB8.out.trans (HBx9.out.mono HB8.out.size)); have i90 := HI9.out.c0; have i91 := HI9.out.c1; have i92 := HI9.out.c2; have i93 := HI9.out.c3; have H49 := Lib.hid (H48.out.below HBx9.out); have HV9 := Lib.hid (HV8.out.below HBx9.out); have HT9 := Lib.hid (HT8.out.below HBx9.out); have HR9 := Lib.hid (HR8.out.below HBx9.out); have a90 := H49.out.c0; have a91 := H49.out.c1; have a92 := H49.out.c2; have a93 := H49.out.c3; have b90 := HR9.out.c0; have b91 := HR9.out.c1; have b92 := HR9.out.c2; have HSA9 := Lib.hid (HSA.out _ HVI9.out HV9.out))
      | (go_at_call 23; (with_reducible refine HSA9.out.mono ?_); rintro e w10 ⟨rfl, HBx10⟩; have HB10 := Lib.hid (HB9.out.trans (HBx10.out.mono HB9.out.size)))
      | fail)
  refine (HAW.out _).mono ?_
  rintro e wz ⟨rfl, HBz⟩
  go_wp2_with fail
  go_ret
  exact ⟨rfl, (HB10.out).trans (HBz.out.mono (HB10.out).size)⟩
end Go.Proofs.Ytgblfobomiiofaa
