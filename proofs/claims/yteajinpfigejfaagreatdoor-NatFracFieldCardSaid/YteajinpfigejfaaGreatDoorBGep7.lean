/- Contracts and lemmas (several texts merged into one). -/
import Derived.Test.YteajinpfigejfaaGreatDoorBGep6
import Derived.Test.YteajinpfigejfaaGreatDoorBGep5
import Derived.Test.YteajinpfigejfaaGreatDoorBGep4
namespace Go.Proofs.YteajinpfigejfaaGreatDoor
open Go Go.RowKit Gu

theorem bit_room {t j s : Nat} (hs : s < 16) : dg 65536 (2 ^ (16 * j + s + 1) * t) j + 2 ^ s < 65536 := by
  have e1 : (2 : Nat) ^ (16 * j + s + 1) * t = 65536 ^ j * (2 ^ (s + 1) * t) := by
    rw [Nat.add_assoc, Nat.pow_add, Nat.pow_mul, Nat.mul_assoc]
  have e2 : dg 65536 (2 ^ (16 * j + s + 1) * t) j = 2 ^ (s + 1) * (t % 2 ^ (15 - s)) := by
    unfold dg
    rw [e1, Nat.mul_div_cancel_left _ (Nat.pow_pos (by decide)), show (65536 : Nat) = 2 ^ (s + 1) * 2 ^ (15 - s) from by rw [← Nat.pow_add, show s + 1 + (15 - s) = 16 from by omega], Nat.mul_mod_mul_left]
  rw [e2]
  have h1 : t % 2 ^ (15 - s) < 2 ^ (15 - s) := Nat.mod_lt _ (Nat.pow_pos (by decide))
  have h2 : 2 ^ (s + 1) * (t % 2 ^ (15 - s)) + 2 ^ (s + 1) ≤ 2 ^ (s + 1) * 2 ^ (15 - s) := by rw [← Nat.mul_succ]; exact Nat.mul_le_mul_left _ h1
  rw [← Nat.pow_add, show s + 1 + (15 - s) = 16 from by omega] at h2
  have h3 : 2 ^ (s + 1) = 2 * 2 ^ s := by rw [Nat.pow_succ, Nat.mul_comm]
  have h4 : 0 < 2 ^ s := Nat.pow_pos (by decide)
  omega
theorem nd_twice {z b : Nat} (h : z < 2 * b) : nd 65536 z ≤ nd 65536 b + 1 := by
  have h1 := nd_lt (by decide : 2 ≤ 65536) b
  apply (nd_le (by decide)).2
  rw [Nat.pow_succ]
  omega
/-- one bit of a long division -/
theorem bit_div {a b k : Nat} (hb : 0 < b) :
    (b ≤ (a / 2 ^ (k + 1)) % b * 2 + dg 2 a k → (a / 2 ^ k) % b = (a / 2 ^ (k + 1)) % b * 2 + dg 2 a k - b ∧ 2 ^ k * ((a / 2 ^ k) / b) = 2 ^ (k + 1) * ((a / 2 ^ (k + 1)) / b) + 2 ^ k) ∧
    ((a / 2 ^ (k + 1)) % b * 2 + dg 2 a k < b → (a / 2 ^ k) % b = (a / 2 ^ (k + 1)) % b * 2 + dg 2 a k ∧ 2 ^ k * ((a / 2 ^ k) / b) = 2 ^ (k + 1) * ((a / 2 ^ (k + 1)) / b)) := by
  have e1 := div_succ 2 a k
  have hd := dg_lt (B := 2) (by decide) a k
  have e2 := Nat.div_add_mod (a / 2 ^ (k + 1)) b
  have hm := Nat.mod_lt (a / 2 ^ (k + 1)) hb
  have ep : 2 ^ (k + 1) * ((a / 2 ^ (k + 1)) / b) = 2 ^ k * (2 * ((a / 2 ^ (k + 1)) / b)) := by rw [Nat.pow_succ, Nat.mul_assoc]
  rw [ep]
  generalize a / 2 ^ (k + 1) = y at *
  generalize dg 2 a k = c at *
  have e3 : a / 2 ^ k = (y % b * 2 + c) + b * (2 * (y / b)) := by
    have : b * (2 * (y / b)) = 2 * (b * (y / b)) := Nat.mul_left_comm _ _ _
    omega
  refine ⟨fun h => ?_, fun h => ?_⟩
  · have e4 : a / 2 ^ k = (y % b * 2 + c - b) + b * (2 * (y / b) + 1) := by rw [e3, Nat.mul_add]; omega
    rw [e4, Nat.add_mul_mod_self_left, Nat.add_mul_div_left _ _ hb, Nat.mod_eq_of_lt (by omega), Nat.div_eq_of_lt (by omega), Nat.zero_add, Nat.mul_add, Nat.mul_one]
    exact ⟨rfl, rfl⟩
  · rw [e3, Nat.add_mul_mod_self_left, Nat.add_mul_div_left _ _ hb, Nat.mod_eq_of_lt h, Nat.div_eq_of_lt h, Nat.zero_add]
    exact ⟨rfl, rfl⟩
/-- what the loop of DivMod keeps -/
def DMRel (a b la : Nat) (w : World) (k : Nat) (rv : Value) (wr : World) : Prop :=
  R wr rv ((a / 2 ^ k) % b) ∧ Buf .i64 65536 3 wr w.heap.size la (2 ^ k * ((a / 2 ^ k) / b)) ∧ Below w.heap.size w wr ∧ FR (w.heap.size + 1) rv ((a / 2 ^ k) % b)
set_option maxHeartbeats 4000000 in
set_option maxRecDepth 100000 in
theorem RDivMod_any (v u : Value) (a b : Nat) (w : World) (hv : R w v a) (hu : R w u b) (hb0 : 0 < b) (ha : nd 65536 a ≤ 400000) (hb : nd 65536 b ≤ 400000) :
    Calls Tryz.prog 41 #[v, u] w fun e w' => ∃ q r, e = .returned (.tuple #[q, r]) ∧ R w' q (a / b) ∧ R w' r (a % b) ∧ Below w.heap.size w w' := by
  have hB : 2 ≤ 65536 := by decide
  have HV := Lib.hid hv
  have HU := Lib.hid hu
  obtain ⟨ao, ac, rfl, -⟩ := hv.shape
  obtain ⟨bo, bc, rfl, -⟩ := hu.shape
  clear hv hu
  have HAl := Lib.hid (nd_lt hB a)
  have h2l : nd 2 a ≤ 16 * nd 65536 a := fit_len (Nat.le_refl _)
  have HA2 := Lib.hid (nd_lt (by decide : 2 ≤ 2) a)
  obtain ⟨la, hla⟩ : ∃ la, la = nd 65536 a := ⟨_, rfl⟩
  obtain ⟨l2, hl2⟩ : ∃ l2, l2 = nd 2 a := ⟨_, rfl⟩
  rw [← hla] at HV HAl h2l ha ⊢
  rw [← hl2] at h2l HA2
  have HLA := Lib.hid hla
  have HL2 := Lib.hid hl2
  have HBL : Hid (∀ W, R W (.slice ao la ac) a → Calls Tryz.prog 77 #[.slice ao la ac] W fun e w' => e = .returned (.int .i64 l2) ∧ W = w') := fun W h => by rw [HL2.out]; exact RBitLen_any _ a W h (by rw [← HLA.out]; omega)
  clear hla hl2
  have hmk := made_int la (by omega)
  go_enter Tryz.func41, Tryz.ntmps41
  go_wp2_with fail
  have hw1 : Below w.heap.size w (w.alloc (.cells (madeCells #[.int .i64 0] la) 3)) := (Below.refl _ _).alloc (Nat.le_refl _) _
  refine (HBL.out _ (HV.out.below hw1)).mono ?_
  rintro e w' ⟨rfl, rfl⟩
  have HST : Hid (DMRel a b la w l2 (.slice none 0 0) (w.alloc (.cells (madeCells #[.int .i64 0] la) 3))) := by
    have h1 : a / 2 ^ l2 = 0 := Nat.div_eq_of_lt HA2.out
    refine ⟨by rw [h1, Nat.zero_mod]; exact IsN.zero _ _ _ _ _, by rw [h1, Nat.zero_div, Nat.mul_zero]; exact Buf.made _ _ _ _ _, hw1, fun _ _ _ _ he => by cases he⟩
  clear hw1
  have HL1 := Lib.hid h2l
  go_wp2
  go_loopg [7, 8] l2 (fun m rv x wr => x = .int .i64 ((m : Int) - 1) ∧ Hid (m ≤ l2) ∧ DMRel a b la w m rv wr)
  case atStart => exact ⟨rfl, Nat.le_refl _, HST.out⟩
  case round =>
    obtain ⟨rfl, HML, hrel⟩ := hrel
    have HR := Lib.hid hrel
    obtain ⟨r0, rc, rfl, -⟩ := hrel.1.shape
    clear hrel
    cases gk with
    | zero =>
      rw [show ((0 : Nat) : Int) - 1 = -1 from rfl]
      have hq := HR.out.2.1
      have hr := HR.out.1
      rw [Nat.pow_zero, Nat.div_one, Nat.one_mul] at hq
      rw [Nat.pow_zero, Nat.div_one] at hr
      have hql : a / b < 65536 ^ la := Nat.lt_of_le_of_lt (Nat.div_le_self _ _) HAl.out
      have HT := Lib.hid (Trim_buf w.heap.size la la (a / b) wr hq hql (by omega) (Nat.le_refl _))
      have HQ := Lib.hid (Gu.Buf.isN hq hB hql la)
      have HRR := Lib.hid hr
      have HBE := Lib.hid HR.out.2.2.1
      clear hq hr hql HR
      obtain ⟨x, hx⟩ : ∃ x, x = a / 2 ^ 0 % b := ⟨_, rfl⟩
      rw [← hx]
      have HX := Lib.hid hx
      clear hx
      go_wp2_with fail
      refine HT.out.mono ?_
      rintro e w' ⟨rfl, rfl⟩
      go_wp2
      go_ret2
      exact ⟨_, _, rfl, HQ.out, by rw [HX.out, Nat.pow_zero, Nat.div_one]; exact HRR.out, HBE.out⟩
    | succ k =>
      rw [show ((k + 1 : Nat) : Int) - 1 = k from by omega]
      have hkl : k < 16 * la := by have := HML.out; have := HL1.out; omega
      have hbd := bit_div (a := a) (k := k) hb0
      have hmb := Nat.mod_lt (a / 2 ^ (k + 1)) hb0
      have hc2 := dg_lt (B := 2) (by decide) a k
      have hroom := bit_room (t := (a / 2 ^ (k + 1)) / b) (j := k / 16) (s := k % 16) (by omega)
      rw [show 16 * (k / 16) + k % 16 + 1 = k + 1 from by omega] at hroom
      have HSH := Lib.hid (fun W v (h : R W v (a / 2 ^ (k + 1) % b)) => RShl_f v _ 1 W h (by have := nd_mono (B := 65536) (by decide) (Nat.le_of_lt hmb); omega) (by omega))
      rw [Nat.pow_one] at HSH
      have HBI := Lib.hid (fun W (h : R W (.slice ao la ac) a) => RBit_any _ a (k : Int) W h (by omega) (by rw [← HLA.out]; omega))
      rw [show bitN a (k : Int) = dg 2 a k from by unfold bitN; rw [if_neg (by omega), Int.toNat_natCast]] at HBI
      obtain ⟨x, hx⟩ : ∃ x, x = a / 2 ^ (k + 1) % b := ⟨_, rfl⟩
      obtain ⟨Q, hQ⟩ : ∃ Q, Q = 2 ^ (k + 1) * (a / 2 ^ (k + 1) / b) := ⟨_, rfl⟩
      have hrel := HR.out
      unfold DMRel at hrel
      rw [← hx, ← hQ] at hrel
      rw [← hx] at HSH hbd hmb ⊢
      rw [← hQ] at hbd hroom
      obtain ⟨c, hc⟩ : ∃ c, c = dg 2 a k := ⟨_, rfl⟩
      rw [← hc] at hbd hc2 HBI
      have HBD := Lib.hid hbd
      have HRE := Lib.hid hrel
      have HRO := Lib.hid hroom
      clear hbd hrel hroom hx hQ hc HR HST
      go_wp2_with fail
      refine (HSH.out _ _ HRE.out.1).mono ?_
      rintro e w2 ⟨sv, rfl, hs, hb2, hf2⟩
      obtain ⟨s0, sc, rfl, -⟩ := hs.shape
      have HS2 := Lib.hid hs
      have HB2 := Lib.hid hb2
      have HF2 := Lib.hid (hf2.mono (show w.heap.size + 1 ≤ wr.heap.size from Gu.Buf.lt HRE.out.2.1))
      have HVA := Lib.hid ((HV.out.below HRE.out.2.2.1).below hb2)
      clear hs hb2 hf2
      go_wp2_with fail
      refine (HBI.out _ HVA.out).mono ?_
      rintro e w3 ⟨rfl, hb3⟩
      have HS3 := Lib.hid (HS2.out.below hb3)
      have HB3 := Lib.hid (HB2.out.trans (hb3.mono HB2.out.size))
      clear hb3 HS2 HB2 HVA
      have hx16 := nd_twice (show x * 2 < 2 * b by omega)
      rcases (show c = 0 ∨ c = 1 by omega) with rfl | rfl
      · obtain ⟨z, hz⟩ : ∃ z, z = x * 2 := ⟨_, rfl⟩
        obtain ⟨wz, rfl⟩ : ∃ wz, wz = w3 := ⟨_, rfl⟩
        rw [← hz] at HS3 ⊢
        rw [Nat.add_zero, ← hz] at HBD
        have HZ := HS3
        have HBZ := HB3
        have HFZ : Hid (FR (w.heap.size + 1) (.slice s0 (nd 65536 z) sc) z) := by rw [hz]; rw [hz] at HS3; exact HF2.out
        have HZE := Lib.hid hz
        have hzx : z < 2 * b := by omega
        clear hz
        have hzb : z < 2 * b := by omega
        have hz16 := nd_twice hzb
        have HUC := Lib.hid (HU.out.below (HRE.out.2.2.1.trans (HBZ.out.mono HRE.out.2.2.1.size)))
        have HCM := Lib.hid (RCmp_any _ _ z b wz HZ.out HUC.out (by omega) (by omega))
        by_cases hge : b ≤ z
        · have hcm : 0 ≤ cmpN z b := by unfold cmpN; rw [if_neg (by omega)]; split <;> omega
          have hds := HBD.out.1 hge
          have HDS := Lib.hid hds
          have HSU := Lib.hid (fun q => RSub_f _ _ z b (wz.drewN q) (IsN.drewN HZ.out q) (IsN.drewN HUC.out q) (by omega) (by omega) hge)
          have HQB := Lib.hid (Gu.Buf.below HRE.out.2.1 HBZ.out (Gu.Buf.lt HRE.out.2.1))
          have HBW := Lib.hid (HRE.out.2.2.1.trans (HBZ.out.mono HRE.out.2.2.1.size))
          clear hds hge hzb
          generalize cmpN z b = cm at *
          go_wp2_with fail
          refine HCM.out.mono ?_
          rintro e w' ⟨rfl, q, rfl⟩
          go_wp2_with fail
          refine (HSU.out q).mono ?_
          rintro e w6 ⟨nv, rfl, hn, hb6, hf6⟩
          obtain ⟨n0, nc, rfl, -⟩ := hn.shape
          have hq6 := Gu.Buf.below (Gu.Buf.below HQB.out (below_drewN (Below.refl _ _) q) (Gu.Buf.lt HQB.out)) hb6 (Gu.Buf.lt HQB.out)
          have HBF := Lib.hid ((HBW.out.trans ((below_drewN (Below.refl _ _) q).mono HBW.out.size)).trans (hb6.mono HBW.out.size))
          have hjl : k / 16 < la := by omega
          have hcell := Gu.Buf.cell hq6 (i := k / 16) hjl
          have hfr := Gu.Buf.frozen hq6 (k / 16)
          have HQ6 := Lib.hid hq6
          have HF6 := Lib.hid (hf6.mono (show w.heap.size + 1 ≤ (wz.drewN q).heap.size from Gu.Buf.lt HQB.out))
          have HN := Lib.hid hn
          have HAT : Hid (∀ W, Buf .i64 65536 3 W w.heap.size la Q → Buf .i64 65536 3 (W.setCell ⟨w.heap.size, k / 16, none⟩ (.int .i64 (dg 65536 Q (k / 16) + 2 ^ (k % 16) : Nat))) w.heap.size la (Q + 2 ^ k)) := by
            intro W hW
            have h1 := Buf.at hW (by decide) (k / 16) HRO.out
            have h2 := at_val (B := 65536) (V := Q) (j := k / 16) (d := dg 65536 Q (k / 16) + 2 ^ (k % 16))
            have h4 : 65536 ^ (k / 16) * (dg 65536 Q (k / 16) + 2 ^ (k % 16)) = 65536 ^ (k / 16) * dg 65536 Q (k / 16) + 65536 ^ (k / 16) * 2 ^ (k % 16) := Nat.mul_add _ _ _
            have h3 : 65536 ^ (k / 16) * 2 ^ (k % 16) = 2 ^ k := by
              rw [show (65536 : Nat) = 2 ^ 16 from by decide, ← Nat.pow_mul, ← Nat.pow_add]
              congr 1; omega
            rw [h3] at h4
            rw [show Q + 2 ^ k = Q % 65536 ^ (k / 16) + 65536 ^ (k / 16) * (dg 65536 Q (k / 16) + 2 ^ (k % 16) + 65536 * (Q / 65536 ^ (k / 16 + 1))) from by omega]
            exact h1
          have hpw : 2 ^ (k % 16) ≤ 65536 := Nat.le_trans (Nat.pow_le_pow_right (by decide) (show k % 16 ≤ 16 by omega)) (by decide)
          have HP := Lib.hid (fun w => power_any (k % 16) w (by omega))
          have hdq := dg_lt (B := 65536) (by decide) Q (k / 16)
          obtain ⟨j, hj⟩ : ∃ j, j = k / 16 := ⟨_, rfl⟩
          obtain ⟨s, hs⟩ : ∃ s, s = k % 16 := ⟨_, rfl⟩
          have q1 : (k : Int) / 16 = j := by omega
          have q2 : (k : Int) % 16 = s := by omega
          have ht1 : (k : Int).tdiv 16 = j := by rw [Int.tdiv_eq_ediv_of_nonneg (by omega)]; omega
          have ht2 : (k : Int).tmod 16 = s := by rw [Int.tmod_eq_emod_of_nonneg (by omega)]; omega
          have ht3 : IntKind.i64.wrap ((k : Int) / 16) = j := by rw [q1]; exact IntWalk.i64_in _ (by omega)
          have ht4 : IntKind.i64.wrap ((k : Int).tdiv 16) = j := by rw [ht1]; exact IntWalk.i64_in _ (by omega)
          have ht5 : IntKind.i64.wrap (j : Int) = j := IntWalk.i64_in _ (by omega)
          rw [← hj] at hcell hfr HAT hdq hjl
          rw [← hs] at HAT hpw HP
          clear hj hs hq6 hn hb6 hf6 HRO
          generalize dg 65536 Q j = dq at *
          obtain ⟨pw, hpe⟩ : ∃ pw, pw = 2 ^ s := ⟨_, rfl⟩
          rw [← hpe] at HAT hpw HP
          clear hpe
          have hjl2 : (j : Int) < la := by omega
          have hj0 : (0 : Int) ≤ j := by omega
          go_wp2_with fail
          have hwq : ((dq : Int) + pw) = ((dq + pw : Nat) : Int) := by omega
          have HNEW : Hid (DMRel a b la w k (.slice n0 (nd 65536 (z - b)) nc) (w6.setCell ⟨w.heap.size, j, none⟩ (.int .i64 ((dq : Int) + pw))).drew) := by
            rw [hwq]
            refine ⟨?_, ?_, ?_, ?_⟩
            · rw [HDS.out.1]
              exact (FR.setCell HN.out HF6.out (Nat.lt_succ_self _)).below (Below.refl _ _).drew
            · rw [HDS.out.2]
              exact HAT.out w6 HQ6.out
            · exact (HBF.out.setCell (Nat.le_refl _) _).drew
            · rw [HDS.out.1]; exact HF6.out
          clear hwq
          go_region_with (go_at_call 80; refine (HP.out _).mono ?_; rintro e w' ⟨rfl, rfl⟩)
          all_goals go_wp2
          all_goals go_roundg k
          all_goals first | exact Nat.lt_succ_self _ | exact ⟨by go_num, Nat.le_of_succ_le HML.out, HNEW.out⟩
        · have hcm : cmpN z b = -1 := cmpN_lt (by omega)
          have hds := HBD.out.2 (by omega)
          have HNEW : Hid (∀ q, DMRel a b la w k (.slice s0 (nd 65536 z) sc) (wz.drewN q)) := fun q => by
            refine ⟨?_, ?_, ?_, ?_⟩
            · rw [hds.1]; exact IsN.drewN HZ.out q
            · rw [hds.2]; exact Gu.Buf.below (Gu.Buf.below HRE.out.2.1 HBZ.out (Gu.Buf.lt HRE.out.2.1)) (below_drewN (Below.refl _ _) q) (Gu.Buf.lt (Gu.Buf.below HRE.out.2.1 HBZ.out (Gu.Buf.lt HRE.out.2.1)))
            · exact below_drewN (HRE.out.2.2.1.trans (HBZ.out.mono HRE.out.2.2.1.size)) q
            · rw [hds.1]; exact HFZ.out
          rw [hcm] at HCM
          clear hcm hds hge hzb
          go_wp2_with fail
          refine HCM.out.mono ?_
          rintro e w' ⟨rfl, q, rfl⟩
          have HN2 := HNEW.out q
          go_wp2
          go_roundg k
          case measure => exact Nat.lt_succ_self _
          case rel => exact ⟨by go_num, Nat.le_of_succ_le HML.out, HN2⟩
      · have HOF := Lib.hid (Of_any 1 w3 (by decide))
        have HAD := Lib.hid (fun W o (h1 : R W (.slice s0 (nd 65536 (x * 2)) sc) (x * 2)) (h2 : R W o 1) => RAdd_f _ o (x * 2) 1 W h1 h2 (by omega) (by have := (nd_le (B := 65536) (n := 1) (k := 1) (by decide)).2 (by decide); omega))
        go_wp2_with fail
        refine HOF.out.mono ?_
        rintro e w4 ⟨ov, rfl, ho, hb4⟩
        obtain ⟨o0, oc, rfl, -⟩ := ho.shape
        have HA4 := Lib.hid (HAD.out _ _ (HS3.out.below hb4) ho)
        have HB4 := Lib.hid (HB3.out.trans (hb4.mono HB3.out.size))
        clear ho hb4 HOF HAD
        go_wp2_with fail
        refine HA4.out.mono ?_
        rintro e w5 ⟨zv, rfl, hzv, hb5, hf5⟩
        obtain ⟨z0, zc, rfl, -⟩ := hzv.shape
        have HBZ := Lib.hid (HB4.out.trans (hb5.mono HB4.out.size))
        have hlt4 : w.heap.size + 1 ≤ w4.heap.size := Nat.le_trans (show w.heap.size + 1 ≤ wr.heap.size from Gu.Buf.lt HRE.out.2.1) HB4.out.size
        obtain ⟨z, hz⟩ : ∃ z, z = x * 2 + 1 := ⟨_, rfl⟩
        obtain ⟨wz, rfl⟩ : ∃ wz, wz = w5 := ⟨_, rfl⟩
        rw [← hz] at hzv hf5 ⊢
        rw [← hz] at HBD
        have HZ := Lib.hid hzv
        have HFZ : Hid (FR (w.heap.size + 1) (.slice z0 (nd 65536 z) zc) z) := hf5.mono hlt4
        have HZE := Lib.hid hz
        have hzx : z < 2 * b := by omega
        clear hz hzv hf5 hb5 HA4
        have hzb : z < 2 * b := by omega
        have hz16 := nd_twice hzb
        have HUC := Lib.hid (HU.out.below (HRE.out.2.2.1.trans (HBZ.out.mono HRE.out.2.2.1.size)))
        have HCM := Lib.hid (RCmp_any _ _ z b wz HZ.out HUC.out (by omega) (by omega))
        by_cases hge : b ≤ z
        · have hcm : 0 ≤ cmpN z b := by unfold cmpN; rw [if_neg (by omega)]; split <;> omega
          have hds := HBD.out.1 hge
          have HDS := Lib.hid hds
          have HSU := Lib.hid (fun q => RSub_f _ _ z b (wz.drewN q) (IsN.drewN HZ.out q) (IsN.drewN HUC.out q) (by omega) (by omega) hge)
          have HQB := Lib.hid (Gu.Buf.below HRE.out.2.1 HBZ.out (Gu.Buf.lt HRE.out.2.1))
          have HBW := Lib.hid (HRE.out.2.2.1.trans (HBZ.out.mono HRE.out.2.2.1.size))
          clear hds hge hzb
          generalize cmpN z b = cm at *
          go_wp2_with fail
          refine HCM.out.mono ?_
          rintro e w' ⟨rfl, q, rfl⟩
          go_wp2_with fail
          refine (HSU.out q).mono ?_
          rintro e w6 ⟨nv, rfl, hn, hb6, hf6⟩
          obtain ⟨n0, nc, rfl, -⟩ := hn.shape
          have hq6 := Gu.Buf.below (Gu.Buf.below HQB.out (below_drewN (Below.refl _ _) q) (Gu.Buf.lt HQB.out)) hb6 (Gu.Buf.lt HQB.out)
          have HBF := Lib.hid ((HBW.out.trans ((below_drewN (Below.refl _ _) q).mono HBW.out.size)).trans (hb6.mono HBW.out.size))
          have hjl : k / 16 < la := by omega
          have hcell := Gu.Buf.cell hq6 (i := k / 16) hjl
          have hfr := Gu.Buf.frozen hq6 (k / 16)
          have HQ6 := Lib.hid hq6
          have HF6 := Lib.hid (hf6.mono (show w.heap.size + 1 ≤ (wz.drewN q).heap.size from Gu.Buf.lt HQB.out))
          have HN := Lib.hid hn
          have HAT : Hid (∀ W, Buf .i64 65536 3 W w.heap.size la Q → Buf .i64 65536 3 (W.setCell ⟨w.heap.size, k / 16, none⟩ (.int .i64 (dg 65536 Q (k / 16) + 2 ^ (k % 16) : Nat))) w.heap.size la (Q + 2 ^ k)) := by
            intro W hW
            have h1 := Buf.at hW (by decide) (k / 16) HRO.out
            have h2 := at_val (B := 65536) (V := Q) (j := k / 16) (d := dg 65536 Q (k / 16) + 2 ^ (k % 16))
            have h4 : 65536 ^ (k / 16) * (dg 65536 Q (k / 16) + 2 ^ (k % 16)) = 65536 ^ (k / 16) * dg 65536 Q (k / 16) + 65536 ^ (k / 16) * 2 ^ (k % 16) := Nat.mul_add _ _ _
            have h3 : 65536 ^ (k / 16) * 2 ^ (k % 16) = 2 ^ k := by
              rw [show (65536 : Nat) = 2 ^ 16 from by decide, ← Nat.pow_mul, ← Nat.pow_add]
              congr 1; omega
            rw [h3] at h4
            rw [show Q + 2 ^ k = Q % 65536 ^ (k / 16) + 65536 ^ (k / 16) * (dg 65536 Q (k / 16) + 2 ^ (k % 16) + 65536 * (Q / 65536 ^ (k / 16 + 1))) from by omega]
            exact h1
          have hpw : 2 ^ (k % 16) ≤ 65536 := Nat.le_trans (Nat.pow_le_pow_right (by decide) (show k % 16 ≤ 16 by omega)) (by decide)
          have HP := Lib.hid (fun w => power_any (k % 16) w (by omega))
          have hdq := dg_lt (B := 65536) (by decide) Q (k / 16)
          obtain ⟨j, hj⟩ : ∃ j, j = k / 16 := ⟨_, rfl⟩
          obtain ⟨s, hs⟩ : ∃ s, s = k % 16 := ⟨_, rfl⟩
          have q1 : (k : Int) / 16 = j := by omega
          have q2 : (k : Int) % 16 = s := by omega
          have ht1 : (k : Int).tdiv 16 = j := by rw [Int.tdiv_eq_ediv_of_nonneg (by omega)]; omega
          have ht2 : (k : Int).tmod 16 = s := by rw [Int.tmod_eq_emod_of_nonneg (by omega)]; omega
          have ht3 : IntKind.i64.wrap ((k : Int) / 16) = j := by rw [q1]; exact IntWalk.i64_in _ (by omega)
          have ht4 : IntKind.i64.wrap ((k : Int).tdiv 16) = j := by rw [ht1]; exact IntWalk.i64_in _ (by omega)
          have ht5 : IntKind.i64.wrap (j : Int) = j := IntWalk.i64_in _ (by omega)
          rw [← hj] at hcell hfr HAT hdq hjl
          rw [← hs] at HAT hpw HP
          clear hj hs hq6 hn hb6 hf6 HRO
          generalize dg 65536 Q j = dq at *
          obtain ⟨pw, hpe⟩ : ∃ pw, pw = 2 ^ s := ⟨_, rfl⟩
          rw [← hpe] at HAT hpw HP
          clear hpe
          have hjl2 : (j : Int) < la := by omega
          have hj0 : (0 : Int) ≤ j := by omega
          go_wp2_with fail
          have hwq : ((dq : Int) + pw) = ((dq + pw : Nat) : Int) := by omega
          have HNEW : Hid (DMRel a b la w k (.slice n0 (nd 65536 (z - b)) nc) (w6.setCell ⟨w.heap.size, j, none⟩ (.int .i64 ((dq : Int) + pw))).drew) := by
            rw [hwq]
            refine ⟨?_, ?_, ?_, ?_⟩
            · rw [HDS.out.1]
              exact (FR.setCell HN.out HF6.out (Nat.lt_succ_self _)).below (Below.refl _ _).drew
            · rw [HDS.out.2]
              exact HAT.out w6 HQ6.out
            · exact (HBF.out.setCell (Nat.le_refl _) _).drew
            · rw [HDS.out.1]; exact HF6.out
          clear hwq
          go_region_with (go_at_call 80; refine (HP.out _).mono ?_; rintro e w' ⟨rfl, rfl⟩)
          all_goals go_wp2
          all_goals go_roundg k
          all_goals first | exact Nat.lt_succ_self _ | exact ⟨by go_num, Nat.le_of_succ_le HML.out, HNEW.out⟩
        · have hcm : cmpN z b = -1 := cmpN_lt (by omega)
          have hds := HBD.out.2 (by omega)
          have HNEW : Hid (∀ q, DMRel a b la w k (.slice z0 (nd 65536 z) zc) (wz.drewN q)) := fun q => by
            refine ⟨?_, ?_, ?_, ?_⟩
            · rw [hds.1]; exact IsN.drewN HZ.out q
            · rw [hds.2]; exact Gu.Buf.below (Gu.Buf.below HRE.out.2.1 HBZ.out (Gu.Buf.lt HRE.out.2.1)) (below_drewN (Below.refl _ _) q) (Gu.Buf.lt (Gu.Buf.below HRE.out.2.1 HBZ.out (Gu.Buf.lt HRE.out.2.1)))
            · exact below_drewN (HRE.out.2.2.1.trans (HBZ.out.mono HRE.out.2.2.1.size)) q
            · rw [hds.1]; exact HFZ.out
          rw [hcm] at HCM
          clear hcm hds hge hzb
          go_wp2_with fail
          refine HCM.out.mono ?_
          rintro e w' ⟨rfl, q, rfl⟩
          have HN2 := HNEW.out q
          go_wp2
          go_roundg k
          case measure => exact Nat.lt_succ_self _
          case rel => exact ⟨by go_num, Nat.le_of_succ_le HML.out, HN2⟩
end Go.Proofs.YteajinpfigejfaaGreatDoor
namespace Go.Proofs.YteajinpfigejfaaGreatDoor
open Go Go.RowKit Gu

set_option maxHeartbeats 1000000 in
theorem RLow_any (v u : Value) (a b : Nat) (w : World) (hv : R w v a) (hu : R w u b) (hb0 : 0 < b) (ha : nd 65536 a ≤ 1000) (hb : nd 65536 b ≤ 1000) :
    Calls Tryz.prog 30 #[v, u] w fun e w' => ∃ r s, e = .returned (.agg #[r, s]) ∧ R w' r (lowP a b) ∧ R w' s (lowQ a b) ∧ Below w.heap.size w w' := by
  have b1 : ∀ o, Below w.heap.size w (w.alloc o) := fun o => (Below.refl _ _).alloc (Nat.le_refl _) _
  by_cases h0 : a = 0
  · subst h0
    have e1 : lowP 0 b = 0 := by unfold lowP; rw [Nat.zero_div]
    have e2 : lowQ 0 b = 1 := by unfold lowQ; rw [Nat.gcd_zero_left, Nat.div_self hb0]
    rw [e1, e2]
    obtain ⟨ao, ac, rfl, -⟩ := hv.shape
    rw [nd_zero]
    have HB := Lib.hid b1
    clear hv hu b1
    go_enter Tryz.func30, Tryz.ntmps30
    go_wp2_with fail
    refine (Of_any 1 _ (by decide)).mono ?_
    rintro e w1 ⟨r, rfl, hr, hb1⟩
    obtain ⟨ro, rc, rfl, -⟩ := hr.shape
    have d0 : w1.cell? ⟨w.heap.size, 0, none⟩ = some (.slice none 0 0) := (hb1.cell (p := ⟨w.heap.size, 0, none⟩) (by simp)).trans (World.cell?_alloc_at _ _ _ _ rfl)
    have d1 : w1.cell? ⟨w.heap.size, 1, none⟩ = some (.slice none 0 0) := (hb1.cell (p := ⟨w.heap.size, 1, none⟩) (by simp)).trans (World.cell?_alloc_at _ _ _ _ rfl)
    have g0 : w1.frozen? ⟨w.heap.size, 0, none⟩ = false := (hb1.frozen (p := ⟨w.heap.size, 0, none⟩) (by simp)).trans (World.frozen?_alloc_at _ _ _ _ rfl)
    have g1 : w1.frozen? ⟨w.heap.size, 1, none⟩ = false := (hb1.frozen (p := ⟨w.heap.size, 1, none⟩) (by simp)).trans (World.frozen?_alloc_at _ _ _ _ rfl)
    obtain ⟨t0, t1⟩ := read_two d0 d1 (.slice none 0 0) (.slice ro (nd 65536 1) rc)
    have HX : Hid (R ((w1.setCell ⟨w.heap.size, 0, none⟩ (.slice none 0 0)).setCell ⟨w.heap.size, 1, none⟩ (.slice ro (nd 65536 1) rc)) (.slice ro (nd 65536 1) rc) 1) := IsN_setTwo hr d0 d1 (by intro d h; cases h) (by intro d h; cases h) _ _
    have HBE := Lib.hid ((((HB.out _).trans (hb1.mono (by simp))).setCell (p := ⟨w.heap.size, 0, none⟩) (Nat.le_refl _) (.slice none 0 0)).setCell (p := ⟨w.heap.size, 1, none⟩) (Nat.le_refl _) (.slice ro (nd 65536 1) rc))
    have T0 := Lib.hid t0; have T1 := Lib.hid t1
    clear hr hb1 t0 t1
    go_wp2
    have t0 := T0.out; have t1 := T1.out
    refine bodyPost_ret (v := .agg #[.slice none 0 0, .slice ro (nd 65536 1) rc]) (by simp [results, Tryz.results30, go_sem, t0, t1]) rfl ⟨_, _, rfl, IsN.zero _ _ _ _ _, HX.out, HBE.out⟩
  · have ha0 : 0 < a := Nat.pos_of_ne_zero h0
    have hg0 : 0 < Nat.gcd a b := Nat.gcd_pos_of_pos_left _ ha0
    have hg16 : nd 65536 (Nat.gcd a b) ≤ 1000 := Nat.le_trans (nd_mono (by decide) (Nat.gcd_le_left _ ha0)) ha
    have hl := nd_pos (B := 65536) (by decide) ha0
    have hq : ((((nd 65536 a : Nat)) : Int) == 0) = false := beq_eq_false_iff_ne.2 (by omega)
    have HG := Lib.hid (fun o => RGcd_any v u a b (w.alloc o) (hv.below (b1 o)) (hu.below (b1 o)) ha hb)
    have HD1 := Lib.hid (fun g W (h : Below w.heap.size w W) (h' : R W g (Nat.gcd a b)) => RDivMod_any v g a (Nat.gcd a b) W (hv.below h) h' hg0 (by omega) (by omega))
    have HD2 := Lib.hid (fun g W (h : Below w.heap.size w W) (h' : R W g (Nat.gcd a b)) => RDivMod_any u g b (Nat.gcd a b) W (hu.below h) h' hg0 (by omega) (by omega))
    rw [show a / Nat.gcd a b = lowP a b from rfl] at HD1
    rw [show b / Nat.gcd a b = lowQ a b from rfl] at HD2
    have HB := Lib.hid b1
    obtain ⟨ao, ac, rfl, -⟩ := hv.shape
    obtain ⟨bo, bc, rfl, -⟩ := hu.shape
    clear hv hu b1 h0 hg0 hg16 hl
    generalize lowP a b = P at *
    generalize lowQ a b = Q at *
    generalize a % Nat.gcd a b = m1 at *
    generalize b % Nat.gcd a b = m2 at *
    generalize Nat.gcd a b = G at *
    go_enter Tryz.func30, Tryz.ntmps30
    go_wp2_with fail
    refine (HG.out _).mono ?_
    rintro e w1 ⟨g, rfl, hg, hb1⟩
    obtain ⟨go, gc, rfl, -⟩ := hg.shape
    have HB1 := Lib.hid hb1; have HGG := Lib.hid hg
    have HW1 := Lib.hid ((HB.out _).trans (hb1.mono (by simp)))
    clear hg hb1
    go_wp2_with fail
    refine (HD1.out _ _ HW1.out HGG.out).mono ?_
    rintro e w2 ⟨p, m, rfl, hp, -, hb2⟩
    obtain ⟨po, pc, rfl, -⟩ := hp.shape
    have HB2 := Lib.hid (HB1.out.trans (hb2.mono HB1.out.size)); have HP := Lib.hid hp
    have HW2 := Lib.hid (HW1.out.trans (hb2.mono HW1.out.size)); have HG2 := Lib.hid (HGG.out.below hb2)
    clear hp hb2
    go_wp2_with fail
    refine (HD2.out _ _ HW2.out HG2.out).mono ?_
    rintro e w3 ⟨q, m', rfl, hq', -, hb3⟩
    obtain ⟨qo, qc, rfl, -⟩ := hq'.shape
    have hb := HB2.out.trans (hb3.mono HB2.out.size)
    have d0 : w3.cell? ⟨w.heap.size, 0, none⟩ = some (.slice none 0 0) := (hb.cell (p := ⟨w.heap.size, 0, none⟩) (by simp)).trans (World.cell?_alloc_at _ _ _ _ rfl)
    have d1 : w3.cell? ⟨w.heap.size, 1, none⟩ = some (.slice none 0 0) := (hb.cell (p := ⟨w.heap.size, 1, none⟩) (by simp)).trans (World.cell?_alloc_at _ _ _ _ rfl)
    have g0 : w3.frozen? ⟨w.heap.size, 0, none⟩ = false := (hb.frozen (p := ⟨w.heap.size, 0, none⟩) (by simp)).trans (World.frozen?_alloc_at _ _ _ _ rfl)
    have g1 : w3.frozen? ⟨w.heap.size, 1, none⟩ = false := (hb.frozen (p := ⟨w.heap.size, 1, none⟩) (by simp)).trans (World.frozen?_alloc_at _ _ _ _ rfl)
    obtain ⟨t0, t1⟩ := read_two d0 d1 (.slice po (nd 65536 P) pc) (.slice qo (nd 65536 Q) qc)
    have HX := Lib.hid (IsN_setTwo (HP.out.below hb3) d0 d1 (by intro d h; cases h) (by intro d h; cases h) (.slice po (nd 65536 P) pc) (.slice qo (nd 65536 Q) qc))
    have HY := Lib.hid (IsN_setTwo hq' d0 d1 (by intro d h; cases h) (by intro d h; cases h) (.slice po (nd 65536 P) pc) (.slice qo (nd 65536 Q) qc))
    have HBE := Lib.hid ((((HB.out _).trans (hb.mono (by simp))).setCell (p := ⟨w.heap.size, 0, none⟩) (Nat.le_refl _) (.slice po (nd 65536 P) pc)).setCell (p := ⟨w.heap.size, 1, none⟩) (Nat.le_refl _) (.slice qo (nd 65536 Q) qc))
    have T0 := Lib.hid t0; have T1 := Lib.hid t1
    clear hq' hb hb3 t0 t1
    go_wp2
    have t0 := T0.out; have t1 := T1.out
    refine bodyPost_ret (v := .agg #[.slice po (nd 65536 P) pc, .slice qo (nd 65536 Q) qc]) (by simp [results, Tryz.results30, go_sem, t0, t1]) rfl ⟨_, _, rfl, HX.out, HY.out, HBE.out⟩
/-- what a region over a fraction of the document keeps -/
structure StR (W0 : World) (v u : Value) (a b : Nat) (W : World) : Prop where
  n1 : R W v a
  n2 : R W u b
  bel : Below W0.heap.size W0 W
theorem StR.next {W0 W W' : World} {v u : Value} {a b : Nat} (h : StR W0 v u a b W) (hb : Below W.heap.size W W') : StR W0 v u a b W' :=
  ⟨h.n1.below hb, h.n2.below hb, h.bel.trans (hb.mono h.bel.size)⟩
theorem StR.cell {W0 W : World} {v u x : Value} {a b k o : Nat} (h : StR W0 v u a b W) (hk : k < W0.heap.size) (hc : W0.cell? ⟨k, o, none⟩ = some x) : W.cell? ⟨k, o, none⟩ = some x :=
  (h.bel.cell (p := ⟨k, o, none⟩) hk).trans hc
set_option maxHeartbeats 2000000 in
set_option maxRecDepth 100000 in
theorem RFText_any (v u : Value) (a b : Nat) (w : World) (hv : R w v a) (hu : R w u b) (ha : nd 65536 a ≤ 5000) (hb : nd 65536 b ≤ 5000) :
    Calls Tryz.prog 39 #[.agg #[v, u]] w fun e w' => e = .returned (.string ⟨(fracText a b).toArray⟩) ∧ Below w.heap.size w w' := by
  obtain ⟨W0, hW0⟩ : ∃ W0 : World, W0 = w.alloc (.cells #[v, u] 29) := ⟨_, rfl⟩
  have hz0 : W0.heap.size = w.heap.size + 1 := by rw [hW0]; simp
  have hbw : Below w.heap.size w W0 := by rw [hW0]; exact (Below.refl _ _).alloc (Nat.le_refl _) _
  have hst0 : StR W0 v u a b W0 := ⟨hv.below hbw, hu.below hbw, Below.refl _ _⟩
  have c0 : W0.cell? ⟨w.heap.size, 0, none⟩ = some v := by rw [hW0]; exact World.cell?_alloc_at _ _ _ _ rfl
  have c1 : W0.cell? ⟨w.heap.size, 1, none⟩ = some u := by rw [hW0]; exact World.cell?_alloc_at _ _ _ _ rfl
  have HCA : Hid (∀ W, StR W0 v u a b W → W.cell? ⟨w.heap.size, 0, none⟩ = some v ∧ W.cell? ⟨w.heap.size, 1, none⟩ = some u) := fun W h => ⟨h.cell (by omega) c0, h.cell (by omega) c1⟩
  have HOF : Hid (∀ W, StR W0 v u a b W → Calls Tryz.prog 11 #[.int .i64 1] W fun e w' => ∃ o l c, e = .returned (.slice o l c) ∧ R w' (.slice o l c) 1 ∧ StR W0 v u a b w') := fun W h =>
    (Of_any 1 W (by decide)).mono fun e w' ⟨r, he, hr, hB⟩ => by
      obtain ⟨ro, rc, rfl, -⟩ := hr.shape
      exact ⟨ro, _, rc, he, hr, h.next hB⟩
  have HCM : Hid (∀ W x, StR W0 v u a b W → R W x 1 → Calls Tryz.prog 10 #[u, x] W fun e w' => e = .returned (.int .i64 (cmpN ((b : Nat) : Int) ((1 : Nat) : Int))) ∧ StR W0 v u a b w') := fun W x h hx =>
    (RCmp_any u x b 1 W h.n2 hx (by omega) (by have := nd_le_self16 (n := 1) (by decide); omega)).mono fun e w' ⟨he, k, hw⟩ => ⟨he, by rw [hw]; exact h.next (below_drewN (Below.refl _ _) k)⟩
  obtain ⟨Sa, hSa⟩ : ∃ Sa : ByteArray, Sa = ⟨(Lib.decDigits a).toArray⟩ := ⟨_, rfl⟩
  obtain ⟨Sb, hSb⟩ : ∃ Sb : ByteArray, Sb = ⟨(Lib.decDigits b).toArray⟩ := ⟨_, rfl⟩
  have HTA : Hid (∀ W, StR W0 v u a b W → Calls Tryz.prog 75 #[v] W fun e w' => e = .returned (.string Sa) ∧ StR W0 v u a b w') := fun W h => by
    rw [hSa]; exact (Text_any v a W h.n1 (by omega)).mono fun e w' ⟨he, hB⟩ => ⟨he, h.next hB⟩
  have HTB : Hid (∀ W, StR W0 v u a b W → Calls Tryz.prog 75 #[u] W fun e w' => e = .returned (.string Sb) ∧ StR W0 v u a b w') := fun W h => by
    rw [hSb]; exact (Text_any u b W h.n2 (by omega)).mono fun e w' ⟨he, hB⟩ => ⟨he, h.next hB⟩
  have hla : Sa.size ≤ 1000000 := by rw [hSa, ← len_data]; exact dec_bound (m := 5000) (Nat.le_trans (nd_32 ha) (by decide)) (by decide) |> fun h => Nat.le_trans h (by decide)
  have hlb : Sb.size ≤ 1000000 := by rw [hSb, ← len_data]; exact dec_bound (m := 5000) (Nat.le_trans (nd_32 hb) (by decide)) (by decide) |> fun h => Nat.le_trans h (by decide)
  have HSA := Lib.hid hSa; have HSB := Lib.hid hSb
  have HBW := Lib.hid hbw; have HW0 := Lib.hid hW0
  have hs2 := hst0.next ((Below.refl _ W0).drew)
  have hc0 := HCA.out _ hst0
  have hc2 := HCA.out _ hs2
  obtain ⟨ao, ac, rfl, -⟩ := hv.shape
  obtain ⟨bo, bc, rfl, -⟩ := hu.shape
  clear hv hu hz0 hbw c0 c1 hW0 hSa hSb ha hb
  have hcase : (b = 1 ∧ cmpN ((b : Nat) : Int) ((1 : Nat) : Int) = 0) ∨ (b ≠ 1 ∧ ((cmpN ((b : Nat) : Int) ((1 : Nat) : Int)) == 0) = false) := by
    by_cases h : b = 1
    · exact .inl ⟨h, cmpN_eq (by omega)⟩
    · refine .inr ⟨h, beq_eq_false_iff_ne.2 ?_⟩
      rcases Nat.lt_or_gt_of_ne h with h' | h'
      · rw [cmpN_lt (by omega)]; decide
      · rw [cmpN_gt (by omega)]; decide
  have HK := Lib.hid hcase
  clear hcase
  generalize cmpN ((b : Nat) : Int) ((1 : Nat) : Int) = kk at *
  generalize nd 65536 a = la at *
  rcases HK.out with ⟨hb1, rfl⟩ | ⟨hb1, hk⟩
  · have HT : Hid (ByteArray.mk (fracText a b).toArray = Sa) := by show _ = _; unfold fracText; rw [if_pos hb1, HSA.out]
    rw [HT.out]
    clear hb1
    generalize nd 65536 b = lb at *
    go_enter Tryz.func39, Tryz.ntmps39
    go_wp2_with fail
    rw [← HW0.out]
    go_region_held3 (fun W : World => (W.cell? ⟨w.heap.size, 0, none⟩ = some (.slice ao la ac) ∧ W.cell? ⟨w.heap.size, 1, none⟩ = some (.slice bo lb bc)) ∧ StR W0 (.slice ao la ac) (.slice bo lb bc) a b W) (first | (refine And.intro ?_ ?_ <;> assumption)) (first
      | (go_at_call 11; with_reducible refine (HOF.out _ ?h).mono ?_; (case h => assumption); rintro e w' ⟨o1, l1, k1, rfl, hr', hs'⟩; have hc' := HCA.out _ hs')
      | (go_at_call 10; with_reducible refine (HCM.out _ _ ?h ?r).mono ?_; (case h => assumption); (case r => first | assumption | exact rchain (by assumption) (by assumption)); rintro e w' ⟨rfl, hs'⟩; have hc' := HCA.out _ hs'))
    all_goals
      have hT : StR W0 (.slice ao la ac) (.slice bo lb bc) a b w' := by assumption
      have hcx := HCA.out _ hT
      have HTT := Lib.hid hT
      clear hT
      go_wp2_with fail
      refine (HTA.out _ HTT.out).mono ?_
      rintro e w5 ⟨rfl, hs5⟩
      have HBE := Lib.hid (HBW.out.trans (hs5.bel.mono HBW.out.size))
      clear hs5
      go_wp2
      go_ret
      exact ⟨rfl, HBE.out⟩
  · have HT : Hid (ByteArray.mk (fracText a b).toArray = Sa ++ ⟨#[47]⟩ ++ Sb) := by
      show _ = _; unfold fracText; rw [if_neg hb1, HSA.out, HSB.out]; exact (slash _ _).symm
    rw [HT.out]
    have hadd1 : ∀ W : World, (Op.stringOp .add Sa ⟨#[47]⟩).run Tryz.prog W = .ok (.string (Sa ++ ⟨#[47]⟩)) W := fun W => run_string_add_sum W _ _ (by
      have e : (⟨#[47]⟩ : ByteArray).size = 1 := rfl
      rw [e]; omega)
    have hadd2 : ∀ W : World, (Op.stringOp .add (Sa ++ ⟨#[47]⟩) Sb).run Tryz.prog W = .ok (.string (Sa ++ ⟨#[47]⟩ ++ Sb)) W := fun W => run_string_add_sum W _ _ (by
      have e : (⟨#[47]⟩ : ByteArray).size = 1 := rfl
      rw [ByteArray.size_append, e]; omega)
    clear hb1
    generalize nd 65536 b = lb at *
    go_enter Tryz.func39, Tryz.ntmps39
    go_wp2_with fail
    rw [← HW0.out]
    go_region_held3 (fun W : World => (W.cell? ⟨w.heap.size, 0, none⟩ = some (.slice ao la ac) ∧ W.cell? ⟨w.heap.size, 1, none⟩ = some (.slice bo lb bc)) ∧ StR W0 (.slice ao la ac) (.slice bo lb bc) a b W) (first | (refine And.intro ?_ ?_ <;> assumption)) (first
      | (go_at_call 11; with_reducible refine (HOF.out _ ?h).mono ?_; (case h => assumption); rintro e w' ⟨o1, l1, k1, rfl, hr', hs'⟩; have hc' := HCA.out _ hs')
      | (go_at_call 10; with_reducible refine (HCM.out _ _ ?h ?r).mono ?_; (case h => assumption); (case r => first | assumption | exact rchain (by assumption) (by assumption)); rintro e w' ⟨rfl, hs'⟩; have hc' := HCA.out _ hs'))
    all_goals
      have hT : StR W0 (.slice ao la ac) (.slice bo lb bc) a b w' := by assumption
      have hcx := HCA.out _ hT
      have hs3 := hT.next ((Below.refl _ _).drew)
      have hcy := HCA.out _ hs3
      go_wp2_with fail
      go_region_held3 (fun W : World => (W.cell? ⟨w.heap.size, 0, none⟩ = some (.slice ao la ac) ∧ W.cell? ⟨w.heap.size, 1, none⟩ = some (.slice bo lb bc)) ∧ StR W0 (.slice ao la ac) (.slice bo lb bc) a b W) (first | (refine And.intro ?_ ?_ <;> assumption)) (first
        | (go_at_call 75; with_reducible refine (HTA.out _ ?h).mono ?_; (case h => assumption); rintro e w' ⟨rfl, hs'⟩; have hc' := HCA.out _ hs')
        | (go_at_call 75; with_reducible refine (HTB.out _ ?h).mono ?_; (case h => assumption); rintro e w' ⟨rfl, hs'⟩; have hc' := HCA.out _ hs'))
      all_goals
        have hT5 : StR W0 (.slice ao la ac) (.slice bo lb bc) a b w' := by assumption
        have HBE := Lib.hid (HBW.out.trans (hT5.bel.mono HBW.out.size))
        clear hT5
        go_wp2
        go_ret
        exact ⟨rfl, HBE.out⟩
end Go.Proofs.YteajinpfigejfaaGreatDoor
namespace Go.Proofs.YteajinpfigejfaaGreatDoor
open Go Go.RowKit Gu

/-- what same keeps: both fractions -/
structure StS (w : World) (v u r s : Value) (P Q : Nat) (W : World) : Prop where
  n1 : D W v P
  n2 : D W u Q
  d1 : R W r P
  d2 : R W s Q
  env : Env W
  bel : Below w.heap.size w W
theorem StS.next {w W W' : World} {v u r s : Value} {P Q : Nat} (h : StS w v u r s P Q W) (hb : Below W.heap.size W W') : StS w v u r s P Q W' :=
  ⟨h.n1.below hb, h.n2.below hb, h.d1.below hb, h.d2.below hb, h.env.below hb, h.bel.trans (hb.mono h.bel.size)⟩
theorem fracText_zero : (⟨(fracText 0 1).toArray⟩ : ByteArray) = ⟨#[48]⟩ := by
  unfold fracText
  rw [if_pos rfl, decDigits_small (by decide)]
  rfl
set_option maxHeartbeats 1000000 in
theorem same_err (v u r s : Value) (n : Int) (w : World) (hv : D w v 0) (hu : D w u 0) (hn : n ≠ 0) (hr : ∃ a, R w r a) (hs : ∃ b, R w s b) (he : Env w) :
    Calls Tryz.prog 9 #[.agg #[v, u], .int .i64 n, .agg #[r, s], .int .i64 n] w fun e w' => e = .returned (.bool true) ∧ Below w.heap.size w w' := by
  have b2 : ∀ o1 o2, Below w.heap.size w ((w.alloc o1).alloc o2) := fun o1 o2 => ((Below.refl _ _).alloc (Nat.le_refl _) _).alloc (by simp) _
  have HST := Lib.hid (fun o1 o2 => FracString_any v u 0 0 ((w.alloc o1).alloc o2) (hv.below (b2 o1 o2)) (hu.below (b2 o1 o2)) (by rw [nd_zero]; omega) (by rw [nd_zero]; omega) (he.below (b2 o1 o2)))
  rw [show dn 0 = 1 from rfl, fracText_zero] at HST
  have HB := Lib.hid b2
  have hq : (n == 0) = false := beq_eq_false_iff_ne.2 hn
  obtain ⟨ao, ac, rfl, -⟩ := hv.shape
  obtain ⟨bo, bc, rfl, -⟩ := hu.shape
  obtain ⟨ra, hr⟩ := hr
  obtain ⟨sa, hs⟩ := hs
  obtain ⟨ro, rc, rfl, -⟩ := hr.shape
  obtain ⟨so, sc, rfl, -⟩ := hs.shape
  clear hv hu hr hs b2 hn
  generalize nd 65536 ra = la at *
  generalize nd 65536 sa = lb at *
  go_enter Tryz.func9, Tryz.ntmps9
  go_wp2_with fail
  refine (HST.out _ _).mono ?_
  rintro e w1 ⟨rfl, hb⟩
  have HBE := Lib.hid ((HB.out _ _).trans (hb.mono (HB.out _ _).size))
  clear hb
  go_wp2
  go_ret
  exact ⟨by simp, HBE.out⟩
set_option maxHeartbeats 2000000 in
set_option maxRecDepth 100000 in
theorem same_ok (v u r s : Value) (P Q : Nat) (w : World) (hv : D w v P) (hu : D w u Q) (hr : R w r P) (hs : R w s Q) (hQ : 0 < Q) (h1 : nd 65536 P ≤ 5000) (h2 : nd 65536 Q ≤ 5000) (he : Env w) :
    Calls Tryz.prog 9 #[.agg #[v, u], .int .i64 0, .agg #[r, s], .int .i64 0] w fun e w' => e = .returned (.bool true) ∧ Below w.heap.size w w' := by
  have k1 := nd_32 h1
  have k2 := nd_32 h2
  obtain ⟨W0, hW0⟩ : ∃ W0 : World, W0 = (w.alloc (.cells #[v, u] 26)).alloc (.cells #[r, s] 29) := ⟨_, rfl⟩
  have hz0 : W0.heap.size = w.heap.size + 2 := by rw [hW0]; simp
  have hbw : Below w.heap.size w W0 := by rw [hW0]; exact ((Below.refl _ _).alloc (Nat.le_refl _) _).alloc (by simp) _
  have hst0 : StS W0 v u r s P Q W0 := ⟨hv.below hbw, hu.below hbw, hr.below hbw, hs.below hbw, he.below hbw, Below.refl _ _⟩
  have ca : ∀ W, Below W0.heap.size W0 W → W.cell? ⟨w.heap.size, 0, none⟩ = some v ∧ W.cell? ⟨w.heap.size, 1, none⟩ = some u ∧ W.cell? ⟨w.heap.size + 1, 0, none⟩ = some r ∧ W.cell? ⟨w.heap.size + 1, 1, none⟩ = some s := fun W hb => by
    have e0 : W0.cell? ⟨w.heap.size, 0, none⟩ = some v := by rw [hW0]; exact (World.cell?_alloc_past _ _ _ (by simp)).trans (World.cell?_alloc_at _ _ _ _ rfl)
    have e1 : W0.cell? ⟨w.heap.size, 1, none⟩ = some u := by rw [hW0]; exact (World.cell?_alloc_past _ _ _ (by simp)).trans (World.cell?_alloc_at _ _ _ _ rfl)
    have e2 : W0.cell? ⟨w.heap.size + 1, 0, none⟩ = some r := by rw [hW0]; exact World.cell?_alloc_at _ _ _ _ (by simp)
    have e3 : W0.cell? ⟨w.heap.size + 1, 1, none⟩ = some s := by rw [hW0]; exact World.cell?_alloc_at _ _ _ _ (by simp)
    exact ⟨(hb.cell (p := ⟨w.heap.size, 0, none⟩) (by show w.heap.size < _; omega)).trans e0, (hb.cell (p := ⟨w.heap.size, 1, none⟩) (by show w.heap.size < _; omega)).trans e1, (hb.cell (p := ⟨w.heap.size + 1, 0, none⟩) (by show w.heap.size + 1 < _; omega)).trans e2, (hb.cell (p := ⟨w.heap.size + 1, 1, none⟩) (by show w.heap.size + 1 < _; omega)).trans e3⟩
  have HCA : Hid (∀ W, StS W0 v u r s P Q W → W.cell? ⟨w.heap.size, 0, none⟩ = some v ∧ W.cell? ⟨w.heap.size, 1, none⟩ = some u ∧ W.cell? ⟨w.heap.size + 1, 0, none⟩ = some r ∧ W.cell? ⟨w.heap.size + 1, 1, none⟩ = some s) := fun W h => ca W h.bel
  obtain ⟨S, hS⟩ : ∃ S : ByteArray, S = ⟨(fracText P Q).toArray⟩ := ⟨_, rfl⟩
  have HSA : Hid (∀ W, StS W0 v u r s P Q W → Calls Tryz.prog 23 #[.agg #[v, u]] W fun e w' => e = .returned (.string S) ∧ StS W0 v u r s P Q w') := fun W h => by
    have h3 := FracString_any v u P Q W h.n1 h.n2 (by omega) (by omega) h.env
    rw [dn_of hQ, ← hS] at h3
    exact h3.mono fun e w' ⟨he, hB⟩ => ⟨he, h.next hB⟩
  have HSB : Hid (∀ W, StS W0 v u r s P Q W → Calls Tryz.prog 39 #[.agg #[r, s]] W fun e w' => e = .returned (.string S) ∧ StS W0 v u r s P Q w') := fun W h => by
    rw [hS]
    exact (RFText_any r s P Q W h.d1 h.d2 (by omega) (by omega)).mono fun e w' ⟨he, hB⟩ => ⟨he, h.next hB⟩
  have HBW := Lib.hid hbw; have HW0 := Lib.hid hW0
  have hs2 := hst0.next ((Below.refl _ W0).drew)
  have hc0 := HCA.out _ hst0
  have hc2 := HCA.out _ hs2
  obtain ⟨ao, ac, rfl, -⟩ := hv.shape
  obtain ⟨bo, bc, rfl, -⟩ := hu.shape
  obtain ⟨ro, rc, rfl, -⟩ := hr.shape
  obtain ⟨so, sc, rfl, -⟩ := hs.shape
  clear hv hu hr hs hz0 hbw hW0 hS ca he k1 k2 h1 h2 hQ
  generalize nd 4294967296 P = la at *
  generalize nd 4294967296 Q = lb at *
  generalize nd 65536 P = lc at *
  generalize nd 65536 Q = ld at *
  go_enter Tryz.func9, Tryz.ntmps9
  go_wp2_with fail
  rw [← HW0.out]
  go_region_held3 (fun W : World => (W.cell? ⟨w.heap.size, 0, none⟩ = some (.slice ao la ac) ∧ W.cell? ⟨w.heap.size, 1, none⟩ = some (.slice bo lb bc) ∧ W.cell? ⟨w.heap.size + 1, 0, none⟩ = some (.slice ro lc rc) ∧ W.cell? ⟨w.heap.size + 1, 1, none⟩ = some (.slice so ld sc)) ∧ StS W0 (.slice ao la ac) (.slice bo lb bc) (.slice ro lc rc) (.slice so ld sc) P Q W) (first | (refine And.intro ?_ ?_ <;> assumption)) (first
    | (go_at_call 23; with_reducible refine (HSA.out _ ?h).mono ?_; (case h => assumption); rintro e w' ⟨rfl, hs'⟩; have hc' := HCA.out _ hs')
    | (go_at_call 39; with_reducible refine (HSB.out _ ?h).mono ?_; (case h => assumption); rintro e w' ⟨rfl, hs'⟩; have hc' := HCA.out _ hs'))
  all_goals
    have hT : StS W0 (.slice ao la ac) (.slice bo lb bc) (.slice ro lc rc) (.slice so ld sc) P Q w' := by assumption
    have HBE := Lib.hid (HBW.out.trans (hT.bel.mono HBW.out.size))
    clear hT
    go_wp2
    go_ret
    exact ⟨by simp, HBE.out⟩
end Go.Proofs.YteajinpfigejfaaGreatDoor
namespace Go.Proofs.YteajinpfigejfaaGreatDoor
open Go Go.RowKit Gu

/-- what the end of a function with two results of two cells reads -/
theorem half_end {w W : World} {a0 a1 a2 a3 : Value} (d0 : W.cell? ⟨w.heap.size, 0, none⟩ = some a0) (d1 : W.cell? ⟨w.heap.size, 1, none⟩ = some a1) (d2 : W.cell? ⟨w.heap.size + 1, 0, none⟩ = some a2) (d3 : W.cell? ⟨w.heap.size + 1, 1, none⟩ = some a3) (hb : Below w.heap.size w W) (x y p q : Value) :
    let W4 := (((W.setCell ⟨w.heap.size, 0, none⟩ x).setCell ⟨w.heap.size, 1, none⟩ y).setCell ⟨w.heap.size + 1, 0, none⟩ p).setCell ⟨w.heap.size + 1, 1, none⟩ q
    W4.cell? ⟨w.heap.size, 0, none⟩ = some x ∧ W4.cell? ⟨w.heap.size, 1, none⟩ = some y ∧ W4.cell? ⟨w.heap.size + 1, 0, none⟩ = some p ∧ W4.cell? ⟨w.heap.size + 1, 1, none⟩ = some q ∧ Below w.heap.size w W4 := by
  obtain ⟨t0, t1⟩ := read_two d0 d1 x y
  have far : ∀ o, (w.heap.size + 1) ≠ (⟨w.heap.size, o, none⟩ : Addr).block := fun o => by show w.heap.size + 1 ≠ w.heap.size; omega
  have far' : ∀ o, (w.heap.size) ≠ (⟨w.heap.size + 1, o, none⟩ : Addr).block := fun o => by show w.heap.size ≠ w.heap.size + 1; omega
  have e2 : ((W.setCell ⟨w.heap.size, 0, none⟩ x).setCell ⟨w.heap.size, 1, none⟩ y).cell? ⟨w.heap.size + 1, 0, none⟩ = some a2 := by
    rw [World.cell?_setCell_far _ _ _ _ (far' 0), World.cell?_setCell_far _ _ _ _ (far' 0)]; exact d2
  have e3 : ((W.setCell ⟨w.heap.size, 0, none⟩ x).setCell ⟨w.heap.size, 1, none⟩ y).cell? ⟨w.heap.size + 1, 1, none⟩ = some a3 := by
    rw [World.cell?_setCell_far _ _ _ _ (far' 1), World.cell?_setCell_far _ _ _ _ (far' 1)]; exact d3
  obtain ⟨t2, t3⟩ := read_two e2 e3 p q
  refine ⟨?_, ?_, t2, t3, ((((hb.setCell (Nat.le_refl _) _).setCell (Nat.le_refl _) _).setCell (by show w.heap.size ≤ w.heap.size + 1; omega) _).setCell (by show w.heap.size ≤ w.heap.size + 1; omega) _)⟩
  · rw [World.cell?_setCell_far _ _ _ _ (far 0), World.cell?_setCell_far _ _ _ _ (far 0)]; exact t0
  · rw [World.cell?_setCell_far _ _ _ _ (far 1), World.cell?_setCell_far _ _ _ _ (far 1)]; exact t1
set_option maxHeartbeats 2000000 in
theorem half_zero (u v : Value) (xs ys : List Nat) (m : Nat) (w : World) (hu : IsRaw w u xs) (hv : IsRaw w v ys) (hl1 : xs.length ≤ maxLen) (hl2 : ys.length ≤ maxLen) (hm : m ≤ 1000) (hb0 : rawN ys m = 0) :
    Calls Tryz.prog 6 #[u, v, .int .i64 m] w fun e w' => e = .returned (.tuple #[.agg #[.slice none 0 0, .slice none 0 0], .agg #[.slice none 0 0, .slice none 0 0], .bool false]) ∧ Below w.heap.size w w' := by
  have b2 : ∀ o1 o2, Below w.heap.size w ((w.alloc o1).alloc o2) := fun o1 o2 => ((Below.refl _ _).alloc (Nat.le_refl _) _).alloc (by simp) _
  have HR1 := Lib.hid (fun W (h : IsRaw W u xs) => Raw_any u xs m W h hl1 (by omega))
  have HR2 := Lib.hid (fun W (h : IsRaw W v ys) => Raw_any v ys m W h hl2 (by omega))
  rw [hb0] at HR2
  have HU := Lib.hid (fun o1 o2 => IsRaw.below hu (b2 o1 o2))
  have HV := Lib.hid (fun o1 o2 => IsRaw.below hv (b2 o1 o2))
  have HB := Lib.hid b2
  obtain ⟨uo, uc, rfl, -⟩ := hu.shape
  obtain ⟨vo, vc, rfl, -⟩ := hv.shape
  clear hu hv b2 hb0
  generalize rawN xs m = a at *
  go_enter Tryz.func6, Tryz.ntmps6
  go_wp2_with fail
  refine (HR1.out _ (HU.out _ _)).mono ?_
  rintro e w1 ⟨c, rfl, hc, hb1⟩
  obtain ⟨co, cc, rfl, -⟩ := hc.shape
  have HV1 := Lib.hid (IsRaw.below (HV.out _ _) hb1)
  have HB1 := Lib.hid hb1
  clear hc hb1
  go_wp2_with fail
  refine (HR2.out _ HV1.out).mono ?_
  rintro e w2 ⟨d, rfl, hd, hb2⟩
  obtain ⟨eo, ec, rfl, -⟩ := hd.shape
  rw [nd_zero]
  have hbt := HB1.out.trans (hb2.mono HB1.out.size)
  have c0 : ∀ k o, (k = w.heap.size ∨ k = w.heap.size + 1) → (o = 0 ∨ o = 1) → w2.cell? ⟨k, o, none⟩ = some (.slice none 0 0) ∧ w2.frozen? ⟨k, o, none⟩ = false := by
    intro k o hk ho
    have hl : k < ((w.alloc (.cells #[.slice none 0 0, .slice none 0 0] 26)).alloc (.cells #[.slice none 0 0, .slice none 0 0] 29)).heap.size := by simp; omega
    refine ⟨(hbt.cell (p := ⟨k, o, none⟩) hl).trans ?_, (hbt.frozen (p := ⟨k, o, none⟩) hl).trans ?_⟩
    · rcases hk with rfl | rfl
      · refine (World.cell?_alloc_past _ _ _ (by simp)).trans ?_
        rcases ho with rfl | rfl <;> exact World.cell?_alloc_at _ _ _ _ rfl
      · rcases ho with rfl | rfl <;> exact World.cell?_alloc_at _ _ _ _ (by simp)
    · rcases hk with rfl | rfl
      · refine (((Below.refl _ _).alloc (Nat.le_refl _) _).frozen (p := ⟨w.heap.size, o, none⟩) (by simp)).trans ?_
        rcases ho with rfl | rfl <;> exact World.frozen?_alloc_at _ _ _ _ rfl
      · rcases ho with rfl | rfl <;> exact World.frozen?_alloc_at _ _ _ _ (by simp)
  obtain ⟨a0, f0⟩ := c0 _ 0 (.inl rfl) (.inl rfl)
  obtain ⟨a1, f1⟩ := c0 _ 1 (.inl rfl) (.inr rfl)
  obtain ⟨a2, f2⟩ := c0 _ 0 (.inr rfl) (.inl rfl)
  obtain ⟨a3, f3⟩ := c0 _ 1 (.inr rfl) (.inr rfl)
  have HBE := Lib.hid ((HB.out _ _).trans (hbt.mono (HB.out _ _).size))
  have HA := Lib.hid (And.intro a0 (And.intro a1 (And.intro a2 a3)))
  clear hd hb2 hbt c0
  go_wp2
  obtain ⟨q0, q1, q2, q3, q4⟩ := half_end (w := w) HA.out.1 HA.out.2.1 HA.out.2.2.1 HA.out.2.2.2 HBE.out (.slice none 0 0) (.slice none 0 0) (.slice none 0 0) (.slice none 0 0)
  refine bodyPost_ret (v := .tuple #[.agg #[.slice none 0 0, .slice none 0 0], .agg #[.slice none 0 0, .slice none 0 0], .bool false]) (by simp [results, Tryz.results6, go_sem, q0, q1, q2, q3]) rfl ⟨rfl, q4⟩
theorem half_keep {k : IntKind} {B : Nat} {w W : World} {v : Value} {n : Nat} (h : IsN k B W v n)
    (hr : ∀ j o, (j = w.heap.size ∨ j = w.heap.size + 1) → (o = 0 ∨ o = 1) → (∃ o' l c, W.cell? ⟨j, o, none⟩ = some (.slice o' l c)) ∧ W.frozen? ⟨j, o, none⟩ = false) (x y p q : Value) :
    IsN k B ((((W.setCell ⟨w.heap.size, 0, none⟩ x).setCell ⟨w.heap.size, 1, none⟩ y).setCell ⟨w.heap.size + 1, 0, none⟩ p).setCell ⟨w.heap.size + 1, 1, none⟩ q) v n := by
  obtain ⟨⟨o0, l0, c0, d0⟩, -⟩ := hr _ 0 (.inl rfl) (.inl rfl)
  obtain ⟨⟨o1, l1, c1, d1⟩, -⟩ := hr _ 1 (.inl rfl) (.inr rfl)
  obtain ⟨⟨o2, l2, c2, d2⟩, -⟩ := hr _ 0 (.inr rfl) (.inl rfl)
  obtain ⟨⟨o3, l3, c3, d3⟩, -⟩ := hr _ 1 (.inr rfl) (.inr rfl)
  have far' : ∀ o, (w.heap.size) ≠ (⟨w.heap.size + 1, o, none⟩ : Addr).block := fun o => by show w.heap.size ≠ w.heap.size + 1; omega
  have e2 : ((W.setCell ⟨w.heap.size, 0, none⟩ x).setCell ⟨w.heap.size, 1, none⟩ y).cell? ⟨w.heap.size + 1, 0, none⟩ = some (.slice o2 l2 c2) := by
    rw [World.cell?_setCell_far _ _ _ _ (far' 0), World.cell?_setCell_far _ _ _ _ (far' 0)]; exact d2
  have e3 : ((W.setCell ⟨w.heap.size, 0, none⟩ x).setCell ⟨w.heap.size, 1, none⟩ y).cell? ⟨w.heap.size + 1, 1, none⟩ = some (.slice o3 l3 c3) := by
    rw [World.cell?_setCell_far _ _ _ _ (far' 1), World.cell?_setCell_far _ _ _ _ (far' 1)]; exact d3
  exact IsN_setTwo (IsN_setTwo h d0 d1 (by intro d e; cases e) (by intro d e; cases e) _ _) e2 e3 (by intro d e; cases e) (by intro d e; cases e) _ _
/-- what half's last region keeps -/
structure StH (w : World) (F : Nat) (v u x y : Value) (P Q a b : Nat) (W : World) : Prop where
  n1 : D W v P
  n2 : D W u Q
  d1 : R W x a
  d2 : R W y b
  bel : Below w.heap.size w W
  hF : w.heap.size + 1 < F
  lt : F < W.heap.size
  f0 : W.cell? ⟨F, 0, none⟩ = some v
  f1 : W.cell? ⟨F, 1, none⟩ = some u
  r : ∀ j o, (j = w.heap.size ∨ j = w.heap.size + 1) → (o = 0 ∨ o = 1) → (∃ o' l c, W.cell? ⟨j, o, none⟩ = some (.slice o' l c)) ∧ W.frozen? ⟨j, o, none⟩ = false
theorem StH.next {w W W' : World} {F : Nat} {v u x y : Value} {P Q a b : Nat} (h : StH w F v u x y P Q a b W) (hb : Below W.heap.size W W') : StH w F v u x y P Q a b W' :=
  ⟨h.n1.below hb, h.n2.below hb, h.d1.below hb, h.d2.below hb, h.bel.trans (hb.mono h.bel.size), h.hF, Nat.lt_of_lt_of_le h.lt hb.size, (hb.cell (p := ⟨F, 0, none⟩) h.lt).trans h.f0, (hb.cell (p := ⟨F, 1, none⟩) h.lt).trans h.f1,
    fun j o hj ho => by
      have hl : j < W.heap.size := by have := h.hF; have := h.lt; omega
      obtain ⟨⟨o', l, c, hc⟩, hf⟩ := h.r j o hj ho
      exact ⟨⟨o', l, c, (hb.cell (p := ⟨j, o, none⟩) hl).trans hc⟩, (hb.frozen (p := ⟨j, o, none⟩) hl).trans hf⟩⟩
theorem StH.set {w W : World} {F : Nat} {v u x y : Value} {P Q a b : Nat} (h : StH w F v u x y P Q a b W) {j : Nat} (hj : j = w.heap.size ∨ j = w.heap.size + 1) (o1 : Option Addr) (l1 c1 : Nat) (o2 : Option Addr) (l2 c2 : Nat) :
    StH w F v u x y P Q a b ((W.setCell ⟨j, 0, none⟩ (.slice o1 l1 c1)).setCell ⟨j, 1, none⟩ (.slice o2 l2 c2)) := by
  obtain ⟨⟨p0, q0, s0, d0⟩, -⟩ := h.r j 0 hj (.inl rfl)
  obtain ⟨⟨p1, q1, s1, d1⟩, -⟩ := h.r j 1 hj (.inr rfl)
  have hk : ∀ {k : IntKind} {B : Nat} {z : Value} {n : Nat}, IsN k B W z n → IsN k B ((W.setCell ⟨j, 0, none⟩ (.slice o1 l1 c1)).setCell ⟨j, 1, none⟩ (.slice o2 l2 c2)) z n := fun hz => IsN_setTwo hz d0 d1 (by intro d e; cases e) (by intro d e; cases e) _ _
  have hFj : j ≠ F := by have := h.hF; omega
  have hw : w.heap.size ≤ j := by omega
  obtain ⟨t0, t1⟩ := read_two d0 d1 (.slice o1 l1 c1) (.slice o2 l2 c2)
  refine ⟨hk h.n1, hk h.n2, hk h.d1, hk h.d2, (h.bel.setCell hw _).setCell hw _, h.hF, by rw [World.size_setCell, World.size_setCell]; exact h.lt, ?_, ?_, fun i o hi ho => ⟨?_, ?_⟩⟩
  · rw [World.cell?_setCell_far _ _ _ _ hFj, World.cell?_setCell_far _ _ _ _ hFj]; exact h.f0
  · rw [World.cell?_setCell_far _ _ _ _ hFj, World.cell?_setCell_far _ _ _ _ hFj]; exact h.f1
  · by_cases e : i = j
    · subst e
      rcases ho with rfl | rfl
      · exact ⟨_, _, _, t0⟩
      · exact ⟨_, _, _, t1⟩
    · obtain ⟨⟨o', l, c, hc⟩, -⟩ := h.r i o hi ho
      refine ⟨o', l, c, ?_⟩
      rw [World.cell?_setCell_far _ _ _ _ (fun e' => e e'.symm), World.cell?_setCell_far _ _ _ _ (fun e' => e e'.symm)]; exact hc
  · have := (h.r i o hi ho).2
    simpa using this
set_option maxHeartbeats 4000000 in
set_option maxRecDepth 100000 in
theorem half_pos (u v : Value) (xs ys : List Nat) (m : Nat) (w : World) (hu : IsRaw w u xs) (hv : IsRaw w v ys) (hl1 : xs.length ≤ maxLen) (hl2 : ys.length ≤ maxLen) (hm : m ≤ 300) (hb0 : 0 < rawN ys m) :
    Calls Tryz.prog 6 #[u, v, .int .i64 m] w fun e w' => ∃ r1 s1 r2 s2, e = .returned (.tuple #[.agg #[r1, s1], .agg #[r2, s2], .bool true]) ∧ D w' r1 (lowP (rawN xs m) (rawN ys m)) ∧ D w' s1 (lowQ (rawN xs m) (rawN ys m)) ∧ R w' r2 (lowP (rawN xs m) (rawN ys m)) ∧ R w' s2 (lowQ (rawN xs m) (rawN ys m)) ∧ Below w.heap.size w w' := by
  have b2 : ∀ o1 o2, Below w.heap.size w ((w.alloc o1).alloc o2) := fun o1 o2 => ((Below.refl _ _).alloc (Nat.le_refl _) _).alloc (by simp) _
  have HR1 := Lib.hid (fun W (h : IsRaw W u xs) => Raw_any u xs m W h hl1 (by omega))
  have HR2 := Lib.hid (fun W (h : IsRaw W v ys) => Raw_any v ys m W h hl2 (by omega))
  have hna := rawN_nd hu.1 m
  have hnb := rawN_nd hv.1 m
  have HU := Lib.hid (fun o1 o2 => IsRaw.below hu (b2 o1 o2))
  have HV := Lib.hid (fun o1 o2 => IsRaw.below hv (b2 o1 o2))
  have HB := Lib.hid b2
  obtain ⟨uo, uc, rfl, -⟩ := hu.shape
  obtain ⟨vo, vc, rfl, -⟩ := hv.shape
  clear hu hv b2
  generalize rawN xs m = a at *
  generalize rawN ys m = b at *
  have h32a : nd 4294967296 a ≤ 300 := Nat.le_trans (nd_32 hna) hm
  have h32b : nd 4294967296 b ≤ 300 := Nat.le_trans (nd_32 hnb) hm
  have hl0 := nd_pos (B := 65536) (by decide) hb0
  have hq : ((((nd 65536 b : Nat)) : Int) == 0) = false := beq_eq_false_iff_ne.2 (by omega)
  have HTW := Lib.hid (fun W x y (h1 : R W x a) (h2 : R W y b) => two_any x y a b W h1 h2 (by omega) (by omega))
  have HNF := Lib.hid (fun W v u (h1 : D W v a) (h2 : D W u b) => NewFrac_any (divide_long (max (nd 4294967296 a) (nd 4294967296 b)) (by omega)) v u a b W h1 h2 hb0 ((nd_le (by decide)).1 (Nat.le_max_left _ _)) ((nd_le (by decide)).1 (Nat.le_max_right _ _)))
  rw [show a / Nat.gcd a b = lowP a b from rfl, show b / Nat.gcd a b = lowQ a b from rfl] at HNF
  have HRL := Lib.hid (fun W v u (h1 : R W v a) (h2 : R W u b) => RLow_any v u a b W h1 h2 hb0 (by omega) (by omega))
  clear hna hnb h32a h32b hb0 hl0
  generalize lowP a b = P at *
  generalize lowQ a b = Q at *
  go_enter Tryz.func6, Tryz.ntmps6
  go_wp2_with fail
  refine (HR1.out _ (HU.out _ _)).mono ?_
  rintro e w1 ⟨c, rfl, hc, hb1⟩
  obtain ⟨co, cc, rfl, -⟩ := hc.shape
  have HV1 := Lib.hid (IsRaw.below (HV.out _ _) hb1)
  have HB1 := Lib.hid hb1; have HC1 := Lib.hid hc
  clear hc hb1
  go_wp2_with fail
  refine (HR2.out _ HV1.out).mono ?_
  rintro e w2 ⟨d, rfl, hd, hb2⟩
  obtain ⟨eo, ec, rfl, -⟩ := hd.shape
  have HB2 := Lib.hid (HB1.out.trans (hb2.mono HB1.out.size)); have HC2 := Lib.hid (HC1.out.below hb2); have HD2 := Lib.hid hd
  clear hd hb2
  go_wp2_with fail
  refine (HTW.out _ _ _ HC2.out HD2.out).mono ?_
  rintro e w3 ⟨x, y, rfl, hx, hy, hb3⟩
  obtain ⟨xo, xc, rfl, -⟩ := hx.shape
  obtain ⟨yo, yc, rfl, -⟩ := hy.shape
  have bb : ∀ o1 o2, Below w3.heap.size w3 ((w3.alloc o1).alloc o2) := fun o1 o2 => ((Below.refl _ _).alloc (Nat.le_refl _) _).alloc (by simp) _
  have HB3 := Lib.hid (fun o1 o2 => (HB2.out.trans (hb3.mono HB2.out.size)).trans ((bb o1 o2).mono (HB2.out.trans (hb3.mono HB2.out.size)).size))
  have HC3 := Lib.hid (fun o1 o2 => (HC2.out.below hb3).below (bb o1 o2)); have HD3 := Lib.hid (fun o1 o2 => (HD2.out.below hb3).below (bb o1 o2))
  have HX3 := Lib.hid (fun o1 o2 => hx.below (bb o1 o2)); have HY3 := Lib.hid (fun o1 o2 => hy.below (bb o1 o2))
  clear hx hy hb3 bb
  go_wp2_with fail
  refine (HNF.out _ _ _ (HX3.out _ _) (HY3.out _ _)).mono ?_
  rintro e w4 ⟨f, g, rfl, hf, hg, hb4⟩
  obtain ⟨fo, fc, rfl, -⟩ := hf.shape
  obtain ⟨go, gc, rfl, -⟩ := hg.shape
  have hbt := (HB3.out _ _).trans (hb4.mono (HB3.out _ _).size)
  have hz := hbt.size
  simp only [World.size_alloc] at hz
  have b5 : ∀ o, Below w4.heap.size w4 (w4.alloc o) := fun o => (Below.refl _ _).alloc (Nat.le_refl _) _
  have hst0 : StH w w4.heap.size (.slice fo (nd 4294967296 P) fc) (.slice go (nd 4294967296 Q) gc) (.slice co (nd 65536 a) cc) (.slice eo (nd 65536 b) ec) P Q a b (w4.alloc (.cells #[.slice fo (nd 4294967296 P) fc, .slice go (nd 4294967296 Q) gc] 26)) := by
    refine ⟨hf.below (b5 _), hg.below (b5 _), ((HC3.out _ _).below hb4).below (b5 _), ((HD3.out _ _).below hb4).below (b5 _), ((HB.out _ _).trans (hbt.mono (HB.out _ _).size)).trans ((b5 _).mono ((HB.out _ _).trans (hbt.mono (HB.out _ _).size)).size), by omega, by simp, World.cell?_alloc_at _ _ _ _ rfl, World.cell?_alloc_at _ _ _ _ rfl, fun j o hj ho => ?_⟩
    have hl : j < ((w.alloc (.cells #[.slice none 0 0, .slice none 0 0] 26)).alloc (.cells #[.slice none 0 0, .slice none 0 0] 29)).heap.size := by simp; omega
    have hl4 : j < w4.heap.size := by omega
    refine ⟨⟨none, 0, 0, ((b5 _).cell (p := ⟨j, o, none⟩) hl4).trans ((hbt.cell (p := ⟨j, o, none⟩) hl).trans ?_)⟩, ((b5 _).frozen (p := ⟨j, o, none⟩) hl4).trans ((hbt.frozen (p := ⟨j, o, none⟩) hl).trans ?_)⟩
    · rcases hj with rfl | rfl
      · refine (World.cell?_alloc_past _ _ _ (by simp)).trans ?_
        rcases ho with rfl | rfl <;> exact World.cell?_alloc_at _ _ _ _ rfl
      · rcases ho with rfl | rfl <;> exact World.cell?_alloc_at _ _ _ _ (by simp)
    · rcases hj with rfl | rfl
      · refine (((Below.refl _ _).alloc (Nat.le_refl _) _).frozen (p := ⟨w.heap.size, o, none⟩) (by simp)).trans ?_
        rcases ho with rfl | rfl <;> exact World.frozen?_alloc_at _ _ _ _ rfl
      · rcases ho with rfl | rfl <;> exact World.frozen?_alloc_at _ _ _ _ (by simp)
  obtain ⟨V1, hV1⟩ : ∃ V1 : Value, V1 = .slice fo (nd 4294967296 P) fc := ⟨_, rfl⟩
  have HRK : Hid (∀ W, StH w w4.heap.size (.slice fo (nd 4294967296 P) fc) (.slice go (nd 4294967296 Q) gc) (.slice co (nd 65536 a) cc) (.slice eo (nd 65536 b) ec) P Q a b W → Calls Tryz.prog 30 #[.slice co (nd 65536 a) cc, .slice eo (nd 65536 b) ec] W fun e w' => ∃ o1 l1 k1 o2 l2 k2, e = .returned (.agg #[.slice o1 l1 k1, .slice o2 l2 k2]) ∧ (R w' (.slice o1 l1 k1) P ∧ R w' (.slice o2 l2 k2) Q) ∧ StH w w4.heap.size (.slice fo (nd 4294967296 P) fc) (.slice go (nd 4294967296 Q) gc) (.slice co (nd 65536 a) cc) (.slice eo (nd 65536 b) ec) P Q a b w') := fun W h =>
    (HRL.out _ _ _ h.d1 h.d2).mono fun e w' ⟨r, s, he, hr, hs, hB⟩ => by
      obtain ⟨ro, rc, rfl, -⟩ := hr.shape
      obtain ⟨so, sc, rfl, -⟩ := hs.shape
      exact ⟨ro, _, rc, so, _, sc, he, ⟨hr, hs⟩, h.next hB⟩
  have HSET : Hid (∀ W j o1 l1 c1 o2 l2 c2, (j = w.heap.size ∨ j = w.heap.size + 1) → StH w w4.heap.size (.slice fo (nd 4294967296 P) fc) (.slice go (nd 4294967296 Q) gc) (.slice co (nd 65536 a) cc) (.slice eo (nd 65536 b) ec) P Q a b W →
      (((W.setCell ⟨j, 0, none⟩ (.slice o1 l1 c1)).setCell ⟨j, 1, none⟩ (.slice o2 l2 c2)).cell? ⟨w4.heap.size, 0, none⟩ = some (.slice fo (nd 4294967296 P) fc) ∧ ((W.setCell ⟨j, 0, none⟩ (.slice o1 l1 c1)).setCell ⟨j, 1, none⟩ (.slice o2 l2 c2)).cell? ⟨w4.heap.size, 1, none⟩ = some (.slice go (nd 4294967296 Q) gc)) ∧ StH w w4.heap.size (.slice fo (nd 4294967296 P) fc) (.slice go (nd 4294967296 Q) gc) (.slice co (nd 65536 a) cc) (.slice eo (nd 65536 b) ec) P Q a b ((W.setCell ⟨j, 0, none⟩ (.slice o1 l1 c1)).setCell ⟨j, 1, none⟩ (.slice o2 l2 c2))) :=
    fun W j o1 l1 c1 o2 l2 c2 hj h => ⟨⟨(h.set hj o1 l1 c1 o2 l2 c2).f0, (h.set hj o1 l1 c1 o2 l2 c2).f1⟩, h.set hj o1 l1 c1 o2 l2 c2⟩
  have HRR : Hid (∀ W, StH w w4.heap.size (.slice fo (nd 4294967296 P) fc) (.slice go (nd 4294967296 Q) gc) (.slice co (nd 65536 a) cc) (.slice eo (nd 65536 b) ec) P Q a b W → (∃ o' l c, W.cell? ⟨w.heap.size, 0, none⟩ = some (.slice o' l c)) ∧ (∃ o' l c, W.cell? ⟨w.heap.size, 1, none⟩ = some (.slice o' l c)) ∧ (∃ o' l c, W.cell? ⟨w.heap.size + 1, 0, none⟩ = some (.slice o' l c)) ∧ (∃ o' l c, W.cell? ⟨w.heap.size + 1, 1, none⟩ = some (.slice o' l c)) ∧
      W.frozen? ⟨w.heap.size, 0, none⟩ = false ∧ W.frozen? ⟨w.heap.size, 1, none⟩ = false ∧ W.frozen? ⟨w.heap.size + 1, 0, none⟩ = false ∧ W.frozen? ⟨w.heap.size + 1, 1, none⟩ = false) := fun W h =>
    ⟨(h.r _ 0 (.inl rfl) (.inl rfl)).1, (h.r _ 1 (.inl rfl) (.inr rfl)).1, (h.r _ 0 (.inr rfl) (.inl rfl)).1, (h.r _ 1 (.inr rfl) (.inr rfl)).1, (h.r _ 0 (.inl rfl) (.inl rfl)).2, (h.r _ 1 (.inl rfl) (.inr rfl)).2, (h.r _ 0 (.inr rfl) (.inl rfl)).2, (h.r _ 1 (.inr rfl) (.inr rfl)).2⟩
  have hs2 := hst0.next ((Below.refl _ _).drew)
  have hc0 := And.intro hst0.f0 hst0.f1
  have hc2 := And.intro hs2.f0 hs2.f1
  clear hf hg hb4 hbt b5 hV1
  go_wp2_with fail
  go_region_held3 (fun W : World => (W.cell? ⟨w4.heap.size, 0, none⟩ = some (.slice fo (nd 4294967296 P) fc) ∧ W.cell? ⟨w4.heap.size, 1, none⟩ = some (.slice go (nd 4294967296 Q) gc)) ∧ StH w w4.heap.size (.slice fo (nd 4294967296 P) fc) (.slice go (nd 4294967296 Q) gc) (.slice co (nd 65536 a) cc) (.slice eo (nd 65536 b) ec) P Q a b W) (first | (refine And.intro ?_ ?_ <;> assumption) | (refine HSET.out _ _ _ _ _ _ _ _ (.inl rfl) ?_; assumption) | (refine HSET.out _ _ _ _ _ _ _ _ (.inr rfl) ?_; assumption) | (refine HSET.out _ _ _ _ _ _ _ _ (.inr rfl) (HSET.out _ _ _ _ _ _ _ _ (.inl rfl) ?_).2; assumption) | fail) (first
    | (go_at_call 30; with_reducible refine (HRK.out _ ?h).mono ?_; (case h => assumption); rintro e w' ⟨o1, l1, k1, o2, l2, k2, rfl, hr', hs'⟩; have hc' := And.intro hs'.f0 hs'.f1; obtain ⟨⟨a0, a1, a2, z0⟩, ⟨b0, b1, b2, z1⟩, ⟨c0, c1, c2, z2⟩, ⟨d0, d1, d2, z3⟩, y0, y1, y2, y3⟩ := HRR.out _ hs'))
  all_goals
    have hR : R w' (.slice o1 l1 k1) P ∧ R w' (.slice o2 l2 k2) Q := by assumption
    have hT : StH w w4.heap.size (.slice fo (nd 4294967296 P) fc) (.slice go (nd 4294967296 Q) gc) (.slice co (nd 65536 a) cc) (.slice eo (nd 65536 b) ec) P Q a b w' := by assumption
    obtain ⟨⟨m0, m1, m2, e0⟩, -⟩ := hT.r _ 0 (.inl rfl) (.inl rfl)
    obtain ⟨⟨m3, m4, m5, e1⟩, -⟩ := hT.r _ 1 (.inl rfl) (.inr rfl)
    obtain ⟨⟨m6, m7, m8, e2⟩, -⟩ := hT.r _ 0 (.inr rfl) (.inl rfl)
    obtain ⟨⟨m9, m10, m11, e3⟩, -⟩ := hT.r _ 1 (.inr rfl) (.inr rfl)
    have HE := Lib.hid (half_end e0 e1 e2 e3 hT.bel (.slice fo (nd 4294967296 P) fc) (.slice go (nd 4294967296 Q) gc) (.slice o1 l1 k1) (.slice o2 l2 k2))
    have HKS := Lib.hid (And.intro (half_keep hT.n1 hT.r (.slice fo (nd 4294967296 P) fc) (.slice go (nd 4294967296 Q) gc) (.slice o1 l1 k1) (.slice o2 l2 k2)) (And.intro (half_keep hT.n2 hT.r (.slice fo (nd 4294967296 P) fc) (.slice go (nd 4294967296 Q) gc) (.slice o1 l1 k1) (.slice o2 l2 k2)) (And.intro (half_keep hR.1 hT.r (.slice fo (nd 4294967296 P) fc) (.slice go (nd 4294967296 Q) gc) (.slice o1 l1 k1) (.slice o2 l2 k2)) (half_keep hR.2 hT.r (.slice fo (nd 4294967296 P) fc) (.slice go (nd 4294967296 Q) gc) (.slice o1 l1 k1) (.slice o2 l2 k2)))))
    clear hT hR e0 e1 e2 e3
    go_wp2
    obtain ⟨t0, t1, t2, t3, t4⟩ := HE.out
    obtain ⟨s1, s2, s3, s4⟩ := HKS.out
    refine bodyPost_ret (v := .tuple #[.agg #[.slice fo (nd 4294967296 P) fc, .slice go (nd 4294967296 Q) gc], .agg #[.slice o1 l1 k1, .slice o2 l2 k2], .bool true]) (by simp [results, Tryz.results6, go_sem, t0, t1, t2, t3]) rfl ⟨_, _, _, _, rfl, s1, s2, s3, s4, t4⟩
end Go.Proofs.YteajinpfigejfaaGreatDoor
namespace Go.Proofs.YteajinpfigejfaaGreatDoor
open Go Go.RowKit Gu

/-- what an operation on fractions gives: the quotient of L by M in lowest terms, or ErrRange -/
def FRes (L M : Nat) (w' : World) (e : Ending) (B : Nat) (w : World) : Prop :=
  ∃ r s, e = .returned (.tuple #[.agg #[r, s], .int .i64 (ffE (lowP L M) (lowQ L M))]) ∧ D w' r (ffN (lowP L M) (lowQ L M) (lowP L M)) ∧ D w' s (ffN (lowP L M) (lowQ L M) (lowQ L M)) ∧ Below B w w'
theorem nd_dmul {b d : Nat} (hb : nd 4294967296 b ≤ 100000) (hd : nd 4294967296 d ≤ 100000) : nd 4294967296 (dn b * dn d) ≤ 200000 := nd_mul (dn_nd hb (by decide)) (dn_nd hd (by decide))
set_option maxHeartbeats 2000000 in
theorem FAdd_any (v u x y : Value) (a b c d : Nat) (w : World) (hv : D w v a) (hu : D w u b) (hx : D w x c) (hy : D w y d) (ha : nd 4294967296 a ≤ 100000) (hb : nd 4294967296 b ≤ 100000) (hc : nd 4294967296 c ≤ 100000) (hd : nd 4294967296 d ≤ 100000) :
    Calls Tryz.prog 20 #[.agg #[v, u], .agg #[x, y]] w fun e w' => FRes (a * dn d + c * dn b) (dn b * dn d) w' e w.heap.size w := by
  have b3 : ∀ o1 o2 o3, Below w.heap.size w (((w.alloc o1).alloc o2).alloc o3) := fun o1 o2 o3 => (((Below.refl _ _).alloc (Nat.le_refl _) _).alloc (by simp) _).alloc (by simp; omega) _
  have HCR := Lib.hid (fun o1 o2 o3 => crossed_any v u x y a b c d (((w.alloc o1).alloc o2).alloc o3) (hv.below (b3 o1 o2 o3)) (hu.below (b3 o1 o2 o3)) (hx.below (b3 o1 o2 o3)) (hy.below (b3 o1 o2 o3)) ha hb hc hd)
  have h1 := nd_mul ha (dn_nd hd (by decide))
  have h2 := nd_mul hc (dn_nd hb (by decide))
  have h3 := nd_add h1 h2
  have h4 := nd_dmul hb hd
  have h5 : 0 < dn b * dn d := Nat.mul_pos (dn_pos b) (dn_pos d)
  have HSU := Lib.hid (fun v u W (h : D W v (a * dn d)) (h' : D W u (c * dn b)) => sum_any v u _ _ W h h' (by omega) (by omega))
  have HFF := Lib.hid (fun v u W (h : D W v (a * dn d + c * dn b)) (h' : D W u (dn b * dn d)) => fittingFrac_any v u _ _ W h h' h5 (by omega) (by omega))
  have HB := Lib.hid b3
  obtain ⟨ao, ac, rfl, -⟩ := hv.shape
  obtain ⟨bo, bc, rfl, -⟩ := hu.shape
  obtain ⟨co, cc, rfl, -⟩ := hx.shape
  obtain ⟨eo, ec, rfl, -⟩ := hy.shape
  clear hv hu hx hy b3 h1 h2 h3 h4 h5
  unfold FRes
  generalize a * dn d = L1 at *
  generalize c * dn b = L2 at *
  generalize L1 + L2 = L at *
  generalize dn b * dn d = M at *
  generalize ffE (lowP L M) (lowQ L M) = E at *
  generalize ffN (lowP L M) (lowQ L M) (lowP L M) = X at *
  generalize ffN (lowP L M) (lowQ L M) (lowQ L M) = Y at *
  go_enter Tryz.func20, Tryz.ntmps20
  go_wp2_with fail
  refine (HCR.out _ _ _).mono ?_
  rintro e w1 ⟨r1, r2, r3, rfl, hr1, hr2, hr3, hb1⟩
  have HB1 := Lib.hid hb1; have HR3 := Lib.hid hr3
  have HS1 := Lib.hid (HSU.out _ _ _ hr1 hr2)
  clear hb1 hr1 hr2 hr3
  go_wp2_with fail
  refine HS1.out.mono ?_
  rintro e w2 ⟨s1, rfl, hs1, hb2⟩
  have HB2 := Lib.hid (HB1.out.trans (hb2.mono HB1.out.size))
  have HF1 := Lib.hid (HFF.out _ _ _ hs1 (HR3.out.below hb2))
  clear hs1 hb2
  go_wp2_with fail
  refine HF1.out.mono ?_
  rintro e w3 ⟨r, s, rfl, hr, hs, hb3⟩
  have hbt := HB2.out.trans (hb3.mono HB2.out.size)
  clear hb3
  obtain ⟨ro, rc, rfl, -⟩ := hr.shape
  obtain ⟨so, sc, rfl, -⟩ := hs.shape
  have d0 : w3.cell? ⟨w.heap.size + 1 + 1, 0, none⟩ = some (.slice none 0 0) := (hbt.cell (p := ⟨w.heap.size + 1 + 1, 0, none⟩) (by simp)).trans (World.cell?_alloc_at _ _ _ _ (by simp))
  have g0 : w3.frozen? ⟨w.heap.size + 1 + 1, 0, none⟩ = false := (hbt.frozen (p := ⟨w.heap.size + 1 + 1, 0, none⟩) (by simp)).trans (World.frozen?_alloc_at _ _ _ _ (by simp))
  have d1 : w3.cell? ⟨w.heap.size + 1 + 1, 1, none⟩ = some (.slice none 0 0) := (hbt.cell (p := ⟨w.heap.size + 1 + 1, 1, none⟩) (by simp)).trans (World.cell?_alloc_at _ _ _ _ (by simp))
  have g1 : w3.frozen? ⟨w.heap.size + 1 + 1, 1, none⟩ = false := (hbt.frozen (p := ⟨w.heap.size + 1 + 1, 1, none⟩) (by simp)).trans (World.frozen?_alloc_at _ _ _ _ (by simp))
  have HTS := Lib.hid (two_store (B := w.heap.size + 1 + 1) hr hs d0 d1 ((HB.out _ _ _).trans (hbt.mono (HB.out _ _ _).size)) (by omega))
  clear hr hs hbt
  go_wp2
  obtain ⟨z1, z2, z3, z4, z5⟩ := HTS.out
  refine bodyPost_ret (v := .tuple #[.agg #[.slice ro (nd 4294967296 (X)) rc, .slice so (nd 4294967296 (Y)) sc], .int .i64 (E)]) (by simp [results, Tryz.results20, go_sem, z3, z4]) rfl ⟨_, _, rfl, z1, z2, z5⟩
set_option maxHeartbeats 2000000 in
theorem FMul_any (v u x y : Value) (a b c d : Nat) (w : World) (hv : D w v a) (hu : D w u b) (hx : D w x c) (hy : D w y d) (ha : nd 4294967296 a ≤ 100000) (hb : nd 4294967296 b ≤ 100000) (hc : nd 4294967296 c ≤ 100000) (hd : nd 4294967296 d ≤ 100000) :
    Calls Tryz.prog 21 #[.agg #[v, u], .agg #[x, y]] w fun e w' => FRes (a * c) (dn b * dn d) w' e w.heap.size w := by
  have b3 : ∀ o1 o2 o3, Below w.heap.size w (((w.alloc o1).alloc o2).alloc o3) := fun o1 o2 o3 => (((Below.refl _ _).alloc (Nat.le_refl _) _).alloc (by simp) _).alloc (by simp; omega) _
  have HT1 := Lib.hid (fun o1 o2 o3 => terms_any v u a b (((w.alloc o1).alloc o2).alloc o3) (hv.below (b3 o1 o2 o3)) (hu.below (b3 o1 o2 o3)))
  have HT2 := Lib.hid (fun o1 o2 o3 w' (h : Below (((w.alloc o1).alloc o2).alloc o3).heap.size (((w.alloc o1).alloc o2).alloc o3) w') => terms_any x y c d w' ((hx.below (b3 o1 o2 o3)).below h) ((hy.below (b3 o1 o2 o3)).below h))
  have h1 := nd_mul ha hc
  have h4 := nd_dmul hb hd
  have hdb := dn_nd hb (by decide)
  have hdd := dn_nd hd (by decide)
  have h5 : 0 < dn b * dn d := Nat.mul_pos (dn_pos b) (dn_pos d)
  have HA := Lib.hid (fun o1 o2 o3 => hv.below (b3 o1 o2 o3))
  have HC := Lib.hid (fun o1 o2 o3 => hx.below (b3 o1 o2 o3))
  have HP1 := Lib.hid (fun v u W (h : D W v a) (h' : D W u c) => product_any v u _ _ W h h' (by omega) (by omega))
  have HP2 := Lib.hid (fun v u W (h : D W v (dn b)) (h' : D W u (dn d)) => product_any v u _ _ W h h' (by omega) (by omega))
  have HFF := Lib.hid (fun v u W (h : D W v (a * c)) (h' : D W u (dn b * dn d)) => fittingFrac_any v u _ _ W h h' h5 (by omega) (by omega))
  have HB := Lib.hid b3
  obtain ⟨ao, ac, rfl, -⟩ := hv.shape
  obtain ⟨bo, bc, rfl, -⟩ := hu.shape
  obtain ⟨co, cc, rfl, -⟩ := hx.shape
  obtain ⟨eo, ec, rfl, -⟩ := hy.shape
  clear hv hu hx hy b3 h1 h4 h5 hdb hdd
  unfold FRes
  generalize a * c = L at *
  generalize dn b * dn d = M at *
  generalize dn b = B at *
  generalize dn d = F at *
  generalize ffE (lowP L M) (lowQ L M) = E at *
  generalize ffN (lowP L M) (lowQ L M) (lowP L M) = X at *
  generalize ffN (lowP L M) (lowQ L M) (lowQ L M) = Y at *
  go_enter Tryz.func21, Tryz.ntmps21
  go_wp2_with fail
  refine (HT1.out _ _ _).mono ?_
  rintro e w1 ⟨r1, rfl, hr1, hb1⟩
  obtain ⟨po, pc, rfl, -⟩ := hr1.shape
  have HB1 := Lib.hid hb1; have HR1 := Lib.hid hr1
  have e0 : w1.cell? ⟨w.heap.size + 1, 0, none⟩ = some (.slice co (nd 4294967296 c) cc) := (hb1.cell (p := ⟨w.heap.size + 1, 0, none⟩) (by simp <;> omega)).trans ((World.cell?_alloc_past _ _ _ (by simp)).trans (World.cell?_alloc_at _ _ _ _ (by simp)))
  have e1 : w1.cell? ⟨w.heap.size + 1, 1, none⟩ = some (.slice eo (nd 4294967296 d) ec) := (hb1.cell (p := ⟨w.heap.size + 1, 1, none⟩) (by simp <;> omega)).trans ((World.cell?_alloc_past _ _ _ (by simp)).trans (World.cell?_alloc_at _ _ _ _ (by simp)))
  clear hb1 hr1
  go_wp2_with fail
  refine (HT2.out _ _ _ _ HB1.out).mono ?_
  rintro e w2 ⟨r2, rfl, hr2, hb2⟩
  obtain ⟨qo, qc, rfl, -⟩ := hr2.shape
  have HB2 := Lib.hid (HB1.out.trans (hb2.mono HB1.out.size)); have HR2 := Lib.hid hr2; have HR1' := Lib.hid (HR1.out.below hb2)
  clear hb2 hr2 e0 e1
  have HQ1 := Lib.hid (HP1.out _ _ _ ((HA.out _ _ _).below HB2.out) ((HC.out _ _ _).below HB2.out))
  go_wp2_with fail
  refine HQ1.out.mono ?_
  rintro e w3 ⟨p1, rfl, hp1, hb3⟩
  have HB3 := Lib.hid (HB2.out.trans (hb3.mono HB2.out.size)); have HX1 := Lib.hid hp1
  have HQ2 := Lib.hid (HP2.out _ _ _ (HR1'.out.below hb3) (HR2.out.below hb3))
  clear hb3 hp1
  go_wp2_with fail
  refine HQ2.out.mono ?_
  rintro e w4 ⟨p2, rfl, hp2, hb4⟩
  have HB4 := Lib.hid (HB3.out.trans (hb4.mono HB3.out.size))
  have HF1 := Lib.hid (HFF.out _ _ _ (HX1.out.below hb4) hp2)
  clear hp2 hb4
  go_wp2_with fail
  refine HF1.out.mono ?_
  rintro e w5 ⟨r, s, rfl, hr, hs, hb5⟩
  have hbt := HB4.out.trans (hb5.mono HB4.out.size)
  clear hb5
  obtain ⟨ro, rc, rfl, -⟩ := hr.shape
  obtain ⟨so, sc, rfl, -⟩ := hs.shape
  have d0 : w5.cell? ⟨w.heap.size + 1 + 1, 0, none⟩ = some (.slice none 0 0) := (hbt.cell (p := ⟨w.heap.size + 1 + 1, 0, none⟩) (by simp)).trans (World.cell?_alloc_at _ _ _ _ (by simp))
  have g0 : w5.frozen? ⟨w.heap.size + 1 + 1, 0, none⟩ = false := (hbt.frozen (p := ⟨w.heap.size + 1 + 1, 0, none⟩) (by simp)).trans (World.frozen?_alloc_at _ _ _ _ (by simp))
  have d1 : w5.cell? ⟨w.heap.size + 1 + 1, 1, none⟩ = some (.slice none 0 0) := (hbt.cell (p := ⟨w.heap.size + 1 + 1, 1, none⟩) (by simp)).trans (World.cell?_alloc_at _ _ _ _ (by simp))
  have g1 : w5.frozen? ⟨w.heap.size + 1 + 1, 1, none⟩ = false := (hbt.frozen (p := ⟨w.heap.size + 1 + 1, 1, none⟩) (by simp)).trans (World.frozen?_alloc_at _ _ _ _ (by simp))
  have HTS := Lib.hid (two_store (B := w.heap.size + 1 + 1) hr hs d0 d1 ((HB.out _ _ _).trans (hbt.mono (HB.out _ _ _).size)) (by omega))
  clear hr hs hbt
  go_wp2
  obtain ⟨z1, z2, z3, z4, z5⟩ := HTS.out
  refine bodyPost_ret (v := .tuple #[.agg #[.slice ro (nd 4294967296 (X)) rc, .slice so (nd 4294967296 (Y)) sc], .int .i64 (E)]) (by simp [results, Tryz.results21, go_sem, z3, z4]) rfl ⟨_, _, rfl, z1, z2, z5⟩
set_option maxHeartbeats 2000000 in
theorem FSub_neg (v u x y : Value) (a b c d : Nat) (w : World) (hv : D w v a) (hu : D w u b) (hx : D w x c) (hy : D w y d) (ha : nd 4294967296 a ≤ 100000) (hb : nd 4294967296 b ≤ 100000) (hc : nd 4294967296 c ≤ 100000) (hd : nd 4294967296 d ≤ 100000) (hlt : a * dn d < c * dn b) :
    Calls Tryz.prog 27 #[.agg #[v, u], .agg #[x, y]] w fun e w' => e = .returned (.tuple #[.agg #[.slice none 0 0, .slice none 0 0], .int .i64 10]) ∧ Below w.heap.size w w' := by
  have b3 : ∀ o1 o2 o3, Below w.heap.size w (((w.alloc o1).alloc o2).alloc o3) := fun o1 o2 o3 => (((Below.refl _ _).alloc (Nat.le_refl _) _).alloc (by simp) _).alloc (by simp; omega) _
  have HCR := Lib.hid (fun o1 o2 o3 => crossed_any v u x y a b c d (((w.alloc o1).alloc o2).alloc o3) (hv.below (b3 o1 o2 o3)) (hu.below (b3 o1 o2 o3)) (hx.below (b3 o1 o2 o3)) (hy.below (b3 o1 o2 o3)) ha hb hc hd)
  have h1 := nd_mul ha (dn_nd hd (by decide))
  have h2 := nd_mul hc (dn_nd hb (by decide))
  have h4 := nd_dmul hb hd
  have h5 : 0 < dn b * dn d := Nat.mul_pos (dn_pos b) (dn_pos d)
  have HCM := Lib.hid (fun v u W (h : D W v (a * dn d)) (h' : D W u (c * dn b)) => compare_any v u _ _ W h h' (by omega) (by omega))
  have hcm : cmpN ((a * dn d : Nat) : Int) ((c * dn b : Nat) : Int) = -1 := cmpN_lt (by omega)
  rw [hcm] at HCM
  have HB := Lib.hid b3
  obtain ⟨ao, ac, rfl, -⟩ := hv.shape
  obtain ⟨bo, bc, rfl, -⟩ := hu.shape
  obtain ⟨co, cc, rfl, -⟩ := hx.shape
  obtain ⟨eo, ec, rfl, -⟩ := hy.shape
  clear hv hu hx hy b3 h1 h2 h4 h5 hcm hlt
  go_enter Tryz.func27, Tryz.ntmps27
  go_wp2_with fail
  refine (HCR.out _ _ _).mono ?_
  rintro e w1 ⟨r1, r2, r3, rfl, hr1, hr2, hr3, hb1⟩
  have HB1 := Lib.hid hb1
  have HC1 := Lib.hid (HCM.out _ _ _ hr1 hr2)
  clear hb1 hr1 hr2 hr3
  go_wp2_with fail
  refine HC1.out.mono ?_
  rintro e w2 ⟨rfl, k, rfl⟩
  have hbt := below_drewN HB1.out k
  have d0 : (w1.drewN k).cell? ⟨w.heap.size + 1 + 1, 0, none⟩ = some (.slice none 0 0) := (hbt.cell (p := ⟨w.heap.size + 1 + 1, 0, none⟩) (by simp)).trans (World.cell?_alloc_at _ _ _ _ (by simp))
  have g0 : (w1.drewN k).frozen? ⟨w.heap.size + 1 + 1, 0, none⟩ = false := (hbt.frozen (p := ⟨w.heap.size + 1 + 1, 0, none⟩) (by simp)).trans (World.frozen?_alloc_at _ _ _ _ (by simp))
  have d1 : (w1.drewN k).cell? ⟨w.heap.size + 1 + 1, 1, none⟩ = some (.slice none 0 0) := (hbt.cell (p := ⟨w.heap.size + 1 + 1, 1, none⟩) (by simp)).trans (World.cell?_alloc_at _ _ _ _ (by simp))
  have g1 : (w1.drewN k).frozen? ⟨w.heap.size + 1 + 1, 1, none⟩ = false := (hbt.frozen (p := ⟨w.heap.size + 1 + 1, 1, none⟩) (by simp)).trans (World.frozen?_alloc_at _ _ _ _ (by simp))
  have HBE := Lib.hid (((HB.out _ _ _).trans (hbt.mono (HB.out _ _ _).size)))
  clear hbt
  obtain ⟨z3, z4⟩ := read_two d0 d1 (.slice none 0 0) (.slice none 0 0)
  have Z3 := Lib.hid z3; have Z4 := Lib.hid z4
  clear z3 z4
  go_wp2
  have z3 := Z3.out; have z4 := Z4.out
  refine bodyPost_ret (v := .tuple #[.agg #[.slice none 0 0, .slice none 0 0], .int .i64 10]) (by simp [results, Tryz.results27, go_sem, z3, z4]) rfl ⟨rfl, (HBE.out.setCell (by show w.heap.size ≤ w.heap.size + 1 + 1; omega) _).setCell (by show w.heap.size ≤ w.heap.size + 1 + 1; omega) _⟩
set_option maxHeartbeats 2000000 in
theorem FSub_any (v u x y : Value) (a b c d : Nat) (w : World) (hv : D w v a) (hu : D w u b) (hx : D w x c) (hy : D w y d) (ha : nd 4294967296 a ≤ 100000) (hb : nd 4294967296 b ≤ 100000) (hc : nd 4294967296 c ≤ 100000) (hd : nd 4294967296 d ≤ 100000) (hle : c * dn b ≤ a * dn d) :
    Calls Tryz.prog 27 #[.agg #[v, u], .agg #[x, y]] w fun e w' => FRes (a * dn d - c * dn b) (dn b * dn d) w' e w.heap.size w := by
  have b3 : ∀ o1 o2 o3, Below w.heap.size w (((w.alloc o1).alloc o2).alloc o3) := fun o1 o2 o3 => (((Below.refl _ _).alloc (Nat.le_refl _) _).alloc (by simp) _).alloc (by simp; omega) _
  have HCR := Lib.hid (fun o1 o2 o3 => crossed_any v u x y a b c d (((w.alloc o1).alloc o2).alloc o3) (hv.below (b3 o1 o2 o3)) (hu.below (b3 o1 o2 o3)) (hx.below (b3 o1 o2 o3)) (hy.below (b3 o1 o2 o3)) ha hb hc hd)
  have h1 := nd_mul ha (dn_nd hd (by decide))
  have h2 := nd_mul hc (dn_nd hb (by decide))
  have h4 := nd_dmul hb hd
  have h5 : 0 < dn b * dn d := Nat.mul_pos (dn_pos b) (dn_pos d)
  have HCM := Lib.hid (fun v u W (h : D W v (a * dn d)) (h' : D W u (c * dn b)) => compare_any v u _ _ W h h' (by omega) (by omega))
  have hcm : 0 ≤ cmpN ((a * dn d : Nat) : Int) ((c * dn b : Nat) : Int) := by
    rcases Nat.lt_or_eq_of_le hle with h | h
    · rw [cmpN_gt (by omega)]; decide
    · rw [cmpN_eq (by omega)]; decide
  have h3 : nd 4294967296 (a * dn d - c * dn b) ≤ 200000 := Nat.le_trans (nd_mono (by decide) (Nat.sub_le _ _)) h1
  have HDI := Lib.hid (fun v u W (h : D W v (a * dn d)) (h' : D W u (c * dn b)) => difference_any v u _ _ W h h' (by omega) (by omega) hle)
  have HFF := Lib.hid (fun v u W (h : D W v (a * dn d - c * dn b)) (h' : D W u (dn b * dn d)) => fittingFrac_any v u _ _ W h h' h5 (by omega) (by omega))
  have HB := Lib.hid b3
  obtain ⟨ao, ac, rfl, -⟩ := hv.shape
  obtain ⟨bo, bc, rfl, -⟩ := hu.shape
  obtain ⟨co, cc, rfl, -⟩ := hx.shape
  obtain ⟨eo, ec, rfl, -⟩ := hy.shape
  clear hv hu hx hy b3 h1 h2 h3 h4 h5 hle
  unfold FRes
  generalize a * dn d = L1 at *
  generalize c * dn b = L2 at *
  generalize L1 - L2 = L at *
  generalize dn b * dn d = M at *
  generalize ffE (lowP L M) (lowQ L M) = E at *
  generalize ffN (lowP L M) (lowQ L M) (lowP L M) = X at *
  generalize ffN (lowP L M) (lowQ L M) (lowQ L M) = Y at *
  generalize cmpN ((L1 : Nat) : Int) ((L2 : Nat) : Int) = cm at *
  go_enter Tryz.func27, Tryz.ntmps27
  go_wp2_with fail
  refine (HCR.out _ _ _).mono ?_
  rintro e w1 ⟨r1, r2, r3, rfl, hr1, hr2, hr3, hb1⟩
  have HB1 := Lib.hid hb1; have HR3 := Lib.hid hr3
  have HC1 := Lib.hid (HCM.out _ _ _ hr1 hr2)
  have HD1 := Lib.hid (fun k => HDI.out _ _ (w1.drewN k) (hr1.below (below_drewN (Below.refl _ _) k)) (hr2.below (below_drewN (Below.refl _ _) k)))
  clear hb1 hr1 hr2 hr3
  go_wp2_with fail
  refine HC1.out.mono ?_
  rintro e w2 ⟨rfl, k, rfl⟩
  go_wp2_with fail
  refine (HD1.out k).mono ?_
  rintro e w2 ⟨s1, rfl, hs1, hb2⟩
  have HB2 := Lib.hid ((below_drewN HB1.out k).trans (hb2.mono (below_drewN HB1.out k).size))
  have HF1 := Lib.hid (HFF.out _ _ _ hs1 ((HR3.out.below (below_drewN (Below.refl _ _) k)).below hb2))
  clear hs1 hb2
  go_wp2_with fail
  refine HF1.out.mono ?_
  rintro e w3 ⟨r, s, rfl, hr, hs, hb3⟩
  have hbt := HB2.out.trans (hb3.mono HB2.out.size)
  clear hb3
  obtain ⟨ro, rc, rfl, -⟩ := hr.shape
  obtain ⟨so, sc, rfl, -⟩ := hs.shape
  have d0 : w3.cell? ⟨w.heap.size + 1 + 1, 0, none⟩ = some (.slice none 0 0) := (hbt.cell (p := ⟨w.heap.size + 1 + 1, 0, none⟩) (by simp)).trans (World.cell?_alloc_at _ _ _ _ (by simp))
  have g0 : w3.frozen? ⟨w.heap.size + 1 + 1, 0, none⟩ = false := (hbt.frozen (p := ⟨w.heap.size + 1 + 1, 0, none⟩) (by simp)).trans (World.frozen?_alloc_at _ _ _ _ (by simp))
  have d1 : w3.cell? ⟨w.heap.size + 1 + 1, 1, none⟩ = some (.slice none 0 0) := (hbt.cell (p := ⟨w.heap.size + 1 + 1, 1, none⟩) (by simp)).trans (World.cell?_alloc_at _ _ _ _ (by simp))
  have g1 : w3.frozen? ⟨w.heap.size + 1 + 1, 1, none⟩ = false := (hbt.frozen (p := ⟨w.heap.size + 1 + 1, 1, none⟩) (by simp)).trans (World.frozen?_alloc_at _ _ _ _ (by simp))
  have HTS := Lib.hid (two_store (B := w.heap.size + 1 + 1) hr hs d0 d1 ((HB.out _ _ _).trans (hbt.mono (HB.out _ _ _).size)) (by omega))
  clear hr hs hbt
  go_wp2
  obtain ⟨z1, z2, z3, z4, z5⟩ := HTS.out
  refine bodyPost_ret (v := .tuple #[.agg #[.slice ro (nd 4294967296 (X)) rc, .slice so (nd 4294967296 (Y)) sc], .int .i64 (E)]) (by simp [results, Tryz.results27, go_sem, z3, z4]) rfl ⟨_, _, rfl, z1, z2, z5⟩
set_option maxHeartbeats 2000000 in
theorem FDiv_zero (v u x y : Value) (a b d : Nat) (w : World) (hv : D w v a) (hu : D w u b) (hx : D w x 0) (hy : D w y d) :
    Calls Tryz.prog 24 #[.agg #[v, u], .agg #[x, y]] w fun e w' => e = .returned (.tuple #[.agg #[.slice none 0 0, .slice none 0 0], .int .i64 11]) ∧ Below w.heap.size w w' := by
  have b3 : ∀ o1 o2 o3, Below w.heap.size w (((w.alloc o1).alloc o2).alloc o3) := fun o1 o2 o3 => (((Below.refl _ _).alloc (Nat.le_refl _) _).alloc (by simp) _).alloc (by simp; omega) _
  have HZ := Lib.hid (fun o1 o2 o3 => isZero_any x 0 (((w.alloc o1).alloc o2).alloc o3) (hx.below (b3 o1 o2 o3)))
  rw [show decide ((0 : Nat) = 0) = true from rfl] at HZ
  have HB := Lib.hid b3
  obtain ⟨ao, ac, rfl, -⟩ := hv.shape
  obtain ⟨bo, bc, rfl, -⟩ := hu.shape
  obtain ⟨co, cc, rfl, -⟩ := hx.shape
  obtain ⟨eo, ec, rfl, -⟩ := hy.shape
  clear hv hu hx hy b3
  go_enter Tryz.func24, Tryz.ntmps24
  go_wp2_with fail
  refine (HZ.out _ _ _).mono ?_
  rintro e w1 ⟨rfl, rfl⟩
  go_wp2
  refine bodyPost_ret (v := .tuple #[.agg #[.slice none 0 0, .slice none 0 0], .int .i64 11]) (by simp [results, Tryz.results24, go_sem]) rfl ⟨rfl, HB.out _ _ _⟩
set_option maxHeartbeats 2000000 in
theorem FDiv_any (v u x y : Value) (a b c d : Nat) (w : World) (hv : D w v a) (hu : D w u b) (hx : D w x c) (hy : D w y d) (ha : nd 4294967296 a ≤ 100000) (hb : nd 4294967296 b ≤ 100000) (hc : nd 4294967296 c ≤ 100000) (hd : nd 4294967296 d ≤ 100000) (hc0 : 0 < c) :
    Calls Tryz.prog 24 #[.agg #[v, u], .agg #[x, y]] w fun e w' => FRes (a * dn d) (c * dn b) w' e w.heap.size w := by
  have b3 : ∀ o1 o2 o3, Below w.heap.size w (((w.alloc o1).alloc o2).alloc o3) := fun o1 o2 o3 => (((Below.refl _ _).alloc (Nat.le_refl _) _).alloc (by simp) _).alloc (by simp; omega) _
  have HCR := Lib.hid (fun o1 o2 o3 => crossed_any v u x y a b c d (((w.alloc o1).alloc o2).alloc o3) (hv.below (b3 o1 o2 o3)) (hu.below (b3 o1 o2 o3)) (hx.below (b3 o1 o2 o3)) (hy.below (b3 o1 o2 o3)) ha hb hc hd)
  have HZ := Lib.hid (fun o1 o2 o3 => isZero_any x c (((w.alloc o1).alloc o2).alloc o3) (hx.below (b3 o1 o2 o3)))
  rw [show decide (c = 0) = false from decide_eq_false (by omega)] at HZ
  have h1 := nd_mul ha (dn_nd hd (by decide))
  have h2 := nd_mul hc (dn_nd hb (by decide))
  have h5 : 0 < c * dn b := Nat.mul_pos hc0 (dn_pos b)
  have HFF := Lib.hid (fun v u W (h : D W v (a * dn d)) (h' : D W u (c * dn b)) => fittingFrac_any v u _ _ W h h' h5 (by omega) (by omega))
  have HB := Lib.hid b3
  obtain ⟨ao, ac, rfl, -⟩ := hv.shape
  obtain ⟨bo, bc, rfl, -⟩ := hu.shape
  obtain ⟨co, cc, rfl, -⟩ := hx.shape
  obtain ⟨eo, ec, rfl, -⟩ := hy.shape
  clear hv hu hx hy b3 h1 h2 h5
  unfold FRes
  generalize a * dn d = L at *
  generalize c * dn b = M at *
  generalize ffE (lowP L M) (lowQ L M) = E at *
  generalize ffN (lowP L M) (lowQ L M) (lowP L M) = X at *
  generalize ffN (lowP L M) (lowQ L M) (lowQ L M) = Y at *
  go_enter Tryz.func24, Tryz.ntmps24
  go_wp2_with fail
  refine (HZ.out _ _ _).mono ?_
  rintro e w0 ⟨rfl, rfl⟩
  go_wp2_with fail
  refine (HCR.out _ _ _).mono ?_
  rintro e w1 ⟨r1, r2, r3, rfl, hr1, hr2, hr3, hb1⟩
  have HB1 := Lib.hid hb1
  have HF1 := Lib.hid (HFF.out _ _ _ hr1 hr2)
  clear hb1 hr1 hr2 hr3
  go_wp2_with fail
  refine HF1.out.mono ?_
  rintro e w3 ⟨r, s, rfl, hr, hs, hb3⟩
  have hbt := HB1.out.trans (hb3.mono HB1.out.size)
  clear hb3
  obtain ⟨ro, rc, rfl, -⟩ := hr.shape
  obtain ⟨so, sc, rfl, -⟩ := hs.shape
  have d0 : w3.cell? ⟨w.heap.size + 1 + 1, 0, none⟩ = some (.slice none 0 0) := (hbt.cell (p := ⟨w.heap.size + 1 + 1, 0, none⟩) (by simp)).trans (World.cell?_alloc_at _ _ _ _ (by simp))
  have g0 : w3.frozen? ⟨w.heap.size + 1 + 1, 0, none⟩ = false := (hbt.frozen (p := ⟨w.heap.size + 1 + 1, 0, none⟩) (by simp)).trans (World.frozen?_alloc_at _ _ _ _ (by simp))
  have d1 : w3.cell? ⟨w.heap.size + 1 + 1, 1, none⟩ = some (.slice none 0 0) := (hbt.cell (p := ⟨w.heap.size + 1 + 1, 1, none⟩) (by simp)).trans (World.cell?_alloc_at _ _ _ _ (by simp))
  have g1 : w3.frozen? ⟨w.heap.size + 1 + 1, 1, none⟩ = false := (hbt.frozen (p := ⟨w.heap.size + 1 + 1, 1, none⟩) (by simp)).trans (World.frozen?_alloc_at _ _ _ _ (by simp))
  have HTS := Lib.hid (two_store (B := w.heap.size + 1 + 1) hr hs d0 d1 ((HB.out _ _ _).trans (hbt.mono (HB.out _ _ _).size)) (by omega))
  clear hr hs hbt
  go_wp2
  obtain ⟨z1, z2, z3, z4, z5⟩ := HTS.out
  refine bodyPost_ret (v := .tuple #[.agg #[.slice ro (nd 4294967296 (X)) rc, .slice so (nd 4294967296 (Y)) sc], .int .i64 (E)]) (by simp [results, Tryz.results24, go_sem, z3, z4]) rfl ⟨_, _, rfl, z1, z2, z5⟩
end Go.Proofs.YteajinpfigejfaaGreatDoor
namespace Go.Proofs.YteajinpfigejfaaGreatDoor
open Go Go.RowKit Gu

theorem nd_rmul {a b m k : Nat} (ha : nd 65536 a ≤ m) (hb : nd 65536 b ≤ k) : nd 65536 (a * b) ≤ m + k := by
  have h1 := (nd_le (by decide : 2 ≤ 65536)).1 ha
  have h2 := (nd_le (by decide : 2 ≤ 65536)).1 hb
  apply (nd_le (by decide : 2 ≤ 65536)).2
  rw [Nat.pow_add]
  exact Nat.mul_lt_mul_of_lt_of_le h1 (Nat.le_of_lt h2) (Nat.pow_pos (by decide))
end Go.Proofs.YteajinpfigejfaaGreatDoor
