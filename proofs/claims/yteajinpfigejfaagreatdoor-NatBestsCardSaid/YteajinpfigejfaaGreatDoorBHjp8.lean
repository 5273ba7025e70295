/- Contracts and lemmas (several texts merged into one). -/
import Derived.Test.YteajinpfigejfaaGreatDoorBHjp7
import Derived.Test.YteajinpfigejfaaGreatDoorBHjp5
import Derived.Test.YteajinpfigejfaaGreatDoorBHjp6
namespace Go.Proofs.YteajinpfigejfaaGreatDoor
open Go Go.RowKit Gu

theorem bit_room {t j s : Nat} (hs : s < 16) : dg 65536 (2 ^ (16 * j + s + 1) * t) j + 2 ^ s < 65536 := by
  have e1 : (2 : Nat) ^ (16 * j + s + 1) * t = 65536 ^ j * (2 ^ (s + 1) * t) := by
    rw [Nat.add_assoc, Nat.pow_add, Nat.pow_mul, Nat.mul_assoc]
  have e2 : dg 65536 (2 ^ (16 * j + s + 1) * t) j = 2 ^ (s + 1) * (t % 2 ^ (15 - s)) := by
    unfold dg
    rw [e1, Nat.mul_div_cancel_left _ (Nat.pow_pos (by decide)), show (65536 : Nat) = 2 ^ (s + 1) * 2 ^ (15 - s) from by rw [← Nat.pow_add, show s + 1 + (15 - s) = 16 from by omega], Nat.mul_mod_mul_left]
  rw [e2]
  have h1 : t % 2 ^ (15 - s) < 2 ^ (15 - s) := Nat.mod_lt _ (Nat.pow_pos (by decide))
  have h2 : 2 ^ (s + 1) * (t % 2 ^ (15 - s)) + 2 ^ (s + 1) ≤ 2 ^ (s + 1) * 2 ^ (15 - s) := by rw [← Nat.mul_succ]; exact Nat.mul_le_mul_left _ h1
  rw [← Nat.pow_add, show s + 1 + (15 - s) = 16 from by omega] at h2
  have h3 : 2 ^ (s + 1) = 2 * 2 ^ s := by rw [Nat.pow_succ, Nat.mul_comm]
  have h4 : 0 < 2 ^ s := Nat.pow_pos (by decide)
  omega
theorem nd_twice {z b : Nat} (h : z < 2 * b) : nd 65536 z ≤ nd 65536 b + 1 := by
  have h1 := nd_lt (by decide : 2 ≤ 65536) b
  apply (nd_le (by decide)).2
  rw [Nat.pow_succ]
  omega
/-- one bit of a long division -/
theorem bit_div {a b k : Nat} (hb : 0 < b) :
    (b ≤ (a / 2 ^ (k + 1)) % b * 2 + dg 2 a k → (a / 2 ^ k) % b = (a / 2 ^ (k + 1)) % b * 2 + dg 2 a k - b ∧ 2 ^ k * ((a / 2 ^ k) / b) = 2 ^ (k + 1) * ((a / 2 ^ (k + 1)) / b) + 2 ^ k) ∧
    ((a / 2 ^ (k + 1)) % b * 2 + dg 2 a k < b → (a / 2 ^ k) % b = (a / 2 ^ (k + 1)) % b * 2 + dg 2 a k ∧ 2 ^ k * ((a / 2 ^ k) / b) = 2 ^ (k + 1) * ((a / 2 ^ (k + 1)) / b)) := by
  have e1 := div_succ 2 a k
  have hd := dg_lt (B := 2) (by decide) a k
  have e2 := Nat.div_add_mod (a / 2 ^ (k + 1)) b
  have hm := Nat.mod_lt (a / 2 ^ (k + 1)) hb
  have ep : 2 ^ (k + 1) * ((a / 2 ^ (k + 1)) / b) = 2 ^ k * (2 * ((a / 2 ^ (k + 1)) / b)) := by rw [Nat.pow_succ, Nat.mul_assoc]
  rw [ep]
  generalize a / 2 ^ (k + 1) = y at *
  generalize dg 2 a k = c at *
  have e3 : a / 2 ^ k = (y % b * 2 + c) + b * (2 * (y / b)) := by
    have : b * (2 * (y / b)) = 2 * (b * (y / b)) := Nat.mul_left_comm _ _ _
    omega
  refine ⟨fun h => ?_, fun h => ?_⟩
  · have e4 : a / 2 ^ k = (y % b * 2 + c - b) + b * (2 * (y / b) + 1) := by rw [e3, Nat.mul_add]; omega
    rw [e4, Nat.add_mul_mod_self_left, Nat.add_mul_div_left _ _ hb, Nat.mod_eq_of_lt (by omega), Nat.div_eq_of_lt (by omega), Nat.zero_add, Nat.mul_add, Nat.mul_one]
    exact ⟨rfl, rfl⟩
  · rw [e3, Nat.add_mul_mod_self_left, Nat.add_mul_div_left _ _ hb, Nat.mod_eq_of_lt h, Nat.div_eq_of_lt h, Nat.zero_add]
    exact ⟨rfl, rfl⟩
/-- what the loop of DivMod keeps -/
def DMRel (a b la : Nat) (w : World) (k : Nat) (rv : Value) (wr : World) : Prop :=
  R wr rv ((a / 2 ^ k) % b) ∧ Buf .i64 65536 3 wr w.heap.size la (2 ^ k * ((a / 2 ^ k) / b)) ∧ Below w.heap.size w wr ∧ FR (w.heap.size + 1) rv ((a / 2 ^ k) % b)
set_option maxHeartbeats 4000000 in
set_option maxRecDepth 100000 in
theorem RDivMod_any (v u : Value) (a b : Nat) (w : World) (hv : R w v a) (hu : R w u b) (hb0 : 0 < b) (ha : nd 65536 a ≤ 400000) (hb : nd 65536 b ≤ 400000) :
    Calls Tryz.prog 41 #[v, u] w fun e w' => ∃ q r, e = .returned (.tuple #[q, r]) ∧ R w' q (a / b) ∧ R w' r (a % b) ∧ Below w.heap.size w w' := by
  have hB : 2 ≤ 65536 := by decide
  have HV := Lib.hid hv
  have HU := Lib.hid hu
  obtain ⟨ao, ac, rfl, -⟩ := hv.shape
  obtain ⟨bo, bc, rfl, -⟩ := hu.shape
  clear hv hu
  have HAl := Lib.hid (nd_lt hB a)
  have h2l : nd 2 a ≤ 16 * nd 65536 a := fit_len (Nat.le_refl _)
  have HA2 := Lib.hid (nd_lt (by decide : 2 ≤ 2) a)
  obtain ⟨la, hla⟩ : ∃ la, la = nd 65536 a := ⟨_, rfl⟩
  obtain ⟨l2, hl2⟩ : ∃ l2, l2 = nd 2 a := ⟨_, rfl⟩
  rw [← hla] at HV HAl h2l ha ⊢
  rw [← hl2] at h2l HA2
  have HLA := Lib.hid hla
  have HL2 := Lib.hid hl2
  have HBL : Hid (∀ W, R W (.slice ao la ac) a → Calls Tryz.prog 77 #[.slice ao la ac] W fun e w' => e = .returned (.int .i64 l2) ∧ W = w') := fun W h => by rw [HL2.out]; exact RBitLen_any _ a W h (by rw [← HLA.out]; omega)
  clear hla hl2
  have hmk := made_int la (by omega)
  go_enter Tryz.func41, Tryz.ntmps41
  go_wp2_with fail
  have hw1 : Below w.heap.size w (w.alloc (.cells (madeCells #[.int .i64 0] la) 3)) := (Below.refl _ _).alloc (Nat.le_refl _) _
  refine (HBL.out _ (HV.out.below hw1)).mono ?_
  rintro e w' ⟨rfl, rfl⟩
  have HST : Hid (DMRel a b la w l2 (.slice none 0 0) (w.alloc (.cells (madeCells #[.int .i64 0] la) 3))) := by
    have h1 : a / 2 ^ l2 = 0 := Nat.div_eq_of_lt HA2.out
    refine ⟨by rw [h1, Nat.zero_mod]; exact IsN.zero _ _ _ _ _, by rw [h1, Nat.zero_div, Nat.mul_zero]; exact Buf.made _ _ _ _ _, hw1, fun _ _ _ _ he => by cases he⟩
  clear hw1
  have HL1 := Lib.hid h2l
  go_wp2
  go_loopg [7, 8] l2 (fun m rv x wr => x = .int .i64 ((m : Int) - 1) ∧ Hid (m ≤ l2) ∧ DMRel a b la w m rv wr)
  case atStart => exact ⟨rfl, Nat.le_refl _, HST.out⟩
  case round =>
    obtain ⟨rfl, HML, hrel⟩ := hrel
    have HR := Lib.hid hrel
    obtain ⟨r0, rc, rfl, -⟩ := hrel.1.shape
    clear hrel
    cases gk with
    | zero =>
      rw [show ((0 : Nat) : Int) - 1 = -1 from rfl]
      have hq := HR.out.2.1
      have hr := HR.out.1
      rw [Nat.pow_zero, Nat.div_one, Nat.one_mul] at hq
      rw [Nat.pow_zero, Nat.div_one] at hr
      have hql : a / b < 65536 ^ la := Nat.lt_of_le_of_lt (Nat.div_le_self _ _) HAl.out
      have HT := Lib.hid (Trim_buf w.heap.size la la (a / b) wr hq hql (by omega) (Nat.le_refl _))
      have HQ := Lib.hid (Gu.Buf.isN hq hB hql la)
      have HRR := Lib.hid hr
      have HBE := Lib.hid HR.out.2.2.1
      clear hq hr hql HR
      obtain ⟨x, hx⟩ : ∃ x, x = a / 2 ^ 0 % b := ⟨_, rfl⟩
      rw [← hx]
      have HX := Lib.hid hx
      clear hx
      go_wp2_with fail
      refine HT.out.mono ?_
      rintro e w' ⟨rfl, rfl⟩
      go_wp2
      go_ret2
      exact ⟨_, _, rfl, HQ.out, by rw [HX.out, Nat.pow_zero, Nat.div_one]; exact HRR.out, HBE.out⟩
    | succ k =>
      rw [show ((k + 1 : Nat) : Int) - 1 = k from by omega]
      have hkl : k < 16 * la := by have := HML.out; have := HL1.out; omega
      have hbd := bit_div (a := a) (k := k) hb0
      have hmb := Nat.mod_lt (a / 2 ^ (k + 1)) hb0
      have hc2 := dg_lt (B := 2) (by decide) a k
      have hroom := bit_room (t := (a / 2 ^ (k + 1)) / b) (j := k / 16) (s := k % 16) (by omega)
      rw [show 16 * (k / 16) + k % 16 + 1 = k + 1 from by omega] at hroom
      have HSH := Lib.hid (fun W v (h : R W v (a / 2 ^ (k + 1) % b)) => RShl_f v _ 1 W h (by have := nd_mono (B := 65536) (by decide) (Nat.le_of_lt hmb); omega) (by omega))
      rw [Nat.pow_one] at HSH
      have HBI := Lib.hid (fun W (h : R W (.slice ao la ac) a) => RBit_any _ a (k : Int) W h (by omega) (by rw [← HLA.out]; omega))
      rw [show bitN a (k : Int) = dg 2 a k from by unfold bitN; rw [if_neg (by omega), Int.toNat_natCast]] at HBI
      obtain ⟨x, hx⟩ : ∃ x, x = a / 2 ^ (k + 1) % b := ⟨_, rfl⟩
      obtain ⟨Q, hQ⟩ : ∃ Q, Q = 2 ^ (k + 1) * (a / 2 ^ (k + 1) / b) := ⟨_, rfl⟩
      have hrel := HR.out
      unfold DMRel at hrel
      rw [← hx, ← hQ] at hrel
      rw [← hx] at HSH hbd hmb ⊢
      rw [← hQ] at hbd hroom
      obtain ⟨c, hc⟩ : ∃ c, c = dg 2 a k := ⟨_, rfl⟩
      rw [← hc] at hbd hc2 HBI
      have HBD := Lib.hid hbd
      have HRE := Lib.hid hrel
      have HRO := Lib.hid hroom
      clear hbd hrel hroom hx hQ hc HR HST
      go_wp2_with fail
      refine (HSH.out _ _ HRE.out.1).mono ?_
      rintro e w2 ⟨sv, rfl, hs, hb2, hf2⟩
      obtain ⟨s0, sc, rfl, -⟩ := hs.shape
      have HS2 := Lib.hid hs
      have HB2 := Lib.hid hb2
      have HF2 := Lib.hid (hf2.mono (show w.heap.size + 1 ≤ wr.heap.size from Gu.Buf.lt HRE.out.2.1))
      have HVA := Lib.hid ((HV.out.below HRE.out.2.2.1).below hb2)
      clear hs hb2 hf2
      go_wp2_with fail
      refine (HBI.out _ HVA.out).mono ?_
      rintro e w3 ⟨rfl, hb3⟩
      have HS3 := Lib.hid (HS2.out.below hb3)
      have HB3 := Lib.hid (HB2.out.trans (hb3.mono HB2.out.size))
      clear hb3 HS2 HB2 HVA
      have hx16 := nd_twice (show x * 2 < 2 * b by omega)
      rcases (show c = 0 ∨ c = 1 by omega) with rfl | rfl
      · obtain ⟨z, hz⟩ : ∃ z, z = x * 2 := ⟨_, rfl⟩
        obtain ⟨wz, rfl⟩ : ∃ wz, wz = w3 := ⟨_, rfl⟩
        rw [← hz] at HS3 ⊢
        rw [Nat.add_zero, ← hz] at HBD
        have HZ := HS3
        have HBZ := HB3
        have HFZ : Hid (FR (w.heap.size + 1) (.slice s0 (nd 65536 z) sc) z) := by rw [hz]; rw [hz] at HS3; exact HF2.out
        have HZE := Lib.hid hz
        have hzx : z < 2 * b := by omega
        clear hz
        have hzb : z < 2 * b := by omega
        have hz16 := nd_twice hzb
        have HUC := Lib.hid (HU.out.below (HRE.out.2.2.1.trans (HBZ.out.mono HRE.out.2.2.1.size)))
        have HCM := Lib.hid (RCmp_any _ _ z b wz HZ.out HUC.out (by omega) (by omega))
        by_cases hge : b ≤ z
        · have hcm : 0 ≤ cmpN z b := by unfold cmpN; rw [if_neg (by omega)]; split <;> omega
          have hds := HBD.out.1 hge
          have HDS := Lib.hid hds
          have HSU := Lib.hid (fun q => RSub_f _ _ z b (wz.drewN q) (IsN.drewN HZ.out q) (IsN.drewN HUC.out q) (by omega) (by omega) hge)
          have HQB := Lib.hid (Gu.Buf.below HRE.out.2.1 HBZ.out (Gu.Buf.lt HRE.out.2.1))
          have HBW := Lib.hid (HRE.out.2.2.1.trans (HBZ.out.mono HRE.out.2.2.1.size))
          clear hds hge hzb
          generalize cmpN z b = cm at *
          go_wp2_with fail
          refine HCM.out.mono ?_
          rintro e w' ⟨rfl, q, rfl⟩
          go_wp2_with fail
          refine (HSU.out q).mono ?_
          rintro e w6 ⟨nv, rfl, hn, hb6, hf6⟩
          obtain ⟨n0, nc, rfl, -⟩ := hn.shape
          have hq6 := Gu.Buf.below (Gu.Buf.below HQB.out (below_drewN (Below.refl _ _) q) (Gu.Buf.lt HQB.out)) hb6 (Gu.Buf.lt HQB.out)
          have HBF := Lib.hid ((HBW.out.trans ((below_drewN (Below.refl _ _) q).mono HBW.out.size)).trans (hb6.mono HBW.out.size))
          have hjl : k / 16 < la := by omega
          have hcell := Gu.Buf.cell hq6 (i := k / 16) hjl
          have hfr := Gu.Buf.frozen hq6 (k / 16)
          have HQ6 := Lib.hid hq6
          have HF6 := Lib.hid (hf6.mono (show w.heap.size + 1 ≤ (wz.drewN q).heap.size from Gu.Buf.lt HQB.out))
          have HN := Lib.hid hn
          have HAT : Hid (∀ W, Buf .i64 65536 3 W w.heap.size la Q → Buf .i64 65536 3 (W.setCell ⟨w.heap.size, k / 16, none⟩ (.int .i64 (dg 65536 Q (k / 16) + 2 ^ (k % 16) : Nat))) w.heap.size la (Q + 2 ^ k)) := by
            intro W hW
            have h1 := Buf.at hW (by decide) (k / 16) HRO.out
            have h2 := at_val (B := 65536) (V := Q) (j := k / 16) (d := dg 65536 Q (k / 16) + 2 ^ (k % 16))
            have h4 : 65536 ^ (k / 16) * (dg 65536 Q (k / 16) + 2 ^ (k % 16)) = 65536 ^ (k / 16) * dg 65536 Q (k / 16) + 65536 ^ (k / 16) * 2 ^ (k % 16) := Nat.mul_add _ _ _
            have h3 : 65536 ^ (k / 16) * 2 ^ (k % 16) = 2 ^ k := by
              rw [show (65536 : Nat) = 2 ^ 16 from by decide, ← Nat.pow_mul, ← Nat.pow_add]
              congr 1; omega
            rw [h3] at h4
            rw [show Q + 2 ^ k = Q % 65536 ^ (k / 16) + 65536 ^ (k / 16) * (dg 65536 Q (k / 16) + 2 ^ (k % 16) + 65536 * (Q / 65536 ^ (k / 16 + 1))) from by omega]
            exact h1
          have hpw : 2 ^ (k % 16) ≤ 65536 := Nat.le_trans (Nat.pow_le_pow_right (by decide) (show k % 16 ≤ 16 by omega)) (by decide)
          have HP := Lib.hid (fun w => power_any (k % 16) w (by omega))
          have hdq := dg_lt (B := 65536) (by decide) Q (k / 16)
          obtain ⟨j, hj⟩ : ∃ j, j = k / 16 := ⟨_, rfl⟩
          obtain ⟨s, hs⟩ : ∃ s, s = k % 16 := ⟨_, rfl⟩
          have q1 : (k : Int) / 16 = j := by omega
          have q2 : (k : Int) % 16 = s := by omega
          have ht1 : (k : Int).tdiv 16 = j := by rw [Int.tdiv_eq_ediv_of_nonneg (by omega)]; omega
          have ht2 : (k : Int).tmod 16 = s := by rw [Int.tmod_eq_emod_of_nonneg (by omega)]; omega
          have ht3 : IntKind.i64.wrap ((k : Int) / 16) = j := by rw [q1]; exact IntWalk.i64_in _ (by omega)
          have ht4 : IntKind.i64.wrap ((k : Int).tdiv 16) = j := by rw [ht1]; exact IntWalk.i64_in _ (by omega)
          have ht5 : IntKind.i64.wrap (j : Int) = j := IntWalk.i64_in _ (by omega)
          rw [← hj] at hcell hfr HAT hdq hjl
          rw [← hs] at HAT hpw HP
          clear hj hs hq6 hn hb6 hf6 HRO
          generalize dg 65536 Q j = dq at *
          obtain ⟨pw, hpe⟩ : ∃ pw, pw = 2 ^ s := ⟨_, rfl⟩
          rw [← hpe] at HAT hpw HP
          clear hpe
          have hjl2 : (j : Int) < la := by omega
          have hj0 : (0 : Int) ≤ j := by omega
          go_wp2_with fail
          have hwq : ((dq : Int) + pw) = ((dq + pw : Nat) : Int) := by omega
          have HNEW : Hid (DMRel a b la w k (.slice n0 (nd 65536 (z - b)) nc) (w6.setCell ⟨w.heap.size, j, none⟩ (.int .i64 ((dq : Int) + pw))).drew) := by
            rw [hwq]
            refine ⟨?_, ?_, ?_, ?_⟩
            · rw [HDS.out.1]
              exact (FR.setCell HN.out HF6.out (Nat.lt_succ_self _)).below (Below.refl _ _).drew
            · rw [HDS.out.2]
              exact HAT.out w6 HQ6.out
            · exact (HBF.out.setCell (Nat.le_refl _) _).drew
            · rw [HDS.out.1]; exact HF6.out
          clear hwq
          go_region_with (go_at_call 80; refine (HP.out _).mono ?_; rintro e w' ⟨rfl, rfl⟩)
          all_goals go_wp2
          all_goals go_roundg k
          all_goals first | exact Nat.lt_succ_self _ | exact ⟨by go_num, Nat.le_of_succ_le HML.out, HNEW.out⟩
        · have hcm : cmpN z b = -1 := cmpN_lt (by omega)
          have hds := HBD.out.2 (by omega)
          have HNEW : Hid (∀ q, DMRel a b la w k (.slice s0 (nd 65536 z) sc) (wz.drewN q)) := fun q => by
            refine ⟨?_, ?_, ?_, ?_⟩
            · rw [hds.1]; exact IsN.drewN HZ.out q
            · rw [hds.2]; exact Gu.Buf.below (Gu.Buf.below HRE.out.2.1 HBZ.out (Gu.Buf.lt HRE.out.2.1)) (below_drewN (Below.refl _ _) q) (Gu.Buf.lt (Gu.Buf.below HRE.out.2.1 HBZ.out (Gu.Buf.lt HRE.out.2.1)))
            · exact below_drewN (HRE.out.2.2.1.trans (HBZ.out.mono HRE.out.2.2.1.size)) q
            · rw [hds.1]; exact HFZ.out
          rw [hcm] at HCM
          clear hcm hds hge hzb
          go_wp2_with fail
          refine HCM.out.mono ?_
          rintro e w' ⟨rfl, q, rfl⟩
          have HN2 := HNEW.out q
          go_wp2
          go_roundg k
          case measure => exact Nat.lt_succ_self _
          case rel => exact ⟨by go_num, Nat.le_of_succ_le HML.out, HN2⟩
      · have HOF := Lib.hid (Of_any 1 w3 (by decide))
        have HAD := Lib.hid (fun W o (h1 : R W (.slice s0 (nd 65536 (x * 2)) sc) (x * 2)) (h2 : R W o 1) => RAdd_f _ o (x * 2) 1 W h1 h2 (by omega) (by have := (nd_le (B := 65536) (n := 1) (k := 1) (by decide)).2 (by decide); omega))
        go_wp2_with fail
        refine HOF.out.mono ?_
        rintro e w4 ⟨ov, rfl, ho, hb4⟩
        obtain ⟨o0, oc, rfl, -⟩ := ho.shape
        have HA4 := Lib.hid (HAD.out _ _ (HS3.out.below hb4) ho)
        have HB4 := Lib.hid (HB3.out.trans (hb4.mono HB3.out.size))
        clear ho hb4 HOF HAD
        go_wp2_with fail
        refine HA4.out.mono ?_
        rintro e w5 ⟨zv, rfl, hzv, hb5, hf5⟩
        obtain ⟨z0, zc, rfl, -⟩ := hzv.shape
        have HBZ := Lib.hid (HB4.out.trans (hb5.mono HB4.out.size))
        have hlt4 : w.heap.size + 1 ≤ w4.heap.size := Nat.le_trans (show w.heap.size + 1 ≤ wr.heap.size from Gu.Buf.lt HRE.out.2.1) HB4.out.size
        obtain ⟨z, hz⟩ : ∃ z, z = x * 2 + 1 := ⟨_, rfl⟩
        obtain ⟨wz, rfl⟩ : ∃ wz, wz = w5 := ⟨_, rfl⟩
        rw [← hz] at hzv hf5 ⊢
        rw [← hz] at HBD
        have HZ := Lib.hid hzv
        have HFZ : Hid (FR (w.heap.size + 1) (.slice z0 (nd 65536 z) zc) z) := hf5.mono hlt4
        have HZE := Lib.hid hz
        have hzx : z < 2 * b := by omega
        clear hz hzv hf5 hb5 HA4
        have hzb : z < 2 * b := by omega
        have hz16 := nd_twice hzb
        have HUC := Lib.hid (HU.out.below (HRE.out.2.2.1.trans (HBZ.out.mono HRE.out.2.2.1.size)))
        have HCM := Lib.hid (RCmp_any _ _ z b wz HZ.out HUC.out (by omega) (by omega))
        by_cases hge : b ≤ z
        · have hcm : 0 ≤ cmpN z b := by unfold cmpN; rw [if_neg (by omega)]; split <;> omega
          have hds := HBD.out.1 hge
          have HDS := Lib.hid hds
          have HSU := Lib.hid (fun q => RSub_f _ _ z b (wz.drewN q) (IsN.drewN HZ.out q) (IsN.drewN HUC.out q) (by omega) (by omega) hge)
          have HQB := Lib.hid (Gu.Buf.below HRE.out.2.1 HBZ.out (Gu.Buf.lt HRE.out.2.1))
          have HBW := Lib.hid (HRE.out.2.2.1.trans (HBZ.out.mono HRE.out.2.2.1.size))
          clear hds hge hzb
          generalize cmpN z b = cm at *
          go_wp2_with fail
          refine HCM.out.mono ?_
          rintro e w' ⟨rfl, q, rfl⟩
          go_wp2_with fail
          refine (HSU.out q).mono ?_
          rintro e w6 ⟨nv, rfl, hn, hb6, hf6⟩
          obtain ⟨n0, nc, rfl, -⟩ := hn.shape
          have hq6 := Gu.Buf.below (Gu.Buf.below HQB.out (below_drewN (Below.refl _ _) q) (Gu.Buf.lt HQB.out)) hb6 (Gu.Buf.lt HQB.out)
          have HBF := Lib.hid ((HBW.out.trans ((below_drewN (Below.refl _ _) q).mono HBW.out.size)).trans (hb6.mono HBW.out.size))
          have hjl : k / 16 < la := by omega
          have hcell := Gu.Buf.cell hq6 (i := k / 16) hjl
          have hfr := Gu.Buf.frozen hq6 (k / 16)
          have HQ6 := Lib.hid hq6
          have HF6 := Lib.hid (hf6.mono (show w.heap.size + 1 ≤ (wz.drewN q).heap.size from Gu.Buf.lt HQB.out))
          have HN := Lib.hid hn
          have HAT : Hid (∀ W, Buf .i64 65536 3 W w.heap.size la Q → Buf .i64 65536 3 (W.setCell ⟨w.heap.size, k / 16, none⟩ (.int .i64 (dg 65536 Q (k / 16) + 2 ^ (k % 16) : Nat))) w.heap.size la (Q + 2 ^ k)) := by
            intro W hW
            have h1 := Buf.at hW (by decide) (k / 16) HRO.out
            have h2 := at_val (B := 65536) (V := Q) (j := k / 16) (d := dg 65536 Q (k / 16) + 2 ^ (k % 16))
            have h4 : 65536 ^ (k / 16) * (dg 65536 Q (k / 16) + 2 ^ (k % 16)) = 65536 ^ (k / 16) * dg 65536 Q (k / 16) + 65536 ^ (k / 16) * 2 ^ (k % 16) := Nat.mul_add _ _ _
            have h3 : 65536 ^ (k / 16) * 2 ^ (k % 16) = 2 ^ k := by
              rw [show (65536 : Nat) = 2 ^ 16 from by decide, ← Nat.pow_mul, ← Nat.pow_add]
              congr 1; omega
            rw [h3] at h4
            rw [show Q + 2 ^ k = Q % 65536 ^ (k / 16) + 65536 ^ (k / 16) * (dg 65536 Q (k / 16) + 2 ^ (k % 16) + 65536 * (Q / 65536 ^ (k / 16 + 1))) from by omega]
            exact h1
          have hpw : 2 ^ (k % 16) ≤ 65536 := Nat.le_trans (Nat.pow_le_pow_right (by decide) (show k % 16 ≤ 16 by omega)) (by decide)
          have HP := Lib.hid (fun w => power_any (k % 16) w (by omega))
          have hdq := dg_lt (B := 65536) (by decide) Q (k / 16)
          obtain ⟨j, hj⟩ : ∃ j, j = k / 16 := ⟨_, rfl⟩
          obtain ⟨s, hs⟩ : ∃ s, s = k % 16 := ⟨_, rfl⟩
          have q1 : (k : Int) / 16 = j := by omega
          have q2 : (k : Int) % 16 = s := by omega
          have ht1 : (k : Int).tdiv 16 = j := by rw [Int.tdiv_eq_ediv_of_nonneg (by omega)]; omega
          have ht2 : (k : Int).tmod 16 = s := by rw [Int.tmod_eq_emod_of_nonneg (by omega)]; omega
          have ht3 : IntKind.i64.wrap ((k : Int) / 16) = j := by rw [q1]; exact IntWalk.i64_in _ (by omega)
          have ht4 : IntKind.i64.wrap ((k : Int).tdiv 16) = j := by rw [ht1]; exact IntWalk.i64_in _ (by omega)
          have ht5 : IntKind.i64.wrap (j : Int) = j := IntWalk.i64_in _ (by omega)
          rw [← hj] at hcell hfr HAT hdq hjl
          rw [← hs] at HAT hpw HP
          clear hj hs hq6 hn hb6 hf6 HRO
          generalize dg 65536 Q j = dq at *
          obtain ⟨pw, hpe⟩ : ∃ pw, pw = 2 ^ s := ⟨_, rfl⟩
          rw [← hpe] at HAT hpw HP
          clear hpe
          have hjl2 : (j : Int) < la := by omega
          have hj0 : (0 : Int) ≤ j := by omega
          go_wp2_with fail
          have hwq : ((dq : Int) + pw) = ((dq + pw : Nat) : Int) := by omega
          have HNEW : Hid (DMRel a b la w k (.slice n0 (nd 65536 (z - b)) nc) (w6.setCell ⟨w.heap.size, j, none⟩ (.int .i64 ((dq : Int) + pw))).drew) := by
            rw [hwq]
            refine ⟨?_, ?_, ?_, ?_⟩
            · rw [HDS.out.1]
              exact (FR.setCell HN.out HF6.out (Nat.lt_succ_self _)).below (Below.refl _ _).drew
            · rw [HDS.out.2]
              exact HAT.out w6 HQ6.out
            · exact (HBF.out.setCell (Nat.le_refl _) _).drew
            · rw [HDS.out.1]; exact HF6.out
          clear hwq
          go_region_with (go_at_call 80; refine (HP.out _).mono ?_; rintro e w' ⟨rfl, rfl⟩)
          all_goals go_wp2
          all_goals go_roundg k
          all_goals first | exact Nat.lt_succ_self _ | exact ⟨by go_num, Nat.le_of_succ_le HML.out, HNEW.out⟩
        · have hcm : cmpN z b = -1 := cmpN_lt (by omega)
          have hds := HBD.out.2 (by omega)
          have HNEW : Hid (∀ q, DMRel a b la w k (.slice z0 (nd 65536 z) zc) (wz.drewN q)) := fun q => by
            refine ⟨?_, ?_, ?_, ?_⟩
            · rw [hds.1]; exact IsN.drewN HZ.out q
            · rw [hds.2]; exact Gu.Buf.below (Gu.Buf.below HRE.out.2.1 HBZ.out (Gu.Buf.lt HRE.out.2.1)) (below_drewN (Below.refl _ _) q) (Gu.Buf.lt (Gu.Buf.below HRE.out.2.1 HBZ.out (Gu.Buf.lt HRE.out.2.1)))
            · exact below_drewN (HRE.out.2.2.1.trans (HBZ.out.mono HRE.out.2.2.1.size)) q
            · rw [hds.1]; exact HFZ.out
          rw [hcm] at HCM
          clear hcm hds hge hzb
          go_wp2_with fail
          refine HCM.out.mono ?_
          rintro e w' ⟨rfl, q, rfl⟩
          have HN2 := HNEW.out q
          go_wp2
          go_roundg k
          case measure => exact Nat.lt_succ_self _
          case rel => exact ⟨by go_num, Nat.le_of_succ_le HML.out, HN2⟩
end Go.Proofs.YteajinpfigejfaaGreatDoor
namespace Go.Proofs.YteajinpfigejfaaGreatDoor
open Go Go.RowKit Gu

set_option maxHeartbeats 1000000 in
theorem RLow_any (v u : Value) (a b : Nat) (w : World) (hv : R w v a) (hu : R w u b) (hb0 : 0 < b) (ha : nd 65536 a ≤ 1000) (hb : nd 65536 b ≤ 1000) :
    Calls Tryz.prog 30 #[v, u] w fun e w' => ∃ r s, e = .returned (.agg #[r, s]) ∧ R w' r (lowP a b) ∧ R w' s (lowQ a b) ∧ Below w.heap.size w w' := by
  have b1 : ∀ o, Below w.heap.size w (w.alloc o) := fun o => (Below.refl _ _).alloc (Nat.le_refl _) _
  by_cases h0 : a = 0
  · subst h0
    have e1 : lowP 0 b = 0 := by unfold lowP; rw [Nat.zero_div]
    have e2 : lowQ 0 b = 1 := by unfold lowQ; rw [Nat.gcd_zero_left, Nat.div_self hb0]
    rw [e1, e2]
    obtain ⟨ao, ac, rfl, -⟩ := hv.shape
    rw [nd_zero]
    have HB := Lib.hid b1
    clear hv hu b1
    go_enter Tryz.func30, Tryz.ntmps30
    go_wp2_with fail
    refine (Of_any 1 _ (by decide)).mono ?_
    rintro e w1 ⟨r, rfl, hr, hb1⟩
    obtain ⟨ro, rc, rfl, -⟩ := hr.shape
    have d0 : w1.cell? ⟨w.heap.size, 0, none⟩ = some (.slice none 0 0) := (hb1.cell (p := ⟨w.heap.size, 0, none⟩) (by simp)).trans (World.cell?_alloc_at _ _ _ _ rfl)
    have d1 : w1.cell? ⟨w.heap.size, 1, none⟩ = some (.slice none 0 0) := (hb1.cell (p := ⟨w.heap.size, 1, none⟩) (by simp)).trans (World.cell?_alloc_at _ _ _ _ rfl)
    have g0 : w1.frozen? ⟨w.heap.size, 0, none⟩ = false := (hb1.frozen (p := ⟨w.heap.size, 0, none⟩) (by simp)).trans (World.frozen?_alloc_at _ _ _ _ rfl)
    have g1 : w1.frozen? ⟨w.heap.size, 1, none⟩ = false := (hb1.frozen (p := ⟨w.heap.size, 1, none⟩) (by simp)).trans (World.frozen?_alloc_at _ _ _ _ rfl)
    obtain ⟨t0, t1⟩ := read_two d0 d1 (.slice none 0 0) (.slice ro (nd 65536 1) rc)
    have HX : Hid (R ((w1.setCell ⟨w.heap.size, 0, none⟩ (.slice none 0 0)).setCell ⟨w.heap.size, 1, none⟩ (.slice ro (nd 65536 1) rc)) (.slice ro (nd 65536 1) rc) 1) := IsN_setTwo hr d0 d1 (by intro d h; cases h) (by intro d h; cases h) _ _
    have HBE := Lib.hid ((((HB.out _).trans (hb1.mono (by simp))).setCell (p := ⟨w.heap.size, 0, none⟩) (Nat.le_refl _) (.slice none 0 0)).setCell (p := ⟨w.heap.size, 1, none⟩) (Nat.le_refl _) (.slice ro (nd 65536 1) rc))
    have T0 := Lib.hid t0; have T1 := Lib.hid t1
    clear hr hb1 t0 t1
    go_wp2
    have t0 := T0.out; have t1 := T1.out
    refine bodyPost_ret (v := .agg #[.slice none 0 0, .slice ro (nd 65536 1) rc]) (by simp [results, Tryz.results30, go_sem, t0, t1]) rfl ⟨_, _, rfl, IsN.zero _ _ _ _ _, HX.out, HBE.out⟩
  · have ha0 : 0 < a := Nat.pos_of_ne_zero h0
    have hg0 : 0 < Nat.gcd a b := Nat.gcd_pos_of_pos_left _ ha0
    have hg16 : nd 65536 (Nat.gcd a b) ≤ 1000 := Nat.le_trans (nd_mono (by decide) (Nat.gcd_le_left _ ha0)) ha
    have hl := nd_pos (B := 65536) (by decide) ha0
    have hq : ((((nd 65536 a : Nat)) : Int) == 0) = false := beq_eq_false_iff_ne.2 (by omega)
    have HG := Lib.hid (fun o => RGcd_any v u a b (w.alloc o) (hv.below (b1 o)) (hu.below (b1 o)) ha hb)
    have HD1 := Lib.hid (fun g W (h : Below w.heap.size w W) (h' : R W g (Nat.gcd a b)) => RDivMod_any v g a (Nat.gcd a b) W (hv.below h) h' hg0 (by omega) (by omega))
    have HD2 := Lib.hid (fun g W (h : Below w.heap.size w W) (h' : R W g (Nat.gcd a b)) => RDivMod_any u g b (Nat.gcd a b) W (hu.below h) h' hg0 (by omega) (by omega))
    rw [show a / Nat.gcd a b = lowP a b from rfl] at HD1
    rw [show b / Nat.gcd a b = lowQ a b from rfl] at HD2
    have HB := Lib.hid b1
    obtain ⟨ao, ac, rfl, -⟩ := hv.shape
    obtain ⟨bo, bc, rfl, -⟩ := hu.shape
    clear hv hu b1 h0 hg0 hg16 hl
    generalize lowP a b = P at *
    generalize lowQ a b = Q at *
    generalize a % Nat.gcd a b = m1 at *
    generalize b % Nat.gcd a b = m2 at *
    generalize Nat.gcd a b = G at *
    go_enter Tryz.func30, Tryz.ntmps30
    go_wp2_with fail
    refine (HG.out _).mono ?_
    rintro e w1 ⟨g, rfl, hg, hb1⟩
    obtain ⟨go, gc, rfl, -⟩ := hg.shape
    have HB1 := Lib.hid hb1; have HGG := Lib.hid hg
    have HW1 := Lib.hid ((HB.out _).trans (hb1.mono (by simp)))
    clear hg hb1
    go_wp2_with fail
    refine (HD1.out _ _ HW1.out HGG.out).mono ?_
    rintro e w2 ⟨p, m, rfl, hp, -, hb2⟩
    obtain ⟨po, pc, rfl, -⟩ := hp.shape
    have HB2 := Lib.hid (HB1.out.trans (hb2.mono HB1.out.size)); have HP := Lib.hid hp
    have HW2 := Lib.hid (HW1.out.trans (hb2.mono HW1.out.size)); have HG2 := Lib.hid (HGG.out.below hb2)
    clear hp hb2
    go_wp2_with fail
    refine (HD2.out _ _ HW2.out HG2.out).mono ?_
    rintro e w3 ⟨q, m', rfl, hq', -, hb3⟩
    obtain ⟨qo, qc, rfl, -⟩ := hq'.shape
    have hb := HB2.out.trans (hb3.mono HB2.out.size)
    have d0 : w3.cell? ⟨w.heap.size, 0, none⟩ = some (.slice none 0 0) := (hb.cell (p := ⟨w.heap.size, 0, none⟩) (by simp)).trans (World.cell?_alloc_at _ _ _ _ rfl)
    have d1 : w3.cell? ⟨w.heap.size, 1, none⟩ = some (.slice none 0 0) := (hb.cell (p := ⟨w.heap.size, 1, none⟩) (by simp)).trans (World.cell?_alloc_at _ _ _ _ rfl)
    have g0 : w3.frozen? ⟨w.heap.size, 0, none⟩ = false := (hb.frozen (p := ⟨w.heap.size, 0, none⟩) (by simp)).trans (World.frozen?_alloc_at _ _ _ _ rfl)
    have g1 : w3.frozen? ⟨w.heap.size, 1, none⟩ = false := (hb.frozen (p := ⟨w.heap.size, 1, none⟩) (by simp)).trans (World.frozen?_alloc_at _ _ _ _ rfl)
    obtain ⟨t0, t1⟩ := read_two d0 d1 (.slice po (nd 65536 P) pc) (.slice qo (nd 65536 Q) qc)
    have HX := Lib.hid (IsN_setTwo (HP.out.below hb3) d0 d1 (by intro d h; cases h) (by intro d h; cases h) (.slice po (nd 65536 P) pc) (.slice qo (nd 65536 Q) qc))
    have HY := Lib.hid (IsN_setTwo hq' d0 d1 (by intro d h; cases h) (by intro d h; cases h) (.slice po (nd 65536 P) pc) (.slice qo (nd 65536 Q) qc))
    have HBE := Lib.hid ((((HB.out _).trans (hb.mono (by simp))).setCell (p := ⟨w.heap.size, 0, none⟩) (Nat.le_refl _) (.slice po (nd 65536 P) pc)).setCell (p := ⟨w.heap.size, 1, none⟩) (Nat.le_refl _) (.slice qo (nd 65536 Q) qc))
    have T0 := Lib.hid t0; have T1 := Lib.hid t1
    clear hq' hb hb3 t0 t1
    go_wp2
    have t0 := T0.out; have t1 := T1.out
    refine bodyPost_ret (v := .agg #[.slice po (nd 65536 P) pc, .slice qo (nd 65536 Q) qc]) (by simp [results, Tryz.results30, go_sem, t0, t1]) rfl ⟨_, _, rfl, HX.out, HY.out, HBE.out⟩
/-- what a region over a fraction of the document keeps -/
structure StR (W0 : World) (v u : Value) (a b : Nat) (W : World) : Prop where
  n1 : R W v a
  n2 : R W u b
  bel : Below W0.heap.size W0 W
theorem StR.next {W0 W W' : World} {v u : Value} {a b : Nat} (h : StR W0 v u a b W) (hb : Below W.heap.size W W') : StR W0 v u a b W' :=
  ⟨h.n1.below hb, h.n2.below hb, h.bel.trans (hb.mono h.bel.size)⟩
theorem StR.cell {W0 W : World} {v u x : Value} {a b k o : Nat} (h : StR W0 v u a b W) (hk : k < W0.heap.size) (hc : W0.cell? ⟨k, o, none⟩ = some x) : W.cell? ⟨k, o, none⟩ = some x :=
  (h.bel.cell (p := ⟨k, o, none⟩) hk).trans hc
set_option maxHeartbeats 2000000 in
set_option maxRecDepth 100000 in
theorem RFText_any (v u : Value) (a b : Nat) (w : World) (hv : R w v a) (hu : R w u b) (ha : nd 65536 a ≤ 5000) (hb : nd 65536 b ≤ 5000) :
    Calls Tryz.prog 39 #[.agg #[v, u]] w fun e w' => e = .returned (.string ⟨(fracText a b).toArray⟩) ∧ Below w.heap.size w w' := by
  obtain ⟨W0, hW0⟩ : ∃ W0 : World, W0 = w.alloc (.cells #[v, u] 29) := ⟨_, rfl⟩
  have hz0 : W0.heap.size = w.heap.size + 1 := by rw [hW0]; simp
  have hbw : Below w.heap.size w W0 := by rw [hW0]; exact (Below.refl _ _).alloc (Nat.le_refl _) _
  have hst0 : StR W0 v u a b W0 := ⟨hv.below hbw, hu.below hbw, Below.refl _ _⟩
  have c0 : W0.cell? ⟨w.heap.size, 0, none⟩ = some v := by rw [hW0]; exact World.cell?_alloc_at _ _ _ _ rfl
  have c1 : W0.cell? ⟨w.heap.size, 1, none⟩ = some u := by rw [hW0]; exact World.cell?_alloc_at _ _ _ _ rfl
  have HCA : Hid (∀ W, StR W0 v u a b W → W.cell? ⟨w.heap.size, 0, none⟩ = some v ∧ W.cell? ⟨w.heap.size, 1, none⟩ = some u) := fun W h => ⟨h.cell (by omega) c0, h.cell (by omega) c1⟩
  have HOF : Hid (∀ W, StR W0 v u a b W → Calls Tryz.prog 11 #[.int .i64 1] W fun e w' => ∃ o l c, e = .returned (.slice o l c) ∧ R w' (.slice o l c) 1 ∧ StR W0 v u a b w') := fun W h =>
    (Of_any 1 W (by decide)).mono fun e w' ⟨r, he, hr, hB⟩ => by
      obtain ⟨ro, rc, rfl, -⟩ := hr.shape
      exact ⟨ro, _, rc, he, hr, h.next hB⟩
  have HCM : Hid (∀ W x, StR W0 v u a b W → R W x 1 → Calls Tryz.prog 10 #[u, x] W fun e w' => e = .returned (.int .i64 (cmpN ((b : Nat) : Int) ((1 : Nat) : Int))) ∧ StR W0 v u a b w') := fun W x h hx =>
    (RCmp_any u x b 1 W h.n2 hx (by omega) (by have := nd_le_self16 (n := 1) (by decide); omega)).mono fun e w' ⟨he, k, hw⟩ => ⟨he, by rw [hw]; exact h.next (below_drewN (Below.refl _ _) k)⟩
  obtain ⟨Sa, hSa⟩ : ∃ Sa : ByteArray, Sa = ⟨(Lib.decDigits a).toArray⟩ := ⟨_, rfl⟩
  obtain ⟨Sb, hSb⟩ : ∃ Sb : ByteArray, Sb = ⟨(Lib.decDigits b).toArray⟩ := ⟨_, rfl⟩
  have HTA : Hid (∀ W, StR W0 v u a b W → Calls Tryz.prog 75 #[v] W fun e w' => e = .returned (.string Sa) ∧ StR W0 v u a b w') := fun W h => by
    rw [hSa]; exact (Text_any v a W h.n1 (by omega)).mono fun e w' ⟨he, hB⟩ => ⟨he, h.next hB⟩
  have HTB : Hid (∀ W, StR W0 v u a b W → Calls Tryz.prog 75 #[u] W fun e w' => e = .returned (.string Sb) ∧ StR W0 v u a b w') := fun W h => by
    rw [hSb]; exact (Text_any u b W h.n2 (by omega)).mono fun e w' ⟨he, hB⟩ => ⟨he, h.next hB⟩
  have hla : Sa.size ≤ 1000000 := by rw [hSa, ← len_data]; exact dec_bound (m := 5000) (Nat.le_trans (nd_32 ha) (by decide)) (by decide) |> fun h => Nat.le_trans h (by decide)
  have hlb : Sb.size ≤ 1000000 := by rw [hSb, ← len_data]; exact dec_bound (m := 5000) (Nat.le_trans (nd_32 hb) (by decide)) (by decide) |> fun h => Nat.le_trans h (by decide)
  have HSA := Lib.hid hSa; have HSB := Lib.hid hSb
  have HBW := Lib.hid hbw; have HW0 := Lib.hid hW0
  have hs2 := hst0.next ((Below.refl _ W0).drew)
  have hc0 := HCA.out _ hst0
  have hc2 := HCA.out _ hs2
  obtain ⟨ao, ac, rfl, -⟩ := hv.shape
  obtain ⟨bo, bc, rfl, -⟩ := hu.shape
  clear hv hu hz0 hbw c0 c1 hW0 hSa hSb ha hb
  have hcase : (b = 1 ∧ cmpN ((b : Nat) : Int) ((1 : Nat) : Int) = 0) ∨ (b ≠ 1 ∧ ((cmpN ((b : Nat) : Int) ((1 : Nat) : Int)) == 0) = false) := by
    by_cases h : b = 1
    · exact .inl ⟨h, cmpN_eq (by omega)⟩
    · refine .inr ⟨h, beq_eq_false_iff_ne.2 ?_⟩
      rcases Nat.lt_or_gt_of_ne h with h' | h'
      · rw [cmpN_lt (by omega)]; decide
      · rw [cmpN_gt (by omega)]; decide
  have HK := Lib.hid hcase
  clear hcase
  generalize cmpN ((b : Nat) : Int) ((1 : Nat) : Int) = kk at *
  generalize nd 65536 a = la at *
  rcases HK.out with ⟨hb1, rfl⟩ | ⟨hb1, hk⟩
  · have HT : Hid (ByteArray.mk (fracText a b).toArray = Sa) := by show _ = _; unfold fracText; rw [if_pos hb1, HSA.out]
    rw [HT.out]
    clear hb1
    generalize nd 65536 b = lb at *
    go_enter Tryz.func39, Tryz.ntmps39
    go_wp2_with fail
    rw [← HW0.out]
    go_region_held3 (fun W : World => (W.cell? ⟨w.heap.size, 0, none⟩ = some (.slice ao la ac) ∧ W.cell? ⟨w.heap.size, 1, none⟩ = some (.slice bo lb bc)) ∧ StR W0 (.slice ao la ac) (.slice bo lb bc) a b W) (first | (refine And.intro ?_ ?_ <;> assumption)) (first
      | (go_at_call 11; with_reducible refine (HOF.out _ ?h).mono ?_; (case h => assumption); rintro e w' ⟨o1, l1, k1, rfl, hr', hs'⟩; have hc' := HCA.out _ hs')
      | (go_at_call 10; with_reducible refine (HCM.out _ _ ?h ?r).mono ?_; (case h => assumption); (case r => first | assumption | exact rchain (by assumption) (by assumption)); rintro e w' ⟨rfl, hs'⟩; have hc' := HCA.out _ hs'))
    all_goals
      have hT : StR W0 (.slice ao la ac) (.slice bo lb bc) a b w' := by assumption
      have hcx := HCA.out _ hT
      have HTT := Lib.hid hT
      clear hT
      go_wp2_with fail
      refine (HTA.out _ HTT.out).mono ?_
      rintro e w5 ⟨rfl, hs5⟩
      have HBE := Lib.hid (HBW.out.trans (hs5.bel.mono HBW.out.size))
      clear hs5
      go_wp2
      go_ret
      exact ⟨rfl, HBE.out⟩
  · have HT : Hid (ByteArray.mk (fracText a b).toArray = Sa ++ ⟨#[47]⟩ ++ Sb) := by
      show _ = _; unfold fracText; rw [if_neg hb1, HSA.out, HSB.out]; exact (slash _ _).symm
    rw [HT.out]
    have hadd1 : ∀ W : World, (Op.stringOp .add Sa ⟨#[47]⟩).run Tryz.prog W = .ok (.string (Sa ++ ⟨#[47]⟩)) W := fun W => run_string_add_sum W _ _ (by
      have e : (⟨#[47]⟩ : ByteArray).size = 1 := rfl
      rw [e]; omega)
    have hadd2 : ∀ W : World, (Op.stringOp .add (Sa ++ ⟨#[47]⟩) Sb).run Tryz.prog W = .ok (.string (Sa ++ ⟨#[47]⟩ ++ Sb)) W := fun W => run_string_add_sum W _ _ (by
      have e : (⟨#[47]⟩ : ByteArray).size = 1 := rfl
      rw [ByteArray.size_append, e]; omega)
    clear hb1
    generalize nd 65536 b = lb at *
    go_enter Tryz.func39, Tryz.ntmps39
    go_wp2_with fail
    rw [← HW0.out]
    go_region_held3 (fun W : World => (W.cell? ⟨w.heap.size, 0, none⟩ = some (.slice ao la ac) ∧ W.cell? ⟨w.heap.size, 1, none⟩ = some (.slice bo lb bc)) ∧ StR W0 (.slice ao la ac) (.slice bo lb bc) a b W) (first | (refine And.intro ?_ ?_ <;> assumption)) (first
      | (go_at_call 11; with_reducible refine (HOF.out _ ?h).mono ?_; (case h => assumption); rintro e w' ⟨o1, l1, k1, rfl, hr', hs'⟩; have hc' := HCA.out _ hs')
      | (go_at_call 10; with_reducible refine (HCM.out _ _ ?h ?r).mono ?_; (case h => assumption); (case r => first | assumption | exact rchain (by assumption) (by assumption)); rintro e w' ⟨rfl, hs'⟩; have hc' := HCA.out _ hs'))
    all_goals
      have hT : StR W0 (.slice ao la ac) (.slice bo lb bc) a b w' := by assumption
      have hcx := HCA.out _ hT
      have hs3 := hT.next ((Below.refl _ _).drew)
      have hcy := HCA.out _ hs3
      go_wp2_with fail
      go_region_held3 (fun W : World => (W.cell? ⟨w.heap.size, 0, none⟩ = some (.slice ao la ac) ∧ W.cell? ⟨w.heap.size, 1, none⟩ = some (.slice bo lb bc)) ∧ StR W0 (.slice ao la ac) (.slice bo lb bc) a b W) (first | (refine And.intro ?_ ?_ <;> assumption)) (first
        | (go_at_call 75; with_reducible refine (HTA.out _ ?h).mono ?_; (case h => assumption); rintro e w' ⟨rfl, hs'⟩; have hc' := HCA.out _ hs')
        | (go_at_call 75; with_reducible refine (HTB.out _ ?h).mono ?_; (case h => assumption); rintro e w' ⟨rfl, hs'⟩; have hc' := HCA.out _ hs'))
      all_goals
        have hT5 : StR W0 (.slice ao la ac) (.slice bo lb bc) a b w' := by assumption
        have HBE := Lib.hid (HBW.out.trans (hT5.bel.mono HBW.out.size))
        clear hT5
        go_wp2
        go_ret
        exact ⟨rfl, HBE.out⟩
end Go.Proofs.YteajinpfigejfaaGreatDoor
namespace Go.Proofs.YteajinpfigejfaaGreatDoor
open Go Go.RowKit Gu

/-- what the loop of the document's Best keeps in memory -/
structure RS (w : World) (v u : Value) (p q F B0 B1 : Nat) (far b0 b1 : Value) (W : World) : Prop where
  nv : R W v p
  nu : R W u q
  nf : R W far F
  n0 : R W b0 B0
  n1 : R W b1 B1
  t0 : W.cell? ⟨w.heap.size, 0, none⟩ = some v
  t1 : W.cell? ⟨w.heap.size, 1, none⟩ = some u
  r0 : W.cell? ⟨w.heap.size + 1, 0, none⟩ = some (.slice none 0 0)
  r1 : W.cell? ⟨w.heap.size + 1, 1, none⟩ = some (.slice none 0 0)
  z0 : W.frozen? ⟨w.heap.size + 1, 0, none⟩ = false
  z1 : W.frozen? ⟨w.heap.size + 1, 1, none⟩ = false
  c0 : W.cell? ⟨w.heap.size + 1 + 1, 0, none⟩ = some b0
  c1 : W.cell? ⟨w.heap.size + 1 + 1, 1, none⟩ = some b1
  f0 : W.frozen? ⟨w.heap.size + 1 + 1, 0, none⟩ = false
  f1 : W.frozen? ⟨w.heap.size + 1 + 1, 1, none⟩ = false
  lt : w.heap.size + 1 + 1 < W.heap.size
  bel : Below w.heap.size w W
theorem RS.next {w : World} {v u : Value} {p q F B0 B1 : Nat} {far b0 b1 : Value} {W W' : World} (h : RS w v u p q F B0 B1 far b0 b1 W) (hb : Below W.heap.size W W') : RS w v u p q F B0 B1 far b0 b1 W' := by
  have hlt := h.lt
  have cc : ∀ k o x, k < W.heap.size → W.cell? ⟨k, o, none⟩ = some x → W'.cell? ⟨k, o, none⟩ = some x := fun k o x hk hx => (hb.cell (p := ⟨k, o, none⟩) hk).trans hx
  have ff : ∀ k o, k < W.heap.size → W.frozen? ⟨k, o, none⟩ = false → W'.frozen? ⟨k, o, none⟩ = false := fun k o hk hx => (hb.frozen (p := ⟨k, o, none⟩) hk).trans hx
  exact ⟨h.nv.below hb, h.nu.below hb, h.nf.below hb, h.n0.below hb, h.n1.below hb, cc _ _ _ (by omega) h.t0, cc _ _ _ (by omega) h.t1, cc _ _ _ (by omega) h.r0, cc _ _ _ (by omega) h.r1, ff _ _ (by omega) h.z0, ff _ _ (by omega) h.z1, cc _ _ _ (by omega) h.c0, cc _ _ _ (by omega) h.c1, ff _ _ (by omega) h.f0, ff _ _ (by omega) h.f1, Nat.lt_of_lt_of_le hlt hb.size, h.bel.trans (hb.mono h.bel.size)⟩
theorem RS.start {w : World} {v u : Value} {p q : Nat} (hv : R w v p) (hu : R w u q) :
    RS w v u p q 0 0 0 (.slice none 0 0) (.slice none 0 0) (.slice none 0 0) (((w.alloc (.cells #[v, u] 29)).alloc (.cells #[.slice none 0 0, .slice none 0 0] 29)).alloc (.cells #[.slice none 0 0, .slice none 0 0] 29)) := by
  have hb : Below w.heap.size w (((w.alloc (.cells #[v, u] 29)).alloc (.cells #[.slice none 0 0, .slice none 0 0] 29)).alloc (.cells #[.slice none 0 0, .slice none 0 0] 29)) := (((Below.refl _ _).alloc (Nat.le_refl _) _).alloc (by simp) _).alloc (by simp; omega) _
  have past : ∀ (W : World) (o : Obj) (k j : Nat) (q : Value), k < W.heap.size → W.cell? ⟨k, j, none⟩ = some q → (W.alloc o).cell? ⟨k, j, none⟩ = some q := fun W o k j q h1 h2 => (World.cell?_alloc_past _ _ _ h1).trans h2
  have pf : (((w.alloc (.cells #[v, u] 29)).alloc (.cells #[.slice none 0 0, .slice none 0 0] 29)).alloc (.cells #[.slice none 0 0, .slice none 0 0] 29)).frozen? ⟨w.heap.size + 1, 0, none⟩ = false :=
    ((((Below.refl _ _).alloc (Nat.le_refl _) (.cells #[.slice none 0 0, .slice none 0 0] 29) : Below ((w.alloc (.cells #[v, u] 29)).alloc (.cells #[.slice none 0 0, .slice none 0 0] 29)).heap.size _ _)).frozen (p := ⟨w.heap.size + 1, 0, none⟩) (by simp)).trans (World.frozen?_alloc_at _ _ _ _ (by simp))
  have pf2 : (((w.alloc (.cells #[v, u] 29)).alloc (.cells #[.slice none 0 0, .slice none 0 0] 29)).alloc (.cells #[.slice none 0 0, .slice none 0 0] 29)).frozen? ⟨w.heap.size + 1, 1, none⟩ = false :=
    ((((Below.refl _ _).alloc (Nat.le_refl _) (.cells #[.slice none 0 0, .slice none 0 0] 29) : Below ((w.alloc (.cells #[v, u] 29)).alloc (.cells #[.slice none 0 0, .slice none 0 0] 29)).heap.size _ _)).frozen (p := ⟨w.heap.size + 1, 1, none⟩) (by simp)).trans (World.frozen?_alloc_at _ _ _ _ (by simp))
  exact ⟨hv.below hb, hu.below hb, IsN.zero _ _ _ _ _, IsN.zero _ _ _ _ _, IsN.zero _ _ _ _ _, past _ _ _ _ _ (by simp <;> omega) (past _ _ _ _ _ (by simp) (World.cell?_alloc_at _ _ _ _ rfl)), past _ _ _ _ _ (by simp <;> omega) (past _ _ _ _ _ (by simp) (World.cell?_alloc_at _ _ _ _ rfl)),
    past _ _ _ _ _ (by simp) (World.cell?_alloc_at _ _ _ _ (by simp)), past _ _ _ _ _ (by simp) (World.cell?_alloc_at _ _ _ _ (by simp)), pf, pf2, World.cell?_alloc_at _ _ _ _ (by simp), World.cell?_alloc_at _ _ _ _ (by simp), World.frozen?_alloc_at _ _ _ _ (by simp), World.frozen?_alloc_at _ _ _ _ (by simp), by simp, hb⟩
/-- another best fraction -/
theorem RS.set {w : World} {v u : Value} {p q F B0 B1 F' P Q : Nat} {far far' b0 b1 : Value} {ro so : Option Addr} {rl rc sl sc : Nat} {W : World} (h : RS w v u p q F B0 B1 far b0 b1 W) (s0 : ∃ o l c, b0 = .slice o l c) (s1 : ∃ o l c, b1 = .slice o l c) (hf : R W far' F') (h1 : R W (.slice ro rl rc) P) (h2 : R W (.slice so sl sc) Q) :
    RS w v u p q F' P Q far' (.slice ro rl rc) (.slice so sl sc) ((W.setCell ⟨w.heap.size + 1 + 1, 0, none⟩ (.slice ro rl rc)).setCell ⟨w.heap.size + 1 + 1, 1, none⟩ (.slice so sl sc)) := by
  obtain ⟨o0, a0, x0, rfl⟩ := s0
  obtain ⟨o1, a1, x1, rfl⟩ := s1
  obtain ⟨p0, p1⟩ := read_two h.c0 h.c1 (.slice ro rl rc) (.slice so sl sc)
  have k : ∀ {x : Value} {n : Nat}, R W x n → R ((W.setCell ⟨w.heap.size + 1 + 1, 0, none⟩ (.slice ro rl rc)).setCell ⟨w.heap.size + 1 + 1, 1, none⟩ (.slice so sl sc)) x n := fun hx => IsN_setTwo hx h.c0 h.c1 (by intro d e; cases e) (by intro d e; cases e) _ _
  have far : ∀ j o x, j < w.heap.size + 1 + 1 → W.cell? ⟨j, o, none⟩ = some x → ((W.setCell ⟨w.heap.size + 1 + 1, 0, none⟩ (.slice ro rl rc)).setCell ⟨w.heap.size + 1 + 1, 1, none⟩ (.slice so sl sc)).cell? ⟨j, o, none⟩ = some x := fun j o x hj hx => by
    rw [World.cell?_setCell_far _ _ _ _ (by show w.heap.size + 1 + 1 ≠ j; omega), World.cell?_setCell_far _ _ _ _ (by show w.heap.size + 1 + 1 ≠ j; omega)]; exact hx
  have fz : ∀ j o, W.frozen? ⟨j, o, none⟩ = false → ((W.setCell ⟨w.heap.size + 1 + 1, 0, none⟩ (.slice ro rl rc)).setCell ⟨w.heap.size + 1 + 1, 1, none⟩ (.slice so sl sc)).frozen? ⟨j, o, none⟩ = false := fun j o hf => by simpa using hf
  exact ⟨k h.nv, k h.nu, k hf, k h1, k h2, far _ _ _ (by omega) h.t0, far _ _ _ (by omega) h.t1, far _ _ _ (by omega) h.r0, far _ _ _ (by omega) h.r1, fz _ _ h.z0, fz _ _ h.z1, p0, p1, fz _ _ h.f0, fz _ _ h.f1, by rw [World.size_setCell, World.size_setCell]; exact h.lt, (h.bel.setCell (by show w.heap.size ≤ w.heap.size + 1 + 1; omega) _).setCell (by show w.heap.size ≤ w.heap.size + 1 + 1; omega) _⟩
theorem nd_add16 {a m : Nat} (ha : nd 65536 a ≤ m) : nd 65536 (a + 1) ≤ m + 1 := by
  have h1 := (nd_le (by decide : 2 ≤ 65536)).1 ha
  apply (nd_le (by decide : 2 ≤ 65536)).2
  have h3 : 65536 ^ m * 2 ≤ 65536 ^ m * 65536 := Nat.mul_le_mul_left _ (by decide)
  rw [Nat.pow_succ]; omega
set_option maxHeartbeats 2000000 in
set_option maxRecDepth 100000 in
theorem RBest_any (v u : Value) (p q n : Nat) (w : World) (hv : R w v p) (hu : R w u q) (hq : 0 < q) (bp : nd 65536 p ≤ 20) (bq : nd 65536 q ≤ 20) (hn1 : 1 ≤ n) (hn2 : n ≤ 200) :
    Calls Tryz.prog 12 #[.agg #[v, u], .int .i64 n] w fun e w' => ∃ r s x y, e = .returned (.agg #[r, s]) ∧ R w' r x ∧ R w' s y ∧ IsBest p q n x y ∧ Below w.heap.size w w' := by
  have HV := Lib.hid hv; have HU := Lib.hid hu
  have HSS := Lib.hid (RS.start hv hu)
  obtain ⟨vo, vc, rfl, -⟩ := hv.shape
  obtain ⟨uo, uc, rfl, -⟩ := hu.shape
  have HN := Lib.hid hn1
  clear hv hu
  go_enter Tryz.func12, Tryz.ntmps12
  go_wp2
  go_loopg [6, 7, 8] n (fun m far least k wr => ∃ kk ll F B0 B1 x b0 b1, far = x ∧ least = .int .i64 (ll : Nat) ∧ k = .int .i64 (kk : Nat) ∧ Hid (m + kk = n + 1) ∧ 1 ≤ kk ∧ kk ≤ n + 1 ∧ Hid ((kk = 1 ∧ ll = 0 ∧ F = 0) ∨ (Near p q (kk - 1) B0 B1 ∧ F = gapN p q B0 B1 ∧ ll = B1)) ∧ Hid (RS w (.slice vo (nd 65536 p) vc) (.slice uo (nd 65536 q) uc) p q F B0 B1 x b0 b1 wr))
  case atStart => exact ⟨1, 0, 0, 0, 0, _, _, _, rfl, rfl, rfl, by show _ = _; omega, by omega, by omega, .inl ⟨rfl, rfl, rfl⟩, HSS.out⟩
  case round =>
    obtain ⟨kk, ll, F, B0, B1, x, b0, b1, rfl, rfl, rfl, HM, hk1, hk2, HNR, HS⟩ := hrel
    obtain ⟨fo, fc, rfl, -⟩ := HS.out.nf.shape
    obtain ⟨b0o, b0c, rfl, -⟩ := HS.out.n0.shape
    obtain ⟨b1o, b1c, rfl, -⟩ := HS.out.n1.shape
    by_cases hlt : kk ≤ n
    · have hlt' : (kk : Int) ≤ n := by omega
      have s1 : nd 65536 kk ≤ 4 := nd_le_self16 (by omega)
      have s2 : nd 65536 (p * kk) ≤ 24 := nd_rmul bp s1
      have s3 : nd 65536 (p * kk / q) ≤ 24 := Nat.le_trans (nd_mono (by decide) (Nat.div_le_self _ _)) s2
      have s4 : nd 65536 (p * kk % q) ≤ 20 := Nat.le_trans (nd_mono (by decide) (Nat.le_of_lt (Nat.mod_lt _ hq))) bq
      have s5 : nd 65536 (q - p * kk % q) ≤ 20 := Nat.le_trans (nd_mono (by decide) (Nat.sub_le _ _)) bq
      have HRQ := Lib.hid (Nat.le_of_lt (Nat.mod_lt (p * kk) hq))
      have HCN : Hid (candN p q kk = if q - p * kk % q < p * kk % q then p * kk / q + 1 else p * kk / q) := rfl
      have HCD : Hid (candD p q kk = if q - p * kk % q < p * kk % q then q - p * kk % q else p * kk % q) := rfl
      have HOF : Hid (∀ W, RS w (.slice vo (nd 65536 p) vc) (.slice uo (nd 65536 q) uc) p q F B0 B1 (.slice fo (nd 65536 F) fc) (.slice b0o (nd 65536 B0) b0c) (.slice b1o (nd 65536 B1) b1c) W → Calls Tryz.prog 11 #[.int .i64 kk] W fun e w' => ∃ o l c, e = .returned (.slice o l c) ∧ R w' (.slice o l c) kk ∧ RS w (.slice vo (nd 65536 p) vc) (.slice uo (nd 65536 q) uc) p q F B0 B1 (.slice fo (nd 65536 F) fc) (.slice b0o (nd 65536 B0) b0c) (.slice b1o (nd 65536 B1) b1c) w') := fun W h =>
        (Of_any kk W (by omega)).mono fun e w' ⟨r, he, hr, hB⟩ => by
          obtain ⟨ro, rc, rfl, -⟩ := hr.shape
          exact ⟨ro, _, rc, he, hr, h.next hB⟩
      have HMU : Hid (∀ W x, RS w (.slice vo (nd 65536 p) vc) (.slice uo (nd 65536 q) uc) p q F B0 B1 (.slice fo (nd 65536 F) fc) (.slice b0o (nd 65536 B0) b0c) (.slice b1o (nd 65536 B1) b1c) W → R W x kk → Calls Tryz.prog 40 #[.slice vo (nd 65536 p) vc, x] W fun e w' => ∃ o l c, e = .returned (.slice o l c) ∧ R w' (.slice o l c) (p * kk) ∧ RS w (.slice vo (nd 65536 p) vc) (.slice uo (nd 65536 q) uc) p q F B0 B1 (.slice fo (nd 65536 F) fc) (.slice b0o (nd 65536 B0) b0c) (.slice b1o (nd 65536 B1) b1c) w') := fun W x h hx =>
        (RMul_any _ _ p kk W h.nv hx (by omega) (by omega)).mono fun e w' ⟨r, he, hr, hB⟩ => by
          obtain ⟨ro, rc, rfl, -⟩ := hr.shape
          exact ⟨ro, _, rc, he, hr, h.next hB⟩
      have HCC : Hid (∀ W, RS w (.slice vo (nd 65536 p) vc) (.slice uo (nd 65536 q) uc) p q F B0 B1 (.slice fo (nd 65536 F) fc) (.slice b0o (nd 65536 B0) b0c) (.slice b1o (nd 65536 B1) b1c) W → W.cell? ⟨w.heap.size, 0, none⟩ = some (.slice vo (nd 65536 p) vc)) := fun W h => h.t0
      have hs0 := HS.out
      have hs2 := hs0.next ((Below.refl _ _).drew)
      have hc0 := HCC.out _ hs0
      have hc2 := HCC.out _ hs2
      go_wp2_with fail
      go_region_held3 (fun W : World => W.cell? ⟨w.heap.size, 0, none⟩ = some (.slice vo (nd 65536 p) vc) ∧ RS w (.slice vo (nd 65536 p) vc) (.slice uo (nd 65536 q) uc) p q F B0 B1 (.slice fo (nd 65536 F) fc) (.slice b0o (nd 65536 B0) b0c) (.slice b1o (nd 65536 B1) b1c) W) (first | (refine And.intro ?_ ?_ <;> assumption) | fail) (first
        | (go_at_call 11; with_reducible refine (HOF.out _ ?h).mono ?_; (case h => assumption); rintro e w' ⟨o1, a1, c1, rfl, hr', hs'⟩; have hc' := HCC.out _ hs')
        | (go_at_call 40; with_reducible refine (HMU.out _ _ ?h ?r).mono ?_; (case h => assumption); (case r => assumption); rintro e w' ⟨o2, a2, c2, rfl, hr', hs'⟩; have hc' := HCC.out _ hs') | fail)
      all_goals
        have hT : RS w (.slice vo (nd 65536 p) vc) (.slice uo (nd 65536 q) uc) p q F B0 B1 (.slice fo (nd 65536 F) fc) (.slice b0o (nd 65536 B0) b0c) (.slice b1o (nd 65536 B1) b1c) w' := by assumption
        have hX : R w' (.slice o2 a2 c2) (p * kk) := by assumption
        have HS1 := Lib.hid hT
        have d1 := hT.t1
        have HDM := Lib.hid (RDivMod_any _ _ (p * kk) q w' hX hT.nu hq (by omega) (by omega))
        clear hT hX hs0 hs2 hc0 hc2 HOF HMU HCC HS
        generalize p * kk / q = P0 at *
        generalize p * kk % q = R0 at *
        go_wp2_with fail
        refine HDM.out.mono ?_
        rintro e w2 ⟨qv, rv, rfl, hqv, hrv, hb⟩
        obtain ⟨qo, qc, rfl, -⟩ := hqv.shape
        obtain ⟨ro, rc, rfl, -⟩ := hrv.shape
        have HS2 := Lib.hid (HS1.out.next hb); have HQ2 := Lib.hid hqv; have HR2 := Lib.hid hrv
        clear hqv hrv hb d1 HS1 HDM
        have d1 := HS2.out.t1
        have HSB := Lib.hid (RSub_any _ _ q R0 w2 HS2.out.nu HR2.out (by omega) (by omega) HRQ.out)
        go_wp2_with fail
        refine HSB.out.mono ?_
        rintro e w3 ⟨pv, rfl, hpv, hb⟩
        obtain ⟨po, pc, rfl, -⟩ := hpv.shape
        have HS3 := Lib.hid (HS2.out.next hb); have HQ3 := Lib.hid (HQ2.out.below hb); have HR3 := Lib.hid (HR2.out.below hb); have HU3 := Lib.hid hpv
        clear hpv hb d1 HS2 HQ2 HR2 HSB
        have HCM := Lib.hid (RCmp_any _ _ (q - R0) R0 w3 HU3.out HR3.out (by omega) (by omega))
        generalize q - R0 = U0 at *
        have HST : Hid (∃ N0 D0, N0 = candN p q kk ∧ D0 = candD p q kk) := ⟨_, _, rfl, rfl⟩
        rcases Nat.lt_or_ge U0 R0 with hc | hc
        · rw [cmpN_lt (by omega)] at HCM
          have e1 : candN p q kk = P0 + 1 := HCN.out.trans (if_pos hc)
          have e2 : candD p q kk = U0 := HCD.out.trans (if_pos hc)
          clear HCN HCD hc
          go_wp2_with fail
          refine HCM.out.mono ?_
          rintro e w4 ⟨rfl, j, hw4⟩
          have hb : Below w3.heap.size w3 w4 := by rw [hw4]; exact below_drewN (Below.refl _ _) j
          have HS4 := Lib.hid (HS3.out.next hb); have HQ4 := Lib.hid (HQ3.out.below hb); have HU4 := Lib.hid (HU3.out.below hb)
          clear hb hw4 HS3 HQ3 HU3 HR3 HCM
          go_wp2_with fail
          refine (Of_any 1 _ (by decide)).mono ?_
          rintro e w5 ⟨ov, rfl, hov, hb⟩
          have HA := Lib.hid (RAdd_any _ _ P0 1 w5 (HQ4.out.below hb) hov (by omega) (by have := nd_le_self16 (n := 1) (by decide); omega))
          have HS5 := Lib.hid (HS4.out.next hb); have HU5 := Lib.hid (HU4.out.below hb)
          clear hov hb HS4 HQ4 HU4
          go_wp2_with fail
          refine HA.out.mono ?_
          rintro e w6 ⟨av, rfl, hav, hb⟩
          obtain ⟨no, nc, rfl, -⟩ := hav.shape
          have HS6 := Lib.hid (HS5.out.next hb); have hD := HU5.out.below hb
          have kN : nd 65536 (P0 + 1) ≤ 25 := nd_add16 s3
          rw [← e1] at kN
          have kD : nd 65536 (candD p q kk) ≤ 20 := by rw [e2]; exact s5
          have HNN : Hid (R w6 (.slice no (nd 65536 (P0 + 1)) nc) (candN p q kk)) := by show R _ _ _; rw [e1]; exact hav
          have HDD : Hid (R w6 (.slice po (nd 65536 U0) pc) (candD p q kk)) := by show R _ _ _; rw [e2]; exact hD
          clear hav hD hb HS5 HU5 HA s3 s4 s5 HRQ HST e1 e2
          rcases HNR.out with ⟨hk1', hl0, hF⟩ | ⟨hnear, hF, hl⟩
          · subst hl0
            have HNW : Hid (Near p q kk (candN p q kk) kk) := by show Near _ _ _ _ _; rw [hk1']; exact Near.first hq
            clear hF hk1'
            have HO := Lib.hid (Of_any kk w6 (by omega))
            go_wp2_with fail
            refine HO.out.mono ?_
            rintro e w8 ⟨ov, rfl, hov, hb⟩
            have HS8 := Lib.hid (HS6.out.next hb); have HD8 := Lib.hid (HDD.out.below hb)
            have HLW := Lib.hid (RLow_any _ _ (candN p q kk) kk w8 (HNN.out.below hb) hov (by omega) (by omega) (by omega))
            clear hov hb HO
            go_wp2_with fail
            refine HLW.out.mono ?_
            rintro e w9 ⟨xv, yv, rfl, hxv, hyv, hb⟩
            obtain ⟨xo, xc, rfl, -⟩ := hxv.shape
            obtain ⟨yo, yc, rfl, -⟩ := hyv.shape
            have hS := HS8.out.next hb
            have HSN := Lib.hid (hS.set ⟨_, _, _, rfl⟩ ⟨_, _, _, rfl⟩ (HD8.out.below hb) hxv hyv)
            have d2 := hS.c0; have d3 := hS.c1; have y2 := hS.f0; have y3 := hS.f1
            clear hxv hyv hb hS HS8 HD8 HLW
            go_wp2
            go_roundg (n - kk)
            case measure => have := HM.out; omega
            case rel =>
              have hg := HNW.out.best.2.2.1
              have l1 : lowP (candN p q kk) kk = candN p q kk := by unfold lowP; rw [hg, Nat.div_one]
              have l2 : lowQ (candN p q kk) kk = kk := by unfold lowQ; rw [hg, Nat.div_one]
              have hS := HSN.out
              rw [l1, l2] at hS
              exact ⟨kk + 1, kk, candD p q kk, candN p q kk, kk, _, _, _, rfl, rfl, by go_num, by show _ = _; omega, by omega, by omega, .inr ⟨HNW.out, (cand hq).1.symm, rfl⟩, by rw [l1, l2]; exact hS⟩
          · obtain ⟨m0, hm0⟩ : ∃ m0, kk = m0 + 1 := ⟨kk - 1, by omega⟩
            have hyl := hnear.1
            have hym := hnear.2.1
            have hlz : ((ll : Int) == 0) = false := beq_eq_false_iff_ne.2 (by omega)
            have s6 : nd 65536 ll ≤ 4 := nd_le_self16 (by omega)
            have s7 : nd 65536 F ≤ 20 + 24 + 1 := by
              have h1 := (cand (p := p) (k := B1) hq)
              rw [hF]
              have h2 : gapN p q B0 B1 ≤ candD p q 1 * B1 := by
                have h3 := (hnear.2.2 (candN p q 1) 1 (by decide) (by omega)).1
                rw [(cand hq).1, Nat.mul_one] at h3
                exact h3
              have h4 : candD p q 1 ≤ q := by
                have h5 := Nat.mod_lt (p * 1) hq
                unfold candD; split <;> omega
              have h6 : gapN p q B0 B1 ≤ q * B1 := Nat.le_trans h2 (Nat.mul_le_mul_right _ h4)
              have h7 : nd 65536 B1 ≤ 4 := nd_le_self16 (by omega)
              exact Nat.le_trans (nd_mono (by decide) h6) (Nat.le_trans (nd_rmul bq h7) (by decide))
            have m1 := nd_rmul kD s6
            have m2 := nd_rmul s7 s1
            have HO1 := Lib.hid (Of_any ll w6 (by omega))
            have HNR2 := Lib.hid hnear; have HFF := Lib.hid hF; have HLL := Lib.hid hl; have HM0 := Lib.hid hm0
            clear hnear hF hl hm0 hym hyl
            go_wp2_with fail
            refine HO1.out.mono ?_
            rintro e w61 ⟨ov1, rfl, hov1, hb⟩
            have HS61 := Lib.hid (HS6.out.next hb); have HN61 := Lib.hid (HNN.out.below hb); have HD61 := Lib.hid (HDD.out.below hb)
            have HM1 := Lib.hid (RMul_any _ _ (candD p q kk) ll w61 HD61.out hov1 (by omega) (by omega))
            clear hov1 hb HO1
            go_wp2_with fail
            refine HM1.out.mono ?_
            rintro e w62 ⟨mv1, rfl, hmv1, hb⟩
            have HS62 := Lib.hid (HS61.out.next hb); have HN62 := Lib.hid (HN61.out.below hb); have HD62 := Lib.hid (HD61.out.below hb); have HX62 := Lib.hid hmv1
            clear hmv1 hb HM1 HS61 HN61 HD61
            have HO2 := Lib.hid (Of_any kk w62 (by omega))
            go_wp2_with fail
            refine HO2.out.mono ?_
            rintro e w63 ⟨ov2, rfl, hov2, hb⟩
            have HS63 := Lib.hid (HS62.out.next hb); have HN63 := Lib.hid (HN62.out.below hb); have HD63 := Lib.hid (HD62.out.below hb); have HX63 := Lib.hid (HX62.out.below hb)
            have HM2 := Lib.hid (RMul_any _ _ F kk w63 HS63.out.nf hov2 (by omega) (by omega))
            clear hov2 hb HO2 HS62 HN62 HD62 HX62
            go_wp2_with fail
            refine HM2.out.mono ?_
            rintro e w64 ⟨mv2, rfl, hmv2, hb⟩
            have HS64 := Lib.hid (HS63.out.next hb); have HN64 := Lib.hid (HN63.out.below hb); have HD64 := Lib.hid (HD63.out.below hb)
            have HCM2 := Lib.hid (RCmp_any _ _ (candD p q kk * ll) (F * kk) w64 (HX63.out.below hb) hmv2 (by omega) (by omega))
            clear hmv2 hb HM2 HS63 HN63 HD63 HX63 m1 m2 s7
            rcases Nat.lt_or_ge (candD p q kk * ll) (F * kk) with hcc | hcc
            · rw [cmpN_lt (by omega)] at HCM2
              have HNW : Hid (Near p q kk (candN p q kk) kk) := by
                show Near _ _ _ _ _
                have hnear := HNR2.out
                rw [HM0.out] at hnear hcc ⊢
                rw [HFF.out, HLL.out] at hcc
                exact Near.better hnear hq hcc
              clear hcc
              go_wp2_with fail
              refine HCM2.out.mono ?_
              rintro e w7 ⟨rfl, j2, hw7⟩
              have hb : Below w64.heap.size w64 w7 := by rw [hw7]; exact below_drewN (Below.refl _ _) j2
              have HS7 := Lib.hid (HS64.out.next hb); have HN7 := Lib.hid (HN64.out.below hb); have HD7 := Lib.hid (HD64.out.below hb)
              clear hb hw7 HS64 HN64 HD64 HCM2
              have HO := Lib.hid (Of_any kk w7 (by omega))
              go_wp2_with fail
              refine HO.out.mono ?_
              rintro e w8 ⟨ov, rfl, hov, hb⟩
              have HS8 := Lib.hid (HS7.out.next hb); have HD8 := Lib.hid (HD7.out.below hb)
              have HLW := Lib.hid (RLow_any _ _ (candN p q kk) kk w8 (HN7.out.below hb) hov (by omega) (by omega) (by omega))
              clear hov hb HO
              go_wp2_with fail
              refine HLW.out.mono ?_
              rintro e w9 ⟨xv, yv, rfl, hxv, hyv, hb⟩
              obtain ⟨xo, xc, rfl, -⟩ := hxv.shape
              obtain ⟨yo, yc, rfl, -⟩ := hyv.shape
              have hS := HS8.out.next hb
              have HSN := Lib.hid (hS.set ⟨_, _, _, rfl⟩ ⟨_, _, _, rfl⟩ (HD8.out.below hb) hxv hyv)
              have d2 := hS.c0; have d3 := hS.c1; have y2 := hS.f0; have y3 := hS.f1
              clear hxv hyv hb hS HS8 HD8 HLW
              go_wp2
              go_roundg (n - kk)
              case measure => have := HM.out; omega
              case rel =>
                have hg := HNW.out.best.2.2.1
                have l1 : lowP (candN p q kk) kk = candN p q kk := by unfold lowP; rw [hg, Nat.div_one]
                have l2 : lowQ (candN p q kk) kk = kk := by unfold lowQ; rw [hg, Nat.div_one]
                have hS := HSN.out
                rw [l1, l2] at hS
                exact ⟨kk + 1, kk, candD p q kk, candN p q kk, kk, _, _, _, rfl, rfl, by go_num, by show _ = _; omega, by omega, by omega, .inr ⟨HNW.out, (cand hq).1.symm, rfl⟩, by rw [l1, l2]; exact hS⟩
            · have hkc : ¬ cmpN ((candD p q kk * ll : Nat) : Int) ((F * kk : Nat) : Int) < 0 := by
                rcases Nat.eq_or_lt_of_le hcc with h | h
                · rw [cmpN_eq (by omega)]; decide
                · rw [cmpN_gt (by omega)]; decide
              have HNW : Hid (Near p q kk B0 B1) := by
                show Near _ _ _ _ _
                have hnear := HNR2.out
                rw [HM0.out] at hnear hcc ⊢
                rw [HFF.out, HLL.out] at hcc
                exact Near.keep hnear hq hcc
              generalize cmpN ((candD p q kk * ll : Nat) : Int) ((F * kk : Nat) : Int) = k7 at *
              clear hcc
              go_wp2_with fail
              refine HCM2.out.mono ?_
              rintro e w7 ⟨rfl, j2, hw7⟩
              have hb : Below w64.heap.size w64 w7 := by rw [hw7]; exact below_drewN (Below.refl _ _) j2
              have HS7 := Lib.hid (HS64.out.next hb)
              clear hb hw7 HS64 HN64 HD64 HCM2
              go_wp2
              go_roundg (n - kk)
              case measure => have := HM.out; omega
              case rel => exact ⟨kk + 1, ll, F, B0, B1, _, _, _, rfl, rfl, by go_num, by show _ = _; omega, by omega, by omega, .inr ⟨HNW.out, HFF.out, HLL.out⟩, HS7.out⟩
        · have HCK : Hid (∃ k0, k0 = cmpN ((U0 : Nat) : Int) ((R0 : Nat) : Int)) := ⟨_, rfl⟩
          have hk0 : ¬ cmpN ((U0 : Nat) : Int) ((R0 : Nat) : Int) < 0 := by
            rcases Nat.eq_or_lt_of_le hc with h | h
            · rw [cmpN_eq (by omega)]; decide
            · rw [cmpN_gt (by omega)]; decide
          have e1 : candN p q kk = P0 := HCN.out.trans (if_neg (by omega))
          have e2 : candD p q kk = R0 := HCD.out.trans (if_neg (by omega))
          generalize cmpN ((U0 : Nat) : Int) ((R0 : Nat) : Int) = k0 at *
          clear HCN HCD hc HCK
          go_wp2_with fail
          refine HCM.out.mono ?_
          rintro e w6 ⟨rfl, j, hw4⟩
          have hb : Below w3.heap.size w3 w6 := by rw [hw4]; exact below_drewN (Below.refl _ _) j
          have HS6 := Lib.hid (HS3.out.next hb); have hav := HQ3.out.below hb; have hD := HR3.out.below hb
          have kN : nd 65536 P0 ≤ 25 := by omega
          have kD : nd 65536 R0 ≤ 20 := s4
          rw [← e1] at kN
          rw [← e2] at kD
          have HNN : Hid (R w6 (.slice qo (nd 65536 P0) qc) (candN p q kk)) := by show R _ _ _; rw [e1]; exact hav
          have HDD : Hid (R w6 (.slice ro (nd 65536 R0) rc) (candD p q kk)) := by show R _ _ _; rw [e2]; exact hD
          clear hb hw4 HS3 HQ3 HU3 HR3 HCM hav hD s3 s4 s5 HRQ HST e1 e2
          rcases HNR.out with ⟨hk1', hl0, hF⟩ | ⟨hnear, hF, hl⟩
          · subst hl0
            have HNW : Hid (Near p q kk (candN p q kk) kk) := by show Near _ _ _ _ _; rw [hk1']; exact Near.first hq
            clear hF hk1'
            have HO := Lib.hid (Of_any kk w6 (by omega))
            go_wp2_with fail
            refine HO.out.mono ?_
            rintro e w8 ⟨ov, rfl, hov, hb⟩
            have HS8 := Lib.hid (HS6.out.next hb); have HD8 := Lib.hid (HDD.out.below hb)
            have HLW := Lib.hid (RLow_any _ _ (candN p q kk) kk w8 (HNN.out.below hb) hov (by omega) (by omega) (by omega))
            clear hov hb HO
            go_wp2_with fail
            refine HLW.out.mono ?_
            rintro e w9 ⟨xv, yv, rfl, hxv, hyv, hb⟩
            obtain ⟨xo, xc, rfl, -⟩ := hxv.shape
            obtain ⟨yo, yc, rfl, -⟩ := hyv.shape
            have hS := HS8.out.next hb
            have HSN := Lib.hid (hS.set ⟨_, _, _, rfl⟩ ⟨_, _, _, rfl⟩ (HD8.out.below hb) hxv hyv)
            have d2 := hS.c0; have d3 := hS.c1; have y2 := hS.f0; have y3 := hS.f1
            clear hxv hyv hb hS HS8 HD8 HLW
            go_wp2
            go_roundg (n - kk)
            case measure => have := HM.out; omega
            case rel =>
              have hg := HNW.out.best.2.2.1
              have l1 : lowP (candN p q kk) kk = candN p q kk := by unfold lowP; rw [hg, Nat.div_one]
              have l2 : lowQ (candN p q kk) kk = kk := by unfold lowQ; rw [hg, Nat.div_one]
              have hS := HSN.out
              rw [l1, l2] at hS
              exact ⟨kk + 1, kk, candD p q kk, candN p q kk, kk, _, _, _, rfl, rfl, by go_num, by show _ = _; omega, by omega, by omega, .inr ⟨HNW.out, (cand hq).1.symm, rfl⟩, by rw [l1, l2]; exact hS⟩
          · obtain ⟨m0, hm0⟩ : ∃ m0, kk = m0 + 1 := ⟨kk - 1, by omega⟩
            have hyl := hnear.1
            have hym := hnear.2.1
            have hlz : ((ll : Int) == 0) = false := beq_eq_false_iff_ne.2 (by omega)
            have s6 : nd 65536 ll ≤ 4 := nd_le_self16 (by omega)
            have s7 : nd 65536 F ≤ 20 + 24 + 1 := by
              have h1 := (cand (p := p) (k := B1) hq)
              rw [hF]
              have h2 : gapN p q B0 B1 ≤ candD p q 1 * B1 := by
                have h3 := (hnear.2.2 (candN p q 1) 1 (by decide) (by omega)).1
                rw [(cand hq).1, Nat.mul_one] at h3
                exact h3
              have h4 : candD p q 1 ≤ q := by
                have h5 := Nat.mod_lt (p * 1) hq
                unfold candD; split <;> omega
              have h6 : gapN p q B0 B1 ≤ q * B1 := Nat.le_trans h2 (Nat.mul_le_mul_right _ h4)
              have h7 : nd 65536 B1 ≤ 4 := nd_le_self16 (by omega)
              exact Nat.le_trans (nd_mono (by decide) h6) (Nat.le_trans (nd_rmul bq h7) (by decide))
            have m1 := nd_rmul kD s6
            have m2 := nd_rmul s7 s1
            have HO1 := Lib.hid (Of_any ll w6 (by omega))
            have HNR2 := Lib.hid hnear; have HFF := Lib.hid hF; have HLL := Lib.hid hl; have HM0 := Lib.hid hm0
            clear hnear hF hl hm0 hym hyl
            go_wp2_with fail
            refine HO1.out.mono ?_
            rintro e w61 ⟨ov1, rfl, hov1, hb⟩
            have HS61 := Lib.hid (HS6.out.next hb); have HN61 := Lib.hid (HNN.out.below hb); have HD61 := Lib.hid (HDD.out.below hb)
            have HM1 := Lib.hid (RMul_any _ _ (candD p q kk) ll w61 HD61.out hov1 (by omega) (by omega))
            clear hov1 hb HO1
            go_wp2_with fail
            refine HM1.out.mono ?_
            rintro e w62 ⟨mv1, rfl, hmv1, hb⟩
            have HS62 := Lib.hid (HS61.out.next hb); have HN62 := Lib.hid (HN61.out.below hb); have HD62 := Lib.hid (HD61.out.below hb); have HX62 := Lib.hid hmv1
            clear hmv1 hb HM1 HS61 HN61 HD61
            have HO2 := Lib.hid (Of_any kk w62 (by omega))
            go_wp2_with fail
            refine HO2.out.mono ?_
            rintro e w63 ⟨ov2, rfl, hov2, hb⟩
            have HS63 := Lib.hid (HS62.out.next hb); have HN63 := Lib.hid (HN62.out.below hb); have HD63 := Lib.hid (HD62.out.below hb); have HX63 := Lib.hid (HX62.out.below hb)
            have HM2 := Lib.hid (RMul_any _ _ F kk w63 HS63.out.nf hov2 (by omega) (by omega))
            clear hov2 hb HO2 HS62 HN62 HD62 HX62
            go_wp2_with fail
            refine HM2.out.mono ?_
            rintro e w64 ⟨mv2, rfl, hmv2, hb⟩
            have HS64 := Lib.hid (HS63.out.next hb); have HN64 := Lib.hid (HN63.out.below hb); have HD64 := Lib.hid (HD63.out.below hb)
            have HCM2 := Lib.hid (RCmp_any _ _ (candD p q kk * ll) (F * kk) w64 (HX63.out.below hb) hmv2 (by omega) (by omega))
            clear hmv2 hb HM2 HS63 HN63 HD63 HX63 m1 m2 s7
            rcases Nat.lt_or_ge (candD p q kk * ll) (F * kk) with hcc | hcc
            · rw [cmpN_lt (by omega)] at HCM2
              have HNW : Hid (Near p q kk (candN p q kk) kk) := by
                show Near _ _ _ _ _
                have hnear := HNR2.out
                rw [HM0.out] at hnear hcc ⊢
                rw [HFF.out, HLL.out] at hcc
                exact Near.better hnear hq hcc
              clear hcc
              go_wp2_with fail
              refine HCM2.out.mono ?_
              rintro e w7 ⟨rfl, j2, hw7⟩
              have hb : Below w64.heap.size w64 w7 := by rw [hw7]; exact below_drewN (Below.refl _ _) j2
              have HS7 := Lib.hid (HS64.out.next hb); have HN7 := Lib.hid (HN64.out.below hb); have HD7 := Lib.hid (HD64.out.below hb)
              clear hb hw7 HS64 HN64 HD64 HCM2
              have HO := Lib.hid (Of_any kk w7 (by omega))
              go_wp2_with fail
              refine HO.out.mono ?_
              rintro e w8 ⟨ov, rfl, hov, hb⟩
              have HS8 := Lib.hid (HS7.out.next hb); have HD8 := Lib.hid (HD7.out.below hb)
              have HLW := Lib.hid (RLow_any _ _ (candN p q kk) kk w8 (HN7.out.below hb) hov (by omega) (by omega) (by omega))
              clear hov hb HO
              go_wp2_with fail
              refine HLW.out.mono ?_
              rintro e w9 ⟨xv, yv, rfl, hxv, hyv, hb⟩
              obtain ⟨xo, xc, rfl, -⟩ := hxv.shape
              obtain ⟨yo, yc, rfl, -⟩ := hyv.shape
              have hS := HS8.out.next hb
              have HSN := Lib.hid (hS.set ⟨_, _, _, rfl⟩ ⟨_, _, _, rfl⟩ (HD8.out.below hb) hxv hyv)
              have d2 := hS.c0; have d3 := hS.c1; have y2 := hS.f0; have y3 := hS.f1
              clear hxv hyv hb hS HS8 HD8 HLW
              go_wp2
              go_roundg (n - kk)
              case measure => have := HM.out; omega
              case rel =>
                have hg := HNW.out.best.2.2.1
                have l1 : lowP (candN p q kk) kk = candN p q kk := by unfold lowP; rw [hg, Nat.div_one]
                have l2 : lowQ (candN p q kk) kk = kk := by unfold lowQ; rw [hg, Nat.div_one]
                have hS := HSN.out
                rw [l1, l2] at hS
                exact ⟨kk + 1, kk, candD p q kk, candN p q kk, kk, _, _, _, rfl, rfl, by go_num, by show _ = _; omega, by omega, by omega, .inr ⟨HNW.out, (cand hq).1.symm, rfl⟩, by rw [l1, l2]; exact hS⟩
            · have hkc : ¬ cmpN ((candD p q kk * ll : Nat) : Int) ((F * kk : Nat) : Int) < 0 := by
                rcases Nat.eq_or_lt_of_le hcc with h | h
                · rw [cmpN_eq (by omega)]; decide
                · rw [cmpN_gt (by omega)]; decide
              have HNW : Hid (Near p q kk B0 B1) := by
                show Near _ _ _ _ _
                have hnear := HNR2.out
                rw [HM0.out] at hnear hcc ⊢
                rw [HFF.out, HLL.out] at hcc
                exact Near.keep hnear hq hcc
              generalize cmpN ((candD p q kk * ll : Nat) : Int) ((F * kk : Nat) : Int) = k7 at *
              clear hcc
              go_wp2_with fail
              refine HCM2.out.mono ?_
              rintro e w7 ⟨rfl, j2, hw7⟩
              have hb : Below w64.heap.size w64 w7 := by rw [hw7]; exact below_drewN (Below.refl _ _) j2
              have HS7 := Lib.hid (HS64.out.next hb)
              clear hb hw7 HS64 HN64 HD64 HCM2
              go_wp2
              go_roundg (n - kk)
              case measure => have := HM.out; omega
              case rel => exact ⟨kk + 1, ll, F, B0, B1, _, _, _, rfl, rfl, by go_num, by show _ = _; omega, by omega, by omega, .inr ⟨HNW.out, HFF.out, HLL.out⟩, HS7.out⟩
    · obtain rfl : kk = n + 1 := by omega
      have hlt' : ¬ ((n + 1 : Nat) : Int) ≤ n := by omega
      have hlt2 : ¬ ((n : Int) + 1) ≤ n := by omega
      have hbest : Near p q n B0 B1 := by
        rcases HNR.out with ⟨h1, -, -⟩ | ⟨h1, -, -⟩
        · have := HN.out; omega
        · exact h1
      have HBE := Lib.hid hbest.best
      have hS := HS.out
      have d0 := hS.c0; have d1 := hS.c1; have y0 := hS.r0; have y1 := hS.r1; have y2 := hS.z0; have y3 := hS.z1
      obtain ⟨t0, t1⟩ := read_two y0 y1 (.slice b0o (nd 65536 B0) b0c) (.slice b1o (nd 65536 B1) b1c)
      have T0 := Lib.hid t0; have T1 := Lib.hid t1
      have E1 := Lib.hid (IsN_setTwo hS.n0 y0 y1 (by intro d h; cases h) (by intro d h; cases h) (.slice b0o (nd 65536 B0) b0c) (.slice b1o (nd 65536 B1) b1c))
      have E2 := Lib.hid (IsN_setTwo hS.n1 y0 y1 (by intro d h; cases h) (by intro d h; cases h) (.slice b0o (nd 65536 B0) b0c) (.slice b1o (nd 65536 B1) b1c))
      have E3 := Lib.hid ((hS.bel.setCell (p := ⟨w.heap.size + 1, 0, none⟩) (by show w.heap.size ≤ w.heap.size + 1; omega) (.slice b0o (nd 65536 B0) b0c)).setCell (p := ⟨w.heap.size + 1, 1, none⟩) (by show w.heap.size ≤ w.heap.size + 1; omega) (.slice b1o (nd 65536 B1) b1c))
      clear hS hbest t0 t1 hlt hk1 hk2
      go_wp2
      have t0 := T0.out; have t1 := T1.out
      refine bodyPost_ret (v := .agg #[.slice b0o (nd 65536 B0) b0c, .slice b1o (nd 65536 B1) b1c]) (by simp [results, Tryz.results12, go_sem, t0, t1]) rfl ⟨_, _, rfl, _, E1.out, _, E2.out, HBE.out, E3.out⟩
end Go.Proofs.YteajinpfigejfaaGreatDoor
namespace Go.Proofs.YteajinpfigejfaaGreatDoor
open Go Go.RowKit Gu

/-- what same keeps: both fractions -/
structure StS (w : World) (v u r s : Value) (P Q : Nat) (W : World) : Prop where
  n1 : D W v P
  n2 : D W u Q
  d1 : R W r P
  d2 : R W s Q
  env : Env W
  bel : Below w.heap.size w W
theorem StS.next {w W W' : World} {v u r s : Value} {P Q : Nat} (h : StS w v u r s P Q W) (hb : Below W.heap.size W W') : StS w v u r s P Q W' :=
  ⟨h.n1.below hb, h.n2.below hb, h.d1.below hb, h.d2.below hb, h.env.below hb, h.bel.trans (hb.mono h.bel.size)⟩
theorem fracText_zero : (⟨(fracText 0 1).toArray⟩ : ByteArray) = ⟨#[48]⟩ := by
  unfold fracText
  rw [if_pos rfl, decDigits_small (by decide)]
  rfl
set_option maxHeartbeats 1000000 in
theorem same_err (v u r s : Value) (n : Int) (w : World) (hv : D w v 0) (hu : D w u 0) (hn : n ≠ 0) (hr : ∃ a, R w r a) (hs : ∃ b, R w s b) (he : Env w) :
    Calls Tryz.prog 9 #[.agg #[v, u], .int .i64 n, .agg #[r, s], .int .i64 n] w fun e w' => e = .returned (.bool true) ∧ Below w.heap.size w w' := by
  have b2 : ∀ o1 o2, Below w.heap.size w ((w.alloc o1).alloc o2) := fun o1 o2 => ((Below.refl _ _).alloc (Nat.le_refl _) _).alloc (by simp) _
  have HST := Lib.hid (fun o1 o2 => FracString_any v u 0 0 ((w.alloc o1).alloc o2) (hv.below (b2 o1 o2)) (hu.below (b2 o1 o2)) (by rw [nd_zero]; omega) (by rw [nd_zero]; omega) (he.below (b2 o1 o2)))
  rw [show dn 0 = 1 from rfl, fracText_zero] at HST
  have HB := Lib.hid b2
  have hq : (n == 0) = false := beq_eq_false_iff_ne.2 hn
  obtain ⟨ao, ac, rfl, -⟩ := hv.shape
  obtain ⟨bo, bc, rfl, -⟩ := hu.shape
  obtain ⟨ra, hr⟩ := hr
  obtain ⟨sa, hs⟩ := hs
  obtain ⟨ro, rc, rfl, -⟩ := hr.shape
  obtain ⟨so, sc, rfl, -⟩ := hs.shape
  clear hv hu hr hs b2 hn
  generalize nd 65536 ra = la at *
  generalize nd 65536 sa = lb at *
  go_enter Tryz.func9, Tryz.ntmps9
  go_wp2_with fail
  refine (HST.out _ _).mono ?_
  rintro e w1 ⟨rfl, hb⟩
  have HBE := Lib.hid ((HB.out _ _).trans (hb.mono (HB.out _ _).size))
  clear hb
  go_wp2
  go_ret
  exact ⟨by simp, HBE.out⟩
set_option maxHeartbeats 2000000 in
set_option maxRecDepth 100000 in
theorem same_ok (v u r s : Value) (P Q : Nat) (w : World) (hv : D w v P) (hu : D w u Q) (hr : R w r P) (hs : R w s Q) (hQ : 0 < Q) (h1 : nd 65536 P ≤ 5000) (h2 : nd 65536 Q ≤ 5000) (he : Env w) :
    Calls Tryz.prog 9 #[.agg #[v, u], .int .i64 0, .agg #[r, s], .int .i64 0] w fun e w' => e = .returned (.bool true) ∧ Below w.heap.size w w' := by
  have k1 := nd_32 h1
  have k2 := nd_32 h2
  obtain ⟨W0, hW0⟩ : ∃ W0 : World, W0 = (w.alloc (.cells #[v, u] 26)).alloc (.cells #[r, s] 29) := ⟨_, rfl⟩
  have hz0 : W0.heap.size = w.heap.size + 2 := by rw [hW0]; simp
  have hbw : Below w.heap.size w W0 := by rw [hW0]; exact ((Below.refl _ _).alloc (Nat.le_refl _) _).alloc (by simp) _
  have hst0 : StS W0 v u r s P Q W0 := ⟨hv.below hbw, hu.below hbw, hr.below hbw, hs.below hbw, he.below hbw, Below.refl _ _⟩
  have ca : ∀ W, Below W0.heap.size W0 W → W.cell? ⟨w.heap.size, 0, none⟩ = some v ∧ W.cell? ⟨w.heap.size, 1, none⟩ = some u ∧ W.cell? ⟨w.heap.size + 1, 0, none⟩ = some r ∧ W.cell? ⟨w.heap.size + 1, 1, none⟩ = some s := fun W hb => by
    have e0 : W0.cell? ⟨w.heap.size, 0, none⟩ = some v := by rw [hW0]; exact (World.cell?_alloc_past _ _ _ (by simp)).trans (World.cell?_alloc_at _ _ _ _ rfl)
    have e1 : W0.cell? ⟨w.heap.size, 1, none⟩ = some u := by rw [hW0]; exact (World.cell?_alloc_past _ _ _ (by simp)).trans (World.cell?_alloc_at _ _ _ _ rfl)
    have e2 : W0.cell? ⟨w.heap.size + 1, 0, none⟩ = some r := by rw [hW0]; exact World.cell?_alloc_at _ _ _ _ (by simp)
    have e3 : W0.cell? ⟨w.heap.size + 1, 1, none⟩ = some s := by rw [hW0]; exact World.cell?_alloc_at _ _ _ _ (by simp)
    exact ⟨(hb.cell (p := ⟨w.heap.size, 0, none⟩) (by show w.heap.size < _; omega)).trans e0, (hb.cell (p := ⟨w.heap.size, 1, none⟩) (by show w.heap.size < _; omega)).trans e1, (hb.cell (p := ⟨w.heap.size + 1, 0, none⟩) (by show w.heap.size + 1 < _; omega)).trans e2, (hb.cell (p := ⟨w.heap.size + 1, 1, none⟩) (by show w.heap.size + 1 < _; omega)).trans e3⟩
  have HCA : Hid (∀ W, StS W0 v u r s P Q W → W.cell? ⟨w.heap.size, 0, none⟩ = some v ∧ W.cell? ⟨w.heap.size, 1, none⟩ = some u ∧ W.cell? ⟨w.heap.size + 1, 0, none⟩ = some r ∧ W.cell? ⟨w.heap.size + 1, 1, none⟩ = some s) := fun W h => ca W h.bel
  obtain ⟨S, hS⟩ : ∃ S : ByteArray, S = ⟨(fracText P Q).toArray⟩ := ⟨_, rfl⟩
  have HSA : Hid (∀ W, StS W0 v u r s P Q W → Calls Tryz.prog 23 #[.agg #[v, u]] W fun e w' => e = .returned (.string S) ∧ StS W0 v u r s P Q w') := fun W h => by
    have h3 := FracString_any v u P Q W h.n1 h.n2 (by omega) (by omega) h.env
    rw [dn_of hQ, ← hS] at h3
    exact h3.mono fun e w' ⟨he, hB⟩ => ⟨he, h.next hB⟩
  have HSB : Hid (∀ W, StS W0 v u r s P Q W → Calls Tryz.prog 39 #[.agg #[r, s]] W fun e w' => e = .returned (.string S) ∧ StS W0 v u r s P Q w') := fun W h => by
    rw [hS]
    exact (RFText_any r s P Q W h.d1 h.d2 (by omega) (by omega)).mono fun e w' ⟨he, hB⟩ => ⟨he, h.next hB⟩
  have HBW := Lib.hid hbw; have HW0 := Lib.hid hW0
  have hs2 := hst0.next ((Below.refl _ W0).drew)
  have hc0 := HCA.out _ hst0
  have hc2 := HCA.out _ hs2
  obtain ⟨ao, ac, rfl, -⟩ := hv.shape
  obtain ⟨bo, bc, rfl, -⟩ := hu.shape
  obtain ⟨ro, rc, rfl, -⟩ := hr.shape
  obtain ⟨so, sc, rfl, -⟩ := hs.shape
  clear hv hu hr hs hz0 hbw hW0 hS ca he k1 k2 h1 h2 hQ
  generalize nd 4294967296 P = la at *
  generalize nd 4294967296 Q = lb at *
  generalize nd 65536 P = lc at *
  generalize nd 65536 Q = ld at *
  go_enter Tryz.func9, Tryz.ntmps9
  go_wp2_with fail
  rw [← HW0.out]
  go_region_held3 (fun W : World => (W.cell? ⟨w.heap.size, 0, none⟩ = some (.slice ao la ac) ∧ W.cell? ⟨w.heap.size, 1, none⟩ = some (.slice bo lb bc) ∧ W.cell? ⟨w.heap.size + 1, 0, none⟩ = some (.slice ro lc rc) ∧ W.cell? ⟨w.heap.size + 1, 1, none⟩ = some (.slice so ld sc)) ∧ StS W0 (.slice ao la ac) (.slice bo lb bc) (.slice ro lc rc) (.slice so ld sc) P Q W) (first | (refine And.intro ?_ ?_ <;> assumption)) (first
    | (go_at_call 23; with_reducible refine (HSA.out _ ?h).mono ?_; (case h => assumption); rintro e w' ⟨rfl, hs'⟩; have hc' := HCA.out _ hs')
    | (go_at_call 39; with_reducible refine (HSB.out _ ?h).mono ?_; (case h => assumption); rintro e w' ⟨rfl, hs'⟩; have hc' := HCA.out _ hs'))
  all_goals
    have hT : StS W0 (.slice ao la ac) (.slice bo lb bc) (.slice ro lc rc) (.slice so ld sc) P Q w' := by assumption
    have HBE := Lib.hid (HBW.out.trans (hT.bel.mono HBW.out.size))
    clear hT
    go_wp2
    go_ret
    exact ⟨by simp, HBE.out⟩
end Go.Proofs.YteajinpfigejfaaGreatDoor
