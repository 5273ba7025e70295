/- Contracts and lemmas (several texts merged into one). -/
import Derived.Test.YteieedfigoihpaaGreatDoorTSz3
import Derived.Test.YteieedfigoihpaaGreatDoorTSz2
import Derived.Test.YteieedfigoihpaaGreatDoorWr
import Derived.Test.YteieedfigoihpaaGreatDoorRows
import Derived.ProofKit
import Derived.LaidMore
import Derived.LaidSub
import Derived.Lay
import Derived.OpenShut
import Derived.Lib.LaidTab
import Derived.Stop.Joined
import Derived.Test.YteieedfigoihpaaGreatDoorRh
import Derived.Carry
namespace Go.Proofs.YteieedfigoihpaaGreatDoor
open Go Go.RowKit Gu

theorem bit_room {t j s : Nat} (hs : s < 16) : dg 65536 (2 ^ (16 * j + s + 1) * t) j + 2 ^ s < 65536 := by
  have e1 : (2 : Nat) ^ (16 * j + s + 1) * t = 65536 ^ j * (2 ^ (s + 1) * t) := by
    rw [Nat.add_assoc, Nat.pow_add, Nat.pow_mul, Nat.mul_assoc]
  have e2 : dg 65536 (2 ^ (16 * j + s + 1) * t) j = 2 ^ (s + 1) * (t % 2 ^ (15 - s)) := by
    unfold dg
    rw [e1, Nat.mul_div_cancel_left _ (Nat.pow_pos (by decide)), show (65536 : Nat) = 2 ^ (s + 1) * 2 ^ (15 - s) from by rw [← Nat.pow_add, show s + 1 + (15 - s) = 16 from by omega], Nat.mul_mod_mul_left]
  rw [e2]
  have h1 : t % 2 ^ (15 - s) < 2 ^ (15 - s) := Nat.mod_lt _ (Nat.pow_pos (by decide))
  have h2 : 2 ^ (s + 1) * (t % 2 ^ (15 - s)) + 2 ^ (s + 1) ≤ 2 ^ (s + 1) * 2 ^ (15 - s) := by rw [← Nat.mul_succ]; exact Nat.mul_le_mul_left _ h1
  rw [← Nat.pow_add, show s + 1 + (15 - s) = 16 from by omega] at h2
  have h3 : 2 ^ (s + 1) = 2 * 2 ^ s := by rw [Nat.pow_succ, Nat.mul_comm]
  have h4 : 0 < 2 ^ s := Nat.pow_pos (by decide)
  omega
theorem nd_twice {z b : Nat} (h : z < 2 * b) : nd 65536 z ≤ nd 65536 b + 1 := by
  have h1 := nd_lt (by decide : 2 ≤ 65536) b
  apply (nd_le (by decide)).2
  rw [Nat.pow_succ]
  omega
/-- one bit of a long division -/
theorem bit_div {a b k : Nat} (hb : 0 < b) :
    (b ≤ (a / 2 ^ (k + 1)) % b * 2 + dg 2 a k → (a / 2 ^ k) % b = (a / 2 ^ (k + 1)) % b * 2 + dg 2 a k - b ∧ 2 ^ k * ((a / 2 ^ k) / b) = 2 ^ (k + 1) * ((a / 2 ^ (k + 1)) / b) + 2 ^ k) ∧
    ((a / 2 ^ (k + 1)) % b * 2 + dg 2 a k < b → (a / 2 ^ k) % b = (a / 2 ^ (k + 1)) % b * 2 + dg 2 a k ∧ 2 ^ k * ((a / 2 ^ k) / b) = 2 ^ (k + 1) * ((a / 2 ^ (k + 1)) / b)) := by
  have e1 := div_succ 2 a k
  have hd := dg_lt (B := 2) (by decide) a k
  have e2 := Nat.div_add_mod (a / 2 ^ (k + 1)) b
  have hm := Nat.mod_lt (a / 2 ^ (k + 1)) hb
  have ep : 2 ^ (k + 1) * ((a / 2 ^ (k + 1)) / b) = 2 ^ k * (2 * ((a / 2 ^ (k + 1)) / b)) := by rw [Nat.pow_succ, Nat.mul_assoc]
  rw [ep]
  generalize a / 2 ^ (k + 1) = y at *
  generalize dg 2 a k = c at *
  have e3 : a / 2 ^ k = (y % b * 2 + c) + b * (2 * (y / b)) := by
    have : b * (2 * (y / b)) = 2 * (b * (y / b)) := Nat.mul_left_comm _ _ _
    omega
  refine ⟨fun h => ?_, fun h => ?_⟩
  · have e4 : a / 2 ^ k = (y % b * 2 + c - b) + b * (2 * (y / b) + 1) := by rw [e3, Nat.mul_add]; omega
    rw [e4, Nat.add_mul_mod_self_left, Nat.add_mul_div_left _ _ hb, Nat.mod_eq_of_lt (by omega), Nat.div_eq_of_lt (by omega), Nat.zero_add, Nat.mul_add, Nat.mul_one]
    exact ⟨rfl, rfl⟩
  · rw [e3, Nat.add_mul_mod_self_left, Nat.add_mul_div_left _ _ hb, Nat.mod_eq_of_lt h, Nat.div_eq_of_lt h, Nat.zero_add]
    exact ⟨rfl, rfl⟩
/-- what the loop of DivMod keeps -/
def DMRel (a b la : Nat) (w : World) (k : Nat) (rv : Value) (wr : World) : Prop :=
  R wr rv ((a / 2 ^ k) % b) ∧ Buf .i64 65536 3 wr w.heap.size la (2 ^ k * ((a / 2 ^ k) / b)) ∧ Below w.heap.size w wr ∧ FR (w.heap.size + 1) rv ((a / 2 ^ k) % b)
set_option maxHeartbeats 4000000 in
set_option maxRecDepth 100000 in
theorem RDivMod_any (v u : Value) (a b : Nat) (w : World) (hv : R w v a) (hu : R w u b) (hb0 : 0 < b) (ha : nd 65536 a ≤ 400000) (hb : nd 65536 b ≤ 400000) :
    Calls Tryz.prog 44 #[v, u] w fun e w' => ∃ q r, e = .returned (.tuple #[q, r]) ∧ R w' q (a / b) ∧ R w' r (a % b) ∧ Below w.heap.size w w' := by
  have hB : 2 ≤ 65536 := by decide
  have HV := Lib.hid hv
  have HU := Lib.hid hu
  obtain ⟨ao, ac, rfl, -⟩ := hv.shape
  obtain ⟨bo, bc, rfl, -⟩ := hu.shape
  clear hv hu
  have HAl := Lib.hid (nd_lt hB a)
  have h2l : nd 2 a ≤ 16 * nd 65536 a := fit_len (Nat.le_refl _)
  have HA2 := Lib.hid (nd_lt (by decide : 2 ≤ 2) a)
  obtain ⟨la, hla⟩ : ∃ la, la = nd 65536 a := ⟨_, rfl⟩
  obtain ⟨l2, hl2⟩ : ∃ l2, l2 = nd 2 a := ⟨_, rfl⟩
  rw [← hla] at HV HAl h2l ha ⊢
  rw [← hl2] at h2l HA2
  have HLA := Lib.hid hla
  have HL2 := Lib.hid hl2
  have HBL : Hid (∀ W, R W (.slice ao la ac) a → Calls Tryz.prog 65 #[.slice ao la ac] W fun e w' => e = .returned (.int .i64 l2) ∧ W = w') := fun W h => by rw [HL2.out]; exact RBitLen_any _ a W h (by rw [← HLA.out]; omega)
  clear hla hl2
  have hmk := made_int la (by omega)
  go_enter Tryz.func44, Tryz.ntmps44
  go_wp2_with fail
  have hw1 : Below w.heap.size w (w.alloc (.cells (madeCells #[.int .i64 0] la) 3)) := (Below.refl _ _).alloc (Nat.le_refl _) _
  refine (HBL.out _ (HV.out.below hw1)).mono ?_
  rintro e w' ⟨rfl, rfl⟩
  have HST : Hid (DMRel a b la w l2 (.slice none 0 0) (w.alloc (.cells (madeCells #[.int .i64 0] la) 3))) := by
    have h1 : a / 2 ^ l2 = 0 := Nat.div_eq_of_lt HA2.out
    refine ⟨by rw [h1, Nat.zero_mod]; exact IsN.zero _ _ _ _ _, by rw [h1, Nat.zero_div, Nat.mul_zero]; exact Buf.made _ _ _ _ _, hw1, fun _ _ _ _ he => by cases he⟩
  clear hw1
  have HL1 := Lib.hid h2l
  go_wp2
  go_loopg [7, 8] l2 (fun m rv x wr => x = .int .i64 ((m : Int) - 1) ∧ Hid (m ≤ l2) ∧ DMRel a b la w m rv wr)
  case atStart => exact ⟨rfl, Nat.le_refl _, HST.out⟩
  case round =>
    obtain ⟨rfl, HML, hrel⟩ := hrel
    have HR := Lib.hid hrel
    obtain ⟨r0, rc, rfl, -⟩ := hrel.1.shape
    clear hrel
    cases gk with
    | zero =>
      rw [show ((0 : Nat) : Int) - 1 = -1 from rfl]
      have hq := HR.out.2.1
      have hr := HR.out.1
      rw [Nat.pow_zero, Nat.div_one, Nat.one_mul] at hq
      rw [Nat.pow_zero, Nat.div_one] at hr
      have hql : a / b < 65536 ^ la := Nat.lt_of_le_of_lt (Nat.div_le_self _ _) HAl.out
      have HT := Lib.hid (Trim_buf w.heap.size la la (a / b) wr hq hql (by omega) (Nat.le_refl _))
      have HQ := Lib.hid (Gu.Buf.isN hq hB hql la)
      have HRR := Lib.hid hr
      have HBE := Lib.hid HR.out.2.2.1
      clear hq hr hql HR
      obtain ⟨x, hx⟩ : ∃ x, x = a / 2 ^ 0 % b := ⟨_, rfl⟩
      rw [← hx]
      have HX := Lib.hid hx
      clear hx
      go_wp2_with fail
      refine HT.out.mono ?_
      rintro e w' ⟨rfl, rfl⟩
      go_wp2
      go_ret2
      exact ⟨_, _, rfl, HQ.out, by rw [HX.out, Nat.pow_zero, Nat.div_one]; exact HRR.out, HBE.out⟩
    | succ k =>
      rw [show ((k + 1 : Nat) : Int) - 1 = k from by omega]
      have hkl : k < 16 * la := by have := HML.out; have := HL1.out; omega
      have hbd := bit_div (a := a) (k := k) hb0
      have hmb := Nat.mod_lt (a / 2 ^ (k + 1)) hb0
      have hc2 := dg_lt (B := 2) (by decide) a k
      have hroom := bit_room (t := (a / 2 ^ (k + 1)) / b) (j := k / 16) (s := k % 16) (by omega)
      rw [show 16 * (k / 16) + k % 16 + 1 = k + 1 from by omega] at hroom
      have HSH := Lib.hid (fun W v (h : R W v (a / 2 ^ (k + 1) % b)) => RShl_f v _ 1 W h (by have := nd_mono (B := 65536) (by decide) (Nat.le_of_lt hmb); omega) (by omega))
      rw [Nat.pow_one] at HSH
      have HBI := Lib.hid (fun W (h : R W (.slice ao la ac) a) => RBit_any _ a (k : Int) W h (by omega) (by rw [← HLA.out]; omega))
      rw [show bitN a (k : Int) = dg 2 a k from by unfold bitN; rw [if_neg (by omega), Int.toNat_natCast]] at HBI
      obtain ⟨x, hx⟩ : ∃ x, x = a / 2 ^ (k + 1) % b := ⟨_, rfl⟩
      obtain ⟨Q, hQ⟩ : ∃ Q, Q = 2 ^ (k + 1) * (a / 2 ^ (k + 1) / b) := ⟨_, rfl⟩
      have hrel := HR.out
      unfold DMRel at hrel
      rw [← hx, ← hQ] at hrel
      rw [← hx] at HSH hbd hmb ⊢
      rw [← hQ] at hbd hroom
      obtain ⟨c, hc⟩ : ∃ c, c = dg 2 a k := ⟨_, rfl⟩
      rw [← hc] at hbd hc2 HBI
      have HBD := Lib.hid hbd
      have HRE := Lib.hid hrel
      have HRO := Lib.hid hroom
      clear hbd hrel hroom hx hQ hc HR HST
      go_wp2_with fail
      refine (HSH.out _ _ HRE.out.1).mono ?_
      rintro e w2 ⟨sv, rfl, hs, hb2, hf2⟩
      obtain ⟨s0, sc, rfl, -⟩ := hs.shape
      have HS2 := Lib.hid hs
      have HB2 := Lib.hid hb2
      have HF2 := Lib.hid (hf2.mono (show w.heap.size + 1 ≤ wr.heap.size from Gu.Buf.lt HRE.out.2.1))
      have HVA := Lib.hid ((HV.out.below HRE.out.2.2.1).below hb2)
      clear hs hb2 hf2
      go_wp2_with fail
      refine (HBI.out _ HVA.out).mono ?_
      rintro e w3 ⟨rfl, hb3⟩
      have HS3 := Lib.hid (HS2.out.below hb3)
      have HB3 := Lib.hid (HB2.out.trans (hb3.mono HB2.out.size))
      clear hb3 HS2 HB2 HVA
      have hx16 := nd_twice (show x * 2 < 2 * b by omega)
      rcases (show c = 0 ∨ c = 1 by omega) with rfl | rfl
      · obtain ⟨z, hz⟩ : ∃ z, z = x * 2 := ⟨_, rfl⟩
        obtain ⟨wz, rfl⟩ : ∃ wz, wz = w3 := ⟨_, rfl⟩
        rw [← hz] at HS3 ⊢
        rw [Nat.add_zero, ← hz] at HBD
        have HZ := HS3
        have HBZ := HB3
        have HFZ : Hid (FR (w.heap.size + 1) (.slice s0 (nd 65536 z) sc) z) := by rw [hz]; rw [hz] at HS3; exact HF2.out
        have HZE := Lib.hid hz
        have hzx : z < 2 * b := by omega
        clear hz
        have hzb : z < 2 * b := by omega
        have hz16 := nd_twice hzb
        have HUC := Lib.hid (HU.out.below (HRE.out.2.2.1.trans (HBZ.out.mono HRE.out.2.2.1.size)))
        have HCM := Lib.hid (RCmp_any _ _ z b wz HZ.out HUC.out (by omega) (by omega))
        by_cases hge : b ≤ z
        · have hcm : 0 ≤ cmpN z b := by unfold cmpN; rw [if_neg (by omega)]; split <;> omega
          have hds := HBD.out.1 hge
          have HDS := Lib.hid hds
          have HSU := Lib.hid (fun q => RSub_f _ _ z b (wz.drewN q) (IsN.drewN HZ.out q) (IsN.drewN HUC.out q) (by omega) (by omega) hge)
          have HQB := Lib.hid (Gu.Buf.below HRE.out.2.1 HBZ.out (Gu.Buf.lt HRE.out.2.1))
          have HBW := Lib.hid (HRE.out.2.2.1.trans (HBZ.out.mono HRE.out.2.2.1.size))
          clear hds hge hzb
          generalize cmpN z b = cm at *
          go_wp2_with fail
          refine HCM.out.mono ?_
          rintro e w' ⟨rfl, q, rfl⟩
          go_wp2_with fail
          refine (HSU.out q).mono ?_
          rintro e w6 ⟨nv, rfl, hn, hb6, hf6⟩
          obtain ⟨n0, nc, rfl, -⟩ := hn.shape
          have hq6 := Gu.Buf.below (Gu.Buf.below HQB.out (below_drewN (Below.refl _ _) q) (Gu.Buf.lt HQB.out)) hb6 (Gu.Buf.lt HQB.out)
          have HBF := Lib.hid ((HBW.out.trans ((below_drewN (Below.refl _ _) q).mono HBW.out.size)).trans (hb6.mono HBW.out.size))
          have hjl : k / 16 < la := by omega
          have hcell := Gu.Buf.cell hq6 (i := k / 16) hjl
          have hfr := Gu.Buf.frozen hq6 (k / 16)
          have HQ6 := Lib.hid hq6
          have HF6 := Lib.hid (hf6.mono (show w.heap.size + 1 ≤ (wz.drewN q).heap.size from Gu.Buf.lt HQB.out))
          have HN := Lib.hid hn
          have HAT : Hid (∀ W, Buf .i64 65536 3 W w.heap.size la Q → Buf .i64 65536 3 (W.setCell ⟨w.heap.size, k / 16, none⟩ (.int .i64 (dg 65536 Q (k / 16) + 2 ^ (k % 16) : Nat))) w.heap.size la (Q + 2 ^ k)) := by
            intro W hW
            have h1 := Buf.at hW (by decide) (k / 16) HRO.out
            have h2 := at_val (B := 65536) (V := Q) (j := k / 16) (d := dg 65536 Q (k / 16) + 2 ^ (k % 16))
            have h4 : 65536 ^ (k / 16) * (dg 65536 Q (k / 16) + 2 ^ (k % 16)) = 65536 ^ (k / 16) * dg 65536 Q (k / 16) + 65536 ^ (k / 16) * 2 ^ (k % 16) := Nat.mul_add _ _ _
            have h3 : 65536 ^ (k / 16) * 2 ^ (k % 16) = 2 ^ k := by
              rw [show (65536 : Nat) = 2 ^ 16 from by decide, ← Nat.pow_mul, ← Nat.pow_add]
              congr 1; omega
            rw [h3] at h4
            rw [show Q + 2 ^ k = Q % 65536 ^ (k / 16) + 65536 ^ (k / 16) * (dg 65536 Q (k / 16) + 2 ^ (k % 16) + 65536 * (Q / 65536 ^ (k / 16 + 1))) from by omega]
            exact h1
          have hpw : 2 ^ (k % 16) ≤ 65536 := Nat.le_trans (Nat.pow_le_pow_right (by decide) (show k % 16 ≤ 16 by omega)) (by decide)
          have HP := Lib.hid (fun w => power_any (k % 16) w (by omega))
          have hdq := dg_lt (B := 65536) (by decide) Q (k / 16)
          obtain ⟨j, hj⟩ : ∃ j, j = k / 16 := ⟨_, rfl⟩
          obtain ⟨s, hs⟩ : ∃ s, s = k % 16 := ⟨_, rfl⟩
          have q1 : (k : Int) / 16 = j := by omega
          have q2 : (k : Int) % 16 = s := by omega
          have ht1 : (k : Int).tdiv 16 = j := by rw [Int.tdiv_eq_ediv_of_nonneg (by omega)]; omega
          have ht2 : (k : Int).tmod 16 = s := by rw [Int.tmod_eq_emod_of_nonneg (by omega)]; omega
          have ht3 : IntKind.i64.wrap ((k : Int) / 16) = j := by rw [q1]; exact IntWalk.i64_in _ (by omega)
          have ht4 : IntKind.i64.wrap ((k : Int).tdiv 16) = j := by rw [ht1]; exact IntWalk.i64_in _ (by omega)
          have ht5 : IntKind.i64.wrap (j : Int) = j := IntWalk.i64_in _ (by omega)
          rw [← hj] at hcell hfr HAT hdq hjl
          rw [← hs] at HAT hpw HP
          clear hj hs hq6 hn hb6 hf6 HRO
          generalize dg 65536 Q j = dq at *
          obtain ⟨pw, hpe⟩ : ∃ pw, pw = 2 ^ s := ⟨_, rfl⟩
          rw [← hpe] at HAT hpw HP
          clear hpe
          have hjl2 : (j : Int) < la := by omega
          have hj0 : (0 : Int) ≤ j := by omega
          go_wp2_with fail
          have hwq : ((dq : Int) + pw) = ((dq + pw : Nat) : Int) := by omega
          have HNEW : Hid (DMRel a b la w k (.slice n0 (nd 65536 (z - b)) nc) (w6.setCell ⟨w.heap.size, j, none⟩ (.int .i64 ((dq : Int) + pw))).drew) := by
            rw [hwq]
            refine ⟨?_, ?_, ?_, ?_⟩
            · rw [HDS.out.1]
              exact (FR.setCell HN.out HF6.out (Nat.lt_succ_self _)).below (Below.refl _ _).drew
            · rw [HDS.out.2]
              exact HAT.out w6 HQ6.out
            · exact (HBF.out.setCell (Nat.le_refl _) _).drew
            · rw [HDS.out.1]; exact HF6.out
          clear hwq
          go_region_with (go_at_call 67; refine (HP.out _).mono ?_; rintro e w' ⟨rfl, rfl⟩)
          all_goals go_wp2
          all_goals go_roundg k
          all_goals first | exact Nat.lt_succ_self _ | exact ⟨by go_num, Nat.le_of_succ_le HML.out, HNEW.out⟩
        · have hcm : cmpN z b = -1 := cmpN_lt (by omega)
          have hds := HBD.out.2 (by omega)
          have HNEW : Hid (∀ q, DMRel a b la w k (.slice s0 (nd 65536 z) sc) (wz.drewN q)) := fun q => by
            refine ⟨?_, ?_, ?_, ?_⟩
            · rw [hds.1]; exact IsN.drewN HZ.out q
            · rw [hds.2]; exact Gu.Buf.below (Gu.Buf.below HRE.out.2.1 HBZ.out (Gu.Buf.lt HRE.out.2.1)) (below_drewN (Below.refl _ _) q) (Gu.Buf.lt (Gu.Buf.below HRE.out.2.1 HBZ.out (Gu.Buf.lt HRE.out.2.1)))
            · exact below_drewN (HRE.out.2.2.1.trans (HBZ.out.mono HRE.out.2.2.1.size)) q
            · rw [hds.1]; exact HFZ.out
          rw [hcm] at HCM
          clear hcm hds hge hzb
          go_wp2_with fail
          refine HCM.out.mono ?_
          rintro e w' ⟨rfl, q, rfl⟩
          have HN2 := HNEW.out q
          go_wp2
          go_roundg k
          case measure => exact Nat.lt_succ_self _
          case rel => exact ⟨by go_num, Nat.le_of_succ_le HML.out, HN2⟩
      · have HOF := Lib.hid (Of_any 1 w3 (by decide))
        have HAD := Lib.hid (fun W o (h1 : R W (.slice s0 (nd 65536 (x * 2)) sc) (x * 2)) (h2 : R W o 1) => RAdd_f _ o (x * 2) 1 W h1 h2 (by omega) (by have := (nd_le (B := 65536) (n := 1) (k := 1) (by decide)).2 (by decide); omega))
        go_wp2_with fail
        refine HOF.out.mono ?_
        rintro e w4 ⟨ov, rfl, ho, hb4⟩
        obtain ⟨o0, oc, rfl, -⟩ := ho.shape
        have HA4 := Lib.hid (HAD.out _ _ (HS3.out.below hb4) ho)
        have HB4 := Lib.hid (HB3.out.trans (hb4.mono HB3.out.size))
        clear ho hb4 HOF HAD
        go_wp2_with fail
        refine HA4.out.mono ?_
        rintro e w5 ⟨zv, rfl, hzv, hb5, hf5⟩
        obtain ⟨z0, zc, rfl, -⟩ := hzv.shape
        have HBZ := Lib.hid (HB4.out.trans (hb5.mono HB4.out.size))
        have hlt4 : w.heap.size + 1 ≤ w4.heap.size := Nat.le_trans (show w.heap.size + 1 ≤ wr.heap.size from Gu.Buf.lt HRE.out.2.1) HB4.out.size
        obtain ⟨z, hz⟩ : ∃ z, z = x * 2 + 1 := ⟨_, rfl⟩
        obtain ⟨wz, rfl⟩ : ∃ wz, wz = w5 := ⟨_, rfl⟩
        rw [← hz] at hzv hf5 ⊢
        rw [← hz] at HBD
        have HZ := Lib.hid hzv
        have HFZ : Hid (FR (w.heap.size + 1) (.slice z0 (nd 65536 z) zc) z) := hf5.mono hlt4
        have HZE := Lib.hid hz
        have hzx : z < 2 * b := by omega
        clear hz hzv hf5 hb5 HA4
        have hzb : z < 2 * b := by omega
        have hz16 := nd_twice hzb
        have HUC := Lib.hid (HU.out.below (HRE.out.2.2.1.trans (HBZ.out.mono HRE.out.2.2.1.size)))
        have HCM := Lib.hid (RCmp_any _ _ z b wz HZ.out HUC.out (by omega) (by omega))
        by_cases hge : b ≤ z
        · have hcm : 0 ≤ cmpN z b := by unfold cmpN; rw [if_neg (by omega)]; split <;> omega
          have hds := HBD.out.1 hge
          have HDS := Lib.hid hds
          have HSU := Lib.hid (fun q => RSub_f _ _ z b (wz.drewN q) (IsN.drewN HZ.out q) (IsN.drewN HUC.out q) (by omega) (by omega) hge)
          have HQB := Lib.hid (Gu.Buf.below HRE.out.2.1 HBZ.out (Gu.Buf.lt HRE.out.2.1))
          have HBW := Lib.hid (HRE.out.2.2.1.trans (HBZ.out.mono HRE.out.2.2.1.size))
          clear hds hge hzb
          generalize cmpN z b = cm at *
          go_wp2_with fail
          refine HCM.out.mono ?_
          rintro e w' ⟨rfl, q, rfl⟩
          go_wp2_with fail
          refine (HSU.out q).mono ?_
          rintro e w6 ⟨nv, rfl, hn, hb6, hf6⟩
          obtain ⟨n0, nc, rfl, -⟩ := hn.shape
          have hq6 := Gu.Buf.below (Gu.Buf.below HQB.out (below_drewN (Below.refl _ _) q) (Gu.Buf.lt HQB.out)) hb6 (Gu.Buf.lt HQB.out)
          have HBF := Lib.hid ((HBW.out.trans ((below_drewN (Below.refl _ _) q).mono HBW.out.size)).trans (hb6.mono HBW.out.size))
          have hjl : k / 16 < la := by omega
          have hcell := Gu.Buf.cell hq6 (i := k / 16) hjl
          have hfr := Gu.Buf.frozen hq6 (k / 16)
          have HQ6 := Lib.hid hq6
          have HF6 := Lib.hid (hf6.mono (show w.heap.size + 1 ≤ (wz.drewN q).heap.size from Gu.Buf.lt HQB.out))
          have HN := Lib.hid hn
          have HAT : Hid (∀ W, Buf .i64 65536 3 W w.heap.size la Q → Buf .i64 65536 3 (W.setCell ⟨w.heap.size, k / 16, none⟩ (.int .i64 (dg 65536 Q (k / 16) + 2 ^ (k % 16) : Nat))) w.heap.size la (Q + 2 ^ k)) := by
            intro W hW
            have h1 := Buf.at hW (by decide) (k / 16) HRO.out
            have h2 := at_val (B := 65536) (V := Q) (j := k / 16) (d := dg 65536 Q (k / 16) + 2 ^ (k % 16))
            have h4 : 65536 ^ (k / 16) * (dg 65536 Q (k / 16) + 2 ^ (k % 16)) = 65536 ^ (k / 16) * dg 65536 Q (k / 16) + 65536 ^ (k / 16) * 2 ^ (k % 16) := Nat.mul_add _ _ _
            have h3 : 65536 ^ (k / 16) * 2 ^ (k % 16) = 2 ^ k := by
              rw [show (65536 : Nat) = 2 ^ 16 from by decide, ← Nat.pow_mul, ← Nat.pow_add]
              congr 1; omega
            rw [h3] at h4
            rw [show Q + 2 ^ k = Q % 65536 ^ (k / 16) + 65536 ^ (k / 16) * (dg 65536 Q (k / 16) + 2 ^ (k % 16) + 65536 * (Q / 65536 ^ (k / 16 + 1))) from by omega]
            exact h1
          have hpw : 2 ^ (k % 16) ≤ 65536 := Nat.le_trans (Nat.pow_le_pow_right (by decide) (show k % 16 ≤ 16 by omega)) (by decide)
          have HP := Lib.hid (fun w => power_any (k % 16) w (by omega))
          have hdq := dg_lt (B := 65536) (by decide) Q (k / 16)
          obtain ⟨j, hj⟩ : ∃ j, j = k / 16 := ⟨_, rfl⟩
          obtain ⟨s, hs⟩ : ∃ s, s = k % 16 := ⟨_, rfl⟩
          have q1 : (k : Int) / 16 = j := by omega
          have q2 : (k : Int) % 16 = s := by omega
          have ht1 : (k : Int).tdiv 16 = j := by rw [Int.tdiv_eq_ediv_of_nonneg (by omega)]; omega
          have ht2 : (k : Int).tmod 16 = s := by rw [Int.tmod_eq_emod_of_nonneg (by omega)]; omega
          have ht3 : IntKind.i64.wrap ((k : Int) / 16) = j := by rw [q1]; exact IntWalk.i64_in _ (by omega)
          have ht4 : IntKind.i64.wrap ((k : Int).tdiv 16) = j := by rw [ht1]; exact IntWalk.i64_in _ (by omega)
          have ht5 : IntKind.i64.wrap (j : Int) = j := IntWalk.i64_in _ (by omega)
          rw [← hj] at hcell hfr HAT hdq hjl
          rw [← hs] at HAT hpw HP
          clear hj hs hq6 hn hb6 hf6 HRO
          generalize dg 65536 Q j = dq at *
          obtain ⟨pw, hpe⟩ : ∃ pw, pw = 2 ^ s := ⟨_, rfl⟩
          rw [← hpe] at HAT hpw HP
          clear hpe
          have hjl2 : (j : Int) < la := by omega
          have hj0 : (0 : Int) ≤ j := by omega
          go_wp2_with fail
          have hwq : ((dq : Int) + pw) = ((dq + pw : Nat) : Int) := by omega
          have HNEW : Hid (DMRel a b la w k (.slice n0 (nd 65536 (z - b)) nc) (w6.setCell ⟨w.heap.size, j, none⟩ (.int .i64 ((dq : Int) + pw))).drew) := by
            rw [hwq]
            refine ⟨?_, ?_, ?_, ?_⟩
            · rw [HDS.out.1]
              exact (FR.setCell HN.out HF6.out (Nat.lt_succ_self _)).below (Below.refl _ _).drew
            · rw [HDS.out.2]
              exact HAT.out w6 HQ6.out
            · exact (HBF.out.setCell (Nat.le_refl _) _).drew
            · rw [HDS.out.1]; exact HF6.out
          clear hwq
          go_region_with (go_at_call 67; refine (HP.out _).mono ?_; rintro e w' ⟨rfl, rfl⟩)
          all_goals go_wp2
          all_goals go_roundg k
          all_goals first | exact Nat.lt_succ_self _ | exact ⟨by go_num, Nat.le_of_succ_le HML.out, HNEW.out⟩
        · have hcm : cmpN z b = -1 := cmpN_lt (by omega)
          have hds := HBD.out.2 (by omega)
          have HNEW : Hid (∀ q, DMRel a b la w k (.slice z0 (nd 65536 z) zc) (wz.drewN q)) := fun q => by
            refine ⟨?_, ?_, ?_, ?_⟩
            · rw [hds.1]; exact IsN.drewN HZ.out q
            · rw [hds.2]; exact Gu.Buf.below (Gu.Buf.below HRE.out.2.1 HBZ.out (Gu.Buf.lt HRE.out.2.1)) (below_drewN (Below.refl _ _) q) (Gu.Buf.lt (Gu.Buf.below HRE.out.2.1 HBZ.out (Gu.Buf.lt HRE.out.2.1)))
            · exact below_drewN (HRE.out.2.2.1.trans (HBZ.out.mono HRE.out.2.2.1.size)) q
            · rw [hds.1]; exact HFZ.out
          rw [hcm] at HCM
          clear hcm hds hge hzb
          go_wp2_with fail
          refine HCM.out.mono ?_
          rintro e w' ⟨rfl, q, rfl⟩
          have HN2 := HNEW.out q
          go_wp2
          go_roundg k
          case measure => exact Nat.lt_succ_self _
          case rel => exact ⟨by go_num, Nat.le_of_succ_le HML.out, HN2⟩
end Go.Proofs.YteieedfigoihpaaGreatDoor
namespace Go.Proofs.YteieedfigoihpaaGreatDoor
open Go Go.RowKit Gu

set_option maxHeartbeats 1000000 in
theorem RLow_any (v u : Value) (a b : Nat) (w : World) (hv : R w v a) (hu : R w u b) (hb0 : 0 < b) (ha : nd 65536 a ≤ 1000) (hb : nd 65536 b ≤ 1000) :
    Calls Tryz.prog 23 #[v, u] w fun e w' => ∃ r s, e = .returned (.agg #[r, s]) ∧ R w' r (lowP a b) ∧ R w' s (lowQ a b) ∧ Below w.heap.size w w' := by
  have b1 : ∀ o, Below w.heap.size w (w.alloc o) := fun o => (Below.refl _ _).alloc (Nat.le_refl _) _
  by_cases h0 : a = 0
  · subst h0
    have e1 : lowP 0 b = 0 := by unfold lowP; rw [Nat.zero_div]
    have e2 : lowQ 0 b = 1 := by unfold lowQ; rw [Nat.gcd_zero_left, Nat.div_self hb0]
    rw [e1, e2]
    obtain ⟨ao, ac, rfl, -⟩ := hv.shape
    rw [nd_zero]
    have HB := Lib.hid b1
    clear hv hu b1
    go_enter Tryz.func23, Tryz.ntmps23
    go_wp2_with fail
    refine (Of_any 1 _ (by decide)).mono ?_
    rintro e w1 ⟨r, rfl, hr, hb1⟩
    obtain ⟨ro, rc, rfl, -⟩ := hr.shape
    have d0 : w1.cell? ⟨w.heap.size, 0, none⟩ = some (.slice none 0 0) := (hb1.cell (p := ⟨w.heap.size, 0, none⟩) (by simp)).trans (World.cell?_alloc_at _ _ _ _ rfl)
    have d1 : w1.cell? ⟨w.heap.size, 1, none⟩ = some (.slice none 0 0) := (hb1.cell (p := ⟨w.heap.size, 1, none⟩) (by simp)).trans (World.cell?_alloc_at _ _ _ _ rfl)
    have g0 : w1.frozen? ⟨w.heap.size, 0, none⟩ = false := (hb1.frozen (p := ⟨w.heap.size, 0, none⟩) (by simp)).trans (World.frozen?_alloc_at _ _ _ _ rfl)
    have g1 : w1.frozen? ⟨w.heap.size, 1, none⟩ = false := (hb1.frozen (p := ⟨w.heap.size, 1, none⟩) (by simp)).trans (World.frozen?_alloc_at _ _ _ _ rfl)
    obtain ⟨t0, t1⟩ := read_two d0 d1 (.slice none 0 0) (.slice ro (nd 65536 1) rc)
    have HX : Hid (R ((w1.setCell ⟨w.heap.size, 0, none⟩ (.slice none 0 0)).setCell ⟨w.heap.size, 1, none⟩ (.slice ro (nd 65536 1) rc)) (.slice ro (nd 65536 1) rc) 1) := IsN_setTwo hr d0 d1 (by intro d h; cases h) (by intro d h; cases h) _ _
    have HBE := Lib.hid ((((HB.out _).trans (hb1.mono (by simp))).setCell (p := ⟨w.heap.size, 0, none⟩) (Nat.le_refl _) (.slice none 0 0)).setCell (p := ⟨w.heap.size, 1, none⟩) (Nat.le_refl _) (.slice ro (nd 65536 1) rc))
    have T0 := Lib.hid t0; have T1 := Lib.hid t1
    clear hr hb1 t0 t1
    go_wp2
    have t0 := T0.out; have t1 := T1.out
    refine bodyPost_ret (v := .agg #[.slice none 0 0, .slice ro (nd 65536 1) rc]) (by simp [results, Tryz.results23, go_sem, t0, t1]) rfl ⟨_, _, rfl, IsN.zero _ _ _ _ _, HX.out, HBE.out⟩
  · have ha0 : 0 < a := Nat.pos_of_ne_zero h0
    have hg0 : 0 < Nat.gcd a b := Nat.gcd_pos_of_pos_left _ ha0
    have hg16 : nd 65536 (Nat.gcd a b) ≤ 1000 := Nat.le_trans (nd_mono (by decide) (Nat.gcd_le_left _ ha0)) ha
    have hl := nd_pos (B := 65536) (by decide) ha0
    have hq : ((((nd 65536 a : Nat)) : Int) == 0) = false := beq_eq_false_iff_ne.2 (by omega)
    have HG := Lib.hid (fun o => RGcd_any v u a b (w.alloc o) (hv.below (b1 o)) (hu.below (b1 o)) ha hb)
    have HD1 := Lib.hid (fun g W (h : Below w.heap.size w W) (h' : R W g (Nat.gcd a b)) => RDivMod_any v g a (Nat.gcd a b) W (hv.below h) h' hg0 (by omega) (by omega))
    have HD2 := Lib.hid (fun g W (h : Below w.heap.size w W) (h' : R W g (Nat.gcd a b)) => RDivMod_any u g b (Nat.gcd a b) W (hu.below h) h' hg0 (by omega) (by omega))
    rw [show a / Nat.gcd a b = lowP a b from rfl] at HD1
    rw [show b / Nat.gcd a b = lowQ a b from rfl] at HD2
    have HB := Lib.hid b1
    obtain ⟨ao, ac, rfl, -⟩ := hv.shape
    obtain ⟨bo, bc, rfl, -⟩ := hu.shape
    clear hv hu b1 h0 hg0 hg16 hl
    generalize lowP a b = P at *
    generalize lowQ a b = Q at *
    generalize a % Nat.gcd a b = m1 at *
    generalize b % Nat.gcd a b = m2 at *
    generalize Nat.gcd a b = G at *
    go_enter Tryz.func23, Tryz.ntmps23
    go_wp2_with fail
    refine (HG.out _).mono ?_
    rintro e w1 ⟨g, rfl, hg, hb1⟩
    obtain ⟨go, gc, rfl, -⟩ := hg.shape
    have HB1 := Lib.hid hb1; have HGG := Lib.hid hg
    have HW1 := Lib.hid ((HB.out _).trans (hb1.mono (by simp)))
    clear hg hb1
    go_wp2_with fail
    refine (HD1.out _ _ HW1.out HGG.out).mono ?_
    rintro e w2 ⟨p, m, rfl, hp, -, hb2⟩
    obtain ⟨po, pc, rfl, -⟩ := hp.shape
    have HB2 := Lib.hid (HB1.out.trans (hb2.mono HB1.out.size)); have HP := Lib.hid hp
    have HW2 := Lib.hid (HW1.out.trans (hb2.mono HW1.out.size)); have HG2 := Lib.hid (HGG.out.below hb2)
    clear hp hb2
    go_wp2_with fail
    refine (HD2.out _ _ HW2.out HG2.out).mono ?_
    rintro e w3 ⟨q, m', rfl, hq', -, hb3⟩
    obtain ⟨qo, qc, rfl, -⟩ := hq'.shape
    have hb := HB2.out.trans (hb3.mono HB2.out.size)
    have d0 : w3.cell? ⟨w.heap.size, 0, none⟩ = some (.slice none 0 0) := (hb.cell (p := ⟨w.heap.size, 0, none⟩) (by simp)).trans (World.cell?_alloc_at _ _ _ _ rfl)
    have d1 : w3.cell? ⟨w.heap.size, 1, none⟩ = some (.slice none 0 0) := (hb.cell (p := ⟨w.heap.size, 1, none⟩) (by simp)).trans (World.cell?_alloc_at _ _ _ _ rfl)
    have g0 : w3.frozen? ⟨w.heap.size, 0, none⟩ = false := (hb.frozen (p := ⟨w.heap.size, 0, none⟩) (by simp)).trans (World.frozen?_alloc_at _ _ _ _ rfl)
    have g1 : w3.frozen? ⟨w.heap.size, 1, none⟩ = false := (hb.frozen (p := ⟨w.heap.size, 1, none⟩) (by simp)).trans (World.frozen?_alloc_at _ _ _ _ rfl)
    obtain ⟨t0, t1⟩ := read_two d0 d1 (.slice po (nd 65536 P) pc) (.slice qo (nd 65536 Q) qc)
    have HX := Lib.hid (IsN_setTwo (HP.out.below hb3) d0 d1 (by intro d h; cases h) (by intro d h; cases h) (.slice po (nd 65536 P) pc) (.slice qo (nd 65536 Q) qc))
    have HY := Lib.hid (IsN_setTwo hq' d0 d1 (by intro d h; cases h) (by intro d h; cases h) (.slice po (nd 65536 P) pc) (.slice qo (nd 65536 Q) qc))
    have HBE := Lib.hid ((((HB.out _).trans (hb.mono (by simp))).setCell (p := ⟨w.heap.size, 0, none⟩) (Nat.le_refl _) (.slice po (nd 65536 P) pc)).setCell (p := ⟨w.heap.size, 1, none⟩) (Nat.le_refl _) (.slice qo (nd 65536 Q) qc))
    have T0 := Lib.hid t0; have T1 := Lib.hid t1
    clear hq' hb hb3 t0 t1
    go_wp2
    have t0 := T0.out; have t1 := T1.out
    refine bodyPost_ret (v := .agg #[.slice po (nd 65536 P) pc, .slice qo (nd 65536 Q) qc]) (by simp [results, Tryz.results23, go_sem, t0, t1]) rfl ⟨_, _, rfl, HX.out, HY.out, HBE.out⟩
/-- what a region over a fraction of the document keeps -/
structure StR (W0 : World) (v u : Value) (a b : Nat) (W : World) : Prop where
  n1 : R W v a
  n2 : R W u b
  bel : Below W0.heap.size W0 W
theorem StR.next {W0 W W' : World} {v u : Value} {a b : Nat} (h : StR W0 v u a b W) (hb : Below W.heap.size W W') : StR W0 v u a b W' :=
  ⟨h.n1.below hb, h.n2.below hb, h.bel.trans (hb.mono h.bel.size)⟩
theorem StR.cell {W0 W : World} {v u x : Value} {a b k o : Nat} (h : StR W0 v u a b W) (hk : k < W0.heap.size) (hc : W0.cell? ⟨k, o, none⟩ = some x) : W.cell? ⟨k, o, none⟩ = some x :=
  (h.bel.cell (p := ⟨k, o, none⟩) hk).trans hc
set_option maxHeartbeats 2000000 in
set_option maxRecDepth 100000 in
theorem RFText_any (v u : Value) (a b : Nat) (w : World) (hv : R w v a) (hu : R w u b) (ha : nd 65536 a ≤ 5000) (hb : nd 65536 b ≤ 5000) :
    Calls Tryz.prog 19 #[.agg #[v, u]] w fun e w' => e = .returned (.string ⟨(fracText a b).toArray⟩) ∧ Below w.heap.size w w' := by
  obtain ⟨W0, hW0⟩ : ∃ W0 : World, W0 = w.alloc (.cells #[v, u] 35) := ⟨_, rfl⟩
  have hz0 : W0.heap.size = w.heap.size + 1 := by rw [hW0]; simp
  have hbw : Below w.heap.size w W0 := by rw [hW0]; exact (Below.refl _ _).alloc (Nat.le_refl _) _
  have hst0 : StR W0 v u a b W0 := ⟨hv.below hbw, hu.below hbw, Below.refl _ _⟩
  have c0 : W0.cell? ⟨w.heap.size, 0, none⟩ = some v := by rw [hW0]; exact World.cell?_alloc_at _ _ _ _ rfl
  have c1 : W0.cell? ⟨w.heap.size, 1, none⟩ = some u := by rw [hW0]; exact World.cell?_alloc_at _ _ _ _ rfl
  have HCA : Hid (∀ W, StR W0 v u a b W → W.cell? ⟨w.heap.size, 0, none⟩ = some v ∧ W.cell? ⟨w.heap.size, 1, none⟩ = some u) := fun W h => ⟨h.cell (by omega) c0, h.cell (by omega) c1⟩
  have HOF : Hid (∀ W, StR W0 v u a b W → Calls Tryz.prog 38 #[.int .i64 1] W fun e w' => ∃ o l c, e = .returned (.slice o l c) ∧ R w' (.slice o l c) 1 ∧ StR W0 v u a b w') := fun W h =>
    (Of_any 1 W (by decide)).mono fun e w' ⟨r, he, hr, hB⟩ => by
      obtain ⟨ro, rc, rfl, -⟩ := hr.shape
      exact ⟨ro, _, rc, he, hr, h.next hB⟩
  have HCM : Hid (∀ W x, StR W0 v u a b W → R W x 1 → Calls Tryz.prog 37 #[u, x] W fun e w' => e = .returned (.int .i64 (cmpN ((b : Nat) : Int) ((1 : Nat) : Int))) ∧ StR W0 v u a b w') := fun W x h hx =>
    (RCmp_any u x b 1 W h.n2 hx (by omega) (by have := nd_le_self16 (n := 1) (by decide); omega)).mono fun e w' ⟨he, k, hw⟩ => ⟨he, by rw [hw]; exact h.next (below_drewN (Below.refl _ _) k)⟩
  obtain ⟨Sa, hSa⟩ : ∃ Sa : ByteArray, Sa = ⟨(Lib.decDigits a).toArray⟩ := ⟨_, rfl⟩
  obtain ⟨Sb, hSb⟩ : ∃ Sb : ByteArray, Sb = ⟨(Lib.decDigits b).toArray⟩ := ⟨_, rfl⟩
  have HTA : Hid (∀ W, StR W0 v u a b W → Calls Tryz.prog 39 #[v] W fun e w' => e = .returned (.string Sa) ∧ StR W0 v u a b w') := fun W h => by
    rw [hSa]; exact (Text_any v a W h.n1 (by omega)).mono fun e w' ⟨he, hB⟩ => ⟨he, h.next hB⟩
  have HTB : Hid (∀ W, StR W0 v u a b W → Calls Tryz.prog 39 #[u] W fun e w' => e = .returned (.string Sb) ∧ StR W0 v u a b w') := fun W h => by
    rw [hSb]; exact (Text_any u b W h.n2 (by omega)).mono fun e w' ⟨he, hB⟩ => ⟨he, h.next hB⟩
  have hla : Sa.size ≤ 1000000 := by rw [hSa, ← len_data]; exact dec_bound (m := 5000) (Nat.le_trans (nd_32 ha) (by decide)) (by decide) |> fun h => Nat.le_trans h (by decide)
  have hlb : Sb.size ≤ 1000000 := by rw [hSb, ← len_data]; exact dec_bound (m := 5000) (Nat.le_trans (nd_32 hb) (by decide)) (by decide) |> fun h => Nat.le_trans h (by decide)
  have HSA := Lib.hid hSa; have HSB := Lib.hid hSb
  have HBW := Lib.hid hbw; have HW0 := Lib.hid hW0
  have hs2 := hst0.next ((Below.refl _ W0).drew)
  have hc0 := HCA.out _ hst0
  have hc2 := HCA.out _ hs2
  obtain ⟨ao, ac, rfl, -⟩ := hv.shape
  obtain ⟨bo, bc, rfl, -⟩ := hu.shape
  clear hv hu hz0 hbw c0 c1 hW0 hSa hSb ha hb
  have hcase : (b = 1 ∧ cmpN ((b : Nat) : Int) ((1 : Nat) : Int) = 0) ∨ (b ≠ 1 ∧ ((cmpN ((b : Nat) : Int) ((1 : Nat) : Int)) == 0) = false) := by
    by_cases h : b = 1
    · exact .inl ⟨h, cmpN_eq (by omega)⟩
    · refine .inr ⟨h, beq_eq_false_iff_ne.2 ?_⟩
      rcases Nat.lt_or_gt_of_ne h with h' | h'
      · rw [cmpN_lt (by omega)]; decide
      · rw [cmpN_gt (by omega)]; decide
  have HK := Lib.hid hcase
  clear hcase
  generalize cmpN ((b : Nat) : Int) ((1 : Nat) : Int) = kk at *
  generalize nd 65536 a = la at *
  rcases HK.out with ⟨hb1, rfl⟩ | ⟨hb1, hk⟩
  · have HT : Hid (ByteArray.mk (fracText a b).toArray = Sa) := by show _ = _; unfold fracText; rw [if_pos hb1, HSA.out]
    rw [HT.out]
    clear hb1
    generalize nd 65536 b = lb at *
    go_enter Tryz.func19, Tryz.ntmps19
    go_wp2_with fail
    rw [← HW0.out]
    go_region_held3 (fun W : World => (W.cell? ⟨w.heap.size, 0, none⟩ = some (.slice ao la ac) ∧ W.cell? ⟨w.heap.size, 1, none⟩ = some (.slice bo lb bc)) ∧ StR W0 (.slice ao la ac) (.slice bo lb bc) a b W) (first | (refine And.intro ?_ ?_ <;> assumption)) (first
      | (go_at_call 38; with_reducible refine (HOF.out _ ?h).mono ?_; (case h => assumption); rintro e w' ⟨o1, l1, k1, rfl, hr', hs'⟩; have hc' := HCA.out _ hs')
      | (go_at_call 37; with_reducible refine (HCM.out _ _ ?h ?r).mono ?_; (case h => assumption); (case r => first | assumption | exact rchain (by assumption) (by assumption)); rintro e w' ⟨rfl, hs'⟩; have hc' := HCA.out _ hs'))
    all_goals
      have hT : StR W0 (.slice ao la ac) (.slice bo lb bc) a b w' := by assumption
      have hcx := HCA.out _ hT
      have HTT := Lib.hid hT
      clear hT
      go_wp2_with fail
      refine (HTA.out _ HTT.out).mono ?_
      rintro e w5 ⟨rfl, hs5⟩
      have HBE := Lib.hid (HBW.out.trans (hs5.bel.mono HBW.out.size))
      clear hs5
      go_wp2
      go_ret
      exact ⟨rfl, HBE.out⟩
  · have HT : Hid (ByteArray.mk (fracText a b).toArray = Sa ++ ⟨#[47]⟩ ++ Sb) := by
      show _ = _; unfold fracText; rw [if_neg hb1, HSA.out, HSB.out]; exact (slash _ _).symm
    rw [HT.out]
    have hadd1 : ∀ W : World, (Op.stringOp .add Sa ⟨#[47]⟩).run Tryz.prog W = .ok (.string (Sa ++ ⟨#[47]⟩)) W := fun W => run_string_add_sum W _ _ (by
      have e : (⟨#[47]⟩ : ByteArray).size = 1 := rfl
      rw [e]; omega)
    have hadd2 : ∀ W : World, (Op.stringOp .add (Sa ++ ⟨#[47]⟩) Sb).run Tryz.prog W = .ok (.string (Sa ++ ⟨#[47]⟩ ++ Sb)) W := fun W => run_string_add_sum W _ _ (by
      have e : (⟨#[47]⟩ : ByteArray).size = 1 := rfl
      rw [ByteArray.size_append, e]; omega)
    clear hb1
    generalize nd 65536 b = lb at *
    go_enter Tryz.func19, Tryz.ntmps19
    go_wp2_with fail
    rw [← HW0.out]
    go_region_held3 (fun W : World => (W.cell? ⟨w.heap.size, 0, none⟩ = some (.slice ao la ac) ∧ W.cell? ⟨w.heap.size, 1, none⟩ = some (.slice bo lb bc)) ∧ StR W0 (.slice ao la ac) (.slice bo lb bc) a b W) (first | (refine And.intro ?_ ?_ <;> assumption)) (first
      | (go_at_call 38; with_reducible refine (HOF.out _ ?h).mono ?_; (case h => assumption); rintro e w' ⟨o1, l1, k1, rfl, hr', hs'⟩; have hc' := HCA.out _ hs')
      | (go_at_call 37; with_reducible refine (HCM.out _ _ ?h ?r).mono ?_; (case h => assumption); (case r => first | assumption | exact rchain (by assumption) (by assumption)); rintro e w' ⟨rfl, hs'⟩; have hc' := HCA.out _ hs'))
    all_goals
      have hT : StR W0 (.slice ao la ac) (.slice bo lb bc) a b w' := by assumption
      have hcx := HCA.out _ hT
      have hs3 := hT.next ((Below.refl _ _).drew)
      have hcy := HCA.out _ hs3
      go_wp2_with fail
      go_region_held3 (fun W : World => (W.cell? ⟨w.heap.size, 0, none⟩ = some (.slice ao la ac) ∧ W.cell? ⟨w.heap.size, 1, none⟩ = some (.slice bo lb bc)) ∧ StR W0 (.slice ao la ac) (.slice bo lb bc) a b W) (first | (refine And.intro ?_ ?_ <;> assumption)) (first
        | (go_at_call 39; with_reducible refine (HTA.out _ ?h).mono ?_; (case h => assumption); rintro e w' ⟨rfl, hs'⟩; have hc' := HCA.out _ hs')
        | (go_at_call 39; with_reducible refine (HTB.out _ ?h).mono ?_; (case h => assumption); rintro e w' ⟨rfl, hs'⟩; have hc' := HCA.out _ hs'))
      all_goals
        have hT5 : StR W0 (.slice ao la ac) (.slice bo lb bc) a b w' := by assumption
        have HBE := Lib.hid (HBW.out.trans (hT5.bel.mono HBW.out.size))
        clear hT5
        go_wp2
        go_ret
        exact ⟨rfl, HBE.out⟩
end Go.Proofs.YteieedfigoihpaaGreatDoor
namespace Go.Proofs.YteieedfigoihpaaGreatDoor
open Go Go.RowKit Gu

/-- boxes (block, offset, value), the program's numbers, the document's numbers -/
structure Kq (cs : List (Nat × Nat × Value)) (ns rs : List (Value × Nat)) (w W : World) : Prop where
  num : ∀ p ∈ ns, D W p.1 p.2
  dig : ∀ p ∈ rs, R W p.1 p.2
  box : ∀ p ∈ cs, p.1 < W.heap.size ∧ W.cell? ⟨p.1, p.2.1, none⟩ = some p.2.2
  env : Env W
  bel : Below w.heap.size w W
section
variable {cs : List (Nat × Nat × Value)} {ns rs : List (Value × Nat)} {w W W' : World}
theorem Kq.start (he : Env w) : Kq [] [] [] w w := ⟨fun _ h => by simp at h, fun _ h => by simp at h, fun _ h => by simp at h, he, Below.refl _ _⟩
theorem Kq.next (h : Kq cs ns rs w W) (hb : Below W.heap.size W W') : Kq cs ns rs w W' :=
  ⟨fun p hp => (h.num p hp).below hb, fun p hp => (h.dig p hp).below hb, fun p hp => ⟨Nat.lt_of_lt_of_le (h.box p hp).1 hb.size, (hb.cell (p := ⟨p.1, p.2.1, none⟩) (h.box p hp).1).trans (h.box p hp).2⟩, h.env.below hb, h.bel.trans (hb.mono h.bel.size)⟩
theorem Kq.drewN (h : Kq cs ns rs w W) (q : Nat) : Kq cs ns rs w (W.drewN q) := h.next (below_drewN (Below.refl _ _) q)
theorem Kq.drew (h : Kq cs ns rs w W) : Kq cs ns rs w W.drew := h.next (Below.refl _ _).drew
theorem Kq.addNum (h : Kq cs ns rs w W) {v : Value} {n : Nat} (hv : D W v n) : Kq cs ((v, n) :: ns) rs w W :=
  ⟨fun p hp => by
    rcases List.mem_cons.1 hp with rfl | hp
    · exact hv
    · exact h.num p hp, h.dig, h.box, h.env, h.bel⟩
theorem Kq.addDig (h : Kq cs ns rs w W) {v : Value} {n : Nat} (hv : R W v n) : Kq cs ns ((v, n) :: rs) w W :=
  ⟨h.num, fun p hp => by
    rcases List.mem_cons.1 hp with rfl | hp
    · exact hv
    · exact h.dig p hp, h.box, h.env, h.bel⟩
theorem Kq.alloc (h : Kq cs ns rs w W) (o : Obj) : Kq cs ns rs w (W.alloc o) := h.next ((Below.refl _ _).alloc (Nat.le_refl _) _)
theorem Kq.addBox (h : Kq cs ns rs w W) {b o : Nat} {v : Value} (h1 : b < W.heap.size) (h2 : W.cell? ⟨b, o, none⟩ = some v) : Kq ((b, o, v) :: cs) ns rs w W :=
  ⟨h.num, h.dig, fun p hp => by
    rcases List.mem_cons.1 hp with rfl | hp
    · exact ⟨h1, h2⟩
    · exact h.box p hp, h.env, h.bel⟩
/-- a variable gets its box -/
theorem Kq.boxed (h : Kq cs ns rs w W) (v : Value) (T : TypeId) : Kq ((W.heap.size, 0, v) :: cs) ns rs w (W.alloc (.cells #[v] T)) :=
  (h.alloc _).addBox (by simp) (World.cell?_alloc_at _ _ _ _ rfl)
theorem Kq.boxed2 (h : Kq cs ns rs w W) (v u : Value) (T : TypeId) : Kq ((W.heap.size, 1, u) :: (W.heap.size, 0, v) :: cs) ns rs w (W.alloc (.cells #[v, u] T)) :=
  ((h.alloc _).addBox (by simp) (World.cell?_alloc_at _ _ _ _ rfl)).addBox (by simp) (World.cell?_alloc_at _ _ _ _ rfl)
theorem Kq.cell (h : Kq cs ns rs w W) {g o : Nat} {v : Value} (hm : (g, o, v) ∈ cs) : W.cell? ⟨g, o, none⟩ = some v := (h.box _ hm).2
theorem NCmp_Q {v u : Value} {a b : Nat} (h : Kq cs ns rs w W) (h1 : (v, a) ∈ ns) (h2 : (u, b) ∈ ns) (ha : nd 4294967296 a ≤ 1048576) (hb : nd 4294967296 b ≤ 1048576) :
    Calls Tryz.prog 48 #[.agg #[v], .agg #[u]] W fun e w' => e = .returned (.int .i64 (cmpN a b)) ∧ Kq cs ns rs w w' :=
  (NCmp_any _ _ a b W (h.num _ h1) (h.num _ h2) ha hb).mono fun _ _ ⟨he, hB⟩ => ⟨he, h.next hB⟩
theorem RCmp_Q {v u : Value} {a b : Nat} (h : Kq cs ns rs w W) (h1 : (v, a) ∈ rs) (h2 : (u, b) ∈ rs) (ha : nd 65536 a ≤ 1048576) (hb : nd 65536 b ≤ 1048576) :
    Calls Tryz.prog 37 #[v, u] W fun e w' => e = .returned (.int .i64 (cmpN a b)) ∧ Kq cs ns rs w w' :=
  (RCmp_any _ _ a b W (h.dig _ h1) (h.dig _ h2) ha hb).mono fun _ _ ⟨he, k, hw⟩ => ⟨he, by rw [hw]; exact h.drewN k⟩
end
end Go.Proofs.YteieedfigoihpaaGreatDoor
namespace Go.Proofs.YteieedfigoihpaaGreatDoor
open Go Go.RowKit Gu

/-- what same keeps: both fractions -/
structure StS (w : World) (v u r s : Value) (P Q : Nat) (W : World) : Prop where
  n1 : D W v P
  n2 : D W u Q
  d1 : R W r P
  d2 : R W s Q
  env : Env W
  bel : Below w.heap.size w W
theorem StS.next {w W W' : World} {v u r s : Value} {P Q : Nat} (h : StS w v u r s P Q W) (hb : Below W.heap.size W W') : StS w v u r s P Q W' :=
  ⟨h.n1.below hb, h.n2.below hb, h.d1.below hb, h.d2.below hb, h.env.below hb, h.bel.trans (hb.mono h.bel.size)⟩
theorem fracText_zero : (⟨(fracText 0 1).toArray⟩ : ByteArray) = ⟨#[48]⟩ := by
  unfold fracText
  rw [if_pos rfl, decDigits_small (by decide)]
  rfl
end Go.Proofs.YteieedfigoihpaaGreatDoor
namespace Go.Proofs.YteieedfigoihpaaGreatDoor
open Go Go.RowKit Gu

theorem cmp_neg (a b : Nat) : cmpN ((b : Nat) : Int) ((a : Nat) : Int) = - cmpN ((a : Nat) : Int) ((b : Nat) : Int) := by
  rcases Nat.lt_trichotomy a b with h | h | h
  · rw [cmpN_gt (by omega), cmpN_lt (by omega)]; decide
  · rw [cmpN_eq (by omega), cmpN_eq (by omega)]; decide
  · rw [cmpN_lt (by omega), cmpN_gt (by omega)]
theorem cmp_le {a b : Nat} : cmpN ((a : Nat) : Int) ((b : Nat) : Int) ≤ 0 ↔ a ≤ b := by
  rcases Nat.lt_trichotomy a b with h | h | h
  · rw [cmpN_lt (by omega)]; simp; omega
  · rw [cmpN_eq (by omega)]; simp; omega
  · rw [cmpN_gt (by omega)]; simp; omega
theorem cmp_zero {a b : Nat} : cmpN ((a : Nat) : Int) ((b : Nat) : Int) = 0 ↔ a = b := by
  rcases Nat.lt_trichotomy a b with h | h | h
  · rw [cmpN_lt (by omega)]; simp; omega
  · rw [cmpN_eq (by omega)]; simp; omega
  · rw [cmpN_gt (by omega)]; simp; omega
theorem cmp_three (a b : Nat) : cmpN ((a : Nat) : Int) ((b : Nat) : Int) = -1 ∨ cmpN ((a : Nat) : Int) ((b : Nat) : Int) = 0 ∨ cmpN ((a : Nat) : Int) ((b : Nat) : Int) = 1 := by
  rcases Nat.lt_trichotomy a b with h | h | h
  · exact .inl (cmpN_lt (by omega))
  · exact .inr (.inl (cmpN_eq (by omega)))
  · exact .inr (.inr (cmpN_gt (by omega)))
/-- a comparison depends on the order alone -/
theorem cmp_same {a b c d : Nat} (h1 : a < b ↔ c < d) (h2 : b < a ↔ d < c) : cmpN ((a : Nat) : Int) ((b : Nat) : Int) = cmpN ((c : Nat) : Int) ((d : Nat) : Int) := by
  rcases Nat.lt_trichotomy a b with h | h | h
  · rw [cmpN_lt (by omega), cmpN_lt (by have := h1.1 h; omega)]
  · have h3 : ¬ a < b := by omega
    have h4 : ¬ b < a := by omega
    rw [h1] at h3; rw [h2] at h4
    rw [cmpN_eq (by omega), cmpN_eq (by omega)]
  · rw [cmpN_gt (by omega), cmpN_gt (by have := h2.1 h; omega)]
theorem cmp_scale {a b k : Nat} (hk : 0 < k) : cmpN ((a * k : Nat) : Int) ((b * k : Nat) : Int) = cmpN ((a : Nat) : Int) ((b : Nat) : Int) :=
  cmp_same (Nat.mul_lt_mul_right hk) (Nat.mul_lt_mul_right hk)
/-- of three fractions -/
theorem frac_trans {P1 Q1 P2 Q2 P3 Q3 : Nat} (h2 : 0 < Q2) (hx : P1 * Q2 ≤ P2 * Q1) (hy : P2 * Q3 ≤ P3 * Q2) : P1 * Q3 ≤ P3 * Q1 := by
  have e1 : P1 * Q2 * Q3 ≤ P2 * Q1 * Q3 := Nat.mul_le_mul_right _ hx
  have e2 : P2 * Q3 * Q1 ≤ P3 * Q2 * Q1 := Nat.mul_le_mul_right _ hy
  have e3 : P2 * Q1 * Q3 = P2 * Q3 * Q1 := Nat.mul_right_comm _ _ _
  have e4 : P1 * Q3 * Q2 ≤ P3 * Q1 * Q2 := by
    rw [Nat.mul_right_comm P1 Q3 Q2, Nat.mul_right_comm P3 Q1 Q2]
    omega
  exact Nat.le_of_mul_le_mul_right e4 h2
theorem low_mul {L M : Nat} : lowP L M * Nat.gcd L M = L ∧ lowQ L M * Nat.gcd L M = M := ⟨Nat.div_mul_cancel (Nat.gcd_dvd_left _ _), Nat.div_mul_cancel (Nat.gcd_dvd_right _ _)⟩
/-- fractions in lowest terms compare as what they were made of -/
theorem cmp_low {L M L' M' : Nat} (hM : 0 < M) (hM' : 0 < M') : cmpN ((lowP L M * lowQ L' M' : Nat) : Int) ((lowP L' M' * lowQ L M : Nat) : Int) = cmpN ((L * M' : Nat) : Int) ((L' * M : Nat) : Int) := by
  obtain ⟨e1, e2⟩ := low_mul (L := L) (M := M)
  obtain ⟨e3, e4⟩ := low_mul (L := L') (M := M')
  have hg : 0 < Nat.gcd L M * Nat.gcd L' M' := Nat.mul_pos (Nat.gcd_pos_of_pos_right _ hM) (Nat.gcd_pos_of_pos_right _ hM')
  rw [← cmp_scale (k := Nat.gcd L M * Nat.gcd L' M') hg]
  have a1 : lowP L M * lowQ L' M' * (Nat.gcd L M * Nat.gcd L' M') = L * M' := by
    rw [Nat.mul_mul_mul_comm, e1, e4]
  have a2 : lowP L' M' * lowQ L M * (Nat.gcd L M * Nat.gcd L' M') = L' * M := by
    rw [Nat.mul_comm (Nat.gcd L M), Nat.mul_mul_mul_comm, e3, e2]
  rw [a1, a2]
/-- a sum with one and the same fraction keeps the order -/
theorem cmp_plus {P1 Q1 P2 Q2 P3 Q3 : Nat} (h3 : 0 < Q3) :
    cmpN (((P1 * Q3 + P3 * Q1) * (Q2 * Q3) : Nat) : Int) (((P2 * Q3 + P3 * Q2) * (Q1 * Q3) : Nat) : Int) = cmpN ((P1 * Q2 : Nat) : Int) ((P2 * Q1 : Nat) : Int) := by
  have hk : 0 < Q3 * Q3 := Nat.mul_pos h3 h3
  rw [← cmp_scale (a := P1 * Q2) (b := P2 * Q1) hk]
  have a1 : (P1 * Q3 + P3 * Q1) * (Q2 * Q3) = P1 * Q2 * (Q3 * Q3) + P3 * Q1 * (Q2 * Q3) := by
    rw [Nat.add_mul, Nat.mul_mul_mul_comm]
  have a2 : (P2 * Q3 + P3 * Q2) * (Q1 * Q3) = P2 * Q1 * (Q3 * Q3) + P3 * Q1 * (Q2 * Q3) := by
    rw [Nat.add_mul, Nat.mul_mul_mul_comm, Nat.mul_mul_mul_comm P3 Q2, Nat.mul_mul_mul_comm P3 Q1]
  rw [a1, a2]
  exact cmp_same (by omega) (by omega)
theorem low_coprime {L M : Nat} (hM : 0 < M) : Nat.gcd (lowP L M) (lowQ L M) = 1 := by
  obtain ⟨e1, e2⟩ := low_mul (L := L) (M := M)
  have h := Nat.gcd_mul_right (lowP L M) (Nat.gcd L M) (lowQ L M)
  rw [e1, e2] at h
  exact Nat.eq_of_mul_eq_mul_right (Nat.gcd_pos_of_pos_right L hM) (by rw [Nat.one_mul]; exact h.symm)
/-- lowest terms are unique -/
theorem low_unique {P Q P' Q' : Nat} (h : Nat.gcd P Q = 1) (h' : Nat.gcd P' Q' = 1) (hQ : 0 < Q) (hQ' : 0 < Q') (he : P * Q' = P' * Q) : P = P' ∧ Q = Q' := by
  have d1 : Q ∣ Q' := by
    have : Q ∣ P * Q' := ⟨P', by rw [he, Nat.mul_comm]⟩
    exact (Nat.Coprime.symm h).dvd_of_dvd_mul_left this
  have d2 : Q' ∣ Q := by
    have : Q' ∣ P' * Q := ⟨P, by rw [← he, Nat.mul_comm]⟩
    exact (Nat.Coprime.symm h').dvd_of_dvd_mul_left this
  have e : Q = Q' := Nat.dvd_antisymm d1 d2
  subst e
  exact ⟨Nat.eq_of_mul_eq_mul_right hQ he, rfl⟩
theorem dec_no_slash (n : Nat) : (47 : UInt8) ∉ Lib.decDigits n := fun h => by
  have := List.all_eq_true.1 (dec_digits n) _ h
  exact absurd this (by decide)
theorem split_slash {a b c d : List UInt8} (ha : (47 : UInt8) ∉ a) (hc : (47 : UInt8) ∉ c) (h : a ++ 47 :: b = c ++ 47 :: d) : a = c ∧ b = d := by
  induction a generalizing c with
  | nil =>
    cases c with
    | nil => simpa using h
    | cons x c => simp at h; exact absurd h.1.symm (by intro e; exact hc (by rw [e]; exact List.mem_cons_self))
  | cons y a ih =>
    cases c with
    | nil => simp at h; exact absurd h.1 (by intro e; exact ha (by rw [← e]; exact List.mem_cons_self))
    | cons x c =>
      simp only [List.cons_append, List.cons.injEq] at h
      obtain ⟨h1, h2⟩ := ih (fun m => ha (List.mem_cons_of_mem _ m)) (fun m => hc (List.mem_cons_of_mem _ m)) h.2
      exact ⟨by rw [h.1, h1], h2⟩
theorem fracText_inj {P Q P' Q' : Nat} (h : fracText P Q = fracText P' Q') : P = P' ∧ Q = Q' := by
  unfold fracText at h
  have no : ∀ {n a b : Nat}, Lib.decDigits n ≠ Lib.decDigits a ++ 47 :: Lib.decDigits b := fun e => dec_no_slash _ (by rw [e]; exact List.mem_append_right _ List.mem_cons_self)
  split at h <;> split at h
  · exact ⟨dec_inj h, by omega⟩
  · exact absurd h no
  · exact absurd h.symm no
  · obtain ⟨h1, h2⟩ := split_slash (dec_no_slash _) (dec_no_slash _) h
    exact ⟨dec_inj h1, dec_inj h2⟩
theorem frac_text_cmp {P Q P' Q' : Nat} (h : Nat.gcd P Q = 1) (h' : Nat.gcd P' Q' = 1) (hQ : 0 < Q) (hQ' : 0 < Q') : (⟨(fracText P Q).toArray⟩ : ByteArray) = ⟨(fracText P' Q').toArray⟩ ↔ cmpN ((P * Q' : Nat) : Int) ((P' * Q : Nat) : Int) = 0 := by
  rw [cmp_zero]
  constructor
  · intro e
    have e1 : (fracText P Q).toArray = (fracText P' Q').toArray := congrArg ByteArray.data e
    have e2 : fracText P Q = fracText P' Q' := by simpa using congrArg Array.toList e1
    obtain ⟨rfl, rfl⟩ := fracText_inj e2
    rfl
  · intro e
    obtain ⟨rfl, rfl⟩ := low_unique h h' hQ hQ' e
    rfl
end Go.Proofs.YteieedfigoihpaaGreatDoor
namespace Go.Proofs.YteieedfigoihpaaGreatDoor
open Go Go.RowKit Gu

/-- valid arguments -/
def GoodP (lot bad n most : Int) : Prop := (0 ≤ lot ∧ lot ≤ most) ∧ (0 ≤ bad ∧ bad ≤ lot) ∧ (0 ≤ n ∧ n ≤ lot)
theorem Good_yes {lot bad n most : Int} (h : GoodP lot bad n most) : Hid (∀ W, Calls Tryz.prog 7 #[.int .i64 lot, .int .i64 bad, .int .i64 n, .int .i64 most] W fun e w' => e = .returned (.bool true) ∧ W = w') := fun W => by
  obtain ⟨⟨h1, h2⟩, ⟨h3, h4⟩, h5, h6⟩ := h
  have g1 : lot ≥ 0 := h1
  have g3 : bad ≥ 0 := h3
  have g5 : n ≥ 0 := h5
  go_enter Tryz.func7, Tryz.ntmps7
  go_wp2_with fail
  go_ret
  exact ⟨rfl, rfl⟩
set_option maxHeartbeats 1000000 in
theorem Good_no {lot bad n most : Int} (h : ¬ GoodP lot bad n most) : Hid (∀ W, Calls Tryz.prog 7 #[.int .i64 lot, .int .i64 bad, .int .i64 n, .int .i64 most] W fun e w' => e = .returned (.bool false) ∧ W = w') := fun W => by
  have fin : ∀ (a1 : lot ≥ 0) (a2 : lot ≤ most) (a3 : bad ≥ 0) (a4 : bad ≤ lot) (a5 : n ≥ 0) (a6 : n ≤ lot), False := fun a1 a2 a3 a4 a5 a6 => h ⟨⟨a1, a2⟩, ⟨a3, a4⟩, a5, a6⟩
  have HF := Lib.hid fin
  clear h fin
  by_cases h1 : lot ≥ 0
  · by_cases h2 : lot ≤ most
    · by_cases h3 : bad ≥ 0
      · by_cases h4 : bad ≤ lot
        · by_cases h5 : n ≥ 0
          · have h6 : ¬ n ≤ lot := fun h6 => HF.out h1 h2 h3 h4 h5 h6
            go_enter Tryz.func7, Tryz.ntmps7
            go_wp2_with fail
            go_ret
            exact ⟨rfl, rfl⟩
          · go_enter Tryz.func7, Tryz.ntmps7
            go_wp2_with fail
            go_ret
            exact ⟨rfl, rfl⟩
        · go_enter Tryz.func7, Tryz.ntmps7
          go_wp2_with fail
          go_ret
          exact ⟨rfl, rfl⟩
      · go_enter Tryz.func7, Tryz.ntmps7
        go_wp2_with fail
        go_ret
        exact ⟨rfl, rfl⟩
    · go_enter Tryz.func7, Tryz.ntmps7
      go_wp2_with fail
      go_ret
      exact ⟨rfl, rfl⟩
  · go_enter Tryz.func7, Tryz.ntmps7
    go_wp2_with fail
    go_ret
    exact ⟨rfl, rfl⟩
/-- a boxed fraction in lowest terms -/
structure FB (X : Nat) (p q : Value) (L M : Nat) (W : World) : Prop where
  box : Bxs X [p, q] W
  num : D W p (lowP L M)
  den : D W q (lowQ L M)
theorem FB.next {X : Nat} {p q : Value} {L M : Nat} {W W' : World} (h : FB X p q L M W) (hb : Below W.heap.size W W') : FB X p q L M W' := ⟨h.box.next hb, h.num.below hb, h.den.below hb⟩
theorem FB.new {W : World} {p q : Value} {L M : Nat} (hp : D W p (lowP L M)) (hq : D W q (lowQ L M)) (T : TypeId) : FB W.heap.size p q L M (W.alloc (.cells #[p, q] T)) := ⟨Bxs.new2 _ _ _ _, hp.below (alloc1_below _ _), hq.below (alloc1_below _ _)⟩
theorem lowP_le (L M : Nat) : lowP L M ≤ L := Nat.div_le_self _ _
theorem lowQ_le (L M : Nat) : lowQ L M ≤ M := Nat.div_le_self _ _
theorem lowQ_pos {L M : Nat} (h : 0 < M) : 0 < lowQ L M := Nat.div_pos (Nat.le_of_dvd h (Nat.gcd_dvd_right _ _)) (Nat.gcd_pos_of_pos_right _ h)
theorem small_nd {x k m : Nat} (h : x ≤ 2 ^ k) (hk : k + 1 ≤ 32 * m) : nd 4294967296 x ≤ m := by
  refine (nd_le (by decide)).2 (Nat.lt_of_le_of_lt h ?_)
  have e : (4294967296 : Nat) = 2 ^ 32 := by decide
  rw [e, ← Nat.pow_mul]
  exact Nat.pow_lt_pow_right (by decide) (by omega)
theorem accS_le (b g n : Nat) (c : Int) : accS b g n c ≤ pascalN (b + g) n := hsum_le_all _ _ _ _
end Go.Proofs.YteieedfigoihpaaGreatDoor
namespace Go.Proofs.YteieedfigoihpaaGreatDoor
open Go Go.RowKit Gu

theorem own : ownKnob Tryz.prog.godebug = none := by kernel_rfl
theorem env_of_laid {W : World} {l : List (String × DataW Unit)}
    (hl : l.filter (fun x => x.1 == "internal/strconv.uint64pow10") = [("internal/strconv.uint64pow10", Rows.laid_internal_strconv_uint64pow10)]) (h : laidMetH Tryz.prog l W) : Env W := by
  have h1 := h.filter (fun x => x.1 == "internal/strconv.uint64pow10")
  rw [hl, MakeChecks.laidMetH_plain _ _ _ (by kernel_rfl)] at h1
  exact Lib.tabIs_of_head (g := 0) (by kernel_rfl) (by kernel_rfl) Tryz.underlying148 Tryz.underlying86 (by kernel_rfl) (by kernel_rfl) h1
end Go.Proofs.YteieedfigoihpaaGreatDoor
namespace Go.Proofs.YteieedfigoihpaaGreatDoor
open Go Go.ChangeShapes Go.WideShapes Go.ChangeAt Go.RowKit Gu

theorem laidOut' : laidOutB Tryz.prog = true := by kernel_rfl
theorem u16_of_wf {n : Int} (h : (Lit.int .u16 n).wf = true) : 0 ≤ n ∧ n ≤ 65535 := by
  simpa [Lit.wf, IntKind.min, IntKind.max, IntKind.signed, IntKind.bits] using h
end Go.Proofs.YteieedfigoihpaaGreatDoor
