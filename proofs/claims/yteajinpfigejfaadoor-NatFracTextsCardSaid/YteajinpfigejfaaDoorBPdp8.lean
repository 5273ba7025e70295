/- WHAT IS PROVED: for every string of at most 3000 bytes, ParseFrac returns the fraction whose text it is, ErrSyntax if it is no such text, and ErrRange if a number does not fit; and the few plain results of awake hold. Conditions: the listed tables of the library hold what the program's text lays (the card ties them). -/
import Derived.Test.YteajinpfigejfaaDoorBPdp7
import Derived.Test.YteajinpfigejfaaDoorBPdp5
import Derived.Test.YteajinpfigejfaaDoorBPdp6
import Derived.Test.YteajinpfigejfaaDoorBPdp2
import Derived.Test.YteajinpfigejfaaDoorRows
import Derived.ProofKit
import Derived.LaidMore
import Derived.LaidSub
import Derived.Lay
import Derived.OpenShut
import Derived.Lib.LaidTab
import Derived.Stop.Joined
import Derived.Test.YteajinpfigejfaaDoorCards
import Derived.Test.YteajinpfigejfaaDoorTie
namespace Go.Proofs.YteajinpfigejfaaDoor
open Go Go.RowKit Gu

theorem bit_room {t j s : Nat} (hs : s < 16) : dg 65536 (2 ^ (16 * j + s + 1) * t) j + 2 ^ s < 65536 := by
  have e1 : (2 : Nat) ^ (16 * j + s + 1) * t = 65536 ^ j * (2 ^ (s + 1) * t) := by
    rw [Nat.add_assoc, Nat.pow_add, Nat.pow_mul, Nat.mul_assoc]
  have e2 : dg 65536 (2 ^ (16 * j + s + 1) * t) j = 2 ^ (s + 1) * (t % 2 ^ (15 - s)) := by
    unfold dg
    rw [e1, Nat.mul_div_cancel_left _ (Nat.pow_pos (by decide)), show (65536 : Nat) = 2 ^ (s + 1) * 2 ^ (15 - s) from by rw [← Nat.pow_add, show s + 1 + (15 - s) = 16 from by omega], Nat.mul_mod_mul_left]
  rw [e2]
  have h1 : t % 2 ^ (15 - s) < 2 ^ (15 - s) := Nat.mod_lt _ (Nat.pow_pos (by decide))
  have h2 : 2 ^ (s + 1) * (t % 2 ^ (15 - s)) + 2 ^ (s + 1) ≤ 2 ^ (s + 1) * 2 ^ (15 - s) := by rw [← Nat.mul_succ]; exact Nat.mul_le_mul_left _ h1
  rw [← Nat.pow_add, show s + 1 + (15 - s) = 16 from by omega] at h2
  have h3 : 2 ^ (s + 1) = 2 * 2 ^ s := by rw [Nat.pow_succ, Nat.mul_comm]
  have h4 : 0 < 2 ^ s := Nat.pow_pos (by decide)
  omega
theorem nd_twice {z b : Nat} (h : z < 2 * b) : nd 65536 z ≤ nd 65536 b + 1 := by
  have h1 := nd_lt (by decide : 2 ≤ 65536) b
  apply (nd_le (by decide)).2
  rw [Nat.pow_succ]
  omega
/-- one bit of a long division -/
theorem bit_div {a b k : Nat} (hb : 0 < b) :
    (b ≤ (a / 2 ^ (k + 1)) % b * 2 + dg 2 a k → (a / 2 ^ k) % b = (a / 2 ^ (k + 1)) % b * 2 + dg 2 a k - b ∧ 2 ^ k * ((a / 2 ^ k) / b) = 2 ^ (k + 1) * ((a / 2 ^ (k + 1)) / b) + 2 ^ k) ∧
    ((a / 2 ^ (k + 1)) % b * 2 + dg 2 a k < b → (a / 2 ^ k) % b = (a / 2 ^ (k + 1)) % b * 2 + dg 2 a k ∧ 2 ^ k * ((a / 2 ^ k) / b) = 2 ^ (k + 1) * ((a / 2 ^ (k + 1)) / b)) := by
  have e1 := div_succ 2 a k
  have hd := dg_lt (B := 2) (by decide) a k
  have e2 := Nat.div_add_mod (a / 2 ^ (k + 1)) b
  have hm := Nat.mod_lt (a / 2 ^ (k + 1)) hb
  have ep : 2 ^ (k + 1) * ((a / 2 ^ (k + 1)) / b) = 2 ^ k * (2 * ((a / 2 ^ (k + 1)) / b)) := by rw [Nat.pow_succ, Nat.mul_assoc]
  rw [ep]
  generalize a / 2 ^ (k + 1) = y at *
  generalize dg 2 a k = c at *
  have e3 : a / 2 ^ k = (y % b * 2 + c) + b * (2 * (y / b)) := by
    have : b * (2 * (y / b)) = 2 * (b * (y / b)) := Nat.mul_left_comm _ _ _
    omega
  refine ⟨fun h => ?_, fun h => ?_⟩
  · have e4 : a / 2 ^ k = (y % b * 2 + c - b) + b * (2 * (y / b) + 1) := by rw [e3, Nat.mul_add]; omega
    rw [e4, Nat.add_mul_mod_self_left, Nat.add_mul_div_left _ _ hb, Nat.mod_eq_of_lt (by omega), Nat.div_eq_of_lt (by omega), Nat.zero_add, Nat.mul_add, Nat.mul_one]
    exact ⟨rfl, rfl⟩
  · rw [e3, Nat.add_mul_mod_self_left, Nat.add_mul_div_left _ _ hb, Nat.mod_eq_of_lt h, Nat.div_eq_of_lt h, Nat.zero_add]
    exact ⟨rfl, rfl⟩
/-- what the loop of DivMod keeps -/
def DMRel (a b la : Nat) (w : World) (k : Nat) (rv : Value) (wr : World) : Prop :=
  R wr rv ((a / 2 ^ k) % b) ∧ Buf .i64 65536 3 wr w.heap.size la (2 ^ k * ((a / 2 ^ k) / b)) ∧ Below w.heap.size w wr ∧ FR (w.heap.size + 1) rv ((a / 2 ^ k) % b)
set_option maxHeartbeats 4000000 in
set_option maxRecDepth 100000 in
theorem RDivMod_any (v u : Value) (a b : Nat) (w : World) (hv : R w v a) (hu : R w u b) (hb0 : 0 < b) (ha : nd 65536 a ≤ 400000) (hb : nd 65536 b ≤ 400000) :
    Calls Tryd.prog 91 #[v, u] w fun e w' => ∃ q r, e = .returned (.tuple #[q, r]) ∧ R w' q (a / b) ∧ R w' r (a % b) ∧ Below w.heap.size w w' := by
  have hB : 2 ≤ 65536 := by decide
  have HV := Lib.hid hv
  have HU := Lib.hid hu
  obtain ⟨ao, ac, rfl, -⟩ := hv.shape
  obtain ⟨bo, bc, rfl, -⟩ := hu.shape
  clear hv hu
  have HAl := Lib.hid (nd_lt hB a)
  have h2l : nd 2 a ≤ 16 * nd 65536 a := fit_len (Nat.le_refl _)
  have HA2 := Lib.hid (nd_lt (by decide : 2 ≤ 2) a)
  obtain ⟨la, hla⟩ : ∃ la, la = nd 65536 a := ⟨_, rfl⟩
  obtain ⟨l2, hl2⟩ : ∃ l2, l2 = nd 2 a := ⟨_, rfl⟩
  rw [← hla] at HV HAl h2l ha ⊢
  rw [← hl2] at h2l HA2
  have HLA := Lib.hid hla
  have HL2 := Lib.hid hl2
  have HBL : Hid (∀ W, R W (.slice ao la ac) a → Calls Tryd.prog 70 #[.slice ao la ac] W fun e w' => e = .returned (.int .i64 l2) ∧ W = w') := fun W h => by rw [HL2.out]; exact RBitLen_any _ a W h (by rw [← HLA.out]; omega)
  clear hla hl2
  have hmk := made_int la (by omega)
  go_enter Tryd.func91, Tryd.ntmps91
  go_wp2_with fail
  have hw1 : Below w.heap.size w (w.alloc (.cells (madeCells #[.int .i64 0] la) 3)) := (Below.refl _ _).alloc (Nat.le_refl _) _
  refine (HBL.out _ (HV.out.below hw1)).mono ?_
  rintro e w' ⟨rfl, rfl⟩
  have HST : Hid (DMRel a b la w l2 (.slice none 0 0) (w.alloc (.cells (madeCells #[.int .i64 0] la) 3))) := by
    have h1 : a / 2 ^ l2 = 0 := Nat.div_eq_of_lt HA2.out
    refine ⟨by rw [h1, Nat.zero_mod]; exact IsN.zero _ _ _ _ _, by rw [h1, Nat.zero_div, Nat.mul_zero]; exact Buf.made _ _ _ _ _, hw1, fun _ _ _ _ he => by cases he⟩
  clear hw1
  have HL1 := Lib.hid h2l
  go_wp2
  go_loopg [7, 8] l2 (fun m rv x wr => x = .int .i64 ((m : Int) - 1) ∧ Hid (m ≤ l2) ∧ DMRel a b la w m rv wr)
  case atStart => exact ⟨rfl, Nat.le_refl _, HST.out⟩
  case round =>
    obtain ⟨rfl, HML, hrel⟩ := hrel
    have HR := Lib.hid hrel
    obtain ⟨r0, rc, rfl, -⟩ := hrel.1.shape
    clear hrel
    cases gk with
    | zero =>
      rw [show ((0 : Nat) : Int) - 1 = -1 from rfl]
      have hq := HR.out.2.1
      have hr := HR.out.1
      rw [Nat.pow_zero, Nat.div_one, Nat.one_mul] at hq
      rw [Nat.pow_zero, Nat.div_one] at hr
      have hql : a / b < 65536 ^ la := Nat.lt_of_le_of_lt (Nat.div_le_self _ _) HAl.out
      have HT := Lib.hid (Trim_buf w.heap.size la la (a / b) wr hq hql (by omega) (Nat.le_refl _))
      have HQ := Lib.hid (Gu.Buf.isN hq hB hql la)
      have HRR := Lib.hid hr
      have HBE := Lib.hid HR.out.2.2.1
      clear hq hr hql HR
      obtain ⟨x, hx⟩ : ∃ x, x = a / 2 ^ 0 % b := ⟨_, rfl⟩
      rw [← hx]
      have HX := Lib.hid hx
      clear hx
      go_wp2_with fail
      refine HT.out.mono ?_
      rintro e w' ⟨rfl, rfl⟩
      go_wp2
      go_ret2
      exact ⟨_, _, rfl, HQ.out, by rw [HX.out, Nat.pow_zero, Nat.div_one]; exact HRR.out, HBE.out⟩
    | succ k =>
      rw [show ((k + 1 : Nat) : Int) - 1 = k from by omega]
      have hkl : k < 16 * la := by have := HML.out; have := HL1.out; omega
      have hbd := bit_div (a := a) (k := k) hb0
      have hmb := Nat.mod_lt (a / 2 ^ (k + 1)) hb0
      have hc2 := dg_lt (B := 2) (by decide) a k
      have hroom := bit_room (t := (a / 2 ^ (k + 1)) / b) (j := k / 16) (s := k % 16) (by omega)
      rw [show 16 * (k / 16) + k % 16 + 1 = k + 1 from by omega] at hroom
      have HSH := Lib.hid (fun W v (h : R W v (a / 2 ^ (k + 1) % b)) => RShl_f v _ 1 W h (by have := nd_mono (B := 65536) (by decide) (Nat.le_of_lt hmb); omega) (by omega))
      rw [Nat.pow_one] at HSH
      have HBI := Lib.hid (fun W (h : R W (.slice ao la ac) a) => RBit_any _ a (k : Int) W h (by omega) (by rw [← HLA.out]; omega))
      rw [show bitN a (k : Int) = dg 2 a k from by unfold bitN; rw [if_neg (by omega), Int.toNat_natCast]] at HBI
      obtain ⟨x, hx⟩ : ∃ x, x = a / 2 ^ (k + 1) % b := ⟨_, rfl⟩
      obtain ⟨Q, hQ⟩ : ∃ Q, Q = 2 ^ (k + 1) * (a / 2 ^ (k + 1) / b) := ⟨_, rfl⟩
      have hrel := HR.out
      unfold DMRel at hrel
      rw [← hx, ← hQ] at hrel
      rw [← hx] at HSH hbd hmb ⊢
      rw [← hQ] at hbd hroom
      obtain ⟨c, hc⟩ : ∃ c, c = dg 2 a k := ⟨_, rfl⟩
      rw [← hc] at hbd hc2 HBI
      have HBD := Lib.hid hbd
      have HRE := Lib.hid hrel
      have HRO := Lib.hid hroom
      clear hbd hrel hroom hx hQ hc HR HST
      go_wp2_with fail
      refine (HSH.out _ _ HRE.out.1).mono ?_
      rintro e w2 ⟨sv, rfl, hs, hb2, hf2⟩
      obtain ⟨s0, sc, rfl, -⟩ := hs.shape
      have HS2 := Lib.hid hs
      have HB2 := Lib.hid hb2
      have HF2 := Lib.hid (hf2.mono (show w.heap.size + 1 ≤ wr.heap.size from Gu.Buf.lt HRE.out.2.1))
      have HVA := Lib.hid ((HV.out.below HRE.out.2.2.1).below hb2)
      clear hs hb2 hf2
      go_wp2_with fail
      refine (HBI.out _ HVA.out).mono ?_
      rintro e w3 ⟨rfl, hb3⟩
      have HS3 := Lib.hid (HS2.out.below hb3)
      have HB3 := Lib.hid (HB2.out.trans (hb3.mono HB2.out.size))
      clear hb3 HS2 HB2 HVA
      have hx16 := nd_twice (show x * 2 < 2 * b by omega)
      rcases (show c = 0 ∨ c = 1 by omega) with rfl | rfl
      · obtain ⟨z, hz⟩ : ∃ z, z = x * 2 := ⟨_, rfl⟩
        obtain ⟨wz, rfl⟩ : ∃ wz, wz = w3 := ⟨_, rfl⟩
        rw [← hz] at HS3 ⊢
        rw [Nat.add_zero, ← hz] at HBD
        have HZ := HS3
        have HBZ := HB3
        have HFZ : Hid (FR (w.heap.size + 1) (.slice s0 (nd 65536 z) sc) z) := by rw [hz]; rw [hz] at HS3; exact HF2.out
        have HZE := Lib.hid hz
        have hzx : z < 2 * b := by omega
        clear hz
        have hzb : z < 2 * b := by omega
        have hz16 := nd_twice hzb
        have HUC := Lib.hid (HU.out.below (HRE.out.2.2.1.trans (HBZ.out.mono HRE.out.2.2.1.size)))
        have HCM := Lib.hid (RCmp_any _ _ z b wz HZ.out HUC.out (by omega) (by omega))
        by_cases hge : b ≤ z
        · have hcm : 0 ≤ cmpN z b := by unfold cmpN; rw [if_neg (by omega)]; split <;> omega
          have hds := HBD.out.1 hge
          have HDS := Lib.hid hds
          have HSU := Lib.hid (fun q => RSub_f _ _ z b (wz.drewN q) (IsN.drewN HZ.out q) (IsN.drewN HUC.out q) (by omega) (by omega) hge)
          have HQB := Lib.hid (Gu.Buf.below HRE.out.2.1 HBZ.out (Gu.Buf.lt HRE.out.2.1))
          have HBW := Lib.hid (HRE.out.2.2.1.trans (HBZ.out.mono HRE.out.2.2.1.size))
          clear hds hge hzb
          generalize cmpN z b = cm at *
          go_wp2_with fail
          refine HCM.out.mono ?_
          rintro e w' ⟨rfl, q, rfl⟩
          go_wp2_with fail
          refine (HSU.out q).mono ?_
          rintro e w6 ⟨nv, rfl, hn, hb6, hf6⟩
          obtain ⟨n0, nc, rfl, -⟩ := hn.shape
          have hq6 := Gu.Buf.below (Gu.Buf.below HQB.out (below_drewN (Below.refl _ _) q) (Gu.Buf.lt HQB.out)) hb6 (Gu.Buf.lt HQB.out)
          have HBF := Lib.hid ((HBW.out.trans ((below_drewN (Below.refl _ _) q).mono HBW.out.size)).trans (hb6.mono HBW.out.size))
          have hjl : k / 16 < la := by omega
          have hcell := Gu.Buf.cell hq6 (i := k / 16) hjl
          have hfr := Gu.Buf.frozen hq6 (k / 16)
          have HQ6 := Lib.hid hq6
          have HF6 := Lib.hid (hf6.mono (show w.heap.size + 1 ≤ (wz.drewN q).heap.size from Gu.Buf.lt HQB.out))
          have HN := Lib.hid hn
          have HAT : Hid (∀ W, Buf .i64 65536 3 W w.heap.size la Q → Buf .i64 65536 3 (W.setCell ⟨w.heap.size, k / 16, none⟩ (.int .i64 (dg 65536 Q (k / 16) + 2 ^ (k % 16) : Nat))) w.heap.size la (Q + 2 ^ k)) := by
            intro W hW
            have h1 := Buf.at hW (by decide) (k / 16) HRO.out
            have h2 := at_val (B := 65536) (V := Q) (j := k / 16) (d := dg 65536 Q (k / 16) + 2 ^ (k % 16))
            have h4 : 65536 ^ (k / 16) * (dg 65536 Q (k / 16) + 2 ^ (k % 16)) = 65536 ^ (k / 16) * dg 65536 Q (k / 16) + 65536 ^ (k / 16) * 2 ^ (k % 16) := Nat.mul_add _ _ _
            have h3 : 65536 ^ (k / 16) * 2 ^ (k % 16) = 2 ^ k := by
              rw [show (65536 : Nat) = 2 ^ 16 from by decide, ← Nat.pow_mul, ← Nat.pow_add]
              congr 1; omega
            rw [h3] at h4
            rw [show Q + 2 ^ k = Q % 65536 ^ (k / 16) + 65536 ^ (k / 16) * (dg 65536 Q (k / 16) + 2 ^ (k % 16) + 65536 * (Q / 65536 ^ (k / 16 + 1))) from by omega]
            exact h1
          have hpw : 2 ^ (k % 16) ≤ 65536 := Nat.le_trans (Nat.pow_le_pow_right (by decide) (show k % 16 ≤ 16 by omega)) (by decide)
          have HP := Lib.hid (fun w => power_any (k % 16) w (by omega))
          have hdq := dg_lt (B := 65536) (by decide) Q (k / 16)
          obtain ⟨j, hj⟩ : ∃ j, j = k / 16 := ⟨_, rfl⟩
          obtain ⟨s, hs⟩ : ∃ s, s = k % 16 := ⟨_, rfl⟩
          have q1 : (k : Int) / 16 = j := by omega
          have q2 : (k : Int) % 16 = s := by omega
          have ht1 : (k : Int).tdiv 16 = j := by rw [Int.tdiv_eq_ediv_of_nonneg (by omega)]; omega
          have ht2 : (k : Int).tmod 16 = s := by rw [Int.tmod_eq_emod_of_nonneg (by omega)]; omega
          have ht3 : IntKind.i64.wrap ((k : Int) / 16) = j := by rw [q1]; exact IntWalk.i64_in _ (by omega)
          have ht4 : IntKind.i64.wrap ((k : Int).tdiv 16) = j := by rw [ht1]; exact IntWalk.i64_in _ (by omega)
          have ht5 : IntKind.i64.wrap (j : Int) = j := IntWalk.i64_in _ (by omega)
          rw [← hj] at hcell hfr HAT hdq hjl
          rw [← hs] at HAT hpw HP
          clear hj hs hq6 hn hb6 hf6 HRO
          generalize dg 65536 Q j = dq at *
          obtain ⟨pw, hpe⟩ : ∃ pw, pw = 2 ^ s := ⟨_, rfl⟩
          rw [← hpe] at HAT hpw HP
          clear hpe
          have hjl2 : (j : Int) < la := by omega
          have hj0 : (0 : Int) ≤ j := by omega
          go_wp2_with fail
          have hwq : ((dq : Int) + pw) = ((dq + pw : Nat) : Int) := by omega
          have HNEW : Hid (DMRel a b la w k (.slice n0 (nd 65536 (z - b)) nc) (w6.setCell ⟨w.heap.size, j, none⟩ (.int .i64 ((dq : Int) + pw))).drew) := by
            rw [hwq]
            refine ⟨?_, ?_, ?_, ?_⟩
            · rw [HDS.out.1]
              exact (FR.setCell HN.out HF6.out (Nat.lt_succ_self _)).below (Below.refl _ _).drew
            · rw [HDS.out.2]
              exact HAT.out w6 HQ6.out
            · exact (HBF.out.setCell (Nat.le_refl _) _).drew
            · rw [HDS.out.1]; exact HF6.out
          clear hwq
          go_region_with (go_at_call 93; refine (HP.out _).mono ?_; rintro e w' ⟨rfl, rfl⟩)
          all_goals go_wp2
          all_goals go_roundg k
          all_goals first | exact Nat.lt_succ_self _ | exact ⟨by go_num, Nat.le_of_succ_le HML.out, HNEW.out⟩
        · have hcm : cmpN z b = -1 := cmpN_lt (by omega)
          have hds := HBD.out.2 (by omega)
          have HNEW : Hid (∀ q, DMRel a b la w k (.slice s0 (nd 65536 z) sc) (wz.drewN q)) := fun q => by
            refine ⟨?_, ?_, ?_, ?_⟩
            · rw [hds.1]; exact IsN.drewN HZ.out q
            · rw [hds.2]; exact Gu.Buf.below (Gu.Buf.below HRE.out.2.1 HBZ.out (Gu.Buf.lt HRE.out.2.1)) (below_drewN (Below.refl _ _) q) (Gu.Buf.lt (Gu.Buf.below HRE.out.2.1 HBZ.out (Gu.Buf.lt HRE.out.2.1)))
            · exact below_drewN (HRE.out.2.2.1.trans (HBZ.out.mono HRE.out.2.2.1.size)) q
            · rw [hds.1]; exact HFZ.out
          rw [hcm] at HCM
          clear hcm hds hge hzb
          go_wp2_with fail
          refine HCM.out.mono ?_
          rintro e w' ⟨rfl, q, rfl⟩
          have HN2 := HNEW.out q
          go_wp2
          go_roundg k
          case measure => exact Nat.lt_succ_self _
          case rel => exact ⟨by go_num, Nat.le_of_succ_le HML.out, HN2⟩
      · have HOF := Lib.hid (Of_any 1 w3 (by decide))
        have HAD := Lib.hid (fun W o (h1 : R W (.slice s0 (nd 65536 (x * 2)) sc) (x * 2)) (h2 : R W o 1) => RAdd_f _ o (x * 2) 1 W h1 h2 (by omega) (by have := (nd_le (B := 65536) (n := 1) (k := 1) (by decide)).2 (by decide); omega))
        go_wp2_with fail
        refine HOF.out.mono ?_
        rintro e w4 ⟨ov, rfl, ho, hb4⟩
        obtain ⟨o0, oc, rfl, -⟩ := ho.shape
        have HA4 := Lib.hid (HAD.out _ _ (HS3.out.below hb4) ho)
        have HB4 := Lib.hid (HB3.out.trans (hb4.mono HB3.out.size))
        clear ho hb4 HOF HAD
        go_wp2_with fail
        refine HA4.out.mono ?_
        rintro e w5 ⟨zv, rfl, hzv, hb5, hf5⟩
        obtain ⟨z0, zc, rfl, -⟩ := hzv.shape
        have HBZ := Lib.hid (HB4.out.trans (hb5.mono HB4.out.size))
        have hlt4 : w.heap.size + 1 ≤ w4.heap.size := Nat.le_trans (show w.heap.size + 1 ≤ wr.heap.size from Gu.Buf.lt HRE.out.2.1) HB4.out.size
        obtain ⟨z, hz⟩ : ∃ z, z = x * 2 + 1 := ⟨_, rfl⟩
        obtain ⟨wz, rfl⟩ : ∃ wz, wz = w5 := ⟨_, rfl⟩
        rw [← hz] at hzv hf5 ⊢
        rw [← hz] at HBD
        have HZ := Lib.hid hzv
        have HFZ : Hid (FR (w.heap.size + 1) (.slice z0 (nd 65536 z) zc) z) := hf5.mono hlt4
        have HZE := Lib.hid hz
        have hzx : z < 2 * b := by omega
        clear hz hzv hf5 hb5 HA4
        have hzb : z < 2 * b := by omega
        have hz16 := nd_twice hzb
        have HUC := Lib.hid (HU.out.below (HRE.out.2.2.1.trans (HBZ.out.mono HRE.out.2.2.1.size)))
        have HCM := Lib.hid (RCmp_any _ _ z b wz HZ.out HUC.out (by omega) (by omega))
        by_cases hge : b ≤ z
        · have hcm : 0 ≤ cmpN z b := by unfold cmpN; rw [if_neg (by omega)]; split <;> omega
          have hds := HBD.out.1 hge
          have HDS := Lib.hid hds
          have HSU := Lib.hid (fun q => RSub_f _ _ z b (wz.drewN q) (IsN.drewN HZ.out q) (IsN.drewN HUC.out q) (by omega) (by omega) hge)
          have HQB := Lib.hid (Gu.Buf.below HRE.out.2.1 HBZ.out (Gu.Buf.lt HRE.out.2.1))
          have HBW := Lib.hid (HRE.out.2.2.1.trans (HBZ.out.mono HRE.out.2.2.1.size))
          clear hds hge hzb
          generalize cmpN z b = cm at *
          go_wp2_with fail
          refine HCM.out.mono ?_
          rintro e w' ⟨rfl, q, rfl⟩
          go_wp2_with fail
          refine (HSU.out q).mono ?_
          rintro e w6 ⟨nv, rfl, hn, hb6, hf6⟩
          obtain ⟨n0, nc, rfl, -⟩ := hn.shape
          have hq6 := Gu.Buf.below (Gu.Buf.below HQB.out (below_drewN (Below.refl _ _) q) (Gu.Buf.lt HQB.out)) hb6 (Gu.Buf.lt HQB.out)
          have HBF := Lib.hid ((HBW.out.trans ((below_drewN (Below.refl _ _) q).mono HBW.out.size)).trans (hb6.mono HBW.out.size))
          have hjl : k / 16 < la := by omega
          have hcell := Gu.Buf.cell hq6 (i := k / 16) hjl
          have hfr := Gu.Buf.frozen hq6 (k / 16)
          have HQ6 := Lib.hid hq6
          have HF6 := Lib.hid (hf6.mono (show w.heap.size + 1 ≤ (wz.drewN q).heap.size from Gu.Buf.lt HQB.out))
          have HN := Lib.hid hn
          have HAT : Hid (∀ W, Buf .i64 65536 3 W w.heap.size la Q → Buf .i64 65536 3 (W.setCell ⟨w.heap.size, k / 16, none⟩ (.int .i64 (dg 65536 Q (k / 16) + 2 ^ (k % 16) : Nat))) w.heap.size la (Q + 2 ^ k)) := by
            intro W hW
            have h1 := Buf.at hW (by decide) (k / 16) HRO.out
            have h2 := at_val (B := 65536) (V := Q) (j := k / 16) (d := dg 65536 Q (k / 16) + 2 ^ (k % 16))
            have h4 : 65536 ^ (k / 16) * (dg 65536 Q (k / 16) + 2 ^ (k % 16)) = 65536 ^ (k / 16) * dg 65536 Q (k / 16) + 65536 ^ (k / 16) * 2 ^ (k % 16) := Nat.mul_add _ _ _
            have h3 : 65536 ^ (k / 16) * 2 ^ (k % 16) = 2 ^ k := by
              rw [show (65536 : Nat) = 2 ^ 16 from by decide, ← Nat.pow_mul, ← Nat.pow_add]
              congr 1; omega
            rw [h3] at h4
            rw [show Q + 2 ^ k = Q % 65536 ^ (k / 16) + 65536 ^ (k / 16) * (dg 65536 Q (k / 16) + 2 ^ (k % 16) + 65536 * (Q / 65536 ^ (k / 16 + 1))) from by omega]
            exact h1
          have hpw : 2 ^ (k % 16) ≤ 65536 := Nat.le_trans (Nat.pow_le_pow_right (by decide) (show k % 16 ≤ 16 by omega)) (by decide)
          have HP := Lib.hid (fun w => power_any (k % 16) w (by omega))
          have hdq := dg_lt (B := 65536) (by decide) Q (k / 16)
          obtain ⟨j, hj⟩ : ∃ j, j = k / 16 := ⟨_, rfl⟩
          obtain ⟨s, hs⟩ : ∃ s, s = k % 16 := ⟨_, rfl⟩
          have q1 : (k : Int) / 16 = j := by omega
          have q2 : (k : Int) % 16 = s := by omega
          have ht1 : (k : Int).tdiv 16 = j := by rw [Int.tdiv_eq_ediv_of_nonneg (by omega)]; omega
          have ht2 : (k : Int).tmod 16 = s := by rw [Int.tmod_eq_emod_of_nonneg (by omega)]; omega
          have ht3 : IntKind.i64.wrap ((k : Int) / 16) = j := by rw [q1]; exact IntWalk.i64_in _ (by omega)
          have ht4 : IntKind.i64.wrap ((k : Int).tdiv 16) = j := by rw [ht1]; exact IntWalk.i64_in _ (by omega)
          have ht5 : IntKind.i64.wrap (j : Int) = j := IntWalk.i64_in _ (by omega)
          rw [← hj] at hcell hfr HAT hdq hjl
          rw [← hs] at HAT hpw HP
          clear hj hs hq6 hn hb6 hf6 HRO
          generalize dg 65536 Q j = dq at *
          obtain ⟨pw, hpe⟩ : ∃ pw, pw = 2 ^ s := ⟨_, rfl⟩
          rw [← hpe] at HAT hpw HP
          clear hpe
          have hjl2 : (j : Int) < la := by omega
          have hj0 : (0 : Int) ≤ j := by omega
          go_wp2_with fail
          have hwq : ((dq : Int) + pw) = ((dq + pw : Nat) : Int) := by omega
          have HNEW : Hid (DMRel a b la w k (.slice n0 (nd 65536 (z - b)) nc) (w6.setCell ⟨w.heap.size, j, none⟩ (.int .i64 ((dq : Int) + pw))).drew) := by
            rw [hwq]
            refine ⟨?_, ?_, ?_, ?_⟩
            · rw [HDS.out.1]
              exact (FR.setCell HN.out HF6.out (Nat.lt_succ_self _)).below (Below.refl _ _).drew
            · rw [HDS.out.2]
              exact HAT.out w6 HQ6.out
            · exact (HBF.out.setCell (Nat.le_refl _) _).drew
            · rw [HDS.out.1]; exact HF6.out
          clear hwq
          go_region_with (go_at_call 93; refine (HP.out _).mono ?_; rintro e w' ⟨rfl, rfl⟩)
          all_goals go_wp2
          all_goals go_roundg k
          all_goals first | exact Nat.lt_succ_self _ | exact ⟨by go_num, Nat.le_of_succ_le HML.out, HNEW.out⟩
        · have hcm : cmpN z b = -1 := cmpN_lt (by omega)
          have hds := HBD.out.2 (by omega)
          have HNEW : Hid (∀ q, DMRel a b la w k (.slice z0 (nd 65536 z) zc) (wz.drewN q)) := fun q => by
            refine ⟨?_, ?_, ?_, ?_⟩
            · rw [hds.1]; exact IsN.drewN HZ.out q
            · rw [hds.2]; exact Gu.Buf.below (Gu.Buf.below HRE.out.2.1 HBZ.out (Gu.Buf.lt HRE.out.2.1)) (below_drewN (Below.refl _ _) q) (Gu.Buf.lt (Gu.Buf.below HRE.out.2.1 HBZ.out (Gu.Buf.lt HRE.out.2.1)))
            · exact below_drewN (HRE.out.2.2.1.trans (HBZ.out.mono HRE.out.2.2.1.size)) q
            · rw [hds.1]; exact HFZ.out
          rw [hcm] at HCM
          clear hcm hds hge hzb
          go_wp2_with fail
          refine HCM.out.mono ?_
          rintro e w' ⟨rfl, q, rfl⟩
          have HN2 := HNEW.out q
          go_wp2
          go_roundg k
          case measure => exact Nat.lt_succ_self _
          case rel => exact ⟨by go_num, Nat.le_of_succ_le HML.out, HN2⟩
end Go.Proofs.YteajinpfigejfaaDoor
namespace Go.Proofs.YteajinpfigejfaaDoor
open Go Go.RowKit Gu

set_option maxHeartbeats 1000000 in
theorem RLow_any (v u : Value) (a b : Nat) (w : World) (hv : R w v a) (hu : R w u b) (hb0 : 0 < b) (ha : nd 65536 a ≤ 1000) (hb : nd 65536 b ≤ 1000) :
    Calls Tryd.prog 66 #[v, u] w fun e w' => ∃ r s, e = .returned (.agg #[r, s]) ∧ R w' r (lowP a b) ∧ R w' s (lowQ a b) ∧ Below w.heap.size w w' := by
  have b1 : ∀ o, Below w.heap.size w (w.alloc o) := fun o => (Below.refl _ _).alloc (Nat.le_refl _) _
  by_cases h0 : a = 0
  · subst h0
    have e1 : lowP 0 b = 0 := by unfold lowP; rw [Nat.zero_div]
    have e2 : lowQ 0 b = 1 := by unfold lowQ; rw [Nat.gcd_zero_left, Nat.div_self hb0]
    rw [e1, e2]
    obtain ⟨ao, ac, rfl, -⟩ := hv.shape
    rw [nd_zero]
    have HB := Lib.hid b1
    clear hv hu b1
    go_enter Tryd.func66, Tryd.ntmps66
    go_wp2_with fail
    refine (Of_any 1 _ (by decide)).mono ?_
    rintro e w1 ⟨r, rfl, hr, hb1⟩
    obtain ⟨ro, rc, rfl, -⟩ := hr.shape
    have d0 : w1.cell? ⟨w.heap.size, 0, none⟩ = some (.slice none 0 0) := (hb1.cell (p := ⟨w.heap.size, 0, none⟩) (by simp)).trans (World.cell?_alloc_at _ _ _ _ rfl)
    have d1 : w1.cell? ⟨w.heap.size, 1, none⟩ = some (.slice none 0 0) := (hb1.cell (p := ⟨w.heap.size, 1, none⟩) (by simp)).trans (World.cell?_alloc_at _ _ _ _ rfl)
    have g0 : w1.frozen? ⟨w.heap.size, 0, none⟩ = false := (hb1.frozen (p := ⟨w.heap.size, 0, none⟩) (by simp)).trans (World.frozen?_alloc_at _ _ _ _ rfl)
    have g1 : w1.frozen? ⟨w.heap.size, 1, none⟩ = false := (hb1.frozen (p := ⟨w.heap.size, 1, none⟩) (by simp)).trans (World.frozen?_alloc_at _ _ _ _ rfl)
    obtain ⟨t0, t1⟩ := read_two d0 d1 (.slice none 0 0) (.slice ro (nd 65536 1) rc)
    have HX : Hid (R ((w1.setCell ⟨w.heap.size, 0, none⟩ (.slice none 0 0)).setCell ⟨w.heap.size, 1, none⟩ (.slice ro (nd 65536 1) rc)) (.slice ro (nd 65536 1) rc) 1) := IsN_setTwo hr d0 d1 (by intro d h; cases h) (by intro d h; cases h) _ _
    have HBE := Lib.hid ((((HB.out _).trans (hb1.mono (by simp))).setCell (p := ⟨w.heap.size, 0, none⟩) (Nat.le_refl _) (.slice none 0 0)).setCell (p := ⟨w.heap.size, 1, none⟩) (Nat.le_refl _) (.slice ro (nd 65536 1) rc))
    have T0 := Lib.hid t0; have T1 := Lib.hid t1
    clear hr hb1 t0 t1
    go_wp2
    have t0 := T0.out; have t1 := T1.out
    refine bodyPost_ret (v := .agg #[.slice none 0 0, .slice ro (nd 65536 1) rc]) (by simp [results, Tryd.results66, go_sem, t0, t1]) rfl ⟨_, _, rfl, IsN.zero _ _ _ _ _, HX.out, HBE.out⟩
  · have ha0 : 0 < a := Nat.pos_of_ne_zero h0
    have hg0 : 0 < Nat.gcd a b := Nat.gcd_pos_of_pos_left _ ha0
    have hg16 : nd 65536 (Nat.gcd a b) ≤ 1000 := Nat.le_trans (nd_mono (by decide) (Nat.gcd_le_left _ ha0)) ha
    have hl := nd_pos (B := 65536) (by decide) ha0
    have hq : ((((nd 65536 a : Nat)) : Int) == 0) = false := beq_eq_false_iff_ne.2 (by omega)
    have HG := Lib.hid (fun o => RGcd_any v u a b (w.alloc o) (hv.below (b1 o)) (hu.below (b1 o)) ha hb)
    have HD1 := Lib.hid (fun g W (h : Below w.heap.size w W) (h' : R W g (Nat.gcd a b)) => RDivMod_any v g a (Nat.gcd a b) W (hv.below h) h' hg0 (by omega) (by omega))
    have HD2 := Lib.hid (fun g W (h : Below w.heap.size w W) (h' : R W g (Nat.gcd a b)) => RDivMod_any u g b (Nat.gcd a b) W (hu.below h) h' hg0 (by omega) (by omega))
    rw [show a / Nat.gcd a b = lowP a b from rfl] at HD1
    rw [show b / Nat.gcd a b = lowQ a b from rfl] at HD2
    have HB := Lib.hid b1
    obtain ⟨ao, ac, rfl, -⟩ := hv.shape
    obtain ⟨bo, bc, rfl, -⟩ := hu.shape
    clear hv hu b1 h0 hg0 hg16 hl
    generalize lowP a b = P at *
    generalize lowQ a b = Q at *
    generalize a % Nat.gcd a b = m1 at *
    generalize b % Nat.gcd a b = m2 at *
    generalize Nat.gcd a b = G at *
    go_enter Tryd.func66, Tryd.ntmps66
    go_wp2_with fail
    refine (HG.out _).mono ?_
    rintro e w1 ⟨g, rfl, hg, hb1⟩
    obtain ⟨go, gc, rfl, -⟩ := hg.shape
    have HB1 := Lib.hid hb1; have HGG := Lib.hid hg
    have HW1 := Lib.hid ((HB.out _).trans (hb1.mono (by simp)))
    clear hg hb1
    go_wp2_with fail
    refine (HD1.out _ _ HW1.out HGG.out).mono ?_
    rintro e w2 ⟨p, m, rfl, hp, -, hb2⟩
    obtain ⟨po, pc, rfl, -⟩ := hp.shape
    have HB2 := Lib.hid (HB1.out.trans (hb2.mono HB1.out.size)); have HP := Lib.hid hp
    have HW2 := Lib.hid (HW1.out.trans (hb2.mono HW1.out.size)); have HG2 := Lib.hid (HGG.out.below hb2)
    clear hp hb2
    go_wp2_with fail
    refine (HD2.out _ _ HW2.out HG2.out).mono ?_
    rintro e w3 ⟨q, m', rfl, hq', -, hb3⟩
    obtain ⟨qo, qc, rfl, -⟩ := hq'.shape
    have hb := HB2.out.trans (hb3.mono HB2.out.size)
    have d0 : w3.cell? ⟨w.heap.size, 0, none⟩ = some (.slice none 0 0) := (hb.cell (p := ⟨w.heap.size, 0, none⟩) (by simp)).trans (World.cell?_alloc_at _ _ _ _ rfl)
    have d1 : w3.cell? ⟨w.heap.size, 1, none⟩ = some (.slice none 0 0) := (hb.cell (p := ⟨w.heap.size, 1, none⟩) (by simp)).trans (World.cell?_alloc_at _ _ _ _ rfl)
    have g0 : w3.frozen? ⟨w.heap.size, 0, none⟩ = false := (hb.frozen (p := ⟨w.heap.size, 0, none⟩) (by simp)).trans (World.frozen?_alloc_at _ _ _ _ rfl)
    have g1 : w3.frozen? ⟨w.heap.size, 1, none⟩ = false := (hb.frozen (p := ⟨w.heap.size, 1, none⟩) (by simp)).trans (World.frozen?_alloc_at _ _ _ _ rfl)
    obtain ⟨t0, t1⟩ := read_two d0 d1 (.slice po (nd 65536 P) pc) (.slice qo (nd 65536 Q) qc)
    have HX := Lib.hid (IsN_setTwo (HP.out.below hb3) d0 d1 (by intro d h; cases h) (by intro d h; cases h) (.slice po (nd 65536 P) pc) (.slice qo (nd 65536 Q) qc))
    have HY := Lib.hid (IsN_setTwo hq' d0 d1 (by intro d h; cases h) (by intro d h; cases h) (.slice po (nd 65536 P) pc) (.slice qo (nd 65536 Q) qc))
    have HBE := Lib.hid ((((HB.out _).trans (hb.mono (by simp))).setCell (p := ⟨w.heap.size, 0, none⟩) (Nat.le_refl _) (.slice po (nd 65536 P) pc)).setCell (p := ⟨w.heap.size, 1, none⟩) (Nat.le_refl _) (.slice qo (nd 65536 Q) qc))
    have T0 := Lib.hid t0; have T1 := Lib.hid t1
    clear hq' hb hb3 t0 t1
    go_wp2
    have t0 := T0.out; have t1 := T1.out
    refine bodyPost_ret (v := .agg #[.slice po (nd 65536 P) pc, .slice qo (nd 65536 Q) qc]) (by simp [results, Tryd.results66, go_sem, t0, t1]) rfl ⟨_, _, rfl, HX.out, HY.out, HBE.out⟩
/-- what a region over a fraction of the document keeps -/
structure StR (W0 : World) (v u : Value) (a b : Nat) (W : World) : Prop where
  n1 : R W v a
  n2 : R W u b
  bel : Below W0.heap.size W0 W
theorem StR.next {W0 W W' : World} {v u : Value} {a b : Nat} (h : StR W0 v u a b W) (hb : Below W.heap.size W W') : StR W0 v u a b W' :=
  ⟨h.n1.below hb, h.n2.below hb, h.bel.trans (hb.mono h.bel.size)⟩
theorem StR.cell {W0 W : World} {v u x : Value} {a b k o : Nat} (h : StR W0 v u a b W) (hk : k < W0.heap.size) (hc : W0.cell? ⟨k, o, none⟩ = some x) : W.cell? ⟨k, o, none⟩ = some x :=
  (h.bel.cell (p := ⟨k, o, none⟩) hk).trans hc
set_option maxHeartbeats 2000000 in
set_option maxRecDepth 100000 in
theorem RFText_any (v u : Value) (a b : Nat) (w : World) (hv : R w v a) (hu : R w u b) (ha : nd 65536 a ≤ 5000) (hb : nd 65536 b ≤ 5000) :
    Calls Tryd.prog 40 #[.agg #[v, u]] w fun e w' => e = .returned (.string ⟨(fracText a b).toArray⟩) ∧ Below w.heap.size w w' := by
  obtain ⟨W0, hW0⟩ : ∃ W0 : World, W0 = w.alloc (.cells #[v, u] 32) := ⟨_, rfl⟩
  have hz0 : W0.heap.size = w.heap.size + 1 := by rw [hW0]; simp
  have hbw : Below w.heap.size w W0 := by rw [hW0]; exact (Below.refl _ _).alloc (Nat.le_refl _) _
  have hst0 : StR W0 v u a b W0 := ⟨hv.below hbw, hu.below hbw, Below.refl _ _⟩
  have c0 : W0.cell? ⟨w.heap.size, 0, none⟩ = some v := by rw [hW0]; exact World.cell?_alloc_at _ _ _ _ rfl
  have c1 : W0.cell? ⟨w.heap.size, 1, none⟩ = some u := by rw [hW0]; exact World.cell?_alloc_at _ _ _ _ rfl
  have HCA : Hid (∀ W, StR W0 v u a b W → W.cell? ⟨w.heap.size, 0, none⟩ = some v ∧ W.cell? ⟨w.heap.size, 1, none⟩ = some u) := fun W h => ⟨h.cell (by omega) c0, h.cell (by omega) c1⟩
  have HOF : Hid (∀ W, StR W0 v u a b W → Calls Tryd.prog 36 #[.int .i64 1] W fun e w' => ∃ o l c, e = .returned (.slice o l c) ∧ R w' (.slice o l c) 1 ∧ StR W0 v u a b w') := fun W h =>
    (Of_any 1 W (by decide)).mono fun e w' ⟨r, he, hr, hB⟩ => by
      obtain ⟨ro, rc, rfl, -⟩ := hr.shape
      exact ⟨ro, _, rc, he, hr, h.next hB⟩
  have HCM : Hid (∀ W x, StR W0 v u a b W → R W x 1 → Calls Tryd.prog 38 #[u, x] W fun e w' => e = .returned (.int .i64 (cmpN ((b : Nat) : Int) ((1 : Nat) : Int))) ∧ StR W0 v u a b w') := fun W x h hx =>
    (RCmp_any u x b 1 W h.n2 hx (by omega) (by have := nd_le_self16 (n := 1) (by decide); omega)).mono fun e w' ⟨he, k, hw⟩ => ⟨he, by rw [hw]; exact h.next (below_drewN (Below.refl _ _) k)⟩
  obtain ⟨Sa, hSa⟩ : ∃ Sa : ByteArray, Sa = ⟨(Lib.decDigits a).toArray⟩ := ⟨_, rfl⟩
  obtain ⟨Sb, hSb⟩ : ∃ Sb : ByteArray, Sb = ⟨(Lib.decDigits b).toArray⟩ := ⟨_, rfl⟩
  have HTA : Hid (∀ W, StR W0 v u a b W → Calls Tryd.prog 74 #[v] W fun e w' => e = .returned (.string Sa) ∧ StR W0 v u a b w') := fun W h => by
    rw [hSa]; exact (Text_any v a W h.n1 (by omega)).mono fun e w' ⟨he, hB⟩ => ⟨he, h.next hB⟩
  have HTB : Hid (∀ W, StR W0 v u a b W → Calls Tryd.prog 74 #[u] W fun e w' => e = .returned (.string Sb) ∧ StR W0 v u a b w') := fun W h => by
    rw [hSb]; exact (Text_any u b W h.n2 (by omega)).mono fun e w' ⟨he, hB⟩ => ⟨he, h.next hB⟩
  have hla : Sa.size ≤ 1000000 := by rw [hSa, ← len_data]; exact dec_bound (m := 5000) (Nat.le_trans (nd_32 ha) (by decide)) (by decide) |> fun h => Nat.le_trans h (by decide)
  have hlb : Sb.size ≤ 1000000 := by rw [hSb, ← len_data]; exact dec_bound (m := 5000) (Nat.le_trans (nd_32 hb) (by decide)) (by decide) |> fun h => Nat.le_trans h (by decide)
  have HSA := Lib.hid hSa; have HSB := Lib.hid hSb
  have HBW := Lib.hid hbw; have HW0 := Lib.hid hW0
  have hs2 := hst0.next ((Below.refl _ W0).drew)
  have hc0 := HCA.out _ hst0
  have hc2 := HCA.out _ hs2
  obtain ⟨ao, ac, rfl, -⟩ := hv.shape
  obtain ⟨bo, bc, rfl, -⟩ := hu.shape
  clear hv hu hz0 hbw c0 c1 hW0 hSa hSb ha hb
  have hcase : (b = 1 ∧ cmpN ((b : Nat) : Int) ((1 : Nat) : Int) = 0) ∨ (b ≠ 1 ∧ ((cmpN ((b : Nat) : Int) ((1 : Nat) : Int)) == 0) = false) := by
    by_cases h : b = 1
    · exact .inl ⟨h, cmpN_eq (by omega)⟩
    · refine .inr ⟨h, beq_eq_false_iff_ne.2 ?_⟩
      rcases Nat.lt_or_gt_of_ne h with h' | h'
      · rw [cmpN_lt (by omega)]; decide
      · rw [cmpN_gt (by omega)]; decide
  have HK := Lib.hid hcase
  clear hcase
  generalize cmpN ((b : Nat) : Int) ((1 : Nat) : Int) = kk at *
  generalize nd 65536 a = la at *
  rcases HK.out with ⟨hb1, rfl⟩ | ⟨hb1, hk⟩
  · have HT : Hid (ByteArray.mk (fracText a b).toArray = Sa) := by show _ = _; unfold fracText; rw [if_pos hb1, HSA.out]
    rw [HT.out]
    clear hb1
    generalize nd 65536 b = lb at *
    go_enter Tryd.func40, Tryd.ntmps40
    go_wp2_with fail
    rw [← HW0.out]
    go_region_held3 (fun W : World => (W.cell? ⟨w.heap.size, 0, none⟩ = some (.slice ao la ac) ∧ W.cell? ⟨w.heap.size, 1, none⟩ = some (.slice bo lb bc)) ∧ StR W0 (.slice ao la ac) (.slice bo lb bc) a b W) (first | (refine And.intro ?_ ?_ <;> assumption)) (first
      | (go_at_call 36; with_reducible refine (HOF.out _ ?h).mono ?_; (case h => assumption); rintro e w' ⟨o1, l1, k1, rfl, hr', hs'⟩; have hc' := HCA.out _ hs')
      | (go_at_call 38; with_reducible refine (HCM.out _ _ ?h ?r).mono ?_; (case h => assumption); (case r => first | assumption | exact rchain (by assumption) (by assumption)); rintro e w' ⟨rfl, hs'⟩; have hc' := HCA.out _ hs'))
    all_goals
      have hT : StR W0 (.slice ao la ac) (.slice bo lb bc) a b w' := by assumption
      have hcx := HCA.out _ hT
      have HTT := Lib.hid hT
      clear hT
      go_wp2_with fail
      refine (HTA.out _ HTT.out).mono ?_
      rintro e w5 ⟨rfl, hs5⟩
      have HBE := Lib.hid (HBW.out.trans (hs5.bel.mono HBW.out.size))
      clear hs5
      go_wp2
      go_ret
      exact ⟨rfl, HBE.out⟩
  · have HT : Hid (ByteArray.mk (fracText a b).toArray = Sa ++ ⟨#[47]⟩ ++ Sb) := by
      show _ = _; unfold fracText; rw [if_neg hb1, HSA.out, HSB.out]; exact (slash _ _).symm
    rw [HT.out]
    have hadd1 : ∀ W : World, (Op.stringOp .add Sa ⟨#[47]⟩).run Tryd.prog W = .ok (.string (Sa ++ ⟨#[47]⟩)) W := fun W => run_string_add_sum W _ _ (by
      have e : (⟨#[47]⟩ : ByteArray).size = 1 := rfl
      rw [e]; omega)
    have hadd2 : ∀ W : World, (Op.stringOp .add (Sa ++ ⟨#[47]⟩) Sb).run Tryd.prog W = .ok (.string (Sa ++ ⟨#[47]⟩ ++ Sb)) W := fun W => run_string_add_sum W _ _ (by
      have e : (⟨#[47]⟩ : ByteArray).size = 1 := rfl
      rw [ByteArray.size_append, e]; omega)
    clear hb1
    generalize nd 65536 b = lb at *
    go_enter Tryd.func40, Tryd.ntmps40
    go_wp2_with fail
    rw [← HW0.out]
    go_region_held3 (fun W : World => (W.cell? ⟨w.heap.size, 0, none⟩ = some (.slice ao la ac) ∧ W.cell? ⟨w.heap.size, 1, none⟩ = some (.slice bo lb bc)) ∧ StR W0 (.slice ao la ac) (.slice bo lb bc) a b W) (first | (refine And.intro ?_ ?_ <;> assumption)) (first
      | (go_at_call 36; with_reducible refine (HOF.out _ ?h).mono ?_; (case h => assumption); rintro e w' ⟨o1, l1, k1, rfl, hr', hs'⟩; have hc' := HCA.out _ hs')
      | (go_at_call 38; with_reducible refine (HCM.out _ _ ?h ?r).mono ?_; (case h => assumption); (case r => first | assumption | exact rchain (by assumption) (by assumption)); rintro e w' ⟨rfl, hs'⟩; have hc' := HCA.out _ hs'))
    all_goals
      have hT : StR W0 (.slice ao la ac) (.slice bo lb bc) a b w' := by assumption
      have hcx := HCA.out _ hT
      have hs3 := hT.next ((Below.refl _ _).drew)
      have hcy := HCA.out _ hs3
      go_wp2_with fail
      go_region_held3 (fun W : World => (W.cell? ⟨w.heap.size, 0, none⟩ = some (.slice ao la ac) ∧ W.cell? ⟨w.heap.size, 1, none⟩ = some (.slice bo lb bc)) ∧ StR W0 (.slice ao la ac) (.slice bo lb bc) a b W) (first | (refine And.intro ?_ ?_ <;> assumption)) (first
        | (go_at_call 74; with_reducible refine (HTA.out _ ?h).mono ?_; (case h => assumption); rintro e w' ⟨rfl, hs'⟩; have hc' := HCA.out _ hs')
        | (go_at_call 74; with_reducible refine (HTB.out _ ?h).mono ?_; (case h => assumption); rintro e w' ⟨rfl, hs'⟩; have hc' := HCA.out _ hs'))
      all_goals
        have hT5 : StR W0 (.slice ao la ac) (.slice bo lb bc) a b w' := by assumption
        have HBE := Lib.hid (HBW.out.trans (hT5.bel.mono HBW.out.size))
        clear hT5
        go_wp2
        go_ret
        exact ⟨rfl, HBE.out⟩
end Go.Proofs.YteajinpfigejfaaDoor
namespace Go.Proofs.YteajinpfigejfaaDoor
open Go Go.RowKit Gu

/-- what same keeps: both fractions -/
structure StS (w : World) (v u r s : Value) (P Q : Nat) (W : World) : Prop where
  n1 : D W v P
  n2 : D W u Q
  d1 : R W r P
  d2 : R W s Q
  env : Env W
  bel : Below w.heap.size w W
theorem StS.next {w W W' : World} {v u r s : Value} {P Q : Nat} (h : StS w v u r s P Q W) (hb : Below W.heap.size W W') : StS w v u r s P Q W' :=
  ⟨h.n1.below hb, h.n2.below hb, h.d1.below hb, h.d2.below hb, h.env.below hb, h.bel.trans (hb.mono h.bel.size)⟩
theorem fracText_zero : (⟨(fracText 0 1).toArray⟩ : ByteArray) = ⟨#[48]⟩ := by
  unfold fracText
  rw [if_pos rfl, decDigits_small (by decide)]
  rfl
set_option maxHeartbeats 1000000 in
theorem same_err (v u r s : Value) (n : Int) (w : World) (hv : D w v 0) (hu : D w u 0) (hn : n ≠ 0) (hr : ∃ a, R w r a) (hs : ∃ b, R w s b) (he : Env w) :
    Calls Tryd.prog 9 #[.agg #[v, u], .int .i64 n, .agg #[r, s], .int .i64 n] w fun e w' => e = .returned (.bool true) ∧ Below w.heap.size w w' := by
  have b2 : ∀ o1 o2, Below w.heap.size w ((w.alloc o1).alloc o2) := fun o1 o2 => ((Below.refl _ _).alloc (Nat.le_refl _) _).alloc (by simp) _
  have HST := Lib.hid (fun o1 o2 => FracString_any v u 0 0 ((w.alloc o1).alloc o2) (hv.below (b2 o1 o2)) (hu.below (b2 o1 o2)) (by rw [nd_zero]; omega) (by rw [nd_zero]; omega) (he.below (b2 o1 o2)))
  rw [show dn 0 = 1 from rfl, fracText_zero] at HST
  have HB := Lib.hid b2
  have hq : (n == 0) = false := beq_eq_false_iff_ne.2 hn
  obtain ⟨ao, ac, rfl, -⟩ := hv.shape
  obtain ⟨bo, bc, rfl, -⟩ := hu.shape
  obtain ⟨ra, hr⟩ := hr
  obtain ⟨sa, hs⟩ := hs
  obtain ⟨ro, rc, rfl, -⟩ := hr.shape
  obtain ⟨so, sc, rfl, -⟩ := hs.shape
  clear hv hu hr hs b2 hn
  generalize nd 65536 ra = la at *
  generalize nd 65536 sa = lb at *
  go_enter Tryd.func9, Tryd.ntmps9
  go_wp2_with fail
  refine (HST.out _ _).mono ?_
  rintro e w1 ⟨rfl, hb⟩
  have HBE := Lib.hid ((HB.out _ _).trans (hb.mono (HB.out _ _).size))
  clear hb
  go_wp2
  go_ret
  exact ⟨by simp, HBE.out⟩
set_option maxHeartbeats 2000000 in
set_option maxRecDepth 100000 in
theorem same_ok (v u r s : Value) (P Q : Nat) (w : World) (hv : D w v P) (hu : D w u Q) (hr : R w r P) (hs : R w s Q) (hQ : 0 < Q) (h1 : nd 65536 P ≤ 5000) (h2 : nd 65536 Q ≤ 5000) (he : Env w) :
    Calls Tryd.prog 9 #[.agg #[v, u], .int .i64 0, .agg #[r, s], .int .i64 0] w fun e w' => e = .returned (.bool true) ∧ Below w.heap.size w w' := by
  have k1 := nd_32 h1
  have k2 := nd_32 h2
  obtain ⟨W0, hW0⟩ : ∃ W0 : World, W0 = (w.alloc (.cells #[v, u] 26)).alloc (.cells #[r, s] 32) := ⟨_, rfl⟩
  have hz0 : W0.heap.size = w.heap.size + 2 := by rw [hW0]; simp
  have hbw : Below w.heap.size w W0 := by rw [hW0]; exact ((Below.refl _ _).alloc (Nat.le_refl _) _).alloc (by simp) _
  have hst0 : StS W0 v u r s P Q W0 := ⟨hv.below hbw, hu.below hbw, hr.below hbw, hs.below hbw, he.below hbw, Below.refl _ _⟩
  have ca : ∀ W, Below W0.heap.size W0 W → W.cell? ⟨w.heap.size, 0, none⟩ = some v ∧ W.cell? ⟨w.heap.size, 1, none⟩ = some u ∧ W.cell? ⟨w.heap.size + 1, 0, none⟩ = some r ∧ W.cell? ⟨w.heap.size + 1, 1, none⟩ = some s := fun W hb => by
    have e0 : W0.cell? ⟨w.heap.size, 0, none⟩ = some v := by rw [hW0]; exact (World.cell?_alloc_past _ _ _ (by simp)).trans (World.cell?_alloc_at _ _ _ _ rfl)
    have e1 : W0.cell? ⟨w.heap.size, 1, none⟩ = some u := by rw [hW0]; exact (World.cell?_alloc_past _ _ _ (by simp)).trans (World.cell?_alloc_at _ _ _ _ rfl)
    have e2 : W0.cell? ⟨w.heap.size + 1, 0, none⟩ = some r := by rw [hW0]; exact World.cell?_alloc_at _ _ _ _ (by simp)
    have e3 : W0.cell? ⟨w.heap.size + 1, 1, none⟩ = some s := by rw [hW0]; exact World.cell?_alloc_at _ _ _ _ (by simp)
    exact ⟨(hb.cell (p := ⟨w.heap.size, 0, none⟩) (by show w.heap.size < _; omega)).trans e0, (hb.cell (p := ⟨w.heap.size, 1, none⟩) (by show w.heap.size < _; omega)).trans e1, (hb.cell (p := ⟨w.heap.size + 1, 0, none⟩) (by show w.heap.size + 1 < _; omega)).trans e2, (hb.cell (p := ⟨w.heap.size + 1, 1, none⟩) (by show w.heap.size + 1 < _; omega)).trans e3⟩
  have HCA : Hid (∀ W, StS W0 v u r s P Q W → W.cell? ⟨w.heap.size, 0, none⟩ = some v ∧ W.cell? ⟨w.heap.size, 1, none⟩ = some u ∧ W.cell? ⟨w.heap.size + 1, 0, none⟩ = some r ∧ W.cell? ⟨w.heap.size + 1, 1, none⟩ = some s) := fun W h => ca W h.bel
  obtain ⟨S, hS⟩ : ∃ S : ByteArray, S = ⟨(fracText P Q).toArray⟩ := ⟨_, rfl⟩
  have HSA : Hid (∀ W, StS W0 v u r s P Q W → Calls Tryd.prog 27 #[.agg #[v, u]] W fun e w' => e = .returned (.string S) ∧ StS W0 v u r s P Q w') := fun W h => by
    have h3 := FracString_any v u P Q W h.n1 h.n2 (by omega) (by omega) h.env
    rw [dn_of hQ, ← hS] at h3
    exact h3.mono fun e w' ⟨he, hB⟩ => ⟨he, h.next hB⟩
  have HSB : Hid (∀ W, StS W0 v u r s P Q W → Calls Tryd.prog 40 #[.agg #[r, s]] W fun e w' => e = .returned (.string S) ∧ StS W0 v u r s P Q w') := fun W h => by
    rw [hS]
    exact (RFText_any r s P Q W h.d1 h.d2 (by omega) (by omega)).mono fun e w' ⟨he, hB⟩ => ⟨he, h.next hB⟩
  have HBW := Lib.hid hbw; have HW0 := Lib.hid hW0
  have hs2 := hst0.next ((Below.refl _ W0).drew)
  have hc0 := HCA.out _ hst0
  have hc2 := HCA.out _ hs2
  obtain ⟨ao, ac, rfl, -⟩ := hv.shape
  obtain ⟨bo, bc, rfl, -⟩ := hu.shape
  obtain ⟨ro, rc, rfl, -⟩ := hr.shape
  obtain ⟨so, sc, rfl, -⟩ := hs.shape
  clear hv hu hr hs hz0 hbw hW0 hS ca he k1 k2 h1 h2 hQ
  generalize nd 4294967296 P = la at *
  generalize nd 4294967296 Q = lb at *
  generalize nd 65536 P = lc at *
  generalize nd 65536 Q = ld at *
  go_enter Tryd.func9, Tryd.ntmps9
  go_wp2_with fail
  rw [← HW0.out]
  go_region_held3 (fun W : World => (W.cell? ⟨w.heap.size, 0, none⟩ = some (.slice ao la ac) ∧ W.cell? ⟨w.heap.size, 1, none⟩ = some (.slice bo lb bc) ∧ W.cell? ⟨w.heap.size + 1, 0, none⟩ = some (.slice ro lc rc) ∧ W.cell? ⟨w.heap.size + 1, 1, none⟩ = some (.slice so ld sc)) ∧ StS W0 (.slice ao la ac) (.slice bo lb bc) (.slice ro lc rc) (.slice so ld sc) P Q W) (first | (refine And.intro ?_ ?_ <;> assumption)) (first
    | (go_at_call 27; with_reducible refine (HSA.out _ ?h).mono ?_; (case h => assumption); rintro e w' ⟨rfl, hs'⟩; have hc' := HCA.out _ hs')
    | (go_at_call 40; with_reducible refine (HSB.out _ ?h).mono ?_; (case h => assumption); rintro e w' ⟨rfl, hs'⟩; have hc' := HCA.out _ hs'))
  all_goals
    have hT : StS W0 (.slice ao la ac) (.slice bo lb bc) (.slice ro lc rc) (.slice so ld sc) P Q w' := by assumption
    have HBE := Lib.hid (HBW.out.trans (hT.bel.mono HBW.out.size))
    clear hT
    go_wp2
    go_ret
    exact ⟨by simp, HBE.out⟩
end Go.Proofs.YteajinpfigejfaaDoor
namespace Go.Proofs.YteajinpfigejfaaDoor
open Go Go.RowKit Gu

/-- both readings of a text of a fraction have one outcome -/
def Reads (s : ByteArray) (E : Int) (P Q : Nat) : Prop :=
  (∀ w, Env w → Calls Tryd.prog 7 #[.string s] w fun e w' => ∃ r t, e = .returned (.tuple #[.agg #[r, t], .int .i64 E]) ∧ D w' r P ∧ D w' t Q ∧ Below w.heap.size w w') ∧
  (∀ w, Env w → Calls Tryd.prog 8 #[.string s] w fun e w' => ∃ r t, e = .returned (.tuple #[.agg #[r, t], .int .i64 E]) ∧ R w' r P ∧ R w' t Q ∧ Below w.heap.size w w') ∧
  ((E = 0 ∧ 0 < Q ∧ nd 65536 P ≤ 625 ∧ nd 65536 Q ≤ 625) ∨ (E ≠ 0 ∧ P = 0 ∧ Q = 0))
theorem reads_no {s : ByteArray} {E : Int} (hE : E ≠ 0)
    (h1 : ∀ w, Env w → Calls Tryd.prog 7 #[.string s] w fun e w' => e = .returned (.tuple #[.agg #[.slice none 0 0, .slice none 0 0], .int .i64 E]) ∧ Below w.heap.size w w')
    (h2 : ∀ w, Env w → Calls Tryd.prog 8 #[.string s] w fun e w' => e = .returned (.tuple #[.agg #[.slice none 0 0, .slice none 0 0], .int .i64 E]) ∧ Below w.heap.size w w') : ∃ E P Q, Reads s E P Q :=
  ⟨E, 0, 0, fun w he => (h1 w he).mono fun _ _ ⟨h, hb⟩ => ⟨_, _, h, IsN.zero _ _ _ _ _, IsN.zero _ _ _ _ _, hb⟩, fun w he => (h2 w he).mono fun _ _ ⟨h, hb⟩ => ⟨_, _, h, IsN.zero _ _ _ _ _, IsN.zero _ _ _ _ _, hb⟩, .inr ⟨hE, rfl, rfl⟩⟩
theorem parE_no {l : List UInt8} (h : isNum l = false) : parE l = 4 := by unfold parE; rw [if_neg (by simp [h])]
theorem parE_big {l : List UInt8} (h : isNum l = true) (h1 : ¬ nd 2 (sval l) ≤ 16384) : parE l = 3 := by unfold parE; rw [if_pos h]; exact if_neg h1
theorem parE_fit {l : List UInt8} (h : isNum l = true) (h1 : nd 2 (sval l) ≤ 16384) : parE l = 0 ∧ parN l = sval l := by
  unfold parE parN; rw [if_pos h, if_pos h]; exact ⟨if_pos h1, if_pos h1⟩
theorem bool_of {b : Bool} : b = false ∨ b = true := by cases b <;> simp
theorem gcd_one_pos {a b : Nat} (h : Nat.gcd a b = 1) (hb : b ≠ 0 ∨ a ≠ 1) : 0 < b ∨ a = 1 := by
  rcases Nat.eq_zero_or_pos b with h0 | h0
  · subst h0; rw [Nat.gcd_zero_right] at h; exact .inr h
  · exact .inl h0
theorem num_zero {s : ByteArray} (h : isNum s.data.toList = true) (h0 : s ≠ ⟨#[48]⟩) : 0 < sval s.data.toList := by
  rcases Nat.eq_zero_or_pos (sval s.data.toList) with h1 | h1
  · exfalso
    have h2 := dec_sval _ h
    rw [h1] at h2
    apply h0
    apply ByteArray.ext
    apply Array.toList_inj.1
    rw [← h2, decDigits_small (by decide)]
    rfl
  · exact h1
theorem reads_all (s : ByteArray) (hs : s.size ≤ 3000) : ∃ E P Q, Reads s E P Q := by
  rcases slash_cases s with hix | ⟨i, hix⟩
  · have hc : ∀ W, _ := fun W => Cut_none s W hix
    by_cases hn : isNum s.data.toList = true
    · by_cases hf : nd 2 (sval s.data.toList) ≤ 16384
      · obtain ⟨e1, e2⟩ := parE_fit hn hf
        have hb := par_nd16 s.data.toList (by rw [len_data]; exact hs)
        rw [e2] at hb
        refine ⟨0, sval s.data.toList, 1, fun w he => PF_ok1 s s ⟨#[]⟩ w he hc (by omega) (by decide) hn hf, fun w he => ?_, .inl ⟨rfl, by decide, hb, by have := nd_le_self16 (n := 1) (by decide); omega⟩⟩
        have h := RPF_m_ok s w he hs hix e1
        rw [e2] at h
        exact h
      · have e1 := parE_big hn hf
        refine reads_no (E := 3) (by decide) (fun w he => PF_fA1 s s ⟨#[]⟩ w he hc (by omega) (by decide) hn hf) (fun w he => ?_)
        have h := RPF_m_err s w he hs hix (by rw [e1]; decide)
        rw [e1] at h
        exact h
    · have hn' : isNum s.data.toList = false := by simpa using hn
      have e1 := parE_no hn'
      refine reads_no (E := 4) (by decide) (fun w he => PF_nA1 s s ⟨#[]⟩ w he hc (by omega) (by decide) hn') (fun w he => ?_)
      have h := RPF_m_err s w he hs hix (by rw [e1]; decide)
      rw [e1] at h
      exact h
  · obtain ⟨hi, -, -⟩ := slash_some hix
    have hc : ∀ W, _ := fun W => Cut_some s i W hix hi (by omega)
    have hzA : (s.extract 0 i).size ≤ 3000 := by rw [ByteArray.size_extract]; omega
    have hzB : (s.extract (i + 1) s.size).size ≤ 3000 := by rw [ByteArray.size_extract]; omega
    rcases bool_of (b := isNum (s.extract 0 i).data.toList) with nA | nA
    · exact reads_no (E := 4) (by decide) (fun w he => PF_nA2 s _ _ w he hc (by omega) (by omega) nA) (fun w he => RPF_nA s i w he hs hix nA)
    rcases bool_of (b := isNum (s.extract (i + 1) s.size).data.toList) with nB | nB
    · exact reads_no (E := 4) (by decide) (fun w he => PF_nB s _ _ w he hc (by omega) (by omega) nA nB) (fun w he => RPF_nB s i w he hs hix nA nB)
    by_cases b0 : s.extract (i + 1) s.size = ⟨#[48]⟩
    · refine reads_no (E := 4) (by decide) (fun w he => ?_) (fun w he => RPF_b0 s i w he hs hix nA nB (by rw [b0, toList_one]; rfl))
      rw [b0] at hc
      exact PF_b0 s _ w he hc (by omega) nA
    by_cases b1 : s.extract (i + 1) s.size = ⟨#[49]⟩
    · refine reads_no (E := 4) (by decide) (fun w he => ?_) (fun w he => RPF_b1 s i w he hs hix nA nB (by rw [b1, toList_one]; rfl) (by rw [b1, toList_one]; rfl))
      rw [b1] at hc
      exact PF_b1 s _ w he hc (by omega) nA
    have n0 : ((s.extract (i + 1) s.size).toList == [48]) = false := by rw [← toList_one]; exact toList_ne b0
    have n1 : ((s.extract (i + 1) s.size).toList == [49]) = false := by rw [← toList_one]; exact toList_ne b1
    by_cases fA : nd 2 (sval (s.extract 0 i).data.toList) ≤ 16384
    · obtain ⟨e1, e2⟩ := parE_fit nA fA
      by_cases fB : nd 2 (sval (s.extract (i + 1) s.size).data.toList) ≤ 16384
      · obtain ⟨e3, e4⟩ := parE_fit nB fB
        by_cases gg : Nat.gcd (sval (s.extract 0 i).data.toList) (sval (s.extract (i + 1) s.size).data.toList) = 1
        · have hbA := par_nd16 (s.extract 0 i).data.toList (by rw [len_data]; exact hzA)
          have hbB := par_nd16 (s.extract (i + 1) s.size).data.toList (by rw [len_data]; exact hzB)
          rw [e2] at hbA; rw [e4] at hbB
          refine ⟨0, _, _, fun w he => PF_ok2 s _ _ w he hc (by omega) (by omega) nA nB b0 b1 fA fB gg, fun w he => ?_, .inl ⟨rfl, num_zero nB b0, hbA, hbB⟩⟩
          have h := RPF_ok s i w he hs hix nA nB n0 n1 e1 e3 (by rw [e2, e4]; exact gg)
          rw [e2, e4] at h
          exact h
        · exact reads_no (E := 4) (by decide) (fun w he => PF_g s _ _ w he hc (by omega) (by omega) nA nB b0 b1 fA fB gg) (fun w he => RPF_g s i w he hs hix nA nB n0 n1 e1 e3 (by rw [e2, e4]; exact gg))
      · exact reads_no (E := 3) (by decide) (fun w he => PF_fB s _ _ w he hc (by omega) (by omega) nA nB b0 b1 fA fB) (fun w he => RPF_eB s i w he hs hix nA nB n0 n1 e1 (by rw [parE_big nB fB]; decide))
    · exact reads_no (E := 3) (by decide) (fun w he => PF_fA2 s _ _ w he hc (by omega) (by omega) nA nB b0 b1 fA) (fun w he => RPF_eA s i w he hs hix nA nB n0 n1 (by rw [parE_big nA fA]; decide))
set_option maxHeartbeats 2000000 in
theorem natFracTexts_walk (s : ByteArray) (w : World) (he : Env w) :
    Calls Tryd.prog 3 #[.string s] w fun e w' => e = .returned (.bool true) ∧ Below w.heap.size w w' := by
  have HS0 := Lib.hid (Kq.start he)
  by_cases hl : 3000 < s.size
  · have hl' : (3000 : Int) < s.size := by omega
    have HAW := Lib.hid (awake_any w he)
    clear he
    go_enter Tryd.func3, Tryd.ntmps3
    go_wp2_with fail
    refine HAW.out.mono ?_
    rintro e w1 ⟨rfl, hb⟩
    have HB := Lib.hid hb
    clear hb
    go_wp2
    go_ret
    exact ⟨by simp, HB.out⟩
  · have hl' : ¬ ((3000 : Int) < s.size) := by omega
    obtain ⟨E, P, Q, hR⟩ := reads_all s (by omega)
    have HP := Lib.hid (hR.1 w he)
    have HQ := Lib.hid hR.2.1
    have HPC := Lib.hid hR.2.2
    clear he hR
    go_enter Tryd.func3, Tryd.ntmps3
    go_wp2_with fail
    refine HP.out.mono ?_
    rintro e w1 ⟨xv, yv, rfl, hx, hy, hb⟩
    obtain ⟨xo, xc, rfl, -⟩ := hx.shape
    obtain ⟨yo, yc, rfl, -⟩ := hy.shape
    have HS1 := Lib.hid ((((HS0.out.next hb).addNum hx).addNum hy).boxed2 (.slice xo (nd 4294967296 P) xc) (.slice yo (nd 4294967296 Q) yc) 26)
    clear hb hx hy HS0
    go_wp2_with fail
    refine (HQ.out _ HS1.out.env).mono ?_
    rintro e w2 ⟨av, bv, rfl, ha, hbv, hb⟩
    obtain ⟨ao, ac, rfl, -⟩ := ha.shape
    obtain ⟨bo, bc, rfl, -⟩ := hbv.shape
    have hs2 := (((HS1.out.next hb).addDig ha).addDig hbv).boxed2 (.slice ao (nd 65536 P) ac) (.slice bo (nd 65536 Q) bc) 32
    have HS2 := Lib.hid hs2
    have HT : Hid (Calls Tryd.prog 9 #[.agg #[.slice xo (nd 4294967296 P) xc, .slice yo (nd 4294967296 Q) yc], .int .i64 E, .agg #[.slice ao (nd 65536 P) ac, .slice bo (nd 65536 Q) bc], .int .i64 E] (w2.alloc (.cells #[.slice ao (nd 65536 P) ac, .slice bo (nd 65536 Q) bc] 32)) fun e w' => e = .returned (.bool true) ∧ Below (w2.alloc (.cells #[.slice ao (nd 65536 P) ac, .slice bo (nd 65536 Q) bc] 32)).heap.size (w2.alloc (.cells #[.slice ao (nd 65536 P) ac, .slice bo (nd 65536 Q) bc] 32)) w') := by
      rcases HPC.out with ⟨h1, h2, h3, h4⟩ | ⟨h1, h2, h3⟩
      · rw [h1]
        exact same_ok _ _ _ _ P Q _ (hs2.num _ (.tail _ (.head _))) (hs2.num _ (.head _)) (hs2.dig _ (.tail _ (.head _))) (hs2.dig _ (.head _)) h2 (by omega) (by omega) hs2.env
      · have hn1 := hs2.num _ (.tail _ (.head _))
        have hn2 := hs2.num _ (.head _)
        have hd1 := hs2.dig _ (.tail _ (.head _))
        have hd2 := hs2.dig _ (.head _)
        have hen := hs2.env
        subst h2 h3
        exact same_err _ _ _ _ E _ hn1 hn2 h1 ⟨_, hd1⟩ ⟨_, hd2⟩ hen
    have c0 := hs2.cell (g := w1.heap.size) (o := 0) (.tail _ (.tail _ (.tail _ (.head _))))
    have c1 := hs2.cell (g := w1.heap.size) (o := 1) (.tail _ (.tail _ (.head _)))
    have c2 := hs2.cell (g := w2.heap.size) (o := 0) (.tail _ (.head _))
    have c3 := hs2.cell (g := w2.heap.size) (o := 1) (.head _)
    clear hb ha hbv HS1 hs2
    go_wp2_with fail
    refine HT.out.mono ?_
    rintro e w3 ⟨rfl, hb⟩
    have HS3 := Lib.hid (HS2.out.next hb)
    clear hb c0 c1 c2 c3 HS2 HT
    go_wp2_with fail
    refine (awake_Q HS3.out).mono ?_
    rintro e w4 ⟨rfl, hs⟩
    have HS4 := Lib.hid hs
    clear hs
    go_wp2
    go_ret
    exact ⟨by simp, HS4.out.bel⟩
end Go.Proofs.YteajinpfigejfaaDoor
namespace Go.Proofs.YteajinpfigejfaaDoor
open Go Go.RowKit Gu

theorem own : ownKnob Tryd.prog.godebug = none := by kernel_rfl
theorem env_of_laid {W : World} {l : List (String × DataW Unit)}
    (hl : l.filter (fun x => x.1 == "internal/strconv.uint64pow10") = [("internal/strconv.uint64pow10", Rows.laid_internal_strconv_uint64pow10)]) (h : laidMetH Tryd.prog l W) : Env W := by
  have h1 := h.filter (fun x => x.1 == "internal/strconv.uint64pow10")
  rw [hl, MakeChecks.laidMetH_plain _ _ _ (by kernel_rfl)] at h1
  exact Lib.tabIs_of_head (g := 1) (by kernel_rfl) (by kernel_rfl) Tryd.underlying148 Tryd.underlying94 (by kernel_rfl) (by kernel_rfl) h1
end Go.Proofs.YteajinpfigejfaaDoor
namespace Go.Proofs.YteajinpfigejfaaDoor
open Go Go.ChangeMaps Go.ChangeShapes Go.WideShapes Go.ChangeAt Go.RowKit Gu

set_option maxRecDepth 100000 in
theorem natFracTexts_lifted (os : Os) (started : os.Started) (H : Type) (enc : TypeId × Value → H) :
    ReturnsInHanded {} Tryd.checked os 3 .any (fun w args => (Rows.natFracTextsSpec.pre enc Tryd.prog Tryd.f3 [] false w args ∧ laidMetH Tryd.prog Rows.natFracTextsRow.laid w) ∧ sizedMet enc Tryd.prog Tryd.f3 (OpenSpec.ofChange Rows.natFracTextsSpec) false w args)
      (Rows.natFracTextsSpec.post enc Tryd.prog Tryd.f3 false true false false) := by
  refine returnsInHanded_of_change_and (C := Tryd.checked) (X := fun w _ => laidMetH Tryd.prog Rows.natFracTextsRow.laid w) (fun _ _ _ hh h => h.of_heap hh) own started (by kernel_rfl) Tryd.func3
    (ChangeSpec.witness_shaped (enc := enc) (C := Tryd.checked) (os := os) (X := fun w _ => laidMetH Tryd.prog Rows.natFracTextsRow.laid w) false (World.laidAll Tryd.prog os Rows.natFracTextsRow.laid) #[.string ⟨#[]⟩] 8 (World.laidAll_os _ _ _)
      (World.shaped_of_ZipB (by kernel_rfl) (by kernel_rfl)) (by kernel_rfl) (by kernel_rfl) (by kernel_rfl)
      (by rw [MakeChecks.laidMetH_plain _ _ _ (by kernel_rfl)]; exact laidMet_laidAll _ (by kernel_rfl) (by kernel_rfl))) ?_
  intro W base args ds gs before hval0 hW _ _ hL _
  have hval : ∀ (j : Nat) t v, Tryd.f3.params[j]? = some t → args[j]? = some v → Value.okWide Tryd.prog W .any base t v := hval0
  have hW' := hW
  obtain ⟨p, q, hA0, hV, rfl, hfz, hnd⟩ := hW
  have hA : DataW.TrodAll enc Tryd.prog W 0 (fun _ => true) true Tryd.f3.params.toList args.toList ds p := hA0
  rw [Tryd.params3] at hA hval
  obtain ⟨v0, d0, rfl, rfl, h0⟩ := trodAll_one hA
  obtain ⟨rfl, rfl⟩ := trodVars_none hV
  obtain ⟨s, rfl, rfl, rfl, ws⟩ := open_string Tryd.underlying9 (hval 0 9 v0 rfl rfl) h0
  clear hA0 hval0
  simp only [List.append_nil] at hW'
  refine (natFracTexts_walk s W (env_of_laid (by rfl) hL)).mono fun e W' ⟨he, hb⟩ => ?_
  subst he
  exact ⟨_, rfl, _, _, _, [], [], [], hW', trodAll_mk1 (shut_bool Tryd.underlying4 _), trodAll_mk1 (shut_string Tryd.underlying9 ws), rfl, hb.frame _, fun h => by cases h⟩
theorem natFracTexts_holds : Rows.NatFracTextsSaid :=
  OpenClaim.holds_of_wide 3 Tryd.f3 rfl rfl rfl rfl rfl rfl rfl ⟨rfl, rfl, rfl, rfl, rfl⟩ rfl rfl rfl rfl rfl (by kernel_rfl) Tryd.func3 (by kernel_rfl)
    (of_decide_eq_true (by kernel_rfl)) (by unfold Func.isWrapper; first | (rw [if_pos (by decide +kernel)]; kernel_rfl) | (rw [if_neg (by decide +kernel)]; exact ⟨rfl, rfl⟩))
    (fun os started H enc _ => natFracTexts_lifted os started H enc)
theorem natFracTexts_card_holds : Rows.NatFracTextsCardSaid :=
  Claim7.holds_tied_plain_at .later [] [.data, .data, .data] true _ false
    natFracTexts_holds (fun _ h => by cases h) (by kernel_rfl) (fun _ h => by cases h) natFracTexts_row_tie rfl ⟨rfl, rfl⟩ (by kernel_rfl) rfl
    (fun f fn hf hfn => by
      obtain rfl : f = 3 := Option.some.inj ((show Tryd.prog.funcNamed "guilloche/guillochelaw01.NatFracTexts" = some 3 by kernel_rfl).symm.trans hf) |>.symm
      obtain rfl : fn = Tryd.f3 := (Option.some.inj (Tryd.func3.symm.trans hfn)).symm
      exact ⟨by kernel_rfl, fun j t ht => by
        rw [Tryd.params3] at ht
        have hm : t ∈ [9] := by simpa using Array.mem_of_getElem? ht
        have hall : ([9].all fun u => !Tryd.prog.wantsStandIn u) = true := by kernel_rfl
        exact (show Tryd.prog.wantsStandIn t = false by simpa using List.all_eq_true.1 hall t hm)⟩)
    (by kernel_rfl)
#print axioms natFracTexts_card_holds
end Go.Proofs.YteajinpfigejfaaDoor
