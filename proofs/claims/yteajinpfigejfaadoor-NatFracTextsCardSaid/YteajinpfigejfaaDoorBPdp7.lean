/- Contracts and lemmas (several texts merged into one). -/
import Derived.Test.YteajinpfigejfaaDoorBPdp6
import Derived.Test.YteajinpfigejfaaDoorBPdp3
import Derived.Test.YteajinpfigejfaaDoorBPdp4
import Derived.Test.YteajinpfigejfaaDoorBPdp5
namespace Go.Proofs.YteajinpfigejfaaDoor
open Go Go.RowKit Gu

theorem low_dg (a : Nat) : dg 65536 a 0 % 2 = a % 2 := by
  unfold dg; rw [Nat.pow_zero, Nat.div_one]; omega
theorem gcd_two {a b : Nat} (h : (Nat.gcd a b) % 2 = 1) (ha : a % 2 = 0) : Nat.gcd (a / 2) b = Nat.gcd a b := by
  have e : a = 2 * (a / 2) := by omega
  have hc : Nat.Coprime 2 b := by
    have h1 : Nat.gcd 2 b ∣ 2 := Nat.gcd_dvd_left _ _
    have h2 : Nat.gcd 2 b ∣ Nat.gcd a b := Nat.dvd_gcd (Nat.dvd_trans h1 ⟨a / 2, e⟩) (Nat.gcd_dvd_right _ _)
    have h3 : Nat.gcd 2 b ≤ 2 := Nat.le_of_dvd (by decide) h1
    have h4 : 0 < Nat.gcd 2 b := Nat.gcd_pos_of_pos_left _ (by decide)
    rcases (show Nat.gcd 2 b = 1 ∨ Nat.gcd 2 b = 2 by omega) with h5 | h5
    · exact h5
    · rw [h5] at h2
      obtain ⟨c, hc⟩ := h2
      omega
  rw [show Nat.gcd a b = Nat.gcd (2 * (a / 2)) b from by rw [← e]]
  exact (Nat.Coprime.gcd_mul_left_cancel _ hc).symm
theorem gcd_kk {kk G' G m : Nat} (h : 2 ^ kk * G' = G) (h0 : 0 < G') (hG : G < 65536 ^ m) : kk ≤ 16 * m := by
  have e : 65536 ^ m = 2 ^ (16 * m) := by rw [Nat.pow_mul]
  have h1 : 2 ^ kk * 1 ≤ 2 ^ kk * G' := Nat.mul_le_mul_left _ h0
  rcases Nat.lt_or_ge (16 * m) kk with h2 | h2
  · have h3 : 2 ^ (16 * m) ≤ 2 ^ kk := Nat.pow_le_pow_right (by decide) (Nat.le_of_lt h2)
    omega
  · exact h2
theorem gcd_sub' {a b : Nat} (h : b ≤ a) : Nat.gcd (a - b) b = Nat.gcd a b := Nat.gcd_sub_self_left h
theorem nd_halve {a m : Nat} (h : nd 65536 a ≤ m) : nd 65536 (a / 2) ≤ m := Nat.le_trans (nd_mono (by decide) (Nat.div_le_self _ _)) h
/-- what the loops of Gcd keep -/
def GR (m G : Nat) (w : World) (A B : Nat) (x y : Value) (wr : World) : Prop :=
  R wr x A ∧ R wr y B ∧ nd 65536 A ≤ m ∧ nd 65536 B ≤ m ∧ 0 < B ∧ Nat.gcd A B = G ∧ Below w.heap.size w wr
theorem GR.next {m G : Nat} {w : World} {A B : Nat} {x y : Value} {wr wr' : World} (h : GR m G w A B x y wr) (hb : Below wr.heap.size wr wr') : GR m G w A B x y wr' := by
  obtain ⟨h1, h2, h3, h4, h5, h6, h7⟩ := h
  exact ⟨h1.below hb, h2.below hb, h3, h4, h5, h6, h7.trans (hb.mono h7.size)⟩
theorem R.low {w : World} {v : Value} {n : Nat} (h : R w v n) (h0 : 0 < n) : ∃ b o c, v = .slice (some ⟨b, o, none⟩) (nd 65536 n) c ∧ w.cell? ⟨b, o, none⟩ = some (.int .i64 (dg 65536 n 0)) ∧ 0 < nd 65536 n := by
  have hn := nd_pos (B := 65536) (by decide) h0
  rcases h with ⟨h1, _⟩ | ⟨_, b, o, c, hv, hc⟩
  · omega
  · exact ⟨b, o, c, hv, hc 0 hn, hn⟩
theorem RShr_half (v : Value) (a : Nat) (w : World) (hv : R w v a) (ha : nd 65536 a ≤ 1000) :
    Calls Tryd.prog 71 #[v, .int .i64 1] w fun e w' => ∃ r, e = .returned r ∧ R w' r (a / 2) ∧ Below w.heap.size w w' := by
  have h := RShr_any v a 1 w hv (by omega) (by decide)
  rw [Nat.pow_one] at h
  exact h
set_option maxHeartbeats 4000000 in
set_option maxRecDepth 100000 in
theorem RGcd_any (v u : Value) (a b : Nat) (w : World) (hv : R w v a) (hu : R w u b) (ha : nd 65536 a ≤ 1000) (hb : nd 65536 b ≤ 1000) :
    Calls Tryd.prog 39 #[v, u] w fun e w' => ∃ r, e = .returned r ∧ R w' r (Nat.gcd a b) ∧ Below w.heap.size w w' := by
  rcases Nat.eq_zero_or_pos a with h0 | h0
  · subst h0
    obtain ⟨ao, ac, rfl, -⟩ := hv.shape
    rw [nd_zero]
    rw [Nat.gcd_zero_left]
    have HU := Lib.hid hu
    clear hv hu
    go_enter Tryd.func39, Tryd.ntmps39
    go_wp2
    go_ret
    exact ⟨_, rfl, HU.out, Below.refl _ _⟩
  · rcases Nat.eq_zero_or_pos b with h1 | h1
    · subst h1
      obtain ⟨bo, bc, rfl, -⟩ := hu.shape
      obtain ⟨ab, ao, ac, rfl, -, hl⟩ := R.low hv h0
      rw [nd_zero]
      rw [Nat.gcd_zero_right]
      have HV := Lib.hid hv
      have hl' : ¬ (((nd 65536 a : Nat) : Int) = 0) := by omega
      clear hv hu hl
      generalize nd 65536 a = la at *
      go_enter Tryd.func39, Tryd.ntmps39
      go_wp2
      go_ret
      exact ⟨_, rfl, HV.out, Below.refl _ _⟩
    · have hm : (max (nd 65536 a) (nd 65536 b)) ≤ 1000 := by omega
      obtain ⟨m, hmm⟩ : ∃ m, m = max (nd 65536 a) (nd 65536 b) := ⟨_, rfl⟩
      have HG0 : Hid (GR m (Nat.gcd a b) w a b v u w) := ⟨hv, hu, by omega, by omega, h1, rfl, Below.refl _ _⟩
      have hm1000 : m ≤ 1000 := by omega
      obtain ⟨ab, ao, ac, rfl, -, hla⟩ := R.low hv h0
      obtain ⟨bb, bo, bc, rfl, -, hlb⟩ := R.low hu h1
      have hla' : ¬ (((nd 65536 a : Nat) : Int) = 0) := by omega
      have hlb' : ¬ (((nd 65536 b : Nat) : Int) = 0) := by omega
      have HGP : Hid (0 < Nat.gcd a b) := Nat.gcd_pos_of_pos_left _ h0
      obtain ⟨G, hG⟩ : ∃ G, G = Nat.gcd a b := ⟨_, rfl⟩
      rw [← hG] at HG0 HGP ⊢
      have HA0 := Lib.hid h0
      have HGL : Hid (G < 65536 ^ m) := by
        show G < _
        rw [hG]; exact Nat.lt_of_le_of_lt (Nat.gcd_le_left _ h0) ((nd_le (by decide)).1 (show nd 65536 a ≤ m by omega))
      clear hv hu hla hlb hmm hm ha hb hG
      have hqa : ((((nd 65536 a : Nat)) : Int) == 0) = false := beq_eq_false_iff_ne.2 hla'
      have hqb : ((((nd 65536 b : Nat)) : Int) == 0) = false := beq_eq_false_iff_ne.2 hlb'
      generalize hna : nd 65536 a = la at *
      generalize hnb : nd 65536 b = lb at *
      clear hna hnb
      go_enter Tryd.func39, Tryd.ntmps39
      go_wp2
      go_loopg [0, 1, 5] a (fun n x y k wr => ∃ B kk G' : Nat, k = .int .i64 kk ∧ 0 < n ∧ Hid (2 ^ kk * G' = G ∧ 0 < G') ∧ GR m G' w n B x y wr)
      case atStart => exact ⟨b, 0, G, rfl, HA0.out, ⟨by simp, HGP.out⟩, HG0.out⟩
      case round =>
        obtain ⟨B, kk, G', rfl, hn0, HKK, hgr⟩ := hrel
        have hk1 : kk ≤ 16000 := by have := gcd_kk HKK.out.1 HKK.out.2 HGL.out; omega
        obtain ⟨ab, ao, ac, rfl, hca, hla⟩ := R.low hgr.1 hn0
        obtain ⟨bb, bo, bc, rfl, hcb, hlb⟩ := R.low hgr.2.1 hgr.2.2.2.2.1
        have HGR := Lib.hid hgr
        have hla2 : (0 : Int) < ((nd 65536 gk : Nat) : Int) := by omega
        have hlb2 : (0 : Int) < ((nd 65536 B : Nat) : Int) := by omega
        have HDA := Lib.hid (low_dg gk); have HDB := Lib.hid (low_dg B)
        have hda := dg_lt (B := 65536) (by decide) gk 0
        have hdb := dg_lt (B := 65536) (by decide) B 0
        clear hgr
        by_cases hev : gk % 2 = 0 ∧ B % 2 = 0
        · obtain ⟨he1, he2⟩ := hev
          have q1 : (((dg 65536 gk 0 : Nat) : Int) % 2 == 0) = true := by have := HDA.out; simp; omega
          have q2 : (((dg 65536 B 0 : Nat) : Int) % 2 == 0) = true := by have := HDB.out; simp; omega
          have HSA := Lib.hid (RShr_half _ gk wr HGR.out.1 (by have := HGR.out.2.2.1; omega))
          have HB0 := Lib.hid (HGR.out.2.2.2.2.1)
          have HKK2 : Hid (∃ G2, 2 ^ (kk + 1) * G2 = G ∧ 0 < G2 ∧ Nat.gcd (gk / 2) (B / 2) = G2) := by
            refine ⟨_, ?_, ?_, rfl⟩
            · have h1 : Nat.gcd gk B = G' := HGR.out.2.2.2.2.2.1
              have h2 : Nat.gcd (2 * (gk / 2)) (2 * (B / 2)) = 2 * Nat.gcd (gk / 2) (B / 2) := Nat.gcd_mul_left _ _ _
              rw [show 2 * (gk / 2) = gk from by omega, show 2 * (B / 2) = B from by omega, h1] at h2
              rw [Nat.pow_succ, Nat.mul_assoc, ← h2]; exact HKK.out.1
            · exact Nat.gcd_pos_of_pos_left _ (by omega)
          have HG23 : Hid (gk / 2 < gk ∧ 0 < gk / 2 ∧ 0 < B / 2) := by have := HB0.out; show _ ∧ _; omega
          clear he1 he2
          generalize dg 65536 gk 0 = da at *
          generalize dg 65536 B 0 = db at *
          go_wp2_with fail
          refine HSA.out.mono ?_
          rintro e w2 ⟨r1, rfl, hr1, hb1⟩
          have HR1 := Lib.hid hr1; have HB1 := Lib.hid hb1
          have HSB := Lib.hid (RShr_half _ B w2 (HGR.out.2.1.below hb1) (by have := HGR.out.2.2.2.1; omega))
          clear hr1 hb1
          go_wp2_with fail
          refine HSB.out.mono ?_
          rintro e w3 ⟨r2, rfl, hr2, hb2⟩
          have HFIN : Hid (∃ G2, (2 ^ (kk + 1) * G2 = G ∧ 0 < G2) ∧ GR m G2 w (gk / 2) (B / 2) r1 r2 w3) := by
            obtain ⟨G2, e1, e2, e3⟩ := HKK2.out
            obtain ⟨h1, h2, h3, h4, h5, h6, h7⟩ := HGR.out
            exact ⟨G2, ⟨e1, e2⟩, HR1.out.below hb2, hr2, nd_halve h3, nd_halve h4, HG23.out.2.2, e3, (h7.trans (HB1.out.mono h7.size)).trans (hb2.mono (h7.trans (HB1.out.mono h7.size)).size)⟩
          clear hr2 hb2
          go_wp2
          go_roundg (gk / 2)
          case measure => exact HG23.out.1
          case rel =>
            obtain ⟨G2, h1, h2⟩ := HFIN.out
            exact ⟨B / 2, kk + 1, G2, by go_num, HG23.out.2.1, h1, h2⟩
        · have HODD : Hid (G' % 2 = 1) := by
            show _ = _
            have h6 : Nat.gcd gk B = G' := HGR.out.2.2.2.2.2.1
            rcases (show G' % 2 = 1 ∨ G' % 2 = 0 by omega) with h | h
            · exact h
            · exfalso
              have d2 : 2 ∣ G' := Nat.dvd_of_mod_eq_zero h
              have d3 : 2 ∣ gk := Nat.dvd_trans d2 (h6 ▸ Nat.gcd_dvd_left gk B)
              have d4 : 2 ∣ B := Nat.dvd_trans d2 (h6 ▸ Nat.gcd_dvd_right gk B)
              exact hev ⟨Nat.mod_eq_zero_of_dvd d3, Nat.mod_eq_zero_of_dvd d4⟩
          have HSTART := HGR
          have hq : ((((dg 65536 gk 0 : Nat) : Int) % 2 == 0) = false) ∨ ((((dg 65536 gk 0 : Nat) : Int) % 2 == 0) = true ∧ (((dg 65536 B 0 : Nat) : Int) % 2 == 0) = false) := by
            have e1 := HDA.out; have e2 := HDB.out
            rcases (show gk % 2 = 0 ∨ gk % 2 = 1 by omega) with h | h
            · right; have : ¬ B % 2 = 0 := fun h' => hev ⟨h, h'⟩
              constructor
              · simp; omega
              · simp; omega
            · left; simp; omega
          clear hev HDA HDB
          generalize dg 65536 gk 0 = da at *
          generalize dg 65536 B 0 = db at *
          rcases hq with q1 | ⟨q1, q2⟩
          all_goals
            go_wp2
            go_loopg [0, 1] (gk + B) (fun n x y wr => ∃ A C : Nat, Hid (n = A + C) ∧ GR m G' w A C x y wr)
            case atStart => exact ⟨gk, B, rfl, HSTART.out⟩
            case round =>
              obtain ⟨A, C, HN, hgr⟩ := hrel
              rcases Nat.eq_zero_or_pos A with hA | hA
              · subst hA
                obtain ⟨xo, xc, rfl, -⟩ := hgr.1.shape
                rw [nd_zero] at hgr ⊢
                have HC : Hid (C * 2 ^ kk = G) := by
                  show _ = _
                  have h := hgr.2.2.2.2.2.1
                  rw [Nat.gcd_zero_left] at h
                  rw [h, Nat.mul_comm]; exact HKK.out.1
                have HSH := Lib.hid (RShl_any _ C kk wr hgr.2.1 (by have := hgr.2.2.2.1; omega) (by omega))
                have HBE := Lib.hid hgr.2.2.2.2.2.2
                obtain ⟨yo, yc, rfl, -⟩ := hgr.2.1.shape
                rw [HC.out] at HSH
                clear hgr
                go_wp2_with fail
                refine HSH.out.mono ?_
                rintro e w5 ⟨r, rfl, hr, hb⟩
                have HR := Lib.hid hr
                have HB5 := Lib.hid (HBE.out.trans (hb.mono HBE.out.size))
                clear hr hb
                go_wp2
                go_ret
                exact ⟨_, rfl, HR.out, HB5.out⟩
              · obtain ⟨ab, ao, ac, rfl, -, hla⟩ := R.low hgr.1 hA
                obtain ⟨bb, bo, bc, rfl, -, hlb⟩ := R.low hgr.2.1 hgr.2.2.2.2.1
                have HGR2 := Lib.hid hgr
                have hla3 : (0 : Int) < ((nd 65536 A : Nat) : Int) := by omega
                have hdec : decide (0 < nd 65536 A) = true := decide_eq_true hla
                have HHA := Lib.hid hA
                have HHC := Lib.hid hgr.2.2.2.2.1
                clear hgr hla hlb
                obtain ⟨g2, rfl⟩ : ∃ g2, g2 = gk := ⟨_, rfl⟩
                go_wp2
                go_loopg [0] A (fun n x wr => 0 < n ∧ n ≤ A ∧ GR m G' w n C x (.slice (some ⟨bb, bo, none⟩) (nd 65536 C) bc) wr)
                case atStart => exact ⟨HHA.out, Nat.le_refl _, HGR2.out⟩
                case round =>
                  obtain ⟨hn, hnA, hgr⟩ := hrel
                  obtain ⟨A1, rfl⟩ : ∃ A1, A1 = gk := ⟨_, rfl⟩
                  obtain ⟨ab, ao, ac, rfl, hca, hla⟩ := R.low hgr.1 hn
                  have hla4 : (0 : Int) < ((nd 65536 A1 : Nat) : Int) := by omega
                  have HDA := Lib.hid (low_dg A1)
                  have hda := dg_lt (B := 65536) (by decide) A1 0
                  have HGR := Lib.hid hgr
                  clear hgr
                  by_cases hev : A1 % 2 = 0
                  · have q1 : (((dg 65536 A1 0 : Nat) : Int) % 2 == 0) = true := by have := HDA.out; simp; omega
                    have HSA := Lib.hid (RShr_half _ A1 wr HGR.out.1 (by have := HGR.out.2.2.1; omega))
                    have HEV := Lib.hid hev
                    clear hev HDA
                    generalize dg 65536 A1 0 = da at *
                    go_wp2_with fail
                    refine HSA.out.mono ?_
                    rintro e w2 ⟨r1, rfl, hr1, hb1⟩
                    have HFIN : Hid (GR m G' w (A1 / 2) C r1 (.slice (some ⟨bb, bo, none⟩) (nd 65536 C) bc) w2) := by
                      obtain ⟨h1, h2, h3, h4, h5, h6, h7⟩ := HGR.out
                      exact ⟨hr1, h2.below hb1, nd_halve h3, h4, h5, (gcd_two (by rw [h6]; exact HODD.out) HEV.out).trans h6, h7.trans (hb1.mono h7.size)⟩
                    have hd1 : A1 / 2 < A1 := by omega
                    have hd2 : 0 < A1 / 2 := by have := HEV.out; omega
                    have HDD : Hid (A1 / 2 < A1 ∧ 0 < A1 / 2 ∧ A1 / 2 ≤ A) := ⟨hd1, hd2, by omega⟩
                    clear hr1 hb1 hd1 hd2
                    go_wp2
                    go_roundg (A1 / 2)
                    case measure => exact HDD.out.1
                    case rel => exact ⟨HDD.out.2.1, HDD.out.2.2, HFIN.out⟩
                  · have q1 : (((dg 65536 A1 0 : Nat) : Int) % 2 == 0) = false := by have := HDA.out; simp; omega
                    have HEA := Lib.hid hev
                    clear hev HDA
                    generalize dg 65536 A1 0 = da at *
                    go_wp2
                    go_loopg [1] C (fun n y wr => 0 < n ∧ n ≤ C ∧ GR m G' w A1 n (.slice (some ⟨ab, ao, none⟩) (nd 65536 A1) ac) y wr)
                    case atStart => exact ⟨HHC.out, Nat.le_refl _, HGR.out⟩
                    case round =>
                      obtain ⟨hn2, hnC, hgr⟩ := hrel
                      obtain ⟨C1, rfl⟩ : ∃ C1, C1 = gk := ⟨_, rfl⟩
                      obtain ⟨bb, bo, bc, rfl, hcb, hlb⟩ := R.low hgr.2.1 hn2
                      have hlb4 : (0 : Int) < ((nd 65536 C1 : Nat) : Int) := by omega
                      have HDB := Lib.hid (low_dg C1)
                      have hdb := dg_lt (B := 65536) (by decide) C1 0
                      have HGR := Lib.hid hgr
                      clear hgr
                      by_cases hev : C1 % 2 = 0
                      · have q1 : (((dg 65536 C1 0 : Nat) : Int) % 2 == 0) = true := by have := HDB.out; simp; omega
                        have HSB := Lib.hid (RShr_half _ C1 wr HGR.out.2.1 (by have := HGR.out.2.2.2.1; omega))
                        have HEV := Lib.hid hev
                        clear hev HDB
                        generalize dg 65536 C1 0 = db at *
                        go_wp2_with fail
                        refine HSB.out.mono ?_
                        rintro e w2 ⟨r1, rfl, hr1, hb1⟩
                        have hd1 : C1 / 2 < C1 := by omega
                        have hd2 : 0 < C1 / 2 := by have := HEV.out; omega
                        have HDD : Hid (C1 / 2 < C1 ∧ 0 < C1 / 2 ∧ C1 / 2 ≤ C) := ⟨hd1, hd2, by omega⟩
                        have HFIN : Hid (GR m G' w A1 (C1 / 2) (.slice (some ⟨ab, ao, none⟩) (nd 65536 A1) ac) r1 w2) := by
                          obtain ⟨h1, h2, h3, h4, h5, h6, h7⟩ := HGR.out
                          exact ⟨h1.below hb1, hr1, h3, nd_halve h4, hd2, by rw [Nat.gcd_comm]; exact (gcd_two (by rw [Nat.gcd_comm, h6]; exact HODD.out) HEV.out).trans ((Nat.gcd_comm _ _).trans h6), h7.trans (hb1.mono h7.size)⟩
                        clear hr1 hb1 hd1 hd2
                        go_wp2
                        go_roundg (C1 / 2)
                        case measure => exact HDD.out.1
                        case rel => exact ⟨HDD.out.2.1, HDD.out.2.2, HFIN.out⟩
                      · have q1 : (((dg 65536 C1 0 : Nat) : Int) % 2 == 0) = false := by have := HDB.out; simp; omega
                        have HCM := Lib.hid (RCmp_any _ _ A1 C1 wr HGR.out.1 HGR.out.2.1 (by have := HGR.out.2.2.1; omega) (by have := HGR.out.2.2.2.1; omega))
                        clear hev HDB
                        generalize dg 65536 C1 0 = db at *
                        by_cases hle : C1 ≤ A1
                        · have hcm : (0 : Int) ≤ cmpN A1 C1 := by
                            rcases Nat.lt_or_eq_of_le hle with h | h
                            · rw [cmpN_gt (by omega)]; decide
                            · rw [cmpN_eq (by omega)]; decide
                          have HSU := Lib.hid (fun q => RSub_any _ _ A1 C1 (wr.drewN q) (HGR.out.1.below (below_drewN (Below.refl _ _) q)) (HGR.out.2.1.below (below_drewN (Below.refl _ _) q)) (by have := HGR.out.2.2.1; omega) (by have := HGR.out.2.2.2.1; omega) hle)
                          generalize cmpN A1 C1 = cc at *
                          have HLE := Lib.hid hle
                          clear hle
                          go_wp2_with fail
                          refine HCM.out.mono ?_
                          rintro e w3 ⟨rfl, q, rfl⟩
                          go_wp2_with fail
                          refine (HSU.out q).mono ?_
                          rintro e w4 ⟨r, rfl, hr, hb⟩
                          have HFIN : Hid (GR m G' w (A1 - C1) C1 r (.slice (some ⟨bb, bo, none⟩) (nd 65536 C1) bc) w4) := by
                            obtain ⟨h1, h2, h3, h4, h5, h6, h7⟩ := HGR.out
                            have hb2 := (below_drewN (Below.refl wr.heap.size wr) q).trans (hb.mono (below_drewN (Below.refl wr.heap.size wr) q).size)
                            exact ⟨hr, h2.below hb2, Nat.le_trans (nd_mono (by decide) (Nat.sub_le _ _)) h3, h4, h5, (gcd_sub' HLE.out).trans h6, h7.trans (hb2.mono h7.size)⟩
                          clear hr hb
                          go_wp2
                          go_roundg (A1 - C1 + C1)
                          case measure => have := HN.out; have := HHC.out; have := HLE.out; omega
                          case rel => exact ⟨A1 - C1, C1, rfl, HFIN.out⟩
                        · have hcm : cmpN A1 C1 < (0 : Int) := by rw [cmpN_lt (by omega)]; decide
                          have HSU := Lib.hid (fun q => RSub_any _ _ C1 A1 (wr.drewN q) (HGR.out.2.1.below (below_drewN (Below.refl _ _) q)) (HGR.out.1.below (below_drewN (Below.refl _ _) q)) (by have := HGR.out.2.2.2.1; omega) (by have := HGR.out.2.2.1; omega) (by omega))
                          generalize cmpN A1 C1 = cc at *
                          have HLE : Hid (A1 < C1) := by show _ < _; omega
                          clear hle
                          go_wp2_with fail
                          refine HCM.out.mono ?_
                          rintro e w3 ⟨rfl, q, rfl⟩
                          go_wp2_with fail
                          refine (HSU.out q).mono ?_
                          rintro e w4 ⟨r, rfl, hr, hb⟩
                          have HFIN : Hid (GR m G' w A1 (C1 - A1) (.slice (some ⟨ab, ao, none⟩) (nd 65536 A1) ac) r w4) := by
                            obtain ⟨h1, h2, h3, h4, h5, h6, h7⟩ := HGR.out
                            have hb2 := (below_drewN (Below.refl wr.heap.size wr) q).trans (hb.mono (below_drewN (Below.refl wr.heap.size wr) q).size)
                            exact ⟨h1.below hb2, hr, h3, Nat.le_trans (nd_mono (by decide) (Nat.sub_le _ _)) h4, by have := HLE.out; omega, (by rw [Nat.gcd_comm]; exact (gcd_sub' (Nat.le_of_lt HLE.out)).trans ((Nat.gcd_comm _ _).trans h6)), h7.trans (hb2.mono h7.size)⟩
                          clear hr hb
                          go_wp2
                          go_roundg (A1 + (C1 - A1))
                          case measure => have := HN.out; have := HHA.out; have := HLE.out; omega
                          case rel => exact ⟨A1, C1 - A1, rfl, HFIN.out⟩
end Go.Proofs.YteajinpfigejfaaDoor
namespace Go.Proofs.YteajinpfigejfaaDoor
open Go Go.RowKit Gu

/-- a fraction of the document, stored in a function's result -/
theorem two_storeR {w W' : World} {B P Q : Nat} {ro so : Option Addr} {rc sc : Nat} (hr : R W' (.slice ro (nd 65536 P) rc) P) (hs : R W' (.slice so (nd 65536 Q) sc) Q)
    (d0 : W'.cell? ⟨B, 0, none⟩ = some (.slice none 0 0)) (d1 : W'.cell? ⟨B, 1, none⟩ = some (.slice none 0 0)) (hb : Below w.heap.size w W') (hB : w.heap.size ≤ B) :
    let W2 := (W'.setCell ⟨B, 0, none⟩ (.slice ro (nd 65536 P) rc)).setCell ⟨B, 1, none⟩ (.slice so (nd 65536 Q) sc)
    R W2 (.slice ro (nd 65536 P) rc) P ∧ R W2 (.slice so (nd 65536 Q) sc) Q ∧ W2.cell? ⟨B, 0, none⟩ = some (.slice ro (nd 65536 P) rc) ∧ W2.cell? ⟨B, 1, none⟩ = some (.slice so (nd 65536 Q) sc) ∧ Below w.heap.size w W2 := by
  obtain ⟨t0, t1⟩ := read_two d0 d1 (.slice ro (nd 65536 P) rc) (.slice so (nd 65536 Q) sc)
  exact ⟨IsN_setTwo hr d0 d1 (by intro d h; cases h) (by intro d h; cases h) _ _, IsN_setTwo hs d0 d1 (by intro d h; cases h) (by intro d h; cases h) _ _, t0, t1, (hb.setCell hB _).setCell hB _⟩
theorem cmp_eq_zero {a b : Nat} (h : cmpN ((a : Nat) : Int) ((b : Nat) : Int) = 0) : a = b := by
  rcases Nat.lt_trichotomy a b with h1 | h1 | h1
  · rw [cmpN_lt (by omega)] at h; exact absurd h (by decide)
  · exact h1
  · rw [cmpN_gt (by omega)] at h; exact absurd h (by decide)
theorem par_nd16 (l : List UInt8) (h : l.length ≤ 3000) : nd 65536 (parN l) ≤ 625 := by
  obtain ⟨k, hk⟩ : ∃ k, k = 125 := ⟨_, rfl⟩
  rw [show 625 = 5 * k by omega]
  unfold parN
  split
  · next hn =>
    have h1 := sval_lt l (isNum_digits hn)
    have h2 : fitN (sval l) ≤ sval l := by unfold fitN; split <;> omega
    refine (nd_le (by decide)).2 (Nat.lt_of_le_of_lt h2 (Nat.lt_of_lt_of_le h1 ?_))
    have h3 : 10 ^ l.length ≤ 10 ^ (24 * k) := Nat.pow_le_pow_right (by decide) (by omega)
    have h4 : 10 ^ (24 * k) ≤ 65536 ^ (5 * k) := by rw [Nat.pow_mul, Nat.pow_mul]; exact Nat.pow_le_pow_left (by decide) _
    exact Nat.le_trans h3 h4
  · rw [nd_zero]; omega
theorem byte_ne {c : UInt8} (h : c ≠ 47) : ((c.toNat : Int) == 47) = false := beq_eq_false_iff_ne.2 (fun e => h (UInt8.toNat_inj.1 (by show c.toNat = 47; omega)))
set_option maxHeartbeats 2000000 in
set_option maxRecDepth 100000 in
theorem RPF_m_err (s : ByteArray) (w : World) (he : Env w) (hs : s.size ≤ 3000) (hix : Lib.indexByte s.data.toList 47 = -1) (eA : parE s.data.toList ≠ 0) :
    Calls Tryd.prog 8 #[.string s] w fun e w' => e = .returned (.tuple #[.agg #[.slice none 0 0, .slice none 0 0], .int .i64 (parE s.data.toList)]) ∧ Below w.heap.size w w' := by
  have HS0 := Lib.hid ((Kq.start he).boxed2 (.slice none 0 0) (.slice none 0 0) 32)
  have HB0 : Hid (Below (w.alloc (.cells #[.slice none 0 0, .slice none 0 0] 32)).heap.size (w.alloc (.cells #[.slice none 0 0, .slice none 0 0] 32)) (w.alloc (.cells #[.slice none 0 0, .slice none 0 0] 32))) := Below.refl _ _
  have HLOW : Hid (∀ j (hj : j < s.size), ((s[j].toNat : Int) == 47) = false) := fun j hj => byte_ne (slash_none hix j hj)
  have HPA := Lib.hid (fun W => RParse_all s W (by omega))
  have hE : (parE s.data.toList == 0) = false := beq_eq_false_iff_ne.2 eA
  generalize parE s.data.toList = E at *
  generalize parN s.data.toList = a at *
  clear he hix eA
  go_enter Tryd.func8, Tryd.ntmps8
  go_wp2
  go_loop [4] (fun t => ∃ k : Nat, k ≤ s.size ∧ t = .int .i64 k) (fun t => s.size - (intOf t).toNat)
  case atStart => exact ⟨0, Nat.zero_le _, rfl⟩
  case round =>
    obtain ⟨k, hk, rfl⟩ := hrel
    by_cases hlt : k < s.size
    · have hks : k < s.size := by omega
      have hne := HLOW.out k hks
      have hlt' : (k : Int) < s.size := by omega
      go_wp2
      go_round
      case rel => exact ⟨k + 1, by omega, by go_num⟩
      case measure => simp [intOf]; omega
    · obtain rfl : k = s.size := by omega
      go_wp2_with fail
      refine (HPA.out _).mono ?_
      rintro e w1 ⟨va, rfl, ha, hb⟩
      obtain ⟨ao, ac, rfl, -⟩ := ha.shape
      have hs := (HS0.out.next hb).addDig ha
      have HX1 := Lib.hid hb
      have d0 : (w1).cell? ⟨w.heap.size, 0, none⟩ = some (.slice none 0 0) := (HX1.out.cell (p := ⟨w.heap.size, 0, none⟩) (by simp)).trans (World.cell?_alloc_at _ _ _ _ rfl)
      have g0 : (w1).frozen? ⟨w.heap.size, 0, none⟩ = false := (HX1.out.frozen (p := ⟨w.heap.size, 0, none⟩) (by simp)).trans (World.frozen?_alloc_at _ _ _ _ rfl)
      have d1 : (w1).cell? ⟨w.heap.size, 1, none⟩ = some (.slice none 0 0) := (HX1.out.cell (p := ⟨w.heap.size, 1, none⟩) (by simp)).trans (World.cell?_alloc_at _ _ _ _ rfl)
      have g1 : (w1).frozen? ⟨w.heap.size, 1, none⟩ = false := (HX1.out.frozen (p := ⟨w.heap.size, 1, none⟩) (by simp)).trans (World.frozen?_alloc_at _ _ _ _ rfl)
      have HS1 := Lib.hid hs
      clear hs hb ha
      obtain ⟨t0, t1⟩ := read_two d0 d1 (.slice none 0 0) (.slice none 0 0)
      have T0 := Lib.hid t0; have T1 := Lib.hid t1
      clear t0 t1
      go_wp2
      have t0 := T0.out; have t1 := T1.out
      refine bodyPost_ret (v := .tuple #[.agg #[.slice none 0 0, .slice none 0 0], .int .i64 E]) (by simp [results, Tryd.results8, go_sem, t0, t1]) rfl ⟨rfl, (HS1.out.bel.setCell (Nat.le_refl _) _).setCell (Nat.le_refl _) _⟩
set_option maxHeartbeats 2000000 in
set_option maxRecDepth 100000 in
theorem RPF_m_ok (s : ByteArray) (w : World) (he : Env w) (hs : s.size ≤ 3000) (hix : Lib.indexByte s.data.toList 47 = -1) (eA : parE s.data.toList = 0) :
    Calls Tryd.prog 8 #[.string s] w fun e w' => ∃ r t, e = .returned (.tuple #[.agg #[r, t], .int .i64 0]) ∧ R w' r (parN s.data.toList) ∧ R w' t (1) ∧ Below w.heap.size w w' := by
  have HS0 := Lib.hid ((Kq.start he).boxed2 (.slice none 0 0) (.slice none 0 0) 32)
  have HB0 : Hid (Below (w.alloc (.cells #[.slice none 0 0, .slice none 0 0] 32)).heap.size (w.alloc (.cells #[.slice none 0 0, .slice none 0 0] 32)) (w.alloc (.cells #[.slice none 0 0, .slice none 0 0] 32))) := Below.refl _ _
  have HLOW : Hid (∀ j (hj : j < s.size), ((s[j].toNat : Int) == 47) = false) := fun j hj => byte_ne (slash_none hix j hj)
  have HPA := Lib.hid (fun W => RParse_all s W (by omega))
  rw [eA] at HPA
  generalize parN s.data.toList = a at *
  clear he hix eA
  go_enter Tryd.func8, Tryd.ntmps8
  go_wp2
  go_loop [4] (fun t => ∃ k : Nat, k ≤ s.size ∧ t = .int .i64 k) (fun t => s.size - (intOf t).toNat)
  case atStart => exact ⟨0, Nat.zero_le _, rfl⟩
  case round =>
    obtain ⟨k, hk, rfl⟩ := hrel
    by_cases hlt : k < s.size
    · have hks : k < s.size := by omega
      have hne := HLOW.out k hks
      have hlt' : (k : Int) < s.size := by omega
      go_wp2
      go_round
      case rel => exact ⟨k + 1, by omega, by go_num⟩
      case measure => simp [intOf]; omega
    · obtain rfl : k = s.size := by omega
      go_wp2_with fail
      refine (HPA.out _).mono ?_
      rintro e w1 ⟨va, rfl, ha, hb⟩
      obtain ⟨ao, ac, rfl, -⟩ := ha.shape
      have hs := (HS0.out.next hb).addDig ha
      have HX1 := Lib.hid hb
      have d0 : (w1).cell? ⟨w.heap.size, 0, none⟩ = some (.slice none 0 0) := (HX1.out.cell (p := ⟨w.heap.size, 0, none⟩) (by simp)).trans (World.cell?_alloc_at _ _ _ _ rfl)
      have g0 : (w1).frozen? ⟨w.heap.size, 0, none⟩ = false := (HX1.out.frozen (p := ⟨w.heap.size, 0, none⟩) (by simp)).trans (World.frozen?_alloc_at _ _ _ _ rfl)
      have d1 : (w1).cell? ⟨w.heap.size, 1, none⟩ = some (.slice none 0 0) := (HX1.out.cell (p := ⟨w.heap.size, 1, none⟩) (by simp)).trans (World.cell?_alloc_at _ _ _ _ rfl)
      have g1 : (w1).frozen? ⟨w.heap.size, 1, none⟩ = false := (HX1.out.frozen (p := ⟨w.heap.size, 1, none⟩) (by simp)).trans (World.frozen?_alloc_at _ _ _ _ rfl)
      have HS1 := Lib.hid hs
      clear hs hb ha
      clear d0 d1 g0 g1
      go_wp2_with fail
      refine (Of_any 1 _ (by decide)).mono ?_
      rintro e w2 ⟨vb, rfl, hbv, hb⟩
      obtain ⟨bo, bc, rfl, -⟩ := hbv.shape
      have hs := (HS1.out.next hb).addDig hbv
      have HX2 := Lib.hid (HX1.out.trans (hb.mono HX1.out.size))
      have d0 : (w2).cell? ⟨w.heap.size, 0, none⟩ = some (.slice none 0 0) := (HX2.out.cell (p := ⟨w.heap.size, 0, none⟩) (by simp)).trans (World.cell?_alloc_at _ _ _ _ rfl)
      have g0 : (w2).frozen? ⟨w.heap.size, 0, none⟩ = false := (HX2.out.frozen (p := ⟨w.heap.size, 0, none⟩) (by simp)).trans (World.frozen?_alloc_at _ _ _ _ rfl)
      have d1 : (w2).cell? ⟨w.heap.size, 1, none⟩ = some (.slice none 0 0) := (HX2.out.cell (p := ⟨w.heap.size, 1, none⟩) (by simp)).trans (World.cell?_alloc_at _ _ _ _ rfl)
      have g1 : (w2).frozen? ⟨w.heap.size, 1, none⟩ = false := (HX2.out.frozen (p := ⟨w.heap.size, 1, none⟩) (by simp)).trans (World.frozen?_alloc_at _ _ _ _ rfl)
      obtain ⟨e1, e2, t0, t1, e3⟩ := two_storeR (w := w) (B := w.heap.size) (hs.dig _ (.tail _ (.head _))) (hs.dig _ (.head _)) d0 d1 hs.bel (Nat.le_refl _)
      have E1 := Lib.hid e1; have E2 := Lib.hid e2; have E3 := Lib.hid e3; have T0 := Lib.hid t0; have T1 := Lib.hid t1
      clear e1 e2 e3 t0 t1 hs hb hbv
      go_wp2
      have t0 := T0.out; have t1 := T1.out
      refine bodyPost_ret (v := .tuple #[.agg #[.slice ao (nd 65536 a) ac, .slice bo (nd 65536 1) bc], .int .i64 0]) (by simp [results, Tryd.results8, go_sem, t0, t1]) rfl ⟨_, _, rfl, E1.out, E2.out, E3.out⟩
set_option maxHeartbeats 2000000 in
set_option maxRecDepth 100000 in
theorem RPF_nA (s : ByteArray) (i : Nat) (w : World) (he : Env w) (hs : s.size ≤ 3000) (hix : Lib.indexByte s.data.toList 47 = i) (nA : isNum (s.extract 0 i).data.toList = false) :
    Calls Tryd.prog 8 #[.string s] w fun e w' => e = .returned (.tuple #[.agg #[.slice none 0 0, .slice none 0 0], .int .i64 4]) ∧ Below w.heap.size w w' := by
  have HS0 := Lib.hid ((Kq.start he).boxed2 (.slice none 0 0) (.slice none 0 0) 32)
  have HB0 : Hid (Below (w.alloc (.cells #[.slice none 0 0, .slice none 0 0] 32)).heap.size (w.alloc (.cells #[.slice none 0 0, .slice none 0 0] 32)) (w.alloc (.cells #[.slice none 0 0, .slice none 0 0] 32))) := Below.refl _ _
  obtain ⟨hi, hsi, hlow⟩ := slash_some hix
  have hsi' : ((s[i].toNat : Int) == 47) = true := by rw [hsi]; rfl
  have HLOW : Hid (∀ j (hj : j < s.size), j < i → ((s[j].toNat : Int) == 47) = false) := fun j hj hji => byte_ne (hlow j hj hji)
  have hlen : ((i : Int) == (s.size : Int)) = false := beq_eq_false_iff_ne.2 (by omega)
  have c2 : (↑i : Int) ≤ ↑s.size := by omega
  have c4 : (↑i + 1 : Int) ≤ ↑s.size := by omega
  have hzA : (s.extract 0 i).size ≤ 3000 := by rw [ByteArray.size_extract]; omega
  have hzB : (s.extract (i + 1) s.size).size ≤ 3000 := by rw [ByteArray.size_extract]; omega
  have HNA := Lib.hid (fun W => RNumeral_any (s.extract 0 i) W (by omega))
  rw [nA] at HNA
  clear he hix hlow hsi nA
  go_enter Tryd.func8, Tryd.ntmps8
  go_wp2
  go_loop [4] (fun t => ∃ k : Nat, k ≤ i ∧ t = .int .i64 k) (fun t => s.size - (intOf t).toNat)
  case atStart => exact ⟨0, Nat.zero_le _, rfl⟩
  case round =>
    obtain ⟨k, hk, rfl⟩ := hrel
    by_cases hlt : k < i
    · have hks : k < s.size := by omega
      have hne := HLOW.out k hks hlt
      have hlt' : (k : Int) < s.size := by omega
      go_wp2
      go_round
      case rel => exact ⟨k + 1, by omega, by go_num⟩
      case measure => simp [intOf]; omega
    · obtain rfl : k = i := by omega
      have hlt' : (k : Int) < s.size := by omega
      go_wp2_with fail
      go_region
      have HS1 := Lib.hid HS0.out.drew
      have HX1 := Lib.hid (HB0.out.drew)
      go_wp2_with fail
      refine (HNA.out _).mono ?_
      rintro e w0 ⟨rfl, rfl⟩
      go_wp2
      refine bodyPost_ret (v := .tuple #[.agg #[.slice none 0 0, .slice none 0 0], .int .i64 4]) (by simp [results, Tryd.results8, go_sem]) rfl ⟨rfl, HS1.out.bel⟩
set_option maxHeartbeats 2000000 in
set_option maxRecDepth 100000 in
theorem RPF_nB (s : ByteArray) (i : Nat) (w : World) (he : Env w) (hs : s.size ≤ 3000) (hix : Lib.indexByte s.data.toList 47 = i) (nA : isNum (s.extract 0 i).data.toList = true) (nB : isNum (s.extract (i + 1) s.size).data.toList = false) :
    Calls Tryd.prog 8 #[.string s] w fun e w' => e = .returned (.tuple #[.agg #[.slice none 0 0, .slice none 0 0], .int .i64 4]) ∧ Below w.heap.size w w' := by
  have HS0 := Lib.hid ((Kq.start he).boxed2 (.slice none 0 0) (.slice none 0 0) 32)
  have HB0 : Hid (Below (w.alloc (.cells #[.slice none 0 0, .slice none 0 0] 32)).heap.size (w.alloc (.cells #[.slice none 0 0, .slice none 0 0] 32)) (w.alloc (.cells #[.slice none 0 0, .slice none 0 0] 32))) := Below.refl _ _
  obtain ⟨hi, hsi, hlow⟩ := slash_some hix
  have hsi' : ((s[i].toNat : Int) == 47) = true := by rw [hsi]; rfl
  have HLOW : Hid (∀ j (hj : j < s.size), j < i → ((s[j].toNat : Int) == 47) = false) := fun j hj hji => byte_ne (hlow j hj hji)
  have hlen : ((i : Int) == (s.size : Int)) = false := beq_eq_false_iff_ne.2 (by omega)
  have c2 : (↑i : Int) ≤ ↑s.size := by omega
  have c4 : (↑i + 1 : Int) ≤ ↑s.size := by omega
  have hzA : (s.extract 0 i).size ≤ 3000 := by rw [ByteArray.size_extract]; omega
  have hzB : (s.extract (i + 1) s.size).size ≤ 3000 := by rw [ByteArray.size_extract]; omega
  have HNA := Lib.hid (fun W => RNumeral_any (s.extract 0 i) W (by omega))
  rw [nA] at HNA
  have HNB := Lib.hid (fun W => RNumeral_any (s.extract (i + 1) s.size) W (by omega))
  rw [nB] at HNB
  clear he hix hlow hsi nA nB
  go_enter Tryd.func8, Tryd.ntmps8
  go_wp2
  go_loop [4] (fun t => ∃ k : Nat, k ≤ i ∧ t = .int .i64 k) (fun t => s.size - (intOf t).toNat)
  case atStart => exact ⟨0, Nat.zero_le _, rfl⟩
  case round =>
    obtain ⟨k, hk, rfl⟩ := hrel
    by_cases hlt : k < i
    · have hks : k < s.size := by omega
      have hne := HLOW.out k hks hlt
      have hlt' : (k : Int) < s.size := by omega
      go_wp2
      go_round
      case rel => exact ⟨k + 1, by omega, by go_num⟩
      case measure => simp [intOf]; omega
    · obtain rfl : k = i := by omega
      have hlt' : (k : Int) < s.size := by omega
      go_wp2_with fail
      go_region
      have HS1 := Lib.hid HS0.out.drew
      have HX1 := Lib.hid (HB0.out.drew)
      go_wp2_with fail
      refine (HNA.out _).mono ?_
      rintro e w0 ⟨rfl, rfl⟩
      go_wp2_with fail
      refine (HNB.out _).mono ?_
      rintro e w0 ⟨rfl, rfl⟩
      go_wp2
      refine bodyPost_ret (v := .tuple #[.agg #[.slice none 0 0, .slice none 0 0], .int .i64 4]) (by simp [results, Tryd.results8, go_sem]) rfl ⟨rfl, HS1.out.bel⟩
set_option maxHeartbeats 2000000 in
set_option maxRecDepth 100000 in
theorem RPF_b0 (s : ByteArray) (i : Nat) (w : World) (he : Env w) (hs : s.size ≤ 3000) (hix : Lib.indexByte s.data.toList 47 = i) (nA : isNum (s.extract 0 i).data.toList = true) (nB : isNum (s.extract (i + 1) s.size).data.toList = true) (n0 : ((s.extract (i + 1) s.size).toList == [48]) = true) :
    Calls Tryd.prog 8 #[.string s] w fun e w' => e = .returned (.tuple #[.agg #[.slice none 0 0, .slice none 0 0], .int .i64 4]) ∧ Below w.heap.size w w' := by
  have HS0 := Lib.hid ((Kq.start he).boxed2 (.slice none 0 0) (.slice none 0 0) 32)
  have HB0 : Hid (Below (w.alloc (.cells #[.slice none 0 0, .slice none 0 0] 32)).heap.size (w.alloc (.cells #[.slice none 0 0, .slice none 0 0] 32)) (w.alloc (.cells #[.slice none 0 0, .slice none 0 0] 32))) := Below.refl _ _
  obtain ⟨hi, hsi, hlow⟩ := slash_some hix
  have hsi' : ((s[i].toNat : Int) == 47) = true := by rw [hsi]; rfl
  have HLOW : Hid (∀ j (hj : j < s.size), j < i → ((s[j].toNat : Int) == 47) = false) := fun j hj hji => byte_ne (hlow j hj hji)
  have hlen : ((i : Int) == (s.size : Int)) = false := beq_eq_false_iff_ne.2 (by omega)
  have c2 : (↑i : Int) ≤ ↑s.size := by omega
  have c4 : (↑i + 1 : Int) ≤ ↑s.size := by omega
  have hzA : (s.extract 0 i).size ≤ 3000 := by rw [ByteArray.size_extract]; omega
  have hzB : (s.extract (i + 1) s.size).size ≤ 3000 := by rw [ByteArray.size_extract]; omega
  have HNA := Lib.hid (fun W => RNumeral_any (s.extract 0 i) W (by omega))
  rw [nA] at HNA
  have HNB := Lib.hid (fun W => RNumeral_any (s.extract (i + 1) s.size) W (by omega))
  rw [nB] at HNB
  clear he hix hlow hsi nA nB
  go_enter Tryd.func8, Tryd.ntmps8
  go_wp2
  go_loop [4] (fun t => ∃ k : Nat, k ≤ i ∧ t = .int .i64 k) (fun t => s.size - (intOf t).toNat)
  case atStart => exact ⟨0, Nat.zero_le _, rfl⟩
  case round =>
    obtain ⟨k, hk, rfl⟩ := hrel
    by_cases hlt : k < i
    · have hks : k < s.size := by omega
      have hne := HLOW.out k hks hlt
      have hlt' : (k : Int) < s.size := by omega
      go_wp2
      go_round
      case rel => exact ⟨k + 1, by omega, by go_num⟩
      case measure => simp [intOf]; omega
    · obtain rfl : k = i := by omega
      have hlt' : (k : Int) < s.size := by omega
      go_wp2_with fail
      go_region
      have HS1 := Lib.hid HS0.out.drew
      have HX1 := Lib.hid (HB0.out.drew)
      go_wp2_with fail
      refine (HNA.out _).mono ?_
      rintro e w0 ⟨rfl, rfl⟩
      go_wp2_with fail
      refine (HNB.out _).mono ?_
      rintro e w0 ⟨rfl, rfl⟩
      go_wp2
      refine bodyPost_ret (v := .tuple #[.agg #[.slice none 0 0, .slice none 0 0], .int .i64 4]) (by simp [results, Tryd.results8, go_sem]) rfl ⟨rfl, HS1.out.bel⟩
set_option maxHeartbeats 2000000 in
set_option maxRecDepth 100000 in
theorem RPF_b1 (s : ByteArray) (i : Nat) (w : World) (he : Env w) (hs : s.size ≤ 3000) (hix : Lib.indexByte s.data.toList 47 = i) (nA : isNum (s.extract 0 i).data.toList = true) (nB : isNum (s.extract (i + 1) s.size).data.toList = true) (n0 : ((s.extract (i + 1) s.size).toList == [48]) = false) (n1 : ((s.extract (i + 1) s.size).toList == [49]) = true) :
    Calls Tryd.prog 8 #[.string s] w fun e w' => e = .returned (.tuple #[.agg #[.slice none 0 0, .slice none 0 0], .int .i64 4]) ∧ Below w.heap.size w w' := by
  have HS0 := Lib.hid ((Kq.start he).boxed2 (.slice none 0 0) (.slice none 0 0) 32)
  have HB0 : Hid (Below (w.alloc (.cells #[.slice none 0 0, .slice none 0 0] 32)).heap.size (w.alloc (.cells #[.slice none 0 0, .slice none 0 0] 32)) (w.alloc (.cells #[.slice none 0 0, .slice none 0 0] 32))) := Below.refl _ _
  obtain ⟨hi, hsi, hlow⟩ := slash_some hix
  have hsi' : ((s[i].toNat : Int) == 47) = true := by rw [hsi]; rfl
  have HLOW : Hid (∀ j (hj : j < s.size), j < i → ((s[j].toNat : Int) == 47) = false) := fun j hj hji => byte_ne (hlow j hj hji)
  have hlen : ((i : Int) == (s.size : Int)) = false := beq_eq_false_iff_ne.2 (by omega)
  have c2 : (↑i : Int) ≤ ↑s.size := by omega
  have c4 : (↑i + 1 : Int) ≤ ↑s.size := by omega
  have hzA : (s.extract 0 i).size ≤ 3000 := by rw [ByteArray.size_extract]; omega
  have hzB : (s.extract (i + 1) s.size).size ≤ 3000 := by rw [ByteArray.size_extract]; omega
  have HNA := Lib.hid (fun W => RNumeral_any (s.extract 0 i) W (by omega))
  rw [nA] at HNA
  have HNB := Lib.hid (fun W => RNumeral_any (s.extract (i + 1) s.size) W (by omega))
  rw [nB] at HNB
  clear he hix hlow hsi nA nB
  go_enter Tryd.func8, Tryd.ntmps8
  go_wp2
  go_loop [4] (fun t => ∃ k : Nat, k ≤ i ∧ t = .int .i64 k) (fun t => s.size - (intOf t).toNat)
  case atStart => exact ⟨0, Nat.zero_le _, rfl⟩
  case round =>
    obtain ⟨k, hk, rfl⟩ := hrel
    by_cases hlt : k < i
    · have hks : k < s.size := by omega
      have hne := HLOW.out k hks hlt
      have hlt' : (k : Int) < s.size := by omega
      go_wp2
      go_round
      case rel => exact ⟨k + 1, by omega, by go_num⟩
      case measure => simp [intOf]; omega
    · obtain rfl : k = i := by omega
      have hlt' : (k : Int) < s.size := by omega
      go_wp2_with fail
      go_region
      have HS1 := Lib.hid HS0.out.drew
      have HX1 := Lib.hid (HB0.out.drew)
      go_wp2_with fail
      refine (HNA.out _).mono ?_
      rintro e w0 ⟨rfl, rfl⟩
      go_wp2_with fail
      refine (HNB.out _).mono ?_
      rintro e w0 ⟨rfl, rfl⟩
      go_wp2
      refine bodyPost_ret (v := .tuple #[.agg #[.slice none 0 0, .slice none 0 0], .int .i64 4]) (by simp [results, Tryd.results8, go_sem]) rfl ⟨rfl, HS1.out.bel⟩
set_option maxHeartbeats 2000000 in
set_option maxRecDepth 100000 in
theorem RPF_eA (s : ByteArray) (i : Nat) (w : World) (he : Env w) (hs : s.size ≤ 3000) (hix : Lib.indexByte s.data.toList 47 = i) (nA : isNum (s.extract 0 i).data.toList = true) (nB : isNum (s.extract (i + 1) s.size).data.toList = true) (n0 : ((s.extract (i + 1) s.size).toList == [48]) = false) (n1 : ((s.extract (i + 1) s.size).toList == [49]) = false) (eA : parE (s.extract 0 i).data.toList ≠ 0) :
    Calls Tryd.prog 8 #[.string s] w fun e w' => e = .returned (.tuple #[.agg #[.slice none 0 0, .slice none 0 0], .int .i64 3]) ∧ Below w.heap.size w w' := by
  have HS0 := Lib.hid ((Kq.start he).boxed2 (.slice none 0 0) (.slice none 0 0) 32)
  have HB0 : Hid (Below (w.alloc (.cells #[.slice none 0 0, .slice none 0 0] 32)).heap.size (w.alloc (.cells #[.slice none 0 0, .slice none 0 0] 32)) (w.alloc (.cells #[.slice none 0 0, .slice none 0 0] 32))) := Below.refl _ _
  obtain ⟨hi, hsi, hlow⟩ := slash_some hix
  have hsi' : ((s[i].toNat : Int) == 47) = true := by rw [hsi]; rfl
  have HLOW : Hid (∀ j (hj : j < s.size), j < i → ((s[j].toNat : Int) == 47) = false) := fun j hj hji => byte_ne (hlow j hj hji)
  have hlen : ((i : Int) == (s.size : Int)) = false := beq_eq_false_iff_ne.2 (by omega)
  have c2 : (↑i : Int) ≤ ↑s.size := by omega
  have c4 : (↑i + 1 : Int) ≤ ↑s.size := by omega
  have hzA : (s.extract 0 i).size ≤ 3000 := by rw [ByteArray.size_extract]; omega
  have hzB : (s.extract (i + 1) s.size).size ≤ 3000 := by rw [ByteArray.size_extract]; omega
  have HNA := Lib.hid (fun W => RNumeral_any (s.extract 0 i) W (by omega))
  rw [nA] at HNA
  have HNB := Lib.hid (fun W => RNumeral_any (s.extract (i + 1) s.size) W (by omega))
  rw [nB] at HNB
  have HPA := Lib.hid (fun W => RParse_all (s.extract 0 i) W (by omega))
  have HPB := Lib.hid (fun W => RParse_all (s.extract (i + 1) s.size) W (by omega))
  have hE : (parE (s.extract 0 i).data.toList == 0) = false := beq_eq_false_iff_ne.2 eA
  generalize parE (s.extract 0 i).data.toList = E at *
  generalize parE (s.extract (i + 1) s.size).data.toList = E2 at *
  generalize parN (s.extract 0 i).data.toList = a at *
  generalize parN (s.extract (i + 1) s.size).data.toList = b at *
  clear he hix hlow hsi nA nB eA
  go_enter Tryd.func8, Tryd.ntmps8
  go_wp2
  go_loop [4] (fun t => ∃ k : Nat, k ≤ i ∧ t = .int .i64 k) (fun t => s.size - (intOf t).toNat)
  case atStart => exact ⟨0, Nat.zero_le _, rfl⟩
  case round =>
    obtain ⟨k, hk, rfl⟩ := hrel
    by_cases hlt : k < i
    · have hks : k < s.size := by omega
      have hne := HLOW.out k hks hlt
      have hlt' : (k : Int) < s.size := by omega
      go_wp2
      go_round
      case rel => exact ⟨k + 1, by omega, by go_num⟩
      case measure => simp [intOf]; omega
    · obtain rfl : k = i := by omega
      have hlt' : (k : Int) < s.size := by omega
      go_wp2_with fail
      go_region
      have HS1 := Lib.hid HS0.out.drew
      have HX1 := Lib.hid (HB0.out.drew)
      go_wp2_with fail
      refine (HNA.out _).mono ?_
      rintro e w0 ⟨rfl, rfl⟩
      go_wp2_with fail
      refine (HNB.out _).mono ?_
      rintro e w0 ⟨rfl, rfl⟩
      go_wp2_with fail
      refine (HPA.out _).mono ?_
      rintro e w1 ⟨va, rfl, ha, hb⟩
      obtain ⟨ao, ac, rfl, -⟩ := ha.shape
      have HS2 := Lib.hid ((HS1.out.next hb).addDig ha)
      have HX2 := Lib.hid (HX1.out.trans (hb.mono HX1.out.size))
      clear hb ha
      go_wp2_with fail
      refine (HPB.out _).mono ?_
      rintro e w2 ⟨vz, rfl, hz, hb⟩
      obtain ⟨zo, zc, rfl, -⟩ := hz.shape
      have HS3 := Lib.hid ((HS2.out.next hb).addDig hz)
      have HX3 := Lib.hid (HX2.out.trans (hb.mono HX2.out.size))
      clear hb hz
      have d0 : (w2).cell? ⟨w.heap.size, 0, none⟩ = some (.slice none 0 0) := (HX3.out.cell (p := ⟨w.heap.size, 0, none⟩) (by simp)).trans (World.cell?_alloc_at _ _ _ _ rfl)
      have g0 : (w2).frozen? ⟨w.heap.size, 0, none⟩ = false := (HX3.out.frozen (p := ⟨w.heap.size, 0, none⟩) (by simp)).trans (World.frozen?_alloc_at _ _ _ _ rfl)
      have d1 : (w2).cell? ⟨w.heap.size, 1, none⟩ = some (.slice none 0 0) := (HX3.out.cell (p := ⟨w.heap.size, 1, none⟩) (by simp)).trans (World.cell?_alloc_at _ _ _ _ rfl)
      have g1 : (w2).frozen? ⟨w.heap.size, 1, none⟩ = false := (HX3.out.frozen (p := ⟨w.heap.size, 1, none⟩) (by simp)).trans (World.frozen?_alloc_at _ _ _ _ rfl)
      obtain ⟨t0, t1⟩ := read_two d0 d1 (.slice none 0 0) (.slice none 0 0)
      have T0 := Lib.hid t0; have T1 := Lib.hid t1
      clear t0 t1
      go_wp2
      have t0 := T0.out; have t1 := T1.out
      refine bodyPost_ret (v := .tuple #[.agg #[.slice none 0 0, .slice none 0 0], .int .i64 3]) (by simp [results, Tryd.results8, go_sem, t0, t1]) rfl ⟨rfl, (HS3.out.bel.setCell (Nat.le_refl _) _).setCell (Nat.le_refl _) _⟩
set_option maxHeartbeats 2000000 in
set_option maxRecDepth 100000 in
theorem RPF_eB (s : ByteArray) (i : Nat) (w : World) (he : Env w) (hs : s.size ≤ 3000) (hix : Lib.indexByte s.data.toList 47 = i) (nA : isNum (s.extract 0 i).data.toList = true) (nB : isNum (s.extract (i + 1) s.size).data.toList = true) (n0 : ((s.extract (i + 1) s.size).toList == [48]) = false) (n1 : ((s.extract (i + 1) s.size).toList == [49]) = false) (eA : parE (s.extract 0 i).data.toList = 0) (eB : parE (s.extract (i + 1) s.size).data.toList ≠ 0) :
    Calls Tryd.prog 8 #[.string s] w fun e w' => e = .returned (.tuple #[.agg #[.slice none 0 0, .slice none 0 0], .int .i64 3]) ∧ Below w.heap.size w w' := by
  have HS0 := Lib.hid ((Kq.start he).boxed2 (.slice none 0 0) (.slice none 0 0) 32)
  have HB0 : Hid (Below (w.alloc (.cells #[.slice none 0 0, .slice none 0 0] 32)).heap.size (w.alloc (.cells #[.slice none 0 0, .slice none 0 0] 32)) (w.alloc (.cells #[.slice none 0 0, .slice none 0 0] 32))) := Below.refl _ _
  obtain ⟨hi, hsi, hlow⟩ := slash_some hix
  have hsi' : ((s[i].toNat : Int) == 47) = true := by rw [hsi]; rfl
  have HLOW : Hid (∀ j (hj : j < s.size), j < i → ((s[j].toNat : Int) == 47) = false) := fun j hj hji => byte_ne (hlow j hj hji)
  have hlen : ((i : Int) == (s.size : Int)) = false := beq_eq_false_iff_ne.2 (by omega)
  have c2 : (↑i : Int) ≤ ↑s.size := by omega
  have c4 : (↑i + 1 : Int) ≤ ↑s.size := by omega
  have hzA : (s.extract 0 i).size ≤ 3000 := by rw [ByteArray.size_extract]; omega
  have hzB : (s.extract (i + 1) s.size).size ≤ 3000 := by rw [ByteArray.size_extract]; omega
  have HNA := Lib.hid (fun W => RNumeral_any (s.extract 0 i) W (by omega))
  rw [nA] at HNA
  have HNB := Lib.hid (fun W => RNumeral_any (s.extract (i + 1) s.size) W (by omega))
  rw [nB] at HNB
  have HPA := Lib.hid (fun W => RParse_all (s.extract 0 i) W (by omega))
  have HPB := Lib.hid (fun W => RParse_all (s.extract (i + 1) s.size) W (by omega))
  rw [eA] at HPA
  have hE : (parE (s.extract (i + 1) s.size).data.toList == 0) = false := beq_eq_false_iff_ne.2 eB
  generalize parE (s.extract (i + 1) s.size).data.toList = E2 at *
  generalize parN (s.extract 0 i).data.toList = a at *
  generalize parN (s.extract (i + 1) s.size).data.toList = b at *
  clear he hix hlow hsi nA nB eA eB
  go_enter Tryd.func8, Tryd.ntmps8
  go_wp2
  go_loop [4] (fun t => ∃ k : Nat, k ≤ i ∧ t = .int .i64 k) (fun t => s.size - (intOf t).toNat)
  case atStart => exact ⟨0, Nat.zero_le _, rfl⟩
  case round =>
    obtain ⟨k, hk, rfl⟩ := hrel
    by_cases hlt : k < i
    · have hks : k < s.size := by omega
      have hne := HLOW.out k hks hlt
      have hlt' : (k : Int) < s.size := by omega
      go_wp2
      go_round
      case rel => exact ⟨k + 1, by omega, by go_num⟩
      case measure => simp [intOf]; omega
    · obtain rfl : k = i := by omega
      have hlt' : (k : Int) < s.size := by omega
      go_wp2_with fail
      go_region
      have HS1 := Lib.hid HS0.out.drew
      have HX1 := Lib.hid (HB0.out.drew)
      go_wp2_with fail
      refine (HNA.out _).mono ?_
      rintro e w0 ⟨rfl, rfl⟩
      go_wp2_with fail
      refine (HNB.out _).mono ?_
      rintro e w0 ⟨rfl, rfl⟩
      go_wp2_with fail
      refine (HPA.out _).mono ?_
      rintro e w1 ⟨va, rfl, ha, hb⟩
      obtain ⟨ao, ac, rfl, -⟩ := ha.shape
      have HS2 := Lib.hid ((HS1.out.next hb).addDig ha)
      have HX2 := Lib.hid (HX1.out.trans (hb.mono HX1.out.size))
      clear hb ha
      go_wp2_with fail
      refine (HPB.out _).mono ?_
      rintro e w2 ⟨vz, rfl, hz, hb⟩
      obtain ⟨zo, zc, rfl, -⟩ := hz.shape
      have HS3 := Lib.hid ((HS2.out.next hb).addDig hz)
      have HX3 := Lib.hid (HX2.out.trans (hb.mono HX2.out.size))
      clear hb hz
      have d0 : (w2).cell? ⟨w.heap.size, 0, none⟩ = some (.slice none 0 0) := (HX3.out.cell (p := ⟨w.heap.size, 0, none⟩) (by simp)).trans (World.cell?_alloc_at _ _ _ _ rfl)
      have g0 : (w2).frozen? ⟨w.heap.size, 0, none⟩ = false := (HX3.out.frozen (p := ⟨w.heap.size, 0, none⟩) (by simp)).trans (World.frozen?_alloc_at _ _ _ _ rfl)
      have d1 : (w2).cell? ⟨w.heap.size, 1, none⟩ = some (.slice none 0 0) := (HX3.out.cell (p := ⟨w.heap.size, 1, none⟩) (by simp)).trans (World.cell?_alloc_at _ _ _ _ rfl)
      have g1 : (w2).frozen? ⟨w.heap.size, 1, none⟩ = false := (HX3.out.frozen (p := ⟨w.heap.size, 1, none⟩) (by simp)).trans (World.frozen?_alloc_at _ _ _ _ rfl)
      obtain ⟨t0, t1⟩ := read_two d0 d1 (.slice none 0 0) (.slice none 0 0)
      have T0 := Lib.hid t0; have T1 := Lib.hid t1
      clear t0 t1
      go_wp2
      have t0 := T0.out; have t1 := T1.out
      refine bodyPost_ret (v := .tuple #[.agg #[.slice none 0 0, .slice none 0 0], .int .i64 3]) (by simp [results, Tryd.results8, go_sem, t0, t1]) rfl ⟨rfl, (HS3.out.bel.setCell (Nat.le_refl _) _).setCell (Nat.le_refl _) _⟩
set_option maxHeartbeats 2000000 in
set_option maxRecDepth 100000 in
theorem RPF_g (s : ByteArray) (i : Nat) (w : World) (he : Env w) (hs : s.size ≤ 3000) (hix : Lib.indexByte s.data.toList 47 = i) (nA : isNum (s.extract 0 i).data.toList = true) (nB : isNum (s.extract (i + 1) s.size).data.toList = true) (n0 : ((s.extract (i + 1) s.size).toList == [48]) = false) (n1 : ((s.extract (i + 1) s.size).toList == [49]) = false) (eA : parE (s.extract 0 i).data.toList = 0) (eB : parE (s.extract (i + 1) s.size).data.toList = 0) (gg : Nat.gcd (parN (s.extract 0 i).data.toList) (parN (s.extract (i + 1) s.size).data.toList) ≠ 1) :
    Calls Tryd.prog 8 #[.string s] w fun e w' => e = .returned (.tuple #[.agg #[.slice none 0 0, .slice none 0 0], .int .i64 4]) ∧ Below w.heap.size w w' := by
  have HS0 := Lib.hid ((Kq.start he).boxed2 (.slice none 0 0) (.slice none 0 0) 32)
  have HB0 : Hid (Below (w.alloc (.cells #[.slice none 0 0, .slice none 0 0] 32)).heap.size (w.alloc (.cells #[.slice none 0 0, .slice none 0 0] 32)) (w.alloc (.cells #[.slice none 0 0, .slice none 0 0] 32))) := Below.refl _ _
  obtain ⟨hi, hsi, hlow⟩ := slash_some hix
  have hsi' : ((s[i].toNat : Int) == 47) = true := by rw [hsi]; rfl
  have HLOW : Hid (∀ j (hj : j < s.size), j < i → ((s[j].toNat : Int) == 47) = false) := fun j hj hji => byte_ne (hlow j hj hji)
  have hlen : ((i : Int) == (s.size : Int)) = false := beq_eq_false_iff_ne.2 (by omega)
  have c2 : (↑i : Int) ≤ ↑s.size := by omega
  have c4 : (↑i + 1 : Int) ≤ ↑s.size := by omega
  have hzA : (s.extract 0 i).size ≤ 3000 := by rw [ByteArray.size_extract]; omega
  have hzB : (s.extract (i + 1) s.size).size ≤ 3000 := by rw [ByteArray.size_extract]; omega
  have HNA := Lib.hid (fun W => RNumeral_any (s.extract 0 i) W (by omega))
  rw [nA] at HNA
  have HNB := Lib.hid (fun W => RNumeral_any (s.extract (i + 1) s.size) W (by omega))
  rw [nB] at HNB
  have HPA := Lib.hid (fun W => RParse_all (s.extract 0 i) W (by omega))
  have HPB := Lib.hid (fun W => RParse_all (s.extract (i + 1) s.size) W (by omega))
  rw [eA] at HPA
  rw [eB] at HPB
  have hnA := par_nd16 (s.extract 0 i).data.toList (by rw [len_data]; omega)
  have hnB := par_nd16 (s.extract (i + 1) s.size).data.toList (by rw [len_data]; omega)
  generalize parN (s.extract 0 i).data.toList = a at *
  generalize parN (s.extract (i + 1) s.size).data.toList = b at *
  have HG := Lib.hid (fun v u W (h1 : R W v a) (h2 : R W u b) => RGcd_any v u a b W h1 h2 (by omega) (by omega))
  have h1n : nd 65536 1 ≤ 4 := nd_le_self16 (by decide)
  have hG16 : nd 65536 (Nat.gcd a b) ≤ 1000 := by
    rcases Nat.eq_zero_or_pos b with h | h
    · rw [h, Nat.gcd_zero_right]; omega
    · exact Nat.le_trans (nd_mono (by decide) (Nat.gcd_le_right _ h)) (by omega)
  have hk : ((cmpN ((Nat.gcd a b : Nat) : Int) ((1 : Nat) : Int)) == 0) = false := beq_eq_false_iff_ne.2 (fun h => gg (cmp_eq_zero h))
  clear gg
  generalize Nat.gcd a b = G at *
  have HKK := Lib.hid hk
  clear hk
  clear he hix hlow hsi nA nB eA eB
  go_enter Tryd.func8, Tryd.ntmps8
  go_wp2
  go_loop [4] (fun t => ∃ k : Nat, k ≤ i ∧ t = .int .i64 k) (fun t => s.size - (intOf t).toNat)
  case atStart => exact ⟨0, Nat.zero_le _, rfl⟩
  case round =>
    obtain ⟨k, hk, rfl⟩ := hrel
    by_cases hlt : k < i
    · have hks : k < s.size := by omega
      have hne := HLOW.out k hks hlt
      have hlt' : (k : Int) < s.size := by omega
      go_wp2
      go_round
      case rel => exact ⟨k + 1, by omega, by go_num⟩
      case measure => simp [intOf]; omega
    · obtain rfl : k = i := by omega
      have hlt' : (k : Int) < s.size := by omega
      go_wp2_with fail
      go_region
      have HS1 := Lib.hid HS0.out.drew
      have HX1 := Lib.hid (HB0.out.drew)
      go_wp2_with fail
      refine (HNA.out _).mono ?_
      rintro e w0 ⟨rfl, rfl⟩
      go_wp2_with fail
      refine (HNB.out _).mono ?_
      rintro e w0 ⟨rfl, rfl⟩
      go_wp2_with fail
      refine (HPA.out _).mono ?_
      rintro e w1 ⟨va, rfl, ha, hb⟩
      obtain ⟨ao, ac, rfl, -⟩ := ha.shape
      have HS2 := Lib.hid ((HS1.out.next hb).addDig ha)
      have HX2 := Lib.hid (HX1.out.trans (hb.mono HX1.out.size))
      clear hb ha
      go_wp2_with fail
      refine (HPB.out _).mono ?_
      rintro e w2 ⟨vz, rfl, hz, hb⟩
      obtain ⟨zo, zc, rfl, -⟩ := hz.shape
      have HS3 := Lib.hid ((HS2.out.next hb).addDig hz)
      have HX3 := Lib.hid (HX2.out.trans (hb.mono HX2.out.size))
      clear hb hz
      go_wp2_with fail
      refine (HG.out _ _ _ (HS3.out.dig _ (.tail _ (.head _))) (HS3.out.dig _ (.head _))).mono ?_
      rintro e w3 ⟨vg, rfl, hg, hb⟩
      obtain ⟨go, gc, rfl, -⟩ := hg.shape
      have HS4 := Lib.hid ((HS3.out.next hb).addDig hg)
      have HX4 := Lib.hid (HX3.out.trans (hb.mono HX3.out.size))
      clear hb hg
      go_wp2_with fail
      refine (Of_any 1 _ (by decide)).mono ?_
      rintro e w4 ⟨vo, rfl, ho, hb⟩
      obtain ⟨oo, oc, rfl, -⟩ := ho.shape
      have HS5 := Lib.hid ((HS4.out.next hb).addDig ho)
      have HX5 := Lib.hid (HX4.out.trans (hb.mono HX4.out.size))
      clear hb ho
      have HRC := Lib.hid (RCmp_any _ _ G 1 w4 (HS5.out.dig _ (.tail _ (.head _))) (HS5.out.dig _ (.head _)) (by omega) (by omega))
      have hkk := HKK.out
      generalize cmpN ((G : Nat) : Int) ((1 : Nat) : Int) = kk at *
      go_wp2_with fail
      refine HRC.out.mono ?_
      rintro e w5 ⟨rfl, q, rfl⟩
      have HS6 := Lib.hid (HS5.out.drewN q)
      have HX6 := Lib.hid (below_drewN HX5.out q)
      have d0 : (w4.drewN q).cell? ⟨w.heap.size, 0, none⟩ = some (.slice none 0 0) := (HX6.out.cell (p := ⟨w.heap.size, 0, none⟩) (by simp)).trans (World.cell?_alloc_at _ _ _ _ rfl)
      have g0 : (w4.drewN q).frozen? ⟨w.heap.size, 0, none⟩ = false := (HX6.out.frozen (p := ⟨w.heap.size, 0, none⟩) (by simp)).trans (World.frozen?_alloc_at _ _ _ _ rfl)
      have d1 : (w4.drewN q).cell? ⟨w.heap.size, 1, none⟩ = some (.slice none 0 0) := (HX6.out.cell (p := ⟨w.heap.size, 1, none⟩) (by simp)).trans (World.cell?_alloc_at _ _ _ _ rfl)
      have g1 : (w4.drewN q).frozen? ⟨w.heap.size, 1, none⟩ = false := (HX6.out.frozen (p := ⟨w.heap.size, 1, none⟩) (by simp)).trans (World.frozen?_alloc_at _ _ _ _ rfl)
      obtain ⟨t0, t1⟩ := read_two d0 d1 (.slice none 0 0) (.slice none 0 0)
      have T0 := Lib.hid t0; have T1 := Lib.hid t1
      clear t0 t1
      go_wp2
      have t0 := T0.out; have t1 := T1.out
      refine bodyPost_ret (v := .tuple #[.agg #[.slice none 0 0, .slice none 0 0], .int .i64 4]) (by simp [results, Tryd.results8, go_sem, t0, t1]) rfl ⟨rfl, (HS6.out.bel.setCell (Nat.le_refl _) _).setCell (Nat.le_refl _) _⟩
set_option maxHeartbeats 2000000 in
set_option maxRecDepth 100000 in
theorem RPF_ok (s : ByteArray) (i : Nat) (w : World) (he : Env w) (hs : s.size ≤ 3000) (hix : Lib.indexByte s.data.toList 47 = i) (nA : isNum (s.extract 0 i).data.toList = true) (nB : isNum (s.extract (i + 1) s.size).data.toList = true) (n0 : ((s.extract (i + 1) s.size).toList == [48]) = false) (n1 : ((s.extract (i + 1) s.size).toList == [49]) = false) (eA : parE (s.extract 0 i).data.toList = 0) (eB : parE (s.extract (i + 1) s.size).data.toList = 0) (gg : Nat.gcd (parN (s.extract 0 i).data.toList) (parN (s.extract (i + 1) s.size).data.toList) = 1) :
    Calls Tryd.prog 8 #[.string s] w fun e w' => ∃ r t, e = .returned (.tuple #[.agg #[r, t], .int .i64 0]) ∧ R w' r (parN (s.extract 0 i).data.toList) ∧ R w' t (parN (s.extract (i + 1) s.size).data.toList) ∧ Below w.heap.size w w' := by
  have HS0 := Lib.hid ((Kq.start he).boxed2 (.slice none 0 0) (.slice none 0 0) 32)
  have HB0 : Hid (Below (w.alloc (.cells #[.slice none 0 0, .slice none 0 0] 32)).heap.size (w.alloc (.cells #[.slice none 0 0, .slice none 0 0] 32)) (w.alloc (.cells #[.slice none 0 0, .slice none 0 0] 32))) := Below.refl _ _
  obtain ⟨hi, hsi, hlow⟩ := slash_some hix
  have hsi' : ((s[i].toNat : Int) == 47) = true := by rw [hsi]; rfl
  have HLOW : Hid (∀ j (hj : j < s.size), j < i → ((s[j].toNat : Int) == 47) = false) := fun j hj hji => byte_ne (hlow j hj hji)
  have hlen : ((i : Int) == (s.size : Int)) = false := beq_eq_false_iff_ne.2 (by omega)
  have c2 : (↑i : Int) ≤ ↑s.size := by omega
  have c4 : (↑i + 1 : Int) ≤ ↑s.size := by omega
  have hzA : (s.extract 0 i).size ≤ 3000 := by rw [ByteArray.size_extract]; omega
  have hzB : (s.extract (i + 1) s.size).size ≤ 3000 := by rw [ByteArray.size_extract]; omega
  have HNA := Lib.hid (fun W => RNumeral_any (s.extract 0 i) W (by omega))
  rw [nA] at HNA
  have HNB := Lib.hid (fun W => RNumeral_any (s.extract (i + 1) s.size) W (by omega))
  rw [nB] at HNB
  have HPA := Lib.hid (fun W => RParse_all (s.extract 0 i) W (by omega))
  have HPB := Lib.hid (fun W => RParse_all (s.extract (i + 1) s.size) W (by omega))
  rw [eA] at HPA
  rw [eB] at HPB
  have hnA := par_nd16 (s.extract 0 i).data.toList (by rw [len_data]; omega)
  have hnB := par_nd16 (s.extract (i + 1) s.size).data.toList (by rw [len_data]; omega)
  generalize parN (s.extract 0 i).data.toList = a at *
  generalize parN (s.extract (i + 1) s.size).data.toList = b at *
  have HG := Lib.hid (fun v u W (h1 : R W v a) (h2 : R W u b) => RGcd_any v u a b W h1 h2 (by omega) (by omega))
  have h1n : nd 65536 1 ≤ 4 := nd_le_self16 (by decide)
  rw [gg] at HG
  have hk : ((cmpN ((1 : Nat) : Int) ((1 : Nat) : Int)) == 0) = true := by decide
  obtain ⟨G, hG⟩ : ∃ G, G = 1 := ⟨_, rfl⟩
  have hG16 : nd 65536 G ≤ 1000 := by rw [hG]; omega
  rw [← hG] at HG
  have hk : ((cmpN ((G : Nat) : Int) ((1 : Nat) : Int)) == 0) = true := by rw [hG]; decide
  clear hG gg
  have HKK := Lib.hid hk
  clear hk
  clear he hix hlow hsi nA nB eA eB
  go_enter Tryd.func8, Tryd.ntmps8
  go_wp2
  go_loop [4] (fun t => ∃ k : Nat, k ≤ i ∧ t = .int .i64 k) (fun t => s.size - (intOf t).toNat)
  case atStart => exact ⟨0, Nat.zero_le _, rfl⟩
  case round =>
    obtain ⟨k, hk, rfl⟩ := hrel
    by_cases hlt : k < i
    · have hks : k < s.size := by omega
      have hne := HLOW.out k hks hlt
      have hlt' : (k : Int) < s.size := by omega
      go_wp2
      go_round
      case rel => exact ⟨k + 1, by omega, by go_num⟩
      case measure => simp [intOf]; omega
    · obtain rfl : k = i := by omega
      have hlt' : (k : Int) < s.size := by omega
      go_wp2_with fail
      go_region
      have HS1 := Lib.hid HS0.out.drew
      have HX1 := Lib.hid (HB0.out.drew)
      go_wp2_with fail
      refine (HNA.out _).mono ?_
      rintro e w0 ⟨rfl, rfl⟩
      go_wp2_with fail
      refine (HNB.out _).mono ?_
      rintro e w0 ⟨rfl, rfl⟩
      go_wp2_with fail
      refine (HPA.out _).mono ?_
      rintro e w1 ⟨va, rfl, ha, hb⟩
      obtain ⟨ao, ac, rfl, -⟩ := ha.shape
      have HS2 := Lib.hid ((HS1.out.next hb).addDig ha)
      have HX2 := Lib.hid (HX1.out.trans (hb.mono HX1.out.size))
      clear hb ha
      go_wp2_with fail
      refine (HPB.out _).mono ?_
      rintro e w2 ⟨vz, rfl, hz, hb⟩
      obtain ⟨zo, zc, rfl, -⟩ := hz.shape
      have HS3 := Lib.hid ((HS2.out.next hb).addDig hz)
      have HX3 := Lib.hid (HX2.out.trans (hb.mono HX2.out.size))
      clear hb hz
      go_wp2_with fail
      refine (HG.out _ _ _ (HS3.out.dig _ (.tail _ (.head _))) (HS3.out.dig _ (.head _))).mono ?_
      rintro e w3 ⟨vg, rfl, hg, hb⟩
      obtain ⟨go, gc, rfl, -⟩ := hg.shape
      have HS4 := Lib.hid ((HS3.out.next hb).addDig hg)
      have HX4 := Lib.hid (HX3.out.trans (hb.mono HX3.out.size))
      clear hb hg
      go_wp2_with fail
      refine (Of_any 1 _ (by decide)).mono ?_
      rintro e w4 ⟨vo, rfl, ho, hb⟩
      obtain ⟨oo, oc, rfl, -⟩ := ho.shape
      have HS5 := Lib.hid ((HS4.out.next hb).addDig ho)
      have HX5 := Lib.hid (HX4.out.trans (hb.mono HX4.out.size))
      clear hb ho
      have HRC := Lib.hid (RCmp_any _ _ G 1 w4 (HS5.out.dig _ (.tail _ (.head _))) (HS5.out.dig _ (.head _)) (by omega) (by omega))
      have hkk := HKK.out
      generalize cmpN ((G : Nat) : Int) ((1 : Nat) : Int) = kk at *
      go_wp2_with fail
      refine HRC.out.mono ?_
      rintro e w5 ⟨rfl, q, rfl⟩
      have HS6 := Lib.hid (HS5.out.drewN q)
      have HX6 := Lib.hid (below_drewN HX5.out q)
      have d0 : (w4.drewN q).cell? ⟨w.heap.size, 0, none⟩ = some (.slice none 0 0) := (HX6.out.cell (p := ⟨w.heap.size, 0, none⟩) (by simp)).trans (World.cell?_alloc_at _ _ _ _ rfl)
      have g0 : (w4.drewN q).frozen? ⟨w.heap.size, 0, none⟩ = false := (HX6.out.frozen (p := ⟨w.heap.size, 0, none⟩) (by simp)).trans (World.frozen?_alloc_at _ _ _ _ rfl)
      have d1 : (w4.drewN q).cell? ⟨w.heap.size, 1, none⟩ = some (.slice none 0 0) := (HX6.out.cell (p := ⟨w.heap.size, 1, none⟩) (by simp)).trans (World.cell?_alloc_at _ _ _ _ rfl)
      have g1 : (w4.drewN q).frozen? ⟨w.heap.size, 1, none⟩ = false := (HX6.out.frozen (p := ⟨w.heap.size, 1, none⟩) (by simp)).trans (World.frozen?_alloc_at _ _ _ _ rfl)
      obtain ⟨e1, e2, t0, t1, e3⟩ := two_storeR (w := w) (B := w.heap.size) (HS6.out.dig _ (.tail _ (.tail _ (.tail _ (.head _))))) (HS6.out.dig _ (.tail _ (.tail _ (.head _)))) d0 d1 HS6.out.bel (Nat.le_refl _)
      have E1 := Lib.hid e1; have E2 := Lib.hid e2; have E3 := Lib.hid e3; have T0 := Lib.hid t0; have T1 := Lib.hid t1
      clear e1 e2 e3 t0 t1
      go_wp2
      have t0 := T0.out; have t1 := T1.out
      refine bodyPost_ret (v := .tuple #[.agg #[.slice ao (nd 65536 a) ac, .slice zo (nd 65536 b) zc], .int .i64 0]) (by simp [results, Tryd.results8, go_sem, t0, t1]) rfl ⟨_, _, rfl, E1.out, E2.out, E3.out⟩
end Go.Proofs.YteajinpfigejfaaDoor
namespace Go.Proofs.YteajinpfigejfaaDoor
open Go Go.RowKit Gu

/-- the slice lies in a block from base on, if it has a cell -/
def FR (base : Nat) (r : Value) (X : Nat) : Prop := ∀ bb o l c, r = .slice (some ⟨bb, o, none⟩) l c → 0 < X → base ≤ bb
theorem FR.mono {b b' : Nat} {r : Value} {X : Nat} (h : FR b' r X) (hb : b ≤ b') : FR b r X := fun bb o l c he h0 => Nat.le_trans hb (h bb o l c he h0)
theorem own_FR {k : IntKind} {B : Nat} {T : TypeId} {w : World} {base : Nat} {v : Value} {m x : Nat} (h : Own k B T w base v m x) (X : Nat) : FR base v X := by
  intro bb o l c he _
  rcases h.shape with ⟨rfl, _⟩ | ⟨g, cap, rfl, hb, _⟩
  · cases he
  · simp only [Value.slice.injEq, Option.some.injEq, Addr.mk.injEq, and_true] at he
    obtain ⟨⟨rfl, rfl⟩, _, _⟩ := he
    exact hb
theorem Trim_own_f (base k X : Nat) (v : Value) (w : World) (h : Own .i64 65536 3 w base v k X) (hX : X < 65536 ^ k) (hk : k ≤ 4611686018427387904) :
    Calls Tryd.prog 42 #[v] w fun e w' => ∃ r, e = .returned r ∧ R w' r X ∧ w = w' ∧ FR base r X := by
  rcases h.shape with ⟨rfl, rfl⟩ | ⟨g, cap, rfl, hb, _, hm, hc, hcell⟩
  · obtain rfl : X = 0 := by rw [Nat.pow_zero] at hX; omega
    exact (Trim_none w).mono fun e w' ⟨he, hw⟩ => ⟨_, he, IsN.zero _ _ _ _ _, hw, fun _ _ _ _ _ h0 => absurd h0 (Nat.lt_irrefl _)⟩
  · refine (Trim_any g k cap X w hcell hX hk hm).mono fun e w' ⟨he, hw⟩ => ⟨_, he, ?_, hw, ?_⟩
    · rw [← hw]
      rcases Nat.eq_zero_or_pos X with h0 | h0
      · subst h0; rw [nd_zero]; exact IsN.zero _ _ _ _ _
      · exact .inr ⟨h0, g, 0, cap, rfl, fun i hi => by rw [Nat.zero_add]; exact hcell i (Nat.lt_of_lt_of_le hi ((nd_le (by decide)).2 hX))⟩
    · intro bb o l c he _
      simp only [Value.slice.injEq, Option.some.injEq, Addr.mk.injEq, and_true] at he
      obtain ⟨⟨rfl, rfl⟩, _, _⟩ := he
      exact hb
/-- a store into another block leaves the number -/
theorem FR.setCell {r : Value} {X base g j : Nat} {w : World} {u : Value} (h : R w r X) (hf : FR base r X) (hg : g < base) : R (w.setCell ⟨g, j, none⟩ u) r X := by
  refine IsN.grown h (grownBy_setCell w g j u) (fun b o c l he h0 => ?_)
  have := hf b o l c
  have h1 := hf b o _ _ he h0
  omega
set_option maxHeartbeats 2000000 in
set_option maxRecDepth 100000 in
theorem RSub_f (v u : Value) (a b : Nat) (w : World) (hv : R w v a) (hu : R w u b) (ha : nd 65536 a ≤ 1048576) (hb : nd 65536 b ≤ 1048576) (hle : b ≤ a) :
    Calls Tryd.prog 72 #[v, u] w fun e w' => ∃ r, e = .returned r ∧ R w' r (a - b) ∧ Below w.heap.size w w' ∧ FR w.heap.size r (a - b) := by
  obtain ⟨i0, hi, hz0, hz1, hz2⟩ := info_parts Tryd.infoInt
  have hB : 2 ≤ 65536 := by decide
  obtain ⟨ao, ac, rfl, hcv⟩ := hv.shape
  obtain ⟨bo, bc, rfl, -⟩ := hu.shape
  have HU := Lib.hid hu
  have HC := Lib.hid hcv
  have HAB := Lib.hid hle
  clear hv hu hcv hle
  have HAl := Lib.hid (nd_lt hB a)
  have HNb : Hid (nd 65536 b ≤ 4611686018427387904) := by show _ ≤ _; omega
  generalize nd 65536 a = la at *
  obtain ⟨lb, hlb⟩ : ∃ lb, nd 65536 b = lb := ⟨_, rfl⟩
  rw [hlb] at hb HU ⊢
  clear hlb
  go_enter Tryd.func72, Tryd.ntmps72
  go_wp2
  go_loopg [5, 6, 7] la (fun m out c i wr => ∃ k X br : Nat, Hid (m + k = la) ∧ i = .int .i64 k ∧ c = .int .i64 br ∧ SbRel a b w k X br out wr)
  case atStart => exact ⟨0, 0, 0, rfl, rfl, rfl, by omega, by simp, by simp [Nat.mod_one], Own.nil _ _ _ _ _, Below.refl _ _⟩
  case round =>
    obtain ⟨k, X, br, HK, rfl, rfl, hrel⟩ := hrel
    have hkl : k ≤ la := by have := HK.out; omega
    obtain ⟨hbr, hX, hsum, hown, hbel⟩ := hrel
    by_cases hlt : k < la
    · have hlt' : (k : Int) < la := by omega
      have hB' := Lib.hid (fun q => Rat_any _ b k (wr.drewN q) (HU.out.below (below_drewN hbel q)) HNb.out)
      obtain ⟨gb, go, rfl, hca⟩ := HC.out k hlt
      have hca' : wr.cell? ⟨gb, go + k, none⟩ = some (.int .i64 (dg 65536 a k : Nat)) := by
        rw [hbel.cell (p := ⟨gb, go + k, none⟩) (World.block_lt_of_cell? _ _ hca)]; exact hca
      have hda := dg_lt (B := 65536) (by decide) a k
      have hdb := dg_lt (B := 65536) (by decide) b k
      obtain ⟨d, br', hd, hd1, hd2, hneg⟩ : ∃ d br' : Nat, d + dg 65536 b k + br = dg 65536 a k + 65536 * br' ∧ d < 65536 ∧ br' ≤ 1 ∧ ((br' = 1 ∧ (dg 65536 a k : Int) - (dg 65536 b k : Nat) - br < 0) ∨ (br' = 0 ∧ 0 ≤ (dg 65536 a k : Int) - (dg 65536 b k : Nat) - br)) := by
        by_cases h : dg 65536 b k + br ≤ dg 65536 a k
        · exact ⟨dg 65536 a k - dg 65536 b k - br, 0, by omega, by omega, by omega, .inr ⟨rfl, by omega⟩⟩
        · exact ⟨dg 65536 a k + 65536 - dg 65536 b k - br, 1, by omega, by omega, by omega, .inl ⟨rfl, by omega⟩⟩
      have HSR := Lib.hid (sub_round (B := 65536) hsum hd)
      have HPS := Lib.hid (pad_succ (by decide) hX hd1)
      have HLT2 := Lib.hid (snoc_lt hX hd1)
      have HB := Lib.hid hbel
      have hltw := hown.lt
      have HLT := Lib.hid hltw
      have hsz := hbel.size
      unfold Own at hown
      clear hbel hltw hsum hX hca
      generalize dg 65536 a k = da at *
      generalize dg 65536 b k = db at *
      rcases hneg with ⟨rfl, hneg⟩ | ⟨rfl, hneg⟩
      · go_wp2_with fail
        go_quiet ((go_at_call 69; exact Calls.quiet_of_same ((hB'.out _).mono fun _ _ ⟨h, h'⟩ => ⟨h, h'.symm⟩)))
        have hown' := ownsRow_below hown (below_drewN (Below.refl wr.heap.size wr) nq)
        have hsz2 : w.heap.size ≤ (wr.drewN nq).heap.size := by have := (below_drewN (Below.refl wr.heap.size wr) nq).size; omega
        have HB2 : Hid (Below w.heap.size w (wr.drewN nq)) := below_drewN HB.out nq
        have HLT3 := Lib.hid hown'.lt
        have HD : Hid (((d : Nat) : Int) = (da : Int) - db - br + 65536) := by show _ = _; omega
        generalize wr.drewN nq = wq at *
        go_wp2_with (at_builtin; refine wpList_append_own _ rfl _ _ 30 rfl w.heap.size 3 i0 (.int .i64 0) 1 8 Tryd.underlying30 hi hz0 hz1 hz2 rfl (by decide) _ _ _ rfl (hown'.alloc _) ⟨wq.heap.size, 0, none⟩ 1 1 [.int .i64 ((da : Int) - db - br + 65536)] rfl rfl ?c1 ?c2 ?c3 ?c4 ?c5 ?_)
        case c1 => exact cell_one_new _ _ _
        case c2 => intro u hu; simp at hu; subst hu; rfl
        case c3 => unfold maxLen; omega
        case c4 => omega
        case c5 => simp; omega
        intro v' w4 hown4 hgrow hnil
        have HFIN : Hid (SbRel a b w (k + 1) (X + 65536 ^ k * d) 1 v' w4) := by
          refine ⟨by omega, HLT2.out, HSR.out, ?_, ?_⟩
          · unfold Own
            rw [HPS.out, List.map_append]
            show w4.ownsRow _ _ _ _ _ (_ ++ [Value.int .i64 ((d : Nat) : Int)])
            rw [HD.out]
            exact hown4
          · refine Below.grown (HB2.out.alloc (by omega) _) hgrow (by simp; omega) ?_
            intro j hj
            exact (HLT3.out _ hj).1
        clear hown4 hgrow hnil
        go_wp2
        go_roundg (la - (k + 1))
        case measure => have := HK.out; omega
        case rel => exact ⟨k + 1, _, 1, by show _ = _; omega, by go_num, rfl, HFIN.out⟩
      · go_wp2_with fail
        go_quiet ((go_at_call 69; exact Calls.quiet_of_same ((hB'.out _).mono fun _ _ ⟨h, h'⟩ => ⟨h, h'.symm⟩)))
        have hown' := ownsRow_below hown (below_drewN (Below.refl wr.heap.size wr) nq)
        have hsz2 : w.heap.size ≤ (wr.drewN nq).heap.size := by have := (below_drewN (Below.refl wr.heap.size wr) nq).size; omega
        have HB2 : Hid (Below w.heap.size w (wr.drewN nq)) := below_drewN HB.out nq
        have HLT3 := Lib.hid hown'.lt
        have HD : Hid (((d : Nat) : Int) = (da : Int) - db - br) := by show _ = _; omega
        generalize wr.drewN nq = wq at *
        go_wp2_with (at_builtin; refine wpList_append_own _ rfl _ _ 30 rfl w.heap.size 3 i0 (.int .i64 0) 1 8 Tryd.underlying30 hi hz0 hz1 hz2 rfl (by decide) _ _ _ rfl (hown'.alloc _) ⟨wq.heap.size, 0, none⟩ 1 1 [.int .i64 ((da : Int) - db - br)] rfl rfl ?c1 ?c2 ?c3 ?c4 ?c5 ?_)
        case c1 => exact cell_one_new _ _ _
        case c2 => intro u hu; simp at hu; subst hu; rfl
        case c3 => unfold maxLen; omega
        case c4 => omega
        case c5 => simp; omega
        intro v' w4 hown4 hgrow hnil
        have HFIN : Hid (SbRel a b w (k + 1) (X + 65536 ^ k * d) 0 v' w4) := by
          refine ⟨by omega, HLT2.out, HSR.out, ?_, ?_⟩
          · unfold Own
            rw [HPS.out, List.map_append]
            show w4.ownsRow _ _ _ _ _ (_ ++ [Value.int .i64 ((d : Nat) : Int)])
            rw [HD.out]
            exact hown4
          · refine Below.grown (HB2.out.alloc (by omega) _) hgrow (by simp; omega) ?_
            intro j hj
            exact (HLT3.out _ hj).1
        clear hown4 hgrow hnil
        go_wp2
        go_roundg (la - (k + 1))
        case measure => have := HK.out; omega
        case rel => exact ⟨k + 1, _, 0, by show _ = _; omega, by go_num, rfl, HFIN.out⟩
    · obtain rfl : k = la := by omega
      have hb1 : b < 65536 ^ k := Nat.lt_of_le_of_lt HAB.out HAl.out
      rw [Nat.mod_eq_of_lt HAl.out, Nat.mod_eq_of_lt hb1] at hsum
      have hb0 : br = 0 := by
        rcases Nat.lt_or_ge br 1 with h | h
        · omega
        · have h1 : br = 1 := by omega
          subst h1
          have := HAB.out
          rw [Nat.mul_one] at hsum
          omega
      subst hb0
      have hXe : X = a - b := by rw [Nat.mul_zero] at hsum; omega
      subst hXe
      have HT := Lib.hid (Trim_own_f _ _ _ _ _ hown hX (by omega))
      have HB := Lib.hid hbel
      clear hown hbel hsum hX
      go_wp2_with fail
      refine HT.out.mono ?_
      rintro e w5 ⟨r, rfl, hr, rfl, hfrr⟩
      obtain ⟨ro, rc, rfl, -⟩ := hr.shape
      have HR := Lib.hid hr
      have HFR := Lib.hid hfrr
      clear hr hfrr
      go_wp2
      go_ret
      exact ⟨_, rfl, HR.out, HB.out, HFR.out⟩
set_option maxHeartbeats 2000000 in
set_option maxRecDepth 100000 in
theorem RAdd_f (v u : Value) (a b : Nat) (w : World) (hv : R w v a) (hu : R w u b) (ha : nd 65536 a ≤ 1048576) (hb : nd 65536 b ≤ 1048576) :
    Calls Tryd.prog 107 #[v, u] w fun e w' => ∃ r, e = .returned r ∧ R w' r (a + b) ∧ Below w.heap.size w w' ∧ FR w.heap.size r (a + b) := by
  obtain ⟨i0, hi, hz0, hz1, hz2⟩ := info_parts Tryd.infoInt
  have hB : 2 ≤ 65536 := by decide
  obtain ⟨ao, ac, rfl, -⟩ := hv.shape
  obtain ⟨bo, bc, rfl, -⟩ := hu.shape
  have HV := Lib.hid hv; have HU := Lib.hid hu
  clear hv hu
  have HAl := Lib.hid (nd_lt hB a); have HBl := Lib.hid (nd_lt hB b)
  have HNa : Hid (nd 65536 a ≤ 4611686018427387904) := by show _ ≤ _; omega
  have HNb : Hid (nd 65536 b ≤ 4611686018427387904) := by show _ ≤ _; omega
  obtain ⟨la, hla⟩ : ∃ la, nd 65536 a = la := ⟨_, rfl⟩
  obtain ⟨lb, hlb⟩ : ∃ lb, nd 65536 b = lb := ⟨_, rfl⟩
  have HLA := Lib.hid hla; have HLB := Lib.hid hlb
  rw [hla] at ha HV HAl ⊢
  rw [hlb] at hb HU HBl ⊢
  clear hla hlb
  obtain ⟨M, hM1, hM2, hM3⟩ : ∃ M, la ≤ M ∧ lb ≤ M ∧ (M = la ∨ M = lb) := ⟨max la lb, by omega, by omega, by omega⟩
  have HM3 := Lib.hid hM3
  have hM : M ≤ 1048576 := by omega
  clear hM3
  go_enter Tryd.func107, Tryd.ntmps107
  go_wp2
  go_loopg [5, 6, 7] (M + 1) (fun m out c i wr => ∃ k X cc : Nat, Hid (m + k = M + 1) ∧ i = .int .i64 k ∧ c = .int .i64 cc ∧ AddRel a b w k X cc out wr ∧ Hid (k ≤ M ∨ (65536 ^ M ≤ a + b ∧ cc = 0)))
  case atStart => exact ⟨0, 0, 0, rfl, rfl, rfl, ⟨by omega, by simp, by simp [Nat.mod_one], Own.nil _ _ _ _ _, Below.refl _ _⟩, .inl (Nat.zero_le _)⟩
  case round =>
    obtain ⟨k, X, c, HK, rfl, rfl, hrel, HKM⟩ := hrel
    have hc1 : c ≤ 1 := hrel.1
    have hk1 : k ≤ M + 1 := by have := HK.out; omega
    by_cases hcont : k < la ∨ k < lb ∨ 0 < c
    · have hkM : k ≤ M := by
        rcases HKM.out with h | ⟨_, h⟩
        · exact h
        · omega
      obtain ⟨-, hX, hsum, hown, hbel⟩ := hrel
      have hA := Lib.hid (Rat_any _ a k wr (HV.out.below hbel) HNa.out)
      have hB' := Lib.hid (Rat_any _ b k wr (HU.out.below hbel) HNb.out)
      have hda := dg_lt (B := 65536) (by decide) a k
      have hdb := dg_lt (B := 65536) (by decide) b k
      have hd : (c + dg 65536 a k + dg 65536 b k) % 65536 < 65536 := Nat.mod_lt _ (by decide)
      have HSR := Lib.hid (sum_round (B := 65536) hsum)
      have HPS := Lib.hid (pad_succ (by decide) hX hd)
      have HLT2 := Lib.hid (snoc_lt hX hd)
      have HKM2 : Hid (k + 1 ≤ M ∨ (65536 ^ M ≤ a + b ∧ (c + dg 65536 a k + dg 65536 b k) / 65536 = 0)) := by
        show _ ∨ _
        rcases Nat.lt_or_ge k M with h | h
        · exact .inl h
        · refine .inr ?_
          have hkM2 : k = M := by omega
          subst hkM2
          have h1 : a < 65536 ^ k := Nat.lt_of_lt_of_le HAl.out (Nat.pow_le_pow_right (by decide) hM1)
          have h2 : b < 65536 ^ k := Nat.lt_of_lt_of_le HBl.out (Nat.pow_le_pow_right (by decide) hM2)
          rw [Nat.mod_eq_of_lt h1, Nat.mod_eq_of_lt h2] at hsum
          have hcc : c = 1 := by omega
          subst hcc
          refine ⟨by omega, ?_⟩
          have h3 : dg 65536 a k = 0 := dg_high (by decide) h1 (Nat.le_refl _)
          have h4 : dg 65536 b k = 0 := dg_high (by decide) h2 (Nat.le_refl _)
          rw [h3, h4]
      have HB := Lib.hid hbel
      have hltw := hown.lt
      have HLT := Lib.hid hltw
      have hsz := hbel.size
      unfold Own at hown
      clear hbel hltw hsum hX
      generalize dg 65536 a k = da at *
      generalize dg 65536 b k = db at *
      have HE : Hid ((((c + da + db) % 65536 : Nat) : Int) = (c + (da + db) : Int) % 65536) := by show _ = _; omega
      have HE2 : Hid ((((c + da + db) / 65536 : Nat) : Int) = (c + (da + db) : Int) / 65536) := by show _ = _; omega
      have hcond : (k : Int) < la ∨ (¬ (k : Int) < la ∧ (k : Int) < lb) ∨ (¬ (k : Int) < la ∧ ¬ (k : Int) < lb ∧ (0 : Int) < c) := by omega
      clear hcont
      rcases hcond with hcond | ⟨hcond0, hcond⟩ | ⟨hcond0, hcond1, hcond⟩
      all_goals
        go_wp2_with fail
        refine hA.out.mono ?_
        rintro e w' ⟨rfl, rfl⟩
        go_wp2_with fail
        refine hB'.out.mono ?_
        rintro e w' ⟨rfl, rfl⟩
        go_wp2_with (at_builtin; refine wpList_append_own _ rfl _ _ 30 rfl w.heap.size 3 i0 (.int .i64 0) 1 8 Tryd.underlying30 hi hz0 hz1 hz2 rfl (by decide) _ _ _ rfl (hown.alloc _) ⟨wr.heap.size, 0, none⟩ 1 1 [.int .i64 ((c + (da + db) : Int) % 65536)] rfl rfl ?c1 ?c2 ?c3 ?c4 ?c5 ?_)
        case c1 => exact cell_one_new _ _ _
        case c2 => intro u hu; simp at hu; subst hu; rfl
        case c3 => unfold maxLen; omega
        case c4 => omega
        case c5 => simp; omega
        intro v' w4 hown4 hgrow hnil
        have HFIN : Hid (AddRel a b w (k + 1) (X + 65536 ^ k * ((c + da + db) % 65536)) ((c + da + db) / 65536) v' w4) := by
          refine ⟨by omega, HLT2.out, HSR.out, ?_, ?_⟩
          · unfold Own
            rw [HPS.out, List.map_append]
            show w4.ownsRow _ _ _ _ _ (_ ++ [Value.int .i64 (((c + da + db) % 65536 : Nat) : Int)])
            rw [HE.out]
            exact hown4
          · refine Below.grown (HB.out.alloc (by omega) _) hgrow (by simp; omega) ?_
            intro j hj
            exact (HLT.out _ hj).1
        clear hown4 hgrow hnil
        go_wp2
        go_roundg (M + 1 - (k + 1))
        case measure => have := HK.out; omega
        case rel => exact ⟨k + 1, _, _, by show _ = _; omega, by go_num, congrArg _ HE2.out.symm, HFIN.out, HKM2.out⟩
    · have hk : la ≤ k ∧ lb ≤ k ∧ c = 0 := by omega
      obtain ⟨hk2, hk3, hc0⟩ := hk
      subst hc0
      obtain ⟨-, hX, hsum, hown, hbel⟩ := hrel
      have h1 : a < 65536 ^ k := Nat.lt_of_lt_of_le HAl.out (Nat.pow_le_pow_right (by decide) hk2)
      have h2 : b < 65536 ^ k := Nat.lt_of_lt_of_le HBl.out (Nat.pow_le_pow_right (by decide) hk3)
      rw [Nat.mod_eq_of_lt h1, Nat.mod_eq_of_lt h2, Nat.mul_zero, Nat.add_zero] at hsum
      subst hsum
      have hnd : nd 65536 (a + b) = k := by
        refine add_len HLA.out HLB.out hX hk2 hk3 ?_
        rcases HKM.out with h | ⟨h, _⟩
        · have := HM3.out; omega
        · rcases Nat.lt_or_ge k (M + 1) with h' | h'
          · have := HM3.out; omega
          · have : k = M + 1 := by omega
            subst this
            exact .inr (.inr ⟨by omega, h⟩)
      have HIS := Lib.hid (hown.isN (by decide) hnd)
      have HFR := Lib.hid (own_FR hown (a + b))
      have HB := Lib.hid hbel
      have hn1 : ¬ (k : Int) < la := by omega
      have hn2 : ¬ (k : Int) < lb := by omega
      clear hX hown hbel hcont
      go_wp2
      go_ret
      exact ⟨_, rfl, HIS.out, HB.out, HFR.out⟩
set_option maxHeartbeats 2000000 in
set_option maxRecDepth 100000 in
theorem RShl_f (v : Value) (a n : Nat) (w : World) (hv : R w v a) (ha : nd 65536 a ≤ 500000) (hn : n ≤ 8000000) :
    Calls Tryd.prog 73 #[v, .int .i64 n] w fun e w' => ∃ r, e = .returned r ∧ R w' r (a * 2 ^ n) ∧ Below w.heap.size w w' ∧ FR w.heap.size r (a * 2 ^ n) := by
  obtain ⟨i0, hi, hz0, hz1, hz2⟩ := info_parts Tryd.infoInt
  have hB : 2 ≤ 65536 := by decide
  obtain ⟨ao, ac, rfl, hcv⟩ := hv.shape
  have HC := Lib.hid hcv
  clear hv hcv
  have HAl := Lib.hid (nd_lt hB a)
  generalize hna : nd 65536 a = la at *
  clear hna
  obtain ⟨wh, hwh⟩ : ∃ wh, wh = n / 16 := ⟨_, rfl⟩
  obtain ⟨s, hs⟩ : ∃ s, s = n % 16 := ⟨_, rfl⟩
  have hs16 : s < 16 := by omega
  have q1 : (n : Int) / 16 = wh := by omega
  have q2 : (n : Int) % 16 = s := by omega
  have HNW : Hid (n = 16 * wh + s) := by show _ = _; omega
  have hwl : wh ≤ 500000 := by omega
  clear hwh hs
  have hpp : 0 < 2 ^ s := Nat.pow_pos (by decide)
  have hpl : 2 ^ s ≤ 65536 := Nat.le_trans (Nat.pow_le_pow_right (by decide) (show s ≤ 16 by omega)) (by decide)
  have HP := Lib.hid (fun w => power_any s w (by omega))
  obtain ⟨p, hpe⟩ : ∃ p, p = 2 ^ s := ⟨_, rfl⟩
  have HPE := Lib.hid hpe
  rw [← hpe] at HP hpp hpl
  clear hpe
  have hmk := made_int wh (by omega)
  go_enter Tryd.func73, Tryd.ntmps73
  go_wp2_with fail
  refine (HP.out _).mono ?_
  rintro e w' ⟨rfl, rfl⟩
  have HPD : Hid (∀ c d : Nat, c < p → d < 65536 → c + d * p < 8589934592) := by
    intro c d h1 h2
    have h3 : d * p ≤ 65535 * 65536 := Nat.mul_le_mul (by omega) hpl
    omega
  go_wp2
  go_loopg [5, 6, 8] la (fun m out c x wr => ∃ k X cc : Nat, Hid (k + m = la) ∧ x = .int .i64 k ∧ c = .int .i64 cc ∧ RShlRel a s wh w k X cc out wr)
  case atStart => exact ⟨0, 0, 0, by show _ = _; omega, rfl, rfl, by rw [← HPE.out]; exact hpp, by simp, by simp [Nat.mod_one], by simpa using own_zeros wh (by omega), (Below.refl _ _).alloc (Nat.le_refl _) _⟩
  case round =>
    obtain ⟨k, X, c, HK, rfl, rfl, hc1, hX, hsum, hown, hbel⟩ := hrel
    have hkl : k ≤ la := by have := HK.out; omega
    rw [← HPE.out] at hc1 hsum
    by_cases hlt : k < la
    · have hlt' : (k : Int) < la := by omega
      obtain ⟨gb, go, rfl, hca⟩ := HC.out k hlt
      have hca' : wr.cell? ⟨gb, go + k, none⟩ = some (.int .i64 (dg 65536 a k : Nat)) := by
        rw [hbel.cell (p := ⟨gb, go + k, none⟩) (World.block_lt_of_cell? _ _ hca)]; exact hca
      have hda := dg_lt (B := 65536) (by decide) a k
      have hq := HPD.out c _ hc1 hda
      obtain ⟨q, hqe⟩ : ∃ q, q = c + dg 65536 a k * p := ⟨_, rfl⟩
      have hX2 : X + 65536 ^ k * (q % 65536) < 65536 ^ (k + 1) := snoc_lt hX (Nat.mod_lt _ (by decide))
      have hsum2 : (X + 65536 ^ k * (q % 65536)) + 65536 ^ (k + 1) * (q / 65536) = a % 65536 ^ (k + 1) * p := by rw [hqe]; exact shl_round hsum
      have hc2 : q / 65536 < p := by rw [hqe]; exact shl_carry hc1 hda
      have HPS := Lib.hid (pad_wh (wh := wh) hX (show q % 65536 < 65536 from Nat.mod_lt _ (by decide)))
      have HE : Hid (wrap64 ((c : Int) + wrap64 ((dg 65536 a k : Nat) * (p : Int))) = (q : Int)) := by
        show _ = _
        have hq2 := hqe
        have hq3 := hq
        rw [show ((dg 65536 a k : Nat) : Int) * (p : Int) = ((dg 65536 a k * p : Nat) : Int) from by simp]
        generalize dg 65536 a k * p = y at hq2 hq3 ⊢
        rw [IntWalk.wrap64_in (y : Int) (by omega), IntWalk.wrap64_in _ (by omega)]
        omega
      rw [← hqe] at hq
      have HS2 := Lib.hid (And.intro hc2 (And.intro hX2 hsum2))
      have HB := Lib.hid hbel
      have hltw := hown.lt
      have HLT := Lib.hid hltw
      have hsz := hbel.size
      unfold Own at hown
      have HONE : Hid (∀ x : Int, ∀ u ∈ [Value.int .i64 x], u.oneCell' = true) := by intro x u hu; simp at hu; subst hu; rfl
      clear hca hbel hltw hX hsum hqe hc2 hX2 hsum2
      generalize dg 65536 a k = da at *
      go_wp2_with (at_builtin; go_must (refine wpList_append_own _ rfl _ _ 30 rfl w.heap.size 3 i0 (.int .i64 0) 1 8 Tryd.underlying30 hi hz0 hz1 hz2 rfl (by decide) _ _ _ rfl (hown.alloc _) ⟨wr.heap.size, 0, none⟩ 1 1 [_] rfl rfl (cell_one_new _ _ _) (HONE.out _) ?c3 ?c4 ?c5 ?_))
      case c3 => unfold maxLen; omega
      case c4 => omega
      case c5 => simp; omega
      intro v' w4 hown4 hgrow hnil
      have hq0 : (q : Int).tmod 65536 = ((q % 65536 : Nat) : Int) := by rw [Int.tmod_eq_emod_of_nonneg (by omega)]; omega
      have hq4 : (q : Int).tdiv 65536 = ((q / 65536 : Nat) : Int) := by rw [Int.tdiv_eq_ediv_of_nonneg (by omega)]; omega
      have HFIN : Hid (RShlRel a s wh w (k + 1) (X + 65536 ^ k * (q % 65536)) (q / 65536) v' w4) := by
        rw [HE.out, hq0] at hown4
        refine ⟨by rw [← HPE.out]; exact HS2.out.1, HS2.out.2.1, by rw [← HPE.out]; exact HS2.out.2.2, ?_, ?_⟩
        · unfold Own
          rw [← Nat.add_assoc, HPS.out, List.map_append]
          exact hown4
        · refine Below.grown (HB.out.alloc (by omega) _) hgrow (by simp; omega) ?_
          intro j hj
          exact (HLT.out _ hj).1
      have HQ4 := Lib.hid hq4
      clear hown4 hgrow hnil hown hq0 hq4
      go_wp2
      rw [HE.out, HQ4.out]
      go_roundg (la - (k + 1))
      case measure => have := HK.out; omega
      case rel => exact ⟨k + 1, _, q / 65536, by have := HK.out; show _ = _; omega, by go_num, by first | rfl | (rw [IntWalk.wrap64_in _ (by omega)]) | go_num, HFIN.out⟩
    · obtain rfl : k = la := by omega
      have hnl : ¬ ((k : Int) < k) := by omega
      rw [Nat.mod_eq_of_lt HAl.out] at hsum
      have hval : 65536 ^ wh * (X + 65536 ^ k * c) = a * 2 ^ n := by
        rw [hsum, HPE.out, pow_n HNW.out, Nat.mul_left_comm]
      have hxl : a * 2 ^ n < 65536 ^ (wh + k + 1) := by
        rw [← hval, Nat.add_assoc, Nat.pow_add 65536 wh]
        exact Nat.mul_lt_mul_of_pos_left (snoc_lt hX (by omega)) (Nat.pow_pos (by decide))
      have HPS := Lib.hid (pad_wh (wh := wh) (d := c) hX (by omega))
      rw [hval] at HPS
      have HT := Lib.hid (fun v' w4 (h : Own .i64 65536 3 w4 w.heap.size v' (wh + k + 1) (a * 2 ^ n)) => Trim_own_f _ _ _ _ _ h hxl (by omega))
      have HB := Lib.hid hbel
      have hltw := hown.lt
      have HLT := Lib.hid hltw
      have hsz := hbel.size
      have HONE : Hid (∀ x : Int, ∀ u ∈ [Value.int .i64 x], u.oneCell' = true) := by intro x u hu; simp at hu; subst hu; rfl
      unfold Own at hown
      clear hbel hltw hX hsum hval hxl hlt
      go_wp2_with (at_builtin; go_must (refine wpList_append_own _ rfl _ _ 30 rfl w.heap.size 3 i0 (.int .i64 0) 1 8 Tryd.underlying30 hi hz0 hz1 hz2 rfl (by decide) _ _ _ rfl (hown.alloc _) ⟨wr.heap.size, 0, none⟩ 1 1 [_] rfl rfl (cell_one_new _ _ _) (HONE.out _) ?d3 ?d4 ?d5 ?_))
      case d3 => unfold maxLen; omega
      case d4 => omega
      case d5 => first | omega | (simp; omega)
      intro v' w4 hown4 hgrow hnil
      have HT2 : Hid (Below w.heap.size w w4) := by
        refine Below.grown (HB.out.alloc (by omega) _) hgrow (by simp; omega) ?_
        intro j hj
        exact (HLT.out _ hj).1
      have HO4 : Hid (Own .i64 65536 3 w4 w.heap.size v' (wh + k + 1) (a * 2 ^ n)) := by
        show Own _ _ _ _ _ _ _ _
        unfold Own
        rw [HPS.out, List.map_append]
        exact hown4
      clear hown4 hgrow hnil hown
      go_wp2_with fail
      refine (HT.out _ _ HO4.out).mono ?_
      rintro e w5 ⟨r, rfl, hr, rfl, hfrr⟩
      obtain ⟨ro, rc, rfl, -⟩ := hr.shape
      have HR := Lib.hid hr
      have HFR := Lib.hid hfrr
      clear hr hfrr
      go_wp2
      go_ret
      exact ⟨_, rfl, HR.out, HT2.out, HFR.out⟩
end Go.Proofs.YteajinpfigejfaaDoor
