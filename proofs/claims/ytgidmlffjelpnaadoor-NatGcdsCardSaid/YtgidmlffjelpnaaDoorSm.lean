/- The contract of the document's own Gcd, by halving and subtracting. -/
import Derived.Test.YtgidmlffjelpnaaDoorSf
import Derived.Test.YtgidmlffjelpnaaDoorSc
namespace Go.Proofs.YtgidmlffjelpnaaDoor
open Go Go.RowKit Gu

theorem low_dg (a : Nat) : dg 65536 a 0 % 2 = a % 2 := by
  unfold dg; rw [Nat.pow_zero, Nat.div_one]; omega
theorem gcd_two {a b : Nat} (h : (Nat.gcd a b) % 2 = 1) (ha : a % 2 = 0) : Nat.gcd (a / 2) b = Nat.gcd a b := by
  have e : a = 2 * (a / 2) := by omega
  have hc : Nat.Coprime 2 b := by
    have h1 : Nat.gcd 2 b ∣ 2 := Nat.gcd_dvd_left _ _
    have h2 : Nat.gcd 2 b ∣ Nat.gcd a b := Nat.dvd_gcd (Nat.dvd_trans h1 ⟨a / 2, e⟩) (Nat.gcd_dvd_right _ _)
    have h3 : Nat.gcd 2 b ≤ 2 := Nat.le_of_dvd (by decide) h1
    have h4 : 0 < Nat.gcd 2 b := Nat.gcd_pos_of_pos_left _ (by decide)
    rcases (show Nat.gcd 2 b = 1 ∨ Nat.gcd 2 b = 2 by omega) with h5 | h5
    · exact h5
    · rw [h5] at h2
      obtain ⟨c, hc⟩ := h2
      omega
  rw [show Nat.gcd a b = Nat.gcd (2 * (a / 2)) b from by rw [← e]]
  exact (Nat.Coprime.gcd_mul_left_cancel _ hc).symm
theorem gcd_kk {kk G' G m : Nat} (h : 2 ^ kk * G' = G) (h0 : 0 < G') (hG : G < 65536 ^ m) : kk ≤ 16 * m := by
  have e : 65536 ^ m = 2 ^ (16 * m) := by rw [Nat.pow_mul]
  have h1 : 2 ^ kk * 1 ≤ 2 ^ kk * G' := Nat.mul_le_mul_left _ h0
  rcases Nat.lt_or_ge (16 * m) kk with h2 | h2
  · have h3 : 2 ^ (16 * m) ≤ 2 ^ kk := Nat.pow_le_pow_right (by decide) (Nat.le_of_lt h2)
    omega
  · exact h2
theorem gcd_sub' {a b : Nat} (h : b ≤ a) : Nat.gcd (a - b) b = Nat.gcd a b := Nat.gcd_sub_self_left h
theorem nd_halve {a m : Nat} (h : nd 65536 a ≤ m) : nd 65536 (a / 2) ≤ m := Nat.le_trans (nd_mono (by decide) (Nat.div_le_self _ _)) h
/-- what the loops of Gcd keep -/
def GR (m G : Nat) (w : World) (A B : Nat) (x y : Value) (wr : World) : Prop :=
  R wr x A ∧ R wr y B ∧ nd 65536 A ≤ m ∧ nd 65536 B ≤ m ∧ 0 < B ∧ Nat.gcd A B = G ∧ Below w.heap.size w wr
theorem GR.next {m G : Nat} {w : World} {A B : Nat} {x y : Value} {wr wr' : World} (h : GR m G w A B x y wr) (hb : Below wr.heap.size wr wr') : GR m G w A B x y wr' := by
  obtain ⟨h1, h2, h3, h4, h5, h6, h7⟩ := h
  exact ⟨h1.below hb, h2.below hb, h3, h4, h5, h6, h7.trans (hb.mono h7.size)⟩
theorem R.low {w : World} {v : Value} {n : Nat} (h : R w v n) (h0 : 0 < n) : ∃ b o c, v = .slice (some ⟨b, o, none⟩) (nd 65536 n) c ∧ w.cell? ⟨b, o, none⟩ = some (.int .i64 (dg 65536 n 0)) ∧ 0 < nd 65536 n := by
  have hn := nd_pos (B := 65536) (by decide) h0
  rcases h with ⟨h1, _⟩ | ⟨_, b, o, c, hv, hc⟩
  · omega
  · exact ⟨b, o, c, hv, hc 0 hn, hn⟩
theorem RShr_half (v : Value) (a : Nat) (w : World) (hv : R w v a) (ha : nd 65536 a ≤ 1000) :
    Calls Tryd.prog 63 #[v, .int .i64 1] w fun e w' => ∃ r, e = .returned r ∧ R w' r (a / 2) ∧ Below w.heap.size w w' := by
  have h := RShr_any v a 1 w hv (by omega) (by decide)
  rw [Nat.pow_one] at h
  exact h
set_option maxHeartbeats 4000000 in
set_option maxRecDepth 100000 in
theorem RGcd_any (v u : Value) (a b : Nat) (w : World) (hv : R w v a) (hu : R w u b) (ha : nd 65536 a ≤ 1000) (hb : nd 65536 b ≤ 1000) :
    Calls Tryd.prog 25 #[v, u] w fun e w' => ∃ r, e = .returned r ∧ R w' r (Nat.gcd a b) ∧ Below w.heap.size w w' := by
  rcases Nat.eq_zero_or_pos a with h0 | h0
  · subst h0
    obtain ⟨ao, ac, rfl, -⟩ := hv.shape
    rw [nd_zero]
    rw [Nat.gcd_zero_left]
    have HU := Lib.hid hu
    clear hv hu
    go_enter Tryd.func25, Tryd.ntmps25
    go_wp2
    go_ret
    exact ⟨_, rfl, HU.out, Below.refl _ _⟩
  · rcases Nat.eq_zero_or_pos b with h1 | h1
    · subst h1
      obtain ⟨bo, bc, rfl, -⟩ := hu.shape
      obtain ⟨ab, ao, ac, rfl, -, hl⟩ := R.low hv h0
      rw [nd_zero]
      rw [Nat.gcd_zero_right]
      have HV := Lib.hid hv
      have hl' : ¬ (((nd 65536 a : Nat) : Int) = 0) := by omega
      clear hv hu hl
      generalize nd 65536 a = la at *
      go_enter Tryd.func25, Tryd.ntmps25
      go_wp2
      go_ret
      exact ⟨_, rfl, HV.out, Below.refl _ _⟩
    · have hm : (max (nd 65536 a) (nd 65536 b)) ≤ 1000 := by omega
      obtain ⟨m, hmm⟩ : ∃ m, m = max (nd 65536 a) (nd 65536 b) := ⟨_, rfl⟩
      have HG0 : Hid (GR m (Nat.gcd a b) w a b v u w) := ⟨hv, hu, by omega, by omega, h1, rfl, Below.refl _ _⟩
      have hm1000 : m ≤ 1000 := by omega
      obtain ⟨ab, ao, ac, rfl, -, hla⟩ := R.low hv h0
      obtain ⟨bb, bo, bc, rfl, -, hlb⟩ := R.low hu h1
      have hla' : ¬ (((nd 65536 a : Nat) : Int) = 0) := by omega
      have hlb' : ¬ (((nd 65536 b : Nat) : Int) = 0) := by omega
      have HGP : Hid (0 < Nat.gcd a b) := Nat.gcd_pos_of_pos_left _ h0
      obtain ⟨G, hG⟩ : ∃ G, G = Nat.gcd a b := ⟨_, rfl⟩
      rw [← hG] at HG0 HGP ⊢
      have HA0 := Lib.hid h0
      have HGL : Hid (G < 65536 ^ m) := by
        show G < _
        rw [hG]; exact Nat.lt_of_le_of_lt (Nat.gcd_le_left _ h0) ((nd_le (by decide)).1 (show nd 65536 a ≤ m by omega))
      clear hv hu hla hlb hmm hm ha hb hG
      have hqa : ((((nd 65536 a : Nat)) : Int) == 0) = false := beq_eq_false_iff_ne.2 hla'
      have hqb : ((((nd 65536 b : Nat)) : Int) == 0) = false := beq_eq_false_iff_ne.2 hlb'
      generalize hna : nd 65536 a = la at *
      generalize hnb : nd 65536 b = lb at *
      clear hna hnb
      go_enter Tryd.func25, Tryd.ntmps25
      go_wp2
      go_loopg [0, 1, 5] a (fun n x y k wr => ∃ B kk G' : Nat, k = .int .i64 kk ∧ 0 < n ∧ Hid (2 ^ kk * G' = G ∧ 0 < G') ∧ GR m G' w n B x y wr)
      case atStart => exact ⟨b, 0, G, rfl, HA0.out, ⟨by simp, HGP.out⟩, HG0.out⟩
      case round =>
        obtain ⟨B, kk, G', rfl, hn0, HKK, hgr⟩ := hrel
        have hk1 : kk ≤ 16000 := by have := gcd_kk HKK.out.1 HKK.out.2 HGL.out; omega
        obtain ⟨ab, ao, ac, rfl, hca, hla⟩ := R.low hgr.1 hn0
        obtain ⟨bb, bo, bc, rfl, hcb, hlb⟩ := R.low hgr.2.1 hgr.2.2.2.2.1
        have HGR := Lib.hid hgr
        have hla2 : (0 : Int) < ((nd 65536 gk : Nat) : Int) := by omega
        have hlb2 : (0 : Int) < ((nd 65536 B : Nat) : Int) := by omega
        have HDA := Lib.hid (low_dg gk); have HDB := Lib.hid (low_dg B)
        have hda := dg_lt (B := 65536) (by decide) gk 0
        have hdb := dg_lt (B := 65536) (by decide) B 0
        clear hgr
        by_cases hev : gk % 2 = 0 ∧ B % 2 = 0
        · obtain ⟨he1, he2⟩ := hev
          have q1 : (((dg 65536 gk 0 : Nat) : Int) % 2 == 0) = true := by have := HDA.out; simp; omega
          have q2 : (((dg 65536 B 0 : Nat) : Int) % 2 == 0) = true := by have := HDB.out; simp; omega
          have HSA := Lib.hid (RShr_half _ gk wr HGR.out.1 (by have := HGR.out.2.2.1; omega))
          have HB0 := Lib.hid (HGR.out.2.2.2.2.1)
          have HKK2 : Hid (∃ G2, 2 ^ (kk + 1) * G2 = G ∧ 0 < G2 ∧ Nat.gcd (gk / 2) (B / 2) = G2) := by
            refine ⟨_, ?_, ?_, rfl⟩
            · have h1 : Nat.gcd gk B = G' := HGR.out.2.2.2.2.2.1
              have h2 : Nat.gcd (2 * (gk / 2)) (2 * (B / 2)) = 2 * Nat.gcd (gk / 2) (B / 2) := Nat.gcd_mul_left _ _ _
              rw [show 2 * (gk / 2) = gk from by omega, show 2 * (B / 2) = B from by omega, h1] at h2
              rw [Nat.pow_succ, Nat.mul_assoc, ← h2]; exact HKK.out.1
            · exact Nat.gcd_pos_of_pos_left _ (by omega)
          have HG23 : Hid (gk / 2 < gk ∧ 0 < gk / 2 ∧ 0 < B / 2) := by have := HB0.out; show _ ∧ _; omega
          clear he1 he2
          generalize dg 65536 gk 0 = da at *
          generalize dg 65536 B 0 = db at *
          go_wp2_with fail
          refine HSA.out.mono ?_
          rintro e w2 ⟨r1, rfl, hr1, hb1⟩
          have HR1 := Lib.hid hr1; have HB1 := Lib.hid hb1
          have HSB := Lib.hid (RShr_half _ B w2 (HGR.out.2.1.below hb1) (by have := HGR.out.2.2.2.1; omega))
          clear hr1 hb1
          go_wp2_with fail
          refine HSB.out.mono ?_
          rintro e w3 ⟨r2, rfl, hr2, hb2⟩
          have HFIN : Hid (∃ G2, (2 ^ (kk + 1) * G2 = G ∧ 0 < G2) ∧ GR m G2 w (gk / 2) (B / 2) r1 r2 w3) := by
            obtain ⟨G2, e1, e2, e3⟩ := HKK2.out
            obtain ⟨h1, h2, h3, h4, h5, h6, h7⟩ := HGR.out
            exact ⟨G2, ⟨e1, e2⟩, HR1.out.below hb2, hr2, nd_halve h3, nd_halve h4, HG23.out.2.2, e3, (h7.trans (HB1.out.mono h7.size)).trans (hb2.mono (h7.trans (HB1.out.mono h7.size)).size)⟩
          clear hr2 hb2
          go_wp2
          go_roundg (gk / 2)
          case measure => exact HG23.out.1
          case rel =>
            obtain ⟨G2, h1, h2⟩ := HFIN.out
            exact ⟨B / 2, kk + 1, G2, by go_num, HG23.out.2.1, h1, h2⟩
        · have HODD : Hid (G' % 2 = 1) := by
            show _ = _
            have h6 : Nat.gcd gk B = G' := HGR.out.2.2.2.2.2.1
            rcases (show G' % 2 = 1 ∨ G' % 2 = 0 by omega) with h | h
            · exact h
            · exfalso
              have d2 : 2 ∣ G' := Nat.dvd_of_mod_eq_zero h
              have d3 : 2 ∣ gk := Nat.dvd_trans d2 (h6 ▸ Nat.gcd_dvd_left gk B)
              have d4 : 2 ∣ B := Nat.dvd_trans d2 (h6 ▸ Nat.gcd_dvd_right gk B)
              exact hev ⟨Nat.mod_eq_zero_of_dvd d3, Nat.mod_eq_zero_of_dvd d4⟩
          have HSTART := HGR
          have hq : ((((dg 65536 gk 0 : Nat) : Int) % 2 == 0) = false) ∨ ((((dg 65536 gk 0 : Nat) : Int) % 2 == 0) = true ∧ (((dg 65536 B 0 : Nat) : Int) % 2 == 0) = false) := by
            have e1 := HDA.out; have e2 := HDB.out
            rcases (show gk % 2 = 0 ∨ gk % 2 = 1 by omega) with h | h
            · right; have : ¬ B % 2 = 0 := fun h' => hev ⟨h, h'⟩
              constructor
              · simp; omega
              · simp; omega
            · left; simp; omega
          clear hev HDA HDB
          generalize dg 65536 gk 0 = da at *
          generalize dg 65536 B 0 = db at *
          rcases hq with q1 | ⟨q1, q2⟩
          all_goals
            go_wp2
            go_loopg [0, 1] (gk + B) (fun n x y wr => ∃ A C : Nat, Hid (n = A + C) ∧ GR m G' w A C x y wr)
            case atStart => exact ⟨gk, B, rfl, HSTART.out⟩
            case round =>
              obtain ⟨A, C, HN, hgr⟩ := hrel
              rcases Nat.eq_zero_or_pos A with hA | hA
              · subst hA
                obtain ⟨xo, xc, rfl, -⟩ := hgr.1.shape
                rw [nd_zero] at hgr ⊢
                have HC : Hid (C * 2 ^ kk = G) := by
                  show _ = _
                  have h := hgr.2.2.2.2.2.1
                  rw [Nat.gcd_zero_left] at h
                  rw [h, Nat.mul_comm]; exact HKK.out.1
                have HSH := Lib.hid (RShl_any _ C kk wr hgr.2.1 (by have := hgr.2.2.2.1; omega) (by omega))
                have HBE := Lib.hid hgr.2.2.2.2.2.2
                obtain ⟨yo, yc, rfl, -⟩ := hgr.2.1.shape
                rw [HC.out] at HSH
                clear hgr
                go_wp2_with fail
                refine HSH.out.mono ?_
                rintro e w5 ⟨r, rfl, hr, hb⟩
                have HR := Lib.hid hr
                have HB5 := Lib.hid (HBE.out.trans (hb.mono HBE.out.size))
                clear hr hb
                go_wp2
                go_ret
                exact ⟨_, rfl, HR.out, HB5.out⟩
              · obtain ⟨ab, ao, ac, rfl, -, hla⟩ := R.low hgr.1 hA
                obtain ⟨bb, bo, bc, rfl, -, hlb⟩ := R.low hgr.2.1 hgr.2.2.2.2.1
                have HGR2 := Lib.hid hgr
                have hla3 : (0 : Int) < ((nd 65536 A : Nat) : Int) := by omega
                have hdec : decide (0 < nd 65536 A) = true := decide_eq_true hla
                have HHA := Lib.hid hA
                have HHC := Lib.hid hgr.2.2.2.2.1
                clear hgr hla hlb
                obtain ⟨g2, rfl⟩ : ∃ g2, g2 = gk := ⟨_, rfl⟩
                go_wp2
                go_loopg [0] A (fun n x wr => 0 < n ∧ n ≤ A ∧ GR m G' w n C x (.slice (some ⟨bb, bo, none⟩) (nd 65536 C) bc) wr)
                case atStart => exact ⟨HHA.out, Nat.le_refl _, HGR2.out⟩
                case round =>
                  obtain ⟨hn, hnA, hgr⟩ := hrel
                  obtain ⟨A1, rfl⟩ : ∃ A1, A1 = gk := ⟨_, rfl⟩
                  obtain ⟨ab, ao, ac, rfl, hca, hla⟩ := R.low hgr.1 hn
                  have hla4 : (0 : Int) < ((nd 65536 A1 : Nat) : Int) := by omega
                  have HDA := Lib.hid (low_dg A1)
                  have hda := dg_lt (B := 65536) (by decide) A1 0
                  have HGR := Lib.hid hgr
                  clear hgr
                  by_cases hev : A1 % 2 = 0
                  · have q1 : (((dg 65536 A1 0 : Nat) : Int) % 2 == 0) = true := by have := HDA.out; simp; omega
                    have HSA := Lib.hid (RShr_half _ A1 wr HGR.out.1 (by have := HGR.out.2.2.1; omega))
                    have HEV := Lib.hid hev
                    clear hev HDA
                    generalize dg 65536 A1 0 = da at *
                    go_wp2_with fail
                    refine HSA.out.mono ?_
                    rintro e w2 ⟨r1, rfl, hr1, hb1⟩
                    have HFIN : Hid (GR m G' w (A1 / 2) C r1 (.slice (some ⟨bb, bo, none⟩) (nd 65536 C) bc) w2) := by
                      obtain ⟨h1, h2, h3, h4, h5, h6, h7⟩ := HGR.out
                      exact ⟨hr1, h2.below hb1, nd_halve h3, h4, h5, (gcd_two (by rw [h6]; exact HODD.out) HEV.out).trans h6, h7.trans (hb1.mono h7.size)⟩
                    have hd1 : A1 / 2 < A1 := by omega
                    have hd2 : 0 < A1 / 2 := by have := HEV.out; omega
                    have HDD : Hid (A1 / 2 < A1 ∧ 0 < A1 / 2 ∧ A1 / 2 ≤ A) := ⟨hd1, hd2, by omega⟩
                    clear hr1 hb1 hd1 hd2
                    go_wp2
                    go_roundg (A1 / 2)
                    case measure => exact HDD.out.1
                    case rel => exact ⟨HDD.out.2.1, HDD.out.2.2, HFIN.out⟩
                  · have q1 : (((dg 65536 A1 0 : Nat) : Int) % 2 == 0) = false := by have := HDA.out; simp; omega
                    have HEA := Lib.hid hev
                    clear hev HDA
                    generalize dg 65536 A1 0 = da at *
                    go_wp2
                    go_loopg [1] C (fun n y wr => 0 < n ∧ n ≤ C ∧ GR m G' w A1 n (.slice (some ⟨ab, ao, none⟩) (nd 65536 A1) ac) y wr)
                    case atStart => exact ⟨HHC.out, Nat.le_refl _, HGR.out⟩
                    case round =>
                      obtain ⟨hn2, hnC, hgr⟩ := hrel
                      obtain ⟨C1, rfl⟩ : ∃ C1, C1 = gk := ⟨_, rfl⟩
                      obtain ⟨bb, bo, bc, rfl, hcb, hlb⟩ := R.low hgr.2.1 hn2
                      have hlb4 : (0 : Int) < ((nd 65536 C1 : Nat) : Int) := by omega
                      have HDB := Lib.hid (low_dg C1)
                      have hdb := dg_lt (B := 65536) (by decide) C1 0
                      have HGR := Lib.hid hgr
                      clear hgr
                      by_cases hev : C1 % 2 = 0
                      · have q1 : (((dg 65536 C1 0 : Nat) : Int) % 2 == 0) = true := by have := HDB.out; simp; omega
                        have HSB := Lib.hid (RShr_half _ C1 wr HGR.out.2.1 (by have := HGR.out.2.2.2.1; omega))
                        have HEV := Lib.hid hev
                        clear hev HDB
                        generalize dg 65536 C1 0 = db at *
                        go_wp2_with fail
                        refine HSB.out.mono ?_
                        rintro e w2 ⟨r1, rfl, hr1, hb1⟩
                        have hd1 : C1 / 2 < C1 := by omega
                        have hd2 : 0 < C1 / 2 := by have := HEV.out; omega
                        have HDD : Hid (C1 / 2 < C1 ∧ 0 < C1 / 2 ∧ C1 / 2 ≤ C) := ⟨hd1, hd2, by omega⟩
                        have HFIN : Hid (GR m G' w A1 (C1 / 2) (.slice (some ⟨ab, ao, none⟩) (nd 65536 A1) ac) r1 w2) := by
                          obtain ⟨h1, h2, h3, h4, h5, h6, h7⟩ := HGR.out
                          exact ⟨h1.below hb1, hr1, h3, nd_halve h4, hd2, by rw [Nat.gcd_comm]; exact (gcd_two (by rw [Nat.gcd_comm, h6]; exact HODD.out) HEV.out).trans ((Nat.gcd_comm _ _).trans h6), h7.trans (hb1.mono h7.size)⟩
                        clear hr1 hb1 hd1 hd2
                        go_wp2
                        go_roundg (C1 / 2)
                        case measure => exact HDD.out.1
                        case rel => exact ⟨HDD.out.2.1, HDD.out.2.2, HFIN.out⟩
                      · have q1 : (((dg 65536 C1 0 : Nat) : Int) % 2 == 0) = false := by have := HDB.out; simp; omega
                        have HCM := Lib.hid (RCmp_any _ _ A1 C1 wr HGR.out.1 HGR.out.2.1 (by have := HGR.out.2.2.1; omega) (by have := HGR.out.2.2.2.1; omega))
                        clear hev HDB
                        generalize dg 65536 C1 0 = db at *
                        by_cases hle : C1 ≤ A1
                        · have hcm : (0 : Int) ≤ cmpN A1 C1 := by
                            rcases Nat.lt_or_eq_of_le hle with h | h
                            · rw [cmpN_gt (by omega)]; decide
                            · rw [cmpN_eq (by omega)]; decide
                          have HSU := Lib.hid (fun q => RSub_any _ _ A1 C1 (wr.drewN q) (HGR.out.1.below (below_drewN (Below.refl _ _) q)) (HGR.out.2.1.below (below_drewN (Below.refl _ _) q)) (by have := HGR.out.2.2.1; omega) (by have := HGR.out.2.2.2.1; omega) hle)
                          generalize cmpN A1 C1 = cc at *
                          have HLE := Lib.hid hle
                          clear hle
                          go_wp2_with fail
                          refine HCM.out.mono ?_
                          rintro e w3 ⟨rfl, q, rfl⟩
                          go_wp2_with fail
                          refine (HSU.out q).mono ?_
                          rintro e w4 ⟨r, rfl, hr, hb⟩
                          have HFIN : Hid (GR m G' w (A1 - C1) C1 r (.slice (some ⟨bb, bo, none⟩) (nd 65536 C1) bc) w4) := by
                            obtain ⟨h1, h2, h3, h4, h5, h6, h7⟩ := HGR.out
                            have hb2 := (below_drewN (Below.refl wr.heap.size wr) q).trans (hb.mono (below_drewN (Below.refl wr.heap.size wr) q).size)
                            exact ⟨hr, h2.below hb2, Nat.le_trans (nd_mono (by decide) (Nat.sub_le _ _)) h3, h4, h5, (gcd_sub' HLE.out).trans h6, h7.trans (hb2.mono h7.size)⟩
                          clear hr hb
                          go_wp2
                          go_roundg (A1 - C1 + C1)
                          case measure => have := HN.out; have := HHC.out; have := HLE.out; omega
                          case rel => exact ⟨A1 - C1, C1, rfl, HFIN.out⟩
                        · have hcm : cmpN A1 C1 < (0 : Int) := by rw [cmpN_lt (by omega)]; decide
                          have HSU := Lib.hid (fun q => RSub_any _ _ C1 A1 (wr.drewN q) (HGR.out.2.1.below (below_drewN (Below.refl _ _) q)) (HGR.out.1.below (below_drewN (Below.refl _ _) q)) (by have := HGR.out.2.2.2.1; omega) (by have := HGR.out.2.2.1; omega) (by omega))
                          generalize cmpN A1 C1 = cc at *
                          have HLE : Hid (A1 < C1) := by show _ < _; omega
                          clear hle
                          go_wp2_with fail
                          refine HCM.out.mono ?_
                          rintro e w3 ⟨rfl, q, rfl⟩
                          go_wp2_with fail
                          refine (HSU.out q).mono ?_
                          rintro e w4 ⟨r, rfl, hr, hb⟩
                          have HFIN : Hid (GR m G' w A1 (C1 - A1) (.slice (some ⟨ab, ao, none⟩) (nd 65536 A1) ac) r w4) := by
                            obtain ⟨h1, h2, h3, h4, h5, h6, h7⟩ := HGR.out
                            have hb2 := (below_drewN (Below.refl wr.heap.size wr) q).trans (hb.mono (below_drewN (Below.refl wr.heap.size wr) q).size)
                            exact ⟨h1.below hb2, hr, h3, Nat.le_trans (nd_mono (by decide) (Nat.sub_le _ _)) h4, by have := HLE.out; omega, (by rw [Nat.gcd_comm]; exact (gcd_sub' (Nat.le_of_lt HLE.out)).trans ((Nat.gcd_comm _ _).trans h6)), h7.trans (hb2.mono h7.size)⟩
                          clear hr hb
                          go_wp2
                          go_roundg (A1 + (C1 - A1))
                          case measure => have := HN.out; have := HHA.out; have := HLE.out; omega
                          case rel => exact ⟨A1, C1 - A1, rfl, HFIN.out⟩
end Go.Proofs.YtgidmlffjelpnaaDoor
