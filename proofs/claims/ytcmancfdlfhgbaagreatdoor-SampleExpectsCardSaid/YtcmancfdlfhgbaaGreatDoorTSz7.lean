/- Contracts and lemmas (several texts merged into one). -/
import Derived.Test.YtcmancfdlfhgbaaGreatDoorTSz3
import Derived.Test.YtcmancfdlfhgbaaGreatDoorTSz6
import Derived.Test.YtcmancfdlfhgbaaGreatDoorTSz1
import Derived.Test.YtcmancfdlfhgbaaGreatDoorTSz5
namespace Go.Proofs.YtcmancfdlfhgbaaGreatDoor
open Go Go.RowKit Gu

set_option maxHeartbeats 2000000 in
set_option maxRecDepth 100000 in
theorem told_ok (v u r s : Value) (P Q : Nat) (w : World) (hv : D w v P) (hu : D w u Q) (hr : R w r P) (hs : R w s Q) (hQ : 0 < Q) (h1 : nd 65536 P ≤ 5000) (h2 : nd 65536 Q ≤ 5000) (he : Env w) :
    Calls Tryz.prog 16 #[.agg #[v, u], .int .i64 0, .agg #[r, s]] w fun e w' => e = .returned (.bool true) ∧ Below w.heap.size w w' := by
  have k1 := nd_32 h1
  have k2 := nd_32 h2
  obtain ⟨W0, hW0⟩ : ∃ W0 : World, W0 = (w.alloc (.cells #[v, u] 31)).alloc (.cells #[r, s] 38) := ⟨_, rfl⟩
  have hz0 : W0.heap.size = w.heap.size + 2 := by rw [hW0]; simp
  have hbw : Below w.heap.size w W0 := by rw [hW0]; exact ((Below.refl _ _).alloc (Nat.le_refl _) _).alloc (by simp) _
  have hst0 : StS W0 v u r s P Q W0 := ⟨hv.below hbw, hu.below hbw, hr.below hbw, hs.below hbw, he.below hbw, Below.refl _ _⟩
  have ca : ∀ W, Below W0.heap.size W0 W → W.cell? ⟨w.heap.size, 0, none⟩ = some v ∧ W.cell? ⟨w.heap.size, 1, none⟩ = some u ∧ W.cell? ⟨w.heap.size + 1, 0, none⟩ = some r ∧ W.cell? ⟨w.heap.size + 1, 1, none⟩ = some s := fun W hb => by
    have e0 : W0.cell? ⟨w.heap.size, 0, none⟩ = some v := by rw [hW0]; exact (World.cell?_alloc_past _ _ _ (by simp)).trans (World.cell?_alloc_at _ _ _ _ rfl)
    have e1 : W0.cell? ⟨w.heap.size, 1, none⟩ = some u := by rw [hW0]; exact (World.cell?_alloc_past _ _ _ (by simp)).trans (World.cell?_alloc_at _ _ _ _ rfl)
    have e2 : W0.cell? ⟨w.heap.size + 1, 0, none⟩ = some r := by rw [hW0]; exact World.cell?_alloc_at _ _ _ _ (by simp)
    have e3 : W0.cell? ⟨w.heap.size + 1, 1, none⟩ = some s := by rw [hW0]; exact World.cell?_alloc_at _ _ _ _ (by simp)
    exact ⟨(hb.cell (p := ⟨w.heap.size, 0, none⟩) (by show w.heap.size < _; omega)).trans e0, (hb.cell (p := ⟨w.heap.size, 1, none⟩) (by show w.heap.size < _; omega)).trans e1, (hb.cell (p := ⟨w.heap.size + 1, 0, none⟩) (by show w.heap.size + 1 < _; omega)).trans e2, (hb.cell (p := ⟨w.heap.size + 1, 1, none⟩) (by show w.heap.size + 1 < _; omega)).trans e3⟩
  have HCA : Hid (∀ W, StS W0 v u r s P Q W → W.cell? ⟨w.heap.size, 0, none⟩ = some v ∧ W.cell? ⟨w.heap.size, 1, none⟩ = some u ∧ W.cell? ⟨w.heap.size + 1, 0, none⟩ = some r ∧ W.cell? ⟨w.heap.size + 1, 1, none⟩ = some s) := fun W h => ca W h.bel
  obtain ⟨S, hS⟩ : ∃ S : ByteArray, S = ⟨(fracText P Q).toArray⟩ := ⟨_, rfl⟩
  have HSA : Hid (∀ W, StS W0 v u r s P Q W → Calls Tryz.prog 28 #[.agg #[v, u]] W fun e w' => e = .returned (.string S) ∧ StS W0 v u r s P Q w') := fun W h => by
    have h3 := FracString_any v u P Q W h.n1 h.n2 (by omega) (by omega) h.env
    rw [dn_of hQ, ← hS] at h3
    exact h3.mono fun e w' ⟨he, hB⟩ => ⟨he, h.next hB⟩
  have HSB : Hid (∀ W, StS W0 v u r s P Q W → Calls Tryz.prog 41 #[.agg #[r, s]] W fun e w' => e = .returned (.string S) ∧ StS W0 v u r s P Q w') := fun W h => by
    rw [hS]
    exact (RFText_any r s P Q W h.d1 h.d2 (by omega) (by omega)).mono fun e w' ⟨he, hB⟩ => ⟨he, h.next hB⟩
  have HBW := Lib.hid hbw; have HW0 := Lib.hid hW0
  have hs2 := hst0.next ((Below.refl _ W0).drew)
  have hc0 := HCA.out _ hst0
  have hc2 := HCA.out _ hs2
  obtain ⟨ao, ac, rfl, -⟩ := hv.shape
  obtain ⟨bo, bc, rfl, -⟩ := hu.shape
  obtain ⟨ro, rc, rfl, -⟩ := hr.shape
  obtain ⟨so, sc, rfl, -⟩ := hs.shape
  clear hv hu hr hs hz0 hbw hW0 hS ca he k1 k2 h1 h2 hQ
  generalize nd 4294967296 P = la at *
  generalize nd 4294967296 Q = lb at *
  generalize nd 65536 P = lc at *
  generalize nd 65536 Q = ld at *
  go_enter Tryz.func16, Tryz.ntmps16
  go_wp2_with fail
  rw [← HW0.out]
  go_region_held3 (fun W : World => (W.cell? ⟨w.heap.size, 0, none⟩ = some (.slice ao la ac) ∧ W.cell? ⟨w.heap.size, 1, none⟩ = some (.slice bo lb bc) ∧ W.cell? ⟨w.heap.size + 1, 0, none⟩ = some (.slice ro lc rc) ∧ W.cell? ⟨w.heap.size + 1, 1, none⟩ = some (.slice so ld sc)) ∧ StS W0 (.slice ao la ac) (.slice bo lb bc) (.slice ro lc rc) (.slice so ld sc) P Q W) (first | (refine And.intro ?_ ?_ <;> assumption)) (first
    | (go_at_call 28; with_reducible refine (HSA.out _ ?h).mono ?_; (case h => assumption); rintro e w' ⟨rfl, hs'⟩; have hc' := HCA.out _ hs')
    | (go_at_call 41; with_reducible refine (HSB.out _ ?h).mono ?_; (case h => assumption); rintro e w' ⟨rfl, hs'⟩; have hc' := HCA.out _ hs'))
  all_goals
    have hT : StS W0 (.slice ao la ac) (.slice bo lb bc) (.slice ro lc rc) (.slice so ld sc) P Q w' := by assumption
    have HBE := Lib.hid (HBW.out.trans (hT.bel.mono HBW.out.size))
    clear hT
    go_wp2
    go_ret
    exact ⟨by simp, HBE.out⟩

theorem refused_ok (w : World) (he : Env w) :
    Calls Tryz.prog 15 #[.agg #[.slice none 0 0, .slice none 0 0], .int .i64 2] w fun e w' => e = .returned (.bool true) ∧ Below w.heap.size w w' := by
  have b1 : ∀ o, Below w.heap.size w (w.alloc o) := fun o => (Below.refl _ _).alloc (Nat.le_refl _) _
  have HST := Lib.hid (fun o => FracString_any (.slice none 0 0) (.slice none 0 0) 0 0 (w.alloc o) (IsN.zero _ _ _ _ _) (IsN.zero _ _ _ _ _) (by rw [nd_zero]; omega) (by rw [nd_zero]; omega) (he.below (b1 o)))
  rw [show dn 0 = 1 from rfl, fracText_zero] at HST
  have HB := Lib.hid b1
  clear b1 he
  go_enter Tryz.func15, Tryz.ntmps15
  go_wp2_with fail
  refine (HST.out _).mono ?_
  rintro e w1 ⟨rfl, hb⟩
  have HBE := Lib.hid ((HB.out _).trans (hb.mono (HB.out _).size))
  clear hb
  go_wp2
  go_ret
  exact ⟨by simp, HBE.out⟩
theorem n60 {x : Nat} (h : x ≤ 2 ^ 60) : nd 65536 x ≤ 4 := pow_nd16 (a := 61) (Nat.lt_of_le_of_lt h (by decide)) (by decide)
/-- the sum of the first terms, where the loop ends -/
theorem accS_end {b g n i : Nat} {c : Int} (h1 : i ≤ n + 1) (h2 : (i : Int) ≤ max 0 (c + 1)) (h : ¬ ((i : Int) ≤ c ∧ (i : Int) ≤ n)) : hsum b g n 0 i = accS b g n c := by
  unfold accS
  by_cases q : (i : Int) ≤ c
  · rw [show i = n + 1 by omega, ← hsum_full (m := (c + 1).toNat) (by omega)]
  · rw [show i = (c + 1).toNat by omega]
/-- what the loop of the document's Accept keeps -/
def RAccRel (b g n i : Nat) (w0 : World) (rv : Value) (wr : World) : Prop := R wr rv (hsum b g n 0 i) ∧ Below w0.heap.size w0 wr
set_option maxHeartbeats 4000000 in
set_option maxRecDepth 100000 in
theorem RAccept_any {b g n : Nat} {c : Int} {w : World} (hbg : b + g ≤ 60) (hn : n ≤ b + g) (hc : c ≤ 9223372036854775807) :
    Calls Tryz.prog 36 #[.int .i64 ((b + g : Nat) : Int), .int .i64 b, .int .i64 n, .int .i64 c] w fun e w' => ∃ r s, e = .returned (.agg #[r, s]) ∧ R w' r (lowP (accS b g n c) (pascalN (b + g) n)) ∧ R w' s (lowQ (accS b g n c) (pascalN (b + g) n)) ∧ Below w.heap.size w w' := by
  have HBI := Lib.hid (fun (x k : Nat) w (h : x ≤ 60) (hk : k ≤ 9223372036854775807) => RBinomial_any x k w (by omega) hk)
  have hp : ∀ x k, x ≤ 60 → pascalN x k ≤ 2 ^ 60 := fun x k h => Nat.le_trans (pascalN_le _ _) (Nat.pow_le_pow_right (by decide) h)
  have hsm : ∀ k, hsum b g n 0 k ≤ 2 ^ 60 := fun k => Nat.le_trans (hsum_le_all _ _ _ _) (hp _ _ hbg)
  have HMU := Lib.hid (fun (i : Nat) u v W (h1 : R W u (pascalN b i)) (h2 : R W v (pascalN g (n - i))) => RMul_any u v _ _ W h1 h2 (Nat.le_trans (n60 (hp _ _ (by omega))) (by decide)) (Nat.le_trans (n60 (hp _ _ (by omega))) (by decide)))
  have HAD := Lib.hid (fun (i : Nat) u v W (hi : i ≤ n) (h1 : R W u (hsum b g n 0 i)) (h2 : R W v (pascalN b i * pascalN g (n - i))) => RAdd_any u v _ _ W h1 h2 (Nat.le_trans (n60 (hsm _)) (by decide)) (Nat.le_trans (nd_rmul' (n60 (hp b i (by omega))) (n60 (hp g (n - i) (by omega)))) (by decide)))
  have hstep : ∀ i, i ≤ n → hsum b g n 0 i + pascalN b i * pascalN g (n - i) = hsum b g n 0 (i + 1) := fun i hi => by rw [hsum_succ, Nat.zero_add, hyp_of hi]
  have HST := Lib.hid hstep
  have HLO := Lib.hid (fun u v W (h1 : R W u (accS b g n c)) (h2 : R W v (pascalN (b + g) n)) => RLow_any u v _ _ W h1 h2 (pascalN_pos hn) (Nat.le_trans (n60 (hsm _)) (by decide)) (Nat.le_trans (n60 (hp _ _ hbg)) (by decide)))
  obtain ⟨w1, HW1⟩ : ∃ w1, w1 = w.alloc (.cells #[.slice none 0 0, .slice none 0 0] 38) := ⟨_, rfl⟩
  have hz : Bxs w.heap.size [.slice none 0 0, .slice none 0 0] w1 := by rw [HW1]; exact Bxs.new2 _ _ _ _
  have hbw : Below w.heap.size w w1 := by rw [HW1]; exact alloc1_below _ _
  have HZ := Lib.hid hz; have HBW := Lib.hid hbw; have HW1' := Lib.hid HW1
  have HR0 : Hid (RAccRel b g n 0 w1 (.slice none 0 0) w1) := ⟨IsN.zero _ _ _ _ _, Below.refl _ _⟩
  clear hz hbw HW1
  obtain ⟨lt, hlt⟩ : ∃ lt : Nat, lt = b + g := ⟨_, rfl⟩
  have HBT := Lib.hid (fun w => HBI.out lt n w (by omega) (by omega))
  rw [← hlt] at HLO hbg hn ⊢
  have hw : IntKind.i64.wrap ((lt : Int) - b) = (g : Int) := by rw [IntWalk.i64_in _ (by omega)]; omega
  have HW := Lib.hid hw
  have hb60 : b ≤ 60 := by omega
  have hg60 : g ≤ 60 := by omega
  have hn60 : n ≤ 60 := by omega
  clear hp hsm hstep hw hlt hbg hn
  go_enter Tryz.func36, Tryz.ntmps36
  go_wp2

  rw [← HW1'.out]
  go_loopw [9, 10] (fun rv t wr => ∃ i : Nat, i ≤ n + 1 ∧ (i : Int) ≤ max 0 (c + 1) ∧ t = .int .i64 i ∧ RAccRel b g n i w1 rv wr) (fun _ t _ => n + 1 - (intOf t).toNat)
  case atStart => exact ⟨0, Nat.zero_le _, by omega, rfl, HR0.out⟩
  case round =>
    obtain ⟨i, hi, hic, rfl, hrel⟩ := hrel
    have HR := Lib.hid hrel
    obtain ⟨r0, rc, rfl, -⟩ := hrel.1.shape
    clear hrel
    by_cases hlt2 : (i : Int) ≤ c ∧ (i : Int) ≤ n
    · obtain ⟨q1, q2⟩ := hlt2
      have hin : i ≤ n := by omega
      have HQ1 := Lib.hid q1
      have hwn : IntKind.i64.wrap ((n : Int) - i) = ((n - i : Nat) : Int) := by rw [IntWalk.i64_in _ (by omega)]; omega
      have HWN := Lib.hid hwn
      have HD1 := Lib.hid (HBI.out b i wr (by omega) (by omega))
      have HD2 := Lib.hid (fun W => HBI.out g (n - i) W (by omega) (by omega))
      have hww := HW.out
      go_wp2_with fail
      refine HD1.out.mono ?_
      rintro e w2 ⟨dv, rfl, hd, hb2⟩
      obtain ⟨d0, dc, rfl, -⟩ := hd.shape
      have HP2 := Lib.hid (HR.out.1.below hb2); have HDV := Lib.hid hd
      have HB2 := Lib.hid (HR.out.2.trans (hb2.mono HR.out.2.size))
      clear hd hb2 HD1
      go_wp2_with fail
      refine (HD2.out _).mono ?_
      rintro e w3 ⟨pv, rfl, hpv, hb3⟩
      obtain ⟨p0, pc, rfl, -⟩ := hpv.shape
      have HP3 := Lib.hid (HP2.out.below hb3)
      have HM := Lib.hid (HMU.out i _ _ _ (HDV.out.below hb3) hpv)
      have HB3 := Lib.hid (HB2.out.trans (hb3.mono HB2.out.size))
      clear hpv hb3 HP2 HDV HB2 HD2
      go_wp2_with fail
      refine HM.out.mono ?_
      rintro e w4 ⟨mv, rfl, hm, hb4⟩
      obtain ⟨m0, mc, rfl, -⟩ := hm.shape
      have HA := Lib.hid (HAD.out i _ _ _ hin (HP3.out.below hb4) hm)
      have HB4 := Lib.hid (HB3.out.trans (hb4.mono HB3.out.size))
      clear hm hb4 HP3 HM HB3
      go_wp2_with fail
      refine HA.out.mono ?_
      rintro e w5 ⟨av, rfl, ha, hb5⟩
      rw [HST.out i hin] at ha
      obtain ⟨a0, ac, rfl, -⟩ := ha.shape
      have HN : Hid (RAccRel b g n (i + 1) w1 (.slice a0 (nd 65536 (hsum b g n 0 (i + 1))) ac) w5) := ⟨ha, HB4.out.trans (hb5.mono HB4.out.size)⟩
      clear ha hb5 HA HB4 HR
      go_wp2
      go_roundw
      case rel => exact ⟨i + 1, by omega, by have := HQ1.out; omega, by go_num, HN.out⟩
      case measure => simp [intOf]; omega
    · have HV := accS_end (b := b) (g := g) hi hic hlt2
      have HRN := Lib.hid HR.out.1
      have HX : Hid (R wr (.slice r0 (nd 65536 (hsum b g n 0 i)) rc) (accS b g n c)) := by show R _ _ _; rw [← HV]; exact HR.out.1
      have HBR := Lib.hid HR.out.2
      clear HV HRN HR
      by_cases q1 : (i : Int) ≤ c
      · have q2 : ¬ (i : Int) ≤ n := fun q2 => hlt2 ⟨q1, q2⟩
        clear hlt2
        go_wp2_with fail
        refine (HBT.out _).mono ?_
        rintro e w2 ⟨dv, rfl, hd, hb2⟩
        obtain ⟨d0, dc, rfl, -⟩ := hd.shape
        have HL := Lib.hid (HLO.out _ _ _ (HX.out.below hb2) hd)
        have HB2 := Lib.hid (HBR.out.trans (hb2.mono HBR.out.size))
        clear hd hb2
        go_wp2_with fail
        refine HL.out.mono ?_
        rintro e w3 ⟨r, s, rfl, hr, hs, hb⟩
        obtain ⟨ro, rc2, rfl, -⟩ := hr.shape
        obtain ⟨so, sc2, rfl, -⟩ := hs.shape
        have hb3 := HB2.out.trans (hb.mono HB2.out.size)
        have hz := HZ.out.next hb3
        have d0' := hz.c0; have d1 := hz.c1; have g0 := hz.f0; have g1 := hz.f1
        obtain ⟨t0, t1⟩ := read_two d0' d1 (.slice ro (nd 65536 (lowP (accS b g n c) (pascalN lt n))) rc2) (.slice so (nd 65536 (lowQ (accS b g n c) (pascalN lt n))) sc2)
        have hX := IsN_setTwo hr d0' d1 (by intro d h; cases h) (by intro d h; cases h) (.slice ro (nd 65536 (lowP (accS b g n c) (pascalN lt n))) rc2) (.slice so (nd 65536 (lowQ (accS b g n c) (pascalN lt n))) sc2)
        have hY := IsN_setTwo hs d0' d1 (by intro d h; cases h) (by intro d h; cases h) (.slice ro (nd 65536 (lowP (accS b g n c) (pascalN lt n))) rc2) (.slice so (nd 65536 (lowQ (accS b g n c) (pascalN lt n))) sc2)
        have hBE := ((HBW.out.trans (hb3.mono HBW.out.size)).setCell (p := ⟨w.heap.size, 0, none⟩) (Nat.le_refl _) (.slice ro (nd 65536 (lowP (accS b g n c) (pascalN lt n))) rc2)).setCell (p := ⟨w.heap.size, 1, none⟩) (Nat.le_refl _) (.slice so (nd 65536 (lowQ (accS b g n c) (pascalN lt n))) sc2)
        generalize nd 65536 (lowP (accS b g n c) (pascalN lt n)) = lr at *
        generalize nd 65536 (lowQ (accS b g n c) (pascalN lt n)) = ls at *
        have HF := Lib.hid (show R _ _ _ ∧ R _ _ _ ∧ Below _ _ _ from ⟨hX, hY, hBE⟩)
        have T0 := Lib.hid t0; have T1 := Lib.hid t1
        clear hr hs hb hX hY hBE t0 t1 hz hb3
        go_wp2
        have t0 := T0.out; have t1 := T1.out
        refine bodyPost_ret (v := .agg #[.slice ro lr rc2, .slice so ls sc2]) (by simp [results, Tryz.results36, go_sem, t0, t1]) rfl ⟨_, _, rfl, HF.out⟩
      · clear hlt2
        go_wp2_with fail
        refine (HBT.out _).mono ?_
        rintro e w2 ⟨dv, rfl, hd, hb2⟩
        obtain ⟨d0, dc, rfl, -⟩ := hd.shape
        have HL := Lib.hid (HLO.out _ _ _ (HX.out.below hb2) hd)
        have HB2 := Lib.hid (HBR.out.trans (hb2.mono HBR.out.size))
        clear hd hb2
        go_wp2_with fail
        refine HL.out.mono ?_
        rintro e w3 ⟨r, s, rfl, hr, hs, hb⟩
        obtain ⟨ro, rc2, rfl, -⟩ := hr.shape
        obtain ⟨so, sc2, rfl, -⟩ := hs.shape
        have hb3 := HB2.out.trans (hb.mono HB2.out.size)
        have hz := HZ.out.next hb3
        have d0' := hz.c0; have d1 := hz.c1; have g0 := hz.f0; have g1 := hz.f1
        obtain ⟨t0, t1⟩ := read_two d0' d1 (.slice ro (nd 65536 (lowP (accS b g n c) (pascalN lt n))) rc2) (.slice so (nd 65536 (lowQ (accS b g n c) (pascalN lt n))) sc2)
        have hX := IsN_setTwo hr d0' d1 (by intro d h; cases h) (by intro d h; cases h) (.slice ro (nd 65536 (lowP (accS b g n c) (pascalN lt n))) rc2) (.slice so (nd 65536 (lowQ (accS b g n c) (pascalN lt n))) sc2)
        have hY := IsN_setTwo hs d0' d1 (by intro d h; cases h) (by intro d h; cases h) (.slice ro (nd 65536 (lowP (accS b g n c) (pascalN lt n))) rc2) (.slice so (nd 65536 (lowQ (accS b g n c) (pascalN lt n))) sc2)
        have hBE := ((HBW.out.trans (hb3.mono HBW.out.size)).setCell (p := ⟨w.heap.size, 0, none⟩) (Nat.le_refl _) (.slice ro (nd 65536 (lowP (accS b g n c) (pascalN lt n))) rc2)).setCell (p := ⟨w.heap.size, 1, none⟩) (Nat.le_refl _) (.slice so (nd 65536 (lowQ (accS b g n c) (pascalN lt n))) sc2)
        generalize nd 65536 (lowP (accS b g n c) (pascalN lt n)) = lr at *
        generalize nd 65536 (lowQ (accS b g n c) (pascalN lt n)) = ls at *
        have HF := Lib.hid (show R _ _ _ ∧ R _ _ _ ∧ Below _ _ _ from ⟨hX, hY, hBE⟩)
        have T0 := Lib.hid t0; have T1 := Lib.hid t1
        clear hr hs hb hX hY hBE t0 t1 hz hb3
        go_wp2
        have t0 := T0.out; have t1 := T1.out
        refine bodyPost_ret (v := .agg #[.slice ro lr rc2, .slice so ls sc2]) (by simp [results, Tryz.results36, go_sem, t0, t1]) rfl ⟨_, _, rfl, HF.out⟩
end Go.Proofs.YtcmancfdlfhgbaaGreatDoor
namespace Go.Proofs.YtcmancfdlfhgbaaGreatDoor
open Go Go.RowKit Gu

/-- what a region over two fractions of the document keeps: their boxes are the call's first blocks -/
structure StG (w : World) (v u x y : Value) (a b c d : Nat) (W : World) : Prop where
  n1 : R W v a
  n2 : R W u b
  n3 : R W x c
  n4 : R W y d
  bel : Below w.heap.size w W
  lt : w.heap.size + 1 < W.heap.size
  c : W.cell? ⟨w.heap.size, 0, none⟩ = some v ∧ W.cell? ⟨w.heap.size, 1, none⟩ = some u ∧ W.cell? ⟨w.heap.size + 1, 0, none⟩ = some x ∧ W.cell? ⟨w.heap.size + 1, 1, none⟩ = some y
theorem StG.next {w W W' : World} {v u x y : Value} {a b c d : Nat} (h : StG w v u x y a b c d W) (hb : Below W.heap.size W W') : StG w v u x y a b c d W' := by
  have hl := h.lt
  obtain ⟨e0, e1, e2, e3⟩ := h.c
  exact ⟨h.n1.below hb, h.n2.below hb, h.n3.below hb, h.n4.below hb, h.bel.trans (hb.mono h.bel.size), Nat.lt_of_lt_of_le hl hb.size,
    (hb.cell (p := ⟨w.heap.size, 0, none⟩) (by show w.heap.size < _; omega)).trans e0, (hb.cell (p := ⟨w.heap.size, 1, none⟩) (by show w.heap.size < _; omega)).trans e1, (hb.cell (p := ⟨w.heap.size + 1, 0, none⟩) hl).trans e2, (hb.cell (p := ⟨w.heap.size + 1, 1, none⟩) hl).trans e3⟩
theorem StG.start {w : World} {v u x y : Value} {a b c d : Nat} (hv : R w v a) (hu : R w u b) (hx : R w x c) (hy : R w y d) : StG w v u x y a b c d ((w.alloc (.cells #[v, u] 38)).alloc (.cells #[x, y] 38)) := by
  have b2 : Below w.heap.size w ((w.alloc (.cells #[v, u] 38)).alloc (.cells #[x, y] 38)) := ((Below.refl _ _).alloc (Nat.le_refl _) _).alloc (by simp) _
  exact ⟨hv.below b2, hu.below b2, hx.below b2, hy.below b2, b2, by simp, (World.cell?_alloc_past _ _ _ (by simp)).trans (World.cell?_alloc_at _ _ _ _ rfl), (World.cell?_alloc_past _ _ _ (by simp)).trans (World.cell?_alloc_at _ _ _ _ rfl), World.cell?_alloc_at _ _ _ _ (by simp), World.cell?_alloc_at _ _ _ _ (by simp)⟩
/-- and a box for the result behind them -/
structure StGr (w : World) (v u x y : Value) (a b c d : Nat) (W : World) : Prop where
  g : StG w v u x y a b c d W
  lt : w.heap.size + 1 + 1 < W.heap.size
  r0 : ∃ o l k, W.cell? ⟨w.heap.size + 1 + 1, 0, none⟩ = some (.slice o l k)
  r1 : ∃ o l k, W.cell? ⟨w.heap.size + 1 + 1, 1, none⟩ = some (.slice o l k)
  z0 : W.frozen? ⟨w.heap.size + 1 + 1, 0, none⟩ = false
  z1 : W.frozen? ⟨w.heap.size + 1 + 1, 1, none⟩ = false
theorem StGr.next {w W W' : World} {v u x y : Value} {a b c d : Nat} (h : StGr w v u x y a b c d W) (hb : Below W.heap.size W W') : StGr w v u x y a b c d W' := by
  obtain ⟨o0, l0, k0, e0⟩ := h.r0
  obtain ⟨o1, l1, k1, e1⟩ := h.r1
  exact ⟨h.g.next hb, Nat.lt_of_lt_of_le h.lt hb.size, ⟨o0, l0, k0, (hb.cell (p := ⟨w.heap.size + 1 + 1, 0, none⟩) h.lt).trans e0⟩, ⟨o1, l1, k1, (hb.cell (p := ⟨w.heap.size + 1 + 1, 1, none⟩) h.lt).trans e1⟩,
    (hb.frozen (p := ⟨w.heap.size + 1 + 1, 0, none⟩) h.lt).trans h.z0, (hb.frozen (p := ⟨w.heap.size + 1 + 1, 1, none⟩) h.lt).trans h.z1⟩
theorem StGr.start {w : World} {v u x y : Value} {a b c d : Nat} (hv : R w v a) (hu : R w u b) (hx : R w x c) (hy : R w y d) : StGr w v u x y a b c d (((w.alloc (.cells #[v, u] 38)).alloc (.cells #[x, y] 38)).alloc (.cells #[.slice none 0 0, .slice none 0 0] 38)) :=
  ⟨(StG.start hv hu hx hy).next ((Below.refl _ _).alloc (Nat.le_refl _) _), by simp, ⟨none, 0, 0, World.cell?_alloc_at _ _ _ _ (by simp)⟩, ⟨none, 0, 0, World.cell?_alloc_at _ _ _ _ (by simp)⟩, World.frozen?_alloc_at _ _ _ _ (by simp), World.frozen?_alloc_at _ _ _ _ (by simp)⟩
/-- what the store of the result leaves -/
theorem StGr.done {w W : World} {v u x y : Value} {a b c d P Q : Nat} (h : StGr w v u x y a b c d W) {ro so : Option Addr} {rl rc sl sc : Nat} (hr : R W (.slice ro rl rc) P ∧ R W (.slice so sl sc) Q) :
    let W2 := (W.setCell ⟨w.heap.size + 1 + 1, 0, none⟩ (.slice ro rl rc)).setCell ⟨w.heap.size + 1 + 1, 1, none⟩ (.slice so sl sc)
    R W2 (.slice ro rl rc) P ∧ R W2 (.slice so sl sc) Q ∧ W2.cell? ⟨w.heap.size + 1 + 1, 0, none⟩ = some (.slice ro rl rc) ∧ W2.cell? ⟨w.heap.size + 1 + 1, 1, none⟩ = some (.slice so sl sc) ∧ Below w.heap.size w W2 := by
  obtain ⟨o0, l0, k0, d0⟩ := h.r0
  obtain ⟨o1, l1, k1, d1⟩ := h.r1
  obtain ⟨t0, t1⟩ := read_two d0 d1 (.slice ro rl rc) (.slice so sl sc)
  exact ⟨IsN_setTwo hr.1 d0 d1 (by intro d h; cases h) (by intro d h; cases h) _ _, IsN_setTwo hr.2 d0 d1 (by intro d h; cases h) (by intro d h; cases h) _ _, t0, t1, (h.g.bel.setCell (by show w.heap.size ≤ w.heap.size + 1 + 1; omega) _).setCell (by show w.heap.size ≤ w.heap.size + 1 + 1; omega) _⟩
theorem StGr.set {w W : World} {v u x y : Value} {a b c d : Nat} (h : StGr w v u x y a b c d W) (ro so : Option Addr) (rl rc sl sc : Nat) :
    StGr w v u x y a b c d ((W.setCell ⟨w.heap.size + 1 + 1, 0, none⟩ (.slice ro rl rc)).setCell ⟨w.heap.size + 1 + 1, 1, none⟩ (.slice so sl sc)) := by
  obtain ⟨o0, l0, k0, d0⟩ := h.r0
  obtain ⟨o1, l1, k1, d1⟩ := h.r1
  obtain ⟨t0, t1⟩ := read_two d0 d1 (.slice ro rl rc) (.slice so sl sc)
  have hk : ∀ {z : Value} {n : Nat}, R W z n → R ((W.setCell ⟨w.heap.size + 1 + 1, 0, none⟩ (.slice ro rl rc)).setCell ⟨w.heap.size + 1 + 1, 1, none⟩ (.slice so sl sc)) z n := fun hz => IsN_setTwo hz d0 d1 (by intro d e; cases e) (by intro d e; cases e) _ _
  have far : ∀ j o, j < w.heap.size + 1 + 1 → ((W.setCell ⟨w.heap.size + 1 + 1, 0, none⟩ (.slice ro rl rc)).setCell ⟨w.heap.size + 1 + 1, 1, none⟩ (.slice so sl sc)).cell? ⟨j, o, none⟩ = W.cell? ⟨j, o, none⟩ := fun j o hj => by
    rw [World.cell?_setCell_far _ _ _ _ (by show w.heap.size + 1 + 1 ≠ j; omega), World.cell?_setCell_far _ _ _ _ (by show w.heap.size + 1 + 1 ≠ j; omega)]
  obtain ⟨e0, e1, e2, e3⟩ := h.g.c
  refine ⟨⟨hk h.g.n1, hk h.g.n2, hk h.g.n3, hk h.g.n4, (h.g.bel.setCell (by show w.heap.size ≤ w.heap.size + 1 + 1; omega) _).setCell (by show w.heap.size ≤ w.heap.size + 1 + 1; omega) _, by rw [World.size_setCell, World.size_setCell]; exact h.g.lt, (far _ _ (by omega)).trans e0, (far _ _ (by omega)).trans e1, (far _ _ (by omega)).trans e2, (far _ _ (by omega)).trans e3⟩, by rw [World.size_setCell, World.size_setCell]; exact h.lt, ⟨_, _, _, t0⟩, ⟨_, _, _, t1⟩, ?_, ?_⟩
  · have := h.z0; simpa using this
  · have := h.z1; simpa using this
set_option maxHeartbeats 4000000 in
set_option maxRecDepth 100000 in
theorem RFCmp_any (v u x y : Value) (a b c d : Nat) (w : World) (hv : R w v a) (hu : R w u b) (hx : R w x c) (hy : R w y d) (_hb0 : 0 < b) (_hd0 : 0 < d) (ha : nd 65536 a ≤ 200) (hb : nd 65536 b ≤ 200) (hc : nd 65536 c ≤ 200) (hd : nd 65536 d ≤ 200) :
    Calls Tryz.prog 37 #[.agg #[v, u], .agg #[x, y]] w fun e w' => e = .returned (.int .i64 (cmpN ((a * d : Nat) : Int) ((c * b : Nat) : Int))) ∧ Below w.heap.size w w' := by
  have hst0 := StG.start hv hu hx hy
  obtain ⟨W0, hW0⟩ : ∃ W0 : World, W0 = (w.alloc (.cells #[v, u] 38)).alloc (.cells #[x, y] 38) := ⟨_, rfl⟩
  rw [← hW0] at hst0
  have g0 := nd_rmul ha hd
  have HM0 : Hid (∀ W, StG w v u x y a b c d W → Calls Tryz.prog 48 #[v, y] W fun e w' => ∃ o l k, e = .returned (.slice o l k) ∧ R w' (.slice o l k) (a * d) ∧ Below W.heap.size W w' ∧ StG w v u x y a b c d w') := fun W h =>
    (RMul_any _ _ _ _ W h.n1 h.n4 (by omega) (by omega)).mono fun e w' ⟨r, he, hr, hB⟩ => by
      obtain ⟨ro, rc, rfl, -⟩ := hr.shape
      exact ⟨ro, _, rc, he, hr, hB, h.next hB⟩
  have g1 := nd_rmul hc hb
  have HM1 : Hid (∀ W, StG w v u x y a b c d W → Calls Tryz.prog 48 #[x, u] W fun e w' => ∃ o l k, e = .returned (.slice o l k) ∧ R w' (.slice o l k) (c * b) ∧ Below W.heap.size W w' ∧ StG w v u x y a b c d w') := fun W h =>
    (RMul_any _ _ _ _ W h.n3 h.n2 (by omega) (by omega)).mono fun e w' ⟨r, he, hr, hB⟩ => by
      obtain ⟨ro, rc, rfl, -⟩ := hr.shape
      exact ⟨ro, _, rc, he, hr, hB, h.next hB⟩
  have HCM : Hid (∀ W p q, StG w v u x y a b c d W → R W p (a * d) → R W q (c * b) → Calls Tryz.prog 67 #[p, q] W fun e w' => e = .returned (.int .i64 (cmpN ((a * d : Nat) : Int) ((c * b : Nat) : Int))) ∧ StG w v u x y a b c d w') := fun W p q h hp hq =>
    (RCmp_any p q _ _ W hp hq (by omega) (by omega)).mono fun e w' ⟨he, k, hw⟩ => ⟨he, by rw [hw]; exact h.next (below_drewN (Below.refl _ _) k)⟩
  have HCC : Hid (∀ W, StG w v u x y a b c d W → W.cell? ⟨w.heap.size, 0, none⟩ = some v ∧ W.cell? ⟨w.heap.size, 1, none⟩ = some u ∧ W.cell? ⟨w.heap.size + 1, 0, none⟩ = some x ∧ W.cell? ⟨w.heap.size + 1, 1, none⟩ = some y) := fun W h => h.c
  obtain ⟨ao, ac, rfl, -⟩ := hv.shape
  obtain ⟨bo, bc, rfl, -⟩ := hu.shape
  obtain ⟨co, cc, rfl, -⟩ := hx.shape
  obtain ⟨eo, ec, rfl, -⟩ := hy.shape
  have hs2 := hst0.next ((Below.refl _ _).drew)
  have hc0 := HCC.out _ hst0
  have hc2 := HCC.out _ hs2
  have HW0 := Lib.hid hW0
  clear hv hu hx hy hW0 _hb0 _hd0 ha hb hc hd g0 g1
  generalize cmpN ((a * d : Nat) : Int) ((c * b : Nat) : Int) = kk at *
  generalize a * d = N0 at *
  generalize c * b = N1 at *
  generalize nd 65536 a = la at *
  generalize nd 65536 b = lb at *
  generalize nd 65536 c = lc at *
  generalize nd 65536 d = ld at *
  go_enter Tryz.func37, Tryz.ntmps37
  go_wp2_with fail
  rw [← HW0.out]
  go_region_held3 (fun W : World => (W.cell? ⟨w.heap.size, 0, none⟩ = some (.slice ao la ac) ∧ W.cell? ⟨w.heap.size, 1, none⟩ = some (.slice bo lb bc) ∧ W.cell? ⟨w.heap.size + 1, 0, none⟩ = some (.slice co lc cc) ∧ W.cell? ⟨w.heap.size + 1, 1, none⟩ = some (.slice eo ld ec)) ∧ StG w (.slice ao la ac) (.slice bo lb bc) (.slice co lc cc) (.slice eo ld ec) a b c d W) (first | (refine And.intro ?_ ?_ <;> assumption)) (first
    | (go_at_call 48; with_reducible refine (HM0.out _ ?h).mono ?_; (case h => assumption); rintro e w' ⟨o1, l1, k1, rfl, hr', hB', hs'⟩; have hc' := HCC.out _ hs')
    | (go_at_call 48; with_reducible refine (HM1.out _ ?h).mono ?_; (case h => assumption); rintro e w' ⟨o1, l1, k1, rfl, hr', hB', hs'⟩; have hc' := HCC.out _ hs')
    | (go_at_call 67; with_reducible refine (HCM.out _ _ _ ?h ?r ?r2).mono ?_; (case h => assumption); (case r => first | assumption | exact rchain (by assumption) (by assumption) | exact rchain (by assumption) (rchain (by assumption) (by assumption)) | exact rchain (by assumption) (rchain (by assumption) (rchain (by assumption) (by assumption)))); (case r2 => first | assumption | exact rchain (by assumption) (by assumption) | exact rchain (by assumption) (rchain (by assumption) (by assumption)) | exact rchain (by assumption) (rchain (by assumption) (rchain (by assumption) (by assumption)))); rintro e w' ⟨rfl, hs'⟩; have hc' := HCC.out _ hs'))
  all_goals
    have hT : StG w (.slice ao la ac) (.slice bo lb bc) (.slice co lc cc) (.slice eo ld ec) a b c d w' := by assumption
    have HBE := Lib.hid hT.bel
    clear hT
    go_wp2
    go_ret
    exact ⟨rfl, HBE.out⟩
set_option maxHeartbeats 4000000 in
set_option maxRecDepth 100000 in
theorem RFMul_any (v u x y : Value) (a b c d : Nat) (w : World) (hv : R w v a) (hu : R w u b) (hx : R w x c) (hy : R w y d) (hb0 : 0 < b) (hd0 : 0 < d) (ha : nd 65536 a ≤ 200) (hb : nd 65536 b ≤ 200) (hc : nd 65536 c ≤ 200) (hd : nd 65536 d ≤ 200) :
    Calls Tryz.prog 45 #[.agg #[v, u], .agg #[x, y]] w fun e w' => ∃ r s, e = .returned (.agg #[r, s]) ∧ R w' r (lowP (a * c) (b * d)) ∧ R w' s (lowQ (a * c) (b * d)) ∧ Below w.heap.size w w' := by
  have hst0 := StGr.start hv hu hx hy
  obtain ⟨W0, hW0⟩ : ∃ W0 : World, W0 = ((w.alloc (.cells #[v, u] 38)).alloc (.cells #[x, y] 38)).alloc (.cells #[.slice none 0 0, .slice none 0 0] 38) := ⟨_, rfl⟩
  rw [← hW0] at hst0
  have g0 := nd_rmul ha hc
  have HM0 : Hid (∀ W, StGr w v u x y a b c d W → Calls Tryz.prog 48 #[v, x] W fun e w' => ∃ o l k, e = .returned (.slice o l k) ∧ R w' (.slice o l k) (a * c) ∧ Below W.heap.size W w' ∧ StGr w v u x y a b c d w') := fun W h =>
    (RMul_any _ _ _ _ W h.g.n1 h.g.n3 (by omega) (by omega)).mono fun e w' ⟨r, he, hr, hB⟩ => by
      obtain ⟨ro, rc, rfl, -⟩ := hr.shape
      exact ⟨ro, _, rc, he, hr, hB, h.next hB⟩
  have g1 := nd_rmul hb hd
  have HM1 : Hid (∀ W, StGr w v u x y a b c d W → Calls Tryz.prog 48 #[u, y] W fun e w' => ∃ o l k, e = .returned (.slice o l k) ∧ R w' (.slice o l k) (b * d) ∧ Below W.heap.size W w' ∧ StGr w v u x y a b c d w') := fun W h =>
    (RMul_any _ _ _ _ W h.g.n2 h.g.n4 (by omega) (by omega)).mono fun e w' ⟨r, he, hr, hB⟩ => by
      obtain ⟨ro, rc, rfl, -⟩ := hr.shape
      exact ⟨ro, _, rc, he, hr, hB, h.next hB⟩
  have hM0 : 0 < b * d := Nat.mul_pos hb0 hd0
  have HLO : Hid (∀ W p q, StGr w v u x y a b c d W → R W p (a * c) → R W q (b * d) → Calls Tryz.prog 44 #[p, q] W fun e w' => ∃ o l k o2 l2 k2, e = .returned (.agg #[.slice o l k, .slice o2 l2 k2]) ∧ (R w' (.slice o l k) (lowP (a * c) (b * d)) ∧ R w' (.slice o2 l2 k2) (lowQ (a * c) (b * d))) ∧ StGr w v u x y a b c d w') := fun W p q h hp hq =>
    (RLow_any p q _ _ W hp hq hM0 (by omega) (by omega)).mono fun e w' ⟨r, s, he, hr, hs, hB⟩ => by
      obtain ⟨ro, rc, rfl, -⟩ := hr.shape
      obtain ⟨so, sc, rfl, -⟩ := hs.shape
      exact ⟨ro, _, rc, so, _, sc, he, ⟨hr, hs⟩, h.next hB⟩
  have HSET : Hid (∀ W o l k o2 l2 k2, StGr w v u x y a b c d W → (((W.setCell ⟨w.heap.size + 1 + 1, 0, none⟩ (.slice o l k)).setCell ⟨w.heap.size + 1 + 1, 1, none⟩ (.slice o2 l2 k2)).cell? ⟨w.heap.size, 0, none⟩ = some v ∧ ((W.setCell ⟨w.heap.size + 1 + 1, 0, none⟩ (.slice o l k)).setCell ⟨w.heap.size + 1 + 1, 1, none⟩ (.slice o2 l2 k2)).cell? ⟨w.heap.size, 1, none⟩ = some u ∧ ((W.setCell ⟨w.heap.size + 1 + 1, 0, none⟩ (.slice o l k)).setCell ⟨w.heap.size + 1 + 1, 1, none⟩ (.slice o2 l2 k2)).cell? ⟨w.heap.size + 1, 0, none⟩ = some x ∧ ((W.setCell ⟨w.heap.size + 1 + 1, 0, none⟩ (.slice o l k)).setCell ⟨w.heap.size + 1 + 1, 1, none⟩ (.slice o2 l2 k2)).cell? ⟨w.heap.size + 1, 1, none⟩ = some y) ∧ StGr w v u x y a b c d ((W.setCell ⟨w.heap.size + 1 + 1, 0, none⟩ (.slice o l k)).setCell ⟨w.heap.size + 1 + 1, 1, none⟩ (.slice o2 l2 k2))) :=
    fun W o l k o2 l2 k2 h => ⟨(h.set o o2 l k l2 k2).g.c, h.set o o2 l k l2 k2⟩
  have HCC : Hid (∀ W, StGr w v u x y a b c d W → W.cell? ⟨w.heap.size, 0, none⟩ = some v ∧ W.cell? ⟨w.heap.size, 1, none⟩ = some u ∧ W.cell? ⟨w.heap.size + 1, 0, none⟩ = some x ∧ W.cell? ⟨w.heap.size + 1, 1, none⟩ = some y) := fun W h => h.g.c
  obtain ⟨ao, ac, rfl, -⟩ := hv.shape
  obtain ⟨bo, bc, rfl, -⟩ := hu.shape
  obtain ⟨co, cc, rfl, -⟩ := hx.shape
  obtain ⟨eo, ec, rfl, -⟩ := hy.shape
  have hs2 := hst0.next ((Below.refl _ _).drew)
  have hc0 := HCC.out _ hst0
  have hc2 := HCC.out _ hs2
  have HW0 := Lib.hid hW0
  clear hv hu hx hy hW0 hb0 hd0 ha hb hc hd g0 g1 hM0
  generalize lowP (a * c) (b * d) = P at *
  generalize lowQ (a * c) (b * d) = Q at *
  generalize a * c = N0 at *
  generalize b * d = N1 at *
  generalize nd 65536 a = la at *
  generalize nd 65536 b = lb at *
  generalize nd 65536 c = lc at *
  generalize nd 65536 d = ld at *
  go_enter Tryz.func45, Tryz.ntmps45
  go_wp2_with fail
  rw [← HW0.out]
  go_region_held3 (fun W : World => (W.cell? ⟨w.heap.size, 0, none⟩ = some (.slice ao la ac) ∧ W.cell? ⟨w.heap.size, 1, none⟩ = some (.slice bo lb bc) ∧ W.cell? ⟨w.heap.size + 1, 0, none⟩ = some (.slice co lc cc) ∧ W.cell? ⟨w.heap.size + 1, 1, none⟩ = some (.slice eo ld ec)) ∧ StGr w (.slice ao la ac) (.slice bo lb bc) (.slice co lc cc) (.slice eo ld ec) a b c d W) (first | (refine And.intro ?_ ?_ <;> assumption) | (refine HSET.out _ _ _ _ _ _ _ ?_; assumption) | fail) (first
    | (go_at_call 48; with_reducible refine (HM0.out _ ?h).mono ?_; (case h => assumption); rintro e w' ⟨o1, l1, k1, rfl, hr', hB', hs'⟩; have hc' := HCC.out _ hs')
    | (go_at_call 48; with_reducible refine (HM1.out _ ?h).mono ?_; (case h => assumption); rintro e w' ⟨o1, l1, k1, rfl, hr', hB', hs'⟩; have hc' := HCC.out _ hs')
    | (go_at_call 44; with_reducible refine (HLO.out _ _ _ ?h ?r ?r2).mono ?_; (case h => assumption); (case r => first | assumption | exact rchain (by assumption) (by assumption) | exact rchain (by assumption) (rchain (by assumption) (by assumption)) | exact rchain (by assumption) (rchain (by assumption) (rchain (by assumption) (by assumption)))); (case r2 => first | assumption | exact rchain (by assumption) (by assumption) | exact rchain (by assumption) (rchain (by assumption) (by assumption)) | exact rchain (by assumption) (rchain (by assumption) (rchain (by assumption) (by assumption)))); rintro e w' ⟨o1, l1, k1, o2, l2, k2, rfl, hr', hs'⟩; have hc' := HCC.out _ hs'; obtain ⟨p0, p1, p2, y0⟩ := hs'.r0; obtain ⟨q0, q1, q2, y1⟩ := hs'.r1; have y2 := hs'.z0; have y3 := hs'.z1))
  all_goals
    have hT : StGr w (.slice ao la ac) (.slice bo lb bc) (.slice co lc cc) (.slice eo ld ec) a b c d w' := by assumption
    have hR : R w' (.slice o1 l1 k1) P ∧ R w' (.slice o2 l2 k2) Q := by assumption
    have HD := Lib.hid (hT.done hR)
    clear hT hR
    go_wp2
    obtain ⟨t1, t2, t3, t4, t5⟩ := HD.out
    refine bodyPost_ret (v := .agg #[.slice o1 l1 k1, .slice o2 l2 k2]) (by simp [results, Tryz.results45, go_sem, t3, t4]) rfl ⟨_, _, rfl, t1, t2, t5⟩
set_option maxHeartbeats 4000000 in
set_option maxRecDepth 100000 in
theorem RFAdd_any (v u x y : Value) (a b c d : Nat) (w : World) (hv : R w v a) (hu : R w u b) (hx : R w x c) (hy : R w y d) (hb0 : 0 < b) (hd0 : 0 < d) (ha : nd 65536 a ≤ 200) (hb : nd 65536 b ≤ 200) (hc : nd 65536 c ≤ 200) (hd : nd 65536 d ≤ 200) :
    Calls Tryz.prog 43 #[.agg #[v, u], .agg #[x, y]] w fun e w' => ∃ r s, e = .returned (.agg #[r, s]) ∧ R w' r (lowP (a * d + c * b) (b * d)) ∧ R w' s (lowQ (a * d + c * b) (b * d)) ∧ Below w.heap.size w w' := by
  have hst0 := StGr.start hv hu hx hy
  obtain ⟨W0, hW0⟩ : ∃ W0 : World, W0 = ((w.alloc (.cells #[v, u] 38)).alloc (.cells #[x, y] 38)).alloc (.cells #[.slice none 0 0, .slice none 0 0] 38) := ⟨_, rfl⟩
  rw [← hW0] at hst0
  have g0 := nd_rmul ha hd
  have HM0 : Hid (∀ W, StGr w v u x y a b c d W → Calls Tryz.prog 48 #[v, y] W fun e w' => ∃ o l k, e = .returned (.slice o l k) ∧ R w' (.slice o l k) (a * d) ∧ Below W.heap.size W w' ∧ StGr w v u x y a b c d w') := fun W h =>
    (RMul_any _ _ _ _ W h.g.n1 h.g.n4 (by omega) (by omega)).mono fun e w' ⟨r, he, hr, hB⟩ => by
      obtain ⟨ro, rc, rfl, -⟩ := hr.shape
      exact ⟨ro, _, rc, he, hr, hB, h.next hB⟩
  have g1 := nd_rmul hc hb
  have HM1 : Hid (∀ W, StGr w v u x y a b c d W → Calls Tryz.prog 48 #[x, u] W fun e w' => ∃ o l k, e = .returned (.slice o l k) ∧ R w' (.slice o l k) (c * b) ∧ Below W.heap.size W w' ∧ StGr w v u x y a b c d w') := fun W h =>
    (RMul_any _ _ _ _ W h.g.n3 h.g.n2 (by omega) (by omega)).mono fun e w' ⟨r, he, hr, hB⟩ => by
      obtain ⟨ro, rc, rfl, -⟩ := hr.shape
      exact ⟨ro, _, rc, he, hr, hB, h.next hB⟩
  have g2 := nd_rmul hb hd
  have HM2 : Hid (∀ W, StGr w v u x y a b c d W → Calls Tryz.prog 48 #[u, y] W fun e w' => ∃ o l k, e = .returned (.slice o l k) ∧ R w' (.slice o l k) (b * d) ∧ Below W.heap.size W w' ∧ StGr w v u x y a b c d w') := fun W h =>
    (RMul_any _ _ _ _ W h.g.n2 h.g.n4 (by omega) (by omega)).mono fun e w' ⟨r, he, hr, hB⟩ => by
      obtain ⟨ro, rc, rfl, -⟩ := hr.shape
      exact ⟨ro, _, rc, he, hr, hB, h.next hB⟩
  have g9 : nd 65536 (a * d + c * b) ≤ 401 := by
    have h1 := (nd_le (by decide : 2 ≤ 65536)).1 g0
    have h2 := (nd_le (by decide : 2 ≤ 65536)).1 g1
    apply (nd_le (by decide : 2 ≤ 65536)).2
    obtain ⟨m, hm⟩ : ∃ m, m = 200 + 200 := ⟨_, rfl⟩
    rw [← hm] at h1 h2
    rw [show 401 = m + 1 from by omega, Nat.pow_succ]
    have h3 : 65536 ^ m * 2 ≤ 65536 ^ m * 65536 := Nat.mul_le_mul_left _ (by decide)
    omega
  have HCO : Hid (∀ W p q, StGr w v u x y a b c d W → R W p (a * d) → R W q (c * b) → Calls Tryz.prog 65 #[p, q] W fun e w' => ∃ o l k, e = .returned (.slice o l k) ∧ R w' (.slice o l k) (a * d + c * b) ∧ Below W.heap.size W w' ∧ StGr w v u x y a b c d w') := fun W p q h hp hq =>
    (RAdd_any p q _ _ W hp hq (by omega) (by omega)).mono fun e w' ⟨r, he, hr, hB⟩ => by
      obtain ⟨ro, rc, rfl, -⟩ := hr.shape
      exact ⟨ro, _, rc, he, hr, hB, h.next hB⟩
  have hM0 : 0 < b * d := Nat.mul_pos hb0 hd0
  have HLO : Hid (∀ W p q, StGr w v u x y a b c d W → R W p (a * d + c * b) → R W q (b * d) → Calls Tryz.prog 44 #[p, q] W fun e w' => ∃ o l k o2 l2 k2, e = .returned (.agg #[.slice o l k, .slice o2 l2 k2]) ∧ (R w' (.slice o l k) (lowP (a * d + c * b) (b * d)) ∧ R w' (.slice o2 l2 k2) (lowQ (a * d + c * b) (b * d))) ∧ StGr w v u x y a b c d w') := fun W p q h hp hq =>
    (RLow_any p q _ _ W hp hq hM0 (by omega) (by omega)).mono fun e w' ⟨r, s, he, hr, hs, hB⟩ => by
      obtain ⟨ro, rc, rfl, -⟩ := hr.shape
      obtain ⟨so, sc, rfl, -⟩ := hs.shape
      exact ⟨ro, _, rc, so, _, sc, he, ⟨hr, hs⟩, h.next hB⟩
  have HSET : Hid (∀ W o l k o2 l2 k2, StGr w v u x y a b c d W → (((W.setCell ⟨w.heap.size + 1 + 1, 0, none⟩ (.slice o l k)).setCell ⟨w.heap.size + 1 + 1, 1, none⟩ (.slice o2 l2 k2)).cell? ⟨w.heap.size, 0, none⟩ = some v ∧ ((W.setCell ⟨w.heap.size + 1 + 1, 0, none⟩ (.slice o l k)).setCell ⟨w.heap.size + 1 + 1, 1, none⟩ (.slice o2 l2 k2)).cell? ⟨w.heap.size, 1, none⟩ = some u ∧ ((W.setCell ⟨w.heap.size + 1 + 1, 0, none⟩ (.slice o l k)).setCell ⟨w.heap.size + 1 + 1, 1, none⟩ (.slice o2 l2 k2)).cell? ⟨w.heap.size + 1, 0, none⟩ = some x ∧ ((W.setCell ⟨w.heap.size + 1 + 1, 0, none⟩ (.slice o l k)).setCell ⟨w.heap.size + 1 + 1, 1, none⟩ (.slice o2 l2 k2)).cell? ⟨w.heap.size + 1, 1, none⟩ = some y) ∧ StGr w v u x y a b c d ((W.setCell ⟨w.heap.size + 1 + 1, 0, none⟩ (.slice o l k)).setCell ⟨w.heap.size + 1 + 1, 1, none⟩ (.slice o2 l2 k2))) :=
    fun W o l k o2 l2 k2 h => ⟨(h.set o o2 l k l2 k2).g.c, h.set o o2 l k l2 k2⟩
  have HCC : Hid (∀ W, StGr w v u x y a b c d W → W.cell? ⟨w.heap.size, 0, none⟩ = some v ∧ W.cell? ⟨w.heap.size, 1, none⟩ = some u ∧ W.cell? ⟨w.heap.size + 1, 0, none⟩ = some x ∧ W.cell? ⟨w.heap.size + 1, 1, none⟩ = some y) := fun W h => h.g.c
  obtain ⟨ao, ac, rfl, -⟩ := hv.shape
  obtain ⟨bo, bc, rfl, -⟩ := hu.shape
  obtain ⟨co, cc, rfl, -⟩ := hx.shape
  obtain ⟨eo, ec, rfl, -⟩ := hy.shape
  have hs2 := hst0.next ((Below.refl _ _).drew)
  have hc0 := HCC.out _ hst0
  have hc2 := HCC.out _ hs2
  have HW0 := Lib.hid hW0
  clear hv hu hx hy hW0 hb0 hd0 ha hb hc hd g0 g1 g2 g9 hM0
  generalize lowP (a * d + c * b) (b * d) = P at *
  generalize lowQ (a * d + c * b) (b * d) = Q at *
  generalize a * d + c * b = LL at *
  generalize a * d = N0 at *
  generalize c * b = N1 at *
  generalize b * d = N2 at *
  generalize nd 65536 a = la at *
  generalize nd 65536 b = lb at *
  generalize nd 65536 c = lc at *
  generalize nd 65536 d = ld at *
  go_enter Tryz.func43, Tryz.ntmps43
  go_wp2_with fail
  rw [← HW0.out]
  go_region_held3 (fun W : World => (W.cell? ⟨w.heap.size, 0, none⟩ = some (.slice ao la ac) ∧ W.cell? ⟨w.heap.size, 1, none⟩ = some (.slice bo lb bc) ∧ W.cell? ⟨w.heap.size + 1, 0, none⟩ = some (.slice co lc cc) ∧ W.cell? ⟨w.heap.size + 1, 1, none⟩ = some (.slice eo ld ec)) ∧ StGr w (.slice ao la ac) (.slice bo lb bc) (.slice co lc cc) (.slice eo ld ec) a b c d W) (first | (refine And.intro ?_ ?_ <;> assumption) | (refine HSET.out _ _ _ _ _ _ _ ?_; assumption) | fail) (first
    | (go_at_call 48; with_reducible refine (HM0.out _ ?h).mono ?_; (case h => assumption); rintro e w' ⟨o1, l1, k1, rfl, hr', hB', hs'⟩; have hc' := HCC.out _ hs')
    | (go_at_call 48; with_reducible refine (HM1.out _ ?h).mono ?_; (case h => assumption); rintro e w' ⟨o1, l1, k1, rfl, hr', hB', hs'⟩; have hc' := HCC.out _ hs')
    | (go_at_call 48; with_reducible refine (HM2.out _ ?h).mono ?_; (case h => assumption); rintro e w' ⟨o1, l1, k1, rfl, hr', hB', hs'⟩; have hc' := HCC.out _ hs')
    | (go_at_call 65; with_reducible refine (HCO.out _ _ _ ?h ?r ?r2).mono ?_; (case h => assumption); (case r => first | assumption | exact rchain (by assumption) (by assumption) | exact rchain (by assumption) (rchain (by assumption) (by assumption)) | exact rchain (by assumption) (rchain (by assumption) (rchain (by assumption) (by assumption)))); (case r2 => first | assumption | exact rchain (by assumption) (by assumption) | exact rchain (by assumption) (rchain (by assumption) (by assumption)) | exact rchain (by assumption) (rchain (by assumption) (rchain (by assumption) (by assumption)))); rintro e w' ⟨o1, l1, k1, rfl, hr', hB', hs'⟩; have hc' := HCC.out _ hs')
    | (go_at_call 44; with_reducible refine (HLO.out _ _ _ ?h ?r ?r2).mono ?_; (case h => assumption); (case r => first | assumption | exact rchain (by assumption) (by assumption) | exact rchain (by assumption) (rchain (by assumption) (by assumption)) | exact rchain (by assumption) (rchain (by assumption) (rchain (by assumption) (by assumption)))); (case r2 => first | assumption | exact rchain (by assumption) (by assumption) | exact rchain (by assumption) (rchain (by assumption) (by assumption)) | exact rchain (by assumption) (rchain (by assumption) (rchain (by assumption) (by assumption)))); rintro e w' ⟨o1, l1, k1, o2, l2, k2, rfl, hr', hs'⟩; have hc' := HCC.out _ hs'; obtain ⟨p0, p1, p2, y0⟩ := hs'.r0; obtain ⟨q0, q1, q2, y1⟩ := hs'.r1; have y2 := hs'.z0; have y3 := hs'.z1))
  all_goals
    have hT : StGr w (.slice ao la ac) (.slice bo lb bc) (.slice co lc cc) (.slice eo ld ec) a b c d w' := by assumption
    have hR : R w' (.slice o1 l1 k1) P ∧ R w' (.slice o2 l2 k2) Q := by assumption
    have HD := Lib.hid (hT.done hR)
    clear hT hR
    go_wp2
    obtain ⟨t1, t2, t3, t4, t5⟩ := HD.out
    refine bodyPost_ret (v := .agg #[.slice o1 l1 k1, .slice o2 l2 k2]) (by simp [results, Tryz.results43, go_sem, t3, t4]) rfl ⟨_, _, rfl, t1, t2, t5⟩
end Go.Proofs.YtcmancfdlfhgbaaGreatDoor
namespace Go.Proofs.YtcmancfdlfhgbaaGreatDoor
open Go Go.RowKit Gu

theorem num_any (x : Nat) (w : World) (hx : x ≤ 9223372036854775807) :
    Calls Tryz.prog 42 #[.int .i64 x] w fun e w' => ∃ r, e = .returned r ∧ R w' r x ∧ Below w.heap.size w w' := by
  have HO := Lib.hid (Of_any x w hx)
  clear hx
  go_enter Tryz.func42, Tryz.ntmps42
  go_wp2_with fail
  refine HO.out.mono ?_
  rintro e w1 ⟨r, rfl, hr, hb⟩
  obtain ⟨ro, rc, rfl, -⟩ := hr.shape
  have HR := Lib.hid hr; have HB := Lib.hid hb
  clear hr hb
  go_wp2_with fail
  go_ret
  exact ⟨_, rfl, HR.out, HB.out⟩
theorem n20 {x : Nat} (h : x ≤ 1000000) : nd 65536 x ≤ 2 := pow_nd16 (a := 20) (Nat.lt_of_le_of_lt h (by decide)) (by decide)
theorem Risk_any (x : Nat) (w : World) (hx : x ≤ 1000000) :
    Calls Tryz.prog 38 #[.int .i64 x] w fun e w' => ∃ r s, e = .returned (.agg #[r, s]) ∧ R w' r (lowP x 1000000) ∧ R w' s (lowQ x 1000000) ∧ Below w.heap.size w w' := by
  obtain ⟨ml, hml⟩ : ∃ ml : Nat, ml = 1000000 := ⟨_, rfl⟩
  have hmi : (1000000 : Int) = (ml : Int) := by rw [hml]; rfl
  obtain ⟨w1, HW1⟩ : ∃ w1, w1 = w.alloc (.cells #[.slice none 0 0, .slice none 0 0] 38) := ⟨_, rfl⟩
  have hz : Bxs w.heap.size [.slice none 0 0, .slice none 0 0] w1 := by rw [HW1]; exact Bxs.new2 _ _ _ _
  have hbw : Below w.heap.size w w1 := by rw [HW1]; exact alloc1_below _ _
  have HZ := Lib.hid hz; have HBW := Lib.hid hbw; have HW1' := Lib.hid HW1
  have HO := Lib.hid (num_any x w1 (by omega))
  have HM : Hid (∀ W, Calls Tryz.prog 42 #[.int .i64 1000000] W fun e w' => ∃ r, e = .returned r ∧ R w' r ml ∧ Below W.heap.size W w') := fun W => by rw [hmi]; exact num_any ml W (by omega)
  have HL : Hid (∀ W u v, R W u x → R W v ml → Calls Tryz.prog 44 #[u, v] W fun e w' => ∃ r s, e = .returned (.agg #[r, s]) ∧ R w' r (lowP x ml) ∧ R w' s (lowQ x ml) ∧ Below W.heap.size W w') := fun W u v h1 h2 => RLow_any u v x ml W h1 h2 (by omega) (Nat.le_trans (n20 hx) (by decide)) (Nat.le_trans (n20 (by omega)) (by decide))
  rw [← hml]
  clear hmi hml hx hz hbw HW1
  go_enter Tryz.func38, Tryz.ntmps38
  go_wp2_with fail
  rw [← HW1'.out]
  refine HO.out.mono ?_
  rintro e w2 ⟨u, rfl, hu, hb⟩
  obtain ⟨uo, uc, rfl, -⟩ := hu.shape
  have HU := Lib.hid hu; have HB := Lib.hid hb
  clear hu hb HO
  go_wp2_with fail
  refine (HM.out _).mono ?_
  rintro e w3 ⟨v, rfl, hv, hb⟩
  obtain ⟨vo, vc, rfl, -⟩ := hv.shape
  have HL2 := Lib.hid (HL.out _ _ _ (HU.out.below hb) hv)
  have HB2 := Lib.hid (HB.out.trans (hb.mono HB.out.size))
  clear hv hb HL HM HU HB
  go_wp2_with fail
  refine HL2.out.mono ?_
  rintro e w4 ⟨r, s, rfl, hr, hs, hb⟩
  obtain ⟨ro, rc2, rfl, -⟩ := hr.shape
  obtain ⟨so, sc2, rfl, -⟩ := hs.shape
  have hb3 := HB2.out.trans (hb.mono HB2.out.size)
  have hz := HZ.out.next hb3
  have d0' := hz.c0; have d1 := hz.c1; have g0 := hz.f0; have g1 := hz.f1
  obtain ⟨t0, t1⟩ := read_two d0' d1 (.slice ro (nd 65536 (lowP x ml)) rc2) (.slice so (nd 65536 (lowQ x ml)) sc2)
  have hX := IsN_setTwo hr d0' d1 (by intro d h; cases h) (by intro d h; cases h) (.slice ro (nd 65536 (lowP x ml)) rc2) (.slice so (nd 65536 (lowQ x ml)) sc2)
  have hY := IsN_setTwo hs d0' d1 (by intro d h; cases h) (by intro d h; cases h) (.slice ro (nd 65536 (lowP x ml)) rc2) (.slice so (nd 65536 (lowQ x ml)) sc2)
  have hBE := ((HBW.out.trans (hb3.mono HBW.out.size)).setCell (p := ⟨w.heap.size, 0, none⟩) (Nat.le_refl _) (.slice ro (nd 65536 (lowP x ml)) rc2)).setCell (p := ⟨w.heap.size, 1, none⟩) (Nat.le_refl _) (.slice so (nd 65536 (lowQ x ml)) sc2)
  generalize nd 65536 (lowP x ml) = lr at *
  generalize nd 65536 (lowQ x ml) = ls at *
  have HF := Lib.hid (show R _ _ _ ∧ R _ _ _ ∧ Below _ _ _ from ⟨hX, hY, hBE⟩)
  have T0 := Lib.hid t0; have T1 := Lib.hid t1
  clear hr hs hb hX hY hBE t0 t1 hz hb3
  go_wp2
  have t0 := T0.out; have t1 := T1.out
  refine bodyPost_ret (v := .agg #[.slice ro lr rc2, .slice so ls sc2]) (by simp [results, Tryz.results38, go_sem, t0, t1]) rfl ⟨_, _, rfl, HF.out⟩
theorem low60 {L M : Nat} (h1 : L ≤ 2 ^ 60) (h2 : M ≤ 2 ^ 60) : nd 65536 (lowP L M) ≤ 200 ∧ nd 65536 (lowQ L M) ≤ 200 :=
  ⟨Nat.le_trans (n60 (Nat.le_trans (lowP_le _ _) h1)) (by decide), Nat.le_trans (n60 (Nat.le_trans (lowQ_le _ _) h2)) (by decide)⟩
theorem RCmp_low {v u x y : Value} {L M L' M' : Nat} {W : World} (hv : R W v (lowP L M)) (hu : R W u (lowQ L M)) (hx : R W x (lowP L' M')) (hy : R W y (lowQ L' M')) (hM : 0 < M) (hM' : 0 < M') (h1 : L ≤ 2 ^ 60) (h2 : M ≤ 2 ^ 60) (h3 : L' ≤ 2 ^ 60) (h4 : M' ≤ 2 ^ 60) :
    Calls Tryz.prog 37 #[.agg #[v, u], .agg #[x, y]] W fun e w' => e = .returned (.int .i64 (cmpN ((L * M' : Nat) : Int) ((L' * M : Nat) : Int))) ∧ Below W.heap.size W w' := by
  have := RFCmp_any v u x y _ _ _ _ W hv hu hx hy (lowQ_pos hM) (lowQ_pos hM') (low60 h1 h2).1 (low60 h1 h2).2 (low60 h3 h4).1 (low60 h3 h4).2
  rw [cmp_low hM hM'] at this
  exact this
end Go.Proofs.YtcmancfdlfhgbaaGreatDoor
