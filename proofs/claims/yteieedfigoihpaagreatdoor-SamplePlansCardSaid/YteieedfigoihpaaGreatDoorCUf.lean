/- The law SampleAccepts: its walk. -/
import Derived.Test.YteieedfigoihpaaGreatDoorTSz3
import Derived.Test.YteieedfigoihpaaGreatDoorTSz6
namespace Go.Proofs.YteieedfigoihpaaGreatDoor
open Go Go.RowKit Gu

set_option maxHeartbeats 2000000 in
set_option maxRecDepth 100000 in
theorem told_ok (v u r s : Value) (P Q : Nat) (w : World) (hv : D w v P) (hu : D w u Q) (hr : R w r P) (hs : R w s Q) (hQ : 0 < Q) (h1 : nd 65536 P ≤ 5000) (h2 : nd 65536 Q ≤ 5000) (he : Env w) :
    Calls Tryz.prog 9 #[.agg #[v, u], .int .i64 0, .agg #[r, s]] w fun e w' => e = .returned (.bool true) ∧ Below w.heap.size w w' := by
  have k1 := nd_32 h1
  have k2 := nd_32 h2
  obtain ⟨W0, hW0⟩ : ∃ W0 : World, W0 = (w.alloc (.cells #[v, u] 26)).alloc (.cells #[r, s] 35) := ⟨_, rfl⟩
  have hz0 : W0.heap.size = w.heap.size + 2 := by rw [hW0]; simp
  have hbw : Below w.heap.size w W0 := by rw [hW0]; exact ((Below.refl _ _).alloc (Nat.le_refl _) _).alloc (by simp) _
  have hst0 : StS W0 v u r s P Q W0 := ⟨hv.below hbw, hu.below hbw, hr.below hbw, hs.below hbw, he.below hbw, Below.refl _ _⟩
  have ca : ∀ W, Below W0.heap.size W0 W → W.cell? ⟨w.heap.size, 0, none⟩ = some v ∧ W.cell? ⟨w.heap.size, 1, none⟩ = some u ∧ W.cell? ⟨w.heap.size + 1, 0, none⟩ = some r ∧ W.cell? ⟨w.heap.size + 1, 1, none⟩ = some s := fun W hb => by
    have e0 : W0.cell? ⟨w.heap.size, 0, none⟩ = some v := by rw [hW0]; exact (World.cell?_alloc_past _ _ _ (by simp)).trans (World.cell?_alloc_at _ _ _ _ rfl)
    have e1 : W0.cell? ⟨w.heap.size, 1, none⟩ = some u := by rw [hW0]; exact (World.cell?_alloc_past _ _ _ (by simp)).trans (World.cell?_alloc_at _ _ _ _ rfl)
    have e2 : W0.cell? ⟨w.heap.size + 1, 0, none⟩ = some r := by rw [hW0]; exact World.cell?_alloc_at _ _ _ _ (by simp)
    have e3 : W0.cell? ⟨w.heap.size + 1, 1, none⟩ = some s := by rw [hW0]; exact World.cell?_alloc_at _ _ _ _ (by simp)
    exact ⟨(hb.cell (p := ⟨w.heap.size, 0, none⟩) (by show w.heap.size < _; omega)).trans e0, (hb.cell (p := ⟨w.heap.size, 1, none⟩) (by show w.heap.size < _; omega)).trans e1, (hb.cell (p := ⟨w.heap.size + 1, 0, none⟩) (by show w.heap.size + 1 < _; omega)).trans e2, (hb.cell (p := ⟨w.heap.size + 1, 1, none⟩) (by show w.heap.size + 1 < _; omega)).trans e3⟩
  have HCA : Hid (∀ W, StS W0 v u r s P Q W → W.cell? ⟨w.heap.size, 0, none⟩ = some v ∧ W.cell? ⟨w.heap.size, 1, none⟩ = some u ∧ W.cell? ⟨w.heap.size + 1, 0, none⟩ = some r ∧ W.cell? ⟨w.heap.size + 1, 1, none⟩ = some s) := fun W h => ca W h.bel
  obtain ⟨S, hS⟩ : ∃ S : ByteArray, S = ⟨(fracText P Q).toArray⟩ := ⟨_, rfl⟩
  have HSA : Hid (∀ W, StS W0 v u r s P Q W → Calls Tryz.prog 15 #[.agg #[v, u]] W fun e w' => e = .returned (.string S) ∧ StS W0 v u r s P Q w') := fun W h => by
    have h3 := FracString_any v u P Q W h.n1 h.n2 (by omega) (by omega) h.env
    rw [dn_of hQ, ← hS] at h3
    exact h3.mono fun e w' ⟨he, hB⟩ => ⟨he, h.next hB⟩
  have HSB : Hid (∀ W, StS W0 v u r s P Q W → Calls Tryz.prog 19 #[.agg #[r, s]] W fun e w' => e = .returned (.string S) ∧ StS W0 v u r s P Q w') := fun W h => by
    rw [hS]
    exact (RFText_any r s P Q W h.d1 h.d2 (by omega) (by omega)).mono fun e w' ⟨he, hB⟩ => ⟨he, h.next hB⟩
  have HBW := Lib.hid hbw; have HW0 := Lib.hid hW0
  have hs2 := hst0.next ((Below.refl _ W0).drew)
  have hc0 := HCA.out _ hst0
  have hc2 := HCA.out _ hs2
  obtain ⟨ao, ac, rfl, -⟩ := hv.shape
  obtain ⟨bo, bc, rfl, -⟩ := hu.shape
  obtain ⟨ro, rc, rfl, -⟩ := hr.shape
  obtain ⟨so, sc, rfl, -⟩ := hs.shape
  clear hv hu hr hs hz0 hbw hW0 hS ca he k1 k2 h1 h2 hQ
  generalize nd 4294967296 P = la at *
  generalize nd 4294967296 Q = lb at *
  generalize nd 65536 P = lc at *
  generalize nd 65536 Q = ld at *
  go_enter Tryz.func9, Tryz.ntmps9
  go_wp2_with fail
  rw [← HW0.out]
  go_region_held3 (fun W : World => (W.cell? ⟨w.heap.size, 0, none⟩ = some (.slice ao la ac) ∧ W.cell? ⟨w.heap.size, 1, none⟩ = some (.slice bo lb bc) ∧ W.cell? ⟨w.heap.size + 1, 0, none⟩ = some (.slice ro lc rc) ∧ W.cell? ⟨w.heap.size + 1, 1, none⟩ = some (.slice so ld sc)) ∧ StS W0 (.slice ao la ac) (.slice bo lb bc) (.slice ro lc rc) (.slice so ld sc) P Q W) (first | (refine And.intro ?_ ?_ <;> assumption)) (first
    | (go_at_call 15; with_reducible refine (HSA.out _ ?h).mono ?_; (case h => assumption); rintro e w' ⟨rfl, hs'⟩; have hc' := HCA.out _ hs')
    | (go_at_call 19; with_reducible refine (HSB.out _ ?h).mono ?_; (case h => assumption); rintro e w' ⟨rfl, hs'⟩; have hc' := HCA.out _ hs'))
  all_goals
    have hT : StS W0 (.slice ao la ac) (.slice bo lb bc) (.slice ro lc rc) (.slice so ld sc) P Q w' := by assumption
    have HBE := Lib.hid (HBW.out.trans (hT.bel.mono HBW.out.size))
    clear hT
    go_wp2
    go_ret
    exact ⟨by simp, HBE.out⟩

theorem refused_ok (w : World) (he : Env w) :
    Calls Tryz.prog 8 #[.agg #[.slice none 0 0, .slice none 0 0], .int .i64 2] w fun e w' => e = .returned (.bool true) ∧ Below w.heap.size w w' := by
  have b1 : ∀ o, Below w.heap.size w (w.alloc o) := fun o => (Below.refl _ _).alloc (Nat.le_refl _) _
  have HST := Lib.hid (fun o => FracString_any (.slice none 0 0) (.slice none 0 0) 0 0 (w.alloc o) (IsN.zero _ _ _ _ _) (IsN.zero _ _ _ _ _) (by rw [nd_zero]; omega) (by rw [nd_zero]; omega) (he.below (b1 o)))
  rw [show dn 0 = 1 from rfl, fracText_zero] at HST
  have HB := Lib.hid b1
  clear b1 he
  go_enter Tryz.func8, Tryz.ntmps8
  go_wp2_with fail
  refine (HST.out _).mono ?_
  rintro e w1 ⟨rfl, hb⟩
  have HBE := Lib.hid ((HB.out _).trans (hb.mono (HB.out _).size))
  clear hb
  go_wp2
  go_ret
  exact ⟨by simp, HBE.out⟩
theorem n60 {x : Nat} (h : x ≤ 2 ^ 60) : nd 65536 x ≤ 4 := pow_nd16 (a := 61) (Nat.lt_of_le_of_lt h (by decide)) (by decide)
/-- the sum of the first terms, where the loop ends -/
theorem accS_end {b g n i : Nat} {c : Int} (h1 : i ≤ n + 1) (h2 : (i : Int) ≤ max 0 (c + 1)) (h : ¬ ((i : Int) ≤ c ∧ (i : Int) ≤ n)) : hsum b g n 0 i = accS b g n c := by
  unfold accS
  by_cases q : (i : Int) ≤ c
  · rw [show i = n + 1 by omega, ← hsum_full (m := (c + 1).toNat) (by omega)]
  · rw [show i = (c + 1).toNat by omega]
/-- what the loop of the document's Accept keeps -/
def RAccRel (b g n i : Nat) (w0 : World) (rv : Value) (wr : World) : Prop := R wr rv (hsum b g n 0 i) ∧ Below w0.heap.size w0 wr
set_option maxHeartbeats 4000000 in
set_option maxRecDepth 100000 in
theorem RAccept_any {b g n : Nat} {c : Int} {w : World} (hbg : b + g ≤ 60) (hn : n ≤ b + g) (hc : c ≤ 9223372036854775807) :
    Calls Tryz.prog 10 #[.int .i64 ((b + g : Nat) : Int), .int .i64 b, .int .i64 n, .int .i64 c] w fun e w' => ∃ r s, e = .returned (.agg #[r, s]) ∧ R w' r (lowP (accS b g n c) (pascalN (b + g) n)) ∧ R w' s (lowQ (accS b g n c) (pascalN (b + g) n)) ∧ Below w.heap.size w w' := by
  have HBI := Lib.hid (fun (x k : Nat) w (h : x ≤ 60) (hk : k ≤ 9223372036854775807) => RBinomial_any x k w (by omega) hk)
  have hp : ∀ x k, x ≤ 60 → pascalN x k ≤ 2 ^ 60 := fun x k h => Nat.le_trans (pascalN_le _ _) (Nat.pow_le_pow_right (by decide) h)
  have hsm : ∀ k, hsum b g n 0 k ≤ 2 ^ 60 := fun k => Nat.le_trans (hsum_le_all _ _ _ _) (hp _ _ hbg)
  have HMU := Lib.hid (fun (i : Nat) u v W (h1 : R W u (pascalN b i)) (h2 : R W v (pascalN g (n - i))) => RMul_any u v _ _ W h1 h2 (Nat.le_trans (n60 (hp _ _ (by omega))) (by decide)) (Nat.le_trans (n60 (hp _ _ (by omega))) (by decide)))
  have HAD := Lib.hid (fun (i : Nat) u v W (hi : i ≤ n) (h1 : R W u (hsum b g n 0 i)) (h2 : R W v (pascalN b i * pascalN g (n - i))) => RAdd_any u v _ _ W h1 h2 (Nat.le_trans (n60 (hsm _)) (by decide)) (Nat.le_trans (nd_rmul' (n60 (hp b i (by omega))) (n60 (hp g (n - i) (by omega)))) (by decide)))
  have hstep : ∀ i, i ≤ n → hsum b g n 0 i + pascalN b i * pascalN g (n - i) = hsum b g n 0 (i + 1) := fun i hi => by rw [hsum_succ, Nat.zero_add, hyp_of hi]
  have HST := Lib.hid hstep
  have HLO := Lib.hid (fun u v W (h1 : R W u (accS b g n c)) (h2 : R W v (pascalN (b + g) n)) => RLow_any u v _ _ W h1 h2 (pascalN_pos hn) (Nat.le_trans (n60 (hsm _)) (by decide)) (Nat.le_trans (n60 (hp _ _ hbg)) (by decide)))
  obtain ⟨w1, HW1⟩ : ∃ w1, w1 = w.alloc (.cells #[.slice none 0 0, .slice none 0 0] 35) := ⟨_, rfl⟩
  have hz : Bxs w.heap.size [.slice none 0 0, .slice none 0 0] w1 := by rw [HW1]; exact Bxs.new2 _ _ _ _
  have hbw : Below w.heap.size w w1 := by rw [HW1]; exact alloc1_below _ _
  have HZ := Lib.hid hz; have HBW := Lib.hid hbw; have HW1' := Lib.hid HW1
  have HR0 : Hid (RAccRel b g n 0 w1 (.slice none 0 0) w1) := ⟨IsN.zero _ _ _ _ _, Below.refl _ _⟩
  clear hz hbw HW1
  obtain ⟨lt, hlt⟩ : ∃ lt : Nat, lt = b + g := ⟨_, rfl⟩
  have HBT := Lib.hid (fun w => HBI.out lt n w (by omega) (by omega))
  rw [← hlt] at HLO hbg hn ⊢
  have hw : IntKind.i64.wrap ((lt : Int) - b) = (g : Int) := by rw [IntWalk.i64_in _ (by omega)]; omega
  have HW := Lib.hid hw
  have hb60 : b ≤ 60 := by omega
  have hg60 : g ≤ 60 := by omega
  have hn60 : n ≤ 60 := by omega
  clear hp hsm hstep hw hlt hbg hn
  go_enter Tryz.func10, Tryz.ntmps10
  go_wp2

  rw [← HW1'.out]
  go_loopw [9, 10] (fun rv t wr => ∃ i : Nat, i ≤ n + 1 ∧ (i : Int) ≤ max 0 (c + 1) ∧ t = .int .i64 i ∧ RAccRel b g n i w1 rv wr) (fun _ t _ => n + 1 - (intOf t).toNat)
  case atStart => exact ⟨0, Nat.zero_le _, by omega, rfl, HR0.out⟩
  case round =>
    obtain ⟨i, hi, hic, rfl, hrel⟩ := hrel
    have HR := Lib.hid hrel
    obtain ⟨r0, rc, rfl, -⟩ := hrel.1.shape
    clear hrel
    by_cases hlt2 : (i : Int) ≤ c ∧ (i : Int) ≤ n
    · obtain ⟨q1, q2⟩ := hlt2
      have hin : i ≤ n := by omega
      have HQ1 := Lib.hid q1
      have hwn : IntKind.i64.wrap ((n : Int) - i) = ((n - i : Nat) : Int) := by rw [IntWalk.i64_in _ (by omega)]; omega
      have HWN := Lib.hid hwn
      have HD1 := Lib.hid (HBI.out b i wr (by omega) (by omega))
      have HD2 := Lib.hid (fun W => HBI.out g (n - i) W (by omega) (by omega))
      have hww := HW.out
      go_wp2_with fail
      refine HD1.out.mono ?_
      rintro e w2 ⟨dv, rfl, hd, hb2⟩
      obtain ⟨d0, dc, rfl, -⟩ := hd.shape
      have HP2 := Lib.hid (HR.out.1.below hb2); have HDV := Lib.hid hd
      have HB2 := Lib.hid (HR.out.2.trans (hb2.mono HR.out.2.size))
      clear hd hb2 HD1
      go_wp2_with fail
      refine (HD2.out _).mono ?_
      rintro e w3 ⟨pv, rfl, hpv, hb3⟩
      obtain ⟨p0, pc, rfl, -⟩ := hpv.shape
      have HP3 := Lib.hid (HP2.out.below hb3)
      have HM := Lib.hid (HMU.out i _ _ _ (HDV.out.below hb3) hpv)
      have HB3 := Lib.hid (HB2.out.trans (hb3.mono HB2.out.size))
      clear hpv hb3 HP2 HDV HB2 HD2
      go_wp2_with fail
      refine HM.out.mono ?_
      rintro e w4 ⟨mv, rfl, hm, hb4⟩
      obtain ⟨m0, mc, rfl, -⟩ := hm.shape
      have HA := Lib.hid (HAD.out i _ _ _ hin (HP3.out.below hb4) hm)
      have HB4 := Lib.hid (HB3.out.trans (hb4.mono HB3.out.size))
      clear hm hb4 HP3 HM HB3
      go_wp2_with fail
      refine HA.out.mono ?_
      rintro e w5 ⟨av, rfl, ha, hb5⟩
      rw [HST.out i hin] at ha
      obtain ⟨a0, ac, rfl, -⟩ := ha.shape
      have HN : Hid (RAccRel b g n (i + 1) w1 (.slice a0 (nd 65536 (hsum b g n 0 (i + 1))) ac) w5) := ⟨ha, HB4.out.trans (hb5.mono HB4.out.size)⟩
      clear ha hb5 HA HB4 HR
      go_wp2
      go_roundw
      case rel => exact ⟨i + 1, by omega, by have := HQ1.out; omega, by go_num, HN.out⟩
      case measure => simp [intOf]; omega
    · have HV := accS_end (b := b) (g := g) hi hic hlt2
      have HRN := Lib.hid HR.out.1
      have HX : Hid (R wr (.slice r0 (nd 65536 (hsum b g n 0 i)) rc) (accS b g n c)) := by show R _ _ _; rw [← HV]; exact HR.out.1
      have HBR := Lib.hid HR.out.2
      clear HV HRN HR
      by_cases q1 : (i : Int) ≤ c
      · have q2 : ¬ (i : Int) ≤ n := fun q2 => hlt2 ⟨q1, q2⟩
        clear hlt2
        go_wp2_with fail
        refine (HBT.out _).mono ?_
        rintro e w2 ⟨dv, rfl, hd, hb2⟩
        obtain ⟨d0, dc, rfl, -⟩ := hd.shape
        have HL := Lib.hid (HLO.out _ _ _ (HX.out.below hb2) hd)
        have HB2 := Lib.hid (HBR.out.trans (hb2.mono HBR.out.size))
        clear hd hb2
        go_wp2_with fail
        refine HL.out.mono ?_
        rintro e w3 ⟨r, s, rfl, hr, hs, hb⟩
        obtain ⟨ro, rc2, rfl, -⟩ := hr.shape
        obtain ⟨so, sc2, rfl, -⟩ := hs.shape
        have hb3 := HB2.out.trans (hb.mono HB2.out.size)
        have hz := HZ.out.next hb3
        have d0' := hz.c0; have d1 := hz.c1; have g0 := hz.f0; have g1 := hz.f1
        obtain ⟨t0, t1⟩ := read_two d0' d1 (.slice ro (nd 65536 (lowP (accS b g n c) (pascalN lt n))) rc2) (.slice so (nd 65536 (lowQ (accS b g n c) (pascalN lt n))) sc2)
        have hX := IsN_setTwo hr d0' d1 (by intro d h; cases h) (by intro d h; cases h) (.slice ro (nd 65536 (lowP (accS b g n c) (pascalN lt n))) rc2) (.slice so (nd 65536 (lowQ (accS b g n c) (pascalN lt n))) sc2)
        have hY := IsN_setTwo hs d0' d1 (by intro d h; cases h) (by intro d h; cases h) (.slice ro (nd 65536 (lowP (accS b g n c) (pascalN lt n))) rc2) (.slice so (nd 65536 (lowQ (accS b g n c) (pascalN lt n))) sc2)
        have hBE := ((HBW.out.trans (hb3.mono HBW.out.size)).setCell (p := ⟨w.heap.size, 0, none⟩) (Nat.le_refl _) (.slice ro (nd 65536 (lowP (accS b g n c) (pascalN lt n))) rc2)).setCell (p := ⟨w.heap.size, 1, none⟩) (Nat.le_refl _) (.slice so (nd 65536 (lowQ (accS b g n c) (pascalN lt n))) sc2)
        generalize nd 65536 (lowP (accS b g n c) (pascalN lt n)) = lr at *
        generalize nd 65536 (lowQ (accS b g n c) (pascalN lt n)) = ls at *
        have HF := Lib.hid (show R _ _ _ ∧ R _ _ _ ∧ Below _ _ _ from ⟨hX, hY, hBE⟩)
        have T0 := Lib.hid t0; have T1 := Lib.hid t1
        clear hr hs hb hX hY hBE t0 t1 hz hb3
        go_wp2
        have t0 := T0.out; have t1 := T1.out
        refine bodyPost_ret (v := .agg #[.slice ro lr rc2, .slice so ls sc2]) (by simp [results, Tryz.results10, go_sem, t0, t1]) rfl ⟨_, _, rfl, HF.out⟩
      · clear hlt2
        go_wp2_with fail
        refine (HBT.out _).mono ?_
        rintro e w2 ⟨dv, rfl, hd, hb2⟩
        obtain ⟨d0, dc, rfl, -⟩ := hd.shape
        have HL := Lib.hid (HLO.out _ _ _ (HX.out.below hb2) hd)
        have HB2 := Lib.hid (HBR.out.trans (hb2.mono HBR.out.size))
        clear hd hb2
        go_wp2_with fail
        refine HL.out.mono ?_
        rintro e w3 ⟨r, s, rfl, hr, hs, hb⟩
        obtain ⟨ro, rc2, rfl, -⟩ := hr.shape
        obtain ⟨so, sc2, rfl, -⟩ := hs.shape
        have hb3 := HB2.out.trans (hb.mono HB2.out.size)
        have hz := HZ.out.next hb3
        have d0' := hz.c0; have d1 := hz.c1; have g0 := hz.f0; have g1 := hz.f1
        obtain ⟨t0, t1⟩ := read_two d0' d1 (.slice ro (nd 65536 (lowP (accS b g n c) (pascalN lt n))) rc2) (.slice so (nd 65536 (lowQ (accS b g n c) (pascalN lt n))) sc2)
        have hX := IsN_setTwo hr d0' d1 (by intro d h; cases h) (by intro d h; cases h) (.slice ro (nd 65536 (lowP (accS b g n c) (pascalN lt n))) rc2) (.slice so (nd 65536 (lowQ (accS b g n c) (pascalN lt n))) sc2)
        have hY := IsN_setTwo hs d0' d1 (by intro d h; cases h) (by intro d h; cases h) (.slice ro (nd 65536 (lowP (accS b g n c) (pascalN lt n))) rc2) (.slice so (nd 65536 (lowQ (accS b g n c) (pascalN lt n))) sc2)
        have hBE := ((HBW.out.trans (hb3.mono HBW.out.size)).setCell (p := ⟨w.heap.size, 0, none⟩) (Nat.le_refl _) (.slice ro (nd 65536 (lowP (accS b g n c) (pascalN lt n))) rc2)).setCell (p := ⟨w.heap.size, 1, none⟩) (Nat.le_refl _) (.slice so (nd 65536 (lowQ (accS b g n c) (pascalN lt n))) sc2)
        generalize nd 65536 (lowP (accS b g n c) (pascalN lt n)) = lr at *
        generalize nd 65536 (lowQ (accS b g n c) (pascalN lt n)) = ls at *
        have HF := Lib.hid (show R _ _ _ ∧ R _ _ _ ∧ Below _ _ _ from ⟨hX, hY, hBE⟩)
        have T0 := Lib.hid t0; have T1 := Lib.hid t1
        clear hr hs hb hX hY hBE t0 t1 hz hb3
        go_wp2
        have t0 := T0.out; have t1 := T1.out
        refine bodyPost_ret (v := .agg #[.slice ro lr rc2, .slice so ls sc2]) (by simp [results, Tryz.results10, go_sem, t0, t1]) rfl ⟨_, _, rfl, HF.out⟩
end Go.Proofs.YteieedfigoihpaaGreatDoor
