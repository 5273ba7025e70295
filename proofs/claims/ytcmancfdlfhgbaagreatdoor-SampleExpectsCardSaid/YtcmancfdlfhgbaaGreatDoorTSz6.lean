/- Contracts and lemmas (several texts merged into one). -/
import Derived.Test.YtcmancfdlfhgbaaGreatDoorTSz1
import Derived.Test.YtcmancfdlfhgbaaGreatDoorTSz4
import Derived.Test.YtcmancfdlfhgbaaGreatDoorTSz2
namespace Go.Proofs.YtcmancfdlfhgbaaGreatDoor
open Go Go.RowKit Gu

theorem pow_nd16 {x a m : Nat} (h : x < 2 ^ a) (ha : a ≤ 16 * m) : nd 65536 x ≤ m := by
  apply (nd_le (by decide)).2
  rw [show (65536 : Nat) = 2 ^ 16 from by decide, ← Nat.pow_mul]
  exact Nat.lt_of_lt_of_le h (Nat.pow_le_pow_right (by decide) ha)
theorem pascalN_nd16 {n k : Nat} (hn : n ≤ 4096) : nd 65536 (pascalN n k) ≤ 257 := by
  have h := pascalN_le n k
  have h2 : pascalN n k < 2 ^ (n + 1) := by rw [Nat.pow_succ]; have := Nat.pow_pos (n := n) (show 0 < 2 by decide); omega
  exact pow_nd16 h2 (by omega)
theorem nd_rmul' {a b m k : Nat} (ha : nd 65536 a ≤ m) (hb : nd 65536 b ≤ k) : nd 65536 (a * b) ≤ m + k := by
  have h1 := (nd_le (by decide : 2 ≤ 65536)).1 ha
  have h2 := (nd_le (by decide : 2 ≤ 65536)).1 hb
  apply (nd_le (by decide : 2 ≤ 65536)).2
  rw [Nat.pow_add]
  exact Nat.mul_lt_mul_of_lt_of_le h1 (Nat.le_of_lt h2) (Nat.pow_pos (by decide))
/-- what the loop of Binomial keeps -/
def RBinRel (n i : Nat) (w0 : World) (rv : Value) (wr : World) : Prop := R wr rv (pascalN n i) ∧ Below w0.heap.size w0 wr
set_option maxHeartbeats 1000000 in
set_option maxRecDepth 100000 in
theorem RBinomial_any (n k : Nat) (w : World) (hn : n ≤ 4096) (hkb : k ≤ 9223372036854775807) :
    Calls Tryz.prog 66 #[.int .i64 n, .int .i64 k] w fun e w' => ∃ r, e = .returned r ∧ R w' r (pascalN n k) ∧ Below w.heap.size w w' := by
  by_cases hk : n < k
  · have HZ : Hid (pascalN n k = 0) := pascalN_gt hk
    have h1 : (n : Int) < k := by omega
    go_enter Tryz.func66, Tryz.ntmps66
    go_wp2
    go_ret
    exact ⟨_, rfl, by rw [HZ.out]; exact IsN.zero _ _ _ _ _, Below.refl _ _⟩
  have HOF := Lib.hid (fun (x : Nat) w (h : x ≤ 9223372036854775807) => Of_any x w h)
  obtain ⟨m, hm⟩ : ∃ m, m = min k (n - k) := ⟨_, rfl⟩
  have HM : Hid (pascalN n m = pascalN n k) := by show _ = _; rw [hm]; exact pascalN_min (by omega)
  have hmn : m ≤ n := by omega
  have hmi : min (k : Int) ((n : Int) - k) = m := by omega
  have h4 : ¬ ((n : Int) < k) := by omega
  clear hm
  go_enter Tryz.func66, Tryz.ntmps66
  go_wp2_with fail
  refine (HOF.out 1 _ (by decide)).mono ?_
  rintro e w1 ⟨v, rfl, hv, hb⟩
  obtain ⟨vo, vc, rfl, -⟩ := hv.shape
  have HST : Hid (RBinRel n 0 w (.slice vo (nd 65536 1) vc) w1) := ⟨by rw [pascalN_zero]; exact hv, hb⟩
  clear hv hb
  go_wp2

  go_loopw [5, 6] (fun rv t wr => ∃ i : Nat, i ≤ m ∧ t = .int .i64 i ∧ RBinRel n i w rv wr) (fun _ t _ => m - (intOf t).toNat)
  case atStart => exact ⟨0, Nat.zero_le _, rfl, HST.out⟩
  case round =>
    obtain ⟨i, hi, rfl, hrel⟩ := hrel
    have HR := Lib.hid hrel
    obtain ⟨r0, rc, rfl, -⟩ := hrel.1.shape
    clear hrel
    have hci := pascalN_nd16 (n := n) (k := i) hn
    by_cases hlt : i < m
    · have him : (i : Int) < m := by omega
      have hni : (n : Int) - i = ((n - i : Nat) : Int) := by omega
      have HNI := Lib.hid hni
      have HD1 := Lib.hid (HOF.out (n - i) wr (by omega))
      have HP := Lib.hid (fun v W (h1 : R W (.slice r0 (nd 65536 (pascalN n i)) rc) (pascalN n i)) (h2 : R W v (n - i)) => RMul_any _ v _ _ W h1 h2 (by omega) (by have h3 := (nd_le (B := 65536) (n := n - i) (k := 1) (by decide)).2 (by omega); omega))
      have HQ := Lib.hid (fun v W (h1 : R W v (pascalN n i * (n - i))) => Small_any v _ (i + 1) W h1 (by have h3 := nd_rmul' (a := pascalN n i) (b := n - i) (m := 257) (k := 1) hci ((nd_le (by decide)).2 (by omega)); omega) (by omega) (by omega))
      rw [pascalN_div (by omega)] at HQ
      clear hni
      go_wp2_with fail
      rw [HNI.out]
      refine HD1.out.mono ?_
      rintro e w2 ⟨dv, rfl, hd, hb2⟩
      obtain ⟨d0, dc, rfl, -⟩ := hd.shape
      have HP2 := Lib.hid (HP.out _ _ (HR.out.1.below hb2) hd)
      have HB2 := Lib.hid (HR.out.2.trans (hb2.mono HR.out.2.size))
      clear hd hb2 HP HD1
      go_wp2_with fail
      refine HP2.out.mono ?_
      rintro e w3 ⟨pv, rfl, hp, hb3⟩
      obtain ⟨p0, pc, rfl, -⟩ := hp.shape
      have HQ2 := Lib.hid (HQ.out _ _ hp)
      have HB3 := Lib.hid (HB2.out.trans (hb3.mono HB2.out.size))
      clear hp hb3 HP2 HQ HB2
      go_wp2_with fail
      refine HQ2.out.mono ?_
      rintro e w4 ⟨qv, rfl, hq, hb4, -⟩
      obtain ⟨q0, qc, rfl, -⟩ := hq.shape
      have HN : Hid (RBinRel n (i + 1) w (.slice q0 (nd 65536 (pascalN n (i + 1))) qc) w4) := ⟨hq, HB3.out.trans (hb4.mono HB3.out.size)⟩
      clear hq hb4 HQ2 HB3 HR
      go_wp2
      go_roundw
      case rel => exact ⟨i + 1, by omega, by go_num, HN.out⟩
      case measure => simp [intOf]; omega
    · obtain rfl : i = m := by omega
      clear hlt hci
      go_wp2
      go_ret
      exact ⟨_, rfl, by rw [← HM.out]; exact HR.out.1, HR.out.2⟩
end Go.Proofs.YtcmancfdlfhgbaaGreatDoor
namespace Go.Proofs.YtcmancfdlfhgbaaGreatDoor
open Go Go.RowKit Gu

set_option maxHeartbeats 1000000 in
theorem RLow_any (v u : Value) (a b : Nat) (w : World) (hv : R w v a) (hu : R w u b) (hb0 : 0 < b) (ha : nd 65536 a ≤ 1000) (hb : nd 65536 b ≤ 1000) :
    Calls Tryz.prog 44 #[v, u] w fun e w' => ∃ r s, e = .returned (.agg #[r, s]) ∧ R w' r (lowP a b) ∧ R w' s (lowQ a b) ∧ Below w.heap.size w w' := by
  have b1 : ∀ o, Below w.heap.size w (w.alloc o) := fun o => (Below.refl _ _).alloc (Nat.le_refl _) _
  by_cases h0 : a = 0
  · subst h0
    have e1 : lowP 0 b = 0 := by unfold lowP; rw [Nat.zero_div]
    have e2 : lowQ 0 b = 1 := by unfold lowQ; rw [Nat.gcd_zero_left, Nat.div_self hb0]
    rw [e1, e2]
    obtain ⟨ao, ac, rfl, -⟩ := hv.shape
    rw [nd_zero]
    have HB := Lib.hid b1
    clear hv hu b1
    go_enter Tryz.func44, Tryz.ntmps44
    go_wp2_with fail
    refine (Of_any 1 _ (by decide)).mono ?_
    rintro e w1 ⟨r, rfl, hr, hb1⟩
    obtain ⟨ro, rc, rfl, -⟩ := hr.shape
    have d0 : w1.cell? ⟨w.heap.size, 0, none⟩ = some (.slice none 0 0) := (hb1.cell (p := ⟨w.heap.size, 0, none⟩) (by simp)).trans (World.cell?_alloc_at _ _ _ _ rfl)
    have d1 : w1.cell? ⟨w.heap.size, 1, none⟩ = some (.slice none 0 0) := (hb1.cell (p := ⟨w.heap.size, 1, none⟩) (by simp)).trans (World.cell?_alloc_at _ _ _ _ rfl)
    have g0 : w1.frozen? ⟨w.heap.size, 0, none⟩ = false := (hb1.frozen (p := ⟨w.heap.size, 0, none⟩) (by simp)).trans (World.frozen?_alloc_at _ _ _ _ rfl)
    have g1 : w1.frozen? ⟨w.heap.size, 1, none⟩ = false := (hb1.frozen (p := ⟨w.heap.size, 1, none⟩) (by simp)).trans (World.frozen?_alloc_at _ _ _ _ rfl)
    obtain ⟨t0, t1⟩ := read_two d0 d1 (.slice none 0 0) (.slice ro (nd 65536 1) rc)
    have HX : Hid (R ((w1.setCell ⟨w.heap.size, 0, none⟩ (.slice none 0 0)).setCell ⟨w.heap.size, 1, none⟩ (.slice ro (nd 65536 1) rc)) (.slice ro (nd 65536 1) rc) 1) := IsN_setTwo hr d0 d1 (by intro d h; cases h) (by intro d h; cases h) _ _
    have HBE := Lib.hid ((((HB.out _).trans (hb1.mono (by simp))).setCell (p := ⟨w.heap.size, 0, none⟩) (Nat.le_refl _) (.slice none 0 0)).setCell (p := ⟨w.heap.size, 1, none⟩) (Nat.le_refl _) (.slice ro (nd 65536 1) rc))
    have T0 := Lib.hid t0; have T1 := Lib.hid t1
    clear hr hb1 t0 t1
    go_wp2
    have t0 := T0.out; have t1 := T1.out
    refine bodyPost_ret (v := .agg #[.slice none 0 0, .slice ro (nd 65536 1) rc]) (by simp [results, Tryz.results44, go_sem, t0, t1]) rfl ⟨_, _, rfl, IsN.zero _ _ _ _ _, HX.out, HBE.out⟩
  · have ha0 : 0 < a := Nat.pos_of_ne_zero h0
    have hg0 : 0 < Nat.gcd a b := Nat.gcd_pos_of_pos_left _ ha0
    have hg16 : nd 65536 (Nat.gcd a b) ≤ 1000 := Nat.le_trans (nd_mono (by decide) (Nat.gcd_le_left _ ha0)) ha
    have hl := nd_pos (B := 65536) (by decide) ha0
    have hq : ((((nd 65536 a : Nat)) : Int) == 0) = false := beq_eq_false_iff_ne.2 (by omega)
    have HG := Lib.hid (fun o => RGcd_any v u a b (w.alloc o) (hv.below (b1 o)) (hu.below (b1 o)) ha hb)
    have HD1 := Lib.hid (fun g W (h : Below w.heap.size w W) (h' : R W g (Nat.gcd a b)) => RDivMod_any v g a (Nat.gcd a b) W (hv.below h) h' hg0 (by omega) (by omega))
    have HD2 := Lib.hid (fun g W (h : Below w.heap.size w W) (h' : R W g (Nat.gcd a b)) => RDivMod_any u g b (Nat.gcd a b) W (hu.below h) h' hg0 (by omega) (by omega))
    rw [show a / Nat.gcd a b = lowP a b from rfl] at HD1
    rw [show b / Nat.gcd a b = lowQ a b from rfl] at HD2
    have HB := Lib.hid b1
    obtain ⟨ao, ac, rfl, -⟩ := hv.shape
    obtain ⟨bo, bc, rfl, -⟩ := hu.shape
    clear hv hu b1 h0 hg0 hg16 hl
    generalize lowP a b = P at *
    generalize lowQ a b = Q at *
    generalize a % Nat.gcd a b = m1 at *
    generalize b % Nat.gcd a b = m2 at *
    generalize Nat.gcd a b = G at *
    go_enter Tryz.func44, Tryz.ntmps44
    go_wp2_with fail
    refine (HG.out _).mono ?_
    rintro e w1 ⟨g, rfl, hg, hb1⟩
    obtain ⟨go, gc, rfl, -⟩ := hg.shape
    have HB1 := Lib.hid hb1; have HGG := Lib.hid hg
    have HW1 := Lib.hid ((HB.out _).trans (hb1.mono (by simp)))
    clear hg hb1
    go_wp2_with fail
    refine (HD1.out _ _ HW1.out HGG.out).mono ?_
    rintro e w2 ⟨p, m, rfl, hp, -, hb2⟩
    obtain ⟨po, pc, rfl, -⟩ := hp.shape
    have HB2 := Lib.hid (HB1.out.trans (hb2.mono HB1.out.size)); have HP := Lib.hid hp
    have HW2 := Lib.hid (HW1.out.trans (hb2.mono HW1.out.size)); have HG2 := Lib.hid (HGG.out.below hb2)
    clear hp hb2
    go_wp2_with fail
    refine (HD2.out _ _ HW2.out HG2.out).mono ?_
    rintro e w3 ⟨q, m', rfl, hq', -, hb3⟩
    obtain ⟨qo, qc, rfl, -⟩ := hq'.shape
    have hb := HB2.out.trans (hb3.mono HB2.out.size)
    have d0 : w3.cell? ⟨w.heap.size, 0, none⟩ = some (.slice none 0 0) := (hb.cell (p := ⟨w.heap.size, 0, none⟩) (by simp)).trans (World.cell?_alloc_at _ _ _ _ rfl)
    have d1 : w3.cell? ⟨w.heap.size, 1, none⟩ = some (.slice none 0 0) := (hb.cell (p := ⟨w.heap.size, 1, none⟩) (by simp)).trans (World.cell?_alloc_at _ _ _ _ rfl)
    have g0 : w3.frozen? ⟨w.heap.size, 0, none⟩ = false := (hb.frozen (p := ⟨w.heap.size, 0, none⟩) (by simp)).trans (World.frozen?_alloc_at _ _ _ _ rfl)
    have g1 : w3.frozen? ⟨w.heap.size, 1, none⟩ = false := (hb.frozen (p := ⟨w.heap.size, 1, none⟩) (by simp)).trans (World.frozen?_alloc_at _ _ _ _ rfl)
    obtain ⟨t0, t1⟩ := read_two d0 d1 (.slice po (nd 65536 P) pc) (.slice qo (nd 65536 Q) qc)
    have HX := Lib.hid (IsN_setTwo (HP.out.below hb3) d0 d1 (by intro d h; cases h) (by intro d h; cases h) (.slice po (nd 65536 P) pc) (.slice qo (nd 65536 Q) qc))
    have HY := Lib.hid (IsN_setTwo hq' d0 d1 (by intro d h; cases h) (by intro d h; cases h) (.slice po (nd 65536 P) pc) (.slice qo (nd 65536 Q) qc))
    have HBE := Lib.hid ((((HB.out _).trans (hb.mono (by simp))).setCell (p := ⟨w.heap.size, 0, none⟩) (Nat.le_refl _) (.slice po (nd 65536 P) pc)).setCell (p := ⟨w.heap.size, 1, none⟩) (Nat.le_refl _) (.slice qo (nd 65536 Q) qc))
    have T0 := Lib.hid t0; have T1 := Lib.hid t1
    clear hq' hb hb3 t0 t1
    go_wp2
    have t0 := T0.out; have t1 := T1.out
    refine bodyPost_ret (v := .agg #[.slice po (nd 65536 P) pc, .slice qo (nd 65536 Q) qc]) (by simp [results, Tryz.results44, go_sem, t0, t1]) rfl ⟨_, _, rfl, HX.out, HY.out, HBE.out⟩
/-- what a region over a fraction of the document keeps -/
structure StR (W0 : World) (v u : Value) (a b : Nat) (W : World) : Prop where
  n1 : R W v a
  n2 : R W u b
  bel : Below W0.heap.size W0 W
theorem StR.next {W0 W W' : World} {v u : Value} {a b : Nat} (h : StR W0 v u a b W) (hb : Below W.heap.size W W') : StR W0 v u a b W' :=
  ⟨h.n1.below hb, h.n2.below hb, h.bel.trans (hb.mono h.bel.size)⟩
theorem StR.cell {W0 W : World} {v u x : Value} {a b k o : Nat} (h : StR W0 v u a b W) (hk : k < W0.heap.size) (hc : W0.cell? ⟨k, o, none⟩ = some x) : W.cell? ⟨k, o, none⟩ = some x :=
  (h.bel.cell (p := ⟨k, o, none⟩) hk).trans hc
set_option maxHeartbeats 2000000 in
set_option maxRecDepth 100000 in
theorem RFText_any (v u : Value) (a b : Nat) (w : World) (hv : R w v a) (hu : R w u b) (ha : nd 65536 a ≤ 5000) (hb : nd 65536 b ≤ 5000) :
    Calls Tryz.prog 41 #[.agg #[v, u]] w fun e w' => e = .returned (.string ⟨(fracText a b).toArray⟩) ∧ Below w.heap.size w w' := by
  obtain ⟨W0, hW0⟩ : ∃ W0 : World, W0 = w.alloc (.cells #[v, u] 38) := ⟨_, rfl⟩
  have hz0 : W0.heap.size = w.heap.size + 1 := by rw [hW0]; simp
  have hbw : Below w.heap.size w W0 := by rw [hW0]; exact (Below.refl _ _).alloc (Nat.le_refl _) _
  have hst0 : StR W0 v u a b W0 := ⟨hv.below hbw, hu.below hbw, Below.refl _ _⟩
  have c0 : W0.cell? ⟨w.heap.size, 0, none⟩ = some v := by rw [hW0]; exact World.cell?_alloc_at _ _ _ _ rfl
  have c1 : W0.cell? ⟨w.heap.size, 1, none⟩ = some u := by rw [hW0]; exact World.cell?_alloc_at _ _ _ _ rfl
  have HCA : Hid (∀ W, StR W0 v u a b W → W.cell? ⟨w.heap.size, 0, none⟩ = some v ∧ W.cell? ⟨w.heap.size, 1, none⟩ = some u) := fun W h => ⟨h.cell (by omega) c0, h.cell (by omega) c1⟩
  have HOF : Hid (∀ W, StR W0 v u a b W → Calls Tryz.prog 72 #[.int .i64 1] W fun e w' => ∃ o l c, e = .returned (.slice o l c) ∧ R w' (.slice o l c) 1 ∧ StR W0 v u a b w') := fun W h =>
    (Of_any 1 W (by decide)).mono fun e w' ⟨r, he, hr, hB⟩ => by
      obtain ⟨ro, rc, rfl, -⟩ := hr.shape
      exact ⟨ro, _, rc, he, hr, h.next hB⟩
  have HCM : Hid (∀ W x, StR W0 v u a b W → R W x 1 → Calls Tryz.prog 67 #[u, x] W fun e w' => e = .returned (.int .i64 (cmpN ((b : Nat) : Int) ((1 : Nat) : Int))) ∧ StR W0 v u a b w') := fun W x h hx =>
    (RCmp_any u x b 1 W h.n2 hx (by omega) (by have := nd_le_self16 (n := 1) (by decide); omega)).mono fun e w' ⟨he, k, hw⟩ => ⟨he, by rw [hw]; exact h.next (below_drewN (Below.refl _ _) k)⟩
  obtain ⟨Sa, hSa⟩ : ∃ Sa : ByteArray, Sa = ⟨(Lib.decDigits a).toArray⟩ := ⟨_, rfl⟩
  obtain ⟨Sb, hSb⟩ : ∃ Sb : ByteArray, Sb = ⟨(Lib.decDigits b).toArray⟩ := ⟨_, rfl⟩
  have HTA : Hid (∀ W, StR W0 v u a b W → Calls Tryz.prog 73 #[v] W fun e w' => e = .returned (.string Sa) ∧ StR W0 v u a b w') := fun W h => by
    rw [hSa]; exact (Text_any v a W h.n1 (by omega)).mono fun e w' ⟨he, hB⟩ => ⟨he, h.next hB⟩
  have HTB : Hid (∀ W, StR W0 v u a b W → Calls Tryz.prog 73 #[u] W fun e w' => e = .returned (.string Sb) ∧ StR W0 v u a b w') := fun W h => by
    rw [hSb]; exact (Text_any u b W h.n2 (by omega)).mono fun e w' ⟨he, hB⟩ => ⟨he, h.next hB⟩
  have hla : Sa.size ≤ 1000000 := by rw [hSa, ← len_data]; exact dec_bound (m := 5000) (Nat.le_trans (nd_32 ha) (by decide)) (by decide) |> fun h => Nat.le_trans h (by decide)
  have hlb : Sb.size ≤ 1000000 := by rw [hSb, ← len_data]; exact dec_bound (m := 5000) (Nat.le_trans (nd_32 hb) (by decide)) (by decide) |> fun h => Nat.le_trans h (by decide)
  have HSA := Lib.hid hSa; have HSB := Lib.hid hSb
  have HBW := Lib.hid hbw; have HW0 := Lib.hid hW0
  have hs2 := hst0.next ((Below.refl _ W0).drew)
  have hc0 := HCA.out _ hst0
  have hc2 := HCA.out _ hs2
  obtain ⟨ao, ac, rfl, -⟩ := hv.shape
  obtain ⟨bo, bc, rfl, -⟩ := hu.shape
  clear hv hu hz0 hbw c0 c1 hW0 hSa hSb ha hb
  have hcase : (b = 1 ∧ cmpN ((b : Nat) : Int) ((1 : Nat) : Int) = 0) ∨ (b ≠ 1 ∧ ((cmpN ((b : Nat) : Int) ((1 : Nat) : Int)) == 0) = false) := by
    by_cases h : b = 1
    · exact .inl ⟨h, cmpN_eq (by omega)⟩
    · refine .inr ⟨h, beq_eq_false_iff_ne.2 ?_⟩
      rcases Nat.lt_or_gt_of_ne h with h' | h'
      · rw [cmpN_lt (by omega)]; decide
      · rw [cmpN_gt (by omega)]; decide
  have HK := Lib.hid hcase
  clear hcase
  generalize cmpN ((b : Nat) : Int) ((1 : Nat) : Int) = kk at *
  generalize nd 65536 a = la at *
  rcases HK.out with ⟨hb1, rfl⟩ | ⟨hb1, hk⟩
  · have HT : Hid (ByteArray.mk (fracText a b).toArray = Sa) := by show _ = _; unfold fracText; rw [if_pos hb1, HSA.out]
    rw [HT.out]
    clear hb1
    generalize nd 65536 b = lb at *
    go_enter Tryz.func41, Tryz.ntmps41
    go_wp2_with fail
    rw [← HW0.out]
    go_region_held3 (fun W : World => (W.cell? ⟨w.heap.size, 0, none⟩ = some (.slice ao la ac) ∧ W.cell? ⟨w.heap.size, 1, none⟩ = some (.slice bo lb bc)) ∧ StR W0 (.slice ao la ac) (.slice bo lb bc) a b W) (first | (refine And.intro ?_ ?_ <;> assumption)) (first
      | (go_at_call 72; with_reducible refine (HOF.out _ ?h).mono ?_; (case h => assumption); rintro e w' ⟨o1, l1, k1, rfl, hr', hs'⟩; have hc' := HCA.out _ hs')
      | (go_at_call 67; with_reducible refine (HCM.out _ _ ?h ?r).mono ?_; (case h => assumption); (case r => first | assumption | exact rchain (by assumption) (by assumption)); rintro e w' ⟨rfl, hs'⟩; have hc' := HCA.out _ hs'))
    all_goals
      have hT : StR W0 (.slice ao la ac) (.slice bo lb bc) a b w' := by assumption
      have hcx := HCA.out _ hT
      have HTT := Lib.hid hT
      clear hT
      go_wp2_with fail
      refine (HTA.out _ HTT.out).mono ?_
      rintro e w5 ⟨rfl, hs5⟩
      have HBE := Lib.hid (HBW.out.trans (hs5.bel.mono HBW.out.size))
      clear hs5
      go_wp2
      go_ret
      exact ⟨rfl, HBE.out⟩
  · have HT : Hid (ByteArray.mk (fracText a b).toArray = Sa ++ ⟨#[47]⟩ ++ Sb) := by
      show _ = _; unfold fracText; rw [if_neg hb1, HSA.out, HSB.out]; exact (slash _ _).symm
    rw [HT.out]
    have hadd1 : ∀ W : World, (Op.stringOp .add Sa ⟨#[47]⟩).run Tryz.prog W = .ok (.string (Sa ++ ⟨#[47]⟩)) W := fun W => run_string_add_sum W _ _ (by
      have e : (⟨#[47]⟩ : ByteArray).size = 1 := rfl
      rw [e]; omega)
    have hadd2 : ∀ W : World, (Op.stringOp .add (Sa ++ ⟨#[47]⟩) Sb).run Tryz.prog W = .ok (.string (Sa ++ ⟨#[47]⟩ ++ Sb)) W := fun W => run_string_add_sum W _ _ (by
      have e : (⟨#[47]⟩ : ByteArray).size = 1 := rfl
      rw [ByteArray.size_append, e]; omega)
    clear hb1
    generalize nd 65536 b = lb at *
    go_enter Tryz.func41, Tryz.ntmps41
    go_wp2_with fail
    rw [← HW0.out]
    go_region_held3 (fun W : World => (W.cell? ⟨w.heap.size, 0, none⟩ = some (.slice ao la ac) ∧ W.cell? ⟨w.heap.size, 1, none⟩ = some (.slice bo lb bc)) ∧ StR W0 (.slice ao la ac) (.slice bo lb bc) a b W) (first | (refine And.intro ?_ ?_ <;> assumption)) (first
      | (go_at_call 72; with_reducible refine (HOF.out _ ?h).mono ?_; (case h => assumption); rintro e w' ⟨o1, l1, k1, rfl, hr', hs'⟩; have hc' := HCA.out _ hs')
      | (go_at_call 67; with_reducible refine (HCM.out _ _ ?h ?r).mono ?_; (case h => assumption); (case r => first | assumption | exact rchain (by assumption) (by assumption)); rintro e w' ⟨rfl, hs'⟩; have hc' := HCA.out _ hs'))
    all_goals
      have hT : StR W0 (.slice ao la ac) (.slice bo lb bc) a b w' := by assumption
      have hcx := HCA.out _ hT
      have hs3 := hT.next ((Below.refl _ _).drew)
      have hcy := HCA.out _ hs3
      go_wp2_with fail
      go_region_held3 (fun W : World => (W.cell? ⟨w.heap.size, 0, none⟩ = some (.slice ao la ac) ∧ W.cell? ⟨w.heap.size, 1, none⟩ = some (.slice bo lb bc)) ∧ StR W0 (.slice ao la ac) (.slice bo lb bc) a b W) (first | (refine And.intro ?_ ?_ <;> assumption)) (first
        | (go_at_call 73; with_reducible refine (HTA.out _ ?h).mono ?_; (case h => assumption); rintro e w' ⟨rfl, hs'⟩; have hc' := HCA.out _ hs')
        | (go_at_call 73; with_reducible refine (HTB.out _ ?h).mono ?_; (case h => assumption); rintro e w' ⟨rfl, hs'⟩; have hc' := HCA.out _ hs'))
      all_goals
        have hT5 : StR W0 (.slice ao la ac) (.slice bo lb bc) a b w' := by assumption
        have HBE := Lib.hid (HBW.out.trans (hT5.bel.mono HBW.out.size))
        clear hT5
        go_wp2
        go_ret
        exact ⟨rfl, HBE.out⟩
end Go.Proofs.YtcmancfdlfhgbaaGreatDoor
namespace Go.Proofs.YtcmancfdlfhgbaaGreatDoor
open Go Go.RowKit Gu

/-- boxes (block, offset, value), the program's numbers, the document's numbers -/
structure Kq (cs : List (Nat × Nat × Value)) (ns rs : List (Value × Nat)) (w W : World) : Prop where
  num : ∀ p ∈ ns, D W p.1 p.2
  dig : ∀ p ∈ rs, R W p.1 p.2
  box : ∀ p ∈ cs, p.1 < W.heap.size ∧ W.cell? ⟨p.1, p.2.1, none⟩ = some p.2.2
  env : Env W
  bel : Below w.heap.size w W
section
variable {cs : List (Nat × Nat × Value)} {ns rs : List (Value × Nat)} {w W W' : World}
theorem Kq.start (he : Env w) : Kq [] [] [] w w := ⟨fun _ h => by simp at h, fun _ h => by simp at h, fun _ h => by simp at h, he, Below.refl _ _⟩
theorem Kq.next (h : Kq cs ns rs w W) (hb : Below W.heap.size W W') : Kq cs ns rs w W' :=
  ⟨fun p hp => (h.num p hp).below hb, fun p hp => (h.dig p hp).below hb, fun p hp => ⟨Nat.lt_of_lt_of_le (h.box p hp).1 hb.size, (hb.cell (p := ⟨p.1, p.2.1, none⟩) (h.box p hp).1).trans (h.box p hp).2⟩, h.env.below hb, h.bel.trans (hb.mono h.bel.size)⟩
theorem Kq.drewN (h : Kq cs ns rs w W) (q : Nat) : Kq cs ns rs w (W.drewN q) := h.next (below_drewN (Below.refl _ _) q)
theorem Kq.drew (h : Kq cs ns rs w W) : Kq cs ns rs w W.drew := h.next (Below.refl _ _).drew
theorem Kq.addNum (h : Kq cs ns rs w W) {v : Value} {n : Nat} (hv : D W v n) : Kq cs ((v, n) :: ns) rs w W :=
  ⟨fun p hp => by
    rcases List.mem_cons.1 hp with rfl | hp
    · exact hv
    · exact h.num p hp, h.dig, h.box, h.env, h.bel⟩
theorem Kq.addDig (h : Kq cs ns rs w W) {v : Value} {n : Nat} (hv : R W v n) : Kq cs ns ((v, n) :: rs) w W :=
  ⟨h.num, fun p hp => by
    rcases List.mem_cons.1 hp with rfl | hp
    · exact hv
    · exact h.dig p hp, h.box, h.env, h.bel⟩
theorem Kq.alloc (h : Kq cs ns rs w W) (o : Obj) : Kq cs ns rs w (W.alloc o) := h.next ((Below.refl _ _).alloc (Nat.le_refl _) _)
theorem Kq.addBox (h : Kq cs ns rs w W) {b o : Nat} {v : Value} (h1 : b < W.heap.size) (h2 : W.cell? ⟨b, o, none⟩ = some v) : Kq ((b, o, v) :: cs) ns rs w W :=
  ⟨h.num, h.dig, fun p hp => by
    rcases List.mem_cons.1 hp with rfl | hp
    · exact ⟨h1, h2⟩
    · exact h.box p hp, h.env, h.bel⟩
/-- a variable gets its box -/
theorem Kq.boxed (h : Kq cs ns rs w W) (v : Value) (T : TypeId) : Kq ((W.heap.size, 0, v) :: cs) ns rs w (W.alloc (.cells #[v] T)) :=
  (h.alloc _).addBox (by simp) (World.cell?_alloc_at _ _ _ _ rfl)
theorem Kq.boxed2 (h : Kq cs ns rs w W) (v u : Value) (T : TypeId) : Kq ((W.heap.size, 1, u) :: (W.heap.size, 0, v) :: cs) ns rs w (W.alloc (.cells #[v, u] T)) :=
  ((h.alloc _).addBox (by simp) (World.cell?_alloc_at _ _ _ _ rfl)).addBox (by simp) (World.cell?_alloc_at _ _ _ _ rfl)
theorem Kq.cell (h : Kq cs ns rs w W) {g o : Nat} {v : Value} (hm : (g, o, v) ∈ cs) : W.cell? ⟨g, o, none⟩ = some v := (h.box _ hm).2
theorem NCmp_Q {v u : Value} {a b : Nat} (h : Kq cs ns rs w W) (h1 : (v, a) ∈ ns) (h2 : (u, b) ∈ ns) (ha : nd 4294967296 a ≤ 1048576) (hb : nd 4294967296 b ≤ 1048576) :
    Calls Tryz.prog 63 #[.agg #[v], .agg #[u]] W fun e w' => e = .returned (.int .i64 (cmpN a b)) ∧ Kq cs ns rs w w' :=
  (NCmp_any _ _ a b W (h.num _ h1) (h.num _ h2) ha hb).mono fun _ _ ⟨he, hB⟩ => ⟨he, h.next hB⟩
theorem RCmp_Q {v u : Value} {a b : Nat} (h : Kq cs ns rs w W) (h1 : (v, a) ∈ rs) (h2 : (u, b) ∈ rs) (ha : nd 65536 a ≤ 1048576) (hb : nd 65536 b ≤ 1048576) :
    Calls Tryz.prog 67 #[v, u] W fun e w' => e = .returned (.int .i64 (cmpN a b)) ∧ Kq cs ns rs w w' :=
  (RCmp_any _ _ a b W (h.dig _ h1) (h.dig _ h2) ha hb).mono fun _ _ ⟨he, k, hw⟩ => ⟨he, by rw [hw]; exact h.drewN k⟩
end
end Go.Proofs.YtcmancfdlfhgbaaGreatDoor
namespace Go.Proofs.YtcmancfdlfhgbaaGreatDoor
open Go Go.RowKit Gu

/-- what same keeps: both fractions -/
structure StS (w : World) (v u r s : Value) (P Q : Nat) (W : World) : Prop where
  n1 : D W v P
  n2 : D W u Q
  d1 : R W r P
  d2 : R W s Q
  env : Env W
  bel : Below w.heap.size w W
theorem StS.next {w W W' : World} {v u r s : Value} {P Q : Nat} (h : StS w v u r s P Q W) (hb : Below W.heap.size W W') : StS w v u r s P Q W' :=
  ⟨h.n1.below hb, h.n2.below hb, h.d1.below hb, h.d2.below hb, h.env.below hb, h.bel.trans (hb.mono h.bel.size)⟩
theorem fracText_zero : (⟨(fracText 0 1).toArray⟩ : ByteArray) = ⟨#[48]⟩ := by
  unfold fracText
  rw [if_pos rfl, decDigits_small (by decide)]
  rfl
end Go.Proofs.YtcmancfdlfhgbaaGreatDoor
