/- Contracts and lemmas (several texts merged into one). -/
import Derived.Test.YteajinpfigejfaaGreatDoorBHgp7
import Derived.Test.YteajinpfigejfaaGreatDoorBHgp5
import Derived.Test.YteajinpfigejfaaGreatDoorBHgp6
import Derived.Deep.CutRange
import Derived.Test.YteajinpfigejfaaGreatDoorBHgp3
import Derived.Test.YteajinpfigejfaaGreatDoorRows
import Derived.ProofKit
import Derived.LaidMore
import Derived.LaidSub
import Derived.Lay
import Derived.OpenShut
import Derived.Lib.LaidTab
import Derived.Stop.Joined
namespace Go.Proofs.YteajinpfigejfaaGreatDoor
open Go Go.RowKit Gu

set_option maxHeartbeats 1000000 in
theorem RLow_any (v u : Value) (a b : Nat) (w : World) (hv : R w v a) (hu : R w u b) (hb0 : 0 < b) (ha : nd 65536 a ≤ 1000) (hb : nd 65536 b ≤ 1000) :
    Calls Tryz.prog 30 #[v, u] w fun e w' => ∃ r s, e = .returned (.agg #[r, s]) ∧ R w' r (lowP a b) ∧ R w' s (lowQ a b) ∧ Below w.heap.size w w' := by
  have b1 : ∀ o, Below w.heap.size w (w.alloc o) := fun o => (Below.refl _ _).alloc (Nat.le_refl _) _
  by_cases h0 : a = 0
  · subst h0
    have e1 : lowP 0 b = 0 := by unfold lowP; rw [Nat.zero_div]
    have e2 : lowQ 0 b = 1 := by unfold lowQ; rw [Nat.gcd_zero_left, Nat.div_self hb0]
    rw [e1, e2]
    obtain ⟨ao, ac, rfl, -⟩ := hv.shape
    rw [nd_zero]
    have HB := Lib.hid b1
    clear hv hu b1
    go_enter Tryz.func30, Tryz.ntmps30
    go_wp2_with fail
    refine (Of_any 1 _ (by decide)).mono ?_
    rintro e w1 ⟨r, rfl, hr, hb1⟩
    obtain ⟨ro, rc, rfl, -⟩ := hr.shape
    have d0 : w1.cell? ⟨w.heap.size, 0, none⟩ = some (.slice none 0 0) := (hb1.cell (p := ⟨w.heap.size, 0, none⟩) (by simp)).trans (World.cell?_alloc_at _ _ _ _ rfl)
    have d1 : w1.cell? ⟨w.heap.size, 1, none⟩ = some (.slice none 0 0) := (hb1.cell (p := ⟨w.heap.size, 1, none⟩) (by simp)).trans (World.cell?_alloc_at _ _ _ _ rfl)
    have g0 : w1.frozen? ⟨w.heap.size, 0, none⟩ = false := (hb1.frozen (p := ⟨w.heap.size, 0, none⟩) (by simp)).trans (World.frozen?_alloc_at _ _ _ _ rfl)
    have g1 : w1.frozen? ⟨w.heap.size, 1, none⟩ = false := (hb1.frozen (p := ⟨w.heap.size, 1, none⟩) (by simp)).trans (World.frozen?_alloc_at _ _ _ _ rfl)
    obtain ⟨t0, t1⟩ := read_two d0 d1 (.slice none 0 0) (.slice ro (nd 65536 1) rc)
    have HX : Hid (R ((w1.setCell ⟨w.heap.size, 0, none⟩ (.slice none 0 0)).setCell ⟨w.heap.size, 1, none⟩ (.slice ro (nd 65536 1) rc)) (.slice ro (nd 65536 1) rc) 1) := IsN_setTwo hr d0 d1 (by intro d h; cases h) (by intro d h; cases h) _ _
    have HBE := Lib.hid ((((HB.out _).trans (hb1.mono (by simp))).setCell (p := ⟨w.heap.size, 0, none⟩) (Nat.le_refl _) (.slice none 0 0)).setCell (p := ⟨w.heap.size, 1, none⟩) (Nat.le_refl _) (.slice ro (nd 65536 1) rc))
    have T0 := Lib.hid t0; have T1 := Lib.hid t1
    clear hr hb1 t0 t1
    go_wp2
    have t0 := T0.out; have t1 := T1.out
    refine bodyPost_ret (v := .agg #[.slice none 0 0, .slice ro (nd 65536 1) rc]) (by simp [results, Tryz.results30, go_sem, t0, t1]) rfl ⟨_, _, rfl, IsN.zero _ _ _ _ _, HX.out, HBE.out⟩
  · have ha0 : 0 < a := Nat.pos_of_ne_zero h0
    have hg0 : 0 < Nat.gcd a b := Nat.gcd_pos_of_pos_left _ ha0
    have hg16 : nd 65536 (Nat.gcd a b) ≤ 1000 := Nat.le_trans (nd_mono (by decide) (Nat.gcd_le_left _ ha0)) ha
    have hl := nd_pos (B := 65536) (by decide) ha0
    have hq : ((((nd 65536 a : Nat)) : Int) == 0) = false := beq_eq_false_iff_ne.2 (by omega)
    have HG := Lib.hid (fun o => RGcd_any v u a b (w.alloc o) (hv.below (b1 o)) (hu.below (b1 o)) ha hb)
    have HD1 := Lib.hid (fun g W (h : Below w.heap.size w W) (h' : R W g (Nat.gcd a b)) => RDivMod_any v g a (Nat.gcd a b) W (hv.below h) h' hg0 (by omega) (by omega))
    have HD2 := Lib.hid (fun g W (h : Below w.heap.size w W) (h' : R W g (Nat.gcd a b)) => RDivMod_any u g b (Nat.gcd a b) W (hu.below h) h' hg0 (by omega) (by omega))
    rw [show a / Nat.gcd a b = lowP a b from rfl] at HD1
    rw [show b / Nat.gcd a b = lowQ a b from rfl] at HD2
    have HB := Lib.hid b1
    obtain ⟨ao, ac, rfl, -⟩ := hv.shape
    obtain ⟨bo, bc, rfl, -⟩ := hu.shape
    clear hv hu b1 h0 hg0 hg16 hl
    generalize lowP a b = P at *
    generalize lowQ a b = Q at *
    generalize a % Nat.gcd a b = m1 at *
    generalize b % Nat.gcd a b = m2 at *
    generalize Nat.gcd a b = G at *
    go_enter Tryz.func30, Tryz.ntmps30
    go_wp2_with fail
    refine (HG.out _).mono ?_
    rintro e w1 ⟨g, rfl, hg, hb1⟩
    obtain ⟨go, gc, rfl, -⟩ := hg.shape
    have HB1 := Lib.hid hb1; have HGG := Lib.hid hg
    have HW1 := Lib.hid ((HB.out _).trans (hb1.mono (by simp)))
    clear hg hb1
    go_wp2_with fail
    refine (HD1.out _ _ HW1.out HGG.out).mono ?_
    rintro e w2 ⟨p, m, rfl, hp, -, hb2⟩
    obtain ⟨po, pc, rfl, -⟩ := hp.shape
    have HB2 := Lib.hid (HB1.out.trans (hb2.mono HB1.out.size)); have HP := Lib.hid hp
    have HW2 := Lib.hid (HW1.out.trans (hb2.mono HW1.out.size)); have HG2 := Lib.hid (HGG.out.below hb2)
    clear hp hb2
    go_wp2_with fail
    refine (HD2.out _ _ HW2.out HG2.out).mono ?_
    rintro e w3 ⟨q, m', rfl, hq', -, hb3⟩
    obtain ⟨qo, qc, rfl, -⟩ := hq'.shape
    have hb := HB2.out.trans (hb3.mono HB2.out.size)
    have d0 : w3.cell? ⟨w.heap.size, 0, none⟩ = some (.slice none 0 0) := (hb.cell (p := ⟨w.heap.size, 0, none⟩) (by simp)).trans (World.cell?_alloc_at _ _ _ _ rfl)
    have d1 : w3.cell? ⟨w.heap.size, 1, none⟩ = some (.slice none 0 0) := (hb.cell (p := ⟨w.heap.size, 1, none⟩) (by simp)).trans (World.cell?_alloc_at _ _ _ _ rfl)
    have g0 : w3.frozen? ⟨w.heap.size, 0, none⟩ = false := (hb.frozen (p := ⟨w.heap.size, 0, none⟩) (by simp)).trans (World.frozen?_alloc_at _ _ _ _ rfl)
    have g1 : w3.frozen? ⟨w.heap.size, 1, none⟩ = false := (hb.frozen (p := ⟨w.heap.size, 1, none⟩) (by simp)).trans (World.frozen?_alloc_at _ _ _ _ rfl)
    obtain ⟨t0, t1⟩ := read_two d0 d1 (.slice po (nd 65536 P) pc) (.slice qo (nd 65536 Q) qc)
    have HX := Lib.hid (IsN_setTwo (HP.out.below hb3) d0 d1 (by intro d h; cases h) (by intro d h; cases h) (.slice po (nd 65536 P) pc) (.slice qo (nd 65536 Q) qc))
    have HY := Lib.hid (IsN_setTwo hq' d0 d1 (by intro d h; cases h) (by intro d h; cases h) (.slice po (nd 65536 P) pc) (.slice qo (nd 65536 Q) qc))
    have HBE := Lib.hid ((((HB.out _).trans (hb.mono (by simp))).setCell (p := ⟨w.heap.size, 0, none⟩) (Nat.le_refl _) (.slice po (nd 65536 P) pc)).setCell (p := ⟨w.heap.size, 1, none⟩) (Nat.le_refl _) (.slice qo (nd 65536 Q) qc))
    have T0 := Lib.hid t0; have T1 := Lib.hid t1
    clear hq' hb hb3 t0 t1
    go_wp2
    have t0 := T0.out; have t1 := T1.out
    refine bodyPost_ret (v := .agg #[.slice po (nd 65536 P) pc, .slice qo (nd 65536 Q) qc]) (by simp [results, Tryz.results30, go_sem, t0, t1]) rfl ⟨_, _, rfl, HX.out, HY.out, HBE.out⟩
/-- what a region over a fraction of the document keeps -/
structure StR (W0 : World) (v u : Value) (a b : Nat) (W : World) : Prop where
  n1 : R W v a
  n2 : R W u b
  bel : Below W0.heap.size W0 W
theorem StR.next {W0 W W' : World} {v u : Value} {a b : Nat} (h : StR W0 v u a b W) (hb : Below W.heap.size W W') : StR W0 v u a b W' :=
  ⟨h.n1.below hb, h.n2.below hb, h.bel.trans (hb.mono h.bel.size)⟩
theorem StR.cell {W0 W : World} {v u x : Value} {a b k o : Nat} (h : StR W0 v u a b W) (hk : k < W0.heap.size) (hc : W0.cell? ⟨k, o, none⟩ = some x) : W.cell? ⟨k, o, none⟩ = some x :=
  (h.bel.cell (p := ⟨k, o, none⟩) hk).trans hc
set_option maxHeartbeats 2000000 in
set_option maxRecDepth 100000 in
theorem RFText_any (v u : Value) (a b : Nat) (w : World) (hv : R w v a) (hu : R w u b) (ha : nd 65536 a ≤ 5000) (hb : nd 65536 b ≤ 5000) :
    Calls Tryz.prog 39 #[.agg #[v, u]] w fun e w' => e = .returned (.string ⟨(fracText a b).toArray⟩) ∧ Below w.heap.size w w' := by
  obtain ⟨W0, hW0⟩ : ∃ W0 : World, W0 = w.alloc (.cells #[v, u] 29) := ⟨_, rfl⟩
  have hz0 : W0.heap.size = w.heap.size + 1 := by rw [hW0]; simp
  have hbw : Below w.heap.size w W0 := by rw [hW0]; exact (Below.refl _ _).alloc (Nat.le_refl _) _
  have hst0 : StR W0 v u a b W0 := ⟨hv.below hbw, hu.below hbw, Below.refl _ _⟩
  have c0 : W0.cell? ⟨w.heap.size, 0, none⟩ = some v := by rw [hW0]; exact World.cell?_alloc_at _ _ _ _ rfl
  have c1 : W0.cell? ⟨w.heap.size, 1, none⟩ = some u := by rw [hW0]; exact World.cell?_alloc_at _ _ _ _ rfl
  have HCA : Hid (∀ W, StR W0 v u a b W → W.cell? ⟨w.heap.size, 0, none⟩ = some v ∧ W.cell? ⟨w.heap.size, 1, none⟩ = some u) := fun W h => ⟨h.cell (by omega) c0, h.cell (by omega) c1⟩
  have HOF : Hid (∀ W, StR W0 v u a b W → Calls Tryz.prog 11 #[.int .i64 1] W fun e w' => ∃ o l c, e = .returned (.slice o l c) ∧ R w' (.slice o l c) 1 ∧ StR W0 v u a b w') := fun W h =>
    (Of_any 1 W (by decide)).mono fun e w' ⟨r, he, hr, hB⟩ => by
      obtain ⟨ro, rc, rfl, -⟩ := hr.shape
      exact ⟨ro, _, rc, he, hr, h.next hB⟩
  have HCM : Hid (∀ W x, StR W0 v u a b W → R W x 1 → Calls Tryz.prog 10 #[u, x] W fun e w' => e = .returned (.int .i64 (cmpN ((b : Nat) : Int) ((1 : Nat) : Int))) ∧ StR W0 v u a b w') := fun W x h hx =>
    (RCmp_any u x b 1 W h.n2 hx (by omega) (by have := nd_le_self16 (n := 1) (by decide); omega)).mono fun e w' ⟨he, k, hw⟩ => ⟨he, by rw [hw]; exact h.next (below_drewN (Below.refl _ _) k)⟩
  obtain ⟨Sa, hSa⟩ : ∃ Sa : ByteArray, Sa = ⟨(Lib.decDigits a).toArray⟩ := ⟨_, rfl⟩
  obtain ⟨Sb, hSb⟩ : ∃ Sb : ByteArray, Sb = ⟨(Lib.decDigits b).toArray⟩ := ⟨_, rfl⟩
  have HTA : Hid (∀ W, StR W0 v u a b W → Calls Tryz.prog 75 #[v] W fun e w' => e = .returned (.string Sa) ∧ StR W0 v u a b w') := fun W h => by
    rw [hSa]; exact (Text_any v a W h.n1 (by omega)).mono fun e w' ⟨he, hB⟩ => ⟨he, h.next hB⟩
  have HTB : Hid (∀ W, StR W0 v u a b W → Calls Tryz.prog 75 #[u] W fun e w' => e = .returned (.string Sb) ∧ StR W0 v u a b w') := fun W h => by
    rw [hSb]; exact (Text_any u b W h.n2 (by omega)).mono fun e w' ⟨he, hB⟩ => ⟨he, h.next hB⟩
  have hla : Sa.size ≤ 1000000 := by rw [hSa, ← len_data]; exact dec_bound (m := 5000) (Nat.le_trans (nd_32 ha) (by decide)) (by decide) |> fun h => Nat.le_trans h (by decide)
  have hlb : Sb.size ≤ 1000000 := by rw [hSb, ← len_data]; exact dec_bound (m := 5000) (Nat.le_trans (nd_32 hb) (by decide)) (by decide) |> fun h => Nat.le_trans h (by decide)
  have HSA := Lib.hid hSa; have HSB := Lib.hid hSb
  have HBW := Lib.hid hbw; have HW0 := Lib.hid hW0
  have hs2 := hst0.next ((Below.refl _ W0).drew)
  have hc0 := HCA.out _ hst0
  have hc2 := HCA.out _ hs2
  obtain ⟨ao, ac, rfl, -⟩ := hv.shape
  obtain ⟨bo, bc, rfl, -⟩ := hu.shape
  clear hv hu hz0 hbw c0 c1 hW0 hSa hSb ha hb
  have hcase : (b = 1 ∧ cmpN ((b : Nat) : Int) ((1 : Nat) : Int) = 0) ∨ (b ≠ 1 ∧ ((cmpN ((b : Nat) : Int) ((1 : Nat) : Int)) == 0) = false) := by
    by_cases h : b = 1
    · exact .inl ⟨h, cmpN_eq (by omega)⟩
    · refine .inr ⟨h, beq_eq_false_iff_ne.2 ?_⟩
      rcases Nat.lt_or_gt_of_ne h with h' | h'
      · rw [cmpN_lt (by omega)]; decide
      · rw [cmpN_gt (by omega)]; decide
  have HK := Lib.hid hcase
  clear hcase
  generalize cmpN ((b : Nat) : Int) ((1 : Nat) : Int) = kk at *
  generalize nd 65536 a = la at *
  rcases HK.out with ⟨hb1, rfl⟩ | ⟨hb1, hk⟩
  · have HT : Hid (ByteArray.mk (fracText a b).toArray = Sa) := by show _ = _; unfold fracText; rw [if_pos hb1, HSA.out]
    rw [HT.out]
    clear hb1
    generalize nd 65536 b = lb at *
    go_enter Tryz.func39, Tryz.ntmps39
    go_wp2_with fail
    rw [← HW0.out]
    go_region_held3 (fun W : World => (W.cell? ⟨w.heap.size, 0, none⟩ = some (.slice ao la ac) ∧ W.cell? ⟨w.heap.size, 1, none⟩ = some (.slice bo lb bc)) ∧ StR W0 (.slice ao la ac) (.slice bo lb bc) a b W) (first | (refine And.intro ?_ ?_ <;> assumption)) (first
      | (go_at_call 11; with_reducible refine (HOF.out _ ?h).mono ?_; (case h => assumption); rintro e w' ⟨o1, l1, k1, rfl, hr', hs'⟩; have hc' := HCA.out _ hs')
      | (go_at_call 10; with_reducible refine (HCM.out _ _ ?h ?r).mono ?_; (case h => assumption); (case r => first | assumption | exact rchain (by assumption) (by assumption)); rintro e w' ⟨rfl, hs'⟩; have hc' := HCA.out _ hs'))
    all_goals
      have hT : StR W0 (.slice ao la ac) (.slice bo lb bc) a b w' := by assumption
      have hcx := HCA.out _ hT
      have HTT := Lib.hid hT
      clear hT
      go_wp2_with fail
      refine (HTA.out _ HTT.out).mono ?_
      rintro e w5 ⟨rfl, hs5⟩
      have HBE := Lib.hid (HBW.out.trans (hs5.bel.mono HBW.out.size))
      clear hs5
      go_wp2
      go_ret
      exact ⟨rfl, HBE.out⟩
  · have HT : Hid (ByteArray.mk (fracText a b).toArray = Sa ++ ⟨#[47]⟩ ++ Sb) := by
      show _ = _; unfold fracText; rw [if_neg hb1, HSA.out, HSB.out]; exact (slash _ _).symm
    rw [HT.out]
    have hadd1 : ∀ W : World, (Op.stringOp .add Sa ⟨#[47]⟩).run Tryz.prog W = .ok (.string (Sa ++ ⟨#[47]⟩)) W := fun W => run_string_add_sum W _ _ (by
      have e : (⟨#[47]⟩ : ByteArray).size = 1 := rfl
      rw [e]; omega)
    have hadd2 : ∀ W : World, (Op.stringOp .add (Sa ++ ⟨#[47]⟩) Sb).run Tryz.prog W = .ok (.string (Sa ++ ⟨#[47]⟩ ++ Sb)) W := fun W => run_string_add_sum W _ _ (by
      have e : (⟨#[47]⟩ : ByteArray).size = 1 := rfl
      rw [ByteArray.size_append, e]; omega)
    clear hb1
    generalize nd 65536 b = lb at *
    go_enter Tryz.func39, Tryz.ntmps39
    go_wp2_with fail
    rw [← HW0.out]
    go_region_held3 (fun W : World => (W.cell? ⟨w.heap.size, 0, none⟩ = some (.slice ao la ac) ∧ W.cell? ⟨w.heap.size, 1, none⟩ = some (.slice bo lb bc)) ∧ StR W0 (.slice ao la ac) (.slice bo lb bc) a b W) (first | (refine And.intro ?_ ?_ <;> assumption)) (first
      | (go_at_call 11; with_reducible refine (HOF.out _ ?h).mono ?_; (case h => assumption); rintro e w' ⟨o1, l1, k1, rfl, hr', hs'⟩; have hc' := HCA.out _ hs')
      | (go_at_call 10; with_reducible refine (HCM.out _ _ ?h ?r).mono ?_; (case h => assumption); (case r => first | assumption | exact rchain (by assumption) (by assumption)); rintro e w' ⟨rfl, hs'⟩; have hc' := HCA.out _ hs'))
    all_goals
      have hT : StR W0 (.slice ao la ac) (.slice bo lb bc) a b w' := by assumption
      have hcx := HCA.out _ hT
      have hs3 := hT.next ((Below.refl _ _).drew)
      have hcy := HCA.out _ hs3
      go_wp2_with fail
      go_region_held3 (fun W : World => (W.cell? ⟨w.heap.size, 0, none⟩ = some (.slice ao la ac) ∧ W.cell? ⟨w.heap.size, 1, none⟩ = some (.slice bo lb bc)) ∧ StR W0 (.slice ao la ac) (.slice bo lb bc) a b W) (first | (refine And.intro ?_ ?_ <;> assumption)) (first
        | (go_at_call 75; with_reducible refine (HTA.out _ ?h).mono ?_; (case h => assumption); rintro e w' ⟨rfl, hs'⟩; have hc' := HCA.out _ hs')
        | (go_at_call 75; with_reducible refine (HTB.out _ ?h).mono ?_; (case h => assumption); rintro e w' ⟨rfl, hs'⟩; have hc' := HCA.out _ hs'))
      all_goals
        have hT5 : StR W0 (.slice ao la ac) (.slice bo lb bc) a b w' := by assumption
        have HBE := Lib.hid (HBW.out.trans (hT5.bel.mono HBW.out.size))
        clear hT5
        go_wp2
        go_ret
        exact ⟨rfl, HBE.out⟩
end Go.Proofs.YteajinpfigejfaaGreatDoor
namespace Go.Proofs.YteajinpfigejfaaGreatDoor
open Go Go.RowKit Gu

/-- what same keeps: both fractions -/
structure StS (w : World) (v u r s : Value) (P Q : Nat) (W : World) : Prop where
  n1 : D W v P
  n2 : D W u Q
  d1 : R W r P
  d2 : R W s Q
  env : Env W
  bel : Below w.heap.size w W
theorem StS.next {w W W' : World} {v u r s : Value} {P Q : Nat} (h : StS w v u r s P Q W) (hb : Below W.heap.size W W') : StS w v u r s P Q W' :=
  ⟨h.n1.below hb, h.n2.below hb, h.d1.below hb, h.d2.below hb, h.env.below hb, h.bel.trans (hb.mono h.bel.size)⟩
theorem fracText_zero : (⟨(fracText 0 1).toArray⟩ : ByteArray) = ⟨#[48]⟩ := by
  unfold fracText
  rw [if_pos rfl, decDigits_small (by decide)]
  rfl
set_option maxHeartbeats 1000000 in
theorem same_err (v u r s : Value) (n : Int) (w : World) (hv : D w v 0) (hu : D w u 0) (hn : n ≠ 0) (hr : ∃ a, R w r a) (hs : ∃ b, R w s b) (he : Env w) :
    Calls Tryz.prog 9 #[.agg #[v, u], .int .i64 n, .agg #[r, s], .int .i64 n] w fun e w' => e = .returned (.bool true) ∧ Below w.heap.size w w' := by
  have b2 : ∀ o1 o2, Below w.heap.size w ((w.alloc o1).alloc o2) := fun o1 o2 => ((Below.refl _ _).alloc (Nat.le_refl _) _).alloc (by simp) _
  have HST := Lib.hid (fun o1 o2 => FracString_any v u 0 0 ((w.alloc o1).alloc o2) (hv.below (b2 o1 o2)) (hu.below (b2 o1 o2)) (by rw [nd_zero]; omega) (by rw [nd_zero]; omega) (he.below (b2 o1 o2)))
  rw [show dn 0 = 1 from rfl, fracText_zero] at HST
  have HB := Lib.hid b2
  have hq : (n == 0) = false := beq_eq_false_iff_ne.2 hn
  obtain ⟨ao, ac, rfl, -⟩ := hv.shape
  obtain ⟨bo, bc, rfl, -⟩ := hu.shape
  obtain ⟨ra, hr⟩ := hr
  obtain ⟨sa, hs⟩ := hs
  obtain ⟨ro, rc, rfl, -⟩ := hr.shape
  obtain ⟨so, sc, rfl, -⟩ := hs.shape
  clear hv hu hr hs b2 hn
  generalize nd 65536 ra = la at *
  generalize nd 65536 sa = lb at *
  go_enter Tryz.func9, Tryz.ntmps9
  go_wp2_with fail
  refine (HST.out _ _).mono ?_
  rintro e w1 ⟨rfl, hb⟩
  have HBE := Lib.hid ((HB.out _ _).trans (hb.mono (HB.out _ _).size))
  clear hb
  go_wp2
  go_ret
  exact ⟨by simp, HBE.out⟩
set_option maxHeartbeats 2000000 in
set_option maxRecDepth 100000 in
theorem same_ok (v u r s : Value) (P Q : Nat) (w : World) (hv : D w v P) (hu : D w u Q) (hr : R w r P) (hs : R w s Q) (hQ : 0 < Q) (h1 : nd 65536 P ≤ 5000) (h2 : nd 65536 Q ≤ 5000) (he : Env w) :
    Calls Tryz.prog 9 #[.agg #[v, u], .int .i64 0, .agg #[r, s], .int .i64 0] w fun e w' => e = .returned (.bool true) ∧ Below w.heap.size w w' := by
  have k1 := nd_32 h1
  have k2 := nd_32 h2
  obtain ⟨W0, hW0⟩ : ∃ W0 : World, W0 = (w.alloc (.cells #[v, u] 26)).alloc (.cells #[r, s] 29) := ⟨_, rfl⟩
  have hz0 : W0.heap.size = w.heap.size + 2 := by rw [hW0]; simp
  have hbw : Below w.heap.size w W0 := by rw [hW0]; exact ((Below.refl _ _).alloc (Nat.le_refl _) _).alloc (by simp) _
  have hst0 : StS W0 v u r s P Q W0 := ⟨hv.below hbw, hu.below hbw, hr.below hbw, hs.below hbw, he.below hbw, Below.refl _ _⟩
  have ca : ∀ W, Below W0.heap.size W0 W → W.cell? ⟨w.heap.size, 0, none⟩ = some v ∧ W.cell? ⟨w.heap.size, 1, none⟩ = some u ∧ W.cell? ⟨w.heap.size + 1, 0, none⟩ = some r ∧ W.cell? ⟨w.heap.size + 1, 1, none⟩ = some s := fun W hb => by
    have e0 : W0.cell? ⟨w.heap.size, 0, none⟩ = some v := by rw [hW0]; exact (World.cell?_alloc_past _ _ _ (by simp)).trans (World.cell?_alloc_at _ _ _ _ rfl)
    have e1 : W0.cell? ⟨w.heap.size, 1, none⟩ = some u := by rw [hW0]; exact (World.cell?_alloc_past _ _ _ (by simp)).trans (World.cell?_alloc_at _ _ _ _ rfl)
    have e2 : W0.cell? ⟨w.heap.size + 1, 0, none⟩ = some r := by rw [hW0]; exact World.cell?_alloc_at _ _ _ _ (by simp)
    have e3 : W0.cell? ⟨w.heap.size + 1, 1, none⟩ = some s := by rw [hW0]; exact World.cell?_alloc_at _ _ _ _ (by simp)
    exact ⟨(hb.cell (p := ⟨w.heap.size, 0, none⟩) (by show w.heap.size < _; omega)).trans e0, (hb.cell (p := ⟨w.heap.size, 1, none⟩) (by show w.heap.size < _; omega)).trans e1, (hb.cell (p := ⟨w.heap.size + 1, 0, none⟩) (by show w.heap.size + 1 < _; omega)).trans e2, (hb.cell (p := ⟨w.heap.size + 1, 1, none⟩) (by show w.heap.size + 1 < _; omega)).trans e3⟩
  have HCA : Hid (∀ W, StS W0 v u r s P Q W → W.cell? ⟨w.heap.size, 0, none⟩ = some v ∧ W.cell? ⟨w.heap.size, 1, none⟩ = some u ∧ W.cell? ⟨w.heap.size + 1, 0, none⟩ = some r ∧ W.cell? ⟨w.heap.size + 1, 1, none⟩ = some s) := fun W h => ca W h.bel
  obtain ⟨S, hS⟩ : ∃ S : ByteArray, S = ⟨(fracText P Q).toArray⟩ := ⟨_, rfl⟩
  have HSA : Hid (∀ W, StS W0 v u r s P Q W → Calls Tryz.prog 23 #[.agg #[v, u]] W fun e w' => e = .returned (.string S) ∧ StS W0 v u r s P Q w') := fun W h => by
    have h3 := FracString_any v u P Q W h.n1 h.n2 (by omega) (by omega) h.env
    rw [dn_of hQ, ← hS] at h3
    exact h3.mono fun e w' ⟨he, hB⟩ => ⟨he, h.next hB⟩
  have HSB : Hid (∀ W, StS W0 v u r s P Q W → Calls Tryz.prog 39 #[.agg #[r, s]] W fun e w' => e = .returned (.string S) ∧ StS W0 v u r s P Q w') := fun W h => by
    rw [hS]
    exact (RFText_any r s P Q W h.d1 h.d2 (by omega) (by omega)).mono fun e w' ⟨he, hB⟩ => ⟨he, h.next hB⟩
  have HBW := Lib.hid hbw; have HW0 := Lib.hid hW0
  have hs2 := hst0.next ((Below.refl _ W0).drew)
  have hc0 := HCA.out _ hst0
  have hc2 := HCA.out _ hs2
  obtain ⟨ao, ac, rfl, -⟩ := hv.shape
  obtain ⟨bo, bc, rfl, -⟩ := hu.shape
  obtain ⟨ro, rc, rfl, -⟩ := hr.shape
  obtain ⟨so, sc, rfl, -⟩ := hs.shape
  clear hv hu hr hs hz0 hbw hW0 hS ca he k1 k2 h1 h2 hQ
  generalize nd 4294967296 P = la at *
  generalize nd 4294967296 Q = lb at *
  generalize nd 65536 P = lc at *
  generalize nd 65536 Q = ld at *
  go_enter Tryz.func9, Tryz.ntmps9
  go_wp2_with fail
  rw [← HW0.out]
  go_region_held3 (fun W : World => (W.cell? ⟨w.heap.size, 0, none⟩ = some (.slice ao la ac) ∧ W.cell? ⟨w.heap.size, 1, none⟩ = some (.slice bo lb bc) ∧ W.cell? ⟨w.heap.size + 1, 0, none⟩ = some (.slice ro lc rc) ∧ W.cell? ⟨w.heap.size + 1, 1, none⟩ = some (.slice so ld sc)) ∧ StS W0 (.slice ao la ac) (.slice bo lb bc) (.slice ro lc rc) (.slice so ld sc) P Q W) (first | (refine And.intro ?_ ?_ <;> assumption)) (first
    | (go_at_call 23; with_reducible refine (HSA.out _ ?h).mono ?_; (case h => assumption); rintro e w' ⟨rfl, hs'⟩; have hc' := HCA.out _ hs')
    | (go_at_call 39; with_reducible refine (HSB.out _ ?h).mono ?_; (case h => assumption); rintro e w' ⟨rfl, hs'⟩; have hc' := HCA.out _ hs'))
  all_goals
    have hT : StS W0 (.slice ao la ac) (.slice bo lb bc) (.slice ro lc rc) (.slice so ld sc) P Q w' := by assumption
    have HBE := Lib.hid (HBW.out.trans (hT.bel.mono HBW.out.size))
    clear hT
    go_wp2
    go_ret
    exact ⟨by simp, HBE.out⟩
end Go.Proofs.YteajinpfigejfaaGreatDoor
namespace Go.Proofs.YteajinpfigejfaaGreatDoor
open Go Go.RowKit Gu

/-- what the end of a function with two results of two cells reads -/
theorem half_end {w W : World} {a0 a1 a2 a3 : Value} (d0 : W.cell? ⟨w.heap.size, 0, none⟩ = some a0) (d1 : W.cell? ⟨w.heap.size, 1, none⟩ = some a1) (d2 : W.cell? ⟨w.heap.size + 1, 0, none⟩ = some a2) (d3 : W.cell? ⟨w.heap.size + 1, 1, none⟩ = some a3) (hb : Below w.heap.size w W) (x y p q : Value) :
    let W4 := (((W.setCell ⟨w.heap.size, 0, none⟩ x).setCell ⟨w.heap.size, 1, none⟩ y).setCell ⟨w.heap.size + 1, 0, none⟩ p).setCell ⟨w.heap.size + 1, 1, none⟩ q
    W4.cell? ⟨w.heap.size, 0, none⟩ = some x ∧ W4.cell? ⟨w.heap.size, 1, none⟩ = some y ∧ W4.cell? ⟨w.heap.size + 1, 0, none⟩ = some p ∧ W4.cell? ⟨w.heap.size + 1, 1, none⟩ = some q ∧ Below w.heap.size w W4 := by
  obtain ⟨t0, t1⟩ := read_two d0 d1 x y
  have far : ∀ o, (w.heap.size + 1) ≠ (⟨w.heap.size, o, none⟩ : Addr).block := fun o => by show w.heap.size + 1 ≠ w.heap.size; omega
  have far' : ∀ o, (w.heap.size) ≠ (⟨w.heap.size + 1, o, none⟩ : Addr).block := fun o => by show w.heap.size ≠ w.heap.size + 1; omega
  have e2 : ((W.setCell ⟨w.heap.size, 0, none⟩ x).setCell ⟨w.heap.size, 1, none⟩ y).cell? ⟨w.heap.size + 1, 0, none⟩ = some a2 := by
    rw [World.cell?_setCell_far _ _ _ _ (far' 0), World.cell?_setCell_far _ _ _ _ (far' 0)]; exact d2
  have e3 : ((W.setCell ⟨w.heap.size, 0, none⟩ x).setCell ⟨w.heap.size, 1, none⟩ y).cell? ⟨w.heap.size + 1, 1, none⟩ = some a3 := by
    rw [World.cell?_setCell_far _ _ _ _ (far' 1), World.cell?_setCell_far _ _ _ _ (far' 1)]; exact d3
  obtain ⟨t2, t3⟩ := read_two e2 e3 p q
  refine ⟨?_, ?_, t2, t3, ((((hb.setCell (Nat.le_refl _) _).setCell (Nat.le_refl _) _).setCell (by show w.heap.size ≤ w.heap.size + 1; omega) _).setCell (by show w.heap.size ≤ w.heap.size + 1; omega) _)⟩
  · rw [World.cell?_setCell_far _ _ _ _ (far 0), World.cell?_setCell_far _ _ _ _ (far 0)]; exact t0
  · rw [World.cell?_setCell_far _ _ _ _ (far 1), World.cell?_setCell_far _ _ _ _ (far 1)]; exact t1
set_option maxHeartbeats 2000000 in
theorem half_zero (u v : Value) (xs ys : List Nat) (m : Nat) (w : World) (hu : IsRaw w u xs) (hv : IsRaw w v ys) (hl1 : xs.length ≤ maxLen) (hl2 : ys.length ≤ maxLen) (hm : m ≤ 1000) (hb0 : rawN ys m = 0) :
    Calls Tryz.prog 6 #[u, v, .int .i64 m] w fun e w' => e = .returned (.tuple #[.agg #[.slice none 0 0, .slice none 0 0], .agg #[.slice none 0 0, .slice none 0 0], .bool false]) ∧ Below w.heap.size w w' := by
  have b2 : ∀ o1 o2, Below w.heap.size w ((w.alloc o1).alloc o2) := fun o1 o2 => ((Below.refl _ _).alloc (Nat.le_refl _) _).alloc (by simp) _
  have HR1 := Lib.hid (fun W (h : IsRaw W u xs) => Raw_any u xs m W h hl1 (by omega))
  have HR2 := Lib.hid (fun W (h : IsRaw W v ys) => Raw_any v ys m W h hl2 (by omega))
  rw [hb0] at HR2
  have HU := Lib.hid (fun o1 o2 => IsRaw.below hu (b2 o1 o2))
  have HV := Lib.hid (fun o1 o2 => IsRaw.below hv (b2 o1 o2))
  have HB := Lib.hid b2
  obtain ⟨uo, uc, rfl, -⟩ := hu.shape
  obtain ⟨vo, vc, rfl, -⟩ := hv.shape
  clear hu hv b2 hb0
  generalize rawN xs m = a at *
  go_enter Tryz.func6, Tryz.ntmps6
  go_wp2_with fail
  refine (HR1.out _ (HU.out _ _)).mono ?_
  rintro e w1 ⟨c, rfl, hc, hb1⟩
  obtain ⟨co, cc, rfl, -⟩ := hc.shape
  have HV1 := Lib.hid (IsRaw.below (HV.out _ _) hb1)
  have HB1 := Lib.hid hb1
  clear hc hb1
  go_wp2_with fail
  refine (HR2.out _ HV1.out).mono ?_
  rintro e w2 ⟨d, rfl, hd, hb2⟩
  obtain ⟨eo, ec, rfl, -⟩ := hd.shape
  rw [nd_zero]
  have hbt := HB1.out.trans (hb2.mono HB1.out.size)
  have c0 : ∀ k o, (k = w.heap.size ∨ k = w.heap.size + 1) → (o = 0 ∨ o = 1) → w2.cell? ⟨k, o, none⟩ = some (.slice none 0 0) ∧ w2.frozen? ⟨k, o, none⟩ = false := by
    intro k o hk ho
    have hl : k < ((w.alloc (.cells #[.slice none 0 0, .slice none 0 0] 26)).alloc (.cells #[.slice none 0 0, .slice none 0 0] 29)).heap.size := by simp; omega
    refine ⟨(hbt.cell (p := ⟨k, o, none⟩) hl).trans ?_, (hbt.frozen (p := ⟨k, o, none⟩) hl).trans ?_⟩
    · rcases hk with rfl | rfl
      · refine (World.cell?_alloc_past _ _ _ (by simp)).trans ?_
        rcases ho with rfl | rfl <;> exact World.cell?_alloc_at _ _ _ _ rfl
      · rcases ho with rfl | rfl <;> exact World.cell?_alloc_at _ _ _ _ (by simp)
    · rcases hk with rfl | rfl
      · refine (((Below.refl _ _).alloc (Nat.le_refl _) _).frozen (p := ⟨w.heap.size, o, none⟩) (by simp)).trans ?_
        rcases ho with rfl | rfl <;> exact World.frozen?_alloc_at _ _ _ _ rfl
      · rcases ho with rfl | rfl <;> exact World.frozen?_alloc_at _ _ _ _ (by simp)
  obtain ⟨a0, f0⟩ := c0 _ 0 (.inl rfl) (.inl rfl)
  obtain ⟨a1, f1⟩ := c0 _ 1 (.inl rfl) (.inr rfl)
  obtain ⟨a2, f2⟩ := c0 _ 0 (.inr rfl) (.inl rfl)
  obtain ⟨a3, f3⟩ := c0 _ 1 (.inr rfl) (.inr rfl)
  have HBE := Lib.hid ((HB.out _ _).trans (hbt.mono (HB.out _ _).size))
  have HA := Lib.hid (And.intro a0 (And.intro a1 (And.intro a2 a3)))
  clear hd hb2 hbt c0
  go_wp2
  obtain ⟨q0, q1, q2, q3, q4⟩ := half_end (w := w) HA.out.1 HA.out.2.1 HA.out.2.2.1 HA.out.2.2.2 HBE.out (.slice none 0 0) (.slice none 0 0) (.slice none 0 0) (.slice none 0 0)
  refine bodyPost_ret (v := .tuple #[.agg #[.slice none 0 0, .slice none 0 0], .agg #[.slice none 0 0, .slice none 0 0], .bool false]) (by simp [results, Tryz.results6, go_sem, q0, q1, q2, q3]) rfl ⟨rfl, q4⟩
theorem half_keep {k : IntKind} {B : Nat} {w W : World} {v : Value} {n : Nat} (h : IsN k B W v n)
    (hr : ∀ j o, (j = w.heap.size ∨ j = w.heap.size + 1) → (o = 0 ∨ o = 1) → (∃ o' l c, W.cell? ⟨j, o, none⟩ = some (.slice o' l c)) ∧ W.frozen? ⟨j, o, none⟩ = false) (x y p q : Value) :
    IsN k B ((((W.setCell ⟨w.heap.size, 0, none⟩ x).setCell ⟨w.heap.size, 1, none⟩ y).setCell ⟨w.heap.size + 1, 0, none⟩ p).setCell ⟨w.heap.size + 1, 1, none⟩ q) v n := by
  obtain ⟨⟨o0, l0, c0, d0⟩, -⟩ := hr _ 0 (.inl rfl) (.inl rfl)
  obtain ⟨⟨o1, l1, c1, d1⟩, -⟩ := hr _ 1 (.inl rfl) (.inr rfl)
  obtain ⟨⟨o2, l2, c2, d2⟩, -⟩ := hr _ 0 (.inr rfl) (.inl rfl)
  obtain ⟨⟨o3, l3, c3, d3⟩, -⟩ := hr _ 1 (.inr rfl) (.inr rfl)
  have far' : ∀ o, (w.heap.size) ≠ (⟨w.heap.size + 1, o, none⟩ : Addr).block := fun o => by show w.heap.size ≠ w.heap.size + 1; omega
  have e2 : ((W.setCell ⟨w.heap.size, 0, none⟩ x).setCell ⟨w.heap.size, 1, none⟩ y).cell? ⟨w.heap.size + 1, 0, none⟩ = some (.slice o2 l2 c2) := by
    rw [World.cell?_setCell_far _ _ _ _ (far' 0), World.cell?_setCell_far _ _ _ _ (far' 0)]; exact d2
  have e3 : ((W.setCell ⟨w.heap.size, 0, none⟩ x).setCell ⟨w.heap.size, 1, none⟩ y).cell? ⟨w.heap.size + 1, 1, none⟩ = some (.slice o3 l3 c3) := by
    rw [World.cell?_setCell_far _ _ _ _ (far' 1), World.cell?_setCell_far _ _ _ _ (far' 1)]; exact d3
  exact IsN_setTwo (IsN_setTwo h d0 d1 (by intro d e; cases e) (by intro d e; cases e) _ _) e2 e3 (by intro d e; cases e) (by intro d e; cases e) _ _
/-- what half's last region keeps -/
structure StH (w : World) (F : Nat) (v u x y : Value) (P Q a b : Nat) (W : World) : Prop where
  n1 : D W v P
  n2 : D W u Q
  d1 : R W x a
  d2 : R W y b
  bel : Below w.heap.size w W
  hF : w.heap.size + 1 < F
  lt : F < W.heap.size
  f0 : W.cell? ⟨F, 0, none⟩ = some v
  f1 : W.cell? ⟨F, 1, none⟩ = some u
  r : ∀ j o, (j = w.heap.size ∨ j = w.heap.size + 1) → (o = 0 ∨ o = 1) → (∃ o' l c, W.cell? ⟨j, o, none⟩ = some (.slice o' l c)) ∧ W.frozen? ⟨j, o, none⟩ = false
theorem StH.next {w W W' : World} {F : Nat} {v u x y : Value} {P Q a b : Nat} (h : StH w F v u x y P Q a b W) (hb : Below W.heap.size W W') : StH w F v u x y P Q a b W' :=
  ⟨h.n1.below hb, h.n2.below hb, h.d1.below hb, h.d2.below hb, h.bel.trans (hb.mono h.bel.size), h.hF, Nat.lt_of_lt_of_le h.lt hb.size, (hb.cell (p := ⟨F, 0, none⟩) h.lt).trans h.f0, (hb.cell (p := ⟨F, 1, none⟩) h.lt).trans h.f1,
    fun j o hj ho => by
      have hl : j < W.heap.size := by have := h.hF; have := h.lt; omega
      obtain ⟨⟨o', l, c, hc⟩, hf⟩ := h.r j o hj ho
      exact ⟨⟨o', l, c, (hb.cell (p := ⟨j, o, none⟩) hl).trans hc⟩, (hb.frozen (p := ⟨j, o, none⟩) hl).trans hf⟩⟩
theorem StH.set {w W : World} {F : Nat} {v u x y : Value} {P Q a b : Nat} (h : StH w F v u x y P Q a b W) {j : Nat} (hj : j = w.heap.size ∨ j = w.heap.size + 1) (o1 : Option Addr) (l1 c1 : Nat) (o2 : Option Addr) (l2 c2 : Nat) :
    StH w F v u x y P Q a b ((W.setCell ⟨j, 0, none⟩ (.slice o1 l1 c1)).setCell ⟨j, 1, none⟩ (.slice o2 l2 c2)) := by
  obtain ⟨⟨p0, q0, s0, d0⟩, -⟩ := h.r j 0 hj (.inl rfl)
  obtain ⟨⟨p1, q1, s1, d1⟩, -⟩ := h.r j 1 hj (.inr rfl)
  have hk : ∀ {k : IntKind} {B : Nat} {z : Value} {n : Nat}, IsN k B W z n → IsN k B ((W.setCell ⟨j, 0, none⟩ (.slice o1 l1 c1)).setCell ⟨j, 1, none⟩ (.slice o2 l2 c2)) z n := fun hz => IsN_setTwo hz d0 d1 (by intro d e; cases e) (by intro d e; cases e) _ _
  have hFj : j ≠ F := by have := h.hF; omega
  have hw : w.heap.size ≤ j := by omega
  obtain ⟨t0, t1⟩ := read_two d0 d1 (.slice o1 l1 c1) (.slice o2 l2 c2)
  refine ⟨hk h.n1, hk h.n2, hk h.d1, hk h.d2, (h.bel.setCell hw _).setCell hw _, h.hF, by rw [World.size_setCell, World.size_setCell]; exact h.lt, ?_, ?_, fun i o hi ho => ⟨?_, ?_⟩⟩
  · rw [World.cell?_setCell_far _ _ _ _ hFj, World.cell?_setCell_far _ _ _ _ hFj]; exact h.f0
  · rw [World.cell?_setCell_far _ _ _ _ hFj, World.cell?_setCell_far _ _ _ _ hFj]; exact h.f1
  · by_cases e : i = j
    · subst e
      rcases ho with rfl | rfl
      · exact ⟨_, _, _, t0⟩
      · exact ⟨_, _, _, t1⟩
    · obtain ⟨⟨o', l, c, hc⟩, -⟩ := h.r i o hi ho
      refine ⟨o', l, c, ?_⟩
      rw [World.cell?_setCell_far _ _ _ _ (fun e' => e e'.symm), World.cell?_setCell_far _ _ _ _ (fun e' => e e'.symm)]; exact hc
  · have := (h.r i o hi ho).2
    simpa using this
set_option maxHeartbeats 4000000 in
set_option maxRecDepth 100000 in
theorem half_pos (u v : Value) (xs ys : List Nat) (m : Nat) (w : World) (hu : IsRaw w u xs) (hv : IsRaw w v ys) (hl1 : xs.length ≤ maxLen) (hl2 : ys.length ≤ maxLen) (hm : m ≤ 300) (hb0 : 0 < rawN ys m) :
    Calls Tryz.prog 6 #[u, v, .int .i64 m] w fun e w' => ∃ r1 s1 r2 s2, e = .returned (.tuple #[.agg #[r1, s1], .agg #[r2, s2], .bool true]) ∧ D w' r1 (lowP (rawN xs m) (rawN ys m)) ∧ D w' s1 (lowQ (rawN xs m) (rawN ys m)) ∧ R w' r2 (lowP (rawN xs m) (rawN ys m)) ∧ R w' s2 (lowQ (rawN xs m) (rawN ys m)) ∧ Below w.heap.size w w' := by
  have b2 : ∀ o1 o2, Below w.heap.size w ((w.alloc o1).alloc o2) := fun o1 o2 => ((Below.refl _ _).alloc (Nat.le_refl _) _).alloc (by simp) _
  have HR1 := Lib.hid (fun W (h : IsRaw W u xs) => Raw_any u xs m W h hl1 (by omega))
  have HR2 := Lib.hid (fun W (h : IsRaw W v ys) => Raw_any v ys m W h hl2 (by omega))
  have hna := rawN_nd hu.1 m
  have hnb := rawN_nd hv.1 m
  have HU := Lib.hid (fun o1 o2 => IsRaw.below hu (b2 o1 o2))
  have HV := Lib.hid (fun o1 o2 => IsRaw.below hv (b2 o1 o2))
  have HB := Lib.hid b2
  obtain ⟨uo, uc, rfl, -⟩ := hu.shape
  obtain ⟨vo, vc, rfl, -⟩ := hv.shape
  clear hu hv b2
  generalize rawN xs m = a at *
  generalize rawN ys m = b at *
  have h32a : nd 4294967296 a ≤ 300 := Nat.le_trans (nd_32 hna) hm
  have h32b : nd 4294967296 b ≤ 300 := Nat.le_trans (nd_32 hnb) hm
  have hl0 := nd_pos (B := 65536) (by decide) hb0
  have hq : ((((nd 65536 b : Nat)) : Int) == 0) = false := beq_eq_false_iff_ne.2 (by omega)
  have HTW := Lib.hid (fun W x y (h1 : R W x a) (h2 : R W y b) => two_any x y a b W h1 h2 (by omega) (by omega))
  have HNF := Lib.hid (fun W v u (h1 : D W v a) (h2 : D W u b) => NewFrac_any (divide_long (max (nd 4294967296 a) (nd 4294967296 b)) (by omega)) v u a b W h1 h2 hb0 ((nd_le (by decide)).1 (Nat.le_max_left _ _)) ((nd_le (by decide)).1 (Nat.le_max_right _ _)))
  rw [show a / Nat.gcd a b = lowP a b from rfl, show b / Nat.gcd a b = lowQ a b from rfl] at HNF
  have HRL := Lib.hid (fun W v u (h1 : R W v a) (h2 : R W u b) => RLow_any v u a b W h1 h2 hb0 (by omega) (by omega))
  clear hna hnb h32a h32b hb0 hl0
  generalize lowP a b = P at *
  generalize lowQ a b = Q at *
  go_enter Tryz.func6, Tryz.ntmps6
  go_wp2_with fail
  refine (HR1.out _ (HU.out _ _)).mono ?_
  rintro e w1 ⟨c, rfl, hc, hb1⟩
  obtain ⟨co, cc, rfl, -⟩ := hc.shape
  have HV1 := Lib.hid (IsRaw.below (HV.out _ _) hb1)
  have HB1 := Lib.hid hb1; have HC1 := Lib.hid hc
  clear hc hb1
  go_wp2_with fail
  refine (HR2.out _ HV1.out).mono ?_
  rintro e w2 ⟨d, rfl, hd, hb2⟩
  obtain ⟨eo, ec, rfl, -⟩ := hd.shape
  have HB2 := Lib.hid (HB1.out.trans (hb2.mono HB1.out.size)); have HC2 := Lib.hid (HC1.out.below hb2); have HD2 := Lib.hid hd
  clear hd hb2
  go_wp2_with fail
  refine (HTW.out _ _ _ HC2.out HD2.out).mono ?_
  rintro e w3 ⟨x, y, rfl, hx, hy, hb3⟩
  obtain ⟨xo, xc, rfl, -⟩ := hx.shape
  obtain ⟨yo, yc, rfl, -⟩ := hy.shape
  have bb : ∀ o1 o2, Below w3.heap.size w3 ((w3.alloc o1).alloc o2) := fun o1 o2 => ((Below.refl _ _).alloc (Nat.le_refl _) _).alloc (by simp) _
  have HB3 := Lib.hid (fun o1 o2 => (HB2.out.trans (hb3.mono HB2.out.size)).trans ((bb o1 o2).mono (HB2.out.trans (hb3.mono HB2.out.size)).size))
  have HC3 := Lib.hid (fun o1 o2 => (HC2.out.below hb3).below (bb o1 o2)); have HD3 := Lib.hid (fun o1 o2 => (HD2.out.below hb3).below (bb o1 o2))
  have HX3 := Lib.hid (fun o1 o2 => hx.below (bb o1 o2)); have HY3 := Lib.hid (fun o1 o2 => hy.below (bb o1 o2))
  clear hx hy hb3 bb
  go_wp2_with fail
  refine (HNF.out _ _ _ (HX3.out _ _) (HY3.out _ _)).mono ?_
  rintro e w4 ⟨f, g, rfl, hf, hg, hb4⟩
  obtain ⟨fo, fc, rfl, -⟩ := hf.shape
  obtain ⟨go, gc, rfl, -⟩ := hg.shape
  have hbt := (HB3.out _ _).trans (hb4.mono (HB3.out _ _).size)
  have hz := hbt.size
  simp only [World.size_alloc] at hz
  have b5 : ∀ o, Below w4.heap.size w4 (w4.alloc o) := fun o => (Below.refl _ _).alloc (Nat.le_refl _) _
  have hst0 : StH w w4.heap.size (.slice fo (nd 4294967296 P) fc) (.slice go (nd 4294967296 Q) gc) (.slice co (nd 65536 a) cc) (.slice eo (nd 65536 b) ec) P Q a b (w4.alloc (.cells #[.slice fo (nd 4294967296 P) fc, .slice go (nd 4294967296 Q) gc] 26)) := by
    refine ⟨hf.below (b5 _), hg.below (b5 _), ((HC3.out _ _).below hb4).below (b5 _), ((HD3.out _ _).below hb4).below (b5 _), ((HB.out _ _).trans (hbt.mono (HB.out _ _).size)).trans ((b5 _).mono ((HB.out _ _).trans (hbt.mono (HB.out _ _).size)).size), by omega, by simp, World.cell?_alloc_at _ _ _ _ rfl, World.cell?_alloc_at _ _ _ _ rfl, fun j o hj ho => ?_⟩
    have hl : j < ((w.alloc (.cells #[.slice none 0 0, .slice none 0 0] 26)).alloc (.cells #[.slice none 0 0, .slice none 0 0] 29)).heap.size := by simp; omega
    have hl4 : j < w4.heap.size := by omega
    refine ⟨⟨none, 0, 0, ((b5 _).cell (p := ⟨j, o, none⟩) hl4).trans ((hbt.cell (p := ⟨j, o, none⟩) hl).trans ?_)⟩, ((b5 _).frozen (p := ⟨j, o, none⟩) hl4).trans ((hbt.frozen (p := ⟨j, o, none⟩) hl).trans ?_)⟩
    · rcases hj with rfl | rfl
      · refine (World.cell?_alloc_past _ _ _ (by simp)).trans ?_
        rcases ho with rfl | rfl <;> exact World.cell?_alloc_at _ _ _ _ rfl
      · rcases ho with rfl | rfl <;> exact World.cell?_alloc_at _ _ _ _ (by simp)
    · rcases hj with rfl | rfl
      · refine (((Below.refl _ _).alloc (Nat.le_refl _) _).frozen (p := ⟨w.heap.size, o, none⟩) (by simp)).trans ?_
        rcases ho with rfl | rfl <;> exact World.frozen?_alloc_at _ _ _ _ rfl
      · rcases ho with rfl | rfl <;> exact World.frozen?_alloc_at _ _ _ _ (by simp)
  obtain ⟨V1, hV1⟩ : ∃ V1 : Value, V1 = .slice fo (nd 4294967296 P) fc := ⟨_, rfl⟩
  have HRK : Hid (∀ W, StH w w4.heap.size (.slice fo (nd 4294967296 P) fc) (.slice go (nd 4294967296 Q) gc) (.slice co (nd 65536 a) cc) (.slice eo (nd 65536 b) ec) P Q a b W → Calls Tryz.prog 30 #[.slice co (nd 65536 a) cc, .slice eo (nd 65536 b) ec] W fun e w' => ∃ o1 l1 k1 o2 l2 k2, e = .returned (.agg #[.slice o1 l1 k1, .slice o2 l2 k2]) ∧ (R w' (.slice o1 l1 k1) P ∧ R w' (.slice o2 l2 k2) Q) ∧ StH w w4.heap.size (.slice fo (nd 4294967296 P) fc) (.slice go (nd 4294967296 Q) gc) (.slice co (nd 65536 a) cc) (.slice eo (nd 65536 b) ec) P Q a b w') := fun W h =>
    (HRL.out _ _ _ h.d1 h.d2).mono fun e w' ⟨r, s, he, hr, hs, hB⟩ => by
      obtain ⟨ro, rc, rfl, -⟩ := hr.shape
      obtain ⟨so, sc, rfl, -⟩ := hs.shape
      exact ⟨ro, _, rc, so, _, sc, he, ⟨hr, hs⟩, h.next hB⟩
  have HSET : Hid (∀ W j o1 l1 c1 o2 l2 c2, (j = w.heap.size ∨ j = w.heap.size + 1) → StH w w4.heap.size (.slice fo (nd 4294967296 P) fc) (.slice go (nd 4294967296 Q) gc) (.slice co (nd 65536 a) cc) (.slice eo (nd 65536 b) ec) P Q a b W →
      (((W.setCell ⟨j, 0, none⟩ (.slice o1 l1 c1)).setCell ⟨j, 1, none⟩ (.slice o2 l2 c2)).cell? ⟨w4.heap.size, 0, none⟩ = some (.slice fo (nd 4294967296 P) fc) ∧ ((W.setCell ⟨j, 0, none⟩ (.slice o1 l1 c1)).setCell ⟨j, 1, none⟩ (.slice o2 l2 c2)).cell? ⟨w4.heap.size, 1, none⟩ = some (.slice go (nd 4294967296 Q) gc)) ∧ StH w w4.heap.size (.slice fo (nd 4294967296 P) fc) (.slice go (nd 4294967296 Q) gc) (.slice co (nd 65536 a) cc) (.slice eo (nd 65536 b) ec) P Q a b ((W.setCell ⟨j, 0, none⟩ (.slice o1 l1 c1)).setCell ⟨j, 1, none⟩ (.slice o2 l2 c2))) :=
    fun W j o1 l1 c1 o2 l2 c2 hj h => ⟨⟨(h.set hj o1 l1 c1 o2 l2 c2).f0, (h.set hj o1 l1 c1 o2 l2 c2).f1⟩, h.set hj o1 l1 c1 o2 l2 c2⟩
  have HRR : Hid (∀ W, StH w w4.heap.size (.slice fo (nd 4294967296 P) fc) (.slice go (nd 4294967296 Q) gc) (.slice co (nd 65536 a) cc) (.slice eo (nd 65536 b) ec) P Q a b W → (∃ o' l c, W.cell? ⟨w.heap.size, 0, none⟩ = some (.slice o' l c)) ∧ (∃ o' l c, W.cell? ⟨w.heap.size, 1, none⟩ = some (.slice o' l c)) ∧ (∃ o' l c, W.cell? ⟨w.heap.size + 1, 0, none⟩ = some (.slice o' l c)) ∧ (∃ o' l c, W.cell? ⟨w.heap.size + 1, 1, none⟩ = some (.slice o' l c)) ∧
      W.frozen? ⟨w.heap.size, 0, none⟩ = false ∧ W.frozen? ⟨w.heap.size, 1, none⟩ = false ∧ W.frozen? ⟨w.heap.size + 1, 0, none⟩ = false ∧ W.frozen? ⟨w.heap.size + 1, 1, none⟩ = false) := fun W h =>
    ⟨(h.r _ 0 (.inl rfl) (.inl rfl)).1, (h.r _ 1 (.inl rfl) (.inr rfl)).1, (h.r _ 0 (.inr rfl) (.inl rfl)).1, (h.r _ 1 (.inr rfl) (.inr rfl)).1, (h.r _ 0 (.inl rfl) (.inl rfl)).2, (h.r _ 1 (.inl rfl) (.inr rfl)).2, (h.r _ 0 (.inr rfl) (.inl rfl)).2, (h.r _ 1 (.inr rfl) (.inr rfl)).2⟩
  have hs2 := hst0.next ((Below.refl _ _).drew)
  have hc0 := And.intro hst0.f0 hst0.f1
  have hc2 := And.intro hs2.f0 hs2.f1
  clear hf hg hb4 hbt b5 hV1
  go_wp2_with fail
  go_region_held3 (fun W : World => (W.cell? ⟨w4.heap.size, 0, none⟩ = some (.slice fo (nd 4294967296 P) fc) ∧ W.cell? ⟨w4.heap.size, 1, none⟩ = some (.slice go (nd 4294967296 Q) gc)) ∧ StH w w4.heap.size (.slice fo (nd 4294967296 P) fc) (.slice go (nd 4294967296 Q) gc) (.slice co (nd 65536 a) cc) (.slice eo (nd 65536 b) ec) P Q a b W) (first | (refine And.intro ?_ ?_ <;> assumption) | (refine HSET.out _ _ _ _ _ _ _ _ (.inl rfl) ?_; assumption) | (refine HSET.out _ _ _ _ _ _ _ _ (.inr rfl) ?_; assumption) | (refine HSET.out _ _ _ _ _ _ _ _ (.inr rfl) (HSET.out _ _ _ _ _ _ _ _ (.inl rfl) ?_).2; assumption) | fail) (first
    | (go_at_call 30; with_reducible refine (HRK.out _ ?h).mono ?_; (case h => assumption); rintro e w' ⟨o1, l1, k1, o2, l2, k2, rfl, hr', hs'⟩; have hc' := And.intro hs'.f0 hs'.f1; obtain ⟨⟨a0, a1, a2, z0⟩, ⟨b0, b1, b2, z1⟩, ⟨c0, c1, c2, z2⟩, ⟨d0, d1, d2, z3⟩, y0, y1, y2, y3⟩ := HRR.out _ hs'))
  all_goals
    have hR : R w' (.slice o1 l1 k1) P ∧ R w' (.slice o2 l2 k2) Q := by assumption
    have hT : StH w w4.heap.size (.slice fo (nd 4294967296 P) fc) (.slice go (nd 4294967296 Q) gc) (.slice co (nd 65536 a) cc) (.slice eo (nd 65536 b) ec) P Q a b w' := by assumption
    obtain ⟨⟨m0, m1, m2, e0⟩, -⟩ := hT.r _ 0 (.inl rfl) (.inl rfl)
    obtain ⟨⟨m3, m4, m5, e1⟩, -⟩ := hT.r _ 1 (.inl rfl) (.inr rfl)
    obtain ⟨⟨m6, m7, m8, e2⟩, -⟩ := hT.r _ 0 (.inr rfl) (.inl rfl)
    obtain ⟨⟨m9, m10, m11, e3⟩, -⟩ := hT.r _ 1 (.inr rfl) (.inr rfl)
    have HE := Lib.hid (half_end e0 e1 e2 e3 hT.bel (.slice fo (nd 4294967296 P) fc) (.slice go (nd 4294967296 Q) gc) (.slice o1 l1 k1) (.slice o2 l2 k2))
    have HKS := Lib.hid (And.intro (half_keep hT.n1 hT.r (.slice fo (nd 4294967296 P) fc) (.slice go (nd 4294967296 Q) gc) (.slice o1 l1 k1) (.slice o2 l2 k2)) (And.intro (half_keep hT.n2 hT.r (.slice fo (nd 4294967296 P) fc) (.slice go (nd 4294967296 Q) gc) (.slice o1 l1 k1) (.slice o2 l2 k2)) (And.intro (half_keep hR.1 hT.r (.slice fo (nd 4294967296 P) fc) (.slice go (nd 4294967296 Q) gc) (.slice o1 l1 k1) (.slice o2 l2 k2)) (half_keep hR.2 hT.r (.slice fo (nd 4294967296 P) fc) (.slice go (nd 4294967296 Q) gc) (.slice o1 l1 k1) (.slice o2 l2 k2)))))
    clear hT hR e0 e1 e2 e3
    go_wp2
    obtain ⟨t0, t1, t2, t3, t4⟩ := HE.out
    obtain ⟨s1, s2, s3, s4⟩ := HKS.out
    refine bodyPost_ret (v := .tuple #[.agg #[.slice fo (nd 4294967296 P) fc, .slice go (nd 4294967296 Q) gc], .agg #[.slice o1 l1 k1, .slice o2 l2 k2], .bool true]) (by simp [results, Tryz.results6, go_sem, t0, t1, t2, t3]) rfl ⟨_, _, _, _, rfl, s1, s2, s3, s4, t4⟩
end Go.Proofs.YteajinpfigejfaaGreatDoor
namespace Go.Proofs.YteajinpfigejfaaGreatDoor
open Go Go.RowKit Gu

theorem nd_radd2 {a b m : Nat} (ha : nd 65536 a ≤ m) (hb : nd 65536 b ≤ m) : nd 65536 (a + b) ≤ m + 1 := by
  have h1 := (nd_le (by decide : 2 ≤ 65536)).1 ha
  have h2 := (nd_le (by decide : 2 ≤ 65536)).1 hb
  apply (nd_le (by decide : 2 ≤ 65536)).2
  have h3 : 65536 ^ m * 2 ≤ 65536 ^ m * 65536 := Nat.mul_le_mul_left _ (by decide)
  rw [Nat.pow_succ]; omega
theorem best_bound {p q L x y : Nat} (h : IsBest p q L x y) (hq : 0 < q) : x ≤ (p + q) * y := by
  obtain ⟨h1, h2, h3, h4⟩ := h
  have h5 := (h4 (p / q) 1 (by decide) (by omega)).1
  have h6 : gapN p q (p / q) 1 < q := by
    have h7 := Nat.div_mul_le_self p q
    have h8 : gapN p q (p / q) 1 = p - p / q * q := by unfold gapN; rw [Nat.mul_one]; exact if_neg (by omega)
    have h9 := Nat.lt_div_mul_add (a := p) hq
    rw [h8]; omega
  have h7 : gapN p q x y < q * y := by
    have : gapN p q (p / q) 1 * y < q * y := Nat.mul_lt_mul_of_pos_right h6 h1
    omega
  have h8 : x * q ≤ p * y + gapN p q x y := by unfold gapN; split <;> omega
  have h9 : x * q ≤ (p + q) * y := by rw [Nat.add_mul]; omega
  exact Nat.le_trans (Nat.le_mul_of_pos_right _ hq) h9
/-- a fresh box of two cells for a fraction -/
structure Zb (cs : List (Nat × Nat × Value)) (w : World) (X : Nat) (W : World) : Prop where
  ge : w.heap.size ≤ X
  ne : ∀ p ∈ cs, p.1 ≠ X
  lt : X < W.heap.size
  c0 : W.cell? ⟨X, 0, none⟩ = some (.slice none 0 0)
  c1 : W.cell? ⟨X, 1, none⟩ = some (.slice none 0 0)
  f0 : W.frozen? ⟨X, 0, none⟩ = false
  f1 : W.frozen? ⟨X, 1, none⟩ = false
section
variable {cs : List (Nat × Nat × Value)} {ns rs : List (Value × Nat)} {w W W' : World} {X Y : Nat}
theorem Zb.top (h : Kq cs ns rs w W) (T : TypeId) : Zb cs w W.heap.size (W.alloc (.cells #[.slice none 0 0, .slice none 0 0] T)) := ⟨h.bel.size, fun p hp => Nat.ne_of_lt (h.box p hp).1, by simp, World.cell?_alloc_at _ _ _ _ rfl, World.cell?_alloc_at _ _ _ _ rfl, World.frozen?_alloc_at _ _ _ _ rfl, World.frozen?_alloc_at _ _ _ _ rfl⟩
theorem Zb.next (h : Zb cs w X W) (hb : Below W.heap.size W W') : Zb cs w X W' :=
  ⟨h.ge, h.ne, Nat.lt_of_lt_of_le h.lt hb.size, (hb.cell (p := ⟨X, 0, none⟩) h.lt).trans h.c0, (hb.cell (p := ⟨X, 1, none⟩) h.lt).trans h.c1, (hb.frozen (p := ⟨X, 0, none⟩) h.lt).trans h.f0, (hb.frozen (p := ⟨X, 1, none⟩) h.lt).trans h.f1⟩
theorem Zb.alloc (h : Zb cs w X W) (o : Obj) : Zb cs w X (W.alloc o) := h.next ((Below.refl _ _).alloc (Nat.le_refl _) _)
theorem Zb.drew (h : Zb cs w X W) : Zb cs w X W.drew := h.next ((Below.refl _ _).drew)
theorem Zb.second (h : Kq cs ns rs w W) (T : TypeId) (o : Obj) : Zb cs w W.heap.size ((W.alloc (.cells #[.slice none 0 0, .slice none 0 0] T)).alloc o) := (Zb.top h T).alloc o
theorem Zb.top1 (h : Kq cs ns rs w W) (o : Obj) (T : TypeId) : Zb cs w (W.heap.size + 1) ((W.alloc o).alloc (.cells #[.slice none 0 0, .slice none 0 0] T)) := by
  have h1 := Zb.top (h.alloc o) T
  rw [World.size_alloc] at h1
  exact h1
theorem Zb.num (h : Zb cs w X W) {v : Value} {n : Nat} (hv : D W v n) (a b : Value) : D ((W.setCell ⟨X, 0, none⟩ a).setCell ⟨X, 1, none⟩ b) v n := IsN_setTwo hv h.c0 h.c1 (by intro d e; cases e) (by intro d e; cases e) _ _
theorem far2 {j o : Nat} {a b : Value} (hj : X ≠ j) : ((W.setCell ⟨X, 0, none⟩ a).setCell ⟨X, 1, none⟩ b).cell? ⟨j, o, none⟩ = W.cell? ⟨j, o, none⟩ := by
  rw [World.cell?_setCell_far _ _ _ _ hj, World.cell?_setCell_far _ _ _ _ hj]
theorem Kq.put2 (he : Env w) (h : Kq cs ns rs w W) (hz : Zb cs w X W) (a b : Value) : Kq cs ns rs w ((W.setCell ⟨X, 0, none⟩ a).setCell ⟨X, 1, none⟩ b) :=
  have hb : Below w.heap.size w ((W.setCell ⟨X, 0, none⟩ a).setCell ⟨X, 1, none⟩ b) := (h.bel.setCell hz.ge _).setCell hz.ge _
  ⟨fun p hp => hz.num (h.num p hp) _ _, fun p hp => IsN_setTwo (h.dig p hp) hz.c0 hz.c1 (by intro d e; cases e) (by intro d e; cases e) _ _, fun p hp => ⟨by rw [World.size_setCell, World.size_setCell]; exact (h.box p hp).1, (far2 (fun e => hz.ne p hp e.symm)).trans (h.box p hp).2⟩, he.below hb, hb⟩
theorem Zb.put2 (h : Zb cs w X W) (hz : Zb cs w Y W) (hne : Y ≠ X) (a b : Value) : Zb cs w X ((W.setCell ⟨Y, 0, none⟩ a).setCell ⟨Y, 1, none⟩ b) :=
  ⟨h.ge, h.ne, by rw [World.size_setCell, World.size_setCell]; exact h.lt, (far2 hne).trans h.c0, (far2 hne).trans h.c1, by have := h.f0; simpa using this, by have := h.f1; simpa using this⟩
theorem Zb.own0 (h : Zb cs w X W) (a b : Value) : ((W.setCell ⟨X, 0, none⟩ a).setCell ⟨X, 1, none⟩ b).cell? ⟨X, 0, none⟩ = some a := (read_two h.c0 h.c1 a b).1
theorem Zb.own1 (h : Zb cs w X W) (a b : Value) : ((W.setCell ⟨X, 0, none⟩ a).setCell ⟨X, 1, none⟩ b).cell? ⟨X, 1, none⟩ = some b := (read_two h.c0 h.c1 a b).2
theorem Zb.lt2 (h : Zb cs w X W) (Y : Nat) (a b : Value) : X < ((W.setCell ⟨Y, 0, none⟩ a).setCell ⟨Y, 1, none⟩ b).heap.size := by rw [World.size_setCell, World.size_setCell]; exact h.lt
theorem lt2 {Z : Nat} (h : Z < W.heap.size) (Y : Nat) (a b : Value) : Z < ((W.setCell ⟨Y, 0, none⟩ a).setCell ⟨Y, 1, none⟩ b).heap.size := by rw [World.size_setCell, World.size_setCell]; exact h
theorem far2a {o Z : Nat} {a b v : Value} (h : W.cell? ⟨Z, o, none⟩ = some v) (hj : X ≠ Z) : ((W.setCell ⟨X, 0, none⟩ a).setCell ⟨X, 1, none⟩ b).cell? ⟨Z, o, none⟩ = some v := (far2 hj).trans h
theorem at0 {a b : Value} {T : TypeId} : (W.alloc (.cells #[a, b] T)).cell? ⟨W.heap.size, 0, none⟩ = some a := World.cell?_alloc_at _ _ _ _ rfl
theorem at1 {a b : Value} {T : TypeId} : (W.alloc (.cells #[a, b] T)).cell? ⟨W.heap.size, 1, none⟩ = some b := World.cell?_alloc_at _ _ _ _ rfl
theorem at0s {o : Obj} {a b : Value} {T : TypeId} : ((W.alloc o).alloc (.cells #[a, b] T)).cell? ⟨W.heap.size + 1, 0, none⟩ = some a := by
  have := at0 (W := W.alloc o) (a := a) (b := b) (T := T)
  rw [World.size_alloc] at this
  exact this
theorem at1s {o : Obj} {a b : Value} {T : TypeId} : ((W.alloc o).alloc (.cells #[a, b] T)).cell? ⟨W.heap.size + 1, 1, none⟩ = some b := by
  have := at1 (W := W.alloc o) (a := a) (b := b) (T := T)
  rw [World.size_alloc] at this
  exact this
theorem atn0 {o : Obj} {a b : Value} {T : TypeId} : ((W.alloc (.cells #[a, b] T)).alloc o).cell? ⟨W.heap.size, 0, none⟩ = some a :=
  (((Below.refl _ _).alloc (Nat.le_refl _) o).cell (p := ⟨W.heap.size, 0, none⟩) (by simp)).trans at0
theorem atn1 {o : Obj} {a b : Value} {T : TypeId} : ((W.alloc (.cells #[a, b] T)).alloc o).cell? ⟨W.heap.size, 1, none⟩ = some b :=
  (((Below.refl _ _).alloc (Nat.le_refl _) o).cell (p := ⟨W.heap.size, 1, none⟩) (by simp)).trans at1
theorem Zb.lts (h : Zb cs w X W) : X < W.heap.size + 1 := Nat.lt_succ_of_lt h.lt
theorem Zb.ltss (h : Zb cs w X W) : X < W.heap.size + 1 + 1 := Nat.lt_succ_of_lt (Nat.lt_succ_of_lt h.lt)
theorem dalloc {o : Obj} {v : Value} {n : Nat} (h : D W v n) : D (W.alloc o) v n := h.below ((Below.refl _ _).alloc (Nat.le_refl _) _)
theorem dalloc2 {v : Value} {n : Nat} (hb : Below W.heap.size W W') (h : D W v n) : D W' v n := h.below hb
end
/-- what stands behind the two distances: their boxes X and Y -/
structure Pair (cs : List (Nat × Nat × Value)) (ns rs : List (Value × Nat)) (w : World) (X Y A1 A2 B1 B2 : Nat) (a1 a2 b1 b2 : Value) (W : World) : Prop where
  k : Kq cs ns rs w W
  d1 : D W a1 A1
  d2 : D W a2 A2
  d3 : D W b1 B1
  d4 : D W b2 B2
  lx : X < W.heap.size
  ly : Y < W.heap.size
  x0 : W.cell? ⟨X, 0, none⟩ = some a1
  x1 : W.cell? ⟨X, 1, none⟩ = some a2
  y0 : W.cell? ⟨Y, 0, none⟩ = some b1
  y1 : W.cell? ⟨Y, 1, none⟩ = some b2
theorem cmp_gaps {p q L x y c d : Nat} (h : IsBest p q L x y) (hq : 0 < q) (hd : 0 < d) (hdL : d ≤ L) :
    (cmpN ((lowP (gapN p q x y) (q * y) * lowQ (gapN p q c d) (q * d) : Nat) : Int) ((lowP (gapN p q c d) (q * d) * lowQ (gapN p q x y) (q * y) : Nat) : Int) = -1) ∨
    (cmpN ((lowP (gapN p q x y) (q * y) * lowQ (gapN p q c d) (q * d) : Nat) : Int) ((lowP (gapN p q c d) (q * d) * lowQ (gapN p q x y) (q * y) : Nat) : Int) = 0 ∧ y < d) ∨
    (cmpN ((lowP (gapN p q x y) (q * y) * lowQ (gapN p q c d) (q * d) : Nat) : Int) ((lowP (gapN p q c d) (q * d) * lowQ (gapN p q x y) (q * y) : Nat) : Int) = 0 ∧ y = d ∧ x ≤ c) := by
  obtain ⟨h1, h2, h3, h4⟩ := h
  obtain ⟨h5, h6⟩ := h4 c d hd hdL
  rw [cmp_low (Nat.mul_pos hq h1) (Nat.mul_pos hq hd)]
  have e1 : gapN p q x y * (q * d) = gapN p q x y * d * q := by grind
  have e2 : gapN p q c d * (q * y) = gapN p q c d * y * q := by grind
  rw [e1, e2, cmp_scale hq]
  rcases Nat.lt_or_ge (gapN p q x y * d) (gapN p q c d * y) with h7 | h7
  · exact .inl (cmpN_lt (by omega))
  · have he : gapN p q x y * d = gapN p q c d * y := by omega
    rcases h6 he with h8 | ⟨h8, h9⟩
    · exact .inr (.inl ⟨cmpN_eq (by omega), h8⟩)
    · exact .inr (.inr ⟨cmpN_eq (by omega), h8, h9⟩)
set_option maxHeartbeats 4000000 in
set_option maxRecDepth 100000 in
theorem natNearest_z (u0 u1 : Value) (xs0 xs1 : List Nat) (most : Int) (num : Int) (den : Int) (w : World) (hu0 : IsRaw w u0 xs0) (hu1 : IsRaw w u1 xs1) (hl0 : xs0.length ≤ maxLen) (hl1 : xs1.length ≤ maxLen) (h1 : rawN xs1 12 = 0) (he : Env w) :
    Calls Tryz.prog 4 #[u0, u1, .int .i64 most, .int .i64 num, .int .i64 den] w fun e w' => e = .returned (.bool true) ∧ Below w.heap.size w w' := by
  have HE0 := Lib.hid he
  have HS0 := Lib.hid (Kq.start he)
  have hn0 := rawN_nd hu0.1 12
  have hn1 := rawN_nd hu1.1 12
  have HU0 := Lib.hid hu0
  have HU1 := Lib.hid hu1
  have HH1 := Lib.hid (fun W (i1 : IsRaw W u0 xs0) (i2 : IsRaw W u1 xs1) => half_zero u0 u1 xs0 xs1 12 W i1 i2 hl0 hl1 (by decide) h1)

  obtain ⟨uo0, uc0, rfl, -⟩ := hu0.shape
  obtain ⟨uo1, uc1, rfl, -⟩ := hu1.shape
  clear he hu0 hl0 hu1 hl1
  generalize rawN xs0 12 = a at *
  generalize rawN xs1 12 = b at *
  go_enter Tryz.func4, Tryz.ntmps4
  go_wp2_with fail
  refine (HH1.out _ (IsRaw.below HU0.out HS0.out.bel) (IsRaw.below HU1.out HS0.out.bel)).mono ?_
  rintro e w1 ⟨rfl, hb⟩
  have hs := ((HS0.out.next hb).boxed2 (.slice none 0 0) (.slice none 0 0) 26).boxed2 (.slice none 0 0) (.slice none 0 0) 29
  have HS1 := Lib.hid hs
  clear hs hb HS0
  go_wp2_with fail
  refine (awake_Q HS1.out).mono ?_
  rintro e w2 ⟨rfl, hs⟩
  have HS2 := Lib.hid hs
  clear hs HS1
  go_wp2
  go_ret
  exact ⟨by simp, HS2.out.bel⟩
set_option maxHeartbeats 4000000 in
set_option maxRecDepth 100000 in
theorem natNearest_e (u0 u1 : Value) (xs0 xs1 : List Nat) (most : Int) (num : Int) (den : Int) (w : World) (hu0 : IsRaw w u0 xs0) (hu1 : IsRaw w u1 xs1) (hl0 : xs0.length ≤ maxLen) (hl1 : xs1.length ≤ maxLen) (h1 : 0 < rawN xs1 12) (hc : most < 1 ∨ den < 1 ∨ most < den ∨ num < 0) (he : Env w) :
    Calls Tryz.prog 4 #[u0, u1, .int .i64 most, .int .i64 num, .int .i64 den] w fun e w' => e = .returned (.bool true) ∧ Below w.heap.size w w' := by
  have HE0 := Lib.hid he
  have HS0 := Lib.hid (Kq.start he)
  have hn0 := rawN_nd hu0.1 12
  have hn1 := rawN_nd hu1.1 12
  have HU0 := Lib.hid hu0
  have HU1 := Lib.hid hu1
  have HH1 := Lib.hid (fun W (i1 : IsRaw W u0 xs0) (i2 : IsRaw W u1 xs1) => half_pos u0 u1 xs0 xs1 12 W i1 i2 hl0 hl1 (by decide) h1)

  obtain ⟨uo0, uc0, rfl, -⟩ := hu0.shape
  obtain ⟨uo1, uc1, rfl, -⟩ := hu1.shape
  clear he hu0 hl0 hu1 hl1
  generalize rawN xs0 12 = a at *
  generalize rawN xs1 12 = b at *
  have hc' : most < 1 ∨ (¬ most < 1 ∧ den < 1) ∨ (¬ most < 1 ∧ ¬ den < 1 ∧ most < den) ∨ (¬ most < 1 ∧ ¬ den < 1 ∧ ¬ most < den ∧ num < 0) := by omega
  clear hc
  rcases hc' with hc | ⟨hc1, hc⟩ | ⟨hc1, hc2, hc⟩ | ⟨hc1, hc2, hc3, hc⟩
  all_goals
    go_enter Tryz.func4, Tryz.ntmps4
    go_wp2_with fail
    refine (HH1.out _ (IsRaw.below HU0.out HS0.out.bel) (IsRaw.below HU1.out HS0.out.bel)).mono ?_
    rintro e w1 ⟨vf1, vf2, vp1, vp2, rfl, hf1, hf2, hp1, hp2, hb⟩
    obtain ⟨f1o, f1c, rfl, -⟩ := hf1.shape
    obtain ⟨f2o, f2c, rfl, -⟩ := hf2.shape
    obtain ⟨p1o, p1c, rfl, -⟩ := hp1.shape
    obtain ⟨p2o, p2c, rfl, -⟩ := hp2.shape
    have hs := ((((((HS0.out.next hb).addNum hf1).addNum hf2).addDig hp1).addDig hp2).boxed2 (.slice f1o (nd 4294967296 (lowP a b)) f1c) (.slice f2o (nd 4294967296 (lowQ a b)) f2c) 26).boxed2 (.slice p1o (nd 65536 (lowP a b)) p1c) (.slice p2o (nd 65536 (lowQ a b)) p2c) 29
    simp only [World.size_alloc] at hs
    have HS1 := Lib.hid hs
    clear hs hb hf1 hf2 hp1 hp2 HS0
    go_wp2_with fail
    refine (awake_Q HS1.out).mono ?_
    rintro e w2 ⟨rfl, hs⟩
    have HS2 := Lib.hid hs
    clear hs HS1
    go_wp2
    go_ret
    exact ⟨by simp, HS2.out.bel⟩
set_option maxHeartbeats 40000000 in
set_option maxRecDepth 100000 in
theorem natNearest_m (u0 u1 : Value) (xs0 xs1 : List Nat) (most : Nat) (num : Nat) (den : Nat) (w : World) (hu0 : IsRaw w u0 xs0) (hu1 : IsRaw w u1 xs1) (hl0 : xs0.length ≤ maxLen) (hl1 : xs1.length ≤ maxLen) (h1 : 0 < rawN xs1 12) (hm1 : 1 ≤ most) (hm2 : most ≤ 9223372036854775807) (hden : 0 < den) (hdm : den ≤ most) (hnum : num ≤ 9223372036854775807) (he : Env w) :
    Calls Tryz.prog 4 #[u0, u1, .int .i64 most, .int .i64 num, .int .i64 den] w fun e w' => e = .returned (.bool true) ∧ Below w.heap.size w w' := by
  have HE0 := Lib.hid he
  have HS0 := Lib.hid (Kq.start he)
  have hn0 := rawN_nd hu0.1 12
  have hn1 := rawN_nd hu1.1 12
  have HU0 := Lib.hid hu0
  have HU1 := Lib.hid hu1
  have HH1 := Lib.hid (fun W (i1 : IsRaw W u0 xs0) (i2 : IsRaw W u1 xs1) => half_pos u0 u1 xs0 xs1 12 W i1 i2 hl0 hl1 (by decide) h1)
  have q1 : 0 < lowQ (rawN xs0 12) (rawN xs1 12) := Nat.div_pos (Nat.gcd_le_right _ h1) (Nat.gcd_pos_of_pos_right _ h1)
  have g1 : nd 65536 (lowP (rawN xs0 12) (rawN xs1 12)) ≤ 12 := Nat.le_trans (nd_mono (by decide) (Nat.div_le_self _ _)) hn0
  have g1' : nd 65536 (lowQ (rawN xs0 12) (rawN xs1 12)) ≤ 12 := Nat.le_trans (nd_mono (by decide) (Nat.div_le_self _ _)) hn1
  have o1 : Nat.gcd (lowP (rawN xs0 12) (rawN xs1 12)) (lowQ (rawN xs0 12) (rawN xs1 12)) = 1 := low_coprime h1
  obtain ⟨uo0, uc0, rfl, -⟩ := hu0.shape
  obtain ⟨uo1, uc1, rfl, -⟩ := hu1.shape
  clear he hu0 hl0 hu1 hl1
  generalize rawN xs0 12 = a at *
  generalize rawN xs1 12 = b at *
  generalize lowP a b = P1 at *
  generalize lowQ a b = Q1 at *
  have k1 := nd_32 g1
  have k1' := nd_32 g1'
  have HBS := Lib.hid (fun W v u (h1 : D W v P1) (h2 : D W u Q1) => Best_all v u most P1 Q1 W h1 h2 hm1 hm2 q1 o1 (by omega) (by omega))
  have HNN := Lib.hid (fun W => New_any num W hnum)
  have HND := Lib.hid (fun W => New_any den W (by omega))
  have s1 := nd_le_self16 hnum
  have s2 := nd_le_self16 (n := den) (by omega)
  have s3 := nd_32 s1
  have s4 := nd_32 s2
  have HNF := Lib.hid (fun W v u (h1 : D W v num) (h2 : D W u den) => NewFrac_any (divide_long 4 (by decide)) v u num den W h1 h2 hden ((nd_le (by decide)).1 (by omega)) ((nd_le (by decide)).1 (by omega)))
  rw [show num / Nat.gcd num den = lowP num den from rfl, show den / Nat.gcd num den = lowQ num den from rfl] at HNF
  have dp : 0 < lowQ num den := Nat.div_pos (Nat.gcd_le_right _ hden) (Nat.gcd_pos_of_pos_right _ hden)
  have dl : lowQ num den ≤ most := Nat.le_trans (Nat.div_le_self _ _) hdm
  have s5 : nd 65536 (lowP num den) ≤ 4 := Nat.le_trans (nd_mono (by decide) (Nat.div_le_self _ _)) s1
  have s6 : nd 65536 (lowQ num den) ≤ 4 := Nat.le_trans (nd_mono (by decide) (Nat.div_le_self _ _)) s2
  generalize lowP num den = N1 at *
  generalize lowQ num den = D1 at *
  have i1 : ¬ (most : Int) < 1 := by omega
  have i2 : ¬ (den : Int) < 1 := by omega
  have i3 : ¬ (most : Int) < den := by omega
  have i4 : ¬ (num : Int) < 0 := by omega
  clear o1 hn0 hn1 hdm
  go_enter Tryz.func4, Tryz.ntmps4
  go_wp2_with fail
  refine (HH1.out _ (IsRaw.below HU0.out HS0.out.bel) (IsRaw.below HU1.out HS0.out.bel)).mono ?_
  rintro e w1 ⟨vf1, vf2, vp1, vp2, rfl, hf1, hf2, hp1, hp2, hb⟩
  obtain ⟨f1o, f1c, rfl, -⟩ := hf1.shape
  obtain ⟨f2o, f2c, rfl, -⟩ := hf2.shape
  obtain ⟨p1o, p1c, rfl, -⟩ := hp1.shape
  obtain ⟨p2o, p2c, rfl, -⟩ := hp2.shape
  have hs := ((((((HS0.out.next hb).addNum hf1).addNum hf2).addDig hp1).addDig hp2).boxed2 (.slice f1o (nd 4294967296 (P1)) f1c) (.slice f2o (nd 4294967296 (Q1)) f2c) 26).boxed2 (.slice p1o (nd 65536 (P1)) p1c) (.slice p2o (nd 65536 (Q1)) p2c) 29
  simp only [World.size_alloc] at hs
  have HS1 := Lib.hid hs
  clear hs hb hf1 hf2 hp1 hp2 HS0
  clear HH1 HU0 HU1
  have cf1 := HS1.out.cell (.tail _ (.tail _ (.tail _ (.head _))))
  have cf2 := HS1.out.cell (.tail _ (.tail _ (.head _)))
  go_wp2_with fail
  refine (HBS.out _ _ _ (HS1.out.num _ (.tail _ (.head _))) (HS1.out.num _ (.head _))).mono ?_
  rintro e w2 ⟨vg1, vg2, X, Y, rfl, hg1, hg2, hbest, hb⟩
  obtain ⟨g1o, g1c, rfl, -⟩ := hg1.shape
  obtain ⟨g2o, g2c, rfl, -⟩ := hg2.shape
  have hs := (((HS1.out.next hb).addNum hg1).addNum hg2).boxed2 (.slice g1o (nd 4294967296 (X)) g1c) (.slice g2o (nd 4294967296 (Y)) g2c) 26
  have HS2 := Lib.hid hs
  clear hs hb hg1 hg2 HS1
  clear cf1 cf2
  have hbb := best_bound hbest q1
  have hy0 := hbest.1
  have hyL := hbest.2.1
  have s7 : nd 65536 Y ≤ 4 := nd_le_self16 (by omega)
  have s8 : nd 65536 (P1 + Q1) ≤ 13 := nd_radd2 g1 g1'
  have s9 : nd 65536 X ≤ 17 := Nat.le_trans (nd_mono (by decide) hbb) (nd_rmul s8 s7)
  have k7 := nd_32 s7
  have k9 := nd_32 s9
  have HBE := Lib.hid hbest
  have HY0 := Lib.hid hy0; have HYL := Lib.hid hyL
  have hyi : ¬ (most : Int) < Y := by omega
  clear hbest hbb hy0 HBS
  go_wp2_with fail
  refine (HNN.out _).mono ?_
  rintro e w3 ⟨vn, rfl, hn, hb⟩
  obtain ⟨no, nc, rfl, -⟩ := hn.shape
  have hs := ((HS2.out.next hb).addNum hn).boxed (.slice no (nd 4294967296 (num)) nc) 42
  have HS3 := Lib.hid hs
  clear hs hb hn HS2
  go_wp2_with fail
  refine (HND.out _).mono ?_
  rintro e w4 ⟨vdd, rfl, hdd, hb⟩
  obtain ⟨ddo, ddc, rfl, -⟩ := hdd.shape
  have hs := ((HS3.out.next hb).addNum hdd).boxed (.slice ddo (nd 4294967296 (den)) ddc) 42
  have HS4 := Lib.hid hs
  clear hs hb hdd HS3
  have cn := HS4.out.cell (.tail _ (.head _))
  have cdd := HS4.out.cell (.head _)
  go_wp2_with fail
  refine (HNF.out _ _ _ (HS4.out.num _ (.tail _ (.head _))) (HS4.out.num _ (.head _))).mono ?_
  rintro e w5 ⟨vo1, vo2, rfl, ho1, ho2, hb⟩
  obtain ⟨o1o, o1c, rfl, -⟩ := ho1.shape
  obtain ⟨o2o, o2c, rfl, -⟩ := ho2.shape
  have hs := (((HS4.out.next hb).addNum ho1).addNum ho2).boxed2 (.slice o1o (nd 4294967296 (N1)) o1c) (.slice o2o (nd 4294967296 (D1)) o2c) 26
  have HS5 := Lib.hid hs
  clear hs hb ho1 ho2 HS4
  clear cn cdd
  have cg1 := HS5.out.cell (.tail _ (.tail _ (.tail _ (.tail _ (.tail _ (.head _))))))
  have cg2 := HS5.out.cell (.tail _ (.tail _ (.tail _ (.tail _ (.head _)))))
  have HDN := Lib.hid (FDen_any _ _ X Y _ (HS5.out.num _ (.tail _ (.tail _ (.tail _ (.tail _ (.tail _ (.head _))))))) (HS5.out.num _ (.tail _ (.tail _ (.tail _ (.tail _ (.head _)))))) (by rw [dn_of HY0.out]; omega))
  rw [dn_of HY0.out] at HDN
  go_wp2_with fail
  refine HDN.out.mono ?_
  rintro e wn ⟨vn, rfl, hvn, hb⟩
  obtain ⟨no', nc', rfl, -⟩ := hvn.shape
  have hs := (HS5.out.next hb).addNum hvn
  have HS6 := Lib.hid hs
  clear hs hb hvn HDN HS5
  clear cg1 cg2
  have HTO := Lib.hid ((Int_small _ Y _ (HS6.out.num _ (.head _)) (by omega)).mono fun e w' h => And.intro h.1 (HS6.out.next h.2))
  go_wp2_with fail
  refine (HTO.out).mono ?_
  rintro e w6 ⟨rfl, hs⟩
  have HS7 := Lib.hid hs
  clear hs HS6
  clear HTO
  have hs := HS7.out
  obtain ⟨cs1, hcs⟩ : ∃ cs : List (Nat × Nat × Value), cs = (w5.heap.size, 1, .slice o2o (nd 4294967296 (D1)) o2c) :: (w5.heap.size, 0, .slice o1o (nd 4294967296 (N1)) o1c) :: (w4.heap.size, 0, .slice ddo (nd 4294967296 (den)) ddc) :: (w3.heap.size, 0, .slice no (nd 4294967296 (num)) nc) :: (w2.heap.size, 1, .slice g2o (nd 4294967296 (Y)) g2c) :: (w2.heap.size, 0, .slice g1o (nd 4294967296 (X)) g1c) :: (w1.heap.size + 1, 1, .slice p2o (nd 65536 (Q1)) p2c) :: (w1.heap.size + 1, 0, .slice p1o (nd 65536 (P1)) p1c) :: (w1.heap.size, 1, .slice f2o (nd 4294967296 (Q1)) f2c) :: (w1.heap.size, 0, .slice f1o (nd 4294967296 (P1)) f1c) :: [] := ⟨_, rfl⟩
  obtain ⟨ns1, hns⟩ : ∃ ns : List (Value × Nat), ns = (.slice no' (nd 4294967296 Y) nc', Y) :: (.slice o2o (nd 4294967296 (D1)) o2c, D1) :: (.slice o1o (nd 4294967296 (N1)) o1c, N1) :: (.slice ddo (nd 4294967296 (den)) ddc, den) :: (.slice no (nd 4294967296 (num)) nc, num) :: (.slice g2o (nd 4294967296 (Y)) g2c, Y) :: (.slice g1o (nd 4294967296 (X)) g1c, X) :: (.slice f2o (nd 4294967296 (Q1)) f2c, Q1) :: (.slice f1o (nd 4294967296 (P1)) f1c, P1) :: [] := ⟨_, rfl⟩
  obtain ⟨rs1, hrs⟩ : ∃ rs : List (Value × Nat), rs = (.slice p2o (nd 65536 (Q1)) p2c, Q1) :: (.slice p1o (nd 65536 (P1)) p1c, P1) :: [] := ⟨_, rfl⟩
  rw [← hcs, ← hns, ← hrs] at hs
  have HC1_f1 : Hid (((w1.heap.size, 0, .slice f1o (nd 4294967296 (P1)) f1c) : Nat × Nat × Value) ∈ cs1) := by show _ ∈ _; rw [hcs]; exact (.tail _ (.tail _ (.tail _ (.tail _ (.tail _ (.tail _ (.tail _ (.tail _ (.tail _ (.head _))))))))))
  have HC1_f2 : Hid (((w1.heap.size, 1, .slice f2o (nd 4294967296 (Q1)) f2c) : Nat × Nat × Value) ∈ cs1) := by show _ ∈ _; rw [hcs]; exact (.tail _ (.tail _ (.tail _ (.tail _ (.tail _ (.tail _ (.tail _ (.tail _ (.head _)))))))))
  have HC1_g1 : Hid (((w2.heap.size, 0, .slice g1o (nd 4294967296 (X)) g1c) : Nat × Nat × Value) ∈ cs1) := by show _ ∈ _; rw [hcs]; exact (.tail _ (.tail _ (.tail _ (.tail _ (.tail _ (.head _))))))
  have HC1_g2 : Hid (((w2.heap.size, 1, .slice g2o (nd 4294967296 (Y)) g2c) : Nat × Nat × Value) ∈ cs1) := by show _ ∈ _; rw [hcs]; exact (.tail _ (.tail _ (.tail _ (.tail _ (.head _)))))
  have HC1_o1 : Hid (((w5.heap.size, 0, .slice o1o (nd 4294967296 (N1)) o1c) : Nat × Nat × Value) ∈ cs1) := by show _ ∈ _; rw [hcs]; exact (.tail _ (.head _))
  have HC1_o2 : Hid (((w5.heap.size, 1, .slice o2o (nd 4294967296 (D1)) o2c) : Nat × Nat × Value) ∈ cs1) := by show _ ∈ _; rw [hcs]; exact (.head _)
  have HM1_f1 : Hid (((.slice f1o (nd 4294967296 (P1)) f1c, P1) : Value × Nat) ∈ ns1) := by show _ ∈ _; rw [hns]; exact (.tail _ (.tail _ (.tail _ (.tail _ (.tail _ (.tail _ (.tail _ (.tail _ (.head _)))))))))
  have HM1_f2 : Hid (((.slice f2o (nd 4294967296 (Q1)) f2c, Q1) : Value × Nat) ∈ ns1) := by show _ ∈ _; rw [hns]; exact (.tail _ (.tail _ (.tail _ (.tail _ (.tail _ (.tail _ (.tail _ (.head _))))))))
  have HM1_g1 : Hid (((.slice g1o (nd 4294967296 (X)) g1c, X) : Value × Nat) ∈ ns1) := by show _ ∈ _; rw [hns]; exact (.tail _ (.tail _ (.tail _ (.tail _ (.tail _ (.tail _ (.head _)))))))
  have HM1_g2 : Hid (((.slice g2o (nd 4294967296 (Y)) g2c, Y) : Value × Nat) ∈ ns1) := by show _ ∈ _; rw [hns]; exact (.tail _ (.tail _ (.tail _ (.tail _ (.tail _ (.head _))))))
  have HM1_o1 : Hid (((.slice o1o (nd 4294967296 (N1)) o1c, N1) : Value × Nat) ∈ ns1) := by show _ ∈ _; rw [hns]; exact (.tail _ (.tail _ (.head _)))
  have HM1_o2 : Hid (((.slice o2o (nd 4294967296 (D1)) o2c, D1) : Value × Nat) ∈ ns1) := by show _ ∈ _; rw [hns]; exact (.tail _ (.head _))
  have HCL1 : Hid (∀ W', Kq cs1 ns1 rs1 w W' → W'.cell? ⟨w1.heap.size, 0, none⟩ = some (.slice f1o (nd 4294967296 (P1)) f1c) ∧ W'.cell? ⟨w1.heap.size, 1, none⟩ = some (.slice f2o (nd 4294967296 (Q1)) f2c) ∧ W'.cell? ⟨w2.heap.size, 0, none⟩ = some (.slice g1o (nd 4294967296 (X)) g1c) ∧ W'.cell? ⟨w2.heap.size, 1, none⟩ = some (.slice g2o (nd 4294967296 (Y)) g2c) ∧ W'.cell? ⟨w5.heap.size, 0, none⟩ = some (.slice o1o (nd 4294967296 (N1)) o1c) ∧ W'.cell? ⟨w5.heap.size, 1, none⟩ = some (.slice o2o (nd 4294967296 (D1)) o2c)) := fun W' h => ⟨h.cell HC1_f1.out, h.cell HC1_f2.out, h.cell HC1_g1.out, h.cell HC1_g2.out, h.cell HC1_o1.out, h.cell HC1_o2.out⟩
  have hs2 := hs.drew
  have hcl := HCL1.out _ hs2
  have hc0 := HCL1.out _ hs
  have HAK1 := Lib.hid (fun W' (h : Kq cs1 ns1 rs1 w W') => awake_Q h)
  clear hcs hns hrs HS7
  have HAG : Hid (∀ W', Kq cs1 ns1 rs1 w W' → Calls Tryz.prog 17 #[.agg #[.slice f1o (nd 4294967296 (P1)) f1c, .slice f2o (nd 4294967296 (Q1)) f2c], .agg #[.slice g1o (nd 4294967296 (X)) g1c, .slice g2o (nd 4294967296 (Y)) g2c]] W' fun e w' => ∃ o l c o2 l2 c2, e = .returned (.agg #[.slice o l c, .slice o2 l2 c2]) ∧ (D w' (.slice o l c) (lowP (gapN P1 Q1 X Y) (Q1 * Y)) ∧ D w' (.slice o2 l2 c2) (lowQ (gapN P1 Q1 X Y) (Q1 * Y))) ∧ Below W'.heap.size W' w' ∧ Kq cs1 ns1 rs1 w w') := fun W' h =>
    (apart_any _ _ _ _ P1 Q1 X Y W' (h.num _ (HM1_f1.out)) (h.num _ (HM1_f2.out)) (h.num _ (HM1_g1.out)) (h.num _ (HM1_g2.out)) q1 HY0.out (by omega) (by omega) (by omega) (by omega)).mono fun e w' ⟨o, l, c, o2, l2, c2, he, h1, h2, hB⟩ => ⟨o, l, c, o2, l2, c2, he, ⟨h1, h2⟩, hB, h.next hB⟩
  have HAO : Hid (∀ W', Kq cs1 ns1 rs1 w W' → Calls Tryz.prog 17 #[.agg #[.slice f1o (nd 4294967296 (P1)) f1c, .slice f2o (nd 4294967296 (Q1)) f2c], .agg #[.slice o1o (nd 4294967296 (N1)) o1c, .slice o2o (nd 4294967296 (D1)) o2c]] W' fun e w' => ∃ o l c o2 l2 c2, e = .returned (.agg #[.slice o l c, .slice o2 l2 c2]) ∧ (D w' (.slice o l c) (lowP (gapN P1 Q1 N1 D1) (Q1 * D1)) ∧ D w' (.slice o2 l2 c2) (lowQ (gapN P1 Q1 N1 D1) (Q1 * D1))) ∧ Below W'.heap.size W' w' ∧ Kq cs1 ns1 rs1 w w') := fun W' h =>
    (apart_any _ _ _ _ P1 Q1 N1 D1 W' (h.num _ (HM1_f1.out)) (h.num _ (HM1_f2.out)) (h.num _ (HM1_o1.out)) (h.num _ (HM1_o2.out)) q1 dp (by omega) (by omega) (by omega) (by omega)).mono fun e w' ⟨o, l, c, o2, l2, c2, he, h1, h2, hB⟩ => ⟨o, l, c, o2, l2, c2, he, ⟨h1, h2⟩, hB, h.next hB⟩
  have HKK := Lib.hid (cmp_gaps (c := N1) HBE.out q1 dp dl)
  have sg : ∀ x y, nd 65536 x ≤ 20 → nd 65536 y ≤ 20 → nd 65536 (gapN P1 Q1 x y) ≤ 40 := fun x y h1 h2 => by
    unfold gapN
    split
    · exact Nat.le_trans (nd_mono (by decide) (Nat.sub_le _ _)) (Nat.le_trans (nd_rmul h1 g1') (by decide))
    · exact Nat.le_trans (nd_mono (by decide) (Nat.sub_le _ _)) (Nat.le_trans (nd_rmul g1 h2) (by decide))
  have t1 := sg X Y (by omega) (by omega)
  have t2 := sg N1 D1 (by omega) (by omega)
  have t3 := nd_rmul g1' s7
  have t4 := nd_rmul g1' s6
  have y1 : nd 65536 (lowP (gapN P1 Q1 X Y) (Q1 * Y)) ≤ 40 := Nat.le_trans (nd_mono (by decide) (Nat.div_le_self _ _)) t1
  have y2 : nd 65536 (lowQ (gapN P1 Q1 X Y) (Q1 * Y)) ≤ 40 := Nat.le_trans (nd_mono (by decide) (Nat.div_le_self _ _)) (by omega)
  have y3 : nd 65536 (lowP (gapN P1 Q1 N1 D1) (Q1 * D1)) ≤ 40 := Nat.le_trans (nd_mono (by decide) (Nat.div_le_self _ _)) t2
  have y4 : nd 65536 (lowQ (gapN P1 Q1 N1 D1) (Q1 * D1)) ≤ 40 := Nat.le_trans (nd_mono (by decide) (Nat.div_le_self _ _)) (by omega)
  have z1 : 0 < lowQ (gapN P1 Q1 X Y) (Q1 * Y) := Nat.div_pos (Nat.gcd_le_right _ (Nat.mul_pos q1 HY0.out)) (Nat.gcd_pos_of_pos_right _ (Nat.mul_pos q1 HY0.out))
  have z2 : 0 < lowQ (gapN P1 Q1 N1 D1) (Q1 * D1) := Nat.div_pos (Nat.gcd_le_right _ (Nat.mul_pos q1 dp)) (Nat.gcd_pos_of_pos_right _ (Nat.mul_pos q1 dp))
  generalize lowP (gapN P1 Q1 X Y) (Q1 * Y) = A1 at *
  generalize lowQ (gapN P1 Q1 X Y) (Q1 * Y) = A2 at *
  generalize lowP (gapN P1 Q1 N1 D1) (Q1 * D1) = B1 at *
  generalize lowQ (gapN P1 Q1 N1 D1) (Q1 * D1) = B2 at *
  have j1 := nd_32 y1; have j2 := nd_32 y2; have j3 := nd_32 y3; have j4 := nd_32 y4
  have HCXY := Lib.hid (fun W v u x y (h1 : D W v A1) (h2 : D W u A2) (h3 : D W x B1) (h4 : D W y B2) => FCmp_any v u x y A1 A2 B1 B2 W h1 h2 h3 h4 (by omega) (by omega) (by omega) (by omega))
  rw [dn_of z1, dn_of z2] at HCXY
  clear t1 t2 t3 t4 sg y1 y2 y3 y4 z1 z2
  obtain ⟨kk, hkk⟩ : ∃ kk, kk = cmpN ((A1 * B2 : Nat) : Int) ((B1 * A2 : Nat) : Int) := ⟨_, rfl⟩
  rw [← hkk] at HKK HCXY
  clear hkk
  have HAL : Hid (∀ W' o, Kq cs1 ns1 rs1 w W' → ((W'.alloc o).cell? ⟨w1.heap.size, 0, none⟩ = some (.slice f1o (nd 4294967296 (P1)) f1c) ∧ (W'.alloc o).cell? ⟨w1.heap.size, 1, none⟩ = some (.slice f2o (nd 4294967296 (Q1)) f2c) ∧ (W'.alloc o).cell? ⟨w2.heap.size, 0, none⟩ = some (.slice g1o (nd 4294967296 (X)) g1c) ∧ (W'.alloc o).cell? ⟨w2.heap.size, 1, none⟩ = some (.slice g2o (nd 4294967296 (Y)) g2c) ∧ (W'.alloc o).cell? ⟨w5.heap.size, 0, none⟩ = some (.slice o1o (nd 4294967296 (N1)) o1c) ∧ (W'.alloc o).cell? ⟨w5.heap.size, 1, none⟩ = some (.slice o2o (nd 4294967296 (D1)) o2c)) ∧ Kq cs1 ns1 rs1 w (W'.alloc o)) := fun W' o h => ⟨HCL1.out _ (h.alloc o), h.alloc o⟩
  have HAD : Hid (∀ W' o, Kq cs1 ns1 rs1 w W' → (((W'.alloc o).drew).cell? ⟨w1.heap.size, 0, none⟩ = some (.slice f1o (nd 4294967296 (P1)) f1c) ∧ ((W'.alloc o).drew).cell? ⟨w1.heap.size, 1, none⟩ = some (.slice f2o (nd 4294967296 (Q1)) f2c) ∧ ((W'.alloc o).drew).cell? ⟨w2.heap.size, 0, none⟩ = some (.slice g1o (nd 4294967296 (X)) g1c) ∧ ((W'.alloc o).drew).cell? ⟨w2.heap.size, 1, none⟩ = some (.slice g2o (nd 4294967296 (Y)) g2c) ∧ ((W'.alloc o).drew).cell? ⟨w5.heap.size, 0, none⟩ = some (.slice o1o (nd 4294967296 (N1)) o1c) ∧ ((W'.alloc o).drew).cell? ⟨w5.heap.size, 1, none⟩ = some (.slice o2o (nd 4294967296 (D1)) o2c)) ∧ Kq cs1 ns1 rs1 w ((W'.alloc o).drew)) := fun W' o h => ⟨HCL1.out _ (h.alloc o).drew, (h.alloc o).drew⟩
  have HPU : Hid (∀ W' XB q1 q2, Kq cs1 ns1 rs1 w W' → Zb cs1 w XB W' → (((W'.setCell ⟨XB, 0, none⟩ q1).setCell ⟨XB, 1, none⟩ q2).cell? ⟨w1.heap.size, 0, none⟩ = some (.slice f1o (nd 4294967296 (P1)) f1c) ∧ ((W'.setCell ⟨XB, 0, none⟩ q1).setCell ⟨XB, 1, none⟩ q2).cell? ⟨w1.heap.size, 1, none⟩ = some (.slice f2o (nd 4294967296 (Q1)) f2c) ∧ ((W'.setCell ⟨XB, 0, none⟩ q1).setCell ⟨XB, 1, none⟩ q2).cell? ⟨w2.heap.size, 0, none⟩ = some (.slice g1o (nd 4294967296 (X)) g1c) ∧ ((W'.setCell ⟨XB, 0, none⟩ q1).setCell ⟨XB, 1, none⟩ q2).cell? ⟨w2.heap.size, 1, none⟩ = some (.slice g2o (nd 4294967296 (Y)) g2c) ∧ ((W'.setCell ⟨XB, 0, none⟩ q1).setCell ⟨XB, 1, none⟩ q2).cell? ⟨w5.heap.size, 0, none⟩ = some (.slice o1o (nd 4294967296 (N1)) o1c) ∧ ((W'.setCell ⟨XB, 0, none⟩ q1).setCell ⟨XB, 1, none⟩ q2).cell? ⟨w5.heap.size, 1, none⟩ = some (.slice o2o (nd 4294967296 (D1)) o2c)) ∧ Kq cs1 ns1 rs1 w ((W'.setCell ⟨XB, 0, none⟩ q1).setCell ⟨XB, 1, none⟩ q2)) := fun W' XB q1 q2 h hz => ⟨HCL1.out _ (h.put2 HE0.out hz q1 q2), h.put2 HE0.out hz q1 q2⟩
  go_upto_region 11 with fail
  go_cut [24, 25] from 27 to 102 (fun s24 s25 wx => ∃ XB YB o1 l1 c1 o2 l2 c2 o3 l3 c3 o4 l4 c4, s24 = .pointer (some ⟨XB, 0, none⟩) ∧ s25 = .pointer (some ⟨YB, 0, none⟩) ∧ Hid (Pair cs1 ns1 rs1 w XB YB A1 A2 B1 B2 (.slice o1 l1 c1) (.slice o2 l2 c2) (.slice o3 l3 c3) (.slice o4 l4 c4) wx))
  case first =>
    go_region_held3 (fun W' : World => (W'.cell? ⟨w1.heap.size, 0, none⟩ = some (.slice f1o (nd 4294967296 (P1)) f1c) ∧ W'.cell? ⟨w1.heap.size, 1, none⟩ = some (.slice f2o (nd 4294967296 (Q1)) f2c) ∧ W'.cell? ⟨w2.heap.size, 0, none⟩ = some (.slice g1o (nd 4294967296 (X)) g1c) ∧ W'.cell? ⟨w2.heap.size, 1, none⟩ = some (.slice g2o (nd 4294967296 (Y)) g2c) ∧ W'.cell? ⟨w5.heap.size, 0, none⟩ = some (.slice o1o (nd 4294967296 (N1)) o1c) ∧ W'.cell? ⟨w5.heap.size, 1, none⟩ = some (.slice o2o (nd 4294967296 (D1)) o2c)) ∧ Kq cs1 ns1 rs1 w W') (first | (refine And.intro ?_ ?_ <;> assumption) | ((with_reducible refine HAL.out _ _ ?_) <;> (repeat' (with_reducible first | assumption | apply Kq.put2 HE0.out | apply Zb.put2 | exact Zb.top (by assumption) _ | exact Zb.top1 (by assumption) _ _ | apply Kq.alloc | apply Zb.alloc | omega))) | ((with_reducible refine HAD.out _ _ ?_) <;> (repeat' (with_reducible first | assumption | apply Kq.put2 HE0.out | apply Zb.put2 | exact Zb.top (by assumption) _ | exact Zb.top1 (by assumption) _ _ | apply Kq.alloc | apply Zb.alloc | omega))) | ((with_reducible refine HPU.out _ _ _ _ ?_ ?_) <;> (repeat' (with_reducible first | assumption | apply Kq.put2 HE0.out | apply Zb.put2 | exact Zb.top (by assumption) _ | exact Zb.top1 (by assumption) _ _ | apply Kq.alloc | apply Zb.alloc | omega))) | fail) (first
      | (go_at_call 17; with_reducible refine (HAG.out _ ?h).mono ?_; (case h => (first | assumption | exact Kq.alloc (by assumption) _ | exact Kq.alloc (Kq.alloc (by assumption) _) _ | exact Kq.drew (Kq.alloc (by assumption) _) | exact Kq.drew (Kq.alloc (Kq.alloc (by assumption) _) _) | fail)); rintro e w' ⟨x1, x2, x3, x4, x5, x6, rfl, ⟨hxa, hxb⟩, hB', hs'⟩; have hc' := HCL1.out _ hs'; (first | (have zA := Zb.next (Zb.top1 (by assumption) _ _) hB') | (have zA := Zb.next (Zb.top (by assumption) _) hB') | (have zA := Zb.next (Zb.drew (Zb.top1 (by assumption) _ _)) hB') | (have zA := Zb.next (Zb.drew (Zb.top (by assumption) _)) hB') | skip); (first | (have zB := Zb.next (Zb.second (by assumption) _ _) hB') | (have zB := Zb.next (Zb.drew (Zb.second (by assumption) _ _)) hB') | skip); (first | (have zA0 := zA.c0; have zA1 := zA.c1; have zA2 := zA.f0; have zA3 := zA.f1; have zA4 : ¬ _ = _ := Nat.ne_of_lt zA.lt; have zA5 : ¬ _ = _ := Nat.ne_of_gt zA.lt; have zA6 := fun o => (Zb.alloc zA o).c0; have zA7 := fun o => (Zb.alloc zA o).c1; have zA8 := fun o => (Zb.alloc zA o).f0; have zA9 := fun o => (Zb.alloc zA o).f1) | skip); (first | (have zB0 := zB.c0; have zB1 := zB.c1; have zB2 := zB.f0; have zB3 := zB.f1; have zB4 : ¬ _ = _ := Nat.ne_of_lt zB.lt; have zB5 : ¬ _ = _ := Nat.ne_of_gt zB.lt; have zB6 := fun o => (Zb.alloc zB o).c0; have zB7 := fun o => (Zb.alloc zB o).c1; have zB8 := fun o => (Zb.alloc zB o).f0; have zB9 := fun o => (Zb.alloc zB o).f1) | skip); have hB1 := hB')
      | (go_at_call 17; with_reducible refine (HAO.out _ ?h).mono ?_; (case h => (first | assumption | exact Kq.alloc (by assumption) _ | exact Kq.alloc (Kq.alloc (by assumption) _) _ | exact Kq.drew (Kq.alloc (by assumption) _) | exact Kq.drew (Kq.alloc (Kq.alloc (by assumption) _) _) | fail)); rintro e w' ⟨y1, y2, y3, y4, y5, y6, rfl, ⟨hya, hyb⟩, hB', hs'⟩; have hc' := HCL1.out _ hs'; have hxa' := dalloc2 hB' (by first | exact hxa | exact dalloc hxa | exact dalloc (dalloc hxa)); have hxb' := dalloc2 hB' (by first | exact hxb | exact dalloc hxb | exact dalloc (dalloc hxb)); (first | (have zC := Zb.next (by first | exact zA | exact Zb.alloc zA _ | exact Zb.alloc (Zb.alloc zA _) _) hB') | skip); (first | (have zD := Zb.next (by first | exact zB | exact Zb.alloc zB _ | exact Zb.alloc (Zb.alloc zB _) _) hB') | skip); (first | (have zE := Zb.next (Zb.top1 (by assumption) _ _) hB') | (have zE := Zb.next (Zb.top (by assumption) _) hB') | (have zE := Zb.next (Zb.drew (Zb.top1 (by assumption) _ _)) hB') | (have zE := Zb.next (Zb.drew (Zb.top (by assumption) _)) hB') | skip); (first | (have zF := Zb.next (Zb.second (by assumption) _ _) hB') | (have zF := Zb.next (Zb.drew (Zb.second (by assumption) _ _)) hB') | skip); (first | (have zC0 := zC.c0; have zC1 := zC.c1; have zC2 := zC.f0; have zC3 := zC.f1; have zC4 : ¬ _ = _ := Nat.ne_of_lt zC.lt; have zC5 : ¬ _ = _ := Nat.ne_of_gt zC.lt; have zC6 := fun o => (Zb.alloc zC o).c0; have zC7 := fun o => (Zb.alloc zC o).c1; have zC8 := fun o => (Zb.alloc zC o).f0; have zC9 := fun o => (Zb.alloc zC o).f1) | skip); (first | (have zD0 := zD.c0; have zD1 := zD.c1; have zD2 := zD.f0; have zD3 := zD.f1; have zD4 : ¬ _ = _ := Nat.ne_of_lt zD.lt; have zD5 : ¬ _ = _ := Nat.ne_of_gt zD.lt; have zD6 := fun o => (Zb.alloc zD o).c0; have zD7 := fun o => (Zb.alloc zD o).c1; have zD8 := fun o => (Zb.alloc zD o).f0; have zD9 := fun o => (Zb.alloc zD o).f1) | skip); (first | (have zE0 := zE.c0; have zE1 := zE.c1; have zE2 := zE.f0; have zE3 := zE.f1; have zE4 : ¬ _ = _ := Nat.ne_of_lt zE.lt; have zE5 : ¬ _ = _ := Nat.ne_of_gt zE.lt; have zE6 := fun o => (Zb.alloc zE o).c0; have zE7 := fun o => (Zb.alloc zE o).c1; have zE8 := fun o => (Zb.alloc zE o).f0; have zE9 := fun o => (Zb.alloc zE o).f1) | skip); (first | (have zF0 := zF.c0; have zF1 := zF.c1; have zF2 := zF.f0; have zF3 := zF.f1; have zF4 : ¬ _ = _ := Nat.ne_of_lt zF.lt; have zF5 : ¬ _ = _ := Nat.ne_of_gt zF.lt; have zF6 := fun o => (Zb.alloc zF o).c0; have zF7 := fun o => (Zb.alloc zF o).c1; have zF8 := fun o => (Zb.alloc zF o).f0; have zF9 := fun o => (Zb.alloc zF o).f1) | skip); skip) | fail)
    all_goals
      go_wp2_with fail
      go_meet
      case rel =>
        (first | refine ⟨_, _, x1, x2, x3, x4, x5, x6, y1, y2, y3, y4, y5, y6, rfl, rfl, Lib.hid ⟨?_, ?_, ?_, ?_, ?_, ?_, ?_, ?_, ?_, ?_, ?_⟩⟩ | refine ⟨_, _, _, _, _, _, _, _, _, _, _, _, _, _, rfl, rfl, Lib.hid ⟨?_, ?_, ?_, ?_, ?_, ?_, ?_, ?_, ?_, ?_, ?_⟩⟩ | fail) <;> (repeat' (with_reducible first | assumption | exact HE0.out | exact at0 | exact at1 | exact at0s | exact at1s | exact atn0 | exact atn1 | apply Kq.put2 | apply Zb.put2 | exact Zb.top (by assumption) _ | exact Zb.top1 (by assumption) _ _ | apply Kq.alloc | apply Zb.alloc | apply Kq.drew | apply Zb.drew | apply dalloc | apply Zb.num | apply Zb.own0 | apply Zb.own1 | apply far2a | apply lt2 | exact Zb.lt (by assumption) | exact Zb.lts (by assumption) | exact Zb.ltss (by assumption) | omega | simp only [World.size_alloc, World.size_setCell, World.size_drew] | fail))

  case rest =>
    obtain ⟨XB, YB, o1, l1, c1, o2, l2, c2, o3, l3, c3, o4, l4, c4, rfl, rfl, HP⟩ := hcut
    have cx0 := HP.out.x0; have cx1 := HP.out.x1; have cy0 := HP.out.y0; have cy1 := HP.out.y1
    have HTO := Lib.hid ((HCXY.out _ _ _ _ _ HP.out.d1 HP.out.d2 HP.out.d3 HP.out.d4).mono fun e w' h => And.intro h.1 (HP.out.k.next h.2))
    clear HAG HAO HAL HAD HPU hs hs2 hcl hc0
    rcases HKK.out with hk | ⟨hk, hlt⟩ | ⟨hk, heq, hle⟩
    · rw [hk] at HTO
      clear hk
      go_wp2_with fail
      refine HTO.out.mono ?_
      rintro e wq ⟨rfl, hs⟩
      have HS8 := Lib.hid hs
      clear hs cx0 cx1 cy0 cy1 HTO HP
      go_wp2_with fail
      refine (awake_Q HS8.out).mono ?_
      rintro e w7 ⟨rfl, hs⟩
      have HS9 := Lib.hid hs
      clear hs HS8
      go_wp2
      go_ret
      exact ⟨by simp, HS9.out.bel⟩
    · rw [hk] at HTO
      clear hk
      go_wp2_with fail
      refine HTO.out.mono ?_
      rintro e wq ⟨rfl, hs⟩
      have HS8 := Lib.hid hs
      clear hs cx0 cx1 cy0 cy1 HTO HP
      have HDG : Hid (∀ W', Kq cs1 ns1 rs1 w W' → Calls Tryz.prog 15 #[.agg #[.slice g1o (nd 4294967296 (X)) g1c, .slice g2o (nd 4294967296 (Y)) g2c]] W' fun e w' => ∃ o l c, e = .returned (.agg #[.slice o l c]) ∧ D w' (.slice o l c) Y ∧ Below W'.heap.size W' w' ∧ Kq cs1 ns1 rs1 w w') := fun W' h => by
        have h1 := FDen_any _ _ X Y W' (h.num _ (HM1_g1.out)) (h.num _ (HM1_g2.out)) (by rw [dn_of HY0.out]; omega)
        rw [dn_of HY0.out] at h1
        exact h1.mono fun e w' ⟨r, he, hr, hB⟩ => by
          obtain ⟨ro, rc, rfl, -⟩ := hr.shape
          exact ⟨ro, _, rc, he, hr, hB, h.next hB⟩
      have HDO : Hid (∀ W', Kq cs1 ns1 rs1 w W' → Calls Tryz.prog 15 #[.agg #[.slice o1o (nd 4294967296 (N1)) o1c, .slice o2o (nd 4294967296 (D1)) o2c]] W' fun e w' => ∃ o l c, e = .returned (.agg #[.slice o l c]) ∧ D w' (.slice o l c) D1 ∧ Below W'.heap.size W' w' ∧ Kq cs1 ns1 rs1 w w') := fun W' h => by
        have h1 := FDen_any _ _ N1 D1 W' (h.num _ (HM1_o1.out)) (h.num _ (HM1_o2.out)) (by rw [dn_of dp]; have := nd_32 s6; omega)
        rw [dn_of dp] at h1
        exact h1.mono fun e w' ⟨r, he, hr, hB⟩ => by
          obtain ⟨ro, rc, rfl, -⟩ := hr.shape
          exact ⟨ro, _, rc, he, hr, hB, h.next hB⟩
      have HCD : Hid (∀ W' x y, Kq cs1 ns1 rs1 w W' → D W' x Y → D W' y D1 → Calls Tryz.prog 19 #[.agg #[x], .agg #[y]] W' fun e w' => e = .returned (.int .i64 (-1)) ∧ Kq cs1 ns1 rs1 w w') := fun W' x y h hx hy => by
        have h1 := NCmp_any x y Y D1 W' hx hy (by omega) (by have := nd_32 s6; omega)
        rw [show cmpN ((Y : Nat) : Int) ((D1 : Nat) : Int) = (-1) from cmpN_lt (by omega)] at h1
        exact h1.mono fun e w' ⟨he, hB⟩ => ⟨he, h.next hB⟩
      have hs := HS8.out
      have hs2 := hs.drew
      have hcl := HCL1.out _ hs2
      have hc0 := HCL1.out _ hs
      go_wp2_with fail
      go_region_held3 (fun W' : World => (W'.cell? ⟨w1.heap.size, 0, none⟩ = some (.slice f1o (nd 4294967296 (P1)) f1c) ∧ W'.cell? ⟨w1.heap.size, 1, none⟩ = some (.slice f2o (nd 4294967296 (Q1)) f2c) ∧ W'.cell? ⟨w2.heap.size, 0, none⟩ = some (.slice g1o (nd 4294967296 (X)) g1c) ∧ W'.cell? ⟨w2.heap.size, 1, none⟩ = some (.slice g2o (nd 4294967296 (Y)) g2c) ∧ W'.cell? ⟨w5.heap.size, 0, none⟩ = some (.slice o1o (nd 4294967296 (N1)) o1c) ∧ W'.cell? ⟨w5.heap.size, 1, none⟩ = some (.slice o2o (nd 4294967296 (D1)) o2c)) ∧ Kq cs1 ns1 rs1 w W') (first | (refine And.intro ?_ ?_ <;> assumption) | fail) (first
        | (go_at_call 15; with_reducible refine (HDG.out _ ?h).mono ?_; (case h => assumption); rintro e w' ⟨m1, m2, m3, rfl, hr', hB', hs'⟩; have hc' := HCL1.out _ hs')
        | (go_at_call 15; with_reducible refine (HDO.out _ ?h).mono ?_; (case h => assumption); rintro e w' ⟨m4, m5, m6, rfl, hr', hB', hs'⟩; have hc' := HCL1.out _ hs')
        | (go_at_call 19; with_reducible refine (HCD.out _ _ _ ?h ?r ?r2).mono ?_; (case h => assumption); (case r => first | assumption | exact dchain (by assumption) (by assumption) | fail); (case r2 => first | assumption | exact dchain (by assumption) (by assumption) | fail); rintro e w' ⟨rfl, hs'⟩; have hc' := HCL1.out _ hs') | fail)
      all_goals
        have hsx : Kq cs1 ns1 rs1 w w' := by assumption
        have HS9 := Lib.hid hsx
        clear hsx HDG HDO HCD
        go_wp2_with fail
        refine (awake_Q HS9.out).mono ?_
        rintro e w7 ⟨rfl, hs⟩
        have HS10 := Lib.hid hs
        clear hs HS9
        go_wp2
        go_ret
        exact ⟨by simp, HS10.out.bel⟩
    · rw [hk] at HTO
      clear hk
      have HEQ := Lib.hid heq
      have HLE := Lib.hid hle
      clear heq hle
      go_wp2_with fail
      refine HTO.out.mono ?_
      rintro e wq ⟨rfl, hs⟩
      have HS8 := Lib.hid hs
      clear hs cx0 cx1 cy0 cy1 HTO HP
      have HDG : Hid (∀ W', Kq cs1 ns1 rs1 w W' → Calls Tryz.prog 15 #[.agg #[.slice g1o (nd 4294967296 (X)) g1c, .slice g2o (nd 4294967296 (Y)) g2c]] W' fun e w' => ∃ o l c, e = .returned (.agg #[.slice o l c]) ∧ D w' (.slice o l c) Y ∧ Below W'.heap.size W' w' ∧ Kq cs1 ns1 rs1 w w') := fun W' h => by
        have h1 := FDen_any _ _ X Y W' (h.num _ (HM1_g1.out)) (h.num _ (HM1_g2.out)) (by rw [dn_of HY0.out]; omega)
        rw [dn_of HY0.out] at h1
        exact h1.mono fun e w' ⟨r, he, hr, hB⟩ => by
          obtain ⟨ro, rc, rfl, -⟩ := hr.shape
          exact ⟨ro, _, rc, he, hr, hB, h.next hB⟩
      have HDO : Hid (∀ W', Kq cs1 ns1 rs1 w W' → Calls Tryz.prog 15 #[.agg #[.slice o1o (nd 4294967296 (N1)) o1c, .slice o2o (nd 4294967296 (D1)) o2c]] W' fun e w' => ∃ o l c, e = .returned (.agg #[.slice o l c]) ∧ D w' (.slice o l c) D1 ∧ Below W'.heap.size W' w' ∧ Kq cs1 ns1 rs1 w w') := fun W' h => by
        have h1 := FDen_any _ _ N1 D1 W' (h.num _ (HM1_o1.out)) (h.num _ (HM1_o2.out)) (by rw [dn_of dp]; have := nd_32 s6; omega)
        rw [dn_of dp] at h1
        exact h1.mono fun e w' ⟨r, he, hr, hB⟩ => by
          obtain ⟨ro, rc, rfl, -⟩ := hr.shape
          exact ⟨ro, _, rc, he, hr, hB, h.next hB⟩
      have HCD : Hid (∀ W' x y, Kq cs1 ns1 rs1 w W' → D W' x Y → D W' y D1 → Calls Tryz.prog 19 #[.agg #[x], .agg #[y]] W' fun e w' => e = .returned (.int .i64 0) ∧ Kq cs1 ns1 rs1 w w') := fun W' x y h hx hy => by
        have h1 := NCmp_any x y Y D1 W' hx hy (by omega) (by have := nd_32 s6; omega)
        rw [show cmpN ((Y : Nat) : Int) ((D1 : Nat) : Int) = 0 from cmpN_eq (by have := HEQ.out; omega)] at h1
        exact h1.mono fun e w' ⟨he, hB⟩ => ⟨he, h.next hB⟩
      have hs := HS8.out
      have hs2 := hs.drew
      have hcl := HCL1.out _ hs2
      have hc0 := HCL1.out _ hs
      go_wp2_with fail
      go_region_held3 (fun W' : World => (W'.cell? ⟨w1.heap.size, 0, none⟩ = some (.slice f1o (nd 4294967296 (P1)) f1c) ∧ W'.cell? ⟨w1.heap.size, 1, none⟩ = some (.slice f2o (nd 4294967296 (Q1)) f2c) ∧ W'.cell? ⟨w2.heap.size, 0, none⟩ = some (.slice g1o (nd 4294967296 (X)) g1c) ∧ W'.cell? ⟨w2.heap.size, 1, none⟩ = some (.slice g2o (nd 4294967296 (Y)) g2c) ∧ W'.cell? ⟨w5.heap.size, 0, none⟩ = some (.slice o1o (nd 4294967296 (N1)) o1c) ∧ W'.cell? ⟨w5.heap.size, 1, none⟩ = some (.slice o2o (nd 4294967296 (D1)) o2c)) ∧ Kq cs1 ns1 rs1 w W') (first | (refine And.intro ?_ ?_ <;> assumption) | fail) (first
        | (go_at_call 15; with_reducible refine (HDG.out _ ?h).mono ?_; (case h => assumption); rintro e w' ⟨m1, m2, m3, rfl, hr', hB', hs'⟩; have hc' := HCL1.out _ hs')
        | (go_at_call 15; with_reducible refine (HDO.out _ ?h).mono ?_; (case h => assumption); rintro e w' ⟨m4, m5, m6, rfl, hr', hB', hs'⟩; have hc' := HCL1.out _ hs')
        | (go_at_call 19; with_reducible refine (HCD.out _ _ _ ?h ?r ?r2).mono ?_; (case h => assumption); (case r => first | assumption | exact dchain (by assumption) (by assumption) | fail); (case r2 => first | assumption | exact dchain (by assumption) (by assumption) | fail); rintro e w' ⟨rfl, hs'⟩; have hc' := HCL1.out _ hs') | fail)
      all_goals
        have hsx : Kq cs1 ns1 rs1 w w' := by assumption
        have HS9 := Lib.hid hsx
        clear hsx HDG HDO HCD
        have cg1 := HS9.out.cell (HC1_g1.out)
        have cg2 := HS9.out.cell (HC1_g2.out)
        have co1 := HS9.out.cell (HC1_o1.out)
        have co2 := HS9.out.cell (HC1_o2.out)
        have hgo := FCmp_any _ _ _ _ X Y N1 D1 _ (HS9.out.num _ (HM1_g1.out)) (HS9.out.num _ (HM1_g2.out)) (HS9.out.num _ (HM1_o1.out)) (HS9.out.num _ (HM1_o2.out)) (by omega) (by omega) (by have := nd_32 s5; omega) (by have := nd_32 s6; omega)
        rw [dn_of HY0.out, dn_of dp] at hgo
        have hgk : cmpN ((X * D1 : Nat) : Int) ((N1 * Y : Nat) : Int) ≤ 0 := by
          rw [cmp_le, HEQ.out]
          exact Nat.mul_le_mul_right _ HLE.out
        generalize cmpN ((X * D1 : Nat) : Int) ((N1 * Y : Nat) : Int) = kg at *
        have HGO := Lib.hid (hgo.mono fun e w' h => And.intro h.1 (HS9.out.next h.2))
        clear hgo
        go_wp2_with fail
        refine (HGO.out).mono ?_
        rintro e w7 ⟨rfl, hs⟩
        have HS10 := Lib.hid hs
        clear hs HS9
        clear cg1 cg2 co1 co2 HGO
        go_wp2_with fail
        refine (awake_Q HS10.out).mono ?_
        rintro e w8 ⟨rfl, hs⟩
        have HS11 := Lib.hid hs
        clear hs HS10
        go_wp2
        go_ret
        exact ⟨by simp, HS11.out.bel⟩
theorem natNearest_walk (u0 u1 : Value) (xs0 xs1 : List Nat) (i j k : Int) (w : World) (hu0 : IsRaw w u0 xs0) (hu1 : IsRaw w u1 xs1) (hl0 : xs0.length ≤ maxLen) (hl1 : xs1.length ≤ maxLen) (hi : i ≤ 9223372036854775807) (hj : j ≤ 9223372036854775807) (_ : k ≤ 9223372036854775807) (he : Env w) :
    Calls Tryz.prog 4 #[u0, u1, .int .i64 i, .int .i64 j, .int .i64 k] w fun e w' => e = .returned (.bool true) ∧ Below w.heap.size w w' := by
  rcases Nat.eq_zero_or_pos (rawN xs1 12) with h1 | h1
  · exact natNearest_z u0 u1 xs0 xs1 i j k w hu0 hu1 hl0 hl1 h1 he
  · by_cases hm : i < 1 ∨ k < 1 ∨ i < k ∨ j < 0
    · exact natNearest_e u0 u1 xs0 xs1 i j k w hu0 hu1 hl0 hl1 h1 hm he
    · obtain ⟨n, rfl⟩ : ∃ n : Nat, i = n := ⟨i.toNat, by omega⟩
      obtain ⟨m, rfl⟩ : ∃ m : Nat, j = m := ⟨j.toNat, by omega⟩
      obtain ⟨d, rfl⟩ : ∃ d : Nat, k = d := ⟨k.toNat, by omega⟩
      exact natNearest_m u0 u1 xs0 xs1 n m d w hu0 hu1 hl0 hl1 h1 (by omega) (by omega) (by omega) (by omega) (by omega) he
end Go.Proofs.YteajinpfigejfaaGreatDoor
namespace Go.Proofs.YteajinpfigejfaaGreatDoor
open Go Go.RowKit Gu

theorem own : ownKnob Tryz.prog.godebug = none := by kernel_rfl
theorem env_of_laid {W : World} {l : List (String × DataW Unit)}
    (hl : l.filter (fun x => x.1 == "internal/strconv.uint64pow10") = [("internal/strconv.uint64pow10", Rows.laid_internal_strconv_uint64pow10)]) (h : laidMetH Tryz.prog l W) : Env W := by
  have h1 := h.filter (fun x => x.1 == "internal/strconv.uint64pow10")
  rw [hl, MakeChecks.laidMetH_plain _ _ _ (by kernel_rfl)] at h1
  exact Lib.tabIs_of_head (g := 1) (by kernel_rfl) (by kernel_rfl) Tryz.underlying148 Tryz.underlying69 (by kernel_rfl) (by kernel_rfl) h1
end Go.Proofs.YteajinpfigejfaaGreatDoor
