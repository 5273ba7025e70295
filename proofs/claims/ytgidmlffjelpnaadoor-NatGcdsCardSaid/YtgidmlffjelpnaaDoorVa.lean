/- The contracts of DivMod, Gcd, Lsh, Rsh of natural numbers. -/
import Derived.Test.YtgidmlffjelpnaaDoorTe
import Derived.Test.YtgidmlffjelpnaaDoorKp
namespace Go.Proofs.YtgidmlffjelpnaaDoor
open Go Go.RowKit Gu

def divE (b : Nat) : Int := if b = 0 then 11 else 0
def modN (a b : Nat) : Nat := if b = 0 then 0 else a % b
set_option maxHeartbeats 1000000 in
theorem NDivMod_any (v u : Value) (a b : Nat) (w : World) (hv : D w v a) (hu : D w u b) (ha : nd 4294967296 a ≤ 400000) (hb : nd 4294967296 b ≤ 400000) :
    Calls Tryd.prog 36 #[.agg #[v], .agg #[u]] w fun e w' => ∃ q r, e = .returned (.tuple #[.agg #[q], .agg #[r], .int .i64 (divE b)]) ∧ D w' q (a / b) ∧ D w' r (modN a b) ∧ Below w.heap.size w w' := by
  by_cases h0 : b = 0
  · subst h0
    have HZ := Lib.hid (fun W (h : D W u 0) => isZero_any u 0 W h)
    rw [show decide ((0 : Nat) = 0) = true from rfl] at HZ
    have b2 : ∀ o1 o2 o3 o4, Below w.heap.size w ((((w.alloc o1).alloc o2).alloc o3).alloc o4) := fun o1 o2 o3 o4 => ((((Below.refl _ _).alloc (Nat.le_refl _) _).alloc (by simp) _).alloc (by simp; omega) _).alloc (by simp; omega) _
    have HU := Lib.hid (fun o1 o2 o3 o4 => hu.below (b2 o1 o2 o3 o4))
    have HB2 := Lib.hid b2
    obtain ⟨ao, ac, rfl, -⟩ := hv.shape
    obtain ⟨bo, bc, rfl, -⟩ := hu.shape
    clear hv hu b2
    go_enter Tryd.func36, Tryd.ntmps36
    go_wp2_with fail
    refine (HZ.out _ (HU.out _ _ _ _)).mono ?_
    rintro e w1 ⟨rfl, rfl⟩
    go_wp2
    refine bodyPost_ret (v := .tuple #[.agg #[.slice none 0 0], .agg #[.slice none 0 0], .int .i64 11]) (by simp [results, Tryd.results36, go_sem]) rfl ⟨.slice none 0 0, .slice none 0 0, rfl, by rw [Nat.div_zero]; exact IsN.zero _ _ _ _ _, by rw [show modN a 0 = 0 from if_pos rfl]; exact IsN.zero _ _ _ _ _, HB2.out _ _ _ _⟩
  · have HZ := Lib.hid (fun W (h : D W u b) => isZero_any u b W h)
    rw [show decide (b = 0) = false from by simp [h0]] at HZ
    have HE : Hid (divE b = 0 ∧ modN a b = a % b) := ⟨if_neg h0, if_neg h0⟩
    have HD := Lib.hid (fun W (h1 : D W v a) (h2 : D W u b) => divide_long (max (nd 4294967296 a) (nd 4294967296 b)) (by omega) v u a b W h1 h2 (by omega) ((nd_le (by decide)).1 (Nat.le_max_left _ _)) ((nd_le (by decide)).1 (Nat.le_max_right _ _)))
    have b2 : ∀ o1 o2 o3 o4, Below w.heap.size w ((((w.alloc o1).alloc o2).alloc o3).alloc o4) := fun o1 o2 o3 o4 => ((((Below.refl _ _).alloc (Nat.le_refl _) _).alloc (by simp) _).alloc (by simp; omega) _).alloc (by simp; omega) _
    have HV := Lib.hid (fun o1 o2 o3 o4 => hv.below (b2 o1 o2 o3 o4))
    have HU := Lib.hid (fun o1 o2 o3 o4 => hu.below (b2 o1 o2 o3 o4))
    have HB2 := Lib.hid b2
    obtain ⟨ao, ac, rfl, -⟩ := hv.shape
    obtain ⟨bo, bc, rfl, -⟩ := hu.shape
    clear hv hu b2
    go_enter Tryd.func36, Tryd.ntmps36
    go_wp2_with fail
    refine (HZ.out _ (HU.out _ _ _ _)).mono ?_
    rintro e w1 ⟨rfl, rfl⟩
    go_wp2_with fail
    refine (HD.out _ (HV.out _ _ _ _) (HU.out _ _ _ _)).mono ?_
    rintro e w2 ⟨qv, rv, rfl, hq, hr, hbel⟩
    obtain ⟨qo, qc, rfl, -⟩ := hq.shape
    obtain ⟨ro, rc, rfl, -⟩ := hr.shape
    have hcell : ∀ k, (k = w.heap.size + 1 + 1 ∨ k = w.heap.size + 1 + 1 + 1) → w2.cell? ⟨k, 0, none⟩ = some (.slice none 0 0) ∧ w2.frozen? ⟨k, 0, none⟩ = false := by
      intro k hk
      have hl : k < ((((w.alloc (.cells #[.slice ao (nd 4294967296 a) ac] 26)).alloc (.cells #[.slice bo (nd 4294967296 b) bc] 26)).alloc (.cells #[.slice none 0 0] 26)).alloc (.cells #[.slice none 0 0] 26)).heap.size := by simp; omega
      refine ⟨(hbel.cell (p := ⟨k, 0, none⟩) hl).trans ?_, (hbel.frozen (p := ⟨k, 0, none⟩) hl).trans ?_⟩
      · rcases hk with rfl | rfl
        · exact (World.cell?_alloc_past _ _ _ (by simp)).trans (World.cell?_alloc_at _ _ _ _ (by simp))
        · exact World.cell?_alloc_at _ _ _ _ (by simp)
      · rcases hk with rfl | rfl
        · refine (((Below.refl _ _).alloc (Nat.le_refl _) _).frozen (p := ⟨w.heap.size + 1 + 1, 0, none⟩) (by simp)).trans (World.frozen?_alloc_at _ _ _ _ (by simp))
        · exact World.frozen?_alloc_at _ _ _ _ (by simp)
    obtain ⟨c1, f1⟩ := hcell _ (.inl rfl)
    obtain ⟨c2, f2⟩ := hcell _ (.inr rfl)
    have hne : (⟨w.heap.size + 1 + 1, 0, none⟩ : Addr) ≠ ⟨w.heap.size + 1 + 1 + 1, 0, none⟩ := by intro e; injection e with e1; omega
    have q0 : ∀ u u', ((w2.setCell ⟨w.heap.size + 1 + 1, 0, none⟩ u).setCell ⟨w.heap.size + 1 + 1 + 1, 0, none⟩ u').cell? ⟨w.heap.size + 1 + 1, 0, none⟩ = some u := fun u u' => (World.cell?_setCell_other _ _ _ _ (fun e => hne e.symm)).trans (World.cell?_setCell_same _ _ _ c1)
    have d2 : ∀ u, (w2.setCell ⟨w.heap.size + 1 + 1, 0, none⟩ u).cell? ⟨w.heap.size + 1 + 1 + 1, 0, none⟩ = some (.slice none 0 0) := fun u => (World.cell?_setCell_other _ _ _ _ hne).trans c2
    have q1 : ∀ u u', ((w2.setCell ⟨w.heap.size + 1 + 1, 0, none⟩ u).setCell ⟨w.heap.size + 1 + 1 + 1, 0, none⟩ u').cell? ⟨w.heap.size + 1 + 1 + 1, 0, none⟩ = some u' := fun u u' => World.cell?_setCell_same _ _ _ (d2 u)
    have Q0 := Lib.hid q0; have Q1 := Lib.hid q1
    have HQ : Hid (∀ u u', D ((w2.setCell ⟨w.heap.size + 1 + 1, 0, none⟩ u).setCell ⟨w.heap.size + 1 + 1 + 1, 0, none⟩ u') (.slice qo (nd 4294967296 (a / b)) qc) (a / b)) := fun u u' => (hq.setCell c1 (by intro d h; cases h) u).setCell (d2 u) (by intro d h; cases h) u'
    have HR : Hid (∀ u u', D ((w2.setCell ⟨w.heap.size + 1 + 1, 0, none⟩ u).setCell ⟨w.heap.size + 1 + 1 + 1, 0, none⟩ u') (.slice ro (nd 4294967296 (a % b)) rc) (a % b)) := fun u u' => (hr.setCell c1 (by intro d h; cases h) u).setCell (d2 u) (by intro d h; cases h) u'
    have HB := Lib.hid (fun u u' => ((((HB2.out _ _ _ _).trans (hbel.mono (HB2.out _ _ _ _).size)).setCell (p := ⟨w.heap.size + 1 + 1, 0, none⟩) (by show w.heap.size ≤ w.heap.size + 1 + 1; omega) u).setCell (p := ⟨w.heap.size + 1 + 1 + 1, 0, none⟩) (by show w.heap.size ≤ w.heap.size + 1 + 1 + 1; omega) u'))
    clear hq hr hbel hcell q0 q1
    go_wp2
    have q0 := Q0.out; have q1 := Q1.out
    refine bodyPost_ret (v := .tuple #[.agg #[.slice qo (nd 4294967296 (a / b)) qc], .agg #[.slice ro (nd 4294967296 (a % b)) rc], .int .i64 0]) (by simp [results, Tryd.results36, go_sem, q0, q1]) rfl ⟨_, _, by rw [HE.out.1], HQ.out _ _, by rw [HE.out.2]; exact HR.out _ _, HB.out _ _⟩
set_option maxHeartbeats 1000000 in
theorem NGcd_any (v u : Value) (a b : Nat) (w : World) (hv : D w v a) (hu : D w u b) (ha : nd 4294967296 a ≤ 400000) (hb : nd 4294967296 b ≤ 400000) :
    Calls Tryd.prog 32 #[.agg #[v], .agg #[u]] w fun e w' => ∃ r, e = .returned (.agg #[r]) ∧ D w' r (Nat.gcd a b) ∧ Below w.heap.size w w' := by
  have hg : nd 4294967296 (Nat.gcd a b) ≤ 400000 := by
    rcases Nat.eq_zero_or_pos a with h | h
    · subst h; rw [Nat.gcd_zero_left]; exact hb
    · exact Nat.le_trans (nd_mono (by decide) (Nat.gcd_le_left _ h)) ha
  have b3 : ∀ o1 o2 o3, Below w.heap.size w (((w.alloc o1).alloc o2).alloc o3) := fun o1 o2 o3 => (((Below.refl _ _).alloc (Nat.le_refl _) _).alloc (by simp) _).alloc (by simp; omega) _
  have HG := Lib.hid (fun o1 o2 o3 => gcd_any (divide_long (max (nd 4294967296 a) (nd 4294967296 b)) (by omega)) v u a b (((w.alloc o1).alloc o2).alloc o3) (hv.below (b3 o1 o2 o3)) (hu.below (b3 o1 o2 o3)) ((nd_le (by decide)).1 (Nat.le_max_left _ _)) ((nd_le (by decide)).1 (Nat.le_max_right _ _)))
  have HC := Lib.hid (fun v W (h : D W v (Nat.gcd a b)) => clone_any v _ W h (by omega))
  have HB3 := Lib.hid b3
  obtain ⟨ao, ac, rfl, -⟩ := hv.shape
  obtain ⟨bo, bc, rfl, -⟩ := hu.shape
  clear hv hu b3
  generalize Nat.gcd a b = g at *
  go_enter Tryd.func32, Tryd.ntmps32
  go_wp2_with fail
  refine (HG.out _ _ _).mono ?_
  rintro e w1 ⟨gv, rfl, hgv, hbel⟩
  obtain ⟨go, gc, rfl, -⟩ := hgv.shape
  obtain ⟨hc, hf⟩ := bcell hbel
  have HG1 := Lib.hid hgv
  have HB1 := Lib.hid hbel
  have hz := hbel.size
  simp only [World.size_alloc] at hz
  clear hbel hgv
  go_wp2_with fail
  refine (HC.out _ _ HG1.out).mono ?_
  rintro e w2 ⟨r, rfl, hr, hbel2⟩
  obtain ⟨ro, rc, rfl, -⟩ := hr.shape
  obtain ⟨hc2, hf2⟩ := bcell hbel2
  have hcell : w2.cell? ⟨w.heap.size + 1 + 1, 0, none⟩ = some (.slice none 0 0) := by
    rw [hc2 _ _ (by omega), hc _ _ (by simp)]
    exact World.cell?_alloc_at _ _ _ _ (by simp)
  have hfr : w2.frozen? ⟨w.heap.size + 1 + 1, 0, none⟩ = false := by
    rw [hf2 _ _ (by omega), hf _ _ (by simp)]
    exact World.frozen?_alloc_at _ _ _ _ (by simp)
  have HR := Lib.hid hr
  have HCE := Lib.hid hcell
  have HBE := Lib.hid (((HB3.out _ _ _).trans (HB1.out.mono (by simp; omega))).trans (hbel2.mono (by omega)))
  clear hr hbel2 hc hf hc2 hf2
  go_wp2
  refine bodyPost_ret (v := .agg #[.slice ro (nd 4294967296 g) rc]) (by simp [results, Tryd.results32, go_sem, hcell]) rfl ⟨_, rfl, HR.out.setCell HCE.out (by intro d h; cases h) _, HBE.out.setCell (by show w.heap.size ≤ w.heap.size + 1 + 1; omega) _⟩
end Go.Proofs.YtgidmlffjelpnaaDoor
