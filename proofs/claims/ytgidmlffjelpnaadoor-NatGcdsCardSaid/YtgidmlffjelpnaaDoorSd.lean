/- The contracts of Sub and Cmp of natural numbers, and of the laws' helpers fit, two. -/
import Derived.Test.YtgidmlffjelpnaaDoorSc
import Derived.Test.YtgidmlffjelpnaaDoorDa
namespace Go.Proofs.YtgidmlffjelpnaaDoor
open Go Go.RowKit Gu

theorem NCmp_any (v u : Value) (a b : Nat) (w : World) (hv : D w v a) (hu : D w u b) (ha : nd 4294967296 a ≤ 1048576) (hb : nd 4294967296 b ≤ 1048576) :
    Calls Tryd.prog 37 #[.agg #[v], .agg #[u]] w fun e w' => e = .returned (.int .i64 (cmpN a b)) ∧ Below w.heap.size w w' := by
  have b2 : ∀ o1 o2, Below w.heap.size w ((w.alloc o1).alloc o2) := fun o1 o2 => ((Below.refl _ _).alloc (Nat.le_refl _) _).alloc (by simp) _
  have HC := Lib.hid (fun o1 o2 => compare_any v u a b ((w.alloc o1).alloc o2) (hv.below (b2 o1 o2)) (hu.below (b2 o1 o2)) ha hb)
  have HB2 := Lib.hid b2
  obtain ⟨ao, ac, rfl, -⟩ := hv.shape
  obtain ⟨bo, bc, rfl, -⟩ := hu.shape
  clear hv hu b2
  go_enter Tryd.func37, Tryd.ntmps37
  go_wp2_with fail
  refine (HC.out _ _).mono ?_
  rintro e w1 ⟨rfl, q, rfl⟩
  go_wp2
  go_ret
  exact ⟨rfl, below_drewN (HB2.out _ _) q⟩
theorem third_cell {w w2 : World} {o1 o2 : Obj} {T : TypeId} {q : Nat} (hb : Below ((((w.alloc o1).alloc o2).alloc (.cells #[.slice none 0 0] T)).drewN q).heap.size ((((w.alloc o1).alloc o2).alloc (.cells #[.slice none 0 0] T)).drewN q) w2) :
    w2.cell? ⟨w.heap.size + 1 + 1, 0, none⟩ = some (.slice none 0 0) ∧ w2.frozen? ⟨w.heap.size + 1 + 1, 0, none⟩ = false := by
  have h1 := below_drewN (Below.refl (((w.alloc o1).alloc o2).alloc (.cells #[.slice none 0 0] T)).heap.size (((w.alloc o1).alloc o2).alloc (.cells #[.slice none 0 0] T))) q
  have hlt : w.heap.size + 1 + 1 < (((w.alloc o1).alloc o2).alloc (.cells #[.slice none 0 0] T)).heap.size := by simp
  exact ⟨(hb.cell (p := ⟨w.heap.size + 1 + 1, 0, none⟩) (Nat.lt_of_lt_of_le hlt h1.size)).trans ((h1.cell (p := ⟨w.heap.size + 1 + 1, 0, none⟩) hlt).trans (World.cell?_alloc_at _ _ _ _ (by simp))),
    (hb.frozen (p := ⟨w.heap.size + 1 + 1, 0, none⟩) (Nat.lt_of_lt_of_le hlt h1.size)).trans ((h1.frozen (p := ⟨w.heap.size + 1 + 1, 0, none⟩) hlt).trans (World.frozen?_alloc_at _ _ _ _ (by simp)))⟩
def subE (a b : Nat) : Int := if a < b then 10 else 0
set_option maxHeartbeats 1000000 in
theorem NSub_any (v u : Value) (a b : Nat) (w : World) (hv : D w v a) (hu : D w u b) (ha : nd 4294967296 a ≤ 1048576) (hb : nd 4294967296 b ≤ 1048576) :
    Calls Tryd.prog 40 #[.agg #[v], .agg #[u]] w fun e w' => ∃ r, e = .returned (.tuple #[.agg #[r], .int .i64 (subE a b)]) ∧ D w' r (a - b) ∧ Below w.heap.size w w' := by
  have b3 : ∀ o1 o2 o3, Below w.heap.size w (((w.alloc o1).alloc o2).alloc o3) := fun o1 o2 o3 => (((Below.refl _ _).alloc (Nat.le_refl _) _).alloc (by simp) _).alloc (by simp; omega) _
  have HC := Lib.hid (fun o1 o2 o3 => compare_any v u a b (((w.alloc o1).alloc o2).alloc o3) (hv.below (b3 o1 o2 o3)) (hu.below (b3 o1 o2 o3)) ha hb)
  have HB3 := Lib.hid b3
  by_cases h : a < b
  · have HE : Hid (subE a b = 10 ∧ a - b = 0) := ⟨if_pos h, by omega⟩
    have HM : Hid (cmpN a b = -1) := cmpN_lt (by omega)
    rw [HM.out] at HC
    obtain ⟨ao, ac, rfl, -⟩ := hv.shape
    obtain ⟨bo, bc, rfl, -⟩ := hu.shape
    clear hv hu b3 h
    go_enter Tryd.func40, Tryd.ntmps40
    go_wp2_with fail
    refine (HC.out _ _ _).mono ?_
    rintro e w1 ⟨rfl, q, rfl⟩
    go_wp2
    refine bodyPost_ret (v := .tuple #[.agg #[.slice none 0 0], .int .i64 10]) (by simp [results, Tryd.results40, go_sem]) rfl ⟨.slice none 0 0, by rw [HE.out.1], by rw [HE.out.2]; exact IsN.zero _ _ _ _ _, (below_drewN (HB3.out _ _ _) q).setCell (by show w.heap.size ≤ w.heap.size + 1 + 1; omega) _⟩
  · have HE : Hid (subE a b = 0) := if_neg h
    have hm : 0 ≤ cmpN a b := by unfold cmpN; rw [if_neg (by omega)]; split <;> omega
    have HD := Lib.hid (fun W (h1 : D W v a) (h2 : D W u b) => difference_any v u a b W h1 h2 ha hb (by omega))
    have HV := Lib.hid (fun o1 o2 o3 q => hv.below (below_drewN (b3 o1 o2 o3) q))
    have HU := Lib.hid (fun o1 o2 o3 q => hu.below (below_drewN (b3 o1 o2 o3) q))
    obtain ⟨ao, ac, rfl, -⟩ := hv.shape
    obtain ⟨bo, bc, rfl, -⟩ := hu.shape
    generalize cmpN a b = m at *
    clear hv hu b3 h
    go_enter Tryd.func40, Tryd.ntmps40
    go_wp2_with fail
    refine (HC.out _ _ _).mono ?_
    rintro e w1 ⟨rfl, q, rfl⟩
    go_wp2_with fail
    refine (HD.out _ (HV.out _ _ _ _) (HU.out _ _ _ _)).mono ?_
    rintro e w2 ⟨r, rfl, hr, hbel⟩
    obtain ⟨hcell, hfr⟩ := third_cell hbel
    obtain ⟨ro, rc, rfl, -⟩ := hr.shape
    have HR := Lib.hid hr
    have HCE := Lib.hid hcell
    have HB := Lib.hid ((below_drewN (HB3.out _ _ _) _).trans (hbel.mono (below_drewN (HB3.out _ _ _) _).size))
    clear hr hbel
    go_wp2
    refine bodyPost_ret (v := .tuple #[.agg #[.slice ro (nd 4294967296 (a - b)) rc], .int .i64 0]) (by simp [results, Tryd.results40, go_sem, hcell]) rfl ⟨_, by rw [HE.out], HR.out.setCell HCE.out (by intro d h; cases h) _, HB.out.setCell (by show w.heap.size ≤ w.heap.size + 1 + 1; omega) _⟩
theorem told_err2 (v a : Value) (f : Int) (w : World) (hv : D w v 0) (hf : f ≠ 0) (he : Env w) :
    Calls Tryd.prog 14 #[.agg #[v], .int .i64 f, a, .int .i64 f] w fun e w' => e = .returned (.bool true) ∧ Below w.heap.size w w' := by
  have b1 : ∀ o, Below w.heap.size w (w.alloc o) := fun o => (Below.refl _ _).alloc (Nat.le_refl _) _
  have HS := Lib.hid (fun o => String_any v 0 (w.alloc o) (hv.below (b1 o)) (by rw [nd_zero]; omega) (he.below (b1 o)))
  have HB1 := Lib.hid b1
  rw [show Lib.decDigits 0 = [48] from decDigits_small (by decide)] at HS
  obtain ⟨ao, ac, rfl, -⟩ := hv.shape
  clear b1 he hv
  go_enter Tryd.func14, Tryd.ntmps14
  go_wp2_with fail
  refine (HS.out _).mono ?_
  rintro e w1 ⟨rfl, hb⟩
  have HB := Lib.hid ((HB1.out _).trans (hb.mono (HB1.out _).size))
  clear hb
  go_wp2
  go_ret
  exact ⟨by first | rfl | decide, HB.out⟩
theorem pair_cells {w w2 : World} {T : TypeId} (hb : Below ((w.alloc (.cells #[.slice none 0 0] T)).alloc (.cells #[.slice none 0 0] T)).heap.size ((w.alloc (.cells #[.slice none 0 0] T)).alloc (.cells #[.slice none 0 0] T)) w2) :
    (w2.cell? ⟨w.heap.size, 0, none⟩ = some (.slice none 0 0) ∧ w2.frozen? ⟨w.heap.size, 0, none⟩ = false) ∧ (w2.cell? ⟨w.heap.size + 1, 0, none⟩ = some (.slice none 0 0) ∧ w2.frozen? ⟨w.heap.size + 1, 0, none⟩ = false) := by
  have h0 : Below (w.alloc (.cells #[.slice none 0 0] T)).heap.size (w.alloc (.cells #[.slice none 0 0] T)) ((w.alloc (.cells #[.slice none 0 0] T)).alloc (.cells #[.slice none 0 0] T)) := (Below.refl _ _).alloc (Nat.le_refl _) _
  have l1 : w.heap.size < (w.alloc (.cells #[.slice none 0 0] T)).heap.size := by simp
  have l2 : w.heap.size < ((w.alloc (.cells #[.slice none 0 0] T)).alloc (.cells #[.slice none 0 0] T)).heap.size := by simp; omega
  have l3 : w.heap.size + 1 < ((w.alloc (.cells #[.slice none 0 0] T)).alloc (.cells #[.slice none 0 0] T)).heap.size := by simp
  exact ⟨⟨(hb.cell (p := ⟨w.heap.size, 0, none⟩) l2).trans ((h0.cell (p := ⟨w.heap.size, 0, none⟩) l1).trans (World.cell?_alloc_at _ _ _ _ rfl)), (hb.frozen (p := ⟨w.heap.size, 0, none⟩) l2).trans ((h0.frozen (p := ⟨w.heap.size, 0, none⟩) l1).trans (World.frozen?_alloc_at _ _ _ _ rfl))⟩,
    ⟨(hb.cell (p := ⟨w.heap.size + 1, 0, none⟩) l3).trans (World.cell?_alloc_at _ _ _ _ (by simp)), (hb.frozen (p := ⟨w.heap.size + 1, 0, none⟩) l3).trans (World.frozen?_alloc_at _ _ _ _ (by simp))⟩⟩
set_option maxHeartbeats 1000000 in
theorem two_any (v u : Value) (a b : Nat) (w : World) (hv : R w v a) (hu : R w u b) (ha : nd 65536 a ≤ 1024) (hb : nd 65536 b ≤ 1024) :
    Calls Tryd.prog 21 #[v, u] w fun e w' => ∃ r s, e = .returned (.tuple #[.agg #[r], .agg #[s], .bool true]) ∧ D w' r a ∧ D w' s b ∧ Below w.heap.size w w' := by
  have b2 : ∀ o1 o2, Below w.heap.size w ((w.alloc o1).alloc o2) := fun o1 o2 => ((Below.refl _ _).alloc (Nat.le_refl _) _).alloc (by simp) _
  have HM1 := Lib.hid (fun o1 o2 => made_any v a ((w.alloc o1).alloc o2) (hv.below (b2 o1 o2)) ha)
  have HM2 := Lib.hid (fun W h => made_any u b W h hb)
  have HU := Lib.hid (fun o1 o2 => hu.below (b2 o1 o2))
  have HB2 := Lib.hid b2
  obtain ⟨ao, ac, rfl, -⟩ := hv.shape
  obtain ⟨bo, bc, rfl, -⟩ := hu.shape
  clear hv hu b2
  go_enter Tryd.func21, Tryd.ntmps21
  go_wp2_with fail
  refine (HM1.out _ _).mono ?_
  rintro e w1 ⟨r, rfl, hr, hb1⟩
  obtain ⟨ro, rc, rfl, -⟩ := hr.shape
  obtain ⟨⟨p1, p2⟩, ⟨p3, p4⟩⟩ := pair_cells hb1
  have hz1 := hb1.size
  simp only [World.size_alloc] at hz1
  have hx1 : Below w1.heap.size w1 (w1.alloc (.cells #[.slice ro (nd 4294967296 a) rc] 26)) := (Below.refl _ _).alloc (Nat.le_refl _) _
  have HB1 := Lib.hid (((HB2.out _ _).trans (hb1.mono (HB2.out _ _).size)).alloc ((HB2.out _ _).trans (hb1.mono (HB2.out _ _).size)).size (.cells #[.slice ro (nd 4294967296 a) rc] 26))
  have HU1 := Lib.hid (((HU.out _ _).below hb1).below hx1)
  have HR1 := Lib.hid (hr.below hx1)
  have HX1 := Lib.hid hx1
  have P1 := Lib.hid p1; have P2 := Lib.hid p2; have P3 := Lib.hid p3; have P4 := Lib.hid p4
  clear hr hb1 hx1 p1 p2 p3 p4
  go_wp2_with fail
  refine (HM2.out _ HU1.out).mono ?_
  rintro e w2 ⟨s, rfl, hs, hb2⟩
  obtain ⟨so, sc, rfl, -⟩ := hs.shape
  have hz2 := hb2.size
  simp only [World.size_alloc] at hz2
  have hx2 : ∀ o, Below w2.heap.size w2 (w2.alloc o) := fun o => (Below.refl _ _).alloc (Nat.le_refl _) _
  have hall : ∀ o, Below w1.heap.size w1 (w2.alloc o) := fun o => (HX1.out.trans (hb2.mono (by simp))).trans ((hx2 o).mono (by omega))
  have c1 : ∀ o, (w2.alloc o).cell? ⟨w.heap.size, 0, none⟩ = some (.slice none 0 0) := fun o => ((hall o).cell (p := ⟨w.heap.size, 0, none⟩) (show w.heap.size < w1.heap.size by omega)).trans P1.out
  have c2 : ∀ o, (w2.alloc o).frozen? ⟨w.heap.size, 0, none⟩ = false := fun o => ((hall o).frozen (p := ⟨w.heap.size, 0, none⟩) (show w.heap.size < w1.heap.size by omega)).trans P2.out
  have c3 : ∀ o, (w2.alloc o).cell? ⟨w.heap.size + 1, 0, none⟩ = some (.slice none 0 0) := fun o => ((hall o).cell (p := ⟨w.heap.size + 1, 0, none⟩) (show w.heap.size + 1 < w1.heap.size by omega)).trans P3.out
  have c4 : ∀ o, (w2.alloc o).frozen? ⟨w.heap.size + 1, 0, none⟩ = false := fun o => ((hall o).frozen (p := ⟨w.heap.size + 1, 0, none⟩) (show w.heap.size + 1 < w1.heap.size by omega)).trans P4.out
  have c5 : ∀ o, (w2.alloc o).cell? ⟨w1.heap.size, 0, none⟩ = some (.slice ro (nd 4294967296 a) rc) := fun o =>
    ((hx2 o).cell (p := ⟨w1.heap.size, 0, none⟩) (show w1.heap.size < w2.heap.size by omega)).trans ((hb2.cell (p := ⟨w1.heap.size, 0, none⟩) (by simp)).trans (World.cell?_alloc_at _ _ _ _ rfl))
  have HD1 := Lib.hid (fun o => (HR1.out.below hb2).below (hx2 o))
  have HD2 := Lib.hid (fun o => hs.below (hx2 o))
  have HBF := Lib.hid (fun o => (HB1.out.trans (hb2.mono HB1.out.size)).alloc (HB1.out.trans (hb2.mono HB1.out.size)).size o)
  have C1 := Lib.hid c1; have C3 := Lib.hid c3
  clear hs hb2 hx2 hall
  have hne : (⟨w.heap.size, 0, none⟩ : Addr) ≠ ⟨w.heap.size + 1, 0, none⟩ := by intro e; injection e with e1; omega
  have d3 : ∀ o u, ((w2.alloc o).setCell ⟨w.heap.size, 0, none⟩ u).cell? ⟨w.heap.size + 1, 0, none⟩ = some (.slice none 0 0) := fun o u => (World.cell?_setCell_other _ _ _ _ hne).trans (c3 o)
  have D3 := Lib.hid d3
  have q0 : ∀ o u u', (((w2.alloc o).setCell ⟨w.heap.size, 0, none⟩ u).setCell ⟨w.heap.size + 1, 0, none⟩ u').cell? ⟨w.heap.size, 0, none⟩ = some u := fun o u u' => (World.cell?_setCell_other _ _ _ _ (fun e => hne e.symm)).trans (World.cell?_setCell_same _ _ _ (c1 o))
  have q1 : ∀ o u u', (((w2.alloc o).setCell ⟨w.heap.size, 0, none⟩ u).setCell ⟨w.heap.size + 1, 0, none⟩ u').cell? ⟨w.heap.size + 1, 0, none⟩ = some u' := fun o u u' => World.cell?_setCell_same _ _ _ (d3 o u)
  have Q0 := Lib.hid q0; have Q1 := Lib.hid q1
  clear d3 q0 q1 hne
  go_wp2
  go_region
  have q0 := Q0.out; have q1 := Q1.out
  go_wp2
  refine bodyPost_ret (v := .tuple #[.agg #[.slice ro (nd 4294967296 a) rc], .agg #[.slice so (nd 4294967296 b) sc], .bool true]) (by simp [results, Tryd.results21, go_sem, q0, q1]) rfl
    ⟨_, _, rfl, (((HD1.out _).setCell (C1.out _) (by intro d h; cases h) _).setCell (D3.out _ _) (by intro d h; cases h) _).below (Below.refl _ _).drew, (((HD2.out _).setCell (C1.out _) (by intro d h; cases h) _).setCell (D3.out _ _) (by intro d h; cases h) _).below (Below.refl _ _).drew, ?_⟩
  exact (((HBF.out _).setCell (Nat.le_refl _) _).setCell (Nat.le_succ _) _).drew
end Go.Proofs.YtgidmlffjelpnaaDoor
