/- The contracts of lowest, NewFrac, terms. -/
import Derived.Test.YtfkogbomijonjaaGreatDoorWm
namespace Go.Proofs.YtfkogbomijonjaaGreatDoor
open Go Go.RowKit Gu

theorem IsN_setTwo {k : IntKind} {B : Nat} {w : World} {v : Value} {n g : Nat} (h : IsN k B w v n) {x y : Value} (h0 : w.cell? ⟨g, 0, none⟩ = some x) (h1 : w.cell? ⟨g, 1, none⟩ = some y) (hx : ∀ d : Int, x ≠ .int k d) (hy : ∀ d : Int, y ≠ .int k d) (u u' : Value) :
    IsN k B ((w.setCell ⟨g, 0, none⟩ u).setCell ⟨g, 1, none⟩ u') v n :=
  (h.setCell h0 hx u).setCell (x := y) ((World.cell?_setCell_other _ _ _ _ (by intro e; cases e)).trans h1) hy u'
theorem read_two {w : World} {g : Nat} {x y : Value} (h0 : w.cell? ⟨g, 0, none⟩ = some x) (h1 : w.cell? ⟨g, 1, none⟩ = some y) (u u' : Value) :
    ((w.setCell ⟨g, 0, none⟩ u).setCell ⟨g, 1, none⟩ u').cell? ⟨g, 0, none⟩ = some u ∧ ((w.setCell ⟨g, 0, none⟩ u).setCell ⟨g, 1, none⟩ u').cell? ⟨g, 1, none⟩ = some u' :=
  ⟨(World.cell?_setCell_other _ _ _ _ (by intro e; cases e)).trans (World.cell?_setCell_same _ _ _ h0), World.cell?_setCell_same _ _ _ ((World.cell?_setCell_other _ _ _ _ (by intro e; cases e)).trans h1)⟩
set_option maxHeartbeats 400000 in
theorem lowest_any {N : Nat} (HN : DivOK N) (v u : Value) (a b : Nat) (w : World) (hv : D w v a) (hu : D w u b) (hb : 0 < b) (ha : a < N) (hbN : b < N) :
    Calls Tryz.prog 47 #[v, u] w fun e w' => ∃ r s, e = .returned (.agg #[r, s]) ∧ D w' r (a / Nat.gcd a b) ∧ D w' s (b / Nat.gcd a b) ∧ Below w.heap.size w w' := by
  have b1 : ∀ o, Below w.heap.size w (w.alloc o) := fun o => (Below.refl _ _).alloc (Nat.le_refl _) _
  have hg : 0 < Nat.gcd a b := Nat.gcd_pos_of_pos_right _ hb
  have hgN : Nat.gcd a b < N := Nat.lt_of_le_of_lt (Nat.gcd_le_right _ hb) hbN
  have HG := Lib.hid (fun o => gcd_any HN v u a b (w.alloc o) (hv.below (b1 o)) (hu.below (b1 o)) ha hbN)
  have HQ1 := Lib.hid (fun x (g : Value) w' (h1 : D w' v a) (h2 : D w' g x) (h3 : 0 < x) (h4 : x < N) => quotient_any HN v g a x w' h1 h2 h3 ha h4)
  have HQ2 := Lib.hid (fun x (g : Value) w' (h1 : D w' u b) (h2 : D w' g x) (h3 : 0 < x) (h4 : x < N) => quotient_any HN u g b x w' h1 h2 h3 hbN h4)
  have HV := Lib.hid (fun o => hv.below (b1 o)); have HU := Lib.hid (fun o => hu.below (b1 o)); have HB1 := Lib.hid b1
  clear hv hu b1 hb ha hbN HN
  generalize hgg : Nat.gcd a b = g at *
  have HGG := Lib.hid hgg; clear hgg
  go_enter Tryz.func47, Tryz.ntmps47
  go_wp2_with fail
  refine (HG.out _).mono ?_
  rintro e w1 ⟨r, rfl, hr, hbel⟩
  obtain ⟨hc, hf⟩ := bcell hbel
  have hz := hbel.size
  simp only [World.size_alloc] at hz
  have H1 := Lib.hid (HQ1.out g r w1 ((HV.out _).below hbel) hr hg hgN)
  have HR := Lib.hid hr; have HB := Lib.hid hbel
  have HU1 := Lib.hid ((HU.out _).below hbel)
  have c0 : w1.cell? ⟨w.heap.size, 0, none⟩ = some (.slice none 0 0) := (hc _ 0 (by simp)).trans (World.cell?_alloc_at _ _ _ _ rfl)
  have c1 : w1.cell? ⟨w.heap.size, 1, none⟩ = some (.slice none 0 0) := (hc _ 1 (by simp)).trans (World.cell?_alloc_at _ _ _ _ rfl)
  have f0 : w1.frozen? ⟨w.heap.size, 0, none⟩ = false := (hf _ 0 (by simp)).trans (World.frozen?_alloc_at _ _ _ _ rfl)
  have f1 : w1.frozen? ⟨w.heap.size, 1, none⟩ = false := (hf _ 1 (by simp)).trans (World.frozen?_alloc_at _ _ _ _ rfl)
  clear hr hbel hc hf
  go_wp2_with fail
  refine H1.out.mono ?_
  rintro e w2 ⟨s1, rfl, hs1, hbel2⟩
  have H2 := Lib.hid (HQ2.out g r w2 (HU1.out.below hbel2) (HR.out.below hbel2) hg hgN)
  have HS1 := Lib.hid hs1; have HB2 := Lib.hid hbel2
  clear hs1 hbel2
  go_wp2_with fail
  refine H2.out.mono ?_
  rintro e w3 ⟨s2, rfl, hs2, hbel3⟩
  have hs1 := HS1.out.below hbel3
  have h23 := HB2.out.trans (hbel3.mono HB2.out.size)
  have d0 : w3.cell? ⟨w.heap.size, 0, none⟩ = some (.slice none 0 0) := (h23.cell (p := ⟨w.heap.size, 0, none⟩) (by show w.heap.size < _; omega)).trans c0
  have d1 : w3.cell? ⟨w.heap.size, 1, none⟩ = some (.slice none 0 0) := (h23.cell (p := ⟨w.heap.size, 1, none⟩) (by show w.heap.size < _; omega)).trans c1
  have g0 : w3.frozen? ⟨w.heap.size, 0, none⟩ = false := (h23.frozen (p := ⟨w.heap.size, 0, none⟩) (by show w.heap.size < _; omega)).trans f0
  have g1 : w3.frozen? ⟨w.heap.size, 1, none⟩ = false := (h23.frozen (p := ⟨w.heap.size, 1, none⟩) (by show w.heap.size < _; omega)).trans f1
  have HB3 := Lib.hid ((HB1.out _).trans ((HB.out.trans (h23.mono (by simp; omega))).mono (by simp)))
  obtain ⟨ao, ac, rfl, -⟩ := hs1.shape
  obtain ⟨bo, bc, rfl, -⟩ := hs2.shape
  have X1 := Lib.hid hs1; have X2 := Lib.hid hs2
  have D0 := Lib.hid d0; have D1 := Lib.hid d1
  clear c0 c1 f0 f1 hbel3 h23 hs1 hs2
  go_wp2
  obtain ⟨q0, q1⟩ := read_two d0 d1 (.slice ao (nd 4294967296 (a / g)) ac) (.slice bo (nd 4294967296 (b / g)) bc)
  refine bodyPost_ret (v := .agg #[.slice ao (nd 4294967296 (a / g)) ac, .slice bo (nd 4294967296 (b / g)) bc]) (by simp [results, Tryz.results47, go_sem, q0, q1]) rfl
    ⟨_, _, rfl, IsN_setTwo X1.out D0.out D1.out (by intro d h; cases h) (by intro d h; cases h) _ _, IsN_setTwo X2.out D0.out D1.out (by intro d h; cases h) (by intro d h; cases h) _ _, ?_⟩
  exact (HB3.out.setCell (Nat.le_refl _) _).setCell (Nat.le_refl _) _
/-- a fraction in memory, as its two slices of digits; the denominator 0 stands for 1 -/
def FracIs (w : World) (v u : Value) (a b : Nat) : Prop := D w v a ∧ D w u b
set_option maxHeartbeats 400000 in
theorem NewFrac_any {N : Nat} (HN : DivOK N) (v u : Value) (a b : Nat) (w : World) (hv : D w v a) (hu : D w u b) (hb : 0 < b) (ha : a < N) (hbN : b < N) :
    Calls Tryz.prog 28 #[.agg #[v], .agg #[u]] w fun e w' => ∃ r s, e = .returned (.tuple #[.agg #[r, s], .int .i64 0]) ∧ D w' r (a / Nat.gcd a b) ∧ D w' s (b / Nat.gcd a b) ∧ Below w.heap.size w w' := by
  have b3 : ∀ o1 o2 o3, Below w.heap.size w (((w.alloc o1).alloc o2).alloc o3) := fun o1 o2 o3 => (((Below.refl _ _).alloc (Nat.le_refl _) _).alloc (by simp) _).alloc (by simp; omega) _
  have HZ := Lib.hid (fun o1 o2 o3 => isZero_any u b (((w.alloc o1).alloc o2).alloc o3) (hu.below (b3 o1 o2 o3)))
  rw [show decide (b = 0) = false from by simp; omega] at HZ
  have HL := Lib.hid (fun o1 o2 o3 => lowest_any HN v u a b (((w.alloc o1).alloc o2).alloc o3) (hv.below (b3 o1 o2 o3)) (hu.below (b3 o1 o2 o3)) hb ha hbN)
  have HB := Lib.hid b3
  obtain ⟨ao, ac, rfl, -⟩ := hv.shape
  obtain ⟨bo, bc, rfl, -⟩ := hu.shape
  clear hv hu b3 HN hb ha hbN
  go_enter Tryz.func28, Tryz.ntmps28
  go_wp2_with fail
  refine (HZ.out _ _ _).mono ?_
  rintro e w1 ⟨rfl, rfl⟩
  go_wp2_with fail
  refine (HL.out _ _ _).mono ?_
  rintro e w1 ⟨r, s, rfl, hr, hs, hbel⟩
  have hz := hbel.size
  simp only [World.size_alloc] at hz
  have d0 : w1.cell? ⟨w.heap.size + 1 + 1, 0, none⟩ = some (.slice none 0 0) := (hbel.cell (p := ⟨w.heap.size + 1 + 1, 0, none⟩) (by simp)).trans (World.cell?_alloc_at _ _ _ _ (by simp))
  have d1 : w1.cell? ⟨w.heap.size + 1 + 1, 1, none⟩ = some (.slice none 0 0) := (hbel.cell (p := ⟨w.heap.size + 1 + 1, 1, none⟩) (by simp)).trans (World.cell?_alloc_at _ _ _ _ (by simp))
  have g0 : w1.frozen? ⟨w.heap.size + 1 + 1, 0, none⟩ = false := (hbel.frozen (p := ⟨w.heap.size + 1 + 1, 0, none⟩) (by simp)).trans (World.frozen?_alloc_at _ _ _ _ (by simp))
  have g1 : w1.frozen? ⟨w.heap.size + 1 + 1, 1, none⟩ = false := (hbel.frozen (p := ⟨w.heap.size + 1 + 1, 1, none⟩) (by simp)).trans (World.frozen?_alloc_at _ _ _ _ (by simp))
  have HB2 := Lib.hid ((HB.out _ _ _).trans (hbel.mono (by simp; omega)))
  obtain ⟨ro, rc, rfl, -⟩ := hr.shape
  obtain ⟨so, sc, rfl, -⟩ := hs.shape
  have X1 := Lib.hid hr; have X2 := Lib.hid hs
  have D0 := Lib.hid d0; have D1 := Lib.hid d1
  clear hr hs hbel
  go_wp2
  obtain ⟨q0, q1⟩ := read_two d0 d1 (.slice ro (nd 4294967296 (a / Nat.gcd a b)) rc) (.slice so (nd 4294967296 (b / Nat.gcd a b)) sc)
  refine bodyPost_ret (v := .tuple #[.agg #[.slice ro (nd 4294967296 (a / Nat.gcd a b)) rc, .slice so (nd 4294967296 (b / Nat.gcd a b)) sc], .int .i64 0]) (by simp [results, Tryz.results28, go_sem, q0, q1]) rfl
    ⟨_, _, rfl, IsN_setTwo X1.out D0.out D1.out (by intro d h; cases h) (by intro d h; cases h) _ _, IsN_setTwo X2.out D0.out D1.out (by intro d h; cases h) (by intro d h; cases h) _ _, ?_⟩
  exact (HB2.out.setCell (by show w.heap.size ≤ w.heap.size + 1 + 1; omega) _).setCell (by show w.heap.size ≤ w.heap.size + 1 + 1; omega) _
end Go.Proofs.YtfkogbomijonjaaGreatDoor
