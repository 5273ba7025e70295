/- WHAT IS PROVED: for any size and any three lists of updates: SpanSides returns true, and its arguments read as before. Conditions: none but the row's own. -/
import Derived.Test.YtahgfggcpmnnaabTKip2
import Derived.Test.YtahgfggcpmnnaabTKip1
import Derived.ShutString
import Derived.ChangeOld
import Derived.Below
namespace Go.Proofs.Ytahgfggcpmnnaab
open Go Go.RowKit Gs

/-- what lay in w lies -/
def Kw (w W : World) : Prop := Below w.heap.size w W
/-- a box at or above w's end that holds no map yet -/
structure Zm (w : World) (X : Nat) (W : World) : Prop where
  ge : w.heap.size ≤ X
  mb : Mb X none 0 W
theorem Mb.put2 {B : Nat} {p0 : Option Addr} {s0 : Int} {W : World} (h : Mb B p0 s0 W) (p : Option Addr) (s : Int) : Mb B p s ((W.setCell ⟨B, 0, none⟩ (.pointer p)).setCell ⟨B, 1, none⟩ (.int .i64 s)) :=
  ⟨(World.cell?_setCell_other _ _ _ _ (by intro e; cases e)).trans (World.cell?_setCell_same _ _ _ h.c0), World.cell?_setCell_same _ _ _ ((World.cell?_setCell_other _ _ _ _ (by intro e; cases e)).trans h.c1),
   (World.frozen?_setCell _ _ _ _).trans ((World.frozen?_setCell _ _ _ _).trans h.f0), (World.frozen?_setCell _ _ _ _).trans ((World.frozen?_setCell _ _ _ _).trans h.f1),
   (World.cell?_setCell_other _ _ _ _ (by intro e; cases e)).trans ((World.cell?_setCell_other _ _ _ _ (by intro e; cases e)).trans h.c22), by rw [World.size_setCell, World.size_setCell]; exact h.lt⟩
theorem Mb.far {A B : Nat} {p : Option Addr} {s : Int} {W : World} (h : Mb A p s W) (hne : A ≠ B) (u v : Value) : Mb A p s ((W.setCell ⟨B, 0, none⟩ u).setCell ⟨B, 1, none⟩ v) := by
  have e : ∀ (i j : Nat), (⟨B, j, none⟩ : Addr) ≠ ⟨A, i, none⟩ := fun i j e => hne (by injection e with e1; exact e1.symm)
  have e' : ∀ (i j : Nat), (⟨A, i, none⟩ : Addr) ≠ ⟨B, j, none⟩ := fun i j h => e i j h.symm
  exact ⟨(World.cell?_setCell_other _ _ _ _ (by first | exact e 0 1 | exact e' 0 1)).trans ((World.cell?_setCell_other _ _ _ _ (by first | exact e 0 0 | exact e' 0 0)).trans h.c0), (World.cell?_setCell_other _ _ _ _ (by first | exact e 1 1 | exact e' 1 1)).trans ((World.cell?_setCell_other _ _ _ _ (by first | exact e 1 0 | exact e' 1 0)).trans h.c1),
   (World.frozen?_setCell _ _ _ _).trans ((World.frozen?_setCell _ _ _ _).trans h.f0), (World.frozen?_setCell _ _ _ _).trans ((World.frozen?_setCell _ _ _ _).trans h.f1),
   (World.cell?_setCell_other _ _ _ _ (by first | exact e 22 1 | exact e' 22 1)).trans ((World.cell?_setCell_other _ _ _ _ (by first | exact e 22 0 | exact e' 22 0)).trans h.c22), by rw [World.size_setCell, World.size_setCell]; exact h.lt⟩
section
variable {w W W' : World} {X Y : Nat} {f : Int → Int} {s : Int} {q : Option Addr}
theorem Kw.alloc (h : Kw w W) (o : Obj) : Kw w (W.alloc o) := Below.alloc h h.size o
theorem Kw.drew (h : Kw w W) : Kw w W.drew := Below.drew h
theorem Kw.put2 (h : Kw w W) (hz : w.heap.size ≤ X) (u v : Value) : Kw w ((W.setCell ⟨X, 0, none⟩ u).setCell ⟨X, 1, none⟩ v) := Below.setCell (Below.setCell h (p := ⟨X, 0, none⟩) hz u) (p := ⟨X, 1, none⟩) hz v
theorem Kw.next (h : Kw w W) (hb : Below W.heap.size W W') : Kw w W' := Below.trans h (hb.mono h.size)
theorem Zm.top (h : Kw w W) : Zm w W.heap.size (W.alloc (.cells #[.pointer none, .int .i64 0] 27)) := ⟨h.size, Mb.new _ _ _ _⟩
theorem Zm.next (h : Zm w X W) (hb : Below W.heap.size W W') : Zm w X W' := ⟨h.ge, h.mb.next hb⟩
theorem Zm.alloc (h : Zm w X W) (o : Obj) : Zm w X (W.alloc o) := h.next ((Below.refl _ _).alloc (Nat.le_refl _) _)
theorem Zm.drew (h : Zm w X W) : Zm w X W.drew := h.next ((Below.refl _ _).drew)
theorem Zm.top1 (h : Kw w W) (o : Obj) : Zm w (W.heap.size + 1) ((W.alloc o).alloc (.cells #[.pointer none, .int .i64 0] 27)) := by
  have := Zm.top (h.alloc o)
  rwa [World.size_alloc] at this
theorem Zm.top2 (h : Kw w W) (o o' : Obj) : Zm w (W.heap.size + 1 + 1) (((W.alloc o).alloc o').alloc (.cells #[.pointer none, .int .i64 0] 27)) := by
  have := Zm.top ((h.alloc o).alloc o')
  rwa [World.size_alloc, World.size_alloc] at this
theorem Zm.far (h : Zm w X W) (hne : X ≠ Y) (u v : Value) : Zm w X ((W.setCell ⟨Y, 0, none⟩ u).setCell ⟨Y, 1, none⟩ v) := ⟨h.ge, h.mb.far hne u v⟩
theorem IsM.alloc (h : IsM f s W q) (o : Obj) : IsM f s (W.alloc o) q := h.below ((Below.refl _ _).alloc (Nat.le_refl _) _)
theorem IsM.drew (h : IsM f s W q) : IsM f s W.drew q := h.below (Below.refl _ _).drew
theorem IsM.put2 {p0 : Option Addr} {s0 : Int} (h : IsM f s W q) (hz : Mb X p0 s0 W) (u v : Value) : IsM f s ((W.setCell ⟨X, 0, none⟩ u).setCell ⟨X, 1, none⟩ v) q :=
  ⟨h.lo, h.ctx, (h.tr.set hz.c22 u).set ((World.cell?_setCell_other _ _ _ _ (by intro e; cases e)).trans hz.c22) v⟩
theorem Kw.size (h : Kw w W) : w.heap.size ≤ W.heap.size := Below.size h
theorem Mb.putz (h : Zm w X W) (p : Option Addr) (s : Int) : Mb X p s ((W.setCell ⟨X, 0, none⟩ (.pointer p)).setCell ⟨X, 1, none⟩ (.int .i64 s)) := h.mb.put2 p s
theorem Mb.allocm {p : Option Addr} (h : Mb X p s W) (o : Obj) : Mb X p s (W.alloc o) := h.next ((Below.refl _ _).alloc (Nat.le_refl _) _)
theorem Mb.new1 (W : World) (o : Obj) (p : Option Addr) (s : Int) (T : TypeId) : Mb (W.heap.size + 1) p s ((W.alloc o).alloc (.cells #[.pointer p, .int .i64 s] T)) := by
  have := Mb.new (W.alloc o) p s T
  rwa [World.size_alloc] at this
theorem IsM.putz (h : IsM f s W q) (hz : Zm w X W) (u v : Value) : IsM f s ((W.setCell ⟨X, 0, none⟩ u).setCell ⟨X, 1, none⟩ v) q := h.put2 hz.mb u v
end
/-- two maps in their boxes -/
structure Pm (w : World) (A B : Nat) (qa qb : Option Addr) (fa fb : Int → Int) (s : Int) (W : World) : Prop where
  k : Kw w W
  ia : IsM fa s W qa
  ib : IsM fb s W qb
  ma : Mb A qa s W
  mb : Mb B qb s W
end Go.Proofs.Ytahgfggcpmnnaab
namespace Go.Proofs.Ytahgfggcpmnnaab
open Go Go.RowKit Gs

set_option maxRecDepth 100000 in
set_option maxHeartbeats 60000000 in
theorem spanSides_walk (size : Int) (v : Value) (l : List Act) (v2 : Value) (k : List Act) (v3 : Value) (k3 : List Act) (W : World) (hl : IsAs W v l) (hk : IsAs W v2 k) (hk3 : IsAs W v3 k3) :
    Calls Try.prog 7 #[.int .i64 size, v, v2, v3] W fun e w' => e = .returned (.bool true) ∧ Below W.heap.size W w' := by
  have HBU := Lib.hid (built_any (size := size) hl)
  have HK2 := Lib.hid hk; have HK3 := Lib.hid hk3
  have HAW : Hid (∀ W', Below W.heap.size W W' → Calls Try.prog 11 #[] W' fun e w' => e = .returned (.bool true) ∧ Hid (Below W.heap.size W w')) := fun W' h => (awake_any W').mono fun e w' ⟨he, hB⟩ => ⟨he, h.trans (hB.mono h.size)⟩
  obtain ⟨ao, c, rfl, -⟩ := hl
  obtain ⟨ao2, c2, rfl, -⟩ := hk
  obtain ⟨ao3, c3, rfl, -⟩ := hk3
  obtain ⟨n, hnn⟩ : ∃ n, n = l.length := ⟨_, rfl⟩
  obtain ⟨n2, hnn2⟩ : ∃ n2, n2 = k.length := ⟨_, rfl⟩
  obtain ⟨n3, hnn3⟩ : ∃ n3, n3 = k3.length := ⟨_, rfl⟩
  rw [← hnn] at HBU ⊢
  rw [← hnn2] at HK2 ⊢
  rw [← hnn3] at HK3 ⊢
  have HN := Lib.hid hnn; have HN2 := Lib.hid hnn2; have HN3 := Lib.hid hnn3
  have HFEW : Hid (∀ a n c W' (b : Bool), decide (n ≤ 60) = b → Calls Try.prog 22 #[.slice a n c] W' fun e w' => e = .returned (.bool b) ∧ W' = w') := fun a n c W' b hb => by
    have := few_any a n c W'
    rwa [hb] at this
  clear hnn hnn2 hnn3
  go_enter Try.func7, Try.ntmps7
  go_wp2_with fail
  refine HBU.out.mono ?_
  rintro e w1 ⟨p, s, ok, rfl, HOK, -, hb⟩
  have HB1 := Lib.hid hb
  clear hb
  obtain ⟨w2, HW2⟩ : ∃ w2, w2 = w1.alloc (.cells #[.pointer p, .int .i64 s] 27) := ⟨_, rfl⟩
  have b2 : Below w1.heap.size w1 w2 := by rw [HW2]; exact (Below.refl _ _).alloc (Nat.le_refl _) _
  have m2 : Mb w1.heap.size p s w2 := by rw [HW2]; exact Mb.new _ _ _ _
  have HB2 := Lib.hid (HB1.out.trans (b2.mono HB1.out.size))
  have HM2 := Lib.hid m2
  have HS2 := Lib.hid b2
  have HW2' := Lib.hid HW2
  clear HW2 b2 m2
  go_upto_region 2 with fail
  rw [← HW2'.out]
  cases ok with
  | false =>
    go_wp2_with fail
    refine (HAW.out _ HB2.out).mono ?_
    rintro e w9 ⟨rfl, HF⟩
    go_wp2_with fail
    go_ret
    exact ⟨rfl, HF.out⟩
  | true =>
    by_cases hn2 : n2 ≤ 60
    · have HF2 := Lib.hid (fun W' => HFEW.out ao2 n2 c2 W' true (decide_eq_true hn2))
      by_cases hn3 : n3 ≤ 60
      · have HF3 := Lib.hid (fun W' => HFEW.out ao3 n3 c3 W' true (decide_eq_true hn3))
        obtain ⟨hl60, hs1, f, hf, hmo⟩ := HOK.out rfl
        rw [← hs1] at hmo
        rw [← hs1] at hf
        clear hs1 HOK HFEW
        go_wp2_with fail
        refine (HF2.out _).mono ?_
        rintro e w3 ⟨rfl, rfl⟩
        go_wp2_with fail
        refine (HF3.out _).mono ?_
        rintro e w3 ⟨rfl, rfl⟩
        have HMR : Hid (∀ W', Kw w2 W' → Calls Try.prog 23 #[.agg #[.pointer p, .int .i64 s], .slice ao2 n2 c2] W' fun e w' => ∃ q f', e = .returned (.agg #[.pointer q, .int .i64 s]) ∧ IsM f' s w' q ∧ Hid (Mo s f k f') ∧ Below W'.heap.size W' w' ∧ Kw w2 w') := fun W' h =>
          (more_any ((hf.below HS2.out).below h) (HK2.out.below (HB2.out.trans (h.mono HB2.out.size))) (by have := HN2.out; omega)).mono fun e w' ⟨q, f', he, h1, h2, hB⟩ => ⟨q, f', he, h1.out, h2, hB, h.next hB⟩
        have HMR3 : Hid (∀ W', Kw w2 W' → Calls Try.prog 23 #[.agg #[.pointer p, .int .i64 s], .slice ao3 n3 c3] W' fun e w' => ∃ q f', e = .returned (.agg #[.pointer q, .int .i64 s]) ∧ IsM f' s w' q ∧ Hid (Mo s f k3 f') ∧ Below W'.heap.size W' w' ∧ Kw w2 w') := fun W' h =>
          (more_any ((hf.below HS2.out).below h) (HK3.out.below (HB2.out.trans (h.mono HB2.out.size))) (by have := HN3.out; omega)).mono fun e w' ⟨q, f', he, h1, h2, hB⟩ => ⟨q, f', he, h1.out, h2, hB, h.next hB⟩
        have HF0 := Lib.hid hf; have HMO := Lib.hid hmo; have HL1 := Lib.hid hl60; have HL2 := Lib.hid hn2; have HL3 := Lib.hid hn3
        clear hf hmo hn2 hn3 hl60
        have HCE : Hid (∀ W', Kw w2 W' → W'.cell? ⟨w1.heap.size, 0, none⟩ = some (.pointer p) ∧ W'.cell? ⟨w1.heap.size, 1, none⟩ = some (.int .i64 s)) := fun W' h => ⟨(HM2.out.next h).c0, (HM2.out.next h).c1⟩
        have HSA : Hid (∀ W' o, Kw w2 W' → ((W'.alloc o).cell? ⟨w1.heap.size, 0, none⟩ = some (.pointer p) ∧ (W'.alloc o).cell? ⟨w1.heap.size, 1, none⟩ = some (.int .i64 s)) ∧ Kw w2 (W'.alloc o)) := fun W' o h => ⟨HCE.out _ (h.alloc o), h.alloc o⟩
        have HSD : Hid (∀ W' o, Kw w2 W' → ((W'.alloc o).drew.cell? ⟨w1.heap.size, 0, none⟩ = some (.pointer p) ∧ (W'.alloc o).drew.cell? ⟨w1.heap.size, 1, none⟩ = some (.int .i64 s)) ∧ Kw w2 (W'.alloc o).drew) := fun W' o h => ⟨HCE.out _ (h.alloc o).drew, (h.alloc o).drew⟩
        have HSP : Hid (∀ W' X u1 u2, Kw w2 W' → w2.heap.size ≤ X → (((W'.setCell ⟨X, 0, none⟩ u1).setCell ⟨X, 1, none⟩ u2).cell? ⟨w1.heap.size, 0, none⟩ = some (.pointer p) ∧ ((W'.setCell ⟨X, 0, none⟩ u1).setCell ⟨X, 1, none⟩ u2).cell? ⟨w1.heap.size, 1, none⟩ = some (.int .i64 s)) ∧ Kw w2 ((W'.setCell ⟨X, 0, none⟩ u1).setCell ⟨X, 1, none⟩ u2)) := fun W' X u1 u2 h hx => ⟨HCE.out _ (h.put2 hx u1 u2), h.put2 hx u1 u2⟩
        have hs : Kw w2 w2 := Below.refl _ _
        have hs2 := hs.drew
        have hcl := HCE.out _ hs2
        have hc0 := HCE.out _ hs
        go_upto_region 4 with fail
        go_cut [11, 12] from 42 to 48 (fun s11 s12 wz => ∃ Ba Bb qa qb fa fb, s11 = .pointer (some ⟨Ba, 0, none⟩) ∧ s12 = .pointer (some ⟨Bb, 0, none⟩) ∧ Hid (Mo s f k fa) ∧ Hid (Mo s f k3 fb) ∧ Hid (Pm w2 Ba Bb qa qb fa fb s wz))
        case first =>
          go_region_held3 (fun W' : World => (W'.cell? ⟨w1.heap.size, 0, none⟩ = some (.pointer p) ∧ W'.cell? ⟨w1.heap.size, 1, none⟩ = some (.int .i64 s)) ∧ Kw w2 W') (first | (refine And.intro ?_ ?_ <;> assumption) | ((with_reducible refine HSA.out _ _ ?_) <;> (repeat' (with_reducible first | assumption | apply Kw.put2 | exact Zm.ge (by assumption) | exact Zm.ge (Zm.top (by assumption)) | exact Zm.ge (Zm.top1 (by assumption) _) | apply Kw.alloc | apply Kw.drew | omega))) | ((with_reducible refine HSD.out _ _ ?_) <;> (repeat' (with_reducible first | assumption | apply Kw.put2 | exact Zm.ge (by assumption) | exact Zm.ge (Zm.top (by assumption)) | exact Zm.ge (Zm.top1 (by assumption) _) | apply Kw.alloc | apply Kw.drew | omega))) | ((with_reducible refine HSP.out _ _ _ _ ?_ ?_) <;> (repeat' (with_reducible first | assumption | apply Kw.put2 | exact Zm.ge (by assumption) | exact Zm.ge (Zm.top (by assumption)) | exact Zm.ge (Zm.top1 (by assumption) _) | apply Kw.alloc | apply Kw.drew | omega))) | fail) (first
            | (go_at_call 23; with_reducible refine (HMR.out _ ?h).mono ?_; (case h => (first | assumption | exact Kw.drew (Kw.alloc (by assumption) _) | exact Kw.drew (Kw.alloc (Kw.alloc (by assumption) _) _) | exact Kw.alloc (by assumption) _ | exact Kw.alloc (Kw.alloc (by assumption) _) _ | exact Kw.alloc (Kw.alloc (Kw.alloc (by assumption) _) _) _ | exact Kw.alloc (Kw.alloc (Kw.alloc (Kw.alloc (by assumption) _) _) _) _ | fail)); rintro e w' ⟨qa, fa, rfl, hia, hma, hB', hs1'⟩; have hc1' := HCE.out _ hs1'; (first | (have zA := Zm.next (Zm.top1 (by assumption) _) hB') | (have zA := Zm.next (Zm.top (by assumption)) hB') | (have zA := Zm.next (Zm.drew (Zm.top1 (by assumption) _)) hB') | (have zA := Zm.next (Zm.drew (Zm.top (by assumption))) hB') | skip); (first | (have zB := Zm.next (Zm.alloc (Zm.top (by assumption)) _) hB') | (have zB := Zm.next (Zm.drew (Zm.alloc (Zm.top (by assumption)) _)) hB') | skip); (first | (have zA0 := zA.mb.c0; have zA1 := zA.mb.c1; have zA2 := zA.mb.f0; have zA3 := zA.mb.f1; have zA4 : ¬ _ = _ := Nat.ne_of_lt zA.mb.lt; have zA5 : ¬ _ = _ := Nat.ne_of_gt zA.mb.lt; have zA6 := fun o => (Zm.alloc zA o).mb.c0; have zA7 := fun o => (Zm.alloc zA o).mb.c1; have zA8 := fun o => (Zm.alloc zA o).mb.f0; have zA9 := fun o => (Zm.alloc zA o).mb.f1) | skip); (first | (have zB0 := zB.mb.c0; have zB1 := zB.mb.c1; have zB2 := zB.mb.f0; have zB3 := zB.mb.f1; have zB4 : ¬ _ = _ := Nat.ne_of_lt zB.mb.lt; have zB5 : ¬ _ = _ := Nat.ne_of_gt zB.mb.lt; have zB6 := fun o => (Zm.alloc zB o).mb.c0; have zB7 := fun o => (Zm.alloc zB o).mb.c1; have zB8 := fun o => (Zm.alloc zB o).mb.f0; have zB9 := fun o => (Zm.alloc zB o).mb.f1) | skip))
            | (go_at_call 23; with_reducible refine (HMR3.out _ ?h).mono ?_; (case h => (first | assumption | exact Kw.drew (Kw.alloc (by assumption) _) | exact Kw.drew (Kw.alloc (Kw.alloc (by assumption) _) _) | exact Kw.alloc (by assumption) _ | exact Kw.alloc (Kw.alloc (by assumption) _) _ | exact Kw.alloc (Kw.alloc (Kw.alloc (by assumption) _) _) _ | exact Kw.alloc (Kw.alloc (Kw.alloc (Kw.alloc (by assumption) _) _) _) _ | fail)); rintro e w' ⟨qb, fb, rfl, hib, hmb, hB', hs2'⟩; have hc2' := HCE.out _ hs2'; have hia2 := IsM.below (by first | exact hia | exact IsM.alloc hia _ | exact IsM.alloc (IsM.alloc hia _) _) hB'; (first | (have zC := Zm.next (by first | exact zA | exact Zm.alloc zA _ | exact Zm.alloc (Zm.alloc zA _) _) hB') | skip); (first | (have zD := Zm.next (by first | exact zB | exact Zm.alloc zB _ | exact Zm.alloc (Zm.alloc zB _) _) hB') | skip); (first | (have zE := Zm.next (Zm.top1 (by assumption) _) hB') | (have zE := Zm.next (Zm.top (by assumption)) hB') | (have zE := Zm.next (Zm.drew (Zm.top1 (by assumption) _)) hB') | (have zE := Zm.next (Zm.drew (Zm.top (by assumption))) hB') | skip); (first | (have zF := Zm.next (Zm.alloc (Zm.top (by assumption)) _) hB') | (have zF := Zm.next (Zm.drew (Zm.alloc (Zm.top (by assumption)) _)) hB') | skip); (first | (have zC0 := zC.mb.c0; have zC1 := zC.mb.c1; have zC2 := zC.mb.f0; have zC3 := zC.mb.f1; have zC4 : ¬ _ = _ := Nat.ne_of_lt zC.mb.lt; have zC5 : ¬ _ = _ := Nat.ne_of_gt zC.mb.lt; have zC6 := fun o => (Zm.alloc zC o).mb.c0; have zC7 := fun o => (Zm.alloc zC o).mb.c1; have zC8 := fun o => (Zm.alloc zC o).mb.f0; have zC9 := fun o => (Zm.alloc zC o).mb.f1) | skip); (first | (have zD0 := zD.mb.c0; have zD1 := zD.mb.c1; have zD2 := zD.mb.f0; have zD3 := zD.mb.f1; have zD4 : ¬ _ = _ := Nat.ne_of_lt zD.mb.lt; have zD5 : ¬ _ = _ := Nat.ne_of_gt zD.mb.lt; have zD6 := fun o => (Zm.alloc zD o).mb.c0; have zD7 := fun o => (Zm.alloc zD o).mb.c1; have zD8 := fun o => (Zm.alloc zD o).mb.f0; have zD9 := fun o => (Zm.alloc zD o).mb.f1) | skip); (first | (have zE0 := zE.mb.c0; have zE1 := zE.mb.c1; have zE2 := zE.mb.f0; have zE3 := zE.mb.f1; have zE4 : ¬ _ = _ := Nat.ne_of_lt zE.mb.lt; have zE5 : ¬ _ = _ := Nat.ne_of_gt zE.mb.lt; have zE6 := fun o => (Zm.alloc zE o).mb.c0; have zE7 := fun o => (Zm.alloc zE o).mb.c1; have zE8 := fun o => (Zm.alloc zE o).mb.f0; have zE9 := fun o => (Zm.alloc zE o).mb.f1) | skip); (first | (have zF0 := zF.mb.c0; have zF1 := zF.mb.c1; have zF2 := zF.mb.f0; have zF3 := zF.mb.f1; have zF4 : ¬ _ = _ := Nat.ne_of_lt zF.mb.lt; have zF5 : ¬ _ = _ := Nat.ne_of_gt zF.mb.lt; have zF6 := fun o => (Zm.alloc zF o).mb.c0; have zF7 := fun o => (Zm.alloc zF o).mb.c1; have zF8 := fun o => (Zm.alloc zF o).mb.f0; have zF9 := fun o => (Zm.alloc zF o).mb.f1) | skip)) | fail)
          all_goals
            go_wp2_with fail
            go_meet
            case rel =>
              (first | refine ⟨_, _, qa, qb, fa, fb, rfl, rfl, ?_, ?_, Lib.hid ⟨?_, ?_, ?_, ?_, ?_⟩⟩ | fail) <;> (repeat' (with_reducible first | assumption | exact hma | exact hmb | apply Kw.put2 | apply Mb.putz (w := w2) | apply Mb.far | apply IsM.putz (w := w2) | exact Mb.new _ _ _ _ | exact Mb.new1 _ _ _ _ _ | apply Mb.allocm | exact Zm.top (by assumption) | exact Zm.top1 (by assumption) _ | apply IsM.alloc | apply Kw.alloc | apply Kw.drew | apply Zm.alloc | apply Zm.drew | apply IsM.drew | apply Zm.far | exact Zm.ge (by assumption) | exact Kw.size (by assumption) | omega | simp only [World.size_alloc, World.size_setCell, World.size_drew] | fail))
        case rest =>
          obtain ⟨Ba, Bb, qa, qb, fa, fb, rfl, rfl, HMA, HMB, HP⟩ := hcut
          have hwc : Below w2.heap.size w2 wc := HP.out.k
          have HWc : Hid (Below W.heap.size W wc) := HB2.out.trans (hwc.mono HB2.out.size)
          have hfo : IsM f s wc p := (HF0.out.below HS2.out).below hwc
          have hia := HP.out.ia; have hib := HP.out.ib
          obtain ⟨La, hLa, -⟩ := hfo.can
          obtain ⟨Lx, hLx, -⟩ := hia.can
          obtain ⟨Ly, hLy, -⟩ := hib.can
          have hz : ∃ k : List R, Fits (fun _ => (0 : Int)) 0 k s ∧ k.length ≤ 1 := ⟨[⟨0, s, 0⟩], ⟨rfl, by have := hfo.lo; show (0 : Int) < s; omega, fun _ _ _ => rfl, rfl⟩, by simp⟩
          have hla : La.length ≤ 121 := by
            obtain ⟨k1, a1, a2⟩ := HMO.out.runs hz
            have e1 := can_short hLa a1
            have := HL1.out; have := HN.out; omega
          have hlx : Lx.length ≤ 241 := by have e1 := HMA.out.short hLa.1 hla hLx; have e2 := HL2.out; have e3 := HN2.out; omega
          have hly : Ly.length ≤ 241 := by have e1 := HMB.out.short hLa.1 hla hLy; have e2 := HL3.out; have e3 := HN3.out; omega
          have hb3 := B3.of hfo.ctx hia.ctx hib.ctx
          have hkl : (mC (m3 La Lx Ly)).length ≤ 100000 := by
            have e1 := mC_len (m3 La Lx Ly)
            have e2 := m3_len hLa hLx hLy hb3
            omega
          have hsw : mC (m3 La Ly Lx) = (mC (m3 La Lx Ly)).map Ch.swap := by rw [m3_swap hLa hLx hLy hb3, mC_swap]
          have hnil : mC (m3 La Lx La) = [] := mC_none (m3_f3 hLa hLx hLa (B3.of hfo.ctx hia.ctx hfo.ctx)) (fun _ _ _ => .inr (.inl rfl))
          obtain ⟨K, hK⟩ : ∃ K, K = mC (m3 La Lx Ly) := ⟨_, rfl⟩
          obtain ⟨K', hK'⟩ : ∃ K', K' = mC (m3 La Ly Lx) := ⟨_, rfl⟩
          obtain ⟨N, hNN⟩ : ∃ N, N = K.length := ⟨_, rfl⟩
          have hNN' : N = K'.length := by rw [hK', hsw, List.length_map, ← hK, hNN]
          have HMB1 : Hid (∀ W', Below wc.heap.size wc W' → Calls Try.prog 24 #[.agg #[.pointer p, .int .i64 s], .agg #[.pointer qa, .int .i64 s], .agg #[.pointer p, .int .i64 s]] W' fun e w' => ∃ mp a c, e = .returned (.tuple #[.agg #[.pointer mp, .int .i64 s], .slice a 0 c, .int .i64 0]) ∧ Hid (IsM (mg f fa f) s w' mp) ∧ Below W'.heap.size W' w') := fun W' h =>
            (Merge_same (hfo.below h) (hia.below h) (hfo.below h) hLa hLx hLa (by omega) (N := 0) (by rw [hnil]; rfl)).mono fun e w' ⟨mp, a, c, he, h1, _, h3⟩ => ⟨mp, a, c, he, h1, h3⟩
          have HMB2 : Hid (∀ W', Below wc.heap.size wc W' → Calls Try.prog 24 #[.agg #[.pointer p, .int .i64 s], .agg #[.pointer qa, .int .i64 s], .agg #[.pointer qb, .int .i64 s]] W' fun e w' => ∃ mp a c, e = .returned (.tuple #[.agg #[.pointer mp, .int .i64 s], .slice a N c, .int .i64 0]) ∧ Hid (IsM (mg f fa fb) s w' mp) ∧ Hid (IsCs w' (.slice a N c) K) ∧ Below W'.heap.size W' w') := fun W' h =>
            (Merge_same (hfo.below h) (hia.below h) (hib.below h) hLa hLx hLy (by omega) (N := N) (by rw [hNN, hK])).mono fun e w' ⟨mp, a, c, he, h1, h2, h3⟩ => ⟨mp, a, c, he, h1, by rw [hK]; exact row_cs h2.out, h3⟩
          have HMB3 : Hid (∀ W', Below wc.heap.size wc W' → Calls Try.prog 24 #[.agg #[.pointer p, .int .i64 s], .agg #[.pointer qb, .int .i64 s], .agg #[.pointer qa, .int .i64 s]] W' fun e w' => ∃ mp a c, e = .returned (.tuple #[.agg #[.pointer mp, .int .i64 s], .slice a N c, .int .i64 0]) ∧ Hid (IsM (mg f fb fa) s w' mp) ∧ Hid (IsCs w' (.slice a N c) K') ∧ Below W'.heap.size W' w') := fun W' h =>
            (Merge_same (hfo.below h) (hib.below h) (hia.below h) hLa hLy hLx (by omega) (N := N) (by rw [hNN', hK'])).mono fun e w' ⟨mp, a, c, he, h1, h2, h3⟩ => ⟨mp, a, c, he, h1, by rw [hK']; exact row_cs h2.out, h3⟩
          have HEQ1 : Hid (∀ W' m, Below wc.heap.size wc W' → IsM (mg f fa f) s W' m → Calls Try.prog 21 #[.agg #[.pointer m, .int .i64 s], .agg #[.pointer qa, .int .i64 s]] W' fun e w' => e = .returned (.bool true) ∧ Below W'.heap.size W' w') := fun W' m h hm => Equal_true hm (hia.below h) fun x _ _ => by unfold mg mt; rw [if_pos (.inr rfl)]
          have HEQ2 : Hid (∀ W' m m', Below wc.heap.size wc W' → IsM (mg f fa fb) s W' m → IsM (mg f fb fa) s W' m' → Calls Try.prog 21 #[.agg #[.pointer m, .int .i64 s], .agg #[.pointer m', .int .i64 s]] W' fun e w' => e = .returned (.bool true) ∧ Below W'.heap.size W' w') := fun W' m m' h hm hm' => Equal_true hm hm' fun x _ _ => (mt_swap _ _ _).symm
          have HSW : Hid (∀ j (h : j < K.length) (h' : j < K'.length), K'[j] = ⟨K[j].lo, K[j].hi, K[j].tt, K[j].fr⟩) := fun j h h' => by
            have : K' = K.map Ch.swap := by rw [hK', hsw, hK]
            simp only [this, List.getElem_map]
            rfl
          have hN100 : N ≤ 100000 := by rw [hNN, hK]; exact hkl
          have HND := Lib.hid hNN; have HND' := Lib.hid hNN'
          have HALL : Hid (∀ W', Below wc.heap.size wc W' → (W'.cell? ⟨w1.heap.size, 0, none⟩ = some (.pointer p) ∧ W'.cell? ⟨w1.heap.size, 1, none⟩ = some (.int .i64 s)) ∧ (W'.cell? ⟨Ba, 0, none⟩ = some (.pointer qa) ∧ W'.cell? ⟨Ba, 1, none⟩ = some (.int .i64 s)) ∧ (W'.cell? ⟨Bb, 0, none⟩ = some (.pointer qb) ∧ W'.cell? ⟨Bb, 1, none⟩ = some (.int .i64 s))) := fun W' h =>
            ⟨⟨((HM2.out.next hwc).next h).c0, ((HM2.out.next hwc).next h).c1⟩, ⟨(HP.out.ma.next h).c0, (HP.out.ma.next h).c1⟩, ⟨(HP.out.mb.next h).c0, (HP.out.mb.next h).c1⟩⟩
          have HAWc : Hid (∀ W', Below wc.heap.size wc W' → Calls Try.prog 11 #[] W' fun e w' => e = .returned (.bool true) ∧ Hid (Below W.heap.size W w')) := fun W' h => HAW.out W' (HWc.out.trans (h.mono HWc.out.size))
          clear hwc hfo hia hib hLa hLx hLy hz hla hlx hly hb3 hkl hsw hnil hK hK' hNN hNN' HP HMA HMB HMO HF0 HL1 HL2 HL3 hs hs2 hcl hc0 HCE HSA HSD HSP HMR HMR3
          have HR0 : Hid (Below wc.heap.size wc wc) := Below.refl _ _
          obtain ⟨⟨k0, k1⟩, ⟨k2, k3⟩, k4, k5⟩ := HALL.out wc HR0.out
          go_wp2_with fail
          refine (HMB1.out wc HR0.out).mono ?_
          rintro e x1 ⟨m, ma, mc, rfl, HI1, hb⟩
          obtain ⟨x2, HX2⟩ : ∃ x2, x2 = x1.alloc (.cells #[.pointer m, .int .i64 s] 27) := ⟨_, rfl⟩
          have b2 : Below x1.heap.size x1 x2 := by rw [HX2]; exact (Below.refl _ _).alloc (Nat.le_refl _) _
          have m2 : Mb x1.heap.size m s x2 := by rw [HX2]; exact Mb.new _ _ _ _
          have HR2 := Lib.hid (hb.trans (b2.mono hb.size))
          have HI2 := Lib.hid (HI1.out.below b2)
          have HM2b := Lib.hid m2
          have HX2' := Lib.hid HX2
          clear HX2 b2 m2 hb k0 k1 k2 k3 k4 k5 HI1
          go_upto_region 6 with fail
          rw [← HX2'.out]
          obtain ⟨⟨k0, k1⟩, ⟨k2, k3⟩, k4, k5⟩ := HALL.out x2 HR2.out
          go_wp2_with fail
          refine (HMB2.out x2 HR2.out).mono ?_
          rintro e x3 ⟨n', na, nc, rfl, HI3, HC3, hb⟩
          obtain ⟨x4, HX4⟩ : ∃ x4, x4 = x3.alloc (.cells #[.pointer n', .int .i64 s] 27) := ⟨_, rfl⟩
          have b2 : Below x3.heap.size x3 x4 := by rw [HX4]; exact (Below.refl _ _).alloc (Nat.le_refl _) _
          have m2 : Mb x3.heap.size n' s x4 := by rw [HX4]; exact Mb.new _ _ _ _
          have hb24 := hb.trans (b2.mono hb.size)
          have HR4 := Lib.hid (HR2.out.trans (hb24.mono HR2.out.size))
          have HIm4 := Lib.hid (HI2.out.below hb24)
          have HMm4 := Lib.hid (HM2b.out.next hb24)
          have HIn4 := Lib.hid (HI3.out.below b2)
          have HC4 := Lib.hid (HC3.out.below b2)
          have HMn4 := Lib.hid m2
          have HX4' := Lib.hid HX4
          clear HX4 b2 m2 hb hb24 k0 k1 k2 k3 k4 k5 HI3 HC3 HI2 HM2b HX2'
          go_upto_region 7 with fail
          rw [← HX4'.out]
          obtain ⟨⟨k0, k1⟩, ⟨k2, k3⟩, k4, k5⟩ := HALL.out x4 HR4.out
          go_wp2_with fail
          refine (HMB3.out x4 HR4.out).mono ?_
          rintro e x5 ⟨xm, xa, xc, rfl, HI5, HC5, hb⟩
          obtain ⟨x6, HX6⟩ : ∃ x6, x6 = x5.alloc (.cells #[.pointer xm, .int .i64 s] 27) := ⟨_, rfl⟩
          have b2 : Below x5.heap.size x5 x6 := by rw [HX6]; exact (Below.refl _ _).alloc (Nat.le_refl _) _
          have m2 : Mb x5.heap.size xm s x6 := by rw [HX6]; exact Mb.new _ _ _ _
          have hb46 := hb.trans (b2.mono hb.size)
          have HR6 := Lib.hid (HR4.out.trans (hb46.mono HR4.out.size))
          have HIm6 := Lib.hid (HIm4.out.below hb46)
          have HMm6 := Lib.hid (HMm4.out.next hb46)
          have HIn6 := Lib.hid (HIn4.out.below hb46)
          have HMn6 := Lib.hid (HMn4.out.next hb46)
          have HC6 := Lib.hid (HC4.out.below hb46)
          have HIx6 := Lib.hid (HI5.out.below b2)
          have HE6 := Lib.hid (HC5.out.below b2)
          have HMx6 := Lib.hid m2
          have HX6' := Lib.hid HX6
          clear HX6 b2 m2 hb hb46 k0 k1 k2 k3 k4 k5 HI5 HC5 HIm4 HMm4 HIn4 HMn4 HC4 HX4'
          go_upto_region 8 with fail
          rw [← HX6'.out]
          obtain ⟨-, ⟨k2, k3⟩, -⟩ := HALL.out x6 HR6.out
          have y0 := HMm6.out.c0; have y1 := HMm6.out.c1
          go_wp2_with fail
          refine (HEQ1.out x6 m HR6.out HIm6.out).mono ?_
          rintro e x7 ⟨rfl, hb⟩
          have HR7 := Lib.hid (HR6.out.trans (hb.mono HR6.out.size))
          have HIn7 := Lib.hid (HIn6.out.below hb)
          have HMn7 := Lib.hid (HMn6.out.next hb)
          have HIx7 := Lib.hid (HIx6.out.below hb)
          have HMx7 := Lib.hid (HMx6.out.next hb)
          have HC7 := Lib.hid (HC6.out.below hb)
          have HE7 := Lib.hid (HE6.out.below hb)
          clear hb k2 k3 y0 y1 HIn6 HMn6 HIx6 HMx6 HC6 HE6 HX6' HIm6 HMm6 HR6
          have y0 := HMn7.out.c0; have y1 := HMn7.out.c1; have y2 := HMx7.out.c0; have y3 := HMx7.out.c1
          go_wp2_with fail
          refine (HEQ2.out x7 n' xm HR7.out HIn7.out HIx7.out).mono ?_
          rintro e x8 ⟨rfl, hb⟩
          have HR8 := Lib.hid (HR7.out.trans (hb.mono HR7.out.size))
          have HC8 := Lib.hid (HC7.out.below hb)
          have HE8 := Lib.hid (HE7.out.below hb)
          clear hb y0 y1 y2 y3 HIn7 HMn7 HIx7 HMx7 HC7 HE7 HR7
          go_wp2_with fail
          go_loopw [22] (fun i wr => ∃ j : Nat, j ≤ N ∧ i = .int .i64 j ∧ Hid (Below x8.heap.size x8 wr)) (fun i _ => N - (intOf i).toNat)
          case atStart => exact ⟨0, by omega, rfl, Below.refl _ _⟩
          case round =>
            obtain ⟨j, hj, rfl, HB⟩ := hrel
            have HRr := Lib.hid (HR8.out.trans (HB.out.mono HR8.out.size))
            by_cases hlt : j < N
            · have hj2 : (j : Int) < N := by omega
              have h1 : j < K.length := by rw [← HND.out]; exact hlt
              have h2 : j < K'.length := by rw [← HND'.out]; exact hlt
              obtain ⟨B1, o1, e1, d0, d1, d2, d3⟩ := IsCs.at' (HC8.out.below HB.out) h1
              obtain ⟨B2, o2, e2, f0, f1, f2, f3⟩ := IsCs.at' (HE8.out.below HB.out) h2
              rw [HSW.out j h1 h2] at f0 f1 f2 f3
              rcases hx : K[j] with ⟨ta, tb, tc, td⟩
              rw [hx] at d0 d1 d2 d3 f0 f1 f2 f3
              simp only at d0 d1 d2 d3 f0 f1 f2 f3
              clear hx
              subst e1; subst e2
              go_wp2_with fail
              go_quiet (fail)
              rename_i nq
              have HBn : Hid (Below x8.heap.size x8 (World.drewN wr nq)) := below_drewN HB.out nq
              clear d0 d1 d2 d3 f0 f1 f2 f3
              generalize hw : World.drewN _ nq = x9 at HBn ⊢
              clear hw
              go_wp2_with fail
              go_roundw
              case rel => exact ⟨j + 1, by omega, by go_num, HBn⟩
              case measure => simp [intOf]; omega
            · have hlt' : ¬ ((j : Int) < N) := by omega
              go_wp2_with fail
              refine (HAWc.out wr HRr.out).mono ?_
              rintro e x9 ⟨rfl, HF⟩
              go_wp2_with fail
              go_ret
              exact ⟨rfl, HF.out⟩
      · have HF3 := Lib.hid (fun W' => HFEW.out ao3 n3 c3 W' false (decide_eq_false hn3))
        clear hn2 hn3 HOK HFEW
        go_wp2_with fail
        refine (HF2.out _).mono ?_
        rintro e w3 ⟨rfl, rfl⟩
        go_wp2_with fail
        refine (HF3.out _).mono ?_
        rintro e w3 ⟨rfl, rfl⟩
        go_wp2_with fail
        refine (HAW.out _ HB2.out).mono ?_
        rintro e w9 ⟨rfl, HF⟩
        go_wp2_with fail
        go_ret
        exact ⟨rfl, HF.out⟩
    · have HF2 := Lib.hid (fun W' => HFEW.out ao2 n2 c2 W' false (decide_eq_false hn2))
      clear hn2 HOK HFEW
      go_wp2_with fail
      refine (HF2.out _).mono ?_
      rintro e w3 ⟨rfl, rfl⟩
      go_wp2_with fail
      refine (HAW.out _ HB2.out).mono ?_
      rintro e w9 ⟨rfl, HF⟩
      go_wp2_with fail
      go_ret
      exact ⟨rfl, HF.out⟩
end Go.Proofs.Ytahgfggcpmnnaab
namespace Go.Proofs.Ytahgfggcpmnnaab
open Go Go.ChangeShapes Go.WideShapes Go.ChangeAt Go.RowKit Gs
set_option linter.unusedVariables false

set_option maxRecDepth 100000 in
theorem spanSides_lifted (os : Os) (started : os.Started) (H : Type) (enc : TypeId × Value → H) :
    ReturnsInHanded {} Try.checked os 7 .any (Rows.spanSidesSpec.pre6 enc Try.prog Try.f7 Rows.spanSidesRow.domain false) (Rows.spanSidesSpec.post enc Try.prog Try.f7 false true false false) := by
  refine returnsInHanded_of_change (C := Try.checked) own started (by kernel_rfl) Try.func7
    (ChangeSpec.witness6 (enc := enc) (C := Try.checked) false ⟨#[], #[.int .i64 0, .slice none 0 0, .slice none 0 0, .slice none 0 0], []⟩ 8 (by kernel_rfl) (by kernel_rfl) (by kernel_rfl) (by kernel_rfl)) ?_
  intro W base args ds gs before hval0 hW hcnd _
  have hval : ∀ (j : Nat) t v, Try.f7.params[j]? = some t → args[j]? = some v → Value.okWide Try.prog W .any base t v := hval0
  have hW' := hW
  obtain ⟨p, q, hA0, hV, rfl, hfz, hnd⟩ := hW
  have hA : DataW.TrodAll enc Try.prog W 0 (fun _ => true) true Try.f7.params.toList args.toList ds p := hA0
  rw [Try.params7] at hA hval
  obtain ⟨v0, vs0, d0, ds0, p0, q0, hargs, rfl, rfl, h0, r0⟩ := trodAll_cons hA
  obtain ⟨v1, vs1, d1, ds1, p1, q1, rfl, rfl, rfl, h1, r1⟩ := trodAll_cons r0
  obtain ⟨v2, vs2, d2, ds2, p2, q2, rfl, rfl, rfl, h2, r2⟩ := trodAll_cons r1
  obtain ⟨v3, vs3, d3, ds3, p3, q3, rfl, rfl, rfl, h3, r3⟩ := trodAll_cons r2
  obtain ⟨rfl, rfl, rfl⟩ := trodAll_nil r3
  obtain rfl : args = #[v0, v1, v2, v3] := by cases args; simp_all
  obtain ⟨rfl, rfl⟩ := trodVars_none hV
  have k0 := h0
  have lt0 : ∀ x ∈ p0, x.block < W.heap.size := by obtain ⟨m, hm⟩ := k0; exact DataW.trod_lt m _ _ _ hm
  obtain ⟨i0, rfl, rfl, rfl, w0⟩ := open_int Try.underlying3 (hval 0 3 v0 rfl rfl) h0
  have k1 := h1
  have lt1 : ∀ x ∈ p1, x.block < W.heap.size := by obtain ⟨m, hm⟩ := k1; exact DataW.trod_lt m _ _ _ hm
  obtain ⟨l1, hl1⟩ := acts_of h1 (okWide_slice Try.underlying22 (hval 1 22 v1 rfl rfl))
  have k2 := h2
  have lt2 : ∀ x ∈ p2, x.block < W.heap.size := by obtain ⟨m, hm⟩ := k2; exact DataW.trod_lt m _ _ _ hm
  obtain ⟨l2, hl2⟩ := acts_of h2 (okWide_slice Try.underlying22 (hval 2 22 v2 rfl rfl))
  have k3 := h3
  have lt3 : ∀ x ∈ p3, x.block < W.heap.size := by obtain ⟨m, hm⟩ := k3; exact DataW.trod_lt m _ _ _ hm
  obtain ⟨l3, hl3⟩ := acts_of h3 (okWide_slice Try.underlying22 (hval 3 22 v3 rfl rfl))
  clear hA0 hval0
  refine (spanSides_walk i0 _ l1 _ l2 _ l3 W hl1 hl2 hl3).mono fun e W' ⟨he, bel⟩ => ?_
  subst he
  exact ⟨_, rfl, _, _, _, [], _, [], hW', trodAll_mk1 (shut_bool Try.underlying4 _), (trodAll_cons_mk (shut_int Try.underlying3 w0) (trodAll_cons_mk (Below.trod laidOut' (by kernel_rfl) (of_decide_eq_true (by kernel_rfl)) k1 bel lt1) (trodAll_cons_mk (Below.trod laidOut' (by kernel_rfl) (of_decide_eq_true (by kernel_rfl)) k2 bel lt2) (trodAll_cons_mk (Below.trod laidOut' (by kernel_rfl) (of_decide_eq_true (by kernel_rfl)) k3 bel lt3) trodAll_mk0)))), rfl, bel.frame _, fun h => by cases h⟩
theorem spanSides_holds : Rows.SpanSidesSaid :=
  OpenClaim.holds_of_wide 7 Try.f7 rfl rfl rfl rfl rfl rfl rfl ⟨rfl, rfl, rfl, rfl, rfl⟩ rfl rfl rfl rfl rfl (by kernel_rfl) Try.func7 (by kernel_rfl)
    (of_decide_eq_true (by kernel_rfl)) (by unfold Func.isWrapper; first | (rw [if_pos (by decide +kernel)]; kernel_rfl) | (rw [if_neg (by decide +kernel)]; exact ⟨rfl, rfl⟩))
    (fun os started H enc _ => spanSides_lifted os started H enc)
#print axioms spanSides_holds
end Go.Proofs.Ytahgfggcpmnnaab
