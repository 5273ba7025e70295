/- Boxes of maps at any block; the contract of with. -/
import Derived.Test.YtahgfggcpmnnaaaYu
namespace Go.Proofs.Ytahgfggcpmnnaaa
open Go Go.RowKit Gs

/-- a map lies at block B -/
structure Mb (B : Nat) (p : Option Addr) (size : Int) (W' : World) : Prop where
  c0 : W'.cell? ⟨B, 0, none⟩ = some (.pointer p)
  c1 : W'.cell? ⟨B, 1, none⟩ = some (.int .i64 size)
  f0 : W'.frozen? ⟨B, 0, none⟩ = false
  f1 : W'.frozen? ⟨B, 1, none⟩ = false
  c22 : W'.cell? ⟨B, 22, none⟩ = none
  lt : B < W'.heap.size
section
variable {W W' W2 : World} {p : Option Addr} {size : Int} {B : Nat}
theorem Mb.next (h : Mb B p size W') (hb : Below W'.heap.size W' W2) : Mb B p size W2 :=
  ⟨(hb.cell (p := ⟨B, 0, none⟩) h.lt).trans h.c0, (hb.cell (p := ⟨B, 1, none⟩) h.lt).trans h.c1, (hb.frozen (p := ⟨B, 0, none⟩) h.lt).trans h.f0, (hb.frozen (p := ⟨B, 1, none⟩) h.lt).trans h.f1, (hb.cell (p := ⟨B, 22, none⟩) h.lt).trans h.c22, Nat.lt_of_lt_of_le h.lt hb.size⟩
theorem Mb.drew (h : Mb B p size W') : Mb B p size W'.drew := h.next (Below.refl _ _).drew
theorem Mb.drewN (h : Mb B p size W') (k : Nat) : Mb B p size (W'.drewN k) := h.next (below_drewN (Below.refl _ _) k)
theorem Mb.new (W : World) (p : Option Addr) (size : Int) (Ty : TypeId) : Mb W.heap.size p size (W.alloc (.cells #[.pointer p, .int .i64 size] Ty)) :=
  ⟨World.cell?_alloc_at _ _ _ _ rfl, World.cell?_alloc_at _ _ _ _ rfl, World.frozen?_alloc_at _ _ _ _ rfl, World.frozen?_alloc_at _ _ _ _ rfl, World.cell?_alloc_at _ _ _ _ rfl, by simp⟩
theorem Mb.put (h : Mb B p size W') (q : Option Addr) (s : Int) : Mb B q s ((W'.setCell ⟨B, 0, none⟩ (.pointer q)).setCell ⟨B, 1, none⟩ (.int .i64 s)) :=
  ⟨(World.cell?_setCell_other _ _ _ _ (by intro e; cases e)).trans (World.cell?_setCell_same _ _ _ h.c0), World.cell?_setCell_same _ _ _ ((World.cell?_setCell_other _ _ _ _ (by intro e; cases e)).trans h.c1),
   (World.frozen?_setCell _ _ _ _).trans ((World.frozen?_setCell _ _ _ _).trans h.f0), (World.frozen?_setCell _ _ _ _).trans ((World.frozen?_setCell _ _ _ _).trans h.f1), (World.cell?_setCell_other _ _ _ _ (by intro e; cases e)).trans ((World.cell?_setCell_other _ _ _ _ (by intro e; cases e)).trans h.c22), by rw [World.size_setCell, World.size_setCell]; exact h.lt⟩
/-- a store at another block -/
theorem Mb.other {B2 : Nat} (h : Mb B p size W') (hne : B2 ≠ B) (x y : Value) : Mb B p size ((W'.setCell ⟨B2, 0, none⟩ x).setCell ⟨B2, 1, none⟩ y) := by
  have o : ∀ i j, (⟨B2, i, none⟩ : Addr) ≠ ⟨B, j, none⟩ := by intro i j e; injection e with e; exact hne e
  exact ⟨(World.cell?_setCell_other _ _ _ _ (o _ _)).trans ((World.cell?_setCell_other _ _ _ _ (o _ _)).trans h.c0), (World.cell?_setCell_other _ _ _ _ (o _ _)).trans ((World.cell?_setCell_other _ _ _ _ (o _ _)).trans h.c1),
    (World.frozen?_setCell _ _ _ _).trans ((World.frozen?_setCell _ _ _ _).trans h.f0), (World.frozen?_setCell _ _ _ _).trans ((World.frozen?_setCell _ _ _ _).trans h.f1), (World.cell?_setCell_other _ _ _ _ (o _ _)).trans ((World.cell?_setCell_other _ _ _ _ (o _ _)).trans h.c22), by rw [World.size_setCell, World.size_setCell]; exact h.lt⟩
theorem Mb.tr {f : Int → Int} {a b : Int} {n : Nat} {q : Option Addr} (h : Mb B p size W') (ht : Tr f a b n W' q) (x y : Value) : Tr f a b n ((W'.setCell ⟨B, 0, none⟩ x).setCell ⟨B, 1, none⟩ y) q :=
  (ht.set h.c22 x).set ((World.cell?_setCell_other _ _ _ _ (by intro e; cases e)).trans h.c22) y
end
theorem Mb.upd {f g : Int → Int} {size er s e sz : Int} {B : Nat} {p q : Option Addr} {W' : World} (h : Mb B p sz W') (hu : Upd f g size er q s e W') (x y : Value) : Upd f g size er q s e ((W'.setCell ⟨B, 0, none⟩ x).setCell ⟨B, 1, none⟩ y) := by
  rcases hu with hu | hu | ⟨h1, h2, h3, h4⟩
  · exact .inl hu
  · exact .inr (.inl hu)
  · exact .inr (.inr ⟨h1, h2, h3, h4.lo, h4.ctx, h.tr h4.tr x y⟩)
/-- a map's box, and that of a result behind it -/
theorem boxes2 (W : World) (p : Option Addr) (size : Int) (Ty : TypeId) : ∃ w0, w0 = (W.alloc (.cells #[.pointer p, .int .i64 size] Ty)).alloc (.cells #[.pointer none, .int .i64 0] Ty) ∧ Mb W.heap.size p size w0 ∧ Mb (W.heap.size + 1) none 0 w0 ∧ Below W.heap.size W w0 := by
  have h1 := Mb.new W p size Ty
  have h2 := Mb.new (W.alloc (.cells #[.pointer p, .int .i64 size] Ty)) none 0 Ty
  rw [show (W.alloc (.cells #[.pointer p, .int .i64 size] Ty)).heap.size = W.heap.size + 1 by simp] at h2
  exact ⟨_, rfl, h1.next ((Below.refl _ _).alloc (Nat.le_refl _) _), h2, ((Below.refl _ _).alloc (Nat.le_refl _) _).alloc (by simp) _⟩
theorem below_put {W W' : World} {B : Nat} (h : Below W.heap.size W W') (hB : W.heap.size ≤ B) (x y : Value) : Below W.heap.size W ((W'.setCell ⟨B, 0, none⟩ x).setCell ⟨B, 1, none⟩ y) := (h.setCell hB x).setCell hB y
set_option maxHeartbeats 1000000 in
theorem with_any {f g : Int → Int} {size : Int} {n : Nat} {W : World} {p r : Option Addr} (h : Tr g 0 size n W r) (hx : Ctx g 0 size) (hs : 1 ≤ size) (_hn : n ≤ 90000) :
    Calls Try.prog 67 #[.agg #[.pointer p, .int .i64 size], .pointer r] W fun e w' => ∃ q s e2, e = .returned (.tuple #[.agg #[.pointer q, .int .i64 s], .int .i64 e2]) ∧ Hid (Upd f g size 0 q s e2 w') ∧ Below W.heap.size W w' := by
  obtain ⟨w0, HW, hm, hr, hb⟩ := boxes2 W p size 27
  obtain ⟨t, t1, t2, t3⟩ := h
  have HLN : Hid (Calls Try.prog 71 #[.pointer r] w0 fun e w' => e = .returned (.int .i64 t.sz) ∧ w0 = w') := len_any t _ w0 (IsT.below hb t1)
  have HM := Lib.hid hm; have HR := Lib.hid hr; have HB := Lib.hid hb; have HW' := Lib.hid HW
  by_cases hl : 4096 < t.sz
  · have HU : Hid (∀ W', Upd f g size 0 none 0 5 W') := fun W' => .inr (.inl ⟨rfl, rfl, rfl, rfl, t.L, t2, by rw [← T.sz_eq]; exact hl⟩)
    have h1 : (t.sz : Int) > 4096 := by omega
    clear hm hr hb HW t1 t2 t3 hx hs _hn
    generalize t.sz = SZ at *
    have d0 := HR.out.c0; have d1 := HR.out.c1; have d2 := HR.out.f0; have d3 := HR.out.f1
    obtain ⟨u0, u1⟩ : _ ∧ _ := ⟨(HR.out.put none 0).c0, (HR.out.put none 0).c1⟩
    go_enter Try.func67, Try.ntmps67
    go_wp2_with fail
    rw [← HW'.out]
    refine HLN.out.mono ?_
    rintro e w1 ⟨rfl, rfl⟩
    go_wp2_with fail
    refine bodyPost_ret (v := .tuple #[.agg #[.pointer none, .int .i64 0], .int .i64 5]) (by simp [results, Try.results67, go_sem, u0, u1]) rfl ?_
    have HBF := below_put HB.out (B := W.heap.size + 1) (by omega) (.pointer none) (.int .i64 0)
    exact ⟨none, 0, 5, rfl, HU.out _, by first | exact HB.out | exact HBF⟩
  · have HT : Hid (Tr g 0 size 4096 W r) := ⟨t, t1, t2, by omega⟩
    have HX : Hid (Ctx g 0 size ∧ 1 ≤ size) := ⟨hx, hs⟩
    have h1 : ¬ (t.sz : Int) > 4096 := by omega
    clear hm hr hb HW t1 t2 t3 hx hs _hn
    generalize t.sz = SZ at *
    have d0 := HR.out.c0; have d1 := HR.out.c1; have d2 := HR.out.f0; have d3 := HR.out.f1
    have k0 := HM.out.c0; have k1 := HM.out.c1
    obtain ⟨u0, u1⟩ : _ ∧ _ := ⟨(HR.out.put r size).c0, (HR.out.put r size).c1⟩
    go_enter Try.func67, Try.ntmps67
    go_wp2_with fail
    rw [← HW'.out]
    refine HLN.out.mono ?_
    rintro e w1 ⟨rfl, rfl⟩
    go_wp2_with fail
    refine bodyPost_ret (v := .tuple #[.agg #[.pointer r, .int .i64 size], .int .i64 0]) (by simp [results, Try.results67, go_sem, u0, u1]) rfl ?_
    have HBF := below_put HB.out (B := W.heap.size + 1) (by omega) (.pointer r) (.int .i64 size)
    exact ⟨r, size, 0, rfl, .inr (.inr ⟨rfl, rfl, rfl, HX.out.2, HX.out.1, HT.out.below HBF⟩), HBF⟩
end Go.Proofs.Ytahgfggcpmnnaaa
