/- The contract of split. -/
import Derived.Test.YtahgfggcpmnnaaaYj
import Derived.Test.YtahgfggcpmnnaaaYk
namespace Go.Proofs.Ytahgfggcpmnnaaa
open Go Go.RowKit Gs

/-- two trees with the runs from a to m, and from m to b -/
def SplitOf (f : Int → Int) (W : World) (a m b : Int) (n : Nat) (e : Ending) (w' : World) : Prop :=
  ∃ x y t1 t2, e = .returned (.tuple #[.pointer x, .pointer y]) ∧ Hid (IsT w' t1 (.pointer x)) ∧ Hid (IsT w' t2 (.pointer y)) ∧ Hid (Gs.Can f a t1.L m ∧ Gs.Can f m t2.L b ∧ t1.sz ≤ n ∧ t2.sz ≤ n) ∧ Below W.heap.size W w'
theorem bd_of {f : Int → Int} {a b : Int} {l : List R} (h : Fits f a l b) (c : Ctx f a b) (hl : l.length ≤ 100000) : Bd l := ⟨hl, h.bd c⟩
theorem two_boxes (W : World) (lo hi tag at' : Int) (Ty : TypeId) (X Y : Nat) (hXY : X = W.heap.size ∧ Y = W.heap.size + 1 ∨ X = W.heap.size + 1 ∧ Y = W.heap.size) :
    ∃ wd, wd = ((W.alloc (.cells #[.int .i64 lo, .int .i64 hi, .int .i64 tag] Ty)).alloc (.cells #[.int .i64 lo, .int .i64 hi, .int .i64 tag] Ty)).drew ∧
      (wd.cell? ⟨X, 1, none⟩ = some (.int .i64 hi) ∧ wd.frozen? ⟨X, 1, none⟩ = false ∧ wd.cell? ⟨Y, 0, none⟩ = some (.int .i64 lo) ∧ wd.frozen? ⟨Y, 0, none⟩ = false ∧ (wd.setCell ⟨X, 1, none⟩ (.int .i64 at')).cell? ⟨Y, 0, none⟩ = some (.int .i64 lo) ∧ (wd.setCell ⟨X, 1, none⟩ (.int .i64 at')).frozen? ⟨Y, 0, none⟩ = false) ∧
      (Below W.heap.size W ((wd.setCell ⟨X, 1, none⟩ (.int .i64 at')).setCell ⟨Y, 0, none⟩ (.int .i64 at')) ∧ ∀ W', Below ((wd.setCell ⟨X, 1, none⟩ (.int .i64 at')).setCell ⟨Y, 0, none⟩ (.int .i64 at')).heap.size ((wd.setCell ⟨X, 1, none⟩ (.int .i64 at')).setCell ⟨Y, 0, none⟩ (.int .i64 at')) W' →
        (W'.cell? ⟨X, 0, none⟩ = some (.int .i64 lo) ∧ W'.cell? ⟨X, 1, none⟩ = some (.int .i64 at') ∧ W'.cell? ⟨X, 2, none⟩ = some (.int .i64 tag)) ∧ (W'.cell? ⟨Y, 0, none⟩ = some (.int .i64 at') ∧ W'.cell? ⟨Y, 1, none⟩ = some (.int .i64 hi) ∧ W'.cell? ⟨Y, 2, none⟩ = some (.int .i64 tag))) := by
  obtain ⟨A, hA⟩ : ∃ A : Obj, A = .cells #[.int .i64 lo, .int .i64 hi, .int .i64 tag] Ty := ⟨_, rfl⟩
  have hb1 : Below W.heap.size W (W.alloc A) := (Below.refl _ _).alloc (Nat.le_refl _) _
  have hb2 : Below (W.alloc A).heap.size (W.alloc A) ((W.alloc A).alloc A) := (Below.refl _ _).alloc (Nat.le_refl _) _
  have s1 : (W.alloc A).heap.size = W.heap.size + 1 := by simp
  have s2 : (((W.alloc A).alloc A).drew).heap.size = W.heap.size + 1 + 1 := by
    show ((W.alloc A).alloc A).heap.size = _; simp
  have key : ∀ Z, Z = W.heap.size ∨ Z = W.heap.size + 1 → (((W.alloc A).alloc A).drew.cell? ⟨Z, 0, none⟩ = some (.int .i64 lo) ∧ ((W.alloc A).alloc A).drew.cell? ⟨Z, 1, none⟩ = some (.int .i64 hi) ∧ ((W.alloc A).alloc A).drew.cell? ⟨Z, 2, none⟩ = some (.int .i64 tag)) ∧ ∀ i, ((W.alloc A).alloc A).drew.frozen? ⟨Z, i, none⟩ = false := by
    rintro Z (rfl | rfl)
    · have hc : ∀ i v, (W.alloc A).cell? ⟨W.heap.size, i, none⟩ = some v → ((W.alloc A).alloc A).drew.cell? ⟨W.heap.size, i, none⟩ = some v := fun i v h => (World.cell?_alloc_past _ _ _ (by simp)).trans h
      refine ⟨⟨hc _ _ ?_, hc _ _ ?_, hc _ _ ?_⟩, fun i => (hb2.frozen (p := ⟨W.heap.size, i, none⟩) (by simp)).trans (by rw [hA]; exact World.frozen?_alloc_at _ _ _ _ rfl)⟩ <;> rw [hA] <;> exact World.cell?_alloc_at _ _ _ _ rfl
    · have e : W.heap.size + 1 = (W.alloc A).heap.size := by simp
      have hc : ∀ B : Obj, B = A → ((W.alloc A).alloc B).drew = ((W.alloc A).alloc A).drew := fun B h => by rw [h]
      rw [← hc _ hA.symm]
      exact ⟨⟨World.cell?_alloc_at _ _ _ _ e, World.cell?_alloc_at _ _ _ _ e, World.cell?_alloc_at _ _ _ _ e⟩, fun i => World.frozen?_alloc_at _ _ _ _ e⟩
  have hX : X = W.heap.size ∨ X = W.heap.size + 1 := by omega
  have hY : Y = W.heap.size ∨ Y = W.heap.size + 1 := by omega
  obtain ⟨⟨x0, x1, x2⟩, xf⟩ := key X hX
  obtain ⟨⟨y0, y1, y2⟩, yf⟩ := key Y hY
  have hne : X ≠ Y := by omega
  have hbd : Below W.heap.size W ((W.alloc A).alloc A).drew := (hb1.trans (hb2.mono (by simp))).drew
  rw [← hA]
  generalize ((W.alloc A).alloc A).drew = wd at *
  have o1 : ∀ i j, (⟨Y, i, none⟩ : Addr) ≠ ⟨X, j, none⟩ := by intro i j e; injection e with e; exact hne e.symm
  have o2 : ∀ i j, (⟨X, i, none⟩ : Addr) ≠ ⟨Y, j, none⟩ := by intro i j e; injection e with e; exact hne e
  have o3 : ∀ (Z i j : Nat), i ≠ j → (⟨Z, i, none⟩ : Addr) ≠ ⟨Z, j, none⟩ := by intro Z i j h e; injection e with _ e; exact h e
  refine ⟨wd, rfl, ⟨x1, xf 1, y0, yf 0, (World.cell?_setCell_other _ _ _ _ (o2 _ _)).trans y0, ?_⟩, (hbd.setCell (by show W.heap.size ≤ X; omega) _).setCell (by show W.heap.size ≤ Y; omega) _, fun W' h => ?_⟩
  · exact (World.frozen?_setCell _ _ _ _).trans (yf 0)
  · have hl : ∀ Z, Z = X ∨ Z = Y → Z < ((wd.setCell ⟨X, 1, none⟩ (.int .i64 at')).setCell ⟨Y, 0, none⟩ (.int .i64 at')).heap.size := by
      intro Z hZ; rw [World.size_setCell, World.size_setCell, s2]; omega
    have lX := hl X (.inl rfl)
    have lY := hl Y (.inr rfl)
    refine ⟨⟨(h.cell (p := ⟨X, 0, none⟩) lX).trans ?_, (h.cell (p := ⟨X, 1, none⟩) lX).trans ?_, (h.cell (p := ⟨X, 2, none⟩) lX).trans ?_⟩, (h.cell (p := ⟨Y, 0, none⟩) lY).trans ?_, (h.cell (p := ⟨Y, 1, none⟩) lY).trans ?_, (h.cell (p := ⟨Y, 2, none⟩) lY).trans ?_⟩
    · exact (World.cell?_setCell_other _ _ _ _ (o1 _ _)).trans ((World.cell?_setCell_other _ _ _ _ (o3 _ _ _ (by decide))).trans x0)
    · exact (World.cell?_setCell_other _ _ _ _ (o1 _ _)).trans (World.cell?_setCell_same _ _ _ x1)
    · exact (World.cell?_setCell_other _ _ _ _ (o1 _ _)).trans ((World.cell?_setCell_other _ _ _ _ (o3 _ _ _ (by decide))).trans x2)
    · exact World.cell?_setCell_same _ _ _ ((World.cell?_setCell_other _ _ _ _ (o2 _ _)).trans y0)
    · exact (World.cell?_setCell_other _ _ _ _ (o3 _ _ _ (by decide))).trans ((World.cell?_setCell_other _ _ _ _ (o2 _ _)).trans y1)
    · exact (World.cell?_setCell_other _ _ _ _ (o3 _ _ _ (by decide))).trans ((World.cell?_setCell_other _ _ _ _ (o2 _ _)).trans y2)

set_option maxHeartbeats 1000000 in
theorem split_lo (f : Int → Int) (c d : T) (lo hi tag a b at' : Int) (p : Option Addr) (W : World) (h : IsT W (.node c ⟨lo, hi, tag⟩ d) (.pointer p)) (hc : Gs.Can f a (T.node c ⟨lo, hi, tag⟩ d).L b) (hx : Ctx f a b) (hz : (T.node c ⟨lo, hi, tag⟩ d).sz ≤ 50000) (g : at' ≤ lo)
    (ih : ∀ q w, IsT w c (.pointer q) → Calls Try.prog 75 #[.pointer q, .int .i64 at'] w (SplitOf f w a (max a (min at' lo)) lo c.sz)) :
    Calls Try.prog 75 #[.pointer p, .int .i64 at'] W (SplitOf f W a (max a (min at' b)) b (T.node c ⟨lo, hi, tag⟩ d).sz) := by
  obtain ⟨m1, m2, m3, m4, m5, m6⟩ := hc.mid
  simp only at m1 m2 m3 m4 m5 m6
  have q1 := m1.le; have q2 := m2.le
  rw [show max a (min at' b) = max a (min at' lo) from by omega]
  obtain ⟨q3, q4⟩ : a ≤ max a (min at' lo) ∧ max a (min at' lo) ≤ lo := by omega
  generalize max a (min at' lo) = m at *
  simp only [T.sz] at hz ⊢
  have hlc := c.sz_eq; have hld := d.sz_eq
  obtain ⟨b0, u, v, rfl, hlt, h1, h2, hcs⟩ := h.open
  have HS : Hid (Calls Try.prog 75 #[.pointer u, .int .i64 at'] W (SplitOf f W a m lo c.sz)) := ih _ _ h1
  have HO := Lib.hid h2
  obtain ⟨d0, d1, d2, d3, d4⟩ := hcs W (Below.refl _ _)
  have HCS := Lib.hid hcs
  have HMK : Hid (∀ t2 : T, Gs.Can f m t2.L lo → Gs.Can f m (t2.L ++ ⟨lo, hi, tag⟩ :: d.L) b) := fun _ h => Can.make (r := ⟨lo, hi, tag⟩) h m2 m3 m4 (fun h => m5 (by have h : m < lo := h; omega)) m6
  have HBD : Hid (∀ t2 : T, Gs.Can f m t2.L lo → t2.sz ≤ c.sz → Bd (t2.L ++ ⟨lo, hi, tag⟩ :: d.L)) := fun t h hs => bd_of (HMK.out t h).1 (hx.sub (by omega) (by omega)) (by have := t.sz_eq; simp; omega)
  have HQ := Lib.hid (And.intro hlc hld)
  have HM1 := Lib.hid m1
  have HM2 := Lib.hid m2
  clear ih h hc hx m1 m2 m3 m4 m5 m6 h1 h2 hcs hlc hld
  have e1 := g
  go_enter Try.func75, Try.ntmps75
  go_wp2_with fail
  refine HS.out.mono ?_
  rintro e w1 ⟨x, y, t1, t2, rfl, HX, HY, HT, hb⟩
  have HB := Lib.hid hb
  have HALL : Hid (∀ W', Below w1.heap.size w1 W' → (W'.cell? ⟨b0, 0, none⟩ = some (.pointer u) ∧ W'.cell? ⟨b0, 1, none⟩ = some (.int .i64 lo) ∧ W'.cell? ⟨b0, 2, none⟩ = some (.int .i64 hi) ∧ W'.cell? ⟨b0, 3, none⟩ = some (.int .i64 tag) ∧ W'.cell? ⟨b0, 4, none⟩ = some (.pointer v))) := fun W' h => HCS.out W' (HB.out.trans (h.mono HB.out.size))
  have HJ : Hid (∀ W', Below w1.heap.size w1 W' → Calls Try.prog 78 #[.pointer y, .agg #[.int .i64 lo, .int .i64 hi, .int .i64 tag], .pointer v] W' fun e w' => ∃ g t, e = .returned (.pointer (some ⟨g, 0, none⟩)) ∧ Hid (IsT w' t (.pointer (some ⟨g, 0, none⟩))) ∧ Hid (t.L = t2.L ++ ⟨lo, hi, tag⟩ :: d.L) ∧ Below w1.heap.size w1 w') := fun W' h =>
    (join_any t2 d lo hi tag _ _ W' (IsT.below h HY.out) (IsT.below h (IsT.below HB.out HO.out)) (HBD.out t2 HT.out.2.1 HT.out.2.2.2)).mono fun e w' ⟨g, t, he, ht, hL, hB⟩ => ⟨g, t, he, ht, hL, h.trans (hB.mono h.size)⟩
  clear hb d0 d1 d2 d3 d4
  have hs : Below w1.heap.size w1 w1 := Below.refl _ _
  have hs2 := hs.drew
  have hcl := HALL.out _ hs2
  have hc0 := HALL.out _ hs
  go_wp2_with fail
  go_region_held3 (fun W' : World => (W'.cell? ⟨b0, 0, none⟩ = some (.pointer u) ∧ W'.cell? ⟨b0, 1, none⟩ = some (.int .i64 lo) ∧ W'.cell? ⟨b0, 2, none⟩ = some (.int .i64 hi) ∧ W'.cell? ⟨b0, 3, none⟩ = some (.int .i64 tag) ∧ W'.cell? ⟨b0, 4, none⟩ = some (.pointer v)) ∧ Below w1.heap.size w1 W') (first | (refine And.intro ?_ ?_ <;> assumption) | fail) (first
    | (go_at_call 78; with_reducible refine (HJ.out _ ?h).mono ?_; (case h => assumption); rintro e w' ⟨g, t, rfl, hgt, hgl, hs'⟩; have hc' := HALL.out _ hs') | fail)
  all_goals
    have HB2 := Lib.hid hs'
    clear hs hs2 hcl hc0 hs' hc'
    go_wp2_with fail
    refine bodyPost_ret (v := .tuple #[.pointer x, .pointer (some ⟨g, 0, none⟩)]) (by simp [results, Try.results75, go_sem]) rfl ?_
    refine ⟨x, _, t1, t, rfl, IsT.below HB2.out HX.out, hgt, ⟨HT.out.1, by rw [hgl.out]; exact HMK.out t2 HT.out.2.1, by have := HT.out.2.2.1; omega, ?_⟩, HB.out.trans (HB2.out.mono HB.out.size)⟩
    have h1 := HT.out.2.2.2; have h2 := HQ.out.2; have h3 := t2.sz_eq; rw [T.sz_eq, hgl.out]; simp; omega
set_option maxHeartbeats 1000000 in
theorem split_hi (f : Int → Int) (c d : T) (lo hi tag a b at' : Int) (p : Option Addr) (W : World) (h : IsT W (.node c ⟨lo, hi, tag⟩ d) (.pointer p)) (hc : Gs.Can f a (T.node c ⟨lo, hi, tag⟩ d).L b) (hx : Ctx f a b) (hz : (T.node c ⟨lo, hi, tag⟩ d).sz ≤ 50000) (g : hi ≤ at')
    (ih : ∀ q w, IsT w d (.pointer q) → Calls Try.prog 75 #[.pointer q, .int .i64 at'] w (SplitOf f w hi (max hi (min at' b)) b d.sz)) :
    Calls Try.prog 75 #[.pointer p, .int .i64 at'] W (SplitOf f W a (max a (min at' b)) b (T.node c ⟨lo, hi, tag⟩ d).sz) := by
  obtain ⟨m1, m2, m3, m4, m5, m6⟩ := hc.mid
  simp only at m1 m2 m3 m4 m5 m6
  have HE1 : Hid (¬ at' ≤ lo) := by show ¬ _; omega
  have q1 := m1.le; have q2 := m2.le
  rw [show max a (min at' b) = max hi (min at' b) from by omega]
  obtain ⟨q3, q4⟩ : hi ≤ max hi (min at' b) ∧ max hi (min at' b) ≤ b := by omega
  generalize max hi (min at' b) = m at *
  simp only [T.sz] at hz ⊢
  have hlc := c.sz_eq; have hld := d.sz_eq
  obtain ⟨b0, u, v, rfl, hlt, h1, h2, hcs⟩ := h.open
  have HS : Hid (Calls Try.prog 75 #[.pointer v, .int .i64 at'] W (SplitOf f W hi m b d.sz)) := ih _ _ h2
  have HO := Lib.hid h1
  obtain ⟨d0, d1, d2, d3, d4⟩ := hcs W (Below.refl _ _)
  have HCS := Lib.hid hcs
  have HMK : Hid (∀ t1 : T, Gs.Can f hi t1.L m → Gs.Can f a (c.L ++ ⟨lo, hi, tag⟩ :: t1.L) m) := fun _ h => Can.make (r := ⟨lo, hi, tag⟩) m1 h m3 m4 m5 (fun h => m6 (by have h : hi < m := h; omega))
  have HBD : Hid (∀ t1 : T, Gs.Can f hi t1.L m → t1.sz ≤ d.sz → Bd (c.L ++ ⟨lo, hi, tag⟩ :: t1.L)) := fun t h hs => bd_of (HMK.out t h).1 (hx.sub (by omega) (by omega)) (by have := t.sz_eq; simp; omega)
  have HQ := Lib.hid (And.intro hlc hld)
  have HM1 := Lib.hid m1
  have HM2 := Lib.hid m2
  clear ih h hc hx m1 m2 m3 m4 m5 m6 h1 h2 hcs hlc hld
  have e1 : ¬ at' ≤ lo := HE1.out
  have e2 : at' ≥ hi := g
  go_enter Try.func75, Try.ntmps75
  go_wp2_with fail
  refine HS.out.mono ?_
  rintro e w1 ⟨x, y, t1, t2, rfl, HX, HY, HT, hb⟩
  have HB := Lib.hid hb
  have HALL : Hid (∀ W', Below w1.heap.size w1 W' → (W'.cell? ⟨b0, 0, none⟩ = some (.pointer u) ∧ W'.cell? ⟨b0, 1, none⟩ = some (.int .i64 lo) ∧ W'.cell? ⟨b0, 2, none⟩ = some (.int .i64 hi) ∧ W'.cell? ⟨b0, 3, none⟩ = some (.int .i64 tag) ∧ W'.cell? ⟨b0, 4, none⟩ = some (.pointer v))) := fun W' h => HCS.out W' (HB.out.trans (h.mono HB.out.size))
  have HJ : Hid (∀ W', Below w1.heap.size w1 W' → Calls Try.prog 78 #[.pointer u, .agg #[.int .i64 lo, .int .i64 hi, .int .i64 tag], .pointer x] W' fun e w' => ∃ g t, e = .returned (.pointer (some ⟨g, 0, none⟩)) ∧ Hid (IsT w' t (.pointer (some ⟨g, 0, none⟩))) ∧ Hid (t.L = c.L ++ ⟨lo, hi, tag⟩ :: t1.L) ∧ Below w1.heap.size w1 w') := fun W' h =>
    (join_any c t1 lo hi tag _ _ W' (IsT.below h (IsT.below HB.out HO.out)) (IsT.below h HX.out) (HBD.out t1 HT.out.1 HT.out.2.2.1)).mono fun e w' ⟨g, t, he, ht, hL, hB⟩ => ⟨g, t, he, ht, hL, h.trans (hB.mono h.size)⟩
  clear hb d0 d1 d2 d3 d4
  have hs : Below w1.heap.size w1 w1 := Below.refl _ _
  have hs2 := hs.drew
  have hcl := HALL.out _ hs2
  have hc0 := HALL.out _ hs
  go_wp2_with fail
  go_region_held3 (fun W' : World => (W'.cell? ⟨b0, 0, none⟩ = some (.pointer u) ∧ W'.cell? ⟨b0, 1, none⟩ = some (.int .i64 lo) ∧ W'.cell? ⟨b0, 2, none⟩ = some (.int .i64 hi) ∧ W'.cell? ⟨b0, 3, none⟩ = some (.int .i64 tag) ∧ W'.cell? ⟨b0, 4, none⟩ = some (.pointer v)) ∧ Below w1.heap.size w1 W') (first | (refine And.intro ?_ ?_ <;> assumption) | fail) (first
    | (go_at_call 78; with_reducible refine (HJ.out _ ?h).mono ?_; (case h => assumption); rintro e w' ⟨g, t, rfl, hgt, hgl, hs'⟩; have hc' := HALL.out _ hs') | fail)
  all_goals
    have HB2 := Lib.hid hs'
    clear hs hs2 hcl hc0 hs' hc'
    go_wp2_with fail
    refine bodyPost_ret (v := .tuple #[.pointer (some ⟨g, 0, none⟩), .pointer y]) (by simp [results, Try.results75, go_sem]) rfl ?_
    refine ⟨_, y, t, t2, rfl, hgt, IsT.below HB2.out HY.out, ⟨by rw [hgl.out]; exact HMK.out t1 HT.out.1, HT.out.2.1, ?_, by have := HT.out.2.2.2; omega⟩, HB.out.trans (HB2.out.mono HB.out.size)⟩
    have h1 := HT.out.2.2.1; have h2 := HQ.out.1; have h3 := t1.sz_eq; rw [T.sz_eq, hgl.out]; simp; omega
set_option maxHeartbeats 1000000 in
theorem split_mid (f : Int → Int) (c d : T) (lo hi tag a b at' : Int) (p : Option Addr) (W : World) (h : IsT W (.node c ⟨lo, hi, tag⟩ d) (.pointer p)) (hc : Gs.Can f a (T.node c ⟨lo, hi, tag⟩ d).L b) (hx : Ctx f a b) (hz : (T.node c ⟨lo, hi, tag⟩ d).sz ≤ 50000) (g1 : lo < at') (g2 : at' < hi) :
    Calls Try.prog 75 #[.pointer p, .int .i64 at'] W (SplitOf f W a (max a (min at' b)) b (T.node c ⟨lo, hi, tag⟩ d).sz) := by
  obtain ⟨m1, m2, m3, m4, m5, m6⟩ := hc.mid
  simp only at m1 m2 m3 m4 m5 m6
  have q1 := m1.le; have q2 := m2.le
  rw [show max a (min at' b) = at' from by omega]
  simp only [T.sz] at hz ⊢
  have hlc := c.sz_eq; have hld := d.sz_eq
  obtain ⟨b0, u, v, rfl, hlt, h1, h2, hcs⟩ := h.open
  obtain ⟨d0, d1, d2, d3, d4⟩ := hcs W (Below.refl _ _)
  have HC1 : Hid (Gs.Can f a (c.L ++ ⟨lo, at', tag⟩ :: T.nil.L) at') := Gs.Can.make (r := ⟨lo, at', tag⟩) m1 (Gs.Can.nil _ _) g1 (fun p p1 p2 => m4 p p1 (by show p < hi; have : p < at' := p2; omega)) m5 (fun h => absurd h (Int.lt_irrefl _))
  have HC2 : Hid (Gs.Can f at' (T.nil.L ++ ⟨at', hi, tag⟩ :: d.L) b) := Gs.Can.make (r := ⟨at', hi, tag⟩) (Gs.Can.nil _ _) m2 g2 (fun p p1 p2 => m4 p (by have : at' ≤ p := p1; omega) p2) (fun h => absurd h (Int.lt_irrefl _)) m6
  have HD1 : Hid (Bd (c.L ++ ⟨lo, at', tag⟩ :: T.nil.L)) := bd_of HC1.out.1 (hx.sub (by omega) (by omega)) (by simp [T.L]; omega)
  have HD2 : Hid (Bd (T.nil.L ++ ⟨at', hi, tag⟩ :: d.L)) := bd_of HC2.out.1 (hx.sub (by omega) (by omega)) (by simp [T.L]; omega)
  have HCS := Lib.hid hcs
  have HU := Lib.hid h1
  have HV := Lib.hid h2
  have HQ := Lib.hid (And.intro hlc hld)
  have HLT := Lib.hid hlt
  clear h hc hx m1 m2 m3 m4 m5 m6 h1 h2 hcs hlc hld
  have e1 : ¬ at' ≤ lo := by omega
  have e2 : ¬ at' ≥ hi := by omega
  go_enter Try.func75, Try.ntmps75
  go_wp2_with fail
  go_region
  · obtain ⟨wd, HWD, hcells, hput⟩ := two_boxes W lo hi tag at' 64 W.heap.size (W.heap.size + 1) (.inl ⟨rfl, rfl⟩)
    rw [← HWD]
    have HWD' := Lib.hid HWD
    obtain ⟨k0, k1, k2, k3, k4, k5⟩ := hcells
    have HPUT := Lib.hid hput
    clear HWD hput d0 d1 d2 d3 d4
    go_wp2_with fail
    obtain ⟨w1, HW1⟩ : ∃ w1, w1 = (wd.setCell ⟨W.heap.size, 1, none⟩ (.int .i64 at')).setCell ⟨W.heap.size + 1, 0, none⟩ (.int .i64 at') := ⟨_, rfl⟩
    rw [← HW1] at HPUT
    rw [← HW1]
    clear HW1 k0 k1 k2 k3 k4 k5
    have HB : Hid (Below W.heap.size W w1) := HPUT.out.1
    have HALL : Hid (∀ W', Below w1.heap.size w1 W' → ((W'.cell? ⟨W.heap.size, 0, none⟩ = some (.int .i64 lo) ∧ W'.cell? ⟨W.heap.size, 1, none⟩ = some (.int .i64 at') ∧ W'.cell? ⟨W.heap.size, 2, none⟩ = some (.int .i64 tag)) ∧ (W'.cell? ⟨W.heap.size + 1, 0, none⟩ = some (.int .i64 at') ∧ W'.cell? ⟨W.heap.size + 1, 1, none⟩ = some (.int .i64 hi) ∧ W'.cell? ⟨W.heap.size + 1, 2, none⟩ = some (.int .i64 tag)) ∧ (W'.cell? ⟨b0, 0, none⟩ = some (.pointer u) ∧ W'.cell? ⟨b0, 1, none⟩ = some (.int .i64 lo) ∧ W'.cell? ⟨b0, 2, none⟩ = some (.int .i64 hi) ∧ W'.cell? ⟨b0, 3, none⟩ = some (.int .i64 tag) ∧ W'.cell? ⟨b0, 4, none⟩ = some (.pointer v)))) := fun W' h => by
      obtain ⟨p1, p2⟩ := HPUT.out.2 W' h
      exact ⟨p1, p2, HCS.out W' (HB.out.trans (h.mono HB.out.size))⟩
    have HJ1 : Hid (∀ W', Below w1.heap.size w1 W' → Calls Try.prog 78 #[.pointer u, .agg #[.int .i64 lo, .int .i64 at', .int .i64 tag], .pointer none] W' fun e w' => ∃ g t, e = .returned (.pointer (some ⟨g, 0, none⟩)) ∧ Hid (IsT w' t (.pointer (some ⟨g, 0, none⟩))) ∧ Hid (t.L = c.L ++ ⟨lo, at', tag⟩ :: T.nil.L) ∧ Below w1.heap.size w1 w') := fun W' h =>
      (join_any c .nil lo at' tag _ _ W' (IsT.below h (IsT.below HB.out HU.out)) rfl HD1.out).mono fun e w' ⟨g, t, he, ht, hL, hB⟩ => ⟨g, t, he, ht, hL, h.trans (hB.mono h.size)⟩
    have HJ2 : Hid (∀ W', Below w1.heap.size w1 W' → Calls Try.prog 78 #[.pointer none, .agg #[.int .i64 at', .int .i64 hi, .int .i64 tag], .pointer v] W' fun e w' => ∃ g t, e = .returned (.pointer (some ⟨g, 0, none⟩)) ∧ Hid (IsT w' t (.pointer (some ⟨g, 0, none⟩))) ∧ Hid (t.L = T.nil.L ++ ⟨at', hi, tag⟩ :: d.L) ∧ Hid (Below W'.heap.size W' w') ∧ Below w1.heap.size w1 w') := fun W' h =>
      (join_any .nil d at' hi tag _ _ W' rfl (IsT.below h (IsT.below HB.out HV.out)) HD2.out).mono fun e w' ⟨g, t, he, ht, hL, hB⟩ => ⟨g, t, he, ht, hL, hB, h.trans (hB.mono h.size)⟩
    have hs : Below w1.heap.size w1 w1 := Below.refl _ _
    have hs2 := hs.drew
    have hcl := HALL.out _ hs2
    have hc0 := HALL.out _ hs
    go_region_held3 (fun W' : World => ((W'.cell? ⟨W.heap.size, 0, none⟩ = some (.int .i64 lo) ∧ W'.cell? ⟨W.heap.size, 1, none⟩ = some (.int .i64 at') ∧ W'.cell? ⟨W.heap.size, 2, none⟩ = some (.int .i64 tag)) ∧ (W'.cell? ⟨W.heap.size + 1, 0, none⟩ = some (.int .i64 at') ∧ W'.cell? ⟨W.heap.size + 1, 1, none⟩ = some (.int .i64 hi) ∧ W'.cell? ⟨W.heap.size + 1, 2, none⟩ = some (.int .i64 tag)) ∧ (W'.cell? ⟨b0, 0, none⟩ = some (.pointer u) ∧ W'.cell? ⟨b0, 1, none⟩ = some (.int .i64 lo) ∧ W'.cell? ⟨b0, 2, none⟩ = some (.int .i64 hi) ∧ W'.cell? ⟨b0, 3, none⟩ = some (.int .i64 tag) ∧ W'.cell? ⟨b0, 4, none⟩ = some (.pointer v))) ∧ Below w1.heap.size w1 W') (first | (refine And.intro ?_ ?_ <;> assumption) | fail) (first
      | (go_at_call 78; with_reducible refine (HJ1.out _ ?h).mono ?_; (case h => assumption); rintro e w' ⟨g1, t1, rfl, hg1, hl1, hs1'⟩; have hc1' := HALL.out _ hs1')
      | (go_at_call 78; with_reducible refine (HJ2.out _ ?h).mono ?_; (case h => assumption); rintro e w' ⟨g2, t2, rfl, hg2, hl2, hb2, hs2'⟩; have hc2' := HALL.out _ hs2') | fail)
    all_goals
      have HB2 := Lib.hid hs2'
      clear hs hs2 hcl hc0 hs1' hs2' hc1' hc2'
      go_wp2_with fail
      refine bodyPost_ret (v := .tuple #[.pointer (some ⟨g1, 0, none⟩), .pointer (some ⟨g2, 0, none⟩)]) (by simp [results, Try.results75, go_sem]) rfl ?_
      refine ⟨_, _, t1, t2, rfl, IsT.below hb2.out hg1.out, hg2, ⟨by rw [hl1.out]; exact HC1.out, by rw [hl2.out]; exact HC2.out, ?_, ?_⟩, HB.out.trans (HB2.out.mono HB.out.size)⟩
      · have h1 := HQ.out.1; rw [T.sz_eq, hl1.out]; simp [T.L]; omega
      · have h1 := HQ.out.2; rw [T.sz_eq, hl2.out]; simp [T.L]; omega
  · obtain ⟨wd, HWD, hcells, hput⟩ := two_boxes W lo hi tag at' 64 (W.heap.size + 1) W.heap.size (.inr ⟨rfl, rfl⟩)
    rw [← HWD]
    have HWD' := Lib.hid HWD
    obtain ⟨k0, k1, k2, k3, k4, k5⟩ := hcells
    have HPUT := Lib.hid hput
    clear HWD hput d0 d1 d2 d3 d4
    go_wp2_with fail
    obtain ⟨w1, HW1⟩ : ∃ w1, w1 = (wd.setCell ⟨W.heap.size + 1, 1, none⟩ (.int .i64 at')).setCell ⟨W.heap.size, 0, none⟩ (.int .i64 at') := ⟨_, rfl⟩
    rw [← HW1] at HPUT
    rw [← HW1]
    clear HW1 k0 k1 k2 k3 k4 k5
    have HB : Hid (Below W.heap.size W w1) := HPUT.out.1
    have HALL : Hid (∀ W', Below w1.heap.size w1 W' → ((W'.cell? ⟨W.heap.size + 1, 0, none⟩ = some (.int .i64 lo) ∧ W'.cell? ⟨W.heap.size + 1, 1, none⟩ = some (.int .i64 at') ∧ W'.cell? ⟨W.heap.size + 1, 2, none⟩ = some (.int .i64 tag)) ∧ (W'.cell? ⟨W.heap.size, 0, none⟩ = some (.int .i64 at') ∧ W'.cell? ⟨W.heap.size, 1, none⟩ = some (.int .i64 hi) ∧ W'.cell? ⟨W.heap.size, 2, none⟩ = some (.int .i64 tag)) ∧ (W'.cell? ⟨b0, 0, none⟩ = some (.pointer u) ∧ W'.cell? ⟨b0, 1, none⟩ = some (.int .i64 lo) ∧ W'.cell? ⟨b0, 2, none⟩ = some (.int .i64 hi) ∧ W'.cell? ⟨b0, 3, none⟩ = some (.int .i64 tag) ∧ W'.cell? ⟨b0, 4, none⟩ = some (.pointer v)))) := fun W' h => by
      obtain ⟨p1, p2⟩ := HPUT.out.2 W' h
      exact ⟨p1, p2, HCS.out W' (HB.out.trans (h.mono HB.out.size))⟩
    have HJ1 : Hid (∀ W', Below w1.heap.size w1 W' → Calls Try.prog 78 #[.pointer u, .agg #[.int .i64 lo, .int .i64 at', .int .i64 tag], .pointer none] W' fun e w' => ∃ g t, e = .returned (.pointer (some ⟨g, 0, none⟩)) ∧ Hid (IsT w' t (.pointer (some ⟨g, 0, none⟩))) ∧ Hid (t.L = c.L ++ ⟨lo, at', tag⟩ :: T.nil.L) ∧ Below w1.heap.size w1 w') := fun W' h =>
      (join_any c .nil lo at' tag _ _ W' (IsT.below h (IsT.below HB.out HU.out)) rfl HD1.out).mono fun e w' ⟨g, t, he, ht, hL, hB⟩ => ⟨g, t, he, ht, hL, h.trans (hB.mono h.size)⟩
    have HJ2 : Hid (∀ W', Below w1.heap.size w1 W' → Calls Try.prog 78 #[.pointer none, .agg #[.int .i64 at', .int .i64 hi, .int .i64 tag], .pointer v] W' fun e w' => ∃ g t, e = .returned (.pointer (some ⟨g, 0, none⟩)) ∧ Hid (IsT w' t (.pointer (some ⟨g, 0, none⟩))) ∧ Hid (t.L = T.nil.L ++ ⟨at', hi, tag⟩ :: d.L) ∧ Hid (Below W'.heap.size W' w') ∧ Below w1.heap.size w1 w') := fun W' h =>
      (join_any .nil d at' hi tag _ _ W' rfl (IsT.below h (IsT.below HB.out HV.out)) HD2.out).mono fun e w' ⟨g, t, he, ht, hL, hB⟩ => ⟨g, t, he, ht, hL, hB, h.trans (hB.mono h.size)⟩
    have hs : Below w1.heap.size w1 w1 := Below.refl _ _
    have hs2 := hs.drew
    have hcl := HALL.out _ hs2
    have hc0 := HALL.out _ hs
    go_region_held3 (fun W' : World => ((W'.cell? ⟨W.heap.size + 1, 0, none⟩ = some (.int .i64 lo) ∧ W'.cell? ⟨W.heap.size + 1, 1, none⟩ = some (.int .i64 at') ∧ W'.cell? ⟨W.heap.size + 1, 2, none⟩ = some (.int .i64 tag)) ∧ (W'.cell? ⟨W.heap.size, 0, none⟩ = some (.int .i64 at') ∧ W'.cell? ⟨W.heap.size, 1, none⟩ = some (.int .i64 hi) ∧ W'.cell? ⟨W.heap.size, 2, none⟩ = some (.int .i64 tag)) ∧ (W'.cell? ⟨b0, 0, none⟩ = some (.pointer u) ∧ W'.cell? ⟨b0, 1, none⟩ = some (.int .i64 lo) ∧ W'.cell? ⟨b0, 2, none⟩ = some (.int .i64 hi) ∧ W'.cell? ⟨b0, 3, none⟩ = some (.int .i64 tag) ∧ W'.cell? ⟨b0, 4, none⟩ = some (.pointer v))) ∧ Below w1.heap.size w1 W') (first | (refine And.intro ?_ ?_ <;> assumption) | fail) (first
      | (go_at_call 78; with_reducible refine (HJ1.out _ ?h).mono ?_; (case h => assumption); rintro e w' ⟨g1, t1, rfl, hg1, hl1, hs1'⟩; have hc1' := HALL.out _ hs1')
      | (go_at_call 78; with_reducible refine (HJ2.out _ ?h).mono ?_; (case h => assumption); rintro e w' ⟨g2, t2, rfl, hg2, hl2, hb2, hs2'⟩; have hc2' := HALL.out _ hs2') | fail)
    all_goals
      have HB2 := Lib.hid hs2'
      clear hs hs2 hcl hc0 hs1' hs2' hc1' hc2'
      go_wp2_with fail
      refine bodyPost_ret (v := .tuple #[.pointer (some ⟨g1, 0, none⟩), .pointer (some ⟨g2, 0, none⟩)]) (by simp [results, Try.results75, go_sem]) rfl ?_
      refine ⟨_, _, t1, t2, rfl, IsT.below hb2.out hg1.out, hg2, ⟨by rw [hl1.out]; exact HC1.out, by rw [hl2.out]; exact HC2.out, ?_, ?_⟩, HB.out.trans (HB2.out.mono HB.out.size)⟩
      · have h1 := HQ.out.1; rw [T.sz_eq, hl1.out]; simp [T.L]; omega
      · have h1 := HQ.out.2; rw [T.sz_eq, hl2.out]; simp [T.L]; omega
theorem split_any (f : Int → Int) (at' : Int) : ∀ (t : T) (a b : Int) (p : Option Addr) (W : World), IsT W t (.pointer p) → Gs.Can f a t.L b → Ctx f a b → t.sz ≤ 50000 →
    Calls Try.prog 75 #[.pointer p, .int .i64 at'] W (SplitOf f W a (max a (min at' b)) b t.sz) := by
  intro t
  induction t with
  | nil =>
    intro a b p W h hc hx hz
    obtain rfl := isT_nil h
    have e : a = b := by have := hc.1; simpa [T.L, Fits] using this
    subst e
    rw [show max a (min at' a) = a from by omega]
    clear h hc hx hz
    go_enter Try.func75, Try.ntmps75
    go_wp2_with fail
    refine bodyPost_ret (v := .tuple #[.pointer none, .pointer none]) (by simp [results, Try.results75, go_sem]) rfl ?_
    exact ⟨none, none, .nil, .nil, rfl, rfl, rfl, ⟨Gs.Can.nil _ _, Gs.Can.nil _ _, Nat.le_refl _, Nat.le_refl _⟩, Below.refl _ _⟩
  | node c r d ihc ihd =>
    intro a b p W h hc hx hz
    obtain ⟨lo, hi, tag⟩ := r
    have hm := hc.mid
    have hz' : c.sz + d.sz + 1 ≤ 50000 := by simp only [T.sz] at hz; omega
    have q1 := hm.1.le; have q2 := hm.2.1.le; have q3 := hm.2.2.1
    simp only at q1 q2 q3
    by_cases g1 : at' ≤ lo
    · exact split_lo f c d lo hi tag a b at' p W h hc hx hz g1 fun q w hq => ihc a lo q w hq hm.1 (hx.sub (by omega) (by omega)) (by omega)
    · by_cases g2 : hi ≤ at'
      · exact split_hi f c d lo hi tag a b at' p W h hc hx hz g2 fun q w hq => ihd hi b q w hq hm.2.1 (hx.sub (by omega) (by omega)) (by omega)
      · exact split_mid f c d lo hi tag a b at' p W h hc hx hz (by omega) (by omega)
end Go.Proofs.Ytahgfggcpmnnaaa
