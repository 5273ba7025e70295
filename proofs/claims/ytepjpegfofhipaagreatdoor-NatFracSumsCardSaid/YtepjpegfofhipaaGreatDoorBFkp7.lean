/- Contracts and lemmas (several texts merged into one). -/
import Derived.Test.YtepjpegfofhipaaGreatDoorBFkp6
namespace Go.Proofs.YtepjpegfofhipaaGreatDoor
open Go Go.RowKit Gu

/-- what a region over two fractions of the document keeps: their boxes are the call's first blocks -/
structure StG (w : World) (v u x y : Value) (a b c d : Nat) (W : World) : Prop where
  n1 : R W v a
  n2 : R W u b
  n3 : R W x c
  n4 : R W y d
  bel : Below w.heap.size w W
  lt : w.heap.size + 1 < W.heap.size
  c : W.cell? ⟨w.heap.size, 0, none⟩ = some v ∧ W.cell? ⟨w.heap.size, 1, none⟩ = some u ∧ W.cell? ⟨w.heap.size + 1, 0, none⟩ = some x ∧ W.cell? ⟨w.heap.size + 1, 1, none⟩ = some y
theorem StG.next {w W W' : World} {v u x y : Value} {a b c d : Nat} (h : StG w v u x y a b c d W) (hb : Below W.heap.size W W') : StG w v u x y a b c d W' := by
  have hl := h.lt
  obtain ⟨e0, e1, e2, e3⟩ := h.c
  exact ⟨h.n1.below hb, h.n2.below hb, h.n3.below hb, h.n4.below hb, h.bel.trans (hb.mono h.bel.size), Nat.lt_of_lt_of_le hl hb.size,
    (hb.cell (p := ⟨w.heap.size, 0, none⟩) (by show w.heap.size < _; omega)).trans e0, (hb.cell (p := ⟨w.heap.size, 1, none⟩) (by show w.heap.size < _; omega)).trans e1, (hb.cell (p := ⟨w.heap.size + 1, 0, none⟩) hl).trans e2, (hb.cell (p := ⟨w.heap.size + 1, 1, none⟩) hl).trans e3⟩
theorem StG.start {w : World} {v u x y : Value} {a b c d : Nat} (hv : R w v a) (hu : R w u b) (hx : R w x c) (hy : R w y d) : StG w v u x y a b c d ((w.alloc (.cells #[v, u] 29)).alloc (.cells #[x, y] 29)) := by
  have b2 : Below w.heap.size w ((w.alloc (.cells #[v, u] 29)).alloc (.cells #[x, y] 29)) := ((Below.refl _ _).alloc (Nat.le_refl _) _).alloc (by simp) _
  exact ⟨hv.below b2, hu.below b2, hx.below b2, hy.below b2, b2, by simp, (World.cell?_alloc_past _ _ _ (by simp)).trans (World.cell?_alloc_at _ _ _ _ rfl), (World.cell?_alloc_past _ _ _ (by simp)).trans (World.cell?_alloc_at _ _ _ _ rfl), World.cell?_alloc_at _ _ _ _ (by simp), World.cell?_alloc_at _ _ _ _ (by simp)⟩
/-- and a box for the result behind them -/
structure StGr (w : World) (v u x y : Value) (a b c d : Nat) (W : World) : Prop where
  g : StG w v u x y a b c d W
  lt : w.heap.size + 1 + 1 < W.heap.size
  r0 : ∃ o l k, W.cell? ⟨w.heap.size + 1 + 1, 0, none⟩ = some (.slice o l k)
  r1 : ∃ o l k, W.cell? ⟨w.heap.size + 1 + 1, 1, none⟩ = some (.slice o l k)
  z0 : W.frozen? ⟨w.heap.size + 1 + 1, 0, none⟩ = false
  z1 : W.frozen? ⟨w.heap.size + 1 + 1, 1, none⟩ = false
theorem StGr.next {w W W' : World} {v u x y : Value} {a b c d : Nat} (h : StGr w v u x y a b c d W) (hb : Below W.heap.size W W') : StGr w v u x y a b c d W' := by
  obtain ⟨o0, l0, k0, e0⟩ := h.r0
  obtain ⟨o1, l1, k1, e1⟩ := h.r1
  exact ⟨h.g.next hb, Nat.lt_of_lt_of_le h.lt hb.size, ⟨o0, l0, k0, (hb.cell (p := ⟨w.heap.size + 1 + 1, 0, none⟩) h.lt).trans e0⟩, ⟨o1, l1, k1, (hb.cell (p := ⟨w.heap.size + 1 + 1, 1, none⟩) h.lt).trans e1⟩,
    (hb.frozen (p := ⟨w.heap.size + 1 + 1, 0, none⟩) h.lt).trans h.z0, (hb.frozen (p := ⟨w.heap.size + 1 + 1, 1, none⟩) h.lt).trans h.z1⟩
theorem StGr.start {w : World} {v u x y : Value} {a b c d : Nat} (hv : R w v a) (hu : R w u b) (hx : R w x c) (hy : R w y d) : StGr w v u x y a b c d (((w.alloc (.cells #[v, u] 29)).alloc (.cells #[x, y] 29)).alloc (.cells #[.slice none 0 0, .slice none 0 0] 29)) :=
  ⟨(StG.start hv hu hx hy).next ((Below.refl _ _).alloc (Nat.le_refl _) _), by simp, ⟨none, 0, 0, World.cell?_alloc_at _ _ _ _ (by simp)⟩, ⟨none, 0, 0, World.cell?_alloc_at _ _ _ _ (by simp)⟩, World.frozen?_alloc_at _ _ _ _ (by simp), World.frozen?_alloc_at _ _ _ _ (by simp)⟩
/-- what the store of the result leaves -/
theorem StGr.done {w W : World} {v u x y : Value} {a b c d P Q : Nat} (h : StGr w v u x y a b c d W) {ro so : Option Addr} {rl rc sl sc : Nat} (hr : R W (.slice ro rl rc) P ∧ R W (.slice so sl sc) Q) :
    let W2 := (W.setCell ⟨w.heap.size + 1 + 1, 0, none⟩ (.slice ro rl rc)).setCell ⟨w.heap.size + 1 + 1, 1, none⟩ (.slice so sl sc)
    R W2 (.slice ro rl rc) P ∧ R W2 (.slice so sl sc) Q ∧ W2.cell? ⟨w.heap.size + 1 + 1, 0, none⟩ = some (.slice ro rl rc) ∧ W2.cell? ⟨w.heap.size + 1 + 1, 1, none⟩ = some (.slice so sl sc) ∧ Below w.heap.size w W2 := by
  obtain ⟨o0, l0, k0, d0⟩ := h.r0
  obtain ⟨o1, l1, k1, d1⟩ := h.r1
  obtain ⟨t0, t1⟩ := read_two d0 d1 (.slice ro rl rc) (.slice so sl sc)
  exact ⟨IsN_setTwo hr.1 d0 d1 (by intro d h; cases h) (by intro d h; cases h) _ _, IsN_setTwo hr.2 d0 d1 (by intro d h; cases h) (by intro d h; cases h) _ _, t0, t1, (h.g.bel.setCell (by show w.heap.size ≤ w.heap.size + 1 + 1; omega) _).setCell (by show w.heap.size ≤ w.heap.size + 1 + 1; omega) _⟩
theorem StGr.set {w W : World} {v u x y : Value} {a b c d : Nat} (h : StGr w v u x y a b c d W) (ro so : Option Addr) (rl rc sl sc : Nat) :
    StGr w v u x y a b c d ((W.setCell ⟨w.heap.size + 1 + 1, 0, none⟩ (.slice ro rl rc)).setCell ⟨w.heap.size + 1 + 1, 1, none⟩ (.slice so sl sc)) := by
  obtain ⟨o0, l0, k0, d0⟩ := h.r0
  obtain ⟨o1, l1, k1, d1⟩ := h.r1
  obtain ⟨t0, t1⟩ := read_two d0 d1 (.slice ro rl rc) (.slice so sl sc)
  have hk : ∀ {z : Value} {n : Nat}, R W z n → R ((W.setCell ⟨w.heap.size + 1 + 1, 0, none⟩ (.slice ro rl rc)).setCell ⟨w.heap.size + 1 + 1, 1, none⟩ (.slice so sl sc)) z n := fun hz => IsN_setTwo hz d0 d1 (by intro d e; cases e) (by intro d e; cases e) _ _
  have far : ∀ j o, j < w.heap.size + 1 + 1 → ((W.setCell ⟨w.heap.size + 1 + 1, 0, none⟩ (.slice ro rl rc)).setCell ⟨w.heap.size + 1 + 1, 1, none⟩ (.slice so sl sc)).cell? ⟨j, o, none⟩ = W.cell? ⟨j, o, none⟩ := fun j o hj => by
    rw [World.cell?_setCell_far _ _ _ _ (by show w.heap.size + 1 + 1 ≠ j; omega), World.cell?_setCell_far _ _ _ _ (by show w.heap.size + 1 + 1 ≠ j; omega)]
  obtain ⟨e0, e1, e2, e3⟩ := h.g.c
  refine ⟨⟨hk h.g.n1, hk h.g.n2, hk h.g.n3, hk h.g.n4, (h.g.bel.setCell (by show w.heap.size ≤ w.heap.size + 1 + 1; omega) _).setCell (by show w.heap.size ≤ w.heap.size + 1 + 1; omega) _, by rw [World.size_setCell, World.size_setCell]; exact h.g.lt, (far _ _ (by omega)).trans e0, (far _ _ (by omega)).trans e1, (far _ _ (by omega)).trans e2, (far _ _ (by omega)).trans e3⟩, by rw [World.size_setCell, World.size_setCell]; exact h.lt, ⟨_, _, _, t0⟩, ⟨_, _, _, t1⟩, ?_, ?_⟩
  · have := h.z0; simpa using this
  · have := h.z1; simpa using this
set_option maxHeartbeats 4000000 in
set_option maxRecDepth 100000 in
theorem RFCmp_any (v u x y : Value) (a b c d : Nat) (w : World) (hv : R w v a) (hu : R w u b) (hx : R w x c) (hy : R w y d) (_hb0 : 0 < b) (_hd0 : 0 < d) (ha : nd 65536 a ≤ 200) (hb : nd 65536 b ≤ 200) (hc : nd 65536 c ≤ 200) (hd : nd 65536 d ≤ 200) :
    Calls Tryz.prog 15 #[.agg #[v, u], .agg #[x, y]] w fun e w' => e = .returned (.int .i64 (cmpN ((a * d : Nat) : Int) ((c * b : Nat) : Int))) ∧ Below w.heap.size w w' := by
  have hst0 := StG.start hv hu hx hy
  obtain ⟨W0, hW0⟩ : ∃ W0 : World, W0 = (w.alloc (.cells #[v, u] 29)).alloc (.cells #[x, y] 29) := ⟨_, rfl⟩
  rw [← hW0] at hst0
  have g0 := nd_rmul ha hd
  have HM0 : Hid (∀ W, StG w v u x y a b c d W → Calls Tryz.prog 47 #[v, y] W fun e w' => ∃ o l k, e = .returned (.slice o l k) ∧ R w' (.slice o l k) (a * d) ∧ Below W.heap.size W w' ∧ StG w v u x y a b c d w') := fun W h =>
    (RMul_any _ _ _ _ W h.n1 h.n4 (by omega) (by omega)).mono fun e w' ⟨r, he, hr, hB⟩ => by
      obtain ⟨ro, rc, rfl, -⟩ := hr.shape
      exact ⟨ro, _, rc, he, hr, hB, h.next hB⟩
  have g1 := nd_rmul hc hb
  have HM1 : Hid (∀ W, StG w v u x y a b c d W → Calls Tryz.prog 47 #[x, u] W fun e w' => ∃ o l k, e = .returned (.slice o l k) ∧ R w' (.slice o l k) (c * b) ∧ Below W.heap.size W w' ∧ StG w v u x y a b c d w') := fun W h =>
    (RMul_any _ _ _ _ W h.n3 h.n2 (by omega) (by omega)).mono fun e w' ⟨r, he, hr, hB⟩ => by
      obtain ⟨ro, rc, rfl, -⟩ := hr.shape
      exact ⟨ro, _, rc, he, hr, hB, h.next hB⟩
  have HCM : Hid (∀ W p q, StG w v u x y a b c d W → R W p (a * d) → R W q (c * b) → Calls Tryz.prog 21 #[p, q] W fun e w' => e = .returned (.int .i64 (cmpN ((a * d : Nat) : Int) ((c * b : Nat) : Int))) ∧ StG w v u x y a b c d w') := fun W p q h hp hq =>
    (RCmp_any p q _ _ W hp hq (by omega) (by omega)).mono fun e w' ⟨he, k, hw⟩ => ⟨he, by rw [hw]; exact h.next (below_drewN (Below.refl _ _) k)⟩
  have HCC : Hid (∀ W, StG w v u x y a b c d W → W.cell? ⟨w.heap.size, 0, none⟩ = some v ∧ W.cell? ⟨w.heap.size, 1, none⟩ = some u ∧ W.cell? ⟨w.heap.size + 1, 0, none⟩ = some x ∧ W.cell? ⟨w.heap.size + 1, 1, none⟩ = some y) := fun W h => h.c
  obtain ⟨ao, ac, rfl, -⟩ := hv.shape
  obtain ⟨bo, bc, rfl, -⟩ := hu.shape
  obtain ⟨co, cc, rfl, -⟩ := hx.shape
  obtain ⟨eo, ec, rfl, -⟩ := hy.shape
  have hs2 := hst0.next ((Below.refl _ _).drew)
  have hc0 := HCC.out _ hst0
  have hc2 := HCC.out _ hs2
  have HW0 := Lib.hid hW0
  clear hv hu hx hy hW0 _hb0 _hd0 ha hb hc hd g0 g1
  generalize cmpN ((a * d : Nat) : Int) ((c * b : Nat) : Int) = kk at *
  generalize a * d = N0 at *
  generalize c * b = N1 at *
  generalize nd 65536 a = la at *
  generalize nd 65536 b = lb at *
  generalize nd 65536 c = lc at *
  generalize nd 65536 d = ld at *
  go_enter Tryz.func15, Tryz.ntmps15
  go_wp2_with fail
  rw [← HW0.out]
  go_region_held3 (fun W : World => (W.cell? ⟨w.heap.size, 0, none⟩ = some (.slice ao la ac) ∧ W.cell? ⟨w.heap.size, 1, none⟩ = some (.slice bo lb bc) ∧ W.cell? ⟨w.heap.size + 1, 0, none⟩ = some (.slice co lc cc) ∧ W.cell? ⟨w.heap.size + 1, 1, none⟩ = some (.slice eo ld ec)) ∧ StG w (.slice ao la ac) (.slice bo lb bc) (.slice co lc cc) (.slice eo ld ec) a b c d W) (first | (refine And.intro ?_ ?_ <;> assumption)) (first
    | (go_at_call 47; with_reducible refine (HM0.out _ ?h).mono ?_; (case h => assumption); rintro e w' ⟨o1, l1, k1, rfl, hr', hB', hs'⟩; have hc' := HCC.out _ hs')
    | (go_at_call 47; with_reducible refine (HM1.out _ ?h).mono ?_; (case h => assumption); rintro e w' ⟨o1, l1, k1, rfl, hr', hB', hs'⟩; have hc' := HCC.out _ hs')
    | (go_at_call 21; with_reducible refine (HCM.out _ _ _ ?h ?r ?r2).mono ?_; (case h => assumption); (case r => first | assumption | exact rchain (by assumption) (by assumption) | exact rchain (by assumption) (rchain (by assumption) (by assumption)) | exact rchain (by assumption) (rchain (by assumption) (rchain (by assumption) (by assumption)))); (case r2 => first | assumption | exact rchain (by assumption) (by assumption) | exact rchain (by assumption) (rchain (by assumption) (by assumption)) | exact rchain (by assumption) (rchain (by assumption) (rchain (by assumption) (by assumption)))); rintro e w' ⟨rfl, hs'⟩; have hc' := HCC.out _ hs'))
  all_goals
    have hT : StG w (.slice ao la ac) (.slice bo lb bc) (.slice co lc cc) (.slice eo ld ec) a b c d w' := by assumption
    have HBE := Lib.hid hT.bel
    clear hT
    go_wp2
    go_ret
    exact ⟨rfl, HBE.out⟩
set_option maxHeartbeats 4000000 in
set_option maxRecDepth 100000 in
theorem RFMul_any (v u x y : Value) (a b c d : Nat) (w : World) (hv : R w v a) (hu : R w u b) (hx : R w x c) (hy : R w y d) (hb0 : 0 < b) (hd0 : 0 < d) (ha : nd 65536 a ≤ 200) (hb : nd 65536 b ≤ 200) (hc : nd 65536 c ≤ 200) (hd : nd 65536 d ≤ 200) :
    Calls Tryz.prog 13 #[.agg #[v, u], .agg #[x, y]] w fun e w' => ∃ r s, e = .returned (.agg #[r, s]) ∧ R w' r (lowP (a * c) (b * d)) ∧ R w' s (lowQ (a * c) (b * d)) ∧ Below w.heap.size w w' := by
  have hst0 := StGr.start hv hu hx hy
  obtain ⟨W0, hW0⟩ : ∃ W0 : World, W0 = ((w.alloc (.cells #[v, u] 29)).alloc (.cells #[x, y] 29)).alloc (.cells #[.slice none 0 0, .slice none 0 0] 29) := ⟨_, rfl⟩
  rw [← hW0] at hst0
  have g0 := nd_rmul ha hc
  have HM0 : Hid (∀ W, StGr w v u x y a b c d W → Calls Tryz.prog 47 #[v, x] W fun e w' => ∃ o l k, e = .returned (.slice o l k) ∧ R w' (.slice o l k) (a * c) ∧ Below W.heap.size W w' ∧ StGr w v u x y a b c d w') := fun W h =>
    (RMul_any _ _ _ _ W h.g.n1 h.g.n3 (by omega) (by omega)).mono fun e w' ⟨r, he, hr, hB⟩ => by
      obtain ⟨ro, rc, rfl, -⟩ := hr.shape
      exact ⟨ro, _, rc, he, hr, hB, h.next hB⟩
  have g1 := nd_rmul hb hd
  have HM1 : Hid (∀ W, StGr w v u x y a b c d W → Calls Tryz.prog 47 #[u, y] W fun e w' => ∃ o l k, e = .returned (.slice o l k) ∧ R w' (.slice o l k) (b * d) ∧ Below W.heap.size W w' ∧ StGr w v u x y a b c d w') := fun W h =>
    (RMul_any _ _ _ _ W h.g.n2 h.g.n4 (by omega) (by omega)).mono fun e w' ⟨r, he, hr, hB⟩ => by
      obtain ⟨ro, rc, rfl, -⟩ := hr.shape
      exact ⟨ro, _, rc, he, hr, hB, h.next hB⟩
  have hM0 : 0 < b * d := Nat.mul_pos hb0 hd0
  have HLO : Hid (∀ W p q, StGr w v u x y a b c d W → R W p (a * c) → R W q (b * d) → Calls Tryz.prog 36 #[p, q] W fun e w' => ∃ o l k o2 l2 k2, e = .returned (.agg #[.slice o l k, .slice o2 l2 k2]) ∧ (R w' (.slice o l k) (lowP (a * c) (b * d)) ∧ R w' (.slice o2 l2 k2) (lowQ (a * c) (b * d))) ∧ StGr w v u x y a b c d w') := fun W p q h hp hq =>
    (RLow_any p q _ _ W hp hq hM0 (by omega) (by omega)).mono fun e w' ⟨r, s, he, hr, hs, hB⟩ => by
      obtain ⟨ro, rc, rfl, -⟩ := hr.shape
      obtain ⟨so, sc, rfl, -⟩ := hs.shape
      exact ⟨ro, _, rc, so, _, sc, he, ⟨hr, hs⟩, h.next hB⟩
  have HSET : Hid (∀ W o l k o2 l2 k2, StGr w v u x y a b c d W → (((W.setCell ⟨w.heap.size + 1 + 1, 0, none⟩ (.slice o l k)).setCell ⟨w.heap.size + 1 + 1, 1, none⟩ (.slice o2 l2 k2)).cell? ⟨w.heap.size, 0, none⟩ = some v ∧ ((W.setCell ⟨w.heap.size + 1 + 1, 0, none⟩ (.slice o l k)).setCell ⟨w.heap.size + 1 + 1, 1, none⟩ (.slice o2 l2 k2)).cell? ⟨w.heap.size, 1, none⟩ = some u ∧ ((W.setCell ⟨w.heap.size + 1 + 1, 0, none⟩ (.slice o l k)).setCell ⟨w.heap.size + 1 + 1, 1, none⟩ (.slice o2 l2 k2)).cell? ⟨w.heap.size + 1, 0, none⟩ = some x ∧ ((W.setCell ⟨w.heap.size + 1 + 1, 0, none⟩ (.slice o l k)).setCell ⟨w.heap.size + 1 + 1, 1, none⟩ (.slice o2 l2 k2)).cell? ⟨w.heap.size + 1, 1, none⟩ = some y) ∧ StGr w v u x y a b c d ((W.setCell ⟨w.heap.size + 1 + 1, 0, none⟩ (.slice o l k)).setCell ⟨w.heap.size + 1 + 1, 1, none⟩ (.slice o2 l2 k2))) :=
    fun W o l k o2 l2 k2 h => ⟨(h.set o o2 l k l2 k2).g.c, h.set o o2 l k l2 k2⟩
  have HCC : Hid (∀ W, StGr w v u x y a b c d W → W.cell? ⟨w.heap.size, 0, none⟩ = some v ∧ W.cell? ⟨w.heap.size, 1, none⟩ = some u ∧ W.cell? ⟨w.heap.size + 1, 0, none⟩ = some x ∧ W.cell? ⟨w.heap.size + 1, 1, none⟩ = some y) := fun W h => h.g.c
  obtain ⟨ao, ac, rfl, -⟩ := hv.shape
  obtain ⟨bo, bc, rfl, -⟩ := hu.shape
  obtain ⟨co, cc, rfl, -⟩ := hx.shape
  obtain ⟨eo, ec, rfl, -⟩ := hy.shape
  have hs2 := hst0.next ((Below.refl _ _).drew)
  have hc0 := HCC.out _ hst0
  have hc2 := HCC.out _ hs2
  have HW0 := Lib.hid hW0
  clear hv hu hx hy hW0 hb0 hd0 ha hb hc hd g0 g1 hM0
  generalize lowP (a * c) (b * d) = P at *
  generalize lowQ (a * c) (b * d) = Q at *
  generalize a * c = N0 at *
  generalize b * d = N1 at *
  generalize nd 65536 a = la at *
  generalize nd 65536 b = lb at *
  generalize nd 65536 c = lc at *
  generalize nd 65536 d = ld at *
  go_enter Tryz.func13, Tryz.ntmps13
  go_wp2_with fail
  rw [← HW0.out]
  go_region_held3 (fun W : World => (W.cell? ⟨w.heap.size, 0, none⟩ = some (.slice ao la ac) ∧ W.cell? ⟨w.heap.size, 1, none⟩ = some (.slice bo lb bc) ∧ W.cell? ⟨w.heap.size + 1, 0, none⟩ = some (.slice co lc cc) ∧ W.cell? ⟨w.heap.size + 1, 1, none⟩ = some (.slice eo ld ec)) ∧ StGr w (.slice ao la ac) (.slice bo lb bc) (.slice co lc cc) (.slice eo ld ec) a b c d W) (first | (refine And.intro ?_ ?_ <;> assumption) | (refine HSET.out _ _ _ _ _ _ _ ?_; assumption) | fail) (first
    | (go_at_call 47; with_reducible refine (HM0.out _ ?h).mono ?_; (case h => assumption); rintro e w' ⟨o1, l1, k1, rfl, hr', hB', hs'⟩; have hc' := HCC.out _ hs')
    | (go_at_call 47; with_reducible refine (HM1.out _ ?h).mono ?_; (case h => assumption); rintro e w' ⟨o1, l1, k1, rfl, hr', hB', hs'⟩; have hc' := HCC.out _ hs')
    | (go_at_call 36; with_reducible refine (HLO.out _ _ _ ?h ?r ?r2).mono ?_; (case h => assumption); (case r => first | assumption | exact rchain (by assumption) (by assumption) | exact rchain (by assumption) (rchain (by assumption) (by assumption)) | exact rchain (by assumption) (rchain (by assumption) (rchain (by assumption) (by assumption)))); (case r2 => first | assumption | exact rchain (by assumption) (by assumption) | exact rchain (by assumption) (rchain (by assumption) (by assumption)) | exact rchain (by assumption) (rchain (by assumption) (rchain (by assumption) (by assumption)))); rintro e w' ⟨o1, l1, k1, o2, l2, k2, rfl, hr', hs'⟩; have hc' := HCC.out _ hs'; obtain ⟨p0, p1, p2, y0⟩ := hs'.r0; obtain ⟨q0, q1, q2, y1⟩ := hs'.r1; have y2 := hs'.z0; have y3 := hs'.z1))
  all_goals
    have hT : StGr w (.slice ao la ac) (.slice bo lb bc) (.slice co lc cc) (.slice eo ld ec) a b c d w' := by assumption
    have hR : R w' (.slice o1 l1 k1) P ∧ R w' (.slice o2 l2 k2) Q := by assumption
    have HD := Lib.hid (hT.done hR)
    clear hT hR
    go_wp2
    obtain ⟨t1, t2, t3, t4, t5⟩ := HD.out
    refine bodyPost_ret (v := .agg #[.slice o1 l1 k1, .slice o2 l2 k2]) (by simp [results, Tryz.results13, go_sem, t3, t4]) rfl ⟨_, _, rfl, t1, t2, t5⟩
set_option maxHeartbeats 4000000 in
set_option maxRecDepth 100000 in
theorem RFAdd_any (v u x y : Value) (a b c d : Nat) (w : World) (hv : R w v a) (hu : R w u b) (hx : R w x c) (hy : R w y d) (hb0 : 0 < b) (hd0 : 0 < d) (ha : nd 65536 a ≤ 200) (hb : nd 65536 b ≤ 200) (hc : nd 65536 c ≤ 200) (hd : nd 65536 d ≤ 200) :
    Calls Tryz.prog 12 #[.agg #[v, u], .agg #[x, y]] w fun e w' => ∃ r s, e = .returned (.agg #[r, s]) ∧ R w' r (lowP (a * d + c * b) (b * d)) ∧ R w' s (lowQ (a * d + c * b) (b * d)) ∧ Below w.heap.size w w' := by
  have hst0 := StGr.start hv hu hx hy
  obtain ⟨W0, hW0⟩ : ∃ W0 : World, W0 = ((w.alloc (.cells #[v, u] 29)).alloc (.cells #[x, y] 29)).alloc (.cells #[.slice none 0 0, .slice none 0 0] 29) := ⟨_, rfl⟩
  rw [← hW0] at hst0
  have g0 := nd_rmul ha hd
  have HM0 : Hid (∀ W, StGr w v u x y a b c d W → Calls Tryz.prog 47 #[v, y] W fun e w' => ∃ o l k, e = .returned (.slice o l k) ∧ R w' (.slice o l k) (a * d) ∧ Below W.heap.size W w' ∧ StGr w v u x y a b c d w') := fun W h =>
    (RMul_any _ _ _ _ W h.g.n1 h.g.n4 (by omega) (by omega)).mono fun e w' ⟨r, he, hr, hB⟩ => by
      obtain ⟨ro, rc, rfl, -⟩ := hr.shape
      exact ⟨ro, _, rc, he, hr, hB, h.next hB⟩
  have g1 := nd_rmul hc hb
  have HM1 : Hid (∀ W, StGr w v u x y a b c d W → Calls Tryz.prog 47 #[x, u] W fun e w' => ∃ o l k, e = .returned (.slice o l k) ∧ R w' (.slice o l k) (c * b) ∧ Below W.heap.size W w' ∧ StGr w v u x y a b c d w') := fun W h =>
    (RMul_any _ _ _ _ W h.g.n3 h.g.n2 (by omega) (by omega)).mono fun e w' ⟨r, he, hr, hB⟩ => by
      obtain ⟨ro, rc, rfl, -⟩ := hr.shape
      exact ⟨ro, _, rc, he, hr, hB, h.next hB⟩
  have g2 := nd_rmul hb hd
  have HM2 : Hid (∀ W, StGr w v u x y a b c d W → Calls Tryz.prog 47 #[u, y] W fun e w' => ∃ o l k, e = .returned (.slice o l k) ∧ R w' (.slice o l k) (b * d) ∧ Below W.heap.size W w' ∧ StGr w v u x y a b c d w') := fun W h =>
    (RMul_any _ _ _ _ W h.g.n2 h.g.n4 (by omega) (by omega)).mono fun e w' ⟨r, he, hr, hB⟩ => by
      obtain ⟨ro, rc, rfl, -⟩ := hr.shape
      exact ⟨ro, _, rc, he, hr, hB, h.next hB⟩
  have g9 : nd 65536 (a * d + c * b) ≤ 401 := by
    have h1 := (nd_le (by decide : 2 ≤ 65536)).1 g0
    have h2 := (nd_le (by decide : 2 ≤ 65536)).1 g1
    apply (nd_le (by decide : 2 ≤ 65536)).2
    obtain ⟨m, hm⟩ : ∃ m, m = 200 + 200 := ⟨_, rfl⟩
    rw [← hm] at h1 h2
    rw [show 401 = m + 1 from by omega, Nat.pow_succ]
    have h3 : 65536 ^ m * 2 ≤ 65536 ^ m * 65536 := Nat.mul_le_mul_left _ (by decide)
    omega
  have HCO : Hid (∀ W p q, StGr w v u x y a b c d W → R W p (a * d) → R W q (c * b) → Calls Tryz.prog 46 #[p, q] W fun e w' => ∃ o l k, e = .returned (.slice o l k) ∧ R w' (.slice o l k) (a * d + c * b) ∧ Below W.heap.size W w' ∧ StGr w v u x y a b c d w') := fun W p q h hp hq =>
    (RAdd_any p q _ _ W hp hq (by omega) (by omega)).mono fun e w' ⟨r, he, hr, hB⟩ => by
      obtain ⟨ro, rc, rfl, -⟩ := hr.shape
      exact ⟨ro, _, rc, he, hr, hB, h.next hB⟩
  have hM0 : 0 < b * d := Nat.mul_pos hb0 hd0
  have HLO : Hid (∀ W p q, StGr w v u x y a b c d W → R W p (a * d + c * b) → R W q (b * d) → Calls Tryz.prog 36 #[p, q] W fun e w' => ∃ o l k o2 l2 k2, e = .returned (.agg #[.slice o l k, .slice o2 l2 k2]) ∧ (R w' (.slice o l k) (lowP (a * d + c * b) (b * d)) ∧ R w' (.slice o2 l2 k2) (lowQ (a * d + c * b) (b * d))) ∧ StGr w v u x y a b c d w') := fun W p q h hp hq =>
    (RLow_any p q _ _ W hp hq hM0 (by omega) (by omega)).mono fun e w' ⟨r, s, he, hr, hs, hB⟩ => by
      obtain ⟨ro, rc, rfl, -⟩ := hr.shape
      obtain ⟨so, sc, rfl, -⟩ := hs.shape
      exact ⟨ro, _, rc, so, _, sc, he, ⟨hr, hs⟩, h.next hB⟩
  have HSET : Hid (∀ W o l k o2 l2 k2, StGr w v u x y a b c d W → (((W.setCell ⟨w.heap.size + 1 + 1, 0, none⟩ (.slice o l k)).setCell ⟨w.heap.size + 1 + 1, 1, none⟩ (.slice o2 l2 k2)).cell? ⟨w.heap.size, 0, none⟩ = some v ∧ ((W.setCell ⟨w.heap.size + 1 + 1, 0, none⟩ (.slice o l k)).setCell ⟨w.heap.size + 1 + 1, 1, none⟩ (.slice o2 l2 k2)).cell? ⟨w.heap.size, 1, none⟩ = some u ∧ ((W.setCell ⟨w.heap.size + 1 + 1, 0, none⟩ (.slice o l k)).setCell ⟨w.heap.size + 1 + 1, 1, none⟩ (.slice o2 l2 k2)).cell? ⟨w.heap.size + 1, 0, none⟩ = some x ∧ ((W.setCell ⟨w.heap.size + 1 + 1, 0, none⟩ (.slice o l k)).setCell ⟨w.heap.size + 1 + 1, 1, none⟩ (.slice o2 l2 k2)).cell? ⟨w.heap.size + 1, 1, none⟩ = some y) ∧ StGr w v u x y a b c d ((W.setCell ⟨w.heap.size + 1 + 1, 0, none⟩ (.slice o l k)).setCell ⟨w.heap.size + 1 + 1, 1, none⟩ (.slice o2 l2 k2))) :=
    fun W o l k o2 l2 k2 h => ⟨(h.set o o2 l k l2 k2).g.c, h.set o o2 l k l2 k2⟩
  have HCC : Hid (∀ W, StGr w v u x y a b c d W → W.cell? ⟨w.heap.size, 0, none⟩ = some v ∧ W.cell? ⟨w.heap.size, 1, none⟩ = some u ∧ W.cell? ⟨w.heap.size + 1, 0, none⟩ = some x ∧ W.cell? ⟨w.heap.size + 1, 1, none⟩ = some y) := fun W h => h.g.c
  obtain ⟨ao, ac, rfl, -⟩ := hv.shape
  obtain ⟨bo, bc, rfl, -⟩ := hu.shape
  obtain ⟨co, cc, rfl, -⟩ := hx.shape
  obtain ⟨eo, ec, rfl, -⟩ := hy.shape
  have hs2 := hst0.next ((Below.refl _ _).drew)
  have hc0 := HCC.out _ hst0
  have hc2 := HCC.out _ hs2
  have HW0 := Lib.hid hW0
  clear hv hu hx hy hW0 hb0 hd0 ha hb hc hd g0 g1 g2 g9 hM0
  generalize lowP (a * d + c * b) (b * d) = P at *
  generalize lowQ (a * d + c * b) (b * d) = Q at *
  generalize a * d + c * b = LL at *
  generalize a * d = N0 at *
  generalize c * b = N1 at *
  generalize b * d = N2 at *
  generalize nd 65536 a = la at *
  generalize nd 65536 b = lb at *
  generalize nd 65536 c = lc at *
  generalize nd 65536 d = ld at *
  go_enter Tryz.func12, Tryz.ntmps12
  go_wp2_with fail
  rw [← HW0.out]
  go_region_held3 (fun W : World => (W.cell? ⟨w.heap.size, 0, none⟩ = some (.slice ao la ac) ∧ W.cell? ⟨w.heap.size, 1, none⟩ = some (.slice bo lb bc) ∧ W.cell? ⟨w.heap.size + 1, 0, none⟩ = some (.slice co lc cc) ∧ W.cell? ⟨w.heap.size + 1, 1, none⟩ = some (.slice eo ld ec)) ∧ StGr w (.slice ao la ac) (.slice bo lb bc) (.slice co lc cc) (.slice eo ld ec) a b c d W) (first | (refine And.intro ?_ ?_ <;> assumption) | (refine HSET.out _ _ _ _ _ _ _ ?_; assumption) | fail) (first
    | (go_at_call 47; with_reducible refine (HM0.out _ ?h).mono ?_; (case h => assumption); rintro e w' ⟨o1, l1, k1, rfl, hr', hB', hs'⟩; have hc' := HCC.out _ hs')
    | (go_at_call 47; with_reducible refine (HM1.out _ ?h).mono ?_; (case h => assumption); rintro e w' ⟨o1, l1, k1, rfl, hr', hB', hs'⟩; have hc' := HCC.out _ hs')
    | (go_at_call 47; with_reducible refine (HM2.out _ ?h).mono ?_; (case h => assumption); rintro e w' ⟨o1, l1, k1, rfl, hr', hB', hs'⟩; have hc' := HCC.out _ hs')
    | (go_at_call 46; with_reducible refine (HCO.out _ _ _ ?h ?r ?r2).mono ?_; (case h => assumption); (case r => first | assumption | exact rchain (by assumption) (by assumption) | exact rchain (by assumption) (rchain (by assumption) (by assumption)) | exact rchain (by assumption) (rchain (by assumption) (rchain (by assumption) (by assumption)))); (case r2 => first | assumption | exact rchain (by assumption) (by assumption) | exact rchain (by assumption) (rchain (by assumption) (by assumption)) | exact rchain (by assumption) (rchain (by assumption) (rchain (by assumption) (by assumption)))); rintro e w' ⟨o1, l1, k1, rfl, hr', hB', hs'⟩; have hc' := HCC.out _ hs')
    | (go_at_call 36; with_reducible refine (HLO.out _ _ _ ?h ?r ?r2).mono ?_; (case h => assumption); (case r => first | assumption | exact rchain (by assumption) (by assumption) | exact rchain (by assumption) (rchain (by assumption) (by assumption)) | exact rchain (by assumption) (rchain (by assumption) (rchain (by assumption) (by assumption)))); (case r2 => first | assumption | exact rchain (by assumption) (by assumption) | exact rchain (by assumption) (rchain (by assumption) (by assumption)) | exact rchain (by assumption) (rchain (by assumption) (rchain (by assumption) (by assumption)))); rintro e w' ⟨o1, l1, k1, o2, l2, k2, rfl, hr', hs'⟩; have hc' := HCC.out _ hs'; obtain ⟨p0, p1, p2, y0⟩ := hs'.r0; obtain ⟨q0, q1, q2, y1⟩ := hs'.r1; have y2 := hs'.z0; have y3 := hs'.z1))
  all_goals
    have hT : StGr w (.slice ao la ac) (.slice bo lb bc) (.slice co lc cc) (.slice eo ld ec) a b c d w' := by assumption
    have hR : R w' (.slice o1 l1 k1) P ∧ R w' (.slice o2 l2 k2) Q := by assumption
    have HD := Lib.hid (hT.done hR)
    clear hT hR
    go_wp2
    obtain ⟨t1, t2, t3, t4, t5⟩ := HD.out
    refine bodyPost_ret (v := .agg #[.slice o1 l1 k1, .slice o2 l2 k2]) (by simp [results, Tryz.results12, go_sem, t3, t4]) rfl ⟨_, _, rfl, t1, t2, t5⟩
set_option maxHeartbeats 4000000 in
set_option maxRecDepth 100000 in
theorem RFSub_any (v u x y : Value) (a b c d : Nat) (w : World) (hv : R w v a) (hu : R w u b) (hx : R w x c) (hy : R w y d) (hb0 : 0 < b) (hd0 : 0 < d) (ha : nd 65536 a ≤ 200) (hb : nd 65536 b ≤ 200) (hc : nd 65536 c ≤ 200) (hd : nd 65536 d ≤ 200) (hle : c * b ≤ a * d) :
    Calls Tryz.prog 17 #[.agg #[v, u], .agg #[x, y]] w fun e w' => ∃ r s, e = .returned (.agg #[r, s]) ∧ R w' r (lowP (a * d - c * b) (b * d)) ∧ R w' s (lowQ (a * d - c * b) (b * d)) ∧ Below w.heap.size w w' := by
  have hst0 := StGr.start hv hu hx hy
  obtain ⟨W0, hW0⟩ : ∃ W0 : World, W0 = ((w.alloc (.cells #[v, u] 29)).alloc (.cells #[x, y] 29)).alloc (.cells #[.slice none 0 0, .slice none 0 0] 29) := ⟨_, rfl⟩
  rw [← hW0] at hst0
  have g0 := nd_rmul ha hd
  have HM0 : Hid (∀ W, StGr w v u x y a b c d W → Calls Tryz.prog 47 #[v, y] W fun e w' => ∃ o l k, e = .returned (.slice o l k) ∧ R w' (.slice o l k) (a * d) ∧ Below W.heap.size W w' ∧ StGr w v u x y a b c d w') := fun W h =>
    (RMul_any _ _ _ _ W h.g.n1 h.g.n4 (by omega) (by omega)).mono fun e w' ⟨r, he, hr, hB⟩ => by
      obtain ⟨ro, rc, rfl, -⟩ := hr.shape
      exact ⟨ro, _, rc, he, hr, hB, h.next hB⟩
  have g1 := nd_rmul hc hb
  have HM1 : Hid (∀ W, StGr w v u x y a b c d W → Calls Tryz.prog 47 #[x, u] W fun e w' => ∃ o l k, e = .returned (.slice o l k) ∧ R w' (.slice o l k) (c * b) ∧ Below W.heap.size W w' ∧ StGr w v u x y a b c d w') := fun W h =>
    (RMul_any _ _ _ _ W h.g.n3 h.g.n2 (by omega) (by omega)).mono fun e w' ⟨r, he, hr, hB⟩ => by
      obtain ⟨ro, rc, rfl, -⟩ := hr.shape
      exact ⟨ro, _, rc, he, hr, hB, h.next hB⟩
  have g2 := nd_rmul hb hd
  have HM2 : Hid (∀ W, StGr w v u x y a b c d W → Calls Tryz.prog 47 #[u, y] W fun e w' => ∃ o l k, e = .returned (.slice o l k) ∧ R w' (.slice o l k) (b * d) ∧ Below W.heap.size W w' ∧ StGr w v u x y a b c d w') := fun W h =>
    (RMul_any _ _ _ _ W h.g.n2 h.g.n4 (by omega) (by omega)).mono fun e w' ⟨r, he, hr, hB⟩ => by
      obtain ⟨ro, rc, rfl, -⟩ := hr.shape
      exact ⟨ro, _, rc, he, hr, hB, h.next hB⟩
  have g9 : nd 65536 (a * d - c * b) ≤ 401 := Nat.le_trans (nd_mono (by decide) (Nat.sub_le _ _)) (by omega)
  have HCO : Hid (∀ W p q, StGr w v u x y a b c d W → R W p (a * d) → R W q (c * b) → Calls Tryz.prog 50 #[p, q] W fun e w' => ∃ o l k, e = .returned (.slice o l k) ∧ R w' (.slice o l k) (a * d - c * b) ∧ Below W.heap.size W w' ∧ StGr w v u x y a b c d w') := fun W p q h hp hq =>
    (RSub_any p q _ _ W hp hq (by omega) (by omega) hle).mono fun e w' ⟨r, he, hr, hB⟩ => by
      obtain ⟨ro, rc, rfl, -⟩ := hr.shape
      exact ⟨ro, _, rc, he, hr, hB, h.next hB⟩
  have hM0 : 0 < b * d := Nat.mul_pos hb0 hd0
  have HLO : Hid (∀ W p q, StGr w v u x y a b c d W → R W p (a * d - c * b) → R W q (b * d) → Calls Tryz.prog 36 #[p, q] W fun e w' => ∃ o l k o2 l2 k2, e = .returned (.agg #[.slice o l k, .slice o2 l2 k2]) ∧ (R w' (.slice o l k) (lowP (a * d - c * b) (b * d)) ∧ R w' (.slice o2 l2 k2) (lowQ (a * d - c * b) (b * d))) ∧ StGr w v u x y a b c d w') := fun W p q h hp hq =>
    (RLow_any p q _ _ W hp hq hM0 (by omega) (by omega)).mono fun e w' ⟨r, s, he, hr, hs, hB⟩ => by
      obtain ⟨ro, rc, rfl, -⟩ := hr.shape
      obtain ⟨so, sc, rfl, -⟩ := hs.shape
      exact ⟨ro, _, rc, so, _, sc, he, ⟨hr, hs⟩, h.next hB⟩
  have HSET : Hid (∀ W o l k o2 l2 k2, StGr w v u x y a b c d W → (((W.setCell ⟨w.heap.size + 1 + 1, 0, none⟩ (.slice o l k)).setCell ⟨w.heap.size + 1 + 1, 1, none⟩ (.slice o2 l2 k2)).cell? ⟨w.heap.size, 0, none⟩ = some v ∧ ((W.setCell ⟨w.heap.size + 1 + 1, 0, none⟩ (.slice o l k)).setCell ⟨w.heap.size + 1 + 1, 1, none⟩ (.slice o2 l2 k2)).cell? ⟨w.heap.size, 1, none⟩ = some u ∧ ((W.setCell ⟨w.heap.size + 1 + 1, 0, none⟩ (.slice o l k)).setCell ⟨w.heap.size + 1 + 1, 1, none⟩ (.slice o2 l2 k2)).cell? ⟨w.heap.size + 1, 0, none⟩ = some x ∧ ((W.setCell ⟨w.heap.size + 1 + 1, 0, none⟩ (.slice o l k)).setCell ⟨w.heap.size + 1 + 1, 1, none⟩ (.slice o2 l2 k2)).cell? ⟨w.heap.size + 1, 1, none⟩ = some y) ∧ StGr w v u x y a b c d ((W.setCell ⟨w.heap.size + 1 + 1, 0, none⟩ (.slice o l k)).setCell ⟨w.heap.size + 1 + 1, 1, none⟩ (.slice o2 l2 k2))) :=
    fun W o l k o2 l2 k2 h => ⟨(h.set o o2 l k l2 k2).g.c, h.set o o2 l k l2 k2⟩
  have HCC : Hid (∀ W, StGr w v u x y a b c d W → W.cell? ⟨w.heap.size, 0, none⟩ = some v ∧ W.cell? ⟨w.heap.size, 1, none⟩ = some u ∧ W.cell? ⟨w.heap.size + 1, 0, none⟩ = some x ∧ W.cell? ⟨w.heap.size + 1, 1, none⟩ = some y) := fun W h => h.g.c
  obtain ⟨ao, ac, rfl, -⟩ := hv.shape
  obtain ⟨bo, bc, rfl, -⟩ := hu.shape
  obtain ⟨co, cc, rfl, -⟩ := hx.shape
  obtain ⟨eo, ec, rfl, -⟩ := hy.shape
  have hs2 := hst0.next ((Below.refl _ _).drew)
  have hc0 := HCC.out _ hst0
  have hc2 := HCC.out _ hs2
  have HW0 := Lib.hid hW0
  clear hv hu hx hy hW0 hb0 hd0 ha hb hc hd g0 g1 g2 g9 hM0 hle
  generalize lowP (a * d - c * b) (b * d) = P at *
  generalize lowQ (a * d - c * b) (b * d) = Q at *
  generalize a * d - c * b = LL at *
  generalize a * d = N0 at *
  generalize c * b = N1 at *
  generalize b * d = N2 at *
  generalize nd 65536 a = la at *
  generalize nd 65536 b = lb at *
  generalize nd 65536 c = lc at *
  generalize nd 65536 d = ld at *
  go_enter Tryz.func17, Tryz.ntmps17
  go_wp2_with fail
  rw [← HW0.out]
  go_region_held3 (fun W : World => (W.cell? ⟨w.heap.size, 0, none⟩ = some (.slice ao la ac) ∧ W.cell? ⟨w.heap.size, 1, none⟩ = some (.slice bo lb bc) ∧ W.cell? ⟨w.heap.size + 1, 0, none⟩ = some (.slice co lc cc) ∧ W.cell? ⟨w.heap.size + 1, 1, none⟩ = some (.slice eo ld ec)) ∧ StGr w (.slice ao la ac) (.slice bo lb bc) (.slice co lc cc) (.slice eo ld ec) a b c d W) (first | (refine And.intro ?_ ?_ <;> assumption) | (refine HSET.out _ _ _ _ _ _ _ ?_; assumption) | fail) (first
    | (go_at_call 47; with_reducible refine (HM0.out _ ?h).mono ?_; (case h => assumption); rintro e w' ⟨o1, l1, k1, rfl, hr', hB', hs'⟩; have hc' := HCC.out _ hs')
    | (go_at_call 47; with_reducible refine (HM1.out _ ?h).mono ?_; (case h => assumption); rintro e w' ⟨o1, l1, k1, rfl, hr', hB', hs'⟩; have hc' := HCC.out _ hs')
    | (go_at_call 47; with_reducible refine (HM2.out _ ?h).mono ?_; (case h => assumption); rintro e w' ⟨o1, l1, k1, rfl, hr', hB', hs'⟩; have hc' := HCC.out _ hs')
    | (go_at_call 50; with_reducible refine (HCO.out _ _ _ ?h ?r ?r2).mono ?_; (case h => assumption); (case r => first | assumption | exact rchain (by assumption) (by assumption) | exact rchain (by assumption) (rchain (by assumption) (by assumption)) | exact rchain (by assumption) (rchain (by assumption) (rchain (by assumption) (by assumption)))); (case r2 => first | assumption | exact rchain (by assumption) (by assumption) | exact rchain (by assumption) (rchain (by assumption) (by assumption)) | exact rchain (by assumption) (rchain (by assumption) (rchain (by assumption) (by assumption)))); rintro e w' ⟨o1, l1, k1, rfl, hr', hB', hs'⟩; have hc' := HCC.out _ hs')
    | (go_at_call 36; with_reducible refine (HLO.out _ _ _ ?h ?r ?r2).mono ?_; (case h => assumption); (case r => first | assumption | exact rchain (by assumption) (by assumption) | exact rchain (by assumption) (rchain (by assumption) (by assumption)) | exact rchain (by assumption) (rchain (by assumption) (rchain (by assumption) (by assumption)))); (case r2 => first | assumption | exact rchain (by assumption) (by assumption) | exact rchain (by assumption) (rchain (by assumption) (by assumption)) | exact rchain (by assumption) (rchain (by assumption) (rchain (by assumption) (by assumption)))); rintro e w' ⟨o1, l1, k1, o2, l2, k2, rfl, hr', hs'⟩; have hc' := HCC.out _ hs'; obtain ⟨p0, p1, p2, y0⟩ := hs'.r0; obtain ⟨q0, q1, q2, y1⟩ := hs'.r1; have y2 := hs'.z0; have y3 := hs'.z1))
  all_goals
    have hT : StGr w (.slice ao la ac) (.slice bo lb bc) (.slice co lc cc) (.slice eo ld ec) a b c d w' := by assumption
    have hR : R w' (.slice o1 l1 k1) P ∧ R w' (.slice o2 l2 k2) Q := by assumption
    have HD := Lib.hid (hT.done hR)
    clear hT hR
    go_wp2
    obtain ⟨t1, t2, t3, t4, t5⟩ := HD.out
    refine bodyPost_ret (v := .agg #[.slice o1 l1 k1, .slice o2 l2 k2]) (by simp [results, Tryz.results17, go_sem, t3, t4]) rfl ⟨_, _, rfl, t1, t2, t5⟩
set_option maxHeartbeats 4000000 in
set_option maxRecDepth 100000 in
theorem RFDiv_any (v u x y : Value) (a b c d : Nat) (w : World) (hv : R w v a) (hu : R w u b) (hx : R w x c) (hy : R w y d) (hb0 : 0 < b) (_hd0 : 0 < d) (ha : nd 65536 a ≤ 200) (hb : nd 65536 b ≤ 200) (hc : nd 65536 c ≤ 200) (hd : nd 65536 d ≤ 200) (hc0 : 0 < c) :
    Calls Tryz.prog 19 #[.agg #[v, u], .agg #[x, y]] w fun e w' => ∃ r s, e = .returned (.agg #[r, s]) ∧ R w' r (lowP (a * d) (b * c)) ∧ R w' s (lowQ (a * d) (b * c)) ∧ Below w.heap.size w w' := by
  have hst0 := StGr.start hv hu hx hy
  obtain ⟨W0, hW0⟩ : ∃ W0 : World, W0 = ((w.alloc (.cells #[v, u] 29)).alloc (.cells #[x, y] 29)).alloc (.cells #[.slice none 0 0, .slice none 0 0] 29) := ⟨_, rfl⟩
  rw [← hW0] at hst0
  have g0 := nd_rmul ha hd
  have HM0 : Hid (∀ W, StGr w v u x y a b c d W → Calls Tryz.prog 47 #[v, y] W fun e w' => ∃ o l k, e = .returned (.slice o l k) ∧ R w' (.slice o l k) (a * d) ∧ Below W.heap.size W w' ∧ StGr w v u x y a b c d w') := fun W h =>
    (RMul_any _ _ _ _ W h.g.n1 h.g.n4 (by omega) (by omega)).mono fun e w' ⟨r, he, hr, hB⟩ => by
      obtain ⟨ro, rc, rfl, -⟩ := hr.shape
      exact ⟨ro, _, rc, he, hr, hB, h.next hB⟩
  have g1 := nd_rmul hb hc
  have HM1 : Hid (∀ W, StGr w v u x y a b c d W → Calls Tryz.prog 47 #[u, x] W fun e w' => ∃ o l k, e = .returned (.slice o l k) ∧ R w' (.slice o l k) (b * c) ∧ Below W.heap.size W w' ∧ StGr w v u x y a b c d w') := fun W h =>
    (RMul_any _ _ _ _ W h.g.n2 h.g.n3 (by omega) (by omega)).mono fun e w' ⟨r, he, hr, hB⟩ => by
      obtain ⟨ro, rc, rfl, -⟩ := hr.shape
      exact ⟨ro, _, rc, he, hr, hB, h.next hB⟩
  have hM0 : 0 < b * c := Nat.mul_pos hb0 hc0
  have HLO : Hid (∀ W p q, StGr w v u x y a b c d W → R W p (a * d) → R W q (b * c) → Calls Tryz.prog 36 #[p, q] W fun e w' => ∃ o l k o2 l2 k2, e = .returned (.agg #[.slice o l k, .slice o2 l2 k2]) ∧ (R w' (.slice o l k) (lowP (a * d) (b * c)) ∧ R w' (.slice o2 l2 k2) (lowQ (a * d) (b * c))) ∧ StGr w v u x y a b c d w') := fun W p q h hp hq =>
    (RLow_any p q _ _ W hp hq hM0 (by omega) (by omega)).mono fun e w' ⟨r, s, he, hr, hs, hB⟩ => by
      obtain ⟨ro, rc, rfl, -⟩ := hr.shape
      obtain ⟨so, sc, rfl, -⟩ := hs.shape
      exact ⟨ro, _, rc, so, _, sc, he, ⟨hr, hs⟩, h.next hB⟩
  have HSET : Hid (∀ W o l k o2 l2 k2, StGr w v u x y a b c d W → (((W.setCell ⟨w.heap.size + 1 + 1, 0, none⟩ (.slice o l k)).setCell ⟨w.heap.size + 1 + 1, 1, none⟩ (.slice o2 l2 k2)).cell? ⟨w.heap.size, 0, none⟩ = some v ∧ ((W.setCell ⟨w.heap.size + 1 + 1, 0, none⟩ (.slice o l k)).setCell ⟨w.heap.size + 1 + 1, 1, none⟩ (.slice o2 l2 k2)).cell? ⟨w.heap.size, 1, none⟩ = some u ∧ ((W.setCell ⟨w.heap.size + 1 + 1, 0, none⟩ (.slice o l k)).setCell ⟨w.heap.size + 1 + 1, 1, none⟩ (.slice o2 l2 k2)).cell? ⟨w.heap.size + 1, 0, none⟩ = some x ∧ ((W.setCell ⟨w.heap.size + 1 + 1, 0, none⟩ (.slice o l k)).setCell ⟨w.heap.size + 1 + 1, 1, none⟩ (.slice o2 l2 k2)).cell? ⟨w.heap.size + 1, 1, none⟩ = some y) ∧ StGr w v u x y a b c d ((W.setCell ⟨w.heap.size + 1 + 1, 0, none⟩ (.slice o l k)).setCell ⟨w.heap.size + 1 + 1, 1, none⟩ (.slice o2 l2 k2))) :=
    fun W o l k o2 l2 k2 h => ⟨(h.set o o2 l k l2 k2).g.c, h.set o o2 l k l2 k2⟩
  have HCC : Hid (∀ W, StGr w v u x y a b c d W → W.cell? ⟨w.heap.size, 0, none⟩ = some v ∧ W.cell? ⟨w.heap.size, 1, none⟩ = some u ∧ W.cell? ⟨w.heap.size + 1, 0, none⟩ = some x ∧ W.cell? ⟨w.heap.size + 1, 1, none⟩ = some y) := fun W h => h.g.c
  obtain ⟨ao, ac, rfl, -⟩ := hv.shape
  obtain ⟨bo, bc, rfl, -⟩ := hu.shape
  obtain ⟨co, cc, rfl, -⟩ := hx.shape
  obtain ⟨eo, ec, rfl, -⟩ := hy.shape
  have hs2 := hst0.next ((Below.refl _ _).drew)
  have hc0 := HCC.out _ hst0
  have hc2 := HCC.out _ hs2
  have HW0 := Lib.hid hW0
  clear hv hu hx hy hW0 hb0 _hd0 ha hb hc hd g0 g1 hM0
  generalize lowP (a * d) (b * c) = P at *
  generalize lowQ (a * d) (b * c) = Q at *
  generalize a * d = N0 at *
  generalize b * c = N1 at *
  generalize nd 65536 a = la at *
  generalize nd 65536 b = lb at *
  generalize nd 65536 c = lc at *
  generalize nd 65536 d = ld at *
  go_enter Tryz.func19, Tryz.ntmps19
  go_wp2_with fail
  rw [← HW0.out]
  go_region_held3 (fun W : World => (W.cell? ⟨w.heap.size, 0, none⟩ = some (.slice ao la ac) ∧ W.cell? ⟨w.heap.size, 1, none⟩ = some (.slice bo lb bc) ∧ W.cell? ⟨w.heap.size + 1, 0, none⟩ = some (.slice co lc cc) ∧ W.cell? ⟨w.heap.size + 1, 1, none⟩ = some (.slice eo ld ec)) ∧ StGr w (.slice ao la ac) (.slice bo lb bc) (.slice co lc cc) (.slice eo ld ec) a b c d W) (first | (refine And.intro ?_ ?_ <;> assumption) | (refine HSET.out _ _ _ _ _ _ _ ?_; assumption) | fail) (first
    | (go_at_call 47; with_reducible refine (HM0.out _ ?h).mono ?_; (case h => assumption); rintro e w' ⟨o1, l1, k1, rfl, hr', hB', hs'⟩; have hc' := HCC.out _ hs')
    | (go_at_call 47; with_reducible refine (HM1.out _ ?h).mono ?_; (case h => assumption); rintro e w' ⟨o1, l1, k1, rfl, hr', hB', hs'⟩; have hc' := HCC.out _ hs')
    | (go_at_call 36; with_reducible refine (HLO.out _ _ _ ?h ?r ?r2).mono ?_; (case h => assumption); (case r => first | assumption | exact rchain (by assumption) (by assumption) | exact rchain (by assumption) (rchain (by assumption) (by assumption)) | exact rchain (by assumption) (rchain (by assumption) (rchain (by assumption) (by assumption)))); (case r2 => first | assumption | exact rchain (by assumption) (by assumption) | exact rchain (by assumption) (rchain (by assumption) (by assumption)) | exact rchain (by assumption) (rchain (by assumption) (rchain (by assumption) (by assumption)))); rintro e w' ⟨o1, l1, k1, o2, l2, k2, rfl, hr', hs'⟩; have hc' := HCC.out _ hs'; obtain ⟨p0, p1, p2, y0⟩ := hs'.r0; obtain ⟨q0, q1, q2, y1⟩ := hs'.r1; have y2 := hs'.z0; have y3 := hs'.z1))
  all_goals
    have hT : StGr w (.slice ao la ac) (.slice bo lb bc) (.slice co lc cc) (.slice eo ld ec) a b c d w' := by assumption
    have hR : R w' (.slice o1 l1 k1) P ∧ R w' (.slice o2 l2 k2) Q := by assumption
    have HD := Lib.hid (hT.done hR)
    clear hT hR
    go_wp2
    obtain ⟨t1, t2, t3, t4, t5⟩ := HD.out
    refine bodyPost_ret (v := .agg #[.slice o1 l1 k1, .slice o2 l2 k2]) (by simp [results, Tryz.results19, go_sem, t3, t4]) rfl ⟨_, _, rfl, t1, t2, t5⟩
end Go.Proofs.YtepjpegfofhipaaGreatDoor
namespace Go.Proofs.YtepjpegfofhipaaGreatDoor
open Go Go.RowKit Gu

/-- what an operation on fractions gives: the quotient of L by M in lowest terms, or ErrRange -/
def FRes (L M : Nat) (w' : World) (e : Ending) (B : Nat) (w : World) : Prop :=
  ∃ r s, e = .returned (.tuple #[.agg #[r, s], .int .i64 (ffE (lowP L M) (lowQ L M))]) ∧ D w' r (ffN (lowP L M) (lowQ L M) (lowP L M)) ∧ D w' s (ffN (lowP L M) (lowQ L M) (lowQ L M)) ∧ Below B w w'
theorem nd_dmul {b d : Nat} (hb : nd 4294967296 b ≤ 100000) (hd : nd 4294967296 d ≤ 100000) : nd 4294967296 (dn b * dn d) ≤ 200000 := nd_mul (dn_nd hb (by decide)) (dn_nd hd (by decide))
set_option maxHeartbeats 2000000 in
theorem FAdd_any (v u x y : Value) (a b c d : Nat) (w : World) (hv : D w v a) (hu : D w u b) (hx : D w x c) (hy : D w y d) (ha : nd 4294967296 a ≤ 100000) (hb : nd 4294967296 b ≤ 100000) (hc : nd 4294967296 c ≤ 100000) (hd : nd 4294967296 d ≤ 100000) :
    Calls Tryz.prog 9 #[.agg #[v, u], .agg #[x, y]] w fun e w' => FRes (a * dn d + c * dn b) (dn b * dn d) w' e w.heap.size w := by
  have b3 : ∀ o1 o2 o3, Below w.heap.size w (((w.alloc o1).alloc o2).alloc o3) := fun o1 o2 o3 => (((Below.refl _ _).alloc (Nat.le_refl _) _).alloc (by simp) _).alloc (by simp; omega) _
  have HCR := Lib.hid (fun o1 o2 o3 => crossed_any v u x y a b c d (((w.alloc o1).alloc o2).alloc o3) (hv.below (b3 o1 o2 o3)) (hu.below (b3 o1 o2 o3)) (hx.below (b3 o1 o2 o3)) (hy.below (b3 o1 o2 o3)) ha hb hc hd)
  have h1 := nd_mul ha (dn_nd hd (by decide))
  have h2 := nd_mul hc (dn_nd hb (by decide))
  have h3 := nd_add h1 h2
  have h4 := nd_dmul hb hd
  have h5 : 0 < dn b * dn d := Nat.mul_pos (dn_pos b) (dn_pos d)
  have HSU := Lib.hid (fun v u W (h : D W v (a * dn d)) (h' : D W u (c * dn b)) => sum_any v u _ _ W h h' (by omega) (by omega))
  have HFF := Lib.hid (fun v u W (h : D W v (a * dn d + c * dn b)) (h' : D W u (dn b * dn d)) => fittingFrac_any v u _ _ W h h' h5 (by omega) (by omega))
  have HB := Lib.hid b3
  obtain ⟨ao, ac, rfl, -⟩ := hv.shape
  obtain ⟨bo, bc, rfl, -⟩ := hu.shape
  obtain ⟨co, cc, rfl, -⟩ := hx.shape
  obtain ⟨eo, ec, rfl, -⟩ := hy.shape
  clear hv hu hx hy b3 h1 h2 h3 h4 h5
  unfold FRes
  generalize a * dn d = L1 at *
  generalize c * dn b = L2 at *
  generalize L1 + L2 = L at *
  generalize dn b * dn d = M at *
  generalize ffE (lowP L M) (lowQ L M) = E at *
  generalize ffN (lowP L M) (lowQ L M) (lowP L M) = X at *
  generalize ffN (lowP L M) (lowQ L M) (lowQ L M) = Y at *
  go_enter Tryz.func9, Tryz.ntmps9
  go_wp2_with fail
  refine (HCR.out _ _ _).mono ?_
  rintro e w1 ⟨r1, r2, r3, rfl, hr1, hr2, hr3, hb1⟩
  have HB1 := Lib.hid hb1; have HR3 := Lib.hid hr3
  have HS1 := Lib.hid (HSU.out _ _ _ hr1 hr2)
  clear hb1 hr1 hr2 hr3
  go_wp2_with fail
  refine HS1.out.mono ?_
  rintro e w2 ⟨s1, rfl, hs1, hb2⟩
  have HB2 := Lib.hid (HB1.out.trans (hb2.mono HB1.out.size))
  have HF1 := Lib.hid (HFF.out _ _ _ hs1 (HR3.out.below hb2))
  clear hs1 hb2
  go_wp2_with fail
  refine HF1.out.mono ?_
  rintro e w3 ⟨r, s, rfl, hr, hs, hb3⟩
  have hbt := HB2.out.trans (hb3.mono HB2.out.size)
  clear hb3
  obtain ⟨ro, rc, rfl, -⟩ := hr.shape
  obtain ⟨so, sc, rfl, -⟩ := hs.shape
  have d0 : w3.cell? ⟨w.heap.size + 1 + 1, 0, none⟩ = some (.slice none 0 0) := (hbt.cell (p := ⟨w.heap.size + 1 + 1, 0, none⟩) (by simp)).trans (World.cell?_alloc_at _ _ _ _ (by simp))
  have g0 : w3.frozen? ⟨w.heap.size + 1 + 1, 0, none⟩ = false := (hbt.frozen (p := ⟨w.heap.size + 1 + 1, 0, none⟩) (by simp)).trans (World.frozen?_alloc_at _ _ _ _ (by simp))
  have d1 : w3.cell? ⟨w.heap.size + 1 + 1, 1, none⟩ = some (.slice none 0 0) := (hbt.cell (p := ⟨w.heap.size + 1 + 1, 1, none⟩) (by simp)).trans (World.cell?_alloc_at _ _ _ _ (by simp))
  have g1 : w3.frozen? ⟨w.heap.size + 1 + 1, 1, none⟩ = false := (hbt.frozen (p := ⟨w.heap.size + 1 + 1, 1, none⟩) (by simp)).trans (World.frozen?_alloc_at _ _ _ _ (by simp))
  have HTS := Lib.hid (two_store (B := w.heap.size + 1 + 1) hr hs d0 d1 ((HB.out _ _ _).trans (hbt.mono (HB.out _ _ _).size)) (by omega))
  clear hr hs hbt
  go_wp2
  obtain ⟨z1, z2, z3, z4, z5⟩ := HTS.out
  refine bodyPost_ret (v := .tuple #[.agg #[.slice ro (nd 4294967296 (X)) rc, .slice so (nd 4294967296 (Y)) sc], .int .i64 (E)]) (by simp [results, Tryz.results9, go_sem, z3, z4]) rfl ⟨_, _, rfl, z1, z2, z5⟩
set_option maxHeartbeats 2000000 in
theorem FMul_any (v u x y : Value) (a b c d : Nat) (w : World) (hv : D w v a) (hu : D w u b) (hx : D w x c) (hy : D w y d) (ha : nd 4294967296 a ≤ 100000) (hb : nd 4294967296 b ≤ 100000) (hc : nd 4294967296 c ≤ 100000) (hd : nd 4294967296 d ≤ 100000) :
    Calls Tryz.prog 10 #[.agg #[v, u], .agg #[x, y]] w fun e w' => FRes (a * c) (dn b * dn d) w' e w.heap.size w := by
  have b3 : ∀ o1 o2 o3, Below w.heap.size w (((w.alloc o1).alloc o2).alloc o3) := fun o1 o2 o3 => (((Below.refl _ _).alloc (Nat.le_refl _) _).alloc (by simp) _).alloc (by simp; omega) _
  have HT1 := Lib.hid (fun o1 o2 o3 => terms_any v u a b (((w.alloc o1).alloc o2).alloc o3) (hv.below (b3 o1 o2 o3)) (hu.below (b3 o1 o2 o3)))
  have HT2 := Lib.hid (fun o1 o2 o3 w' (h : Below (((w.alloc o1).alloc o2).alloc o3).heap.size (((w.alloc o1).alloc o2).alloc o3) w') => terms_any x y c d w' ((hx.below (b3 o1 o2 o3)).below h) ((hy.below (b3 o1 o2 o3)).below h))
  have h1 := nd_mul ha hc
  have h4 := nd_dmul hb hd
  have hdb := dn_nd hb (by decide)
  have hdd := dn_nd hd (by decide)
  have h5 : 0 < dn b * dn d := Nat.mul_pos (dn_pos b) (dn_pos d)
  have HA := Lib.hid (fun o1 o2 o3 => hv.below (b3 o1 o2 o3))
  have HC := Lib.hid (fun o1 o2 o3 => hx.below (b3 o1 o2 o3))
  have HP1 := Lib.hid (fun v u W (h : D W v a) (h' : D W u c) => product_any v u _ _ W h h' (by omega) (by omega))
  have HP2 := Lib.hid (fun v u W (h : D W v (dn b)) (h' : D W u (dn d)) => product_any v u _ _ W h h' (by omega) (by omega))
  have HFF := Lib.hid (fun v u W (h : D W v (a * c)) (h' : D W u (dn b * dn d)) => fittingFrac_any v u _ _ W h h' h5 (by omega) (by omega))
  have HB := Lib.hid b3
  obtain ⟨ao, ac, rfl, -⟩ := hv.shape
  obtain ⟨bo, bc, rfl, -⟩ := hu.shape
  obtain ⟨co, cc, rfl, -⟩ := hx.shape
  obtain ⟨eo, ec, rfl, -⟩ := hy.shape
  clear hv hu hx hy b3 h1 h4 h5 hdb hdd
  unfold FRes
  generalize a * c = L at *
  generalize dn b * dn d = M at *
  generalize dn b = B at *
  generalize dn d = F at *
  generalize ffE (lowP L M) (lowQ L M) = E at *
  generalize ffN (lowP L M) (lowQ L M) (lowP L M) = X at *
  generalize ffN (lowP L M) (lowQ L M) (lowQ L M) = Y at *
  go_enter Tryz.func10, Tryz.ntmps10
  go_wp2_with fail
  refine (HT1.out _ _ _).mono ?_
  rintro e w1 ⟨r1, rfl, hr1, hb1⟩
  obtain ⟨po, pc, rfl, -⟩ := hr1.shape
  have HB1 := Lib.hid hb1; have HR1 := Lib.hid hr1
  have e0 : w1.cell? ⟨w.heap.size + 1, 0, none⟩ = some (.slice co (nd 4294967296 c) cc) := (hb1.cell (p := ⟨w.heap.size + 1, 0, none⟩) (by simp <;> omega)).trans ((World.cell?_alloc_past _ _ _ (by simp)).trans (World.cell?_alloc_at _ _ _ _ (by simp)))
  have e1 : w1.cell? ⟨w.heap.size + 1, 1, none⟩ = some (.slice eo (nd 4294967296 d) ec) := (hb1.cell (p := ⟨w.heap.size + 1, 1, none⟩) (by simp <;> omega)).trans ((World.cell?_alloc_past _ _ _ (by simp)).trans (World.cell?_alloc_at _ _ _ _ (by simp)))
  clear hb1 hr1
  go_wp2_with fail
  refine (HT2.out _ _ _ _ HB1.out).mono ?_
  rintro e w2 ⟨r2, rfl, hr2, hb2⟩
  obtain ⟨qo, qc, rfl, -⟩ := hr2.shape
  have HB2 := Lib.hid (HB1.out.trans (hb2.mono HB1.out.size)); have HR2 := Lib.hid hr2; have HR1' := Lib.hid (HR1.out.below hb2)
  clear hb2 hr2 e0 e1
  have HQ1 := Lib.hid (HP1.out _ _ _ ((HA.out _ _ _).below HB2.out) ((HC.out _ _ _).below HB2.out))
  go_wp2_with fail
  refine HQ1.out.mono ?_
  rintro e w3 ⟨p1, rfl, hp1, hb3⟩
  have HB3 := Lib.hid (HB2.out.trans (hb3.mono HB2.out.size)); have HX1 := Lib.hid hp1
  have HQ2 := Lib.hid (HP2.out _ _ _ (HR1'.out.below hb3) (HR2.out.below hb3))
  clear hb3 hp1
  go_wp2_with fail
  refine HQ2.out.mono ?_
  rintro e w4 ⟨p2, rfl, hp2, hb4⟩
  have HB4 := Lib.hid (HB3.out.trans (hb4.mono HB3.out.size))
  have HF1 := Lib.hid (HFF.out _ _ _ (HX1.out.below hb4) hp2)
  clear hp2 hb4
  go_wp2_with fail
  refine HF1.out.mono ?_
  rintro e w5 ⟨r, s, rfl, hr, hs, hb5⟩
  have hbt := HB4.out.trans (hb5.mono HB4.out.size)
  clear hb5
  obtain ⟨ro, rc, rfl, -⟩ := hr.shape
  obtain ⟨so, sc, rfl, -⟩ := hs.shape
  have d0 : w5.cell? ⟨w.heap.size + 1 + 1, 0, none⟩ = some (.slice none 0 0) := (hbt.cell (p := ⟨w.heap.size + 1 + 1, 0, none⟩) (by simp)).trans (World.cell?_alloc_at _ _ _ _ (by simp))
  have g0 : w5.frozen? ⟨w.heap.size + 1 + 1, 0, none⟩ = false := (hbt.frozen (p := ⟨w.heap.size + 1 + 1, 0, none⟩) (by simp)).trans (World.frozen?_alloc_at _ _ _ _ (by simp))
  have d1 : w5.cell? ⟨w.heap.size + 1 + 1, 1, none⟩ = some (.slice none 0 0) := (hbt.cell (p := ⟨w.heap.size + 1 + 1, 1, none⟩) (by simp)).trans (World.cell?_alloc_at _ _ _ _ (by simp))
  have g1 : w5.frozen? ⟨w.heap.size + 1 + 1, 1, none⟩ = false := (hbt.frozen (p := ⟨w.heap.size + 1 + 1, 1, none⟩) (by simp)).trans (World.frozen?_alloc_at _ _ _ _ (by simp))
  have HTS := Lib.hid (two_store (B := w.heap.size + 1 + 1) hr hs d0 d1 ((HB.out _ _ _).trans (hbt.mono (HB.out _ _ _).size)) (by omega))
  clear hr hs hbt
  go_wp2
  obtain ⟨z1, z2, z3, z4, z5⟩ := HTS.out
  refine bodyPost_ret (v := .tuple #[.agg #[.slice ro (nd 4294967296 (X)) rc, .slice so (nd 4294967296 (Y)) sc], .int .i64 (E)]) (by simp [results, Tryz.results10, go_sem, z3, z4]) rfl ⟨_, _, rfl, z1, z2, z5⟩
set_option maxHeartbeats 2000000 in
theorem FSub_neg (v u x y : Value) (a b c d : Nat) (w : World) (hv : D w v a) (hu : D w u b) (hx : D w x c) (hy : D w y d) (ha : nd 4294967296 a ≤ 100000) (hb : nd 4294967296 b ≤ 100000) (hc : nd 4294967296 c ≤ 100000) (hd : nd 4294967296 d ≤ 100000) (hlt : a * dn d < c * dn b) :
    Calls Tryz.prog 16 #[.agg #[v, u], .agg #[x, y]] w fun e w' => e = .returned (.tuple #[.agg #[.slice none 0 0, .slice none 0 0], .int .i64 10]) ∧ Below w.heap.size w w' := by
  have b3 : ∀ o1 o2 o3, Below w.heap.size w (((w.alloc o1).alloc o2).alloc o3) := fun o1 o2 o3 => (((Below.refl _ _).alloc (Nat.le_refl _) _).alloc (by simp) _).alloc (by simp; omega) _
  have HCR := Lib.hid (fun o1 o2 o3 => crossed_any v u x y a b c d (((w.alloc o1).alloc o2).alloc o3) (hv.below (b3 o1 o2 o3)) (hu.below (b3 o1 o2 o3)) (hx.below (b3 o1 o2 o3)) (hy.below (b3 o1 o2 o3)) ha hb hc hd)
  have h1 := nd_mul ha (dn_nd hd (by decide))
  have h2 := nd_mul hc (dn_nd hb (by decide))
  have h4 := nd_dmul hb hd
  have h5 : 0 < dn b * dn d := Nat.mul_pos (dn_pos b) (dn_pos d)
  have HCM := Lib.hid (fun v u W (h : D W v (a * dn d)) (h' : D W u (c * dn b)) => compare_any v u _ _ W h h' (by omega) (by omega))
  have hcm : cmpN ((a * dn d : Nat) : Int) ((c * dn b : Nat) : Int) = -1 := cmpN_lt (by omega)
  rw [hcm] at HCM
  have HB := Lib.hid b3
  obtain ⟨ao, ac, rfl, -⟩ := hv.shape
  obtain ⟨bo, bc, rfl, -⟩ := hu.shape
  obtain ⟨co, cc, rfl, -⟩ := hx.shape
  obtain ⟨eo, ec, rfl, -⟩ := hy.shape
  clear hv hu hx hy b3 h1 h2 h4 h5 hcm hlt
  go_enter Tryz.func16, Tryz.ntmps16
  go_wp2_with fail
  refine (HCR.out _ _ _).mono ?_
  rintro e w1 ⟨r1, r2, r3, rfl, hr1, hr2, hr3, hb1⟩
  have HB1 := Lib.hid hb1
  have HC1 := Lib.hid (HCM.out _ _ _ hr1 hr2)
  clear hb1 hr1 hr2 hr3
  go_wp2_with fail
  refine HC1.out.mono ?_
  rintro e w2 ⟨rfl, k, rfl⟩
  have hbt := below_drewN HB1.out k
  have d0 : (w1.drewN k).cell? ⟨w.heap.size + 1 + 1, 0, none⟩ = some (.slice none 0 0) := (hbt.cell (p := ⟨w.heap.size + 1 + 1, 0, none⟩) (by simp)).trans (World.cell?_alloc_at _ _ _ _ (by simp))
  have g0 : (w1.drewN k).frozen? ⟨w.heap.size + 1 + 1, 0, none⟩ = false := (hbt.frozen (p := ⟨w.heap.size + 1 + 1, 0, none⟩) (by simp)).trans (World.frozen?_alloc_at _ _ _ _ (by simp))
  have d1 : (w1.drewN k).cell? ⟨w.heap.size + 1 + 1, 1, none⟩ = some (.slice none 0 0) := (hbt.cell (p := ⟨w.heap.size + 1 + 1, 1, none⟩) (by simp)).trans (World.cell?_alloc_at _ _ _ _ (by simp))
  have g1 : (w1.drewN k).frozen? ⟨w.heap.size + 1 + 1, 1, none⟩ = false := (hbt.frozen (p := ⟨w.heap.size + 1 + 1, 1, none⟩) (by simp)).trans (World.frozen?_alloc_at _ _ _ _ (by simp))
  have HBE := Lib.hid (((HB.out _ _ _).trans (hbt.mono (HB.out _ _ _).size)))
  clear hbt
  obtain ⟨z3, z4⟩ := read_two d0 d1 (.slice none 0 0) (.slice none 0 0)
  have Z3 := Lib.hid z3; have Z4 := Lib.hid z4
  clear z3 z4
  go_wp2
  have z3 := Z3.out; have z4 := Z4.out
  refine bodyPost_ret (v := .tuple #[.agg #[.slice none 0 0, .slice none 0 0], .int .i64 10]) (by simp [results, Tryz.results16, go_sem, z3, z4]) rfl ⟨rfl, (HBE.out.setCell (by show w.heap.size ≤ w.heap.size + 1 + 1; omega) _).setCell (by show w.heap.size ≤ w.heap.size + 1 + 1; omega) _⟩
set_option maxHeartbeats 2000000 in
theorem FSub_any (v u x y : Value) (a b c d : Nat) (w : World) (hv : D w v a) (hu : D w u b) (hx : D w x c) (hy : D w y d) (ha : nd 4294967296 a ≤ 100000) (hb : nd 4294967296 b ≤ 100000) (hc : nd 4294967296 c ≤ 100000) (hd : nd 4294967296 d ≤ 100000) (hle : c * dn b ≤ a * dn d) :
    Calls Tryz.prog 16 #[.agg #[v, u], .agg #[x, y]] w fun e w' => FRes (a * dn d - c * dn b) (dn b * dn d) w' e w.heap.size w := by
  have b3 : ∀ o1 o2 o3, Below w.heap.size w (((w.alloc o1).alloc o2).alloc o3) := fun o1 o2 o3 => (((Below.refl _ _).alloc (Nat.le_refl _) _).alloc (by simp) _).alloc (by simp; omega) _
  have HCR := Lib.hid (fun o1 o2 o3 => crossed_any v u x y a b c d (((w.alloc o1).alloc o2).alloc o3) (hv.below (b3 o1 o2 o3)) (hu.below (b3 o1 o2 o3)) (hx.below (b3 o1 o2 o3)) (hy.below (b3 o1 o2 o3)) ha hb hc hd)
  have h1 := nd_mul ha (dn_nd hd (by decide))
  have h2 := nd_mul hc (dn_nd hb (by decide))
  have h4 := nd_dmul hb hd
  have h5 : 0 < dn b * dn d := Nat.mul_pos (dn_pos b) (dn_pos d)
  have HCM := Lib.hid (fun v u W (h : D W v (a * dn d)) (h' : D W u (c * dn b)) => compare_any v u _ _ W h h' (by omega) (by omega))
  have hcm : 0 ≤ cmpN ((a * dn d : Nat) : Int) ((c * dn b : Nat) : Int) := by
    rcases Nat.lt_or_eq_of_le hle with h | h
    · rw [cmpN_gt (by omega)]; decide
    · rw [cmpN_eq (by omega)]; decide
  have h3 : nd 4294967296 (a * dn d - c * dn b) ≤ 200000 := Nat.le_trans (nd_mono (by decide) (Nat.sub_le _ _)) h1
  have HDI := Lib.hid (fun v u W (h : D W v (a * dn d)) (h' : D W u (c * dn b)) => difference_any v u _ _ W h h' (by omega) (by omega) hle)
  have HFF := Lib.hid (fun v u W (h : D W v (a * dn d - c * dn b)) (h' : D W u (dn b * dn d)) => fittingFrac_any v u _ _ W h h' h5 (by omega) (by omega))
  have HB := Lib.hid b3
  obtain ⟨ao, ac, rfl, -⟩ := hv.shape
  obtain ⟨bo, bc, rfl, -⟩ := hu.shape
  obtain ⟨co, cc, rfl, -⟩ := hx.shape
  obtain ⟨eo, ec, rfl, -⟩ := hy.shape
  clear hv hu hx hy b3 h1 h2 h3 h4 h5 hle
  unfold FRes
  generalize a * dn d = L1 at *
  generalize c * dn b = L2 at *
  generalize L1 - L2 = L at *
  generalize dn b * dn d = M at *
  generalize ffE (lowP L M) (lowQ L M) = E at *
  generalize ffN (lowP L M) (lowQ L M) (lowP L M) = X at *
  generalize ffN (lowP L M) (lowQ L M) (lowQ L M) = Y at *
  generalize cmpN ((L1 : Nat) : Int) ((L2 : Nat) : Int) = cm at *
  go_enter Tryz.func16, Tryz.ntmps16
  go_wp2_with fail
  refine (HCR.out _ _ _).mono ?_
  rintro e w1 ⟨r1, r2, r3, rfl, hr1, hr2, hr3, hb1⟩
  have HB1 := Lib.hid hb1; have HR3 := Lib.hid hr3
  have HC1 := Lib.hid (HCM.out _ _ _ hr1 hr2)
  have HD1 := Lib.hid (fun k => HDI.out _ _ (w1.drewN k) (hr1.below (below_drewN (Below.refl _ _) k)) (hr2.below (below_drewN (Below.refl _ _) k)))
  clear hb1 hr1 hr2 hr3
  go_wp2_with fail
  refine HC1.out.mono ?_
  rintro e w2 ⟨rfl, k, rfl⟩
  go_wp2_with fail
  refine (HD1.out k).mono ?_
  rintro e w2 ⟨s1, rfl, hs1, hb2⟩
  have HB2 := Lib.hid ((below_drewN HB1.out k).trans (hb2.mono (below_drewN HB1.out k).size))
  have HF1 := Lib.hid (HFF.out _ _ _ hs1 ((HR3.out.below (below_drewN (Below.refl _ _) k)).below hb2))
  clear hs1 hb2
  go_wp2_with fail
  refine HF1.out.mono ?_
  rintro e w3 ⟨r, s, rfl, hr, hs, hb3⟩
  have hbt := HB2.out.trans (hb3.mono HB2.out.size)
  clear hb3
  obtain ⟨ro, rc, rfl, -⟩ := hr.shape
  obtain ⟨so, sc, rfl, -⟩ := hs.shape
  have d0 : w3.cell? ⟨w.heap.size + 1 + 1, 0, none⟩ = some (.slice none 0 0) := (hbt.cell (p := ⟨w.heap.size + 1 + 1, 0, none⟩) (by simp)).trans (World.cell?_alloc_at _ _ _ _ (by simp))
  have g0 : w3.frozen? ⟨w.heap.size + 1 + 1, 0, none⟩ = false := (hbt.frozen (p := ⟨w.heap.size + 1 + 1, 0, none⟩) (by simp)).trans (World.frozen?_alloc_at _ _ _ _ (by simp))
  have d1 : w3.cell? ⟨w.heap.size + 1 + 1, 1, none⟩ = some (.slice none 0 0) := (hbt.cell (p := ⟨w.heap.size + 1 + 1, 1, none⟩) (by simp)).trans (World.cell?_alloc_at _ _ _ _ (by simp))
  have g1 : w3.frozen? ⟨w.heap.size + 1 + 1, 1, none⟩ = false := (hbt.frozen (p := ⟨w.heap.size + 1 + 1, 1, none⟩) (by simp)).trans (World.frozen?_alloc_at _ _ _ _ (by simp))
  have HTS := Lib.hid (two_store (B := w.heap.size + 1 + 1) hr hs d0 d1 ((HB.out _ _ _).trans (hbt.mono (HB.out _ _ _).size)) (by omega))
  clear hr hs hbt
  go_wp2
  obtain ⟨z1, z2, z3, z4, z5⟩ := HTS.out
  refine bodyPost_ret (v := .tuple #[.agg #[.slice ro (nd 4294967296 (X)) rc, .slice so (nd 4294967296 (Y)) sc], .int .i64 (E)]) (by simp [results, Tryz.results16, go_sem, z3, z4]) rfl ⟨_, _, rfl, z1, z2, z5⟩
set_option maxHeartbeats 2000000 in
theorem FDiv_zero (v u x y : Value) (a b d : Nat) (w : World) (hv : D w v a) (hu : D w u b) (hx : D w x 0) (hy : D w y d) :
    Calls Tryz.prog 18 #[.agg #[v, u], .agg #[x, y]] w fun e w' => e = .returned (.tuple #[.agg #[.slice none 0 0, .slice none 0 0], .int .i64 11]) ∧ Below w.heap.size w w' := by
  have b3 : ∀ o1 o2 o3, Below w.heap.size w (((w.alloc o1).alloc o2).alloc o3) := fun o1 o2 o3 => (((Below.refl _ _).alloc (Nat.le_refl _) _).alloc (by simp) _).alloc (by simp; omega) _
  have HZ := Lib.hid (fun o1 o2 o3 => isZero_any x 0 (((w.alloc o1).alloc o2).alloc o3) (hx.below (b3 o1 o2 o3)))
  rw [show decide ((0 : Nat) = 0) = true from rfl] at HZ
  have HB := Lib.hid b3
  obtain ⟨ao, ac, rfl, -⟩ := hv.shape
  obtain ⟨bo, bc, rfl, -⟩ := hu.shape
  obtain ⟨co, cc, rfl, -⟩ := hx.shape
  obtain ⟨eo, ec, rfl, -⟩ := hy.shape
  clear hv hu hx hy b3
  go_enter Tryz.func18, Tryz.ntmps18
  go_wp2_with fail
  refine (HZ.out _ _ _).mono ?_
  rintro e w1 ⟨rfl, rfl⟩
  go_wp2
  refine bodyPost_ret (v := .tuple #[.agg #[.slice none 0 0, .slice none 0 0], .int .i64 11]) (by simp [results, Tryz.results18, go_sem]) rfl ⟨rfl, HB.out _ _ _⟩
set_option maxHeartbeats 2000000 in
theorem FDiv_any (v u x y : Value) (a b c d : Nat) (w : World) (hv : D w v a) (hu : D w u b) (hx : D w x c) (hy : D w y d) (ha : nd 4294967296 a ≤ 100000) (hb : nd 4294967296 b ≤ 100000) (hc : nd 4294967296 c ≤ 100000) (hd : nd 4294967296 d ≤ 100000) (hc0 : 0 < c) :
    Calls Tryz.prog 18 #[.agg #[v, u], .agg #[x, y]] w fun e w' => FRes (a * dn d) (c * dn b) w' e w.heap.size w := by
  have b3 : ∀ o1 o2 o3, Below w.heap.size w (((w.alloc o1).alloc o2).alloc o3) := fun o1 o2 o3 => (((Below.refl _ _).alloc (Nat.le_refl _) _).alloc (by simp) _).alloc (by simp; omega) _
  have HCR := Lib.hid (fun o1 o2 o3 => crossed_any v u x y a b c d (((w.alloc o1).alloc o2).alloc o3) (hv.below (b3 o1 o2 o3)) (hu.below (b3 o1 o2 o3)) (hx.below (b3 o1 o2 o3)) (hy.below (b3 o1 o2 o3)) ha hb hc hd)
  have HZ := Lib.hid (fun o1 o2 o3 => isZero_any x c (((w.alloc o1).alloc o2).alloc o3) (hx.below (b3 o1 o2 o3)))
  rw [show decide (c = 0) = false from decide_eq_false (by omega)] at HZ
  have h1 := nd_mul ha (dn_nd hd (by decide))
  have h2 := nd_mul hc (dn_nd hb (by decide))
  have h5 : 0 < c * dn b := Nat.mul_pos hc0 (dn_pos b)
  have HFF := Lib.hid (fun v u W (h : D W v (a * dn d)) (h' : D W u (c * dn b)) => fittingFrac_any v u _ _ W h h' h5 (by omega) (by omega))
  have HB := Lib.hid b3
  obtain ⟨ao, ac, rfl, -⟩ := hv.shape
  obtain ⟨bo, bc, rfl, -⟩ := hu.shape
  obtain ⟨co, cc, rfl, -⟩ := hx.shape
  obtain ⟨eo, ec, rfl, -⟩ := hy.shape
  clear hv hu hx hy b3 h1 h2 h5
  unfold FRes
  generalize a * dn d = L at *
  generalize c * dn b = M at *
  generalize ffE (lowP L M) (lowQ L M) = E at *
  generalize ffN (lowP L M) (lowQ L M) (lowP L M) = X at *
  generalize ffN (lowP L M) (lowQ L M) (lowQ L M) = Y at *
  go_enter Tryz.func18, Tryz.ntmps18
  go_wp2_with fail
  refine (HZ.out _ _ _).mono ?_
  rintro e w0 ⟨rfl, rfl⟩
  go_wp2_with fail
  refine (HCR.out _ _ _).mono ?_
  rintro e w1 ⟨r1, r2, r3, rfl, hr1, hr2, hr3, hb1⟩
  have HB1 := Lib.hid hb1
  have HF1 := Lib.hid (HFF.out _ _ _ hr1 hr2)
  clear hb1 hr1 hr2 hr3
  go_wp2_with fail
  refine HF1.out.mono ?_
  rintro e w3 ⟨r, s, rfl, hr, hs, hb3⟩
  have hbt := HB1.out.trans (hb3.mono HB1.out.size)
  clear hb3
  obtain ⟨ro, rc, rfl, -⟩ := hr.shape
  obtain ⟨so, sc, rfl, -⟩ := hs.shape
  have d0 : w3.cell? ⟨w.heap.size + 1 + 1, 0, none⟩ = some (.slice none 0 0) := (hbt.cell (p := ⟨w.heap.size + 1 + 1, 0, none⟩) (by simp)).trans (World.cell?_alloc_at _ _ _ _ (by simp))
  have g0 : w3.frozen? ⟨w.heap.size + 1 + 1, 0, none⟩ = false := (hbt.frozen (p := ⟨w.heap.size + 1 + 1, 0, none⟩) (by simp)).trans (World.frozen?_alloc_at _ _ _ _ (by simp))
  have d1 : w3.cell? ⟨w.heap.size + 1 + 1, 1, none⟩ = some (.slice none 0 0) := (hbt.cell (p := ⟨w.heap.size + 1 + 1, 1, none⟩) (by simp)).trans (World.cell?_alloc_at _ _ _ _ (by simp))
  have g1 : w3.frozen? ⟨w.heap.size + 1 + 1, 1, none⟩ = false := (hbt.frozen (p := ⟨w.heap.size + 1 + 1, 1, none⟩) (by simp)).trans (World.frozen?_alloc_at _ _ _ _ (by simp))
  have HTS := Lib.hid (two_store (B := w.heap.size + 1 + 1) hr hs d0 d1 ((HB.out _ _ _).trans (hbt.mono (HB.out _ _ _).size)) (by omega))
  clear hr hs hbt
  go_wp2
  obtain ⟨z1, z2, z3, z4, z5⟩ := HTS.out
  refine bodyPost_ret (v := .tuple #[.agg #[.slice ro (nd 4294967296 (X)) rc, .slice so (nd 4294967296 (Y)) sc], .int .i64 (E)]) (by simp [results, Tryz.results18, go_sem, z3, z4]) rfl ⟨_, _, rfl, z1, z2, z5⟩
end Go.Proofs.YtepjpegfofhipaaGreatDoor
