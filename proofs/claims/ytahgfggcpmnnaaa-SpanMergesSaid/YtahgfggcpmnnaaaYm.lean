/- The box of glue's run, and what glue asks of its callees. -/
import Derived.Test.YtahgfggcpmnnaaaYl
import Derived.WalkSmall
namespace Go.Proofs.Ytahgfggcpmnnaaa
open Go Go.RowKit Gs

/-- the box of a run behind W, in a later world -/
structure Bq (W : World) (lo hi tag : Int) (W' : World) : Prop where
  c0 : W'.cell? ⟨W.heap.size, 0, none⟩ = some (.int .i64 lo)
  c1 : W'.cell? ⟨W.heap.size, 1, none⟩ = some (.int .i64 hi)
  c2 : W'.cell? ⟨W.heap.size, 2, none⟩ = some (.int .i64 tag)
  f0 : W'.frozen? ⟨W.heap.size, 0, none⟩ = false
  f1 : W'.frozen? ⟨W.heap.size, 1, none⟩ = false
  f2 : W'.frozen? ⟨W.heap.size, 2, none⟩ = false
  c22 : W'.cell? ⟨W.heap.size, 22, none⟩ = none
  lt : W.heap.size < W'.heap.size
  bel : Below W.heap.size W W'
section
variable {W W' W2 : World} {lo hi tag : Int}
theorem Bq.next (h : Bq W lo hi tag W') (hb : Below W'.heap.size W' W2) : Bq W lo hi tag W2 :=
  ⟨(hb.cell (p := ⟨W.heap.size, 0, none⟩) h.lt).trans h.c0, (hb.cell (p := ⟨W.heap.size, 1, none⟩) h.lt).trans h.c1, (hb.cell (p := ⟨W.heap.size, 2, none⟩) h.lt).trans h.c2,
   (hb.frozen (p := ⟨W.heap.size, 0, none⟩) h.lt).trans h.f0, (hb.frozen (p := ⟨W.heap.size, 1, none⟩) h.lt).trans h.f1, (hb.frozen (p := ⟨W.heap.size, 2, none⟩) h.lt).trans h.f2, (hb.cell (p := ⟨W.heap.size, 22, none⟩) h.lt).trans h.c22, Nat.lt_of_lt_of_le h.lt hb.size, h.bel.trans (hb.mono h.bel.size)⟩
theorem Bq.drew (h : Bq W lo hi tag W') : Bq W lo hi tag W'.drew := h.next (Below.refl _ _).drew
theorem Bq.drewN (h : Bq W lo hi tag W') (k : Nat) : Bq W lo hi tag (W'.drewN k) := h.next (below_drewN (Below.refl _ _) k)
theorem Bq.new (W : World) (lo hi tag : Int) (Ty : TypeId) : Bq W lo hi tag (W.alloc (.cells #[.int .i64 lo, .int .i64 hi, .int .i64 tag] Ty)) :=
  ⟨World.cell?_alloc_at _ _ _ _ rfl, World.cell?_alloc_at _ _ _ _ rfl, World.cell?_alloc_at _ _ _ _ rfl, World.frozen?_alloc_at _ _ _ _ rfl, World.frozen?_alloc_at _ _ _ _ rfl, World.frozen?_alloc_at _ _ _ _ rfl, World.cell?_alloc_at _ _ _ _ rfl, by simp, (Below.refl _ _).alloc (Nat.le_refl _) _⟩
theorem Bq.put (h : Bq W lo hi tag W') (x : Int) : Bq W x hi tag (W'.setCell ⟨W.heap.size, 0, none⟩ (.int .i64 x)) :=
  ⟨World.cell?_setCell_same _ _ _ h.c0, (World.cell?_setCell_other _ _ _ _ (by intro e; cases e)).trans h.c1, (World.cell?_setCell_other _ _ _ _ (by intro e; cases e)).trans h.c2,
   (World.frozen?_setCell _ _ _ _).trans h.f0, (World.frozen?_setCell _ _ _ _).trans h.f1, (World.frozen?_setCell _ _ _ _).trans h.f2, (World.cell?_setCell_other _ _ _ _ (by intro e; cases e)).trans h.c22, by rw [World.size_setCell]; exact h.lt, h.bel.setCell (Nat.le_refl _) _⟩
theorem Bq.put1 (h : Bq W lo hi tag W') (x : Int) : Bq W lo x tag (W'.setCell ⟨W.heap.size, 1, none⟩ (.int .i64 x)) :=
  ⟨(World.cell?_setCell_other _ _ _ _ (by intro e; cases e)).trans h.c0, World.cell?_setCell_same _ _ _ h.c1, (World.cell?_setCell_other _ _ _ _ (by intro e; cases e)).trans h.c2,
   (World.frozen?_setCell _ _ _ _).trans h.f0, (World.frozen?_setCell _ _ _ _).trans h.f1, (World.frozen?_setCell _ _ _ _).trans h.f2, (World.cell?_setCell_other _ _ _ _ (by intro e; cases e)).trans h.c22, by rw [World.size_setCell]; exact h.lt, h.bel.setCell (Nat.le_refl _) _⟩
theorem Bq.put2 (h : Bq W lo hi tag W') (x : Int) : Bq W lo hi x (W'.setCell ⟨W.heap.size, 2, none⟩ (.int .i64 x)) :=
  ⟨(World.cell?_setCell_other _ _ _ _ (by intro e; cases e)).trans h.c0, (World.cell?_setCell_other _ _ _ _ (by intro e; cases e)).trans h.c1, World.cell?_setCell_same _ _ _ h.c2,
   (World.frozen?_setCell _ _ _ _).trans h.f0, (World.frozen?_setCell _ _ _ _).trans h.f1, (World.frozen?_setCell _ _ _ _).trans h.f2, (World.cell?_setCell_other _ _ _ _ (by intro e; cases e)).trans h.c22, by rw [World.size_setCell]; exact h.lt, h.bel.setCell (Nat.le_refl _) _⟩
end
theorem IsT.set {W : World} {B i : Nat} {u : Value} (h22 : W.cell? ⟨B, 22, none⟩ = none) : ∀ {t : T} {v : Value}, IsT W t v → IsT (W.setCell ⟨B, i, none⟩ u) t v
  | .nil, _, h => h
  | .node _ _ _, _, ⟨b, x, y, hv, hr, hl, hk⟩ => ⟨b, x, y, hv, hr.setOther (a := ⟨B, i, none⟩) (by
      intro e
      have e : b = B := e
      subst e
      have h1 := hr.cell (i := 22) (by decide)
      rw [h22] at h1
      cases h1) _, IsT.set h22 hl, IsT.set h22 hk⟩
/-- a tree that fits f from a to b, with at most n runs -/
def Tr (f : Int → Int) (a b : Int) (n : Nat) (W : World) (p : Option Addr) : Prop := ∃ t, IsT W t (.pointer p) ∧ Gs.Can f a t.L b ∧ t.sz ≤ n
theorem Tr.below {f : Int → Int} {a b : Int} {n : Nat} {W W' : World} {p : Option Addr} (h : Tr f a b n W p) (hb : Below W.heap.size W W') : Tr f a b n W' p := by
  obtain ⟨t, h1, h2⟩ := h
  exact ⟨t, IsT.below hb h1, h2⟩
theorem Tr.set {f : Int → Int} {a b : Int} {n B i : Nat} {W : World} {p : Option Addr} (h : Tr f a b n W p) (h22 : W.cell? ⟨B, 22, none⟩ = none) (u : Value) : Tr f a b n (W.setCell ⟨B, i, none⟩ u) p := by
  obtain ⟨t, h1, h2⟩ := h
  exact ⟨t, IsT.set h22 h1, h2⟩
theorem Tr.le {f : Int → Int} {a b : Int} {n : Nat} {W : World} {p : Option Addr} (h : Tr f a b n W p) : a ≤ b := by
  obtain ⟨t, _, h2, _⟩ := h
  exact h2.le
theorem Tr.mono {f : Int → Int} {a b : Int} {n m : Nat} {W : World} {p : Option Addr} (h : Tr f a b n W p) (hm : n ≤ m) : Tr f a b m W p := by
  obtain ⟨t, h1, h2, h3⟩ := h
  exact ⟨t, h1, h2, by omega⟩
theorem Tr.congr {f g : Int → Int} {a b : Int} {n : Nat} {W : World} {p : Option Addr} (h : Tr f a b n W p) (e : ∀ x, a ≤ x → x < b → f x = g x) : Tr g a b n W p := by
  obtain ⟨t, h1, h2, h3⟩ := h
  exact ⟨t, h1, h2.congr e, h3⟩
/-- the left part is empty, or its last run is known -/
theorem Tr.last {f : Int → Int} {a m : Int} {n : Nat} {W : World} {p : Option Addr} (h : Tr f a m n W p) :
    (p = none ∧ a = m) ∨ ∃ b ylo ytag, p = some ⟨b, 0, none⟩ ∧ (∀ W', Below W.heap.size W W' → Calls Try.prog 76 #[.pointer (some ⟨b, 0, none⟩)] W' fun e w' => e = .returned (.agg #[.int .i64 ylo, .int .i64 m, .int .i64 ytag]) ∧ Below W'.heap.size W' w') ∧
      ylo < m ∧ a ≤ ylo ∧ (∀ x, ylo ≤ x → x < m → f x = ytag) ∧ (a < ylo → f (ylo - 1) ≠ f ylo) := by
  obtain ⟨t, h1, h2, h3⟩ := h
  cases t with
  | nil =>
    have e : a = m := by have := h2.1; simpa [T.L, Fits] using this
    exact .inl ⟨isT_nil h1, e⟩
  | node l r k =>
    obtain ⟨b, u, v, rfl, _⟩ := h1.open
    obtain ⟨y, hy⟩ : ∃ y, (T.node l r k).L.getLast? = some y := ⟨_, List.getLast?_eq_some_getLast (T.L_ne l k r)⟩
    obtain ⟨e1, e2, e3, e4, e5⟩ := h2.last hy
    obtain ⟨ylo, yhi, ytag⟩ := y
    simp only at e1 e2 e3 e4 e5
    subst e1
    refine .inr ⟨b, ylo, ytag, rfl, fun W' hb => (last_any l k r _ W' (IsT.below hb h1)).mono ?_, e2, e3, e4, e5⟩
    rintro e w' ⟨lo, hi, tag, rfl, he, hB⟩
    rw [he.out] at hy
    injection hy with hy
    injection hy with g1 g2 g3
    subst g1; subst g2; subst g3
    exact ⟨rfl, hB⟩
theorem Tr.first {f : Int → Int} {m b' : Int} {n : Nat} {W : World} {p : Option Addr} (h : Tr f m b' n W p) :
    (p = none ∧ m = b') ∨ ∃ b yhi ytag, p = some ⟨b, 0, none⟩ ∧ (∀ W', Below W.heap.size W W' → Calls Try.prog 77 #[.pointer (some ⟨b, 0, none⟩)] W' fun e w' => e = .returned (.agg #[.int .i64 m, .int .i64 yhi, .int .i64 ytag]) ∧ Below W'.heap.size W' w') ∧
      m < yhi ∧ yhi ≤ b' ∧ (∀ x, m ≤ x → x < yhi → f x = ytag) ∧ (yhi < b' → f (yhi - 1) ≠ f yhi) := by
  obtain ⟨t, h1, h2, h3⟩ := h
  cases t with
  | nil =>
    have e : m = b' := by have := h2.1; simpa [T.L, Fits] using this
    exact .inl ⟨isT_nil h1, e⟩
  | node l r k =>
    obtain ⟨b, u, v, rfl, _⟩ := h1.open
    obtain ⟨y, hy⟩ : ∃ y, (T.node l r k).L.head? = some y := by
      cases hh : (T.node l r k).L with
      | nil => exact absurd hh (T.L_ne l k r)
      | cons y z => exact ⟨y, rfl⟩
    obtain ⟨e1, e2, e3, e4, e5⟩ := h2.first hy
    obtain ⟨ylo, yhi, ytag⟩ := y
    simp only at e1 e2 e3 e4 e5
    subst e1
    refine .inr ⟨b, yhi, ytag, rfl, fun W' hb => (first_any l k r _ W' (IsT.below hb h1)).mono ?_, e2, e3, e4, e5⟩
    rintro e w' ⟨lo, hi, tag, rfl, he, hB⟩
    rw [he.out] at hy
    injection hy with hy
    injection hy with g1 g2 g3
    subst g1; subst g2; subst g3
    exact ⟨rfl, hB⟩
/-- split, of a tree that fits -/
theorem Tr.split {f : Int → Int} {a b at' : Int} {n : Nat} {W : World} {p : Option Addr} (h : Tr f a b n W p) (hx : Ctx f a b) (hn : n ≤ 50000) (h1 : a ≤ at') (h2 : at' ≤ b) :
    Calls Try.prog 75 #[.pointer p, .int .i64 at'] W fun e w' => ∃ x y, e = .returned (.tuple #[.pointer x, .pointer y]) ∧ Hid (Tr f a at' n w' x) ∧ Hid (Tr f at' b n w' y) ∧ Below W.heap.size W w' := by
  obtain ⟨t, t1, t2, t3⟩ := h
  refine (split_any f at' t a b p W t1 t2 hx (by omega)).mono ?_
  rintro e w' ⟨x, y, s1, s2, rfl, hX, hY, hT, hB⟩
  have hm : max a (min at' b) = at' := by omega
  rw [hm] at hT
  exact ⟨x, y, rfl, ⟨s1, hX.out, hT.out.1, by have := hT.out.2.2.1; omega⟩, ⟨s2, hY.out, hT.out.2.1, by have := hT.out.2.2.2; omega⟩, hB⟩
/-- join, of trees that fit -/
theorem Tr.join {f : Int → Int} {a b lo hi tag : Int} {n m : Nat} {W : World} {p q : Option Addr} (h : Tr f a lo n W p) (h' : Tr f hi b m W q) (hx : Ctx f a b) (hn : n + m ≤ 90000) (h1 : lo < hi) (h2 : ∀ x, lo ≤ x → x < hi → f x = tag) (h3 : a < lo → f (lo - 1) ≠ f lo) (h4 : hi < b → f (hi - 1) ≠ f hi) :
    Calls Try.prog 78 #[.pointer p, .agg #[.int .i64 lo, .int .i64 hi, .int .i64 tag], .pointer q] W fun e w' => ∃ g, e = .returned (.pointer (some ⟨g, 0, none⟩)) ∧ Hid (Tr f a b (n + m + 1) w' (some ⟨g, 0, none⟩)) ∧ Below W.heap.size W w' := by
  obtain ⟨t, t1, t2, t3⟩ := h
  obtain ⟨s, s1, s2, s3⟩ := h'
  have hm := Gs.Can.make (r := ⟨lo, hi, tag⟩) t2 s2 h1 h2 h3 h4
  refine (join_any t s lo hi tag p q W t1 s1 (bd_of hm.1 hx ?_)).mono ?_
  · have := t.sz_eq; have := s.sz_eq; simp; omega
  · rintro e w' ⟨g, r, rfl, hr, hL, hB⟩
    refine ⟨g, rfl, ⟨r, hr, by rw [hL]; exact hm, ?_⟩, hB⟩
    have := t.sz_eq; have := s.sz_eq
    rw [T.sz_eq, hL]; simp; omega
end Go.Proofs.Ytahgfggcpmnnaaa
