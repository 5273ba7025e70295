/- Contracts and lemmas (several texts merged into one). -/
import Derived.Test.YtgblfobomiiofaaTSer7
import Derived.Maps.OwnIn
namespace Go.Proofs.Ytgblfobomiiofaa
open Go Go.RowKit Go.Shelf Gw Go.Maps

/-- the marks of the blocks ds -/
def marks (ds : List Nat) : List Deferred := ds.map fun d => { target := .collected d, args := #[] }
/-- blocks in which no call is held -/
def Held (n0 : Nat) (ds : List Nat) (W : World) : Prop := ds.Nodup ∧ ∀ d ∈ ds, n0 ≤ d ∧ W.heap[d]? = some (.deferred (some []))
theorem Held.nil (n0 : Nat) (W : World) : Held n0 [] W := ⟨List.nodup_nil, fun d h => by simp at h⟩
theorem Held.kept {n0 : Nat} {ds : List Nat} {W W' : World} (h : Held n0 ds W) (hk : ∀ d, n0 ≤ d → W.heap[d]? = some (.deferred (some [])) → W'.heap[d]? = some (.deferred (some []))) : Held n0 ds W' :=
  ⟨h.1, fun d hd => ⟨(h.2 d hd).1, hk d (h.2 d hd).1 (h.2 d hd).2⟩⟩
theorem Held.cons {n0 : Nat} {ds : List Nat} {W : World} {d : Nat} (h : Held n0 ds W) (hd : W.heap[d]? = some (.deferred (some []))) (hn : ∀ e ∈ ds, e ≠ d) (h0 : n0 ≤ d) : Held n0 (d :: ds) W :=
  ⟨List.nodup_cons.2 ⟨fun hm => hn d hm rfl, h.1⟩, fun e he => by
    rcases List.mem_cons.1 he with rfl | he
    · exact ⟨h0, hd⟩
    · exact h.2 e he⟩
theorem leaves_marks {F : Fence} {n : Nat} {P : Program} {fn : Func} {tmps : Array Value} {R : Ending → World → Prop} {n0 : Nat} {J : World → Prop} (hJ : OwnFrom n0 (fun _ : Unit => J)) {u : FrameMode} (hu : u ≠ .run)
    (hfin : ∀ W, J W → LeavesInM F n P fn tmps R [] u W) : ∀ (ds : List Nat) (W : World), Held n0 ds W → J W → LeavesInM F n P fn tmps R (marks ds) u W
  | [], W, _, h => hfin W h
  | d :: ds, W, hd, h => by
    have h1 := hd.2 d (by simp)
    have hn := List.nodup_cons.1 hd.1
    refine ⟨hu, .inl ⟨d, W.putObj d (.deferred none), rfl, run_takeDeferred h1.2, ?_⟩⟩
    refine leaves_marks hJ hu hfin ds _ ⟨hn.2, fun e he => ?_⟩ (hJ.putObj (s := ()) _ h h1.1 h1.2 rfl)
    have h2 := hd.2 e (by simp [he])
    exact ⟨h2.1, (World.putObj_heap_other (by rintro rfl; exact hn.1 he)).trans h2.2⟩
end Go.Proofs.Ytgblfobomiiofaa
namespace Go.Proofs.Ytgblfobomiiofaa
open Go Go.RowKit Go.Shelf Gw Go.Maps

/-- what pick keeps in memory: the boxes of the counter (c), of k, of the body, of the place (X) -/
structure PkM (R mb : Nat) (al : ByteArray) (n : Nat) (ck : Bool) (f : Nat → Nat → Option Nat) (bL bR bK bM bC km : Nat) (last : Option Nat) (mv : Value) (ml : List (Option Nat)) (c X : Nat) (q : Pl) (k : Nat) (v : Value) (b : List Nat) (W0 W : World) : Prop where
  ct : CtI R mb al n ck f bL bR bK bM bC km last mv ml W
  cB : W.cell? ⟨c, 0, none⟩ = some (cntV bL bR bK bM bC)
  kB : W.cell? ⟨c + 1, 0, none⟩ = some (.int .i64 (k : Int))
  kf : W.frozen? ⟨c + 1, 0, none⟩ = false
  bB : W.cell? ⟨c + 1 + 1, 0, none⟩ = some v
  bf : W.frozen? ⟨c + 1 + 1, 0, none⟩ = false
  pl : P3 X q.1 q.2.1 q.2.2 W
  row : W.ownsRow W0.heap.size 3 1 v b.length (encI (asI b))
  nv : ∀ g, v.ownBlock = some g → g ≠ c ∧ g ≠ c + 1 ∧ g ≠ c + 1 + 1 ∧ g ≠ X
  fr : W0.grownBy W (some km)
section
variable {R mb : Nat} {al : ByteArray} {n : Nat} {ck : Bool} {f : Nat → Nat → Option Nat} {bL bR bK bM bC km : Nat} {last : Option Nat} {mv : Value} {ml : List (Option Nat)} {c X : Nat} {q : Pl} {k : Nat} {v : Value} {b : List Nat} {W0 W W' : World}
theorem grownBy_trans2 {A B C : World} {r1 r2 : Option Nat} (h : A.grownBy B r1) (g : B.grownBy C r2) (hr : ∀ j, r2 = some j → some j = r1 ∨ A.heap.size ≤ j) : A.grownBy C r1 :=
  ⟨g.os.trans h.os, g.tape.trans h.tape, g.output.trans h.output, Nat.le_trans h.size g.size, fun j hj hne => (g.block j (Nat.lt_of_lt_of_le hj h.size) (fun e => by
    rcases hr j e.symm with e2 | e2
    · exact hne e2
    · omega)).trans (h.block j hj hne)⟩
theorem frozen_kept {row : Option Nat} {a : Addr} {z : Value} (h : W.frozen? a = false) (hc : W.cell? a = some z) (hg : W.grownBy W' row) (hne : some a.block ≠ row) : W'.frozen? a = false :=
  (World.frozen?_of_block (hg.block a.block (World.block_lt_of_cell? _ _ hc) hne)).trans h
/-- blocks that pick doesn't know, and that hold no cells, turn -/
theorem PkM.own {n1 : Nat} (hB : CtB R mb bL bR bK bM bC km mv W0.heap.size) (hn : W0.heap.size ≤ n1) : OwnFrom n1 (fun (_ : Unit) W => PkM R mb al n ck f bL bR bK bM bC km last mv ml c X q k v b W0 W) := fun _ A B row h hg hr => by
  have hr2 : ∀ r, row = some r → ∃ o : Obj, A.heap[r]? = some o ∧ o.isCells = false := fun r e => (hr r e).2
  have fz : ∀ {a : Addr} {z : Value}, A.frozen? a = false → A.cell? a = some z → B.frozen? a = false := fun {a z} hf hc => by
    obtain ⟨o, ho, hc2⟩ := cells_of_cell hc
    exact (World.frozen?_of_block (grownBy_keeps_cells hg hr2 ho hc2)).trans hf
  refine ⟨h.ct.kept hB hg (fun j e => Nat.le_trans hn (hr j e).1), cell_kept h.cB hg hr2, cell_kept h.kB hg hr2, fz h.kf h.kB, cell_kept h.bB hg hr2, fz h.bf h.bB, h.pl.kept3 hg hr2, ?_, h.nv, grownBy_trans2 h.fr hg (fun j e => .inr (Nat.le_trans hn (hr j e).1))⟩
  refine h.row.kept hg ?_
  cases hv : v.ownBlock with
  | none => exact .inl rfl
  | some g =>
    refine .inr fun e => ?_
    obtain ⟨o, ho, hoc⟩ := hr2 g e.symm
    rcases h.row.2 with ⟨rfl, _⟩ | ⟨g', cap, cur, rfl, _, hh, _⟩
    · cases hv
    · have : g' = g := Option.some.inj hv
      subst this
      rw [hh] at ho
      cases ho
      cases hoc
theorem PkM.below (h : PkM R mb al n ck f bL bR bK bM bC km last mv ml c X q k v b W0 W) (hb : Below W.heap.size W W') : PkM R mb al n ck f bL bR bK bM bC km last mv ml c X q k v b W0 W' := by
  have cl : ∀ {a : Addr} {z : Value}, W.cell? a = some z → W'.cell? a = some z := fun {a z} h => (hb.cell (World.block_lt_of_cell? _ _ h)).trans h
  have fz : ∀ {a : Addr} {z : Value}, W.frozen? a = false → W.cell? a = some z → W'.frozen? a = false := fun {a z} hf hc => (hb.frozen (World.block_lt_of_cell? _ _ hc)).trans hf
  exact ⟨h.ct.below hb, cl h.cB, cl h.kB, fz h.kf h.kB, cl h.bB, fz h.bf h.bB, h.pl.below hb, ownsRow_below h.row hb, h.nv, grownBy_trans2 h.fr (grown_of hb none) (fun j e => by cases e)⟩
/-- behind a call of the counter -/
theorem PkM.call (h : PkM R mb al n ck f bL bR bK bM bC km last mv ml c X q k v b W0 W) (hB : CtB R mb bL bR bK bM bC km mv W0.heap.size) (hc : W0.heap.size ≤ c) (hX : c + 1 + 1 < X)
    (hC : CtI R mb al n ck f bL bR bK bM bC km last mv ml W') (hg : W.grownBy W' (some km)) : PkM R mb al n ck f bL bR bK bM bC km last mv ml c X q k v b W0 W' := by
  have hkm := hB.hk
  have ne : ∀ {x : Nat}, W0.heap.size ≤ x → some x ≠ some km := fun hx e => by have := Option.some.inj e; omega
  refine ⟨hC, hg.cell h.cB (ne hc), hg.cell h.kB (ne (by show _ ≤ c + 1; omega)), frozen_kept h.kf h.kB hg (ne (by show _ ≤ c + 1; omega)), hg.cell h.bB (ne (by show _ ≤ c + 1 + 1; omega)), frozen_kept h.bf h.bB hg (ne (by show _ ≤ c + 1 + 1; omega)), h.pl.kept hg (ne (by omega)), ?_, h.nv, grownBy_trans2 h.fr hg (fun j e => .inl e.symm)⟩
  refine h.row.kept hg ?_
  cases hv : v.ownBlock with
  | none => exact .inl rfl
  | some g => exact .inr (ne (h.row.lt g hv).1)
/-- the number that is left turns -/
theorem PkM.setK (h : PkM R mb al n ck f bL bR bK bM bC km last mv ml c X q k v b W0 W) (hB : CtB R mb bL bR bK bM bC km mv W0.heap.size) (hc : W0.heap.size ≤ c) (hX : c + 1 + 1 < X) (k' : Nat) :
    PkM R mb al n ck f bL bR bK bM bC km last mv ml c X q k' v b W0 (W.setCell ⟨c + 1, 0, none⟩ (.int .i64 (k' : Int))) := by
  have hg := grownBy_setCell W (c + 1) 0 (.int .i64 (k' : Int))
  have ne : ∀ {x : Nat}, x ≠ c + 1 → some x ≠ some (c + 1) := fun hx e => hx (Option.some.inj e)
  refine ⟨h.ct.kept hB hg (fun j e => by cases e; omega), hg.cell h.cB (ne (by show c ≠ _; omega)), World.cell?_setCell_same _ _ _ h.kB, by rw [World.frozen?_setCell]; exact h.kf, hg.cell h.bB (ne (by show c + 1 + 1 ≠ _; omega)), by rw [World.frozen?_setCell]; exact h.bf, h.pl.kept hg (ne (by omega)), ?_, h.nv, grownBy_trans2 h.fr hg (fun j e => by cases e; right; omega)⟩
  refine h.row.kept hg ?_
  cases hv : v.ownBlock with
  | none => exact .inl rfl
  | some g => exact .inr (ne (h.nv g hv).2.1)
/-- one more byte: the row has grown, and the boxes of the body and of the place turn -/
theorem PkM.push (h : PkM R mb al n ck f bL bR bK bM bC km last mv ml c X q k v b W0 W) (hB : CtB R mb bL bR bK bM bC km mv W0.heap.size) (hc : W0.heap.size ≤ c) (hX : c + 1 + 1 < X) {o : Obj} {w8 : World} {v' : Value} {y : Nat} (q' : Pl)
    (hown : w8.ownsRow W0.heap.size 3 1 v' (b.length + 1) (encI (asI b) ++ [.int .i64 (y : Int)])) (hg : (W.alloc o).grownBy w8 v.ownBlock) (hat : v'.ownBlock = v.ownBlock ∨ v'.ownBlock = some (W.alloc o).heap.size) :
    PkM R mb al n ck f bL bR bK bM bC km last mv ml c X q k v b W0 (W.alloc o) ∧ w8.cell? ⟨c + 1 + 1, 0, none⟩ = some v ∧ w8.frozen? ⟨c + 1 + 1, 0, none⟩ = false ∧ P3 X q.1 q.2.1 q.2.2 w8 ∧
    PkM R mb al n ck f bL bR bK bM bC km last mv ml c X q' k v' (b ++ [y]) W0 ((((w8.setCell ⟨c + 1 + 1, 0, none⟩ v').setCell ⟨X, 0, none⟩ (.int .i64 (q'.1 : Int))).setCell ⟨X, 1, none⟩ (.int .i64 (q'.2.1 : Int))).setCell ⟨X, 2, none⟩ (.int .i64 (q'.2.2 : Int))) := by
  have hA := h.below (below_al W o)
  have hXl : X < (W.alloc o).heap.size := hA.pl.lt
  have hbl : ∀ j, v.ownBlock = some j → W0.heap.size ≤ j := fun j hj => (hA.row.lt j hj).1
  have nv : ∀ {x : Nat}, (∀ g, v.ownBlock = some g → g ≠ x) → some x ≠ v.ownBlock := fun hx e => hx _ e.symm rfl
  have nv' : ∀ g, v'.ownBlock = some g → g ≠ c ∧ g ≠ c + 1 ∧ g ≠ c + 1 + 1 ∧ g ≠ X := fun g hg => by
    rcases hat with e | e
    · exact h.nv g (e.symm.trans hg)
    · have e2 := e.symm.trans hg
      injection e2 with e2
      exact ⟨by omega, by omega, by omega, by omega⟩
  have g1 : w8.cell? ⟨c, 0, none⟩ = some (cntV bL bR bK bM bC) := hg.cell hA.cB (nv fun g e => (h.nv g e).1)
  have g2 : w8.cell? ⟨c + 1, 0, none⟩ = some (.int .i64 (k : Int)) := hg.cell hA.kB (nv fun g e => (h.nv g e).2.1)
  have g3 : w8.cell? ⟨c + 1 + 1, 0, none⟩ = some v := hg.cell hA.bB (nv fun g e => (h.nv g e).2.2.1)
  have g4 : w8.frozen? ⟨c + 1, 0, none⟩ = false := frozen_kept hA.kf hA.kB hg (nv fun g e => (h.nv g e).2.1)
  have g5 : w8.frozen? ⟨c + 1 + 1, 0, none⟩ = false := frozen_kept hA.bf hA.bB hg (nv fun g e => (h.nv g e).2.2.1)
  have g6 : P3 X q.1 q.2.1 q.2.2 w8 := hA.pl.kept hg (nv fun g e => (h.nv g e).2.2.2)
  have g7 : CtI R mb al n ck f bL bR bK bM bC km last mv ml w8 := hA.ct.kept hB hg hbl
  have g8 : W0.grownBy w8 (some km) := grownBy_trans2 hA.fr hg (fun j e => .inr (hbl j e))
  refine ⟨hA, g3, g5, g6, ?_⟩
  have s1 := grownBy_setCell w8 (c + 1 + 1) 0 v'
  obtain ⟨w9, hw9⟩ : ∃ w9, w9 = w8.setCell ⟨c + 1 + 1, 0, none⟩ v' := ⟨_, rfl⟩
  have b9 : w9.cell? ⟨c + 1 + 1, 0, none⟩ = some v' := by rw [hw9]; exact World.cell?_setCell_same _ _ _ g3
  have f9 : w9.frozen? ⟨c + 1 + 1, 0, none⟩ = false := by rw [hw9, World.frozen?_setCell]; exact g5
  rw [← hw9] at s1 ⊢
  have ne1 : ∀ {x : Nat}, x ≠ c + 1 + 1 → some x ≠ some (c + 1 + 1) := fun hx e => hx (Option.some.inj e)
  have neX : ∀ {x : Nat}, x ≠ X → some x ≠ some X := fun hx e => hx (Option.some.inj e)
  have p9 := (g6.kept s1 (ne1 (by omega))).set q'.1 q'.2.1 q'.2.2
  have s2 := grownBy_trans2 (grownBy_trans2 (grownBy_setCell w9 X 0 (.int .i64 (q'.1 : Int))) (grownBy_setCell (w9.setCell ⟨X, 0, none⟩ (.int .i64 (q'.1 : Int))) X 1 (.int .i64 (q'.2.1 : Int))) (fun j e => .inl e.symm)) (grownBy_setCell ((w9.setCell ⟨X, 0, none⟩ (.int .i64 (q'.1 : Int))).setCell ⟨X, 1, none⟩ (.int .i64 (q'.2.1 : Int))) X 2 (.int .i64 (q'.2.2 : Int))) (fun j e => .inl e.symm)
  have hrow : encI (asI (b ++ [y])) = encI (asI b) ++ [.int .i64 (y : Int)] := by unfold encI asI; simp
  refine ⟨(g7.kept hB s1 (fun j e => by cases e; omega)).kept hB s2 (fun j e => by cases e; omega), s2.cell (s1.cell g1 (ne1 (by show c ≠ _; omega))) (neX (by show c ≠ _; omega)), s2.cell (s1.cell g2 (ne1 (by show c + 1 ≠ _; omega))) (neX (by show c + 1 ≠ _; omega)),
    frozen_kept (frozen_kept g4 g2 s1 (ne1 (by show c + 1 ≠ _; omega))) (s1.cell g2 (ne1 (by show c + 1 ≠ _; omega))) s2 (neX (by show c + 1 ≠ _; omega)), s2.cell b9 (neX (by show c + 1 + 1 ≠ _; omega)), frozen_kept f9 b9 s2 (neX (by show c + 1 + 1 ≠ _; omega)), p9, ?_, nv', grownBy_trans2 (grownBy_trans2 g8 s1 (fun j e => by cases e; right; omega)) s2 (fun j e => by cases e; right; omega)⟩
  rw [List.length_append, hrow]
  refine (hown.kept s1 ?_).kept s2 ?_
  · cases hv : v'.ownBlock with
    | none => exact .inl rfl
    | some g => exact .inr (ne1 (nv' g hv).2.2.1)
  · cases hv : v'.ownBlock with
    | none => exact .inl rfl
    | some g => exact .inr (neX (nv' g hv).2.2.2)
end
/-- three boxes -/
structure B3 (c : Nat) (x y z : Value) (W W' : World) : Prop where
  bel : Below W.heap.size W W'
  size : W'.heap.size = c + 1 + 1 + 1
  c0 : W'.cell? ⟨c, 0, none⟩ = some x
  c1 : W'.cell? ⟨c + 1, 0, none⟩ = some y
  c2 : W'.cell? ⟨c + 1 + 1, 0, none⟩ = some z
  f0 : W'.frozen? ⟨c, 0, none⟩ = false
  f1 : W'.frozen? ⟨c + 1, 0, none⟩ = false
  f2 : W'.frozen? ⟨c + 1 + 1, 0, none⟩ = false
theorem boxes3 (W : World) (x y z : Value) (t1 t2 t3 : TypeId) : B3 W.heap.size x y z W (((W.alloc (.cells #[x] t1)).alloc (.cells #[y] t2)).alloc (.cells #[z] t3)) := by
  obtain ⟨w1, h1⟩ : ∃ w1, w1 = W.alloc (.cells #[x] t1) := ⟨_, rfl⟩
  obtain ⟨w2, h2⟩ : ∃ w2, w2 = w1.alloc (.cells #[y] t2) := ⟨_, rfl⟩
  obtain ⟨w3, h3⟩ : ∃ w3, w3 = w2.alloc (.cells #[z] t3) := ⟨_, rfl⟩
  rw [← h1, ← h2, ← h3]
  have s1 : w1.heap.size = W.heap.size + 1 := by rw [h1]; exact World.size_alloc _ _
  have s2 : w2.heap.size = W.heap.size + 1 + 1 := by rw [h2, World.size_alloc, s1]
  have s3 : w3.heap.size = W.heap.size + 1 + 1 + 1 := by rw [h3, World.size_alloc, s2]
  have b1 : Below W.heap.size W w1 := by rw [h1]; exact below_al _ _
  have b2 : Below w1.heap.size w1 w2 := by rw [h2]; exact below_al _ _
  have b3 : Below w2.heap.size w2 w3 := by rw [h3]; exact below_al _ _
  have b23 := b2.trans (b3.mono (by omega))
  have fz : ∀ (w : World) (v : Value) (t : TypeId), (w.alloc (.cells #[v] t)).frozen? ⟨w.heap.size, 0, none⟩ = false := fun w v t => by unfold World.frozen?; dsimp only; rw [World.alloc_heap_new]; simp
  have e1 : w1.cell? ⟨W.heap.size, 0, none⟩ = some x := by rw [h1]; exact World.cell?_alloc_at _ _ _ _ rfl
  have e2 : w2.cell? ⟨W.heap.size + 1, 0, none⟩ = some y := by rw [h2]; exact World.cell?_alloc_at _ _ _ _ s1.symm
  have e3 : w3.cell? ⟨W.heap.size + 1 + 1, 0, none⟩ = some z := by rw [h3]; exact World.cell?_alloc_at _ _ _ _ s2.symm
  have k1 : w1.frozen? ⟨W.heap.size, 0, none⟩ = false := by rw [h1]; exact fz _ _ _
  have k2 : w2.frozen? ⟨W.heap.size + 1, 0, none⟩ = false := by rw [h2, ← s1]; exact fz _ _ _
  have k3 : w3.frozen? ⟨W.heap.size + 1 + 1, 0, none⟩ = false := by rw [h3, ← s2]; exact fz _ _ _
  exact ⟨b1.trans (b23.mono (by omega)), s3, (b23.cell (p := ⟨W.heap.size, 0, none⟩) (by show W.heap.size < _; omega)).trans e1, (b3.cell (p := ⟨W.heap.size + 1, 0, none⟩) (by show W.heap.size + 1 < _; omega)).trans e2, e3,
    (b23.frozen (p := ⟨W.heap.size, 0, none⟩) (by show W.heap.size < _; omega)).trans k1, (b3.frozen (p := ⟨W.heap.size + 1, 0, none⟩) (by show W.heap.size + 1 < _; omega)).trans k2, k3⟩
/-- how far pick has come: i bytes are chosen, k words are to be passed over -/
structure PkI (f : Nat → Nat → Option Nat) (A n : Nat) (last : Option Nat) (ml : List (Option Nat)) (K i s p k : Nat) (b : List Nat) : Prop where
  bi : b.length = i
  lt : k < (wordsAt f A n last ml i s p).length
  at' : (wordsAt f A n last ml 0 0 A)[K]? = ((wordsAt f A n last ml i s p)[k]?).map (b ++ ·)
  s2 : s < 200
  p2 : p ≤ A
  kK : k ≤ K
theorem PkI.start {f : Nat → Nat → Option Nat} {A n : Nat} {last : Option Nat} {ml : List (Option Nat)} {K : Nat} (h : K < (wordsAt f A n last ml 0 0 A).length) : PkI f A n last ml K 0 0 A K [] :=
  ⟨rfl, h, by simp, by omega, Nat.le_refl _, Nat.le_refl _⟩
theorem PkI.next {f : Nat → Nat → Option Nat} {A n : Nat} {last : Option Nat} {ml : List (Option Nat)} {K i s p k j : Nat} {b : List Nat} (h : PkI f A n last ml K i s p k b) (hf : ∀ i v j, f i v = some j → j < 200) (hml : n ≤ ml.length) (hi : i < n) {y : Nat × Pl}
    (hy : (stepL f A (i, s, p) (ml.getD i none) A)[j]? = some y) (h1 : sumK (gW f A n last ml i) (stepL f A (i, s, p) (ml.getD i none) A) j ≤ k) (h2 : k < sumK (gW f A n last ml i) (stepL f A (i, s, p) (ml.getD i none) A) j + gW f A n last ml i y) :
    PkI f A n last ml K (i + 1) y.2.2.1 y.2.2.2 (k - sumK (gW f A n last ml i) (stepL f A (i, s, p) (ml.getD i none) A) j) (b ++ [y.1]) := by
  have hm := stepL_mem (List.mem_of_getElem? hy)
  have hw := words_pick hml hi hy h1 h2
  refine ⟨by rw [List.length_append, h.bi]; rfl, (show _ < gW f A n last ml i y by omega), ?_, hf _ _ _ hm.2.2.1, by rw [hm.2.2.2]; exact ncN_le, by have := h.kK; omega⟩
  rw [h.at', hw, Option.map_map]
  congr 1
  funext u
  simp
theorem PkI.done {f : Nat → Nat → Option Nat} {A n : Nat} {last : Option Nat} {ml : List (Option Nat)} {K s p k : Nat} {b : List Nat} (h : PkI f A n last ml K n s p k b) (hml : n ≤ ml.length) : (wordsAt f A n last ml 0 0 A)[K]? = some b := by
  rw [h.at', List.getElem?_eq_getElem h.lt]
  have h0 := words_len_n hml (List.getElem_mem h.lt) (Nat.le_refl n)
  rw [Nat.sub_self] at h0
  simp [List.eq_nil_of_length_eq_zero h0]
theorem PkI.stay {f : Nat → Nat → Option Nat} {A n : Nat} {last : Option Nat} {ml : List (Option Nat)} {K i s p k : Nat} {b : List Nat} (h : PkI f A n last ml K i s p k b) (hml : n ≤ ml.length) (hi : i < n)
    (h1 : sumK (gW f A n last ml i) (stepL f A (i, s, p) (ml.getD i none) A) (stepL f A (i, s, p) (ml.getD i none) A).length ≤ k) : False := by
  have h2 := h.lt
  rw [words_all hml hi] at h2
  omega
/-- what pick keeps, with the marks that lie below n1 -/
def PkT (R mb : Nat) (al : ByteArray) (n : Nat) (ck : Bool) (f : Nat → Nat → Option Nat) (bL bR bK bM bC km : Nat) (last : Option Nat) (mv : Value) (ml : List (Option Nat)) (c X n1 : Nat) (ds : List Nat) (q : Pl) (k : Nat) (v : Value) (b : List Nat) (W0 W : World) : Prop :=
  PkM R mb al n ck f bL bR bK bM bC km last mv ml c X q k v b W0 W ∧ Held W0.heap.size ds W ∧ ∀ d ∈ ds, d < n1
section
variable {R mb : Nat} {al : ByteArray} {n : Nat} {ck : Bool} {f : Nat → Nat → Option Nat} {bL bR bK bM bC km : Nat} {last : Option Nat} {mv : Value} {ml : List (Option Nat)} {c X n1 : Nat} {ds : List Nat} {q : Pl} {k : Nat} {v : Value} {b : List Nat} {W0 W W' : World}
theorem Held.lt (h : Held n1 ds W) {d : Nat} (hd : d ∈ ds) : d < W.heap.size := (Array.getElem?_eq_some_iff.1 (h.2 d hd).2).1
theorem Held.others (h : Held n1 ds W) (hk : KeepsOthers W W') : Held n1 ds W' := h.kept fun d _ e => hk.same d _ e rfl
theorem Held.grown {row : Option Nat} (h : Held n1 ds W) (hg : W.grownBy W' row) (hr : ∀ j, row = some j → j < n1 ∨ ∀ d ∈ ds, d ≠ j) : Held n1 ds W' :=
  ⟨h.1, fun d hd => ⟨(h.2 d hd).1, (hg.block d (h.lt hd) (fun e => by
    rcases hr d e.symm with e2 | e2
    · have := (h.2 d hd).1; omega
    · exact e2 d hd rfl)).trans (h.2 d hd).2⟩⟩
theorem PkT.own (hB : CtB R mb bL bR bK bM bC km mv W0.heap.size) (hn : W0.heap.size ≤ n1) : OwnFrom n1 (fun (_ : Unit) W => PkT R mb al n ck f bL bR bK bM bC km last mv ml c X n1 ds q k v b W0 W) := fun _ A B row h hg hr =>
  ⟨PkM.own hB hn () A B row h.1 hg hr, h.2.1.grown hg (fun j e => .inr fun d hd e2 => by have := h.2.2 d hd; have := (hr j e).1; omega), h.2.2⟩
theorem PkT.below (h : PkT R mb al n ck f bL bR bK bM bC km last mv ml c X n1 ds q k v b W0 W) (hb : Below W.heap.size W W') : PkT R mb al n ck f bL bR bK bM bC km last mv ml c X n1 ds q k v b W0 W' :=
  ⟨h.1.below hb, h.2.1.grown (grown_of hb none) (fun j e => by cases e), h.2.2⟩
theorem PkT.call (h : PkT R mb al n ck f bL bR bK bM bC km last mv ml c X n1 ds q k v b W0 W) (hB : CtB R mb bL bR bK bM bC km mv W0.heap.size) (hc : W0.heap.size ≤ c) (hX : c + 1 + 1 < X)
    (hC : CtI R mb al n ck f bL bR bK bM bC km last mv ml W') (hg : W.grownBy W' (some km)) : PkT R mb al n ck f bL bR bK bM bC km last mv ml c X n1 ds q k v b W0 W' :=
  ⟨h.1.call hB hc hX hC hg, h.2.1.grown hg (fun j e => by cases e; exact .inl hB.hk), h.2.2⟩
theorem PkT.setK (h : PkT R mb al n ck f bL bR bK bM bC km last mv ml c X n1 ds q k v b W0 W) (hB : CtB R mb bL bR bK bM bC km mv W0.heap.size) (hc : W0.heap.size ≤ c) (hX : c + 1 + 1 < X) (k' : Nat) :
    PkT R mb al n ck f bL bR bK bM bC km last mv ml c X n1 ds q k' v b W0 (W.setCell ⟨c + 1, 0, none⟩ (.int .i64 (k' : Int))) :=
  ⟨h.1.setK hB hc hX k', h.2.1.others (KeepsOthers.setCell _ _ _), h.2.2⟩
theorem PkT.push (h : PkT R mb al n ck f bL bR bK bM bC km last mv ml c X n1 ds q k v b W0 W) (hB : CtB R mb bL bR bK bM bC km mv W0.heap.size) (hc : W0.heap.size ≤ c) (hX : c + 1 + 1 < X) {o : Obj} {w8 : World} {v' : Value} {y : Nat} (q' : Pl)
    (hown : w8.ownsRow W0.heap.size 3 1 v' (b.length + 1) (encI (asI b) ++ [.int .i64 (y : Int)])) (hg : (W.alloc o).grownBy w8 v.ownBlock) (hat : v'.ownBlock = v.ownBlock ∨ v'.ownBlock = some (W.alloc o).heap.size) :
    w8.cell? ⟨c + 1 + 1, 0, none⟩ = some v ∧ w8.frozen? ⟨c + 1 + 1, 0, none⟩ = false ∧ P3 X q.1 q.2.1 q.2.2 w8 ∧
    PkT R mb al n ck f bL bR bK bM bC km last mv ml c X n1 ds q' k v' (b ++ [y]) W0 ((((w8.setCell ⟨c + 1 + 1, 0, none⟩ v').setCell ⟨X, 0, none⟩ (.int .i64 (q'.1 : Int))).setCell ⟨X, 1, none⟩ (.int .i64 (q'.2.1 : Int))).setCell ⟨X, 2, none⟩ (.int .i64 (q'.2.2 : Int))) ∧
    KeepsOthers W ((((w8.setCell ⟨c + 1 + 1, 0, none⟩ v').setCell ⟨X, 0, none⟩ (.int .i64 (q'.1 : Int))).setCell ⟨X, 1, none⟩ (.int .i64 (q'.2.1 : Int))).setCell ⟨X, 2, none⟩ (.int .i64 (q'.2.2 : Int))) := by
  obtain ⟨k1, k2, k3, k4, k5⟩ := h.1.push hB hc hX q' hown hg hat
  have hK : KeepsOthers W ((((w8.setCell ⟨c + 1 + 1, 0, none⟩ v').setCell ⟨X, 0, none⟩ (.int .i64 (q'.1 : Int))).setCell ⟨X, 1, none⟩ (.int .i64 (q'.2.1 : Int))).setCell ⟨X, 2, none⟩ (.int .i64 (q'.2.2 : Int))) := by
    refine (KeepsOthers.alloc W o).trans (KeepsOthers.trans (KeepsOthers.of_grownBy hg ?_) ((((KeepsOthers.setCell _ _ _).trans (KeepsOthers.setCell _ _ _)).trans (KeepsOthers.setCell _ _ _)).trans (KeepsOthers.setCell _ _ _)))
    intro j o' hj ho
    rcases k1.row.2 with ⟨rfl, _⟩ | ⟨g, cap, cur, rfl, _, hh, _⟩
    · cases hj
    · have : g = j := Option.some.inj hj
      subst this
      rw [hh] at ho
      cases ho
      rfl
  exact ⟨k2, k3, k4, ⟨k5, h.2.1.others hK, h.2.2⟩, hK⟩
end
end Go.Proofs.Ytgblfobomiiofaa
namespace Go.Proofs.Ytgblfobomiiofaa
open Go Go.RowKit Go.Shelf Gw Go.Maps

attribute [local go_sem] Oper.semAt_some

/-- what pick answers: the K-th word -/
def PickP (R mb : Nat) (al : ByteArray) (n : Nat) (ck : Bool) (f : Nat → Nat → Option Nat) (bL bR bK bM bC km : Nat) (last : Option Nat) (mv : Value) (ml : List (Option Nat)) (K : Nat) (W : World) (e : Ending) (W' : World) : Prop :=
  ∃ v b, e = .returned v ∧ (wordsAt f al.size n last ml 0 0 al.size)[K]? = some b ∧ b.length = n ∧ Hid (W'.ownsRow W.heap.size 3 1 v n (encI (asI b))) ∧ Hid (CtI R mb al n ck f bL bR bK bM bC km last mv ml W') ∧ Hid (W.grownBy W' (some km))
set_option maxRecDepth 100000 in
set_option maxHeartbeats 4000000 in
theorem pick_any {R mb : Nat} {al : ByteArray} {n : Nat} {ck : Bool} {f : Nat → Nat → Option Nat} {bL bR bK bM bC km : Nat} {last : Option Nat} {mv : Value} {ml : List (Option Nat)} {W : World} (h1 : 2 ≤ al.size) (h2 : al.size ≤ 36) (hn1 : 1 ≤ n) (hn : n ≤ 16)
    (hf : ∀ i v j, f i v = some j → j < 200) (hml : n ≤ ml.length) (h : CtI R mb al n ck f bL bR bK bM bC km last mv ml W) {K : Nat} (hK : K < (wordsAt f al.size n last ml 0 0 al.size).length) (hT : K < tooM) {mk : Value} (hmk : IsIs W mk (asM ml)) (hne : ∀ j, mk.ownBlock = some j → j ≠ km) :
    Calls Try.prog 49 #[.pointer (some ⟨R, 0, none⟩), mk, cntV bL bR bK bM bC, .int .i64 (K : Int)] W
      (PickP R mb al n ck f bL bR bK bM bC km last mv ml K W) := by
  have hmp : 0 < ml.length := by omega
  have HB := Lib.hid (h.blocks hmp)
  have HH := Lib.hid h
  have HST := Lib.hid (fun V (hV : Ser R al n ck V) => start_any hV)
  have HCN := Lib.hid (fun (rem i : Nat) (e : i + rem = n) (V : World) (s p : Nat) (hs : s < 200) (hp : p ≤ al.size) (hV : CtI R mb al n ck f bL bR bK bM bC km last mv ml V) => count_any h1 h2 hn hml hf rem i e V s p hs hp hV)
  have HMS := Lib.hid hmk
  have HNE := Lib.hid hne
  obtain ⟨mo, mc, hmv, -⟩ := hmk
  obtain ⟨Bm, om, e0, d0⟩ := (show IsIs W (.slice mo (asM ml).length mc) (asM ml) by rw [← hmv]; exact HMS.out).at' (j := 0) (by rw [asM_len]; exact hmp)
  subst e0
  subst hmv
  clear hne
  unfold cntV
  clear d0 h
  obtain ⟨A, hA⟩ : ∃ A, A = al.size := ⟨_, rfl⟩
  rw [← hA] at HCN h1 h2 hK
  have HA := Lib.hid hA
  clear hA
  refine (callsIn_wide (n := 9)).1 ?_
  refine callsIn_of_wp_marks Try.func49 rfl trivial ?_ rfl
  simp only [Try.ntmps49, List.size_toArray, List.length_cons, List.length_nil, Nat.reduceAdd, Nat.reduceSub, Array.replicate_succ, Array.replicate_zero, List.push_toArray, List.append_toArray, List.nil_append, List.cons_append]
  refine wpIn_wide.2 ?_
  go_upto_region 2 with fail
  have HB3 := Lib.hid (boxes3 W (.func (.func 83) #[] #[.pointer (some ⟨bL, 0, none⟩), .pointer (some ⟨bR, 0, none⟩), .pointer (some ⟨bK, 0, none⟩), .pointer (some ⟨bM, 0, none⟩), .pointer (some ⟨bC, 0, none⟩)]) (.int .i64 (K : Int)) (.slice none 0 0) 78 3 67)
  obtain ⟨c, hc⟩ : ∃ c, c = W.heap.size := ⟨_, rfl⟩
  rw [← hc] at HB3 ⊢
  have HC := Lib.hid hc
  clear hc
  generalize World.alloc (World.alloc (World.alloc W _) _) _ = w1 at HB3 ⊢
  have HH1 := Lib.hid (HH.out.below HB3.out.bel)
  have HST1 := Lib.hid (HST.out w1 HH1.out.se.se)
  unfold plcV at HST1
  dsimp only at HST1
  rw [← HA.out] at HST1
  clear HST
  go_upto_region 3 with (first
    | (go_at_call 57; (with_reducible refine HST1.out.mono ?_); rintro e w2 ⟨rfl, HB2⟩)
    | fail)
  have HP3 := Lib.hid (P3.new w2 0 0 A)
  have hb3 := below_al w2 (.cells #[.int .i64 (0 : Int), .int .i64 (0 : Int), .int .i64 (A : Int)] 88)
  have HB3a := Lib.hid (HB2.out.trans (hb3.mono HB2.out.size))
  have HX0 : Hid (w1.heap.size ≤ w2.heap.size) := HB2.out.size
  obtain ⟨X, hX⟩ : ∃ X, X = w2.heap.size := ⟨_, rfl⟩
  rw [← hX] at HP3 HX0 ⊢
  clear hb3 hX
  generalize World.alloc w2 _ = w3 at *
  have HH3 := Lib.hid (HH1.out.below HB3a.out)
  have r1 := HH3.out.se.se.c1
  have hcW : W.heap.size ≤ c := by rw [HC.out]; exact Nat.le_refl _
  have HPM : Hid (PkM R mb al n ck f bL bR bK bM bC km last mv ml c X (0, 0, A) K (.slice none 0 0) [] W w3) := by
    have hb := HB3a.out
    have k := HB3.out
    have cl : ∀ {a : Addr} {z : Value}, w1.cell? a = some z → w3.cell? a = some z := fun {a z} h => (hb.cell (World.block_lt_of_cell? _ _ h)).trans h
    have fz : ∀ {a : Addr} {z : Value}, w1.frozen? a = false → w1.cell? a = some z → w3.frozen? a = false := fun {a z} hf hc => (hb.frozen (World.block_lt_of_cell? _ _ hc)).trans hf
    exact ⟨HH3.out, cl k.c0, cl k.c1, fz k.f1 k.c1, cl k.c2, fz k.f2 k.c2, HP3.out, World.ownsRow_nil _ _ _ _, (fun g e => by cases e), grown_of (k.bel.trans (hb.mono k.bel.size)) _⟩
  have hXc : c + 1 + 1 < X := by have h3 := HB3.out.size; have h4 := HX0.out; omega
  go_wp2_with fail
  have HPI := Lib.hid (PkI.start hK)
  refine wp_loop (fun a' w' => ∃ (i : Nat) (u11 u22 u23 u24 u25 u26 u27 u28 u29 u30 u47 : Value) (ds : List Nat), i ≤ n ∧ Hid (∃ s p k v b, PkT R mb al n ck f bL bR bK bM bC km last mv ml c X w'.heap.size ds (i, s, p) k v b W w' ∧ PkI f A n last ml K i s p k b) ∧
      a' = { tmps := #[.pointer (some ⟨R, 0, none⟩), .slice (some ⟨Bm, om, none⟩) (asM ml).length mc, .func (.func 83) #[] #[.pointer (some ⟨bL, 0, none⟩), .pointer (some ⟨bR, 0, none⟩), .pointer (some ⟨bK, 0, none⟩), .pointer (some ⟨bM, 0, none⟩), .pointer (some ⟨bC, 0, none⟩)], .int .i64 (K : Int), undef, undef, .pointer (some ⟨c, 0, none⟩), .pointer (some ⟨c + 1, 0, none⟩), .slice none 0 0, .pointer (some ⟨c + 1 + 1, 0, none⟩), .pointer (some ⟨X, 0, none⟩), u11, undef, undef, undef, .pointer (some ⟨R, 0, none⟩), .agg #[.int .i64 0, .int .i64 0, .int .i64 (A : Int)], .pointer (some ⟨R, 0, none⟩), .pointer (some ⟨R, 0, none⟩), .pointer (some ⟨R, 1, none⟩), .int .i64 (n : Int), .int .i64 (i : Int), u22, u23, u24, u25, u26, u27, u28, u29, u30, undef, undef, undef, undef, undef, undef, undef, undef, undef, undef, undef, undef, undef, undef, undef, undef, u47, undef], defers := marks ds }) (fun a' _ => n - (intOf (a'.tmps.getD 21 undef)).toNat)
    ⟨0, undef, undef, undef, undef, undef, undef, undef, undef, undef, undef, undef, [], Nat.zero_le _, ⟨0, A, K, .slice none 0 0, [], ⟨HPM.out, Held.nil _ _, fun d hd => by simp at hd⟩, HPI.out⟩, rfl⟩ ?_
  rintro _ wr ⟨i, u11, u22, u23, u24, u25, u26, u27, u28, u29, u30, u47, ds, hi, HL, rfl⟩
  clear HPI HPM r1
  by_cases q : i < n
  · have q1 : (i : Int) < n := by omega
    have hw : IntKind.i64.wrap ((i : Int) + 1) = ((i + 1 : Nat) : Int) := by rw [IntWalk.i64_in _ (by omega)]; omega
    obtain ⟨s, p, k, v, b, hT4, hI4⟩ := HL.out
    have HT4 := Lib.hid hT4
    have HI4 := Lib.hid hI4
    obtain ⟨so, sc, rfl⟩ := row_sl hT4.1.row
    have hs2 := hI4.s2
    have hp2 := hI4.p2
    have hkK := hI4.kK
    have him : i < ml.length := by omega
    obtain ⟨Bm', om', e0, d0⟩ := (HMS.out.kept2 hT4.1.fr (fun j e e2 => HNE.out j e (Option.some.inj e2))).at' (j := i) (by rw [asM_len]; exact him)
    injection e0 with e0
    injection e0 with e1 e2 e3
    subst e1 e2
    obtain ⟨sg, hsg⟩ : ∃ sg, sg = ml[i] := ⟨_, rfl⟩
    have hsz : (asM ml)[i]'(by rw [asM_len]; exact him) = sgn sg := by rw [hsg]; simp [asM]
    rw [hsz] at d0
    obtain ⟨zm, hzm⟩ : ∃ zm, zm = sgn sg := ⟨_, rfl⟩
    rw [← hzm] at d0
    have hlm : (i : Int) < ((asM ml).length : Int) := by rw [asM_len]; omega
    have hBl := World.block_lt_of_cell? _ _ d0
    have hkm := HB.out.hk
    have e0 := hT4.1.pl.c0
    have e1 := hT4.1.pl.c1
    have e2 := hT4.1.pl.c2
    have HST := Lib.hid (steps_any (W := wr.drew) (hT4.1.ct.se.below (below_dr wr 1)) (i, s, p) sg)
    rw [← hzm] at HST
    unfold plcV stepsV at HST
    dsimp only at HST e0 e1 e2
    have HSG := Lib.hid hsg
    have HZM := Lib.hid hzm
    clear hT4 hI4 HL hsz hsg hzm
    go_upto_region 6 with fail
    go_cut [30] from 24 to 30 (fun s30 wz => ∃ S0, s30 = .func (.func 86) #[] #[.pointer (some ⟨S0, 0, none⟩), .pointer (some ⟨S0 + 1 + 1, 0, none⟩), .pointer (some ⟨S0 + 1, 0, none⟩)] ∧ wr.heap.size = S0 ∧ Hid (StI R mb al n ck f S0 (i, s, p) sg wz) ∧ Hid (Below wr.heap.size wr wz))
    case first =>
      refine wp_calm ?_
      go_region_with (first
        | (go_at_call 68; (with_reducible refine HST.out.mono ?_); rintro e w4 ⟨rfl, HSI, HB4⟩)
        | fail)
      all_goals go_wp2_with fail
      all_goals go_meet
      all_goals exact ⟨_, rfl, rfl, HSI, (below_dr wr 1).trans HB4.out⟩
    case rest =>
      obtain ⟨S0, rfl, hS0, HSI, HB4⟩ := hcut
      obtain ⟨w4, hw4⟩ : ∃ x, x = wc := ⟨_, rfl⟩
      subst hw4
      have hT5 : PkT R mb al n ck f bL bR bK bM bC km last mv ml c X w4.heap.size ds (i, s, p) k (.slice so b.length sc) b W w4 :=
        ⟨HT4.out.1.below HB4.out, (HT4.out.below HB4.out).2.1, fun d hd => Nat.lt_of_lt_of_le (HT4.out.2.2 d hd) HB4.out.size⟩
      have HT5 := Lib.hid hT5
      have hn0 : S0 + 1 + 1 < w4.heap.size := World.block_lt_of_cell? _ _ HSI.out.b2
      have hWr : W.heap.size ≤ wr.heap.size := HT4.out.1.fr.size
      have hXr : X < wr.heap.size := HT4.out.1.pl.lt
      have hWn : W.heap.size ≤ w4.heap.size := Nat.le_trans hWr HB4.out.size
      obtain ⟨xs, hxs⟩ : ∃ xs, xs = stepL f A (i, s, p) sg A := ⟨_, rfl⟩
      obtain ⟨gS, hgS⟩ : ∃ gS : Nat × Pl → Nat, gS = gW f A n last ml i := ⟨_, rfl⟩
      have HXS := Lib.hid hxs
      have HGS := Lib.hid hgS
      have hR := HB.out.hR
      have hmm := HB.out.hm
      have hnk := hT5.1.ct.nK
      have hSQ : SeqE Fence.wide 8 Try.prog 86 #[.pointer (some ⟨S0, 0, none⟩), .pointer (some ⟨S0 + 1 + 1, 0, none⟩), .pointer (some ⟨S0 + 1, 0, none⟩)] (encS xs) (fun _ _ _ => True) (Kc w4.heap.size km (c + 1)) xs.length w4 := by
        rw [hxs, HA.out]
        exact steps_seq (by rw [← HA.out]; exact h1) (by rw [← HA.out]; exact h2) (by show i ≤ 1000; omega) hs2 (by show p ≤ 1000; omega) HSI.out (fun A B hk hst => hst.kc hk ⟨by omega, hnk.1, by omega⟩ ⟨by omega, hnk.2.1, by omega⟩ ⟨hn0, .inl (by omega), by omega⟩) 8
      have HSQ := Lib.hid hSQ
      clear hxs hgS hT5 hSQ e0 e1 e2 d0 HST hnk
      apply_assumption
      refine (wpIn_wide (n := 9)).1 ?_
      gi_wp2_with fail
      generalize ha0 : Act.mk _ _ = a0
      have hsgD : ml.getD i none = sg := by rw [HSG.out]; simp [him]
      have HSGD := Lib.hid hsgD
      clear hsgD
      refine range_e (F := Fence.wide) (n := 9) (a := a0) (w := w4) rfl (by decide) (gf := 86) (lb := #[.pointer (some ⟨S0, 0, none⟩), .pointer (some ⟨S0 + 1 + 1, 0, none⟩), .pointer (some ⟨S0 + 1, 0, none⟩)]) (by rw [← ha0]; rfl) trivial (enters_of Try.func86 (by kernel_rfl) rfl)
        (show SeqE Fence.wide (9 - 1) _ _ _ _ _ _ _ _ from HSQ.out) Kc.trans (fun W'' l o o' hl h hc hw => Kc.of_below (belowK_b (Nat.le_refl _) W'' l o o' hl h hc hw)) (fun k v => by unfold encS; split <;> rfl)
        (fun j W' => PkT R mb al n ck f bL bR bK bM bC km last mv ml c X w4.heap.size ds (i, s, p) (k - sumK gS xs j) (.slice so b.length sc) b W W' ∧ sumK gS xs j ≤ k ∧ w4.heap.size ≤ W'.heap.size)
        (fun cd j W' => cd = .exit 2 ∧ ∃ y v', xs[j]? = some y ∧ sumK gS xs j ≤ k ∧ k < sumK gS xs j + gS y ∧ PkT R mb al n ck f bL bR bK bM bC km last mv ml c X w4.heap.size ds y.2 (k - sumK gS xs j) v' (b ++ [y.1]) W W')
        (fun j A' B row hh hg hr => ⟨PkT.own HB.out hWn () A' B row hh.1 hg hr, hh.2.1, Nat.le_trans hh.2.2 hg.size⟩)
        (fun cd j A' B row hh hg hr => by
          obtain ⟨g1, y, v', g2, g3, g4, g5⟩ := hh
          exact ⟨g1, y, v', g2, g3, g4, PkT.own HB.out hWn () A' B row g5 hg hr⟩)
        ⟨HT5.out, Nat.zero_le _, Nat.le_refl _⟩
        (fun j v a' W' => ∃ Z y, xs[j]? = some y ∧ P3 Z y.2.1 y.2.2.1 y.2.2.2 W' ∧ w4.heap.size ≤ Z ∧ a' = { tmps := (((#[31, 32].zip (encS xs j v)).foldl (fun t (p, v) => t.setIfInBounds p v) a0.tmps).setIfInBounds 12 (.int .i64 (y.1 : Int))).setIfInBounds 13 (.pointer (some ⟨Z, 0, none⟩)), defers := [] })
        (fun j v a' => fun _ A B row hst hg hr => by
          obtain ⟨Z, y, h1, h2, h3, h4⟩ := hst
          exact ⟨Z, y, h1, h2.kept3 hg (fun r e => (hr r e).2), h3, h4⟩) ?assign ?body ?done ?stop
      case assign =>
        intro l j vv W' K' hk hI _ hKK
        obtain ⟨y, hy⟩ : ∃ y, xs[j]? = some y := ⟨xs[j], List.getElem?_eq_getElem hk⟩
        have hsz : w4.heap.size ≤ W'.heap.size := hI.2.2
        have HI := Lib.hid hI
        have HKK := Lib.hid hKK
        have HY2 := Lib.hid hy
        subst ha0
        unfold encS
        rw [hy]
        unfold plcV
        clear hI hKK hy
        gi_wp2_with fail
        have hb := below_al W' (.cells #[.int .i64 (y.2.1 : Int), .int .i64 (y.2.2.1 : Int), .int .i64 (y.2.2.2 : Int)] 88)
        exact HKK.out _ _ ((KeepsOthers.alloc _ _).from _) (Kc.of_below (hb.mono hsz)) ⟨HI.out.1.below hb, HI.out.2.1, Nat.le_trans hsz hb.size⟩ ⟨W'.heap.size, y, HY2.out, P3.new W' _ _ _, hsz, by unfold encS; rw [HY2.out]; simp [plcV]⟩
      case body =>
        rintro l j vv a' W' hk hI ⟨Z, ⟨yv, ya, yb, yc⟩, hy, hP, hZ, rfl⟩
        subst ha0
        unfold encS
        rw [hy]
        unfold plcV
        dsimp only at hP ⊢
        have hmem := stepL_mem (by rw [← HXS.out]; exact List.mem_of_getElem? hy)
        obtain ⟨-, hya, hyf, hyc⟩ := hmem
        dsimp only at hya hyf hyc
        have hyb := hf _ _ _ hyf
        have hyc2 : yc ≤ A := by rw [hyc]; exact ncN_le
        have hCT := HCN.out (n - (i + 1)) (i + 1) (by omega) W' yb yc hyb hyc2 hI.1.1.ct
        have hcw : cntK f A n last ml (n - (i + 1)) yb yc = gS (yv, ya, yb, yc) := by rw [HGS.out]; exact cntK_words hml _ _ _ _ (by omega)
        rw [hcw] at hCT
        unfold plcV at hCT
        dsimp only at hCT
        rw [← hya] at hCT
        obtain ⟨m, hm⟩ : ∃ m, m = min (gS (yv, ya, yb, yc)) tooM := ⟨_, rfl⟩
        rw [← hm] at hCT
        have hmT : m ≤ tooM := by rw [hm]; omega
        obtain ⟨kk, hkk⟩ : ∃ kk, kk = k - sumK gS xs j := ⟨_, rfl⟩
        rw [← hkk] at hI
        have hle := hI.2.1
        have hkkT : kk < tooM := by omega
        have HSUC := Lib.hid (sumK_succ gS hy)
        have HM := Lib.hid hm
        have HKK := Lib.hid hkk
        have HCT := Lib.hid hCT
        have HI := Lib.hid hI
        have HY := Lib.hid hy
        have HP := Lib.hid hP
        have HYA := Lib.hid hya
        have z0 := hP.c0
        have z1 := hP.c1
        have z2 := hP.c2
        have cC := hI.1.1.cB
        unfold cntV at cC
        have hkmZ : some Z ≠ some km := fun e => by have := Option.some.inj e; omega
        have hZc : c + 1 + 1 < Z := by omega
        have hZX : X < Z := by omega
        unfold tooM at hmT hkkT
        clear hI hy hP hya hyf hyc hm hCT hkk hcw
        by_cases p5 : kk < m
        · have p6 : (kk : Int) < (m : Int) := by omega
          have h4 : k < sumK gS xs j + gS (yv, ya, yb, yc) := by have := HM.out; have := HKK.out; omega
          obtain ⟨i0, hi0, hz0, hz1, hz2⟩ := info_parts Try.infoIntS
          have hbi : b.length = i := HI4.out.bi
          have hbl : b.length + 1 ≤ 17 := by omega
          have HBL : Hid (b.length + 1 ≤ maxLen ∧ (b.length + 1) * 8 ≤ 140737488355328) := ⟨by unfold maxLen; omega, by omega⟩
          have HH4 := Lib.hid h4
          have HZR : Hid (some Z ≠ (Value.slice so b.length sc).ownBlock) := fun e => by have := (HT5.out.1.row.lt _ e.symm).2; omega
          clear h4 hbi hbl
          gi_wp2_with (first
            | (refine ⟨trivial, ?_⟩; gi_at_call 83; refine (CallsIn.inRound l (callsIn_wide.2 HCT.out)).mono ?_; rintro e w6 ⟨rfl, HC6, HG6⟩; have PK6 := Lib.hid (HI.out.1.call HB.out hcW hXc HC6.out HG6.out); have k6 := PK6.out.1.kB; have b6 := PK6.out.1.bB; have HSZ6 : Hid (W.heap.size ≤ w6.heap.size + 1) := Nat.le_trans (Nat.le_trans hWn (Nat.le_trans HI.out.2.2 HG6.out.size)) (Nat.le_succ _))
            | (gi_at_builtin; go_must (refine wpListIn_append_own_at _ rfl _ _ 67 rfl W.heap.size 3 i0 (.int .i64 0) 1 8 Try.underlying67 hi0 hz0 hz1 hz2 rfl (by decide) (.slice so b.length sc) b.length (encI (asI b)) rfl (PK6.out.1.row.alloc _) ⟨w6.heap.size, 0, none⟩ 1 1 [.int .i64 (yv : Int)] rfl rfl (cell_one_new _ _ _) (by simp [Value.oneCell']) HBL.out.1 HBL.out.2 (by rw [World.size_alloc]; exact HSZ6.out) ?_); intro v' w8 hown hgrow _ hat; have PP := Lib.hid (PK6.out.push HB.out hcW hXc (ya, yb, yc) hown hgrow hat); have b8 := PP.out.1; have f8 := PP.out.2.1; have x0 := PP.out.2.2.1.c0; have x1 := PP.out.2.2.1.c1; have x2 := PP.out.2.2.1.c2; have y0 := PP.out.2.2.1.fz 0; have y1 := PP.out.2.2.1.fz 1; have y2 := PP.out.2.2.1.fz 2; have hP8 := ((HP.out.kept HG6.out hkmZ).below (below_al w6 _)).kept hgrow HZR.out; have w0 := hP8.c0; have w1' := hP8.c1; have w2' := hP8.c2; obtain ⟨so2, sc2, rfl⟩ := row_sl hown; clear hown hgrow hat hP8)
            | fail)
          have hk4 := HB.out.hk
          have hkm4 : km < w4.heap.size := by omega
          exact ⟨(KeepsFrom.of_grownBy HG6.out (fun j e => by cases e; exact hkm4)).trans (PP.out.2.2.2.2.from _), rfl, yv, ya, yb, yc, HY.out, HI.out.2.1, HH4.out, _, by rw [← HKK.out]; exact PP.out.2.2.2.1⟩
        · have p6 : ¬ (kk : Int) < (m : Int) := by omega
          have hw2 : IntKind.i64.wrap ((kk : Int) - (m : Int)) = ((kk - m : Nat) : Int) := by rw [IntWalk.i64_in _ (by omega)]; omega
          obtain ⟨k3, hk3⟩ : ∃ k3, k3 = kk - m := ⟨_, rfl⟩
          rw [← hk3] at hw2
          have HK3 := Lib.hid hk3
          clear hk3
          gi_wp2_with (refine ⟨trivial, ?_⟩; gi_at_call 83; refine (CallsIn.inRound l (callsIn_wide.2 HCT.out)).mono ?_; rintro e w6 ⟨rfl, HC6, HG6⟩; have PK6 := Lib.hid (HI.out.1.call HB.out hcW hXc HC6.out HG6.out); have k6 := PK6.out.1.kB; have f6 := PK6.out.1.kf)
          have hk4 := HB.out.hk
          have hkm4 : km < w4.heap.size := by omega
          have h5 : gS (yv, ya, yb, yc) = m := by have := HM.out; unfold tooM at this; omega
          have h6 : k - sumK gS xs (j + 1) = k3 := by rw [HSUC.out, h5, HK3.out, HKK.out]; omega
          have h7 : sumK gS xs (j + 1) ≤ k := by rw [HSUC.out, h5]; have := HKK.out; omega
          exact ⟨(KeepsFrom.of_grownBy HG6.out (fun j e => by cases e; exact hkm4)).trans ((KeepsOthers.setCell _ _ _).from _), (Kc.of_grown HG6.out HI.out.2.2).trans (Kc.of_set _ _ _), by rw [h6]; exact PK6.out.setK HB.out hcW hXc k3, h7, by rw [World.size_setCell]; exact Nat.le_trans HI.out.2.2 HG6.out.size⟩
      case done =>
        intro d W' hd hI hDD
        have h3 := HI4.out.stay (by omega) q (by rw [HSGD.out, ← HXS.out, ← HGS.out]; exact hI.2.1)
        exact h3.elim
      case stop =>
        intro d cd j W' hd hj hI hDD
        obtain ⟨rfl, y, v', g2, g3, g4, g5⟩ := hI
        subst ha0
        have hy1 := stepL_mem (by rw [← HXS.out]; exact List.mem_of_getElem? g2)
        have HNX := Lib.hid (HI4.out.next hf hml q (by rw [HSGD.out, ← HXS.out]; exact g2) (by rw [HSGD.out, ← HXS.out, ← HGS.out]; exact g3) (by rw [HSGD.out, ← HXS.out, ← HGS.out]; exact g4))
        rw [HSGD.out, ← HXS.out, ← HGS.out] at HNX
        have HNT : Hid (PkT R mb al n ck f bL bR bK bM bC km last mv ml c X W'.heap.size (d :: ds) (i + 1, y.2.2.1, y.2.2.2) (k - sumK gS xs j) v' (b ++ [y.1]) W W') := by
          refine ⟨?_, g5.2.1.cons hDD (fun e he => by have := g5.2.2 e he; omega) (Nat.le_trans hWn hd), fun e he => ?_⟩
          · have h3 := g5.1
            have e3 : y.2 = (i + 1, y.2.2.1, y.2.2.2) := by rw [← hy1.2.1]
            rw [e3] at h3
            exact h3
          · rcases List.mem_cons.1 he with rfl | he
            · exact (Array.getElem?_eq_some_iff.1 hDD).1
            · exact g5.2.1.lt he
        clear g2 g3 g4 g5 hy1 hDD
        gi_wp2_with fail
        go_wp2_with fail
        refine ⟨⟨i + 1, _, _, _, _, _, _, _, _, _, _, _, d :: ds, q, ⟨_, _, _, _, _, HNT.out, HNX.out⟩, rfl⟩, ?_⟩
        simp [intOf]; omega
  · obtain rfl : i = n := by omega
    have q1 : ¬ (i : Int) < i := by omega
    obtain ⟨s, p, k, v, b, hT4, hI4⟩ := HL.out
    have HT4 := Lib.hid hT4
    have HI4 := Lib.hid hI4
    have b0 := hT4.1.bB
    clear hT4 hI4 HL
    go_wp2_with fail
    show LeavesInM Fence.wide 9 Try.prog _ _ _ (marks ds) .returning wr
    refine leaves_marks (PkM.own (R := R) (mb := mb) (al := al) (n := i) (ck := ck) (f := f) (bL := bL) (bR := bR) (bK := bK) (bM := bM) (bC := bC) (km := km) (last := last) (mv := mv) (ml := ml) (c := c) (X := X) (q := (i, s, p)) (k := k) (v := v) (b := b) (W0 := W) HB.out (Nat.le_refl _)) (by simp) (fun W' hW => ?_) ds _ HT4.out.2.1 HT4.out.1
    refine ⟨v, by simp [results, Try.results49, go_sem], v, b, rfl, by rw [← HA.out]; exact HI4.out.done (by omega), HI4.out.bi, ?_, hW.ct, hW.fr⟩
    have h3 := hW.row
    rw [HI4.out.bi] at h3
    exact h3
end Go.Proofs.Ytgblfobomiiofaa
