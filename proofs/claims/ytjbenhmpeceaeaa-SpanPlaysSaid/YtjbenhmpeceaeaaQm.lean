/- The law SpanPlays: its walk. -/
import Derived.Test.YtjbenhmpeceaeaaQl
import Derived.Maps.AppendAt
import Derived.Laws.OwnMore
namespace Go.Proofs.Ytjbenhmpeceaeaa
open Go Go.RowKit Gs

/-- a version of both maps -/
abbrev Q4 := Option Addr × Int × Int × Value
def enc1 (d : Q4) : List Value := [.pointer d.1, .int .i64 d.2.1]
def enc2 (d : Q4) : List Value := [.int .i64 d.2.2.1, d.2.2.2]
theorem IsT.grown {W W' : World} {g : Nat} {cur : Array Value} {e : TypeId} {fz : Nat × Nat} (hg : W.heap[g]? = some (.cells cur e fz)) (he : e ≠ 120) (hw : W.grownBy W' (some g)) : ∀ {t : T} {v : Value}, IsT W t v → IsT W' t v
  | .nil, _, h => h
  | .node _ _ _, _, ⟨b, x, y, hv, hr, hl, hk⟩ => ⟨b, x, y, hv, hr.of_block (hw.block b hr.lt (fun e2 => by
      injection e2 with e2
      subst e2
      obtain ⟨c, h1, _⟩ := hr
      rw [hg] at h1
      injection h1 with h1
      injection h1 with _ h1
      exact he h1)), IsT.grown hg he hw hl, IsT.grown hg he hw hk⟩
theorem IsRs.grown {base : Nat} {W W' : World} {v : Value} {l : List R} {g : Nat} (h : IsRs base W v l) (hw : W.grownBy W' (some g)) (hX : (∀ x, W.cell? ⟨g, 0, none⟩ ≠ some (.int .i64 x)) ∨ (∀ x, W.cell? ⟨g, 1, none⟩ ≠ some (.int .i64 x))) : IsRs base W' v l := by
  obtain ⟨ao, c, hv, h⟩ := h
  refine ⟨ao, c, hv, fun hl => ?_⟩
  obtain ⟨B, e, hB, hc⟩ := h hl
  have hne : some B ≠ some g := fun e => by
    injection e with e
    subst e
    obtain ⟨h0, h1, _⟩ := hc 0 hl
    rcases hX with h | h
    · exact h _ h0
    · exact h _ h1
  refine ⟨B, e, ⟨hB.1, Nat.lt_of_lt_of_le hB.2 hw.size⟩, fun j hj => ?_⟩
  obtain ⟨h0, h1, h2⟩ := hc j hj
  exact ⟨hw.cell h0 hne, hw.cell h1 hne, hw.cell h2 hne⟩
theorem Dual.grown {base : Nat} {W W' : World} {p : Option Addr} {z s : Int} {v : Value} {g : Nat} {cur : Array Value} {e : TypeId} {fz : Nat × Nat} (h : Dual base W p z s v) (hg : W.heap[g]? = some (.cells cur e fz)) (he : e ≠ 120) (hw : W.grownBy W' (some g)) (hX : (∀ x, W.cell? ⟨g, 0, none⟩ ≠ some (.int .i64 x)) ∨ (∀ x, W.cell? ⟨g, 1, none⟩ ≠ some (.int .i64 x))) : Dual base W' p z s v := by
  rcases h with h | ⟨f, L, h1, h2, h3, h4⟩
  · exact .inl h
  · obtain ⟨t, t1, t2, t3⟩ := h1.tr
    exact .inr ⟨f, L, ⟨h1.lo, h1.ctx, t, IsT.grown hg he hw t1, t2, t3⟩, h2, h3.grown hw hX, h4⟩
theorem Bx.grown {B : Nat} {vs : List Value} {W W' : World} {row : Option Nat} (h : Bx B vs W) (hw : W.grownBy W' row) (hne : some B ≠ row) : Bx B vs W' := by
  have hb := hw.block B h.lt hne
  exact ⟨Nat.lt_of_lt_of_le h.lt hw.size, (World.cell?_of_block (a := ⟨B, 22, none⟩) hb).trans h.c22, fun i v hi => ⟨(World.cell?_of_block (a := ⟨B, i, none⟩) hb).trans (h.c i v hi).1, (World.frozen?_of_block (a := ⟨B, i, none⟩) hb).trans (h.c i v hi).2⟩⟩
theorem row_some {W : World} {base : Nat} {e : TypeId} {size : Nat} {v : Value} {n : Nat} {xs : List Value} (h : W.ownsRow base e size v n xs) (hn : 0 < n) : ∃ g cap cur, v = .slice (some ⟨g, 0, none⟩) n cap ∧ v.ownBlock = some g ∧ W.heap[g]? = some (.cells cur e (0, 0)) ∧ base ≤ g := by
  rcases h.2 with ⟨_, h0⟩ | ⟨g, cap, cur, rfl, h1, h2, _⟩
  · omega
  · exact ⟨g, cap, cur, rfl, rfl, h2, h1⟩
/-- the versions, and the boxes of both maps -/
structure VS (B1 : Nat) (D1 D2 DD : List Q4) (X1 X2 : Nat) (xs ys : List Value) (vv rv : Value) (W : World) : Prop where
  own1 : W.ownsRow B1 27 2 vv D1.length (D1.flatMap enc1)
  own2 : W.ownsRow B1 33 2 rv D2.length (D2.flatMap enc2)
  dual : ∀ d ∈ DD, Dual 0 W d.1 d.2.1 d.2.2.1 d.2.2.2
  sub1 : ∀ d ∈ D1, d ∈ DD
  sub2 : ∀ d ∈ D2, d ∈ DD
  p1 : 0 < D1.length
  p2 : 0 < D2.length
  b1 : Bx X1 xs W
  b2 : Bx X2 ys W
  l1 : X1 < B1
  l2 : X2 < B1
  ge : B1 ≤ W.heap.size
section
variable {B1 : Nat} {D1 D2 DD : List Q4} {X1 X2 : Nat} {xs ys : List Value} {vv rv : Value} {W W' : World}
theorem VS.below (h : VS B1 D1 D2 DD X1 X2 xs ys vv rv W) (hb : Below W.heap.size W W') : VS B1 D1 D2 DD X1 X2 xs ys vv rv W' := by
  have hg : W.grownBy W' none := ⟨hb.os, hb.tape, hb.output, hb.size, fun j hj _ => hb.block j hj⟩
  exact ⟨h.own1.kept hg (Classical.em _), h.own2.kept hg (Classical.em _), fun d hd => (h.dual d hd).below hb, h.sub1, h.sub2, h.p1, h.p2, h.b1.next hb, h.b2.next hb, h.l1, h.l2, Nat.le_trans h.ge hb.size⟩
theorem VS.alloc (h : VS B1 D1 D2 DD X1 X2 xs ys vv rv W) (o : Obj) : VS B1 D1 D2 DD X1 X2 xs ys vv rv (W.alloc o) := h.below (alloc_below _ _)
theorem VS.cell1 (h : VS B1 D1 D2 DD X1 X2 xs ys vv rv W) {g : Nat} (hg : vv.ownBlock = some g) : ∀ x, W.cell? ⟨g, 0, none⟩ ≠ some (.int .i64 x) := by
  intro x hx
  obtain ⟨d, D, rfl⟩ : ∃ d D, D1 = d :: D := by
    cases D1 with
    | nil => exact absurd h.p1 (by simp)
    | cons d D => exact ⟨d, D, rfl⟩
  have := h.own1.cells hg 0 (.pointer d.1) rfl
  rw [show (⟨g, 0, none⟩ : Addr).add 0 = ⟨g, 0, none⟩ from rfl] at this
  rw [this] at hx
  cases hx
theorem VS.cell2 (h : VS B1 D1 D2 DD X1 X2 xs ys vv rv W) {g : Nat} (hg : rv.ownBlock = some g) : ∀ x, W.cell? ⟨g, 1, none⟩ ≠ some (.int .i64 x) := by
  intro x hx
  obtain ⟨d, D, rfl⟩ : ∃ d D, D2 = d :: D := by
    cases D2 with
    | nil => exact absurd h.p2 (by simp)
    | cons d D => exact ⟨d, D, rfl⟩
  obtain ⟨a, n, c, hs⟩ := (h.dual d (h.sub2 d (by simp))).shape
  have := h.own2.cells hg 1 d.2.2.2 rfl
  rw [show (⟨g, 0, none⟩ : Addr).add 1 = ⟨g, 1, none⟩ by unfold Addr.add; simp] at this
  rw [this, hs] at hx
  cases hx
theorem VS.ne (h : VS B1 D1 D2 DD X1 X2 xs ys vv rv W) : vv.ownBlock ≠ rv.ownBlock := by
  obtain ⟨g, _, _, _, h1, h2, _⟩ := row_some h.own1 h.p1
  obtain ⟨k, _, _, _, k1, k2, _⟩ := row_some h.own2 h.p2
  rw [h1, k1]
  intro e
  injection e with e
  subst e
  rw [h2] at k2
  injection k2 with k2
  injection k2 with _ k2
  exact absurd k2 (by decide)
theorem VS.app1 {d : Q4} {v' : Value} (h : VS B1 D1 D2 DD X1 X2 xs ys vv rv W) (hd : d ∈ DD) (ho : W'.ownsRow B1 27 2 v' (D1.length + 1) (D1.flatMap enc1 ++ enc1 d)) (hw : W.grownBy W' vv.ownBlock) : VS B1 (D1 ++ [d]) D2 DD X1 X2 xs ys v' rv W' := by
  obtain ⟨g, _, _, _, h1, h2, h3⟩ := row_some h.own1 h.p1
  have hc := h.cell1 h1
  have hne := h.ne
  have l1 := h.l1; have l2 := h.l2
  rw [h1] at hw hne
  exact ⟨by rw [List.length_append, List.flatMap_append]; simpa using ho, h.own2.kept hw (.inr hne.symm), fun x hx => (h.dual x hx).grown h2 (by decide) hw (.inl hc), fun x hx => by
      rcases List.mem_append.1 hx with hx | hx
      · exact h.sub1 x hx
      · simp at hx; subst hx; exact hd, h.sub2, by simp, h.p2, h.b1.grown hw (fun e => by injection e with e; omega), h.b2.grown hw (fun e => by injection e with e; omega), h.l1, h.l2, Nat.le_trans h.ge hw.size⟩
theorem VS.app2 {d : Q4} {v' : Value} (h : VS B1 D1 D2 DD X1 X2 xs ys vv rv W) (hd : d ∈ DD) (ho : W'.ownsRow B1 33 2 v' (D2.length + 1) (D2.flatMap enc2 ++ enc2 d)) (hw : W.grownBy W' rv.ownBlock) : VS B1 D1 (D2 ++ [d]) DD X1 X2 xs ys vv v' W' := by
  obtain ⟨g, _, _, _, h1, h2, h3⟩ := row_some h.own2 h.p2
  have hc := h.cell2 h1
  have hne := h.ne
  have l1 := h.l1; have l2 := h.l2
  rw [h1] at hw hne
  exact ⟨h.own1.kept hw (.inr hne), by rw [List.length_append, List.flatMap_append]; simpa using ho, fun x hx => (h.dual x hx).grown h2 (by decide) hw (.inr hc), h.sub1, fun x hx => by
      rcases List.mem_append.1 hx with hx | hx
      · exact h.sub2 x hx
      · simp at hx; subst hx; exact hd, h.p1, by simp, h.b1.grown hw (fun e => by injection e with e; omega), h.b2.grown hw (fun e => by injection e with e; omega), h.l1, h.l2, Nat.le_trans h.ge hw.size⟩
theorem VS.cells {x0 x1 y0 y1 : Value} (h : VS B1 D1 D2 DD X1 X2 [x0, x1] [y0, y1] vv rv W) : W.cell? ⟨X1, 0, none⟩ = some x0 ∧ W.cell? ⟨X1, 1, none⟩ = some x1 ∧ W.cell? ⟨X2, 0, none⟩ = some y0 ∧ W.cell? ⟨X2, 1, none⟩ = some y1 := ⟨h.b1.c2.1, h.b1.c2.2.1, h.b2.c2.1, h.b2.c2.2.1⟩
/-- stores in a box below the rows -/
theorem row_put {base : Nat} {e : TypeId} {size : Nat} {v : Value} {n X i : Nat} {zs : List Value} {u : Value} (h : W.ownsRow base e size v n zs) (hX : X < base) : (W.setCell ⟨X, i, none⟩ u).ownsRow base e size v n zs :=
  h.kept (row := some X) ⟨rfl, rfl, rfl, by rw [World.size_setCell]; exact Nat.le_refl _, fun k _ hne => Below.heap_setCell W _ u k (fun e => hne (by rw [e]))⟩ (.inr fun e => by have := (h.lt X e).1; omega)
end
theorem infoMap : (Try.prog.info? 27).map (fun i => (i.zero, i.size, i.bytes)) = some (some (.agg #[.pointer none, .int .i64 0]), 2, 16) := by kernel_rfl
theorem infoRMap : (Try.prog.info? 33).map (fun i => (i.zero, i.size, i.bytes)) = some (some (.agg #[.int .i64 0, .slice none 0 0]), 2, 32) := by kernel_rfl
theorem cells2_new (w : World) (x y : Value) (t : TypeId) : ∀ j u, [x, y][j]? = some u → (w.alloc (.cells #[x, y] t)).cell? ((⟨w.heap.size, 0, none⟩ : Addr).add j) = some u := by
  intro j u hj
  match j, hj with
  | 0, hj => simp at hj; subst hj; exact World.cell?_alloc_at _ _ _ _ rfl
  | 1, hj => simp at hj; subst hj; exact World.cell?_alloc_at _ _ _ _ rfl
end Go.Proofs.Ytjbenhmpeceaeaa
