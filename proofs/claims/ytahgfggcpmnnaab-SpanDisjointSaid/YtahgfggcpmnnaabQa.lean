/- The document's Join: the runs with one behind them. -/
import Derived.Test.YtahgfggcpmnnaabZq
import Derived.Deep.OwnRows
import Derived.Deep.CutRange
import Derived.BigQuiet
import Derived.Deep.RegionHeld
namespace Go.Proofs.Ytahgfggcpmnnaab
open Go Go.RowKit Gs

/-- the runs with one behind them: of the same tag it is a part of the last one -/
def joinL (l : List R) (x : R) : List R :=
  if x.hi ≤ x.lo then l else match l.getLast? with
    | some y => if y.tag = x.tag then l.dropLast ++ [⟨y.lo, x.hi, x.tag⟩] else l ++ [x]
    | none => [x]
abbrev rowR (W : World) (base : Nat) (v : Value) (l : List R) : Prop := W.ownsRow base 46 3 v l.length (l.flatMap encL)
theorem row_snoc {W : World} {base : Nat} {v : Value} {l : List R} {x : R} (h : W.ownsRow base 46 3 v (l.length + 1) (l.flatMap encL ++ encL x)) : rowR W base v (l ++ [x]) := by
  unfold rowR
  rw [List.length_append, List.length_singleton, List.flatMap_append, List.flatMap_singleton]
  exact h
/-- what Join leaves: the list owns its row, what lay below base lies, what is not the old row's lies, and the new row is the old one's or new -/
structure JP (W : World) (base : Nat) (v : Value) (l : List R) (v' : Value) (w' : World) : Prop where
  own : rowR w' base v' l
  bel : Below base W w'
  keep : ∀ k, k < W.heap.size → some k ≠ v.ownBlock → w'.heap[k]? = W.heap[k]?
  at' : ∀ k, v'.ownBlock = some k → v.ownBlock = some k ∨ W.heap.size ≤ k
theorem row_mono {W : World} {base base' : Nat} {e : TypeId} {size : Nat} {v : Value} {n : Nat} {xs : List Value} (h : W.ownsRow base e size v n xs) (hb : base' ≤ base) : W.ownsRow base' e size v n xs := by
  refine ⟨h.1, ?_⟩
  rcases h.2 with h2 | ⟨g, cap, cur, h2, h3, h4⟩
  · exact .inl h2
  · exact .inr ⟨g, cap, cur, h2, Nat.le_trans hb h3, h4⟩
/-- what Join's walk carries: the new run's box, the list, all that lies below base -/
structure Jn (W : World) (base : Nat) (v : Value) (n : Nat) (xs : List Value) (xa xb xc : Int) (W' : World) : Prop where
  c0 : W'.cell? ⟨W.heap.size, 0, none⟩ = some (.int .i64 xa)
  c1 : W'.cell? ⟨W.heap.size, 1, none⟩ = some (.int .i64 xb)
  c2 : W'.cell? ⟨W.heap.size, 2, none⟩ = some (.int .i64 xc)
  own : W'.ownsRow base 46 3 v n xs
  bel : Below base W W'
  lt : W.heap.size < W'.heap.size
  bw : Below W.heap.size W W'
theorem Jn.new {W : World} {base : Nat} {v : Value} {n : Nat} {xs : List Value} (xa xb xc : Int) (h : W.ownsRow base 46 3 v n xs) (hb : base ≤ W.heap.size) : Jn W base v n xs xa xb xc (W.alloc (.cells #[.int .i64 xa, .int .i64 xb, .int .i64 xc] 46)) :=
  ⟨World.cell?_alloc_at _ _ _ _ rfl, World.cell?_alloc_at _ _ _ _ rfl, World.cell?_alloc_at _ _ _ _ rfl, h.alloc _, (Below.refl _ _).alloc hb _, by simp, (Below.refl _ _).alloc (Nat.le_refl _) _⟩
theorem Jn.next {W W' W2 : World} {base : Nat} {v : Value} {n : Nat} {xs : List Value} {xa xb xc : Int} (h : Jn W base v n xs xa xb xc W') (hb : Below W'.heap.size W' W2) (ho : W2.ownsRow base 46 3 v n xs) (hw : base ≤ W.heap.size) : Jn W base v n xs xa xb xc W2 :=
  ⟨(hb.cell (p := ⟨W.heap.size, 0, none⟩) h.lt).trans h.c0, (hb.cell (p := ⟨W.heap.size, 1, none⟩) h.lt).trans h.c1, (hb.cell (p := ⟨W.heap.size, 2, none⟩) h.lt).trans h.c2, ho, h.bel.trans (hb.mono (Nat.le_trans hw (Nat.le_of_lt h.lt))), Nat.lt_of_lt_of_le h.lt hb.size, h.bw.trans (hb.mono (Nat.le_of_lt h.lt))⟩
theorem row_drewN {W : World} {base : Nat} {e : TypeId} {size : Nat} {v : Value} {n : Nat} {xs : List Value} (h : W.ownsRow base e size v n xs) (k : Nat) : (W.drewN k).ownsRow base e size v n xs := by
  have e1 : (W.drewN k).heap = W.heap := by simp
  unfold World.ownsRow at h ⊢
  rw [e1]
  exact h
theorem Jn.drewN {W W' : World} {base : Nat} {v : Value} {n : Nat} {xs : List Value} {xa xb xc : Int} (h : Jn W base v n xs xa xb xc W') (hw : base ≤ W.heap.size) (k : Nat) : Jn W base v n xs xa xb xc (W'.drewN k) :=
  h.next (below_drewN (Below.refl _ _) k) (row_drewN h.own k) hw
/-- an append as one step of a drawn region -/
theorem step_append_row {P : Program} {ops : Array Oper} {o : Oper} {a : Act} {w : World} {K : Act → World → Prop} {Q : Exit → Act → World → Prop} {E : Prop} (hg : o.guard = none) (s x : Operand) (t : TypeId)
    (ho : o.op = Op.call { callee := Callee.builtin Builtin.append, args := #[s, x], argTypes := #[t, t] })
    (base : Nat) (e : TypeId) (i : TypeInfo) (z : Value) (size bytes : Nat) (ht : P.underlying t = some (.slice e)) (hi : P.info? e = some i) (hz : i.zero = some z)
    (hsize : i.size = size) (hby : i.bytes = bytes) (hzs : z.cells.size = size) (hsz : 0 < size)
    (v : Value) (n : Nat) (xs : List Value) (hs : a.eval s = v) (hown : w.ownsRow base e size v n xs)
    (ad : Addr) (m c : Nat) (news : List Value) (hx : a.eval x = .slice (some ad) m c) (hl : news.length = m * size) (hnews : ∀ j u, news[j]? = some u → w.cell? (ad.add j) = some u) (h1 : ∀ u ∈ news, u.oneCell' = true)
    (h63 : n + m ≤ maxLen) (hbytes : (n + m) * bytes ≤ 140737488355328) (hbase : base ≤ w.heap.size)
    (hK : ∀ v' w', w'.ownsRow base e size v' (n + m) (xs ++ news) → w.grownBy w' v.ownBlock → (v' = .slice none 0 0 ↔ v = .slice none 0 0 ∧ m = 0) → K (a.put o.dst v') w') :
    if Region.wanted o (yielded ops a.tmps) = true then Oper.wp P o a w K Q else E := by
  have hw : Region.wanted o (yielded ops a.tmps) = true := by simp [Region.wanted, hg]
  rw [if_pos hw]
  exact wp_append_own w s x t ho base e i z size bytes ht hi hz hsize hby hzs hsz v n xs hs hown ad m c news hx hl hnews h1 h63 hbytes hbase hK
theorem encL_one (l : List R) : ∀ u ∈ l.flatMap encL, u.oneCell' = true := by
  intro u hu
  obtain ⟨r, _, hr⟩ := List.mem_flatMap.1 hu
  simp [encL] at hr
  rcases hr with rfl | rfl | rfl <;> rfl
theorem encL_len (l : List R) : (l.flatMap encL).length = l.length * 3 := by
  induction l with
  | nil => rfl
  | cons r l ih => rw [List.flatMap_cons, List.length_append, ih, List.length_cons]; simp [encL]; omega
end Go.Proofs.Ytahgfggcpmnnaab
