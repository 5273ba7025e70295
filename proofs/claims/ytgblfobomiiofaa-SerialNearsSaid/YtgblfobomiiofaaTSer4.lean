/- Contracts and lemmas (several texts merged into one). -/
import Derived.Test.YtgblfobomiiofaaTSer3
import Derived.ArgAppend
import Derived.Deep.LoopGhost
import Derived.BigQuiet
import Derived.Maps.RangeWalk
import Derived.Laws.IdiomRangeMap
import Derived.Carry
namespace Go.Proofs.Ytgblfobomiiofaa
open Go Go.RowKit Gw

/-- a queue in blocks of the call's own -/
def QueM (b0 : Nat) (v : Value) (l : List Nat) (w : World) : Prop :=
  ∃ g o cap, v = .slice (some ⟨g, o, none⟩) l.length cap ∧ l.length ≤ cap ∧ b0 ≤ g ∧ g < w.heap.size ∧ (∀ j, j < cap → ∃ u, w.cell? ⟨g, o + j, none⟩ = some u) ∧ (∀ j, w.frozen? ⟨g, j, none⟩ = false) ∧ ∀ j (h : j < l.length), w.cell? ⟨g, o + j, none⟩ = some (.int .i64 (l[j] : Int))
theorem QueM.sl {b0 : Nat} {v : Value} {l : List Nat} {w : World} (h : QueM b0 v l w) : ∃ g o cap, v = .slice (some ⟨g, o, none⟩) l.length cap ∧ b0 ≤ g := by
  obtain ⟨g, o, cap, h1, _, h2, _⟩ := h
  exact ⟨g, o, cap, h1, h2⟩
theorem QueM.own {b0 : Nat} {v : Value} {l : List Nat} {w : World} (h : QueM b0 v l w) : ∀ j, v.ownBlock = some j → b0 ≤ j ∧ j < w.heap.size := by
  obtain ⟨g, o, cap, rfl, _, h2, h3, _⟩ := h
  intro j hj
  have e : some g = some j := hj
  injection e with e
  subst e
  exact ⟨h2, h3⟩
theorem QueM.kept {b0 : Nat} {v : Value} {l : List Nat} {w w' : World} {row : Option Nat} (h : QueM b0 v l w) (hg : w.grownBy w' row) (hne : v.ownBlock ≠ row) : QueM b0 v l w' := by
  obtain ⟨g, o, cap, rfl, h1, h2, h3, h4, h5, h6⟩ := h
  have hb := hg.block g h3 hne
  refine ⟨g, o, cap, rfl, h1, h2, Nat.lt_of_lt_of_le h3 hg.size, fun j hj => ?_, fun j => ?_, fun j hj => ?_⟩
  · obtain ⟨u, hu⟩ := h4 j hj
    exact ⟨u, (World.cell?_of_block hb).trans hu⟩
  · exact (World.frozen?_of_block (a := ⟨g, j, none⟩) hb).trans (h5 j)
  · exact (World.cell?_of_block hb).trans (h6 j hj)
theorem QueM.of_row {b0 : Nat} {v : Value} {l : List Nat} {w : World} (hl : 0 < l.length) (h : w.ownsRow b0 3 1 v l.length (encI (asI l))) : QueM b0 v l w := by
  have hcs := fun g hg => h.cells (g := g) hg
  have hlt := h.lt
  rcases h.2 with ⟨-, h0⟩ | ⟨g, cap, cur, rfl, h1, h2, h3, h4, h5, h6⟩
  · omega
  · refine ⟨g, 0, cap, rfl, h3, h1, (hlt g rfl).2, fun j hj => ?_, fun j => ?_, fun j hj => ?_⟩
    · rw [Nat.zero_add, cell_of_row w g j cur 3 (0, 0) h2]
      have : j < cur.size := by omega
      exact ⟨cur[j], by simp [this]⟩
    · simp [World.frozen?, h2]
    · have e0 : (encI (asI l))[j]? = some (.int .i64 (l[j] : Int)) := by simp [encI, asI, hj]
      have c0 := hcs g rfl _ _ e0
      rw [show (⟨g, 0, none⟩ : Addr).add j = ⟨g, 0 + j, none⟩ from Addr.add_lit ..] at c0
      exact c0
theorem QueM.head {b0 : Nat} {x : Nat} {l : List Nat} {w : World} {g o n cap : Nat} (h : QueM b0 (.slice (some ⟨g, o, none⟩) n cap) (x :: l) w) : w.cell? ⟨g, o, none⟩ = some (.int .i64 (x : Int)) := by
  obtain ⟨g', o', cap', hv, h1, h2, h3, h4, h5, h6⟩ := h
  simp only [Value.slice.injEq, Option.some.injEq, Addr.mk.injEq, and_true] at hv
  obtain ⟨⟨rfl, rfl⟩, _, rfl⟩ := hv
  exact h6 0 (by simp)
/-- the head is cut off -/
theorem QueM.pop {b0 : Nat} {x : Nat} {l : List Nat} {w : World} {g o cap : Nat} (h : QueM b0 (.slice (some ⟨g, o, none⟩) (l.length + 1) cap) (x :: l) w) :
    ∃ v', (∀ W, (Instr.slice 67 (.slice (some ⟨g, o, none⟩) (l.length + 1) cap) (some (.int .i64 1)) none none).run Try.prog W = .ok v' W) ∧ QueM b0 v' l w ∧ v'.ownBlock = some g := by
  obtain ⟨g', o', cap', hv, h1, h2, h3, h4, h5, h6⟩ := h
  simp only [Value.slice.injEq, Option.some.injEq, Addr.mk.injEq, and_true] at hv
  obtain ⟨⟨rfl, rfl⟩, _, rfl⟩ := hv
  simp only [List.length_cons] at h1 h6
  refine ⟨.slice (if cap = 1 then some ⟨g, o, none⟩ else some ⟨g, o + 1, none⟩) l.length (cap - 1), fun W => ?_, ?_, ?_⟩
  · rw [run_slice_l _ _ _ _ _ (by rw [show Try.prog.elem 67 = 3 by kernel_rfl]; exact Try.underlying67) _ _ (by omega) (by omega)]
    rw [show Try.prog.elem 67 = 3 by kernel_rfl, Try.sizeOf3]
    simp only [Result.andThen, sliced]
    congr 2
  · by_cases c : cap = 1
    · rw [if_pos c]
      have hl0 : l.length = 0 := by omega
      exact ⟨g, o, cap - 1, rfl, by omega, h2, h3, fun j hj => h4 j (by omega), h5, fun j hj => by omega⟩
    · rw [if_neg c]
      refine ⟨g, o + 1, cap - 1, rfl, by omega, h2, h3, fun j hj => ?_, h5, fun j hj => ?_⟩
      · have := h4 (j + 1) (by omega)
        rwa [show o + (j + 1) = o + 1 + j by omega] at this
      · have := h6 (j + 1) (by omega)
        rw [show o + (j + 1) = o + 1 + j by omega] at this
        simp
  · by_cases c : cap = 1
    · rw [if_pos c]; rfl
    · rw [if_neg c]; rfl
/-- a number comes to the end -/
theorem wpList_append_que {w : World} {ops : Array Oper} {rest : List Oper} {o : Oper} {a : Go.Act} {Q : Exit → Go.Act → World → Prop} (hgd : o.guard = none) (s y : Operand)
    (ho : o.op = .call { callee := .builtin .append, args := #[s, y], argTypes := #[67, 67] }) {b0 X x : Nat} {v : Value} {l : List Nat} (hs : a.eval s = v) (hq : QueM b0 v l w) (hy : a.eval y = .slice (some ⟨X, 0, none⟩) 1 1)
    (hx : w.cell? ⟨X, 0, none⟩ = some (.int .i64 (x : Int))) (hm : l.length ≤ 100000) (hb : b0 ≤ w.heap.size)
    (h : ∀ v' w', QueM b0 v' (l ++ [x]) w' → w.grownBy w' v.ownBlock → wpList Try.prog ops Q rest (a.put o.dst v') w') : wpList Try.prog ops Q (o :: rest) a w := by
  obtain ⟨i0, hi0, hz0, hz1, hz2⟩ := info_parts Try.infoIntS
  obtain ⟨g, o', cap, rfl, h1, h2, h3, h4, h5, h6⟩ := hq
  have hnews : ∀ j u, ([Value.int .i64 (x : Int)] : List Value)[j]? = some u → w.cell? ((⟨X, 0, none⟩ : Addr).add j) = some u := fun j u hj => by
    cases j with
    | zero =>
      simp at hj
      subst hj
      rw [show (⟨X, 0, none⟩ : Addr).add 0 = ⟨X, 0 + 0, none⟩ from Addr.add_lit ..]
      exact hx
    | succ j => simp at hj
  refine wpList_plain hgd fun K hK => ?_
  by_cases c : l.length + 1 ≤ cap
  · have hr := run_append_room_cells (P := Try.prog) w 67 o.type 3 i0 Try.underlying67 hi0 g o' l.length cap ⟨X, 0, none⟩ 1 1 [.int .i64 (x : Int)] (by rw [hz1]; rfl) hnews (by simp [Value.oneCell']) c
      (fun j hj => by
        simp only [List.length_singleton] at hj
        obtain ⟨u, hu⟩ := h4 l.length (by omega)
        rw [hz1, Nat.mul_one, show o' + l.length + j = o' + l.length by omega, hu]; rfl)
      (fun j hj => h5 _)
    unfold Oper.wp execOp
    simp only [ho, resolve, invoke, builtin, Sem.run_bind, Sem.run_pure, Result.andThen_ok, List.map_toArray, List.map_cons, List.map_nil, hs, hy, hr]
    rw [hz1, Nat.mul_one]
    obtain ⟨u, hu⟩ := h4 l.length (by omega)
    have hset : w.setCells g (o' + l.length) [.int .i64 (x : Int)] = w.setCell ⟨g, o' + l.length, none⟩ (.int .i64 (x : Int)) := rfl
    rw [hset]
    have hgr := grownBy_setCell w g (o' + l.length) (.int .i64 (x : Int))
    refine hK _ _ (h _ _ ⟨g, o', cap, by rw [List.length_append]; rfl, by rw [List.length_append]; exact c, h2, Nat.lt_of_lt_of_le h3 hgr.size, fun j hj => ?_, fun j => by rw [World.frozen?_setCell]; exact h5 j, fun j hj => ?_⟩ hgr)
    · by_cases e : j = l.length
      · subst e
        exact ⟨_, World.cell?_setCell_same _ _ _ hu⟩
      · obtain ⟨u2, hu2⟩ := h4 j hj
        exact ⟨u2, (World.cell?_setCell_other _ _ _ _ (by intro e2; injection e2 with _ e2; omega)).trans hu2⟩
    · rw [List.length_append, List.length_singleton] at hj
      by_cases e : j = l.length
      · subst e
        rw [World.cell?_setCell_same _ _ _ hu]
        simp
      · rw [World.cell?_setCell_other _ _ _ _ (by intro e2; injection e2 with _ e2; omega), h6 j (by omega)]
        rw [List.getElem_append_left (by omega)]
  · have holds : ∀ j u, (encI (asI l))[j]? = some u → w.cell? ((⟨g, o', none⟩ : Addr).add j) = some u := fun j u hj => by
      have hjl : j < l.length := by
        have := (List.getElem?_eq_some_iff.1 hj).1
        simpa [encI, asI] using this
      rw [show (⟨g, o', none⟩ : Addr).add j = ⟨g, o' + j, none⟩ from Addr.add_lit .., h6 j hjl]
      rw [← hj]
      simp [encI, asI, hjl]
    obtain ⟨v', w', hr, hown, hgr⟩ := run_append_arg_grows (P := Try.prog) w 67 o.type 3 i0 (.int .i64 0) 1 8 Try.underlying67 hi0 hz0 hz1 hz2 rfl (by decide) ⟨g, o', none⟩ l.length cap (encI (asI l)) (by simp [encI, asI]) holds ⟨X, 0, none⟩ 1 1 [.int .i64 (x : Int)] rfl hnews (by omega) (by unfold maxLen; omega) (by omega)
    unfold Oper.wp execOp
    simp only [ho, resolve, invoke, builtin, Sem.run_bind, Sem.run_pure, Result.andThen_ok, List.map_toArray, List.map_cons, List.map_nil, hs, hy, hr]
    have e2 : encI (asI l) ++ [.int .i64 (x : Int)] = encI (asI (l ++ [x])) := by simp [encI, asI]
    rw [e2] at hown
    refine hK _ _ (h _ _ (QueM.of_row (by simp) (row_mono (by rw [List.length_append]; exact hown) hb)) ⟨hgr.os, hgr.tape, hgr.output, hgr.size, fun k hk _ => hgr.block k hk (by simp)⟩)
end Go.Proofs.Ytgblfobomiiofaa
namespace Go.Proofs.Ytgblfobomiiofaa
open Go Go.RowKit Gw

section
variable {W0 : World} {T mb : Nat} {v : Value} {f : Nat → Nat → Option Nat} {es : List Bool} {w : World}
theorem TrS.far (h : TrS W0 T mb v f es w) {w' : World} {row : Option Nat} (hg : w.grownBy w' row) (hT : some T ≠ row) (hm : some mb ≠ row) (hv : v.ownBlock ≠ row) (hr : ∀ j, row = some j → W0.heap.size ≤ j) : TrS W0 T mb v f es w' :=
  ⟨hg.cell h.c0 hT, hg.cell h.c1 hT, (World.frozen?_of_block (hg.block _ h.lt hT)).trans h.f1, h.mp.kept hg hm, h.row.kept hg (.inr hv), h.blw.grown hg h.blw.size hr, h.n1, h.n2, h.n3, h.bT, h.bm⟩
theorem TrS.mput (h : TrS W0 T mb v f es w) {w' : World} {f' : Nat → Nat → Option Nat} (hm : MapF KA mb (fun a => f' a.1 a.2) w') (hg : w.grownBy w' (some mb)) : TrS W0 T mb v f' es w' :=
  ⟨hg.cell h.c0 (fun e => h.n1 (Option.some.inj e)), hg.cell h.c1 (fun e => h.n1 (Option.some.inj e)), (World.frozen?_of_block (hg.block _ h.lt (fun e => h.n1 (Option.some.inj e)))).trans h.f1, hm, h.row.kept hg (.inr fun e => h.n3 e.symm), h.blw.grown hg h.blw.size (fun j hj => by injection hj with hj; rw [← hj]; exact h.bm), h.n1, h.n2, h.n3, h.bT, h.bm⟩
end
theorem QueM.below {b0 : Nat} {v : Value} {l : List Nat} {w w' : World} (h : QueM b0 v l w) (hb : Below w.heap.size w w') : QueM b0 v l w' := by
  obtain ⟨g, o, cap, rfl, h1, h2, h3, h4, h5, h6⟩ := h
  have hk := hb.block g h3
  refine ⟨g, o, cap, rfl, h1, h2, Nat.lt_of_lt_of_le h3 hb.size, fun j hj => ?_, fun j => ?_, fun j hj => ?_⟩
  · obtain ⟨u, hu⟩ := h4 j hj
    exact ⟨u, (World.cell?_of_block hk).trans hu⟩
  · exact (World.frozen?_of_block (a := ⟨g, j, none⟩) hk).trans (h5 j)
  · exact (World.cell?_of_block hk).trans (h6 j hj)
/-- the tree, the row of the shorter nodes, the queue -/
structure CoM (W0 : World) (T mb S g cap M : Nat) (f : Nat → Nat → Option Nat) (es : List Bool) (sh : Nat → Nat) (qv : Value) (Q : List Nat) (w : World) : Prop where
  len : es.length = M
  tr : TrS W0 T mb (.slice (some ⟨g, 0, none⟩) M cap) f es w
  cs : ∀ j, j < M → w.cell? ⟨S, j, none⟩ = some (.int .i64 (sh j : Int))
  fs : ∀ j, w.frozen? ⟨S, j, none⟩ = false
  qu : QueM (S + 1) qv Q w
  hS : S < w.heap.size
  hT : T < S
  hm : mb < S
  hg : g < S
  bS : W0.heap.size ≤ S
section
variable {W0 : World} {T mb S g cap M : Nat} {f : Nat → Nat → Option Nat} {es : List Bool} {sh : Nat → Nat} {qv : Value} {Q : List Nat} {w : World}
theorem CoM.below (h : CoM W0 T mb S g cap M f es sh qv Q w) {w' : World} (hb : Below w.heap.size w w') : CoM W0 T mb S g cap M f es sh qv Q w' :=
  ⟨h.len, h.tr.below hb, fun j hj => (hb.cell (p := ⟨S, j, none⟩) h.hS).trans (h.cs j hj), fun j => (hb.frozen (p := ⟨S, j, none⟩) h.hS).trans (h.fs j), h.qu.below hb, Nat.lt_of_lt_of_le h.hS hb.size, h.hT, h.hm, h.hg, h.bS⟩
theorem CoM.congr (h : CoM W0 T mb S g cap M f es sh qv Q w) {f' : Nat → Nat → Option Nat} {es' : List Bool} {sh' : Nat → Nat} (e1 : ∀ i u, i < 200 → u < 40 → f i u = f' i u) (e2 : es = es') (e3 : ∀ j, j < M → sh j = sh' j) : CoM W0 T mb S g cap M f' es' sh' qv Q w :=
  ⟨by rw [← e2]; exact h.len, by rw [← e2]; exact h.tr.congr e1, fun j hj => by rw [← e3 j hj]; exact h.cs j hj, h.fs, h.qu, h.hS, h.hT, h.hm, h.hg, h.bS⟩
/-- a move is laid -/
theorem CoM.put (h : CoM W0 T mb S g cap M f es sh qv Q w) {w' : World} {f' : Nat → Nat → Option Nat} (hm : MapF KA mb (fun a => f' a.1 a.2) w') (hg : w.grownBy w' (some mb)) : CoM W0 T mb S g cap M f' es sh qv Q w' := by
  have hb := hg.block S h.hS (fun e => by have := h.hm; injection e with e; omega)
  refine ⟨h.len, h.tr.mput hm hg, fun j hj => (World.cell?_of_block hb).trans (h.cs j hj), fun j => (World.frozen?_of_block (a := ⟨S, j, none⟩) hb).trans (h.fs j), h.qu.kept hg (fun e => ?_), Nat.lt_of_lt_of_le h.hS hg.size, h.hT, h.hm, h.hg, h.bS⟩
  have := (h.qu.own _ e).1
  have := h.hm
  omega
/-- a shorter node is laid -/
theorem CoM.setS (h : CoM W0 T mb S g cap M f es sh qv Q w) {j : Nat} (hj : j < M) (x : Nat) : CoM W0 T mb S g cap M f es (fun i => if i = j then x else sh i) qv Q (w.setCell ⟨S, j, none⟩ (.int .i64 (x : Int))) := by
  have hg := grownBy_setCell w S j (.int .i64 (x : Int))
  have h1 := h.hT; have h2 := h.hm; have h3 := h.hg
  refine ⟨h.len, h.tr.far hg (fun e => by injection e with e; omega) (fun e => by injection e with e; omega) (fun e => by
    have e2 : some g = some S := e
    injection e2 with e2; omega) (fun j hj => by injection hj with hj; rw [← hj]; exact h.bS), fun i hi => ?_, fun i => by rw [World.frozen?_setCell]; exact h.fs i, h.qu.kept hg (fun e => by have := (h.qu.own _ e).1; omega), Nat.lt_of_lt_of_le h.hS hg.size, h.hT, h.hm, h.hg, h.bS⟩
  by_cases q : i = j
  · subst q
    rw [if_pos rfl]
    exact World.cell?_setCell_same _ _ _ (h.cs i hi)
  · rw [if_neg q, World.cell?_setCell_other _ _ _ _ (by intro e2; injection e2 with _ e2; exact q e2.symm)]
    exact h.cs i hi
/-- an end is laid -/
theorem CoM.setE (h : CoM W0 T mb S g cap M f es sh qv Q w) (j : Nat) (x : Bool) : CoM W0 T mb S g cap M f (es.set j x) sh qv Q (w.setCell ⟨g, j, none⟩ (.bool x)) := by
  have hg := grownBy_setCell w g j (.bool x)
  have h3 := h.hg
  have hb := hg.block S h.hS (fun e => by injection e with e; omega)
  refine ⟨by rw [List.length_set]; exact h.len, h.tr.setE h.len.symm j x, fun i hi => (World.cell?_of_block hb).trans (h.cs i hi), fun i => (World.frozen?_of_block (a := ⟨S, i, none⟩) hb).trans (h.fs i), h.qu.kept hg (fun e => by have := (h.qu.own _ e).1; omega), Nat.lt_of_lt_of_le h.hS hg.size, h.hT, h.hm, h.hg, h.bS⟩
/-- the queue grows or is cut -/
theorem CoM.que (h : CoM W0 T mb S g cap M f es sh qv Q w) {w' : World} {qv' : Value} {Q' : List Nat} (hq : QueM (S + 1) qv' Q' w') (hg : w.grownBy w' qv.ownBlock) : CoM W0 T mb S g cap M f es sh qv' Q' w' := by
  have far : ∀ k, k ≤ S → some k ≠ qv.ownBlock := fun k hk e => by have := (h.qu.own _ e.symm).1; omega
  have h1 := h.hT; have h2 := h.hm; have h3 := h.hg
  have hb := hg.block S h.hS (far S (Nat.le_refl _))
  exact ⟨h.len, h.tr.far hg (far T (by omega)) (far mb (by omega)) (far g (by omega)) (fun j hj => by have := (h.qu.own _ hj).1; have := h.bS; omega), fun i hi => (World.cell?_of_block hb).trans (h.cs i hi), fun i => (World.frozen?_of_block (a := ⟨S, i, none⟩) hb).trans (h.fs i), hq, Nat.lt_of_lt_of_le h.hS hg.size, h.hT, h.hm, h.hg, h.bS⟩
theorem CoM.cut (h : CoM W0 T mb S g cap M f es sh qv Q w) {qv' : Value} {Q' : List Nat} (hq : QueM (S + 1) qv' Q' w) : CoM W0 T mb S g cap M f es sh qv' Q' w :=
  ⟨h.len, h.tr, h.cs, h.fs, hq, h.hS, h.hT, h.hm, h.hg, h.bS⟩
end
/-- the search and what it has laid -/
structure CoS (W0 : World) (T mb S g cap M : Nat) (bans L : List (List Nat)) (A : Nat) (P : List Nat) (c v : Nat) (R : List Nat) (qv : Value) (Q : List Nat) (w : World) : Prop where
  bi : BI L P c v R
  me : CoM W0 T mb S g cap M (mvF L A P c v) ((List.range L.length).map (enF bans L (P ++ c :: R))) (shF L (P ++ c :: R)) qv Q w
section
variable {W0 : World} {T mb S g cap M : Nat} {bans L : List (List Nat)} {A : Nat} {P : List Nat} {c v : Nat} {R : List Nat} {qv : Value} {Q : List Nat} {w : World}
theorem CoS.lenL (h : CoS W0 T mb S g cap M bans L A P c v R qv Q w) : L.length = M := by have := h.me.len; simpa using this
theorem CoS.no (h : CoS W0 T mb S g cap M bans L A P c v R qv Q w) (hT : Tree L) (hv : v < A) (e : edge L c v = none) {w' : World}
    (hm : MapF KA mb (fun a => if a = (c, v) then some (asideE L c v) else mvF L A P c v a.1 a.2) w') (hg : w.grownBy w' (some mb)) : CoS W0 T mb S g cap M bans L A P c (v + 1) R qv Q w' := by
  refine ⟨h.bi.skip e, h.me.put ?_ hg⟩
  refine hm.congr fun a _ => ?_
  show (if a = (c, v) then some (asideE L c v) else mvF L A P c v a.1 a.2) = mvF L A P c (v + 1) a.1 a.2
  rw [h.bi.mv_none hT e hv]
  by_cases q : a.1 = c ∧ a.2 = v
  · rw [if_pos q, if_pos (Prod.ext q.1 q.2)]
  · rw [if_neg q, if_neg (fun e => q ⟨by rw [e], by rw [e]⟩)]
theorem CoS.yes (h : CoS W0 T mb S g cap M bans L A P c v R qv Q w) (hT : Tree L) (hb : ∀ b ∈ bans, b ∈ L) {j : Nat} (e : edge L c v = some j) {w2 : World}
    (hc : CoM W0 T mb S g cap M (mvF L A P c v) (((List.range L.length).map (enF bans L (P ++ c :: R))).set j (enF bans L (P ++ c :: R) j || enF bans L (P ++ c :: R) (asideE L c v))) (fun i => if i = j then asideE L c v else shF L (P ++ c :: R) i) qv Q w2) :
    CoS W0 T mb S g cap M bans L A P c (v + 1) (R ++ [j]) qv Q w2 := by
  refine ⟨h.bi.push hT e, hc.congr (fun i u _ _ => (h.bi.mv_some hT e i u).symm) ?_ (fun i _ => (h.bi.sh_some hT e i).symm)⟩
  apply List.ext_getElem?
  intro k
  rw [List.getElem?_set]
  by_cases hk : k < L.length
  · rw [List.getElem?_map, List.getElem?_map, List.getElem?_range hk]
    simp only [Option.map_some, List.length_map, List.length_range]
    rw [h.bi.en_some hT e hb]
    by_cases q : j = k
    · subst q
      rw [if_pos rfl, if_pos hk, if_pos rfl]
    · rw [if_neg q, if_neg (fun e => q e.symm)]
  · rw [List.getElem?_eq_none (by simp; omega), List.getElem?_eq_none (by simp; omega)]
    split
    · rw [if_neg (by simp; omega)]
    · rfl
theorem CoS.next {d : Nat} (h : CoS W0 T mb S g cap M bans L A P c A (d :: R) qv Q w) (hT : Tree L) (hv : Vals A L) : CoS W0 T mb S g cap M bans L A (P ++ [c]) d 0 R qv Q w := by
  refine ⟨h.bi.next hT hv, ?_⟩
  have hO : (P ++ [c]) ++ d :: R = P ++ c :: d :: R := by simp
  rw [hO]
  exact h.me.congr (fun i u _ _ => (mvF_next L A P c d i u).symm) rfl (fun _ _ => rfl)
end
/-- what complete leaves: every node has a move by every value, its end says whether it ends with a banned string -/
def fullF (L : List (List Nat)) (A i w : Nat) : Option Nat := if w < A ∧ i < L.length then some (fullE L i w) else none
def endL (bans L : List (List Nat)) : List Bool := L.map fun x => decide (EndsB bans x)
theorem CoS.fin {W0 : World} {T mb S g cap M : Nat} {bans L : List (List Nat)} {A : Nat} {P : List Nat} {c : Nat} {qv : Value} {Q : List Nat} {w : World} (h : CoS W0 T mb S g cap M bans L A P c A [] qv Q w) (hT : Tree L) (hv : Vals A L) :
    TrS W0 T mb (.slice (some ⟨g, 0, none⟩) M cap) (fullF L A) (endL bans L) w := by
  have h1 := h.me.tr.congr (g := fullF L A) fun i u _ _ => mvF_end h.bi hT hv i u
  have e2 : (List.range L.length).map (enF bans L (P ++ [c])) = endL bans L := by
    apply List.ext_getElem?
    intro k
    unfold endL
    by_cases hk : k < L.length
    · rw [List.getElem?_map, List.getElem?_map, List.getElem?_range hk, List.getElem?_eq_getElem hk]
      simp only [Option.map_some]
      rw [enF_end h.bi hT hv hk]
      unfold nodeW
      rw [List.getElem?_eq_getElem hk]
      rfl
    · rw [List.getElem?_eq_none (by simp; omega), List.getElem?_eq_none (by simp; omega)]
  rw [e2] at h1
  exact h1
theorem CoS.start {W0 : World} {T mb S g cap M : Nat} {bans L : List (List Nat)} {A : Nat} {qv : Value} {w : World} (hT : Tree L) (h : CoM W0 T mb S g cap M (edge L) (encA2 L bans) (fun _ => 0) qv [0] w) :
    CoS W0 T mb S g cap M bans L A [] 0 0 [] qv [0] w := by
  refine ⟨BI.start hT, h.congr (fun i u _ _ => (mvF_start L A i u).symm) ?_ (fun j _ => ?_)⟩
  · apply List.ext_getElem?
    intro k
    unfold encA2
    by_cases hk : k < L.length
    · rw [List.getElem?_map, List.getElem?_map, List.getElem?_range hk, List.getElem?_eq_getElem hk]
      simp only [Option.map_some]
      unfold enF
      by_cases q : k = 0
      · subst q
        have e0 : L[0] = [] := by have := hT.zero; rw [List.getElem?_eq_getElem hk] at this; exact Option.some.inj this
        rw [if_pos (by simp), e0, nodeW_zero hT]
        congr 1
        refine decide_eq_decide.2 ⟨fun hb => ⟨[], hb, List.suffix_refl _⟩, ?_⟩
        rintro ⟨b, hb, hs⟩
        rw [List.suffix_nil.1 hs] at hb
        exact hb
      · rw [if_neg (by simp [q])]
        unfold nodeW
        rw [List.getElem?_eq_getElem hk]
        rfl
    · rw [List.getElem?_eq_none (by simp; omega), List.getElem?_eq_none (by simp; omega)]
  · unfold shF
    by_cases q : j ∈ ([] ++ 0 :: [] : List Nat)
    · rw [if_pos q]
      have : j = 0 := by simpa using q
      subst this
      unfold failE
      rw [nodeW_zero hT]
      exact (idx_nil hT).symm
    · rw [if_neg q]
end Go.Proofs.Ytgblfobomiiofaa
namespace Go.Proofs.Ytgblfobomiiofaa
open Go Go.RowKit Gw

set_option maxRecDepth 100000 in
set_option maxHeartbeats 2000000 in
theorem complete_any {W0 w : World} {T mb A : Nat} {v : Value} {bans L : List (List Nat)} (hT : Tree L) (hb : ∀ x ∈ bans, x ∈ L) (hl : L.length ≤ 190) (hA : A ≤ 36) (hv : Vals A L)
    (hm : TrS W0 T mb v (edge L) (encA2 L bans) w) :
    Calls Try.prog 80 #[.pointer (some ⟨T, 0, none⟩), .int .i64 (A : Int)] w fun e w' => e = .returned (.tuple #[]) ∧ Hid (TrS W0 T mb v (fullF L A) (endL bans L) w') := by
  have HT := Lib.hid hT; have HB := Lib.hid hb; have HV := Lib.hid hv
  obtain ⟨M, hM⟩ : ∃ M, M = L.length := ⟨_, rfl⟩
  have hM0 : 0 < M := by rw [hM]; exact (List.getElem?_eq_some_iff.1 hT.zero).1
  have hMl : M ≤ 190 := by omega
  have HM := Lib.hid hM
  have hpos : 0 < (encA2 L bans).length := by rw [encA2_len, ← hM]; exact hM0
  obtain ⟨g, cap, hvv, hgb, hgs⟩ := row_so hpos hm.row
  rw [encA2_len, ← hM] at hvv
  have c1 := hm.c1
  rw [hvv] at c1
  have hmk := made_intS M (by omega)
  have hH0 : Hid (∀ w2, w2 = (w.alloc (.cells (madeCells #[.int .i64 0] M) 3)).alloc (.cells #[.int .i64 0] 3) → CoS W0 T mb w.heap.size g cap M bans L A [] 0 0 [] (.slice (some ⟨w.heap.size + 1, 0, none⟩) 1 1) [0] w2) := by
    rintro w2 rfl
    have hsz : (w.alloc (.cells (madeCells #[.int .i64 0] M) 3)).heap.size = w.heap.size + 1 := World.size_alloc _ _
    have hB1 : Below w.heap.size w (w.alloc (.cells (madeCells #[.int .i64 0] M) 3)) := below_al _ _
    have hB2 : Below (w.heap.size + 1) (w.alloc (.cells (madeCells #[.int .i64 0] M) 3)) ((w.alloc (.cells (madeCells #[.int .i64 0] M) 3)).alloc (.cells #[.int .i64 0] 3)) := by
      have := below_al (w.alloc (.cells (madeCells #[.int .i64 0] M) 3)) (.cells #[.int .i64 0] 3)
      rwa [hsz] at this
    have hb1 : (w.alloc (.cells (madeCells #[.int .i64 0] M) 3)).heap[w.heap.size]? = some (.cells (madeCells #[.int .i64 0] M) 3 (0, 0)) := World.alloc_heap_new _ _
    have hb2 := (hB2.block w.heap.size (by omega)).trans hb1
    have hb3 : ((w.alloc (.cells (madeCells #[.int .i64 0] M) 3)).alloc (.cells #[.int .i64 0] 3)).heap[w.heap.size + 1]? = some (.cells #[.int .i64 0] 3 (0, 0)) := by
      rw [← hsz]; exact World.alloc_heap_new _ _
    refine CoS.start hT ⟨by rw [encA2_len, ← hM], ?_, fun j hj => ?_, fun j => (by unfold World.frozen?; dsimp only; rw [hb2]; simp), ?_, ?_, hm.lt, hm.mp.lt, hgs, hm.blw.size⟩
    · rw [← hvv]; exact (hm.below hB1).below (by rw [hsz]; exact hB2)
    · rw [cell_of_row _ _ _ _ 3 (0, 0) hb2, made_rep]
      simp [repL, hj]
    · refine ⟨w.heap.size + 1, 0, 1, rfl, Nat.le_refl _, Nat.le_refl _, ?_, fun j hj => ?_, fun j => (by unfold World.frozen?; dsimp only; rw [hb3]; simp), fun j hj => ?_⟩
      · exact (Array.getElem?_eq_some_iff.1 hb3).1
      · have : j = 0 := by omega
        subst this
        exact ⟨_, by rw [cell_of_row _ _ _ _ 3 (0, 0) hb3]; rfl⟩
      · have : j = 0 := by simpa using hj
        subst this
        rw [cell_of_row _ _ _ _ 3 (0, 0) hb3]; rfl
    · exact Nat.lt_of_lt_of_le (by omega) ((Array.getElem?_eq_some_iff.1 hb2).1)
  rw [hvv]
  clear hT hb hv hM hpos hvv hm
  go_enter Try.func80, Try.ntmps80
  go_wp2_with fail
  obtain ⟨w2, hw2⟩ : ∃ x, x = (w.alloc (.cells (madeCells #[.int .i64 0] M) 3)).alloc (.cells #[.int .i64 0] 3) := ⟨_, rfl⟩
  rw [← hw2]
  have H0 := Lib.hid (hH0.out w2 hw2)
  obtain ⟨S, hS⟩ : ∃ S, S = w.heap.size := ⟨_, rfl⟩
  rw [← hS] at H0 hgs ⊢
  clear hH0 hmk hw2 hS c1
  go_loopg [5] M (fun k s5 wr => ∃ (P R Q : List Nat) (c u qa qo qc : Nat), s5 = .slice (some ⟨qa, qo, none⟩) Q.length qc ∧ Hid (CoS W0 T mb S g cap M bans L A P c u R (.slice (some ⟨qa, qo, none⟩) Q.length qc) Q wr) ∧ Hid ((u = 0 ∧ Q = c :: R ∧ M ≤ k + P.length) ∨ (u = A ∧ Q = [] ∧ R = [])))
  case atStart => exact ⟨[], [], [0], 0, 0, S + 1, 0, 1, rfl, H0, .inl ⟨rfl, rfl, by simp⟩⟩
  case round =>
    obtain ⟨P, R, Q, c, u, qa, qo, qc, rfl, HC, HQ⟩ := hrel
    rcases HQ.out with ⟨rfl, rfl, hk⟩ | ⟨hu, rfl, rfl⟩
    · rw [List.length_cons] at HC ⊢
      have hlen := HC.out.bi.len
      rw [← HM.out] at hlen
      obtain ⟨qv, hpop, hq2, -⟩ := QueM.pop HC.out.me.qu
      have c0 := HC.out.me.qu.head
      have hc200 : c < M := by rw [HM.out]; exact HC.out.bi.clt
      obtain ⟨g2, o2, cap2, rfl, -⟩ := hq2.sl
      obtain ⟨n, hn⟩ : ∃ n, n = R.length := ⟨_, rfl⟩
      rw [← hn] at hpop hq2 hlen HC ⊢
      have HC2 : Hid (n = R.length ∧ CoS W0 T mb S g cap M bans L A P c 0 R (.slice (some ⟨g2, o2, none⟩) n cap2) R wr) := ⟨hn, HC.out.bi, HC.out.me.cut hq2⟩
      have HPk : Hid (M ≤ gk + P.length ∧ P.length < M) := ⟨hk, by omega⟩
      clear HC HQ hn hk hq2
      go_wp2_with fail
      go_loopw [5, 27] (fun s5 s27 wr2 => ∃ (R2 : List Nat) (u qa qo qc n : Nat), u ≤ A ∧ s27 = .int .i64 u ∧ s5 = .slice (some ⟨qa, qo, none⟩) n qc ∧ Hid (n = R2.length ∧ CoS W0 T mb S g cap M bans L A P c u R2 (.slice (some ⟨qa, qo, none⟩) n qc) R2 wr2)) (fun _ s27 _ => A - (intOf s27).toNat)
      case atStart => exact ⟨R, 0, g2, o2, cap2, n, Nat.zero_le _, rfl, rfl, HC2⟩
      case round =>
        clear hpop c0 HC2 H0 hlen
        obtain ⟨R2, u, qa, qo, qc, n, hu, rfl, rfl, HC3⟩ := hrel
        by_cases q : u < A
        · have q1 : (u : Int) < A := by omega
          have hw : IntKind.i64.wrap ((u : Int) + 1) = ((u + 1 : Nat) : Int) := by rw [IntWalk.i64_in _ (by omega)]; omega
          have hc3 := HC3.out.2
          obtain ⟨a, ha⟩ : ∃ a, a = asideE L c u := ⟨_, rfl⟩
          have haM : a < M := by rw [ha, HM.out]; exact hc3.bi.lt _ (hc3.bi.aside_in HT.out)
          have hnM : n < M := by
            have h1 := hc3.bi.len
            have h2 := HC3.out.1
            have h3 := HM.out
            omega
          obtain ⟨x, hx⟩ : ∃ x, x = failE L c := ⟨_, rfl⟩
          have hxM : x < M := by rw [hx, HM.out]; exact failE_lt HT.out c
          have c0 := hc3.me.tr.c0
          have cx : wr.cell? ⟨S, c, none⟩ = some (.int .i64 (x : Int)) := by
            have h1 := hc3.me.cs c hc200
            have h2 : shF L (P ++ c :: R2) c = x := by unfold shF; rw [if_pos (by simp), hx]
            rw [h2] at h1
            exact h1
          have H3 := HC3
          have HA := Lib.hid ha; have HX := Lib.hid hx; have HP := HPk; have HM2 := HM
          go_upto_region 8 with fail
          go_cut [8] from 30 to 42 (fun s8 wz => s8 = .int .i64 0 ∧ wz = wr)
          case first =>
            go_wp2_with fail
            go_meet
            exact ⟨rfl, rfl⟩
          case rest =>
          obtain ⟨rfl, rfl⟩ := hcut
          apply_assumption
          refine wp_seq_k fun _ _ => ?_
          go_cut [8] from 30 to 42 (fun s8 wz => s8 = .int .i64 (a : Int) ∧ Hid (CoS W0 T mb S g cap M bans L A P c u R2 (.slice (some ⟨qa, qo, none⟩) n qc) R2 wz))
          case first =>
            by_cases hc0 : c = 0
            · have ha0 : a = 0 := by rw [ha]; unfold asideE; rw [if_pos hc0]
              subst hc0
              have HC4 := Lib.hid H3.out.2
              clear hc3 c0 cx ha hx haM hxM
              subst ha0
              go_wp2_with fail
              go_meet
              exact ⟨rfl, HC4⟩
            · have hci : ((c : Int) != 0) = true := by rw [bne_iff_ne]; omega
              have hlk : ∀ q, (Instr.lookup 76 (.map (some mb)) (.agg #[.int .i64 (x : Int), .int .i64 (u : Int)]) false).run Try.prog (wc.drewN q) = .ok (.int .i64 (a : Int)) (wc.drewN q) := fun q2 => by
                have h1 := (hc3.me.tr.mp.below (below_dr wc q2)).get (a := (x, u)) Try.underlying76 (by exact ⟨by show x < 200; omega, by show u < 40; omega⟩)
                have h2 : mvF L A P c u x u = some a := by rw [hx, ha]; exact hc3.bi.aside HT.out hc0 q
                dsimp only at h1
                rw [h2] at h1
                exact h1
              have c0d : ∀ q, (wc.drewN q).cell? ⟨T, 0, none⟩ = some (.map (some mb)) := fun q2 => c0
              have hcM : (c : Int) < M := by omega
              clear hc3 ha hx
              go_wp2_with fail
              go_quiet (fail)
              rename_i nq
              have HC4 := Lib.hid (H3.out.2.me.below (below_dr wc nq))
              go_wp2_with fail
              go_meet
              exact ⟨rfl, H3.out.2.bi, HC4.out⟩
          case rest =>
            obtain ⟨rfl, H4⟩ := hcut
            have hc4 := H4.out
            obtain ⟨fe, hfe⟩ : ∃ fe, fe = edge L c u := ⟨_, rfl⟩
            have c0' := hc4.me.tr.c0
            have hlk : (Instr.lookup 76 (.map (some mb)) (.agg #[.int .i64 (c : Int), .int .i64 (u : Int)]) true).run Try.prog wc = .ok (.tuple #[.int .i64 ((fe.getD 0 : Nat) : Int), .bool fe.isSome]) wc := by
              have h1 := hc4.me.tr.mp.get2 (a := (c, u)) Try.underlying76 (by exact ⟨by show c < 200; omega, by show u < 40; omega⟩)
              dsimp only at h1
              rw [hc4.bi.mv_now, ← hfe] at h1
              exact h1
            have HFE := Lib.hid hfe
            clear hfe hc4 hc3 ha hx cx c0
            cases fe with
            | none =>
              have hlk2 : (Instr.lookup 76 (.map (some mb)) (.agg #[.int .i64 (c : Int), .int .i64 (u : Int)]) true).run Try.prog wc = .ok (.tuple #[.int .i64 0, .bool false]) wc := hlk
              clear hlk
              obtain ⟨w3, hup, HM3, HG3⟩ := H4.out.me.tr.mp.put (a := (c, u)) (t := 76) Try.underlying76 (by exact ⟨by show c < 200; omega, by show u < 40; omega⟩) (j := a) (by omega)
              have HUP : (Instr.mapUpdate 76 (.map (some mb)) (.agg #[.int .i64 (c : Int), .int .i64 (u : Int)]) (.int .i64 (a : Int))).run Try.prog wc = .ok () w3 := hup
              have HM3' := Lib.hid HM3; have HG3' := Lib.hid HG3
              clear hup HM3 HG3
              go_upto_region 17 with fail
              have HN : Hid (n = R2.length ∧ CoS W0 T mb S g cap M bans L A P c (u + 1) R2 (.slice (some ⟨qa, qo, none⟩) n qc) R2 w3) := by
                refine ⟨HC3.out.1, H4.out.no HT.out q HFE.out.symm ?_ HG3'.out⟩
                have := HM3'.out
                rw [HA.out] at this
                exact this
              clear HM3' HG3' HUP hlk2 H4 HC3 H3 c0'
              go_wp2_with fail
              go_roundw
              case rel => exact ⟨R2, u + 1, qa, qo, qc, n, q, by go_num, rfl, HN⟩
              case measure => simp [intOf]; omega
            | some j =>
              have hlk2 : (Instr.lookup 76 (.map (some mb)) (.agg #[.int .i64 (c : Int), .int .i64 (u : Int)]) true).run Try.prog wc = .ok (.tuple #[.int .i64 (j : Int), .bool true]) wc := hlk
              clear hlk
              have hjM : j < M := by rw [HM2.out]; exact edge_lt HT.out.dup HFE.out.symm
              have hM2 := HM2.out
              have hme := H4.out.me
              obtain ⟨z, hz⟩ : ∃ z, wc.cell? ⟨S, j, none⟩ = some z := ⟨_, hme.cs j hjM⟩
              have hfz := hme.fs j
              have HS1 := Lib.hid (hme.setS hjM a)
              clear hme hM2
              go_upto_region 15 with fail
              clear hz hfz hlk2 c0' H4
              generalize World.setCell _ _ _ = w4 at HS1 ⊢
              obtain ⟨e1, he1⟩ : ∃ e1, e1 = enF bans L (P ++ c :: R2) j := ⟨_, rfl⟩
              obtain ⟨e2, he2⟩ : ∃ e2, e2 = enF bans L (P ++ c :: R2) a := ⟨_, rfl⟩
              have hes : ((List.range L.length).map (enF bans L (P ++ c :: R2))).length = M := HS1.out.len
              have c1 := HS1.out.tr.c1
              have k1 := (HS1.out.tr.cE (j := j) (by rw [hes]; exact hjM)).1
              have k2 := (HS1.out.tr.cE (j := a) (by rw [hes]; exact haM)).1
              have k3 := (HS1.out.tr.cE (j := j) (by rw [hes]; exact hjM)).2
              rw [List.getElem_map, List.getElem_range, ← he1] at k1
              rw [List.getElem_map, List.getElem_range, ← he2] at k2
              have c1' : w4.drew.cell? ⟨T, 1, none⟩ = some (.slice (some ⟨g, 0, none⟩) M cap) := c1
              have k1' : w4.drew.cell? ⟨g, j, none⟩ = some (.bool e1) := k1
              have k2' : w4.drew.cell? ⟨g, a, none⟩ = some (.bool e2) := k2
              have k3' : w4.drew.frozen? ⟨g, j, none⟩ = false := k3
              have HES : Hid (e1 = enF bans L (P ++ c :: R2) j ∧ e2 = enF bans L (P ++ c :: R2) a) := ⟨he1, he2⟩
              have hji : (j : Int) < M := by omega
              have hai : (a : Int) < M := by omega
              clear he1 he2 hes
              go_cut [] from 68 to 89 (fun wz => Hid (CoM W0 T mb S g cap M (mvF L A P c u) (((List.range L.length).map (enF bans L (P ++ c :: R2))).set j (e1 || e2)) (fun i => if i = j then a else shF L (P ++ c :: R2) i) (.slice (some ⟨qa, qo, none⟩) n qc) R2 wz))
              case first =>
                have HD := Lib.hid ((HS1.out.below (below_dr w4 1)).setE j (e1 || e2))
                clear HES HS1 HT HB HV HM HM2 HA HX HP H3 HFE HPk
                cases e1 with
                | true =>
                  go_region
                  all_goals go_wp2_with fail
                  all_goals go_meet
                  all_goals exact HD
                | false =>
                  go_region
                  all_goals go_wp2_with fail
                  all_goals go_meet
                  all_goals exact HD
              case rest =>
                have HS2 : Hid (CoS W0 T mb S g cap M bans L A P c (u + 1) (R2 ++ [j]) (.slice (some ⟨qa, qo, none⟩) n qc) R2 wc) := by
                  have h2 := hcut.out
                  rw [HES.out.1, HES.out.2, HA.out] at h2
                  exact H3.out.2.yes HT.out HB.out HFE.out.symm h2
                have HQ0 := Lib.hid (HS2.out.me.qu.below (below_al wc (.cells #[.int .i64 (j : Int)] 3)))
                have hSw2 : S + 1 ≤ (wc.alloc (.cells #[.int .i64 (j : Int)] 3)).heap.size := by rw [World.size_alloc]; have := HS2.out.me.hS; omega
                have hR100 : R2.length ≤ 100000 := by have := HC3.out.1; omega
                clear c1 c1' k1 k1' k2 k2' k3 k3' HS1 hcut HES H3
                go_upto_region 17 with (at_builtin; refine wpList_append_que (b0 := S + 1) (v := .slice (some ⟨qa, qo, none⟩) n qc) (l := R2) (X := wc.heap.size) (x := j) rfl _ _ rfl rfl HQ0.out rfl (World.cell?_alloc_at _ _ _ _ rfl) hR100 hSw2 ?_; intro v' w8 hq8 hg8; obtain ⟨qa8, qo8, qc8, rfl, -⟩ := hq8.sl)
                have HN : Hid (CoS W0 T mb S g cap M bans L A P c (u + 1) (R2 ++ [j]) (.slice (some ⟨qa8, qo8, none⟩) (R2 ++ [j]).length qc8) (R2 ++ [j]) w8) := ⟨HS2.out.bi, (HS2.out.me.below (below_al _ _)).que hq8 hg8⟩
                rw [List.length_append, List.length_singleton] at HN
                obtain ⟨n8, hn8⟩ : ∃ n8, n8 = R2.length + 1 := ⟨_, rfl⟩
                rw [← hn8] at HN ⊢
                have HN8 : Hid (n8 = (R2 ++ [j]).length) := by rw [List.length_append, List.length_singleton]; exact hn8
                clear hn8 hq8 hg8 HQ0 HS2
                go_wp2_with fail
                go_roundw
                case rel => exact ⟨R2 ++ [j], u + 1, qa8, qo8, qc8, n8, q, by go_num, rfl, HN8.out, HN.out⟩
                case measure => simp [intOf]; omega
        · obtain rfl : u = A := by omega
          have q1 : ¬ (u : Int) < u := by omega
          go_wp2_with fail
          have hn := HC3.out.1
          have hc3 := HC3.out.2
          have hP1 := HPk.out.1
          have hP2 := HPk.out.2
          cases R2 with
          | nil =>
            go_roundg 0
            case measure => omega
            case rel => exact ⟨P, [], [], c, u, qa, qo, qc, by rw [hn], by rw [hn] at hc3; exact hc3, .inr ⟨rfl, rfl, rfl⟩⟩
          | cons d R3 =>
            go_roundg (gk - 1)
            case measure => omega
            case rel => exact ⟨P ++ [c], R3, d :: R3, d, 0, qa, qo, qc, by rw [hn], by rw [hn] at hc3; exact hc3.next HT.out HV.out, .inl ⟨rfl, rfl, by rw [List.length_append, List.length_singleton]; omega⟩⟩
    · rw [hu] at HC
      have hf := HC.out.fin HT.out HV.out
      have HF : Hid (TrS W0 T mb (.slice (some ⟨g, 0, none⟩) M cap) (fullF L A) (endL bans L) wr) := hf
      clear hf HC HQ H0 hu
      rw [List.length_nil]
      go_wp2_with fail
      go_end0
      exact ⟨rfl, HF⟩
end Go.Proofs.Ytgblfobomiiofaa
namespace Go.Proofs.Ytgblfobomiiofaa
open Go Go.RowKit Gw Go.Maps

section
variable {α : Type} {k : TypeId} (K : KeyK α k)
/-- the datum of a map and its function -/
def RelF (D : DataW Unit) (f : α → Option Nat) : Prop := (∀ l, Maps.has D l = true → ∃ a, K.dom a ∧ l = K.kl a) ∧
    ∀ a, K.dom a → Maps.has D (K.kl a) = (f a).isSome ∧ ∀ j, f a = some j → (j ≤ 9223372036854775807 ∧ ∀ z, D.atKey (K.kl a) z = .lit (.int .i64 (j : Int)))
variable {K}
theorem RelF.del [DecidableEq α] {D : DataW Unit} {f : α → Option Nat} (h : RelF K D f) {a : α} (ha : K.dom a) : RelF K (D.del (K.kl a)) (fun x => if x = a then none else f x) := by
  refine ⟨fun l hl => ?_, fun x hx => ?_⟩
  · by_cases e : l = K.kl a
    · exact ⟨a, ha, e⟩
    · rw [has_del_other e] at hl
      exact h.1 l hl
  · by_cases e : x = a
    · subst e
      rw [has_del_same]
      exact ⟨by simp, fun j hj => by simp at hj⟩
    · have hne : K.kl x ≠ K.kl a := fun q => e (K.inj hx ha q)
      rw [has_del_other hne]
      simp only [if_neg e]
      exact ⟨(h.2 x hx).1, fun j hj => ⟨((h.2 x hx).2 j hj).1, fun z => by rw [atKey_del_other hne]; exact ((h.2 x hx).2 j hj).2 z⟩⟩
/-- the entries that a predicate names are struck -/
def delF (f : α → Option Nat) (pd : Nat → Bool) (a : α) : Option Nat := match f a with
  | some j => if pd j then none else some j
  | none => none
/-- under way: what is left is as it was, what has come is struck if it is named -/
def UndF (f : α → Option Nat) (pd : Nat → Bool) (D : DataW Unit) (left : Lit → Bool) : Prop :=
  ∃ f', RelF K D f' ∧ (∀ l, left l = true → Maps.has D l = true) ∧ ∀ a, K.dom a → f' a = if left (K.kl a) then f a else delF f pd a
theorem UndF.start {f : α → Option Nat} {pd : Nat → Bool} {D : DataW Unit} (h : RelF K D f) : UndF (K := K) f pd D (Maps.has D) := by
  refine ⟨f, h, fun l hl => hl, fun a ha => ?_⟩
  have h1 := (h.2 a ha).1
  cases hf : f a with
  | some j => rw [hf] at h1; rw [h1]; rfl
  | none =>
    split
    · rfl
    · unfold delF; rw [hf]
theorem UndF.fin {f : α → Option Nat} {pd : Nat → Bool} {D : DataW Unit} {left : Lit → Bool} (h : UndF (K := K) f pd D left) (hl : ∀ l, left l = false) : RelF K D (delF f pd) := by
  obtain ⟨f', h1, h2, h3⟩ := h
  refine ⟨h1.1, fun a ha => ?_⟩
  have := h3 a ha
  rw [hl] at this
  rw [← this.trans (if_neg (by simp))]
  exact h1.2 a ha
theorem UndF.at' {f : α → Option Nat} {pd : Nat → Bool} {D : DataW Unit} {left : Lit → Bool} (h : UndF (K := K) f pd D left) {key : Value} {kl : Lit} (hk : keyOf Try.prog k key = some kl) (hl : left kl = true) :
    ∃ a j, K.dom a ∧ kl = K.kl a ∧ key = K.enc a ∧ f a = some j ∧ j ≤ 9223372036854775807 ∧ ∀ z, D.atKey kl z = .lit (.int .i64 (j : Int)) := by
  obtain ⟨f', h1, h2, h3⟩ := h
  have hh := h2 kl hl
  obtain ⟨a, ha, rfl⟩ := h1.1 kl hh
  have h4 := (h1.2 a ha).1
  rw [hh] at h4
  have h5 := h3 a ha
  rw [if_pos hl] at h5
  rw [h5] at h4
  cases hf : f a with
  | none => rw [hf] at h4; simp at h4
  | some j =>
    have h6 := (h1.2 a ha).2 j (by rw [h5, hf])
    exact ⟨a, j, ha, rfl, K.keyed.inj hk (K.key a ha), hf, h6.1, h6.2⟩
theorem left_other {left : Lit → Bool} {a x : α} (ha : K.dom a) (hx : K.dom x) (e : x ≠ a) : (left (K.kl x) && !(K.kl x).sameKey (K.kl a)) = left (K.kl x) := by
  have hne : K.kl x ≠ K.kl a := fun q => e (K.inj hx ha q)
  rw [Maps.sameKey_ne hne]
  simp
theorem left_same {left : Lit → Bool} {a : α} (ha : K.dom a) : (left (K.kl a) && !(K.kl a).sameKey (K.kl a)) = false := by
  rw [WideAt.sameKey_self (K.keyed.key (K.key a ha))]
  simp
theorem UndF.stays {f : α → Option Nat} {pd : Nat → Bool} {D : DataW Unit} {left : Lit → Bool} (h : UndF (K := K) f pd D left) {a : α} (ha : K.dom a) {j : Nat} (hf : f a = some j) (hp : pd j = false) :
    UndF (K := K) f pd D (fun z => left z && !z.sameKey (K.kl a)) := by
  classical
  obtain ⟨f', h1, h2, h3⟩ := h
  refine ⟨f', h1, fun l hl => h2 l (by simp at hl; exact hl.1), fun x hx => ?_⟩
  dsimp only
  by_cases e : x = a
  · subst e
    simp only [left_same hx]
    rw [h3 x hx]
    simp only [delF, hf, hp]
    simp
  · simp only [left_other ha hx e]
    exact h3 x hx
theorem UndF.struck [DecidableEq α] {f : α → Option Nat} {pd : Nat → Bool} {D : DataW Unit} {left : Lit → Bool} (h : UndF (K := K) f pd D left) {a : α} (ha : K.dom a) {j : Nat} (hf : f a = some j) (hp : pd j = true) :
    UndF (K := K) f pd (D.del (K.kl a)) (fun z => left z && !z.sameKey (K.kl a)) := by
  obtain ⟨f', h1, h2, h3⟩ := h
  refine ⟨_, h1.del ha, fun l hl => ?_, fun x hx => ?_⟩
  · simp only [Bool.and_eq_true, Bool.not_eq_true'] at hl
    have hne : l ≠ K.kl a := fun e => by
      rw [e, WideAt.sameKey_self (K.keyed.key (K.key a ha))] at hl
      simp at hl
    rw [has_del_other hne]
    exact h2 l hl.1
  · dsimp only
    by_cases e : x = a
    · subst e
      simp only [left_same hx, delF, hf, hp]
      simp
    · simp only [left_other ha hx e, if_neg e]
      exact h3 x hx
end
/-- the closure: is this state an end? -/
theorem closure_any {W : World} {T g M cap : Nat} {a : Nat × Nat} {j : Nat} {e : Bool} (c1 : W.cell? ⟨T, 1, none⟩ = some (.slice (some ⟨g, 0, none⟩) M cap)) (ce : W.cell? ⟨g, j, none⟩ = some (.bool e)) (hj : j < M) :
    Calls Try.prog 82 #[arrV a, .int .i64 (j : Int), .pointer (some ⟨T, 0, none⟩)] W fun r w' => r = .returned (.bool e) ∧ Hid (Below W.heap.size W w') := by
  have hb := World.block_lt_of_cell? _ _ c1
  have hb2 := World.block_lt_of_cell? _ _ ce
  have hji : (j : Int) < M := by omega
  unfold arrV
  go_enter Try.func82, Try.ntmps82
  go_wp2_with fail
  refine bodyPost_ret (v := .bool e) (by simp [results, Try.results82, go_sem]) rfl ?_
  exact ⟨rfl, below_al _ _⟩
set_option maxRecDepth 100000 in
set_option maxHeartbeats 2000000 in
theorem deleteFunc_any {W0 w : World} {T mb g M cap : Nat} {f : Nat → Nat → Option Nat} {es : List Bool} (hM : es.length = M) (h : TrS W0 T mb (.slice (some ⟨g, 0, none⟩) M cap) f es w) (hf : ∀ i u j, f i u = some j → j < M) :
    Calls Try.prog 81 #[.map (some mb), .func (.func 82) #[] #[.pointer (some ⟨T, 0, none⟩)]] w fun e w' => e = .returned (.tuple #[]) ∧ Hid (TrS W0 T mb (.slice (some ⟨g, 0, none⟩) M cap) (fun i u => delF (fun a : Nat × Nat => f a.1 a.2) (fun j => es.getD j false) (i, u)) es w') := by
  obtain ⟨D, hown, hR⟩ := h.mp
  have HR : Hid (UndF (K := KA) (fun a : Nat × Nat => f a.1 a.2) (fun j => es.getD j false) D (Maps.has D)) := UndF.start hR
  have HF := Lib.hid hf
  have HM := Lib.hid hM
  have HT := Lib.hid h
  clear hR hf hM h
  go_enter Try.func81, Try.ntmps81
  go_wp2_with (first
    | (at_range; refine wpList_range_own _ rfl _ 76 rfl 118 3 keyedA Try.underlying76 (plainElem Try.prog 3) mb _ D rfl hown ?_; intro w0 hrg0 hg0 hs0)
    | fail)
  go_frame
  obtain ⟨r0, hr0⟩ : ∃ r0, r0 = w.heap.size := ⟨_, rfl⟩
  have hTl : T < r0 := by rw [hr0]; exact HT.out.lt
  have HG0 := Lib.hid hg0
  have HR0 := Lib.hid hr0
  rw [← hr0] at hrg0 ⊢
  clear hown hg0 hs0 hr0
  go_loopw [8] (fun _ wr => ∃ (D2 : DataW Unit) (left : Lit → Bool) (cnt : Nat), wr.ranges Try.prog 118 (plainElem Try.prog 3) mb r0 (Maps.size D) D2 left cnt ∧ Hid (UndF (K := KA) (fun a : Nat × Nat => f a.1 a.2) (fun j => es.getD j false) D2 left) ∧ Hid (w.grownBy wr (some mb)))
    (fun _ wr => wr.rangeLeft mb r0)
  case atStart => exact ⟨_, _, _, hrg0, HR, HG0.out.but _⟩
  case round =>
    obtain ⟨D2, left, cnt, hrg, HU, HG⟩ := hrel
    have hrlt := hrg.lt
    clear hrg0 HG0
    go_wp2_with (first
      | (at_next; refine wpList_next_ranges _ rfl _ rfl 118 keyedA (plainElem Try.prog 3) id id (fun key _ _ => ⟨key, rfl⟩) (fun v _ _ => ⟨v, rfl⟩) mb r0 (Maps.size D) D2 left cnt rfl hrg ?_ ?_)
      | fail)
    · intro _ hl0
      have HF2 : Hid (TrS W0 T mb (.slice (some ⟨g, 0, none⟩) M cap) (fun i u => delF (fun a : Nat × Nat => f a.1 a.2) (fun j => es.getD j false) (i, u)) es wr) :=
        HT.out.mput ⟨D2, owns_tight hrg.owns, HU.out.fin hl0⟩ HG.out
      clear hrg
      go_wp2_with fail
      go_end0
      exact ⟨rfl, HF2⟩
    · intro x c kl yd yp w1 cnt1 hkey hlx hv hat hrg1 hlt hg1 hs1 hen
      obtain ⟨a, j, ha, rfl, rfl, hfa, hj, hz⟩ := HU.out.at' hkey hlx
      obtain ⟨c', rfl, hc, hwc⟩ := plainElem_int_inv Try.underlying3 hv
      have hcj : (j : Int) = c' := by
        have h1 := (hz .nil).symm.trans (hat .nil)
        rw [(Prod.mk.inj hc).1] at h1
        exact lit_inj h1
      subst hcj
      have hjM : j < M := HF.out _ _ _ hfa
      have hgw1 : w.grownBy w1 (some mb) := HG.out.andThen hg1 (fun j hj => by cases hj; exact Or.inl (by have := HR0.out; omega))
      have HU1 := HU
      have HC : Hid (∀ w2, w1.grownBy w2 none → Calls Try.prog 82 #[arrV a, .int .i64 (j : Int), .pointer (some ⟨T, 0, none⟩)] w2 fun r w' => r = .returned (.bool (es.getD j false)) ∧ Hid (Below w2.heap.size w2 w')) := fun w2 hg2 => by
        have hg3 : w.grownBy w2 (some mb) := hgw1.andThen hg2 (fun j hj => by cases hj)
        have hT := HT.out
        have c1 := hg3.cell hT.c1 (fun e => hT.n1 (Option.some.inj e))
        have hjl : j < es.length := by rw [HM.out]; exact hjM
        have ce := hg3.cell (hT.cE hjl).1 (fun e => hT.n3 (by rw [← e]; rfl))
        have e0 : es.getD j false = es[j] := by simp [hjl]
        rw [e0]
        exact closure_any c1 ce hjM
      have HGW := Lib.hid hgw1
      clear hgw1 hz hat hv hc
      have e1 : KA.enc a = .agg #[.int .i64 (a.1 : Int), .int .i64 (a.2 : Int)] := rfl
      obtain ⟨kl, hkl⟩ : ∃ kl, kl = KA.kl a := ⟨_, rfl⟩
      rw [← hkl] at hkey hlx hrg1
      rw [e1] at hkey hen ⊢
      unfold arrV at HC
      have HKL := Lib.hid hkl
      have HA := Lib.hid ha
      have HFA := Lib.hid hfa
      obtain ⟨x1, hx1⟩ : ∃ x1, x1 = a.1 := ⟨_, rfl⟩
      obtain ⟨x2, hx2⟩ : ∃ x2, x2 = a.2 := ⟨_, rfl⟩
      have HX := Lib.hid (And.intro hx1 hx2)
      rw [← hx1, ← hx2] at hkey hen HC HFA ⊢
      obtain ⟨e, he⟩ : ∃ e, e = es.getD j false := ⟨_, rfl⟩
      rw [← he] at HC
      have HE := Lib.hid he
      have HLE := Lib.hid hrg.left_eq
      clear hkl ha hfa e1 hx1 hx2 he hlx hrg HG hg1
      have hbl := hrg1.owns.lt
      go_upto_region 3 with fail
      obtain ⟨X, hX⟩ : ∃ X, X = wr.heap.size := ⟨_, rfl⟩
      have hw1X : w1.heap.size = X := by rw [hX]; exact hs1
      obtain ⟨w2, hw2⟩ : ∃ w2, w2 = w1.alloc (.cells #[.int .i64 (x1 : Int), .int .i64 (x2 : Int)] 118) := ⟨_, rfl⟩
      have hb2 : Below w1.heap.size w1 w2 := by rw [hw2]; exact below_al _ _
      have k0 : w2.cell? ⟨X, 0, none⟩ = some (.int .i64 (x1 : Int)) := by rw [hw2, ← hw1X]; exact World.cell?_alloc_at _ _ _ _ rfl
      have k1 : w2.cell? ⟨X, 1, none⟩ = some (.int .i64 (x2 : Int)) := by rw [hw2, ← hw1X]; exact World.cell?_alloc_at _ _ _ _ rfl
      have hXl : X < w2.heap.size := World.block_lt_of_cell? _ _ k0
      have hg2 : w1.grownBy w2 none := ⟨hb2.os, hb2.tape, hb2.output, hb2.size, fun k hk _ => hb2.block k hk⟩
      have hrg2 := hrg1.kept hg2 (by simp) (by simp)
      have HC2 := Lib.hid (HC.out w2 hg2)
      have HG2 : Hid (w.grownBy w2 (some mb)) := HGW.out.andThen hg2 (fun j hj => by cases hj)
      rw [← hX, ← hw2]
      clear hX hw1X hw2 hb2 hg2 HC HGW hrg1 hs1 hbl hen hrlt
      have hbl := hrg2.owns.lt
      have hbr := hrg2.lt
      cases e with
      | false =>
        go_wp2_with (first
          | (go_at_call 82; (with_reducible refine HC2.out.mono ?_); rintro e' w3 ⟨rfl, HB3⟩)
          | fail)
        have hg3 : w2.grownBy w3 none := ⟨HB3.out.os, HB3.out.tape, HB3.out.output, HB3.out.size, fun k hk _ => HB3.out.block k hk⟩
        have hrg3 := hrg2.kept hg3 (by simp) (by simp)
        have HG3 : Hid (w.grownBy w3 (some mb)) := HG2.out.andThen hg3 (fun j hj => by cases hj)
        have HU3 : Hid (UndF (K := KA) (fun a : Nat × Nat => f a.1 a.2) (fun j => es.getD j false) D2 (fun z => left z && !z.sameKey kl)) := by
          rw [HKL.out]
          exact HU1.out.stays HA.out (by rw [← HX.out.1, ← HX.out.2]; exact HFA.out) HE.out.symm
        go_roundw
        case rel => exact ⟨_, _, cnt1, hrg3, HU3, HG3⟩
        case measure => rw [hrg3.left_eq, HLE.out]; exact hlt
      | true =>
        go_wp2_with (first
          | (go_at_call 82; (with_reducible refine HC2.out.mono ?_); rintro e' w3 ⟨rfl, HB3⟩; have k0' := (HB3.out.cell (p := ⟨X, 0, none⟩) hXl).trans k0; have k1' := (HB3.out.cell (p := ⟨X, 1, none⟩) hXl).trans k1; have HG3 := Lib.hid (show w2.grownBy w3 none from ⟨HB3.out.os, HB3.out.tape, HB3.out.output, HB3.out.size, fun k hk _ => HB3.out.block k hk⟩); have hrg3 := hrg2.kept HG3.out (by simp) (by simp))
          | (at_delete; refine wpList_delete_ranges _ rfl _ _ 76 118 rfl 3 keyedA Try.underlying76 (plainElem Try.prog 3) mb r0 (Maps.size D) _ _ _ rfl hrg3 _ _ rfl hkey ?_; intro w4 cnt4 hrg4 hle hturn; go_frame)
          | fail)
        rw [Maps.strike_twice] at hrg4
        have HG4 : Hid (w.grownBy w4 (some mb)) := (HG2.out.andThen HG3.out (fun j hj => by cases hj)).andThen hturn.grown (fun j hj => by cases hj; exact Or.inr rfl)
        have HU3 : Hid (UndF (K := KA) (fun a : Nat × Nat => f a.1 a.2) (fun j => es.getD j false) (D2.del kl) (fun z => left z && !z.sameKey kl)) := by
          rw [HKL.out]
          exact HU1.out.struck HA.out (by rw [← HX.out.1, ← HX.out.2]; exact HFA.out) HE.out.symm
        go_roundw
        case rel => exact ⟨_, _, cnt4, hrg4, HU3, HG4⟩
        case measure => rw [hrg4.left_eq, HLE.out]; omega
end Go.Proofs.Ytgblfobomiiofaa
namespace Go.Proofs.Ytgblfobomiiofaa
open Go Go.RowKit Gw Go.Maps

/-- a list of lists of numbers -/
def IsSls (W : World) (v : Value) (bs : List (List Nat)) : Prop :=
  ∃ ao c, v = .slice ao bs.length c ∧ ∀ i (h : i < bs.length), ∃ B o bv, ao = some ⟨B, o, none⟩ ∧ W.cell? ⟨B, o + i, none⟩ = some bv ∧ IsIs W bv (asI bs[i])
theorem IsSls.at' {W : World} {ao : Option Addr} {n c : Nat} {bs : List (List Nat)} (h : IsSls W (.slice ao n c) bs) {i : Nat} (hi : i < bs.length) : ∃ B o bv, ao = some ⟨B, o, none⟩ ∧ W.cell? ⟨B, o + i, none⟩ = some bv ∧ IsIs W bv (asI bs[i]) := by
  obtain ⟨ao', c', hv, h⟩ := h
  injection hv with h1 h2 h3
  subst h1
  exact h i hi
theorem sumL_le {k : Nat} : ∀ {bs : List (List Nat)}, (∀ b ∈ bs, b.length ≤ k) → sumL bs ≤ k * bs.length
  | [], _ => by simp [sumL]
  | b :: t, h => by
    have h1 := sumL_le (bs := t) (fun x hx => h x (by simp [hx]))
    have h2 := h b (by simp)
    simp only [sumL, List.length_cons] at h1 ⊢
    rw [Nat.mul_succ]
    omega
theorem treeL_le {bs : List (List Nat)} (hn : bs.length ≤ 16) (h : ∀ b ∈ bs, b.length ≤ 8) : (treeL bs).length ≤ 190 := by
  have h1 := treeL_len bs
  have h2 := sumL_le h
  omega
theorem Nodes.tree {bans L : List (List Nat)} (h : Nodes bans L) : Tree L := ⟨h.zero, h.init, h.dup⟩
theorem auto_end {bans : List (List Nat)} (A : Nat) (i u : Nat) : delF (fun a : Nat × Nat => fullF (treeL bans) A a.1 a.2) (fun j => (endL bans (treeL bans)).getD j false) (i, u) = autoA A bans (treeL bans) i u := by
  have hN := treeL_nodes bans
  rw [autoA_eq hN]
  unfold delF fullF
  dsimp only
  by_cases q : u < A ∧ i < (treeL bans).length
  · rw [if_pos q, if_pos q]
    have h1 := fullE_lt hN.tree i u
    have e : (endL bans (treeL bans)).getD (fullE (treeL bans) i u) false = decide (EndsB bans (nodeW (treeL bans) (fullE (treeL bans) i u))) := by
      unfold endL nodeW
      simp [h1]
    dsimp only
    simp only [e]
    by_cases c : EndsB bans (nodeW (treeL bans) (fullE (treeL bans) i u))
    · simp [c]
    · simp [c]
  · rw [if_neg q, if_neg q]
theorem edge_root (i u : Nat) : edge [[]] i u = none := by
  unfold edge
  cases i with
  | zero => simp
  | succ i => simp
theorem TrS.start (w : World) {w3 : World} (e : w3 = ((w.alloc (.map #[] 0)).alloc (.cells #[.bool false] 4)).alloc (.cells #[.map (some w.heap.size), .slice (some ⟨w.heap.size + 1, 0, none⟩) 1 1] 114)) :
    TrS w (w.heap.size + 1 + 1) w.heap.size (.slice (some ⟨w.heap.size + 1, 0, none⟩) 1 1) (edge (treeL [])) (encA2 (treeL []) []) w3 := by
  obtain ⟨w1, h1⟩ : ∃ w1, w1 = w.alloc (.map #[] 0) := ⟨_, rfl⟩
  obtain ⟨w2, h2⟩ : ∃ w2, w2 = w1.alloc (.cells #[.bool false] 4) := ⟨_, rfl⟩
  rw [← h1, ← h2] at e
  have s1 : w1.heap.size = w.heap.size + 1 := by rw [h1]; exact World.size_alloc _ _
  have s2 : w2.heap.size = w.heap.size + 1 + 1 := by rw [h2, World.size_alloc, s1]
  have b1 : Below w.heap.size w w1 := by rw [h1]; exact below_al _ _
  have b2 : Below w1.heap.size w1 w2 := by rw [h2]; exact below_al _ _
  have b3 : Below w2.heap.size w2 w3 := by rw [e]; exact below_al _ _
  have hh : w3.heap[w.heap.size + 1 + 1]? = some (.cells #[.map (some w.heap.size), .slice (some ⟨w.heap.size + 1, 0, none⟩) 1 1] 114 (0, 0)) := by rw [e, ← s2]; exact World.alloc_heap_new _ _
  have m1 : MapF KA w.heap.size (fun _ => none) w1 := by rw [h1]; exact MapF.new w
  have r2 : w2.ownsRow w.heap.size 4 1 (.slice (some ⟨w.heap.size + 1, 0, none⟩) 1 1) 1 [.bool false] := by
    rw [h2, ← s1]
    exact World.ownsRow_lit w1 #[.bool false] 1 (by omega) (by unfold maxLen; omega) rfl
  have e2 : encA2 (treeL []) [] = [false] := by unfold encA2 treeL; simp
  refine ⟨by rw [cell_of_row _ _ _ _ 114 (0, 0) hh]; rfl, by rw [cell_of_row _ _ _ _ 114 (0, 0) hh]; rfl, (by unfold World.frozen?; dsimp only; rw [hh]; simp), ?_, ?_, b1.trans ((b2.trans (b3.mono (by omega))).mono (by omega)), by omega, (fun h => ?_), (fun h => ?_), by omega, Nat.le_refl _⟩
  · exact ((m1.below b2).below b3).congr fun a _ => (edge_root a.1 a.2).symm
  · rw [e2]
    exact ownsRow_below r2 b3
  · have h' : some (w.heap.size + 1 + 1) = some (w.heap.size + 1) := h
    injection h' with h'
    omega
  · have h' : some w.heap.size = some (w.heap.size + 1) := h
    injection h' with h'
    omega
set_option maxRecDepth 100000 in
set_option maxHeartbeats 2000000 in
theorem newAutomaton_any {w : World} {bv : Value} {bans : List (List Nat)} {A : Nat} (hA : A ≤ 36) (hn : bans.length ≤ 16) (hb : ∀ b ∈ bans, b.length ≤ 8 ∧ ∀ x ∈ b, x < A) (hv : IsSls w bv bans) :
    Calls Try.prog 65 #[bv, .int .i64 (A : Int)] w fun e w' => ∃ mb, e = .returned (.map (some mb)) ∧ w.heap.size ≤ mb ∧ Hid (MapF KA mb (fun a => autoA A bans (treeL bans) a.1 a.2) w') ∧ Hid (Below w.heap.size w w') := by
  have HV := Lib.hid hv; have HB := Lib.hid hb
  obtain ⟨ao, c, rfl, -⟩ := hv
  obtain ⟨n, hnn⟩ : ∃ n, n = bans.length := ⟨_, rfl⟩
  rw [← hnn] at hn HV ⊢
  have HN := Lib.hid hnn
  clear hnn hb
  have hmk : ∀ w, (Instr.makeMap 76 none).run Try.prog w = .ok (.map (some w.heap.size)) (w.alloc (.map #[] 0)) := fun w => run_makeMap _ w
  go_enter Try.func65, Try.ntmps65
  go_wp2_with fail
  obtain ⟨w3, hw3⟩ : ∃ w3, w3 = ((w.alloc (.map #[] 0)).alloc (.cells #[.bool false] 4)).alloc (.cells #[.map (some w.heap.size), .slice (some ⟨w.heap.size + 1, 0, none⟩) 1 1] 114) := ⟨_, rfl⟩
  rw [← hw3]
  have HS := Lib.hid (TrS.start w hw3)
  obtain ⟨mb, hmb⟩ : ∃ mb, mb = w.heap.size := ⟨_, rfl⟩
  obtain ⟨T, hT⟩ : ∃ T, T = mb + 1 + 1 := ⟨_, rfl⟩
  have HS2 : Hid (TrS w T mb (.slice (some ⟨w.heap.size + 1, 0, none⟩) 1 1) (edge (treeL [])) (encA2 (treeL []) []) w3) := by rw [hT, hmb]; exact HS.out
  have HMB := Lib.hid hmb
  rw [← hmb, ← hT]
  clear hw3 hmk HS hT hmb
  go_loopw [7, 13] (fun _ s13 wr => ∃ i : Nat, i ≤ n ∧ s13 = .int .i64 i ∧ Hid (∃ v, TrS w T mb v (edge (treeL (bans.take i))) (encA2 (treeL (bans.take i)) (bans.take i)) wr)) (fun _ s13 _ => n - (intOf s13).toNat)
  case atStart => exact ⟨0, Nat.zero_le _, rfl, _, HS2.out⟩
  case round =>
    obtain ⟨i, hi, rfl, HL⟩ := hrel
    clear HS2
    by_cases q : i < n
    · have q1 : (i : Int) < n := by omega
      have hw : IntKind.i64.wrap ((i : Int) + 1) = ((i + 1 : Nat) : Int) := by rw [IntWalk.i64_in _ (by omega)]; omega
      obtain ⟨v, hL⟩ := HL.out
      have hin : i < bans.length := by rw [← HN.out]; exact q
      obtain ⟨B, o, bv, rfl, d0, HB0⟩ := HV.out.at' hin
      have hBl := World.block_lt_of_cell? _ _ d0
      have d1 := (hL.blw.cell (p := ⟨B, o + i, none⟩) hBl).trans d0
      have HBv := Lib.hid HB0
      have ht : bans.take (i + 1) = bans.take i ++ [bans[i]] := List.take_succ_eq_append_getElem hin
      have hbi := HB.out bans[i] (List.getElem_mem _)
      have HA := Lib.hid (add_any (W0 := w) (F := treeL (bans.take (i + 1))) (treeL_nodes (bans.take i)).tree (treeL_nodes (bans.take i)).ban (by rw [ht, treeL_snoc]) (treeL_le (by rw [List.length_take]; omega) (fun b hb => (HB.out b (List.mem_of_mem_take hb)).1)) (fun x hx => Nat.lt_of_lt_of_le (hbi.2 x hx) hA) hbi.1 HBv.out hL)
      rw [← ht] at HA
      clear hL hbi ht HB0 d0 HL
      go_wp2_with (first
        | (go_at_call 79; (with_reducible refine HA.out.mono ?_); rintro e w4 ⟨rfl, v4, HT4⟩)
        | fail)
      go_roundw
      case rel => exact ⟨i + 1, q, by go_num, v4, HT4.out⟩
      case measure => simp [intOf]; omega
    · obtain rfl : i = n := by omega
      have q1 : ¬ (i : Int) < i := by omega
      obtain ⟨v, hL⟩ := HL.out
      have htk : bans.take i = bans := by rw [HN.out]; exact List.take_length
      rw [htk] at hL
      have hNd := treeL_nodes bans
      have hlen := treeL_le (bs := bans) (by rw [← HN.out]; exact hn) (fun b hb => (HB.out b hb).1)
      have HC := Lib.hid (complete_any hNd.tree hNd.ban hlen hA (treeL_vals fun b hb => (HB.out b hb).2) hL)
      have hpos : 0 < (encA2 (treeL bans) bans).length := by rw [encA2_len]; exact (List.getElem?_eq_some_iff.1 hNd.zero).1
      obtain ⟨g, cap, rfl, -, -⟩ := row_so hpos hL.row
      have hel : (endL bans (treeL bans)).length = (encA2 (treeL bans) bans).length := by rw [encA2_len]; simp [endL]
      have hff : ∀ i u j, fullF (treeL bans) A i u = some j → j < (encA2 (treeL bans) bans).length := fun i u j hj => by
        unfold fullF at hj
        split at hj
        · injection hj with hj
          rw [← hj, encA2_len]
          exact fullE_lt hNd.tree _ _
        · cases hj
      have HEL := Lib.hid hel
      have HFF := Lib.hid hff
      clear hL htk hNd hpos HL hel hff hlen
      generalize (encA2 (treeL bans) bans).length = M at *
      go_wp2_with (first
        | (go_at_call 80; (with_reducible refine HC.out.mono ?_); rintro e w5 ⟨rfl, HT5⟩; have c05 := HT5.out.c0; have HD := Lib.hid (deleteFunc_any HEL.out HT5.out HFF.out))
        | (go_at_call 81; (with_reducible refine HD.out.mono ?_); rintro e w6 ⟨rfl, HT6⟩; have c06 := HT6.out.c0)
        | fail)
      refine bodyPost_ret (v := .map (some mb)) (by simp [results, Try.results65, go_sem]) rfl ?_
      exact ⟨mb, rfl, by rw [HMB.out]; exact Nat.le_refl _, HT6.out.mp.congr fun a _ => auto_end A a.1 a.2, HT6.out.blw⟩
end Go.Proofs.Ytgblfobomiiofaa
