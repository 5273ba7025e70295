/- Contracts and lemmas (several texts merged into one). -/
import Derived.Test.YtgblfobomiiofaaTSer8
import Derived.Test.YtgblfobomiiofaaTSer5
namespace Go.Proofs.Ytgblfobomiiofaa
open Go Go.RowKit Go.Shelf Gw Go.Maps

/-- what below keeps in memory: the boxes of the counter (c), of the sum, of the place (X); the marks lie below n1 -/
structure BeM (R mb : Nat) (al : ByteArray) (n : Nat) (ck : Bool) (f : Nat → Nat → Option Nat) (bL bR bK bM bC km : Nat) (last : Option Nat) (mv : Value) (ml : List (Option Nat)) (c X n1 : Nat) (ds : List Nat) (q : Pl) (t : Nat) (W0 W : World) : Prop where
  ct : CtI R mb al n ck f bL bR bK bM bC km last mv ml W
  cB : W.cell? ⟨c, 0, none⟩ = some (cntV bL bR bK bM bC)
  tB : W.cell? ⟨c + 1, 0, none⟩ = some (.int .i64 (t : Int))
  tf : W.frozen? ⟨c + 1, 0, none⟩ = false
  pl : P3 X q.1 q.2.1 q.2.2 W
  fr : W0.grownBy W (some km)
  he : Held W0.heap.size ds W
  lt : ∀ d ∈ ds, d < n1
section
variable {R mb : Nat} {al : ByteArray} {n : Nat} {ck : Bool} {f : Nat → Nat → Option Nat} {bL bR bK bM bC km : Nat} {last : Option Nat} {mv : Value} {ml : List (Option Nat)} {c X n1 : Nat} {ds : List Nat} {q : Pl} {t : Nat} {W0 W W' : World}
theorem frozen_own {row : Option Nat} {a : Addr} {z : Value} {A B : World} (hg : A.grownBy B row) (hr2 : ∀ r, row = some r → ∃ o : Obj, A.heap[r]? = some o ∧ o.isCells = false) (hf : A.frozen? a = false) (hc : A.cell? a = some z) : B.frozen? a = false := by
  obtain ⟨o, ho, hc2⟩ := cells_of_cell hc
  exact (World.frozen?_of_block (grownBy_keeps_cells hg hr2 ho hc2)).trans hf
theorem BeM.own (hB : CtB R mb bL bR bK bM bC km mv W0.heap.size) (hn : W0.heap.size ≤ n1) : OwnFrom n1 (fun (_ : Unit) W => BeM R mb al n ck f bL bR bK bM bC km last mv ml c X n1 ds q t W0 W) := fun _ A B row h hg hr => by
  have hr2 : ∀ r, row = some r → ∃ o : Obj, A.heap[r]? = some o ∧ o.isCells = false := fun r e => (hr r e).2
  exact ⟨h.ct.kept hB hg (fun j e => Nat.le_trans hn (hr j e).1), cell_kept h.cB hg hr2, cell_kept h.tB hg hr2, frozen_own hg hr2 h.tf h.tB, h.pl.kept3 hg hr2, grownBy_trans2 h.fr hg (fun j e => .inr (Nat.le_trans hn (hr j e).1)),
    h.he.grown hg (fun j e => .inr fun d hd e2 => by have := h.lt d hd; have := (hr j e).1; omega), h.lt⟩
theorem BeM.below (h : BeM R mb al n ck f bL bR bK bM bC km last mv ml c X n1 ds q t W0 W) (hb : Below W.heap.size W W') : BeM R mb al n ck f bL bR bK bM bC km last mv ml c X n1 ds q t W0 W' :=
  ⟨h.ct.below hb, (hb.cell (World.block_lt_of_cell? _ _ h.cB)).trans h.cB, (hb.cell (World.block_lt_of_cell? _ _ h.tB)).trans h.tB, (hb.frozen (World.block_lt_of_cell? _ _ h.tB)).trans h.tf, h.pl.below hb, grownBy_trans2 h.fr (grown_of hb none) (fun j e => by cases e),
    h.he.grown (grown_of hb none) (fun j e => by cases e), h.lt⟩
theorem BeM.mono (h : BeM R mb al n ck f bL bR bK bM bC km last mv ml c X n1 ds q t W0 W) {n2 : Nat} (hn : n1 ≤ n2) : BeM R mb al n ck f bL bR bK bM bC km last mv ml c X n2 ds q t W0 W :=
  ⟨h.ct, h.cB, h.tB, h.tf, h.pl, h.fr, h.he, fun d hd => Nat.lt_of_lt_of_le (h.lt d hd) hn⟩
theorem BeM.call (h : BeM R mb al n ck f bL bR bK bM bC km last mv ml c X n1 ds q t W0 W) (hB : CtB R mb bL bR bK bM bC km mv W0.heap.size) (hc : W0.heap.size ≤ c) (hX : c + 1 < X)
    (hC : CtI R mb al n ck f bL bR bK bM bC km last mv ml W') (hg : W.grownBy W' (some km)) : BeM R mb al n ck f bL bR bK bM bC km last mv ml c X n1 ds q t W0 W' := by
  have hkm := hB.hk
  have ne : ∀ {x : Nat}, W0.heap.size ≤ x → some x ≠ some km := fun hx e => by have := Option.some.inj e; omega
  exact ⟨hC, hg.cell h.cB (ne hc), hg.cell h.tB (ne (by show _ ≤ c + 1; omega)), frozen_kept h.tf h.tB hg (ne (by show _ ≤ c + 1; omega)), h.pl.kept hg (ne (by omega)), grownBy_trans2 h.fr hg (fun j e => .inl e.symm),
    h.he.grown hg (fun j e => by cases e; exact .inl hB.hk), h.lt⟩
theorem BeM.setT (h : BeM R mb al n ck f bL bR bK bM bC km last mv ml c X n1 ds q t W0 W) (hB : CtB R mb bL bR bK bM bC km mv W0.heap.size) (hc : W0.heap.size ≤ c) (hX : c + 1 < X) (t' : Nat) :
    BeM R mb al n ck f bL bR bK bM bC km last mv ml c X n1 ds q t' W0 (W.setCell ⟨c + 1, 0, none⟩ (.int .i64 (t' : Int))) := by
  have hg := grownBy_setCell W (c + 1) 0 (.int .i64 (t' : Int))
  have ne : ∀ {x : Nat}, x ≠ c + 1 → some x ≠ some (c + 1) := fun hx e => hx (Option.some.inj e)
  exact ⟨h.ct.kept hB hg (fun j e => by cases e; omega), hg.cell h.cB (ne (by show c ≠ _; omega)), World.cell?_setCell_same _ _ _ h.tB, by rw [World.frozen?_setCell]; exact h.tf, h.pl.kept hg (ne (by omega)), grownBy_trans2 h.fr hg (fun j e => by cases e; right; omega),
    h.he.others (KeepsOthers.setCell _ _ _), h.lt⟩
/-- the place turns -/
theorem BeM.setP (h : BeM R mb al n ck f bL bR bK bM bC km last mv ml c X n1 ds q t W0 W) (hB : CtB R mb bL bR bK bM bC km mv W0.heap.size) (hc : W0.heap.size ≤ c) (hX : c + 1 < X) (q' : Pl) :
    BeM R mb al n ck f bL bR bK bM bC km last mv ml c X n1 ds q' t W0 (((W.setCell ⟨X, 0, none⟩ (.int .i64 (q'.1 : Int))).setCell ⟨X, 1, none⟩ (.int .i64 (q'.2.1 : Int))).setCell ⟨X, 2, none⟩ (.int .i64 (q'.2.2 : Int))) := by
  have hg := grownBy_trans2 (grownBy_trans2 (grownBy_setCell W X 0 (.int .i64 (q'.1 : Int))) (grownBy_setCell (W.setCell ⟨X, 0, none⟩ (.int .i64 (q'.1 : Int))) X 1 (.int .i64 (q'.2.1 : Int))) (fun j e => .inl e.symm)) (grownBy_setCell ((W.setCell ⟨X, 0, none⟩ (.int .i64 (q'.1 : Int))).setCell ⟨X, 1, none⟩ (.int .i64 (q'.2.1 : Int))) X 2 (.int .i64 (q'.2.2 : Int))) (fun j e => .inl e.symm)
  have ne : ∀ {x : Nat}, x ≠ X → some x ≠ some X := fun hx e => hx (Option.some.inj e)
  exact ⟨h.ct.kept hB hg (fun j e => by cases e; omega), hg.cell h.cB (ne (by show c ≠ _; omega)), hg.cell h.tB (ne (by show c + 1 ≠ _; omega)), frozen_kept h.tf h.tB hg (ne (by show c + 1 ≠ _; omega)), h.pl.set q'.1 q'.2.1 q'.2.2, grownBy_trans2 h.fr hg (fun j e => by cases e; right; omega),
    h.he.others (((KeepsOthers.setCell _ _ _).trans (KeepsOthers.setCell _ _ _)).trans (KeepsOthers.setCell _ _ _)), h.lt⟩
theorem BeM.mark (h : BeM R mb al n ck f bL bR bK bM bC km last mv ml c X n1 ds q t W0 W) {d : Nat} (h0 : W0.heap.size ≤ n1) (hd : n1 ≤ d) (hD : W.heap[d]? = some (.deferred (some []))) : BeM R mb al n ck f bL bR bK bM bC km last mv ml c X W.heap.size (d :: ds) q t W0 W :=
  ⟨h.ct, h.cB, h.tB, h.tf, h.pl, h.fr, h.he.cons hD (fun e he => by have := h.lt e he; omega) (Nat.le_trans h0 hd), fun e he => by
    rcases List.mem_cons.1 he with rfl | he
    · exact (Array.getElem?_eq_some_iff.1 hD).1
    · exact h.he.lt he⟩
end
theorem ctfr_own {R mb : Nat} {al : ByteArray} {n : Nat} {ck : Bool} {f : Nat → Nat → Option Nat} {bL bR bK bM bC km : Nat} {last : Option Nat} {mv : Value} {ml : List (Option Nat)} {W0 : World} (hB : CtB R mb bL bR bK bM bC km mv W0.heap.size) :
    OwnFrom W0.heap.size (fun (_ : Unit) W => CtI R mb al n ck f bL bR bK bM bC km last mv ml W ∧ W0.grownBy W (some km)) := fun _ _ _ _ h hg hr =>
  ⟨h.1.kept hB hg (fun j e => (hr j e).1), grownBy_trans2 h.2 hg (fun j e => .inr (hr j e).1)⟩
/-- how far below has come: i bytes are read, t words are less -/
structure BeI (f : Nat → Nat → Option Nat) (A n : Nat) (last : Option Nat) (ml : List (Option Nat)) (u : List Nat) (i s p t : Nat) : Prop where
  eq : t + bel (wordsAt f A n last ml i s p) (u.drop i) = bel (wordsAt f A n last ml 0 0 A) u
  le : t + (wordsAt f A n last ml i s p).length ≤ 1099511627776
  s2 : s < 200
  p2 : p ≤ A
  rn : (run f s (u.drop i)).isSome = true
section
variable {f : Nat → Nat → Option Nat} {A n : Nat} {last : Option Nat} {ml : List (Option Nat)} {u : List Nat} {i s p t : Nat}
theorem BeI.start (h : (wordsAt f A n last ml 0 0 A).length ≤ 1099511627776) (hr : (run f 0 u).isSome = true) : BeI f A n last ml u 0 0 A 0 :=
  ⟨by simp, by omega, by omega, Nat.le_refl _, by simpa using hr⟩
theorem BeI.run' (h : BeI f A n last ml u i s p t) (hi : i < u.length) : ∃ j, f s u[i] = some j ∧ (run f j (u.drop (i + 1))).isSome = true := by
  have h1 := h.rn
  rw [List.drop_eq_getElem_cons hi] at h1
  cases hf : f s u[i] with
  | none => rw [run_none hf] at h1; cases h1
  | some j => rw [run_some hf] at h1; exact ⟨j, rfl, h1⟩
theorem BeI.room (h : BeI f A n last ml u i s p t) (hml : n ≤ ml.length) (hi : i < n) (hiu : i < u.length) (hA : u[i] < A) (j : Nat) (hj : j ≤ (stepL f A (i, s, p) (ml.getD i none) A).length) :
    t + sumK (gB u[i] (gW f A n last ml i)) (stepL f A (i, s, p) (ml.getD i none) A) j ≤ 1099511627776 := by
  have h1 := bel_room (f := f) (A := A) (n := n) (last := last) (ml := ml) (i := i) (s := s) (p := p) hml hi hA
  have h2 := sumK_mono (gB u[i] (gW f A n last ml i)) (stepL f A (i, s, p) (ml.getD i none) A) hj
  have h3 := h.le
  omega
theorem BeI.next (h : BeI f A n last ml u i s p t) (hf : ∀ i v j, f i v = some j → j < 200) (hml : n ≤ ml.length) (hi : i < n) (hiu : i < u.length) (hA : u[i] < A) {j : Nat} (hj : f s u[i] = some j) (hr : (run f j (u.drop (i + 1))).isSome = true)
    (hm : ml.getD i none = none ∨ ml.getD i none = some u[i]) :
    BeI f A n last ml u (i + 1) j (ncN A p u[i]) (t + sumK (gB u[i] (gW f A n last ml i)) (stepL f A (i, s, p) (ml.getD i none) A) (stepL f A (i, s, p) (ml.getD i none) A).length) := by
  have e1 : stepG f A (i, s, p) (ml.getD i none) u[i] = some (u[i], (i + 1, j, ncN A p u[i])) := by
    unfold stepG
    rw [if_pos hm]
    dsimp only
    rw [hj]
    rfl
  have h1 := bel_next (f := f) (A := A) (n := n) (last := last) (ml := ml) (i := i) (s := s) (p := p) hml hi hA (u.drop (i + 1))
  have h2 := bel_room (f := f) (A := A) (n := n) (last := last) (ml := ml) (i := i) (s := s) (p := p) hml hi hA
  rw [e1] at h1 h2
  dsimp only at h1 h2
  have h3 := h.eq
  rw [List.drop_eq_getElem_cons hiu, h1] at h3
  have h4 := h.le
  exact ⟨by omega, by omega, hf _ _ _ hj, ncN_le, hr⟩
theorem BeI.stop (h : BeI f A n last ml u i s p t) (hml : n ≤ ml.length) (hi : i < n) (hiu : i < u.length) (hA : u[i] < A) (hm : ¬ (ml.getD i none = none ∨ ml.getD i none = some u[i])) :
    t + sumK (gB u[i] (gW f A n last ml i)) (stepL f A (i, s, p) (ml.getD i none) A) (stepL f A (i, s, p) (ml.getD i none) A).length = bel (wordsAt f A n last ml 0 0 A) u := by
  have e1 : stepG f A (i, s, p) (ml.getD i none) u[i] = none := by
    unfold stepG
    rw [if_neg hm]
  have h1 := bel_next (f := f) (A := A) (n := n) (last := last) (ml := ml) (i := i) (s := s) (p := p) hml hi hA (u.drop (i + 1))
  rw [e1] at h1
  have h3 := h.eq
  rw [List.drop_eq_getElem_cons hiu, h1] at h3
  have h5 : bel [] (u.drop (i + 1)) = 0 := rfl
  dsimp only at h3
  omega
theorem BeI.done (h : BeI f A n last ml u n s p t) (hml : n ≤ ml.length) (hu : u.length = n) : t = bel (wordsAt f A n last ml 0 0 A) u := by
  have h3 := h.eq
  rw [← hu, List.drop_length, hu] at h3
  rw [bel_nil _ (fun x hx => by have := words_len_n hml hx (Nat.le_refl n); omega)] at h3
  omega
end
end Go.Proofs.Ytgblfobomiiofaa
namespace Go.Proofs.Ytgblfobomiiofaa
open Go Go.RowKit Go.Shelf Gw Go.Maps

attribute [local go_sem] Oper.semAt_some

/-- what below answers: how many words are less -/
def BelP (R mb : Nat) (al : ByteArray) (n : Nat) (ck : Bool) (f : Nat → Nat → Option Nat) (bL bR bK bM bC km : Nat) (last : Option Nat) (mv : Value) (ml : List (Option Nat)) (u : List Nat) (W : World) (e : Ending) (W' : World) : Prop :=
  e = .returned (.int .i64 ((bel (wordsAt f al.size n last ml 0 0 al.size) u : Nat) : Int)) ∧ Hid (CtI R mb al n ck f bL bR bK bM bC km last mv ml W') ∧ Hid (W.grownBy W' (some km))
theorem box1 (W : World) (x : Value) (t : TypeId) : Below W.heap.size W (W.alloc (.cells #[x] t)) ∧ (W.alloc (.cells #[x] t)).cell? ⟨W.heap.size, 0, none⟩ = some x ∧ (W.alloc (.cells #[x] t)).frozen? ⟨W.heap.size, 0, none⟩ = false :=
  ⟨below_al _ _, World.cell?_alloc_at _ _ _ _ rfl, by unfold World.frozen?; dsimp only; rw [World.alloc_heap_new]; simp⟩
/-- two boxes -/
structure B2 (c : Nat) (x y : Value) (W W' : World) : Prop where
  bel : Below W.heap.size W W'
  size : W'.heap.size = c + 1 + 1
  c0 : W'.cell? ⟨c, 0, none⟩ = some x
  c1 : W'.cell? ⟨c + 1, 0, none⟩ = some y
  f1 : W'.frozen? ⟨c + 1, 0, none⟩ = false
theorem boxes2 (W : World) (x y : Value) (t1 t2 : TypeId) : B2 W.heap.size x y W ((W.alloc (.cells #[x] t1)).alloc (.cells #[y] t2)) := by
  obtain ⟨w1, h1⟩ : ∃ w1, w1 = W.alloc (.cells #[x] t1) := ⟨_, rfl⟩
  obtain ⟨w2, h2⟩ : ∃ w2, w2 = w1.alloc (.cells #[y] t2) := ⟨_, rfl⟩
  rw [← h1, ← h2]
  have s1 : w1.heap.size = W.heap.size + 1 := by rw [h1]; exact World.size_alloc _ _
  have s2 : w2.heap.size = W.heap.size + 1 + 1 := by rw [h2, World.size_alloc, s1]
  have b1 := box1 W x t1
  have b2 := box1 w1 y t2
  rw [← h1] at b1
  rw [← h2, s1] at b2
  exact ⟨b1.1.trans (b2.1.mono (by omega)), s2, (b2.1.cell (p := ⟨W.heap.size, 0, none⟩) (by show W.heap.size < _; omega)).trans b1.2.1, b2.2.1, b2.2.2⟩
set_option maxRecDepth 100000 in
set_option maxHeartbeats 4000000 in
theorem below_any {R mb : Nat} {al : ByteArray} {n : Nat} {ck : Bool} {f : Nat → Nat → Option Nat} {bL bR bK bM bC km : Nat} {last : Option Nat} {mv : Value} {ml : List (Option Nat)} {W : World} (h1 : 2 ≤ al.size) (h2 : al.size ≤ 36) (hn1 : 1 ≤ n) (hn : n ≤ 16)
    (hf : ∀ i v j, f i v = some j → j < 200) (hml : n ≤ ml.length) (h : CtI R mb al n ck f bL bR bK bM bC km last mv ml W) (hT : (wordsAt f al.size n last ml 0 0 al.size).length ≤ 1099511627776)
    {mk : Value} (hmk : IsIs W mk (asM ml)) (hne : ∀ j, mk.ownBlock = some j → j ≠ km) {bv : Value} {u : List Nat} (hu : IsIs W bv (asI u)) (hbe : ∀ j, bv.ownBlock = some j → j ≠ km) (hul : u.length = n) (huA : ∀ x ∈ u, x < al.size) (hur : (run f 0 u).isSome = true) :
    Calls Try.prog 55 #[.pointer (some ⟨R, 0, none⟩), mk, cntV bL bR bK bM bC, bv] W
      (BelP R mb al n ck f bL bR bK bM bC km last mv ml u W) := by
  have hmp : 0 < ml.length := by omega
  have HB := Lib.hid (h.blocks hmp)
  have HH := Lib.hid h
  have HST := Lib.hid (fun V (hV : Ser R al n ck V) => start_any hV)
  have HCN := Lib.hid (fun (rem i : Nat) (e : i + rem = n) (V : World) (s p : Nat) (hs : s < 200) (hp : p ≤ al.size) (hV : CtI R mb al n ck f bL bR bK bM bC km last mv ml V) => count_any h1 h2 hn hml hf rem i e V s p hs hp hV)
  have HSP := Lib.hid (fun (V : World) (hV : SerA R mb al n ck f V) (i s p v : Nat) (hi : i ≤ 1000) (hs : s < 200) (hp : p ≤ 1000) (hv : v < 40) => step_any hV h1 h2 hi hs hp hv)
  have HMS := Lib.hid hmk
  have HNE := Lib.hid hne
  have HUS := Lib.hid hu
  have HBE := Lib.hid hbe
  have HUL := Lib.hid hul
  have HUA := Lib.hid huA
  obtain ⟨mo, mc, hmv, -⟩ := hmk
  obtain ⟨Bm, om, e0, d0⟩ := (show IsIs W (.slice mo (asM ml).length mc) (asM ml) by rw [← hmv]; exact HMS.out).at' (j := 0) (by rw [asM_len]; exact hmp)
  subst e0
  subst hmv
  obtain ⟨uo, uc, huv, -⟩ := hu
  obtain ⟨Bu, ou, e0, d0⟩ := (show IsIs W (.slice uo (asI u).length uc) (asI u) by rw [← huv]; exact HUS.out).at' (j := 0) (by rw [asI_len]; omega)
  subst e0
  subst huv
  have hln : (asI u).length = n := by rw [asI_len]; exact hul
  rw [hln] at HUS HBE ⊢
  unfold cntV
  clear d0 h hne hbe hul huA hln
  have HPI := Lib.hid (BeI.start (A := al.size) (n := n) (last := last) (ml := ml) (u := u) hT hur)
  obtain ⟨A, hA⟩ : ∃ A, A = al.size := ⟨_, rfl⟩
  rw [← hA] at HCN h1 h2 HPI HSP
  have HA := Lib.hid hA
  clear hA hT hur
  refine (callsIn_wide (n := 9)).1 ?_
  refine callsIn_of_wp_marks Try.func55 rfl trivial ?_ rfl
  simp only [Try.ntmps55, List.size_toArray, List.length_cons, List.length_nil, Nat.reduceAdd, Nat.reduceSub, Array.replicate_succ, Array.replicate_zero, List.push_toArray, List.append_toArray, List.nil_append, List.cons_append]
  refine wpIn_wide.2 ?_
  go_upto_region 2 with fail
  have HB2 := Lib.hid (boxes2 W (.func (.func 83) #[] #[.pointer (some ⟨bL, 0, none⟩), .pointer (some ⟨bR, 0, none⟩), .pointer (some ⟨bK, 0, none⟩), .pointer (some ⟨bM, 0, none⟩), .pointer (some ⟨bC, 0, none⟩)]) (.int .i64 (0 : Int)) 78 3)
  obtain ⟨c, hc⟩ : ∃ c, c = W.heap.size := ⟨_, rfl⟩
  rw [← hc] at HB2 ⊢
  have HC := Lib.hid hc
  clear hc
  generalize World.alloc (World.alloc W _) _ = w1 at HB2 ⊢
  have HH1 := Lib.hid (HH.out.below HB2.out.bel)
  have HST1 := Lib.hid (HST.out w1 HH1.out.se.se)
  unfold plcV at HST1
  dsimp only at HST1
  rw [← HA.out] at HST1
  clear HST
  go_upto_region 3 with (first
    | (go_at_call 57; (with_reducible refine HST1.out.mono ?_); rintro e w2 ⟨rfl, HBa⟩)
    | fail)
  have HP3 := Lib.hid (P3.new w2 0 0 A)
  have hb3 := below_al w2 (.cells #[.int .i64 (0 : Int), .int .i64 (0 : Int), .int .i64 (A : Int)] 88)
  have HB3a := Lib.hid (HBa.out.trans (hb3.mono HBa.out.size))
  have HX0 : Hid (w1.heap.size ≤ w2.heap.size) := HBa.out.size
  obtain ⟨X, hX⟩ : ∃ X, X = w2.heap.size := ⟨_, rfl⟩
  rw [← hX] at HP3 HX0 ⊢
  clear hb3 hX
  generalize World.alloc w2 _ = w3 at *
  have HH3 := Lib.hid (HH1.out.below HB3a.out)
  have hcW : W.heap.size ≤ c := by rw [HC.out]; exact Nat.le_refl _
  have HPM : Hid (BeM R mb al n ck f bL bR bK bM bC km last mv ml c X w3.heap.size [] (0, 0, A) 0 W w3) := by
    have hb := HB3a.out
    have k := HB2.out
    have cl : ∀ {a : Addr} {z : Value}, w1.cell? a = some z → w3.cell? a = some z := fun {a z} h => (hb.cell (World.block_lt_of_cell? _ _ h)).trans h
    have fz : ∀ {a : Addr} {z : Value}, w1.frozen? a = false → w1.cell? a = some z → w3.frozen? a = false := fun {a z} hf hc => (hb.frozen (World.block_lt_of_cell? _ _ hc)).trans hf
    exact ⟨HH3.out, cl k.c0, cl k.c1, fz k.f1 k.c1, HP3.out, grown_of (k.bel.trans (hb.mono k.bel.size)) _, Held.nil _ _, fun d hd => by simp at hd⟩
  have hXc : c + 1 < X := by have h3 := HB2.out.size; have h4 := HX0.out; omega
  go_wp2_with fail
  refine wp_loop (fun a' w' => ∃ (i : Nat) (u11 u12 u20 u21 u22 u23 u24 u25 u26 u27 u28 u29 u30 u41 u42 u43 u44 u45 u46 u47 u48 u49 u50 u51 u52 u53 u55 u56 u57 u58 u59 u60 u61 u62 : Value) (ds : List Nat), i ≤ n ∧ Hid (∃ s p t, BeM R mb al n ck f bL bR bK bM bC km last mv ml c X w'.heap.size ds (i, s, p) t W w' ∧ BeI f A n last ml u i s p t) ∧
      a' = { tmps := #[.pointer (some ⟨R, 0, none⟩), .slice (some ⟨Bm, om, none⟩) (asM ml).length mc, .func (.func 83) #[] #[.pointer (some ⟨bL, 0, none⟩), .pointer (some ⟨bR, 0, none⟩), .pointer (some ⟨bK, 0, none⟩), .pointer (some ⟨bM, 0, none⟩), .pointer (some ⟨bC, 0, none⟩)], .slice (some ⟨Bu, ou, none⟩) n uc, undef, undef, .pointer (some ⟨c, 0, none⟩), undef, .int .i64 0, .pointer (some ⟨c + 1, 0, none⟩), .pointer (some ⟨X, 0, none⟩), u11, u12, undef, undef, .pointer (some ⟨R, 0, none⟩), .agg #[.int .i64 0, .int .i64 0, .int .i64 (A : Int)], .slice (some ⟨Bu, ou, none⟩) n uc, .int .i64 (n : Int), .int .i64 (i : Int), u20, u21, u22, u23, u24, u25, u26, u27, u28, u29, u30, undef, undef, undef, undef, undef, undef, undef, undef, undef, undef, u41, u42, u43, u44, u45, u46, u47, u48, u49, u50, u51, u52, u53, undef, u55, u56, u57, u58, u59, u60, u61, u62, undef], defers := marks ds }) (fun a' _ => n - (intOf (a'.tmps.getD 19 undef)).toNat)
    ⟨0, undef, undef, undef, undef, undef, undef, undef, undef, undef, undef, undef, undef, undef, undef, undef, undef, undef, undef, undef, undef, undef, undef, undef, undef, undef, undef, undef, undef, undef, undef, undef, undef, undef, undef, [], Nat.zero_le _, ⟨0, A, 0, HPM.out, HPI.out⟩, rfl⟩ ?_
  rintro _ wr ⟨i, u11, u12, u20, u21, u22, u23, u24, u25, u26, u27, u28, u29, u30, u41, u42, u43, u44, u45, u46, u47, u48, u49, u50, u51, u52, u53, u55, u56, u57, u58, u59, u60, u61, u62, ds, hi, HL, rfl⟩
  clear HPI HPM
  have hkm := HB.out.hk
  by_cases q : i < n
  · have q1 : (i : Int) < n := by omega
    have hw : IntKind.i64.wrap ((i : Int) + 1) = ((i + 1 : Nat) : Int) := by rw [IntWalk.i64_in _ (by omega)]; omega
    obtain ⟨s, p, t, hT4, hI4⟩ := HL.out
    have HT4 := Lib.hid hT4
    have HI4 := Lib.hid hI4
    have hs2 := hI4.s2
    have hp2 := hI4.p2
    have him : i < ml.length := by omega
    have hiu : i < u.length := by rw [HUL.out]; exact q
    have HMr := Lib.hid (HMS.out.kept2 hT4.fr (fun j e e2 => HNE.out j e (Option.some.inj e2)))
    obtain ⟨B9, o9, e0, d0⟩ := HMr.out.at' (j := i) (by rw [asM_len]; exact him)
    injection e0 with e0
    injection e0 with e1 e2 e3
    subst e1 e2
    have HUr := Lib.hid (HUS.out.kept2 hT4.fr (fun j e e2 => HBE.out j e (Option.some.inj e2)))
    obtain ⟨B9, o9, e0, c0⟩ := HUr.out.at' (j := i) (by rw [asI_len]; exact hiu)
    injection e0 with e0
    injection e0 with e1 e2 e3
    subst e1 e2
    rw [asI_at hiu] at c0
    obtain ⟨sg, hsg⟩ : ∃ sg, sg = ml[i] := ⟨_, rfl⟩
    have hsz : (asM ml)[i]'(by rw [asM_len]; exact him) = sgn sg := by rw [hsg]; simp [asM]
    rw [hsz] at d0
    obtain ⟨zm, hzm⟩ : ∃ zm, zm = sgn sg := ⟨_, rfl⟩
    rw [← hzm] at d0
    obtain ⟨e, he⟩ : ∃ e, e = u[i] := ⟨_, rfl⟩
    rw [← he] at c0
    have heA : e < A := by rw [he, HA.out]; exact HUA.out _ (List.getElem_mem _)
    have hlm : (i : Int) < ((asM ml).length : Int) := by rw [asM_len]; omega
    have HSG := Lib.hid hsg
    have HZM := Lib.hid hzm
    have HE := Lib.hid he
    clear hT4 hI4 HL hsz hsg hzm he
    go_upto_region 6 with fail
    obtain ⟨E, hE⟩ : ∃ E, E = wr.heap.size := ⟨_, rfl⟩
    obtain ⟨w5, hw5⟩ : ∃ w5, w5 = wr.alloc (.cells #[.int .i64 (e : Int)] 3) := ⟨_, rfl⟩
    have hb5 : Below wr.heap.size wr w5 := by rw [hw5]; exact below_al _ _
    have E5 : w5.cell? ⟨E, 0, none⟩ = some (.int .i64 (e : Int)) := by rw [hE, hw5]; exact World.cell?_alloc_at _ _ _ _ rfl
    have hT5 := (HT4.out.below hb5).mono hb5.size
    have d5 := (hb5.cell (World.block_lt_of_cell? _ _ d0)).trans d0
    have hEw : E < w5.heap.size := by rw [hE, hw5, World.size_alloc]; exact Nat.lt_succ_self _
    have hWr : W.heap.size ≤ E := by rw [hE]; exact HT4.out.fr.size
    have hXr : X < E := by rw [hE]; exact HT4.out.pl.lt
    rw [← hw5, ← hE]
    clear hw5 hb5 hE d0 c0
    have HT5 := Lib.hid hT5
    have e0 := hT5.pl.c0
    have e1 := hT5.pl.c1
    have e2 := hT5.pl.c2
    have HST := Lib.hid (steps_any (W := w5.drew) (hT5.ct.se.below (below_dr w5 1)) (i, s, p) sg)
    rw [← HZM.out] at HST
    unfold plcV stepsV at HST
    dsimp only at HST e0 e1 e2
    clear hT5
    go_cut [30] from 24 to 30 (fun s30 wz => ∃ S0, s30 = .func (.func 86) #[] #[.pointer (some ⟨S0, 0, none⟩), .pointer (some ⟨S0 + 1 + 1, 0, none⟩), .pointer (some ⟨S0 + 1, 0, none⟩)] ∧ w5.heap.size = S0 ∧ Hid (StI R mb al n ck f S0 (i, s, p) sg wz) ∧ Hid (Below w5.heap.size w5 wz))
    case first =>
      refine wp_calm ?_
      go_region_with (first
        | (go_at_call 68; (with_reducible refine HST.out.mono ?_); rintro e w4 ⟨rfl, HSI, HB4⟩)
        | fail)
      all_goals go_wp2_with fail
      all_goals go_meet
      all_goals exact ⟨_, rfl, rfl, HSI, (below_dr w5 1).trans HB4.out⟩
    case rest =>
      obtain ⟨S0, rfl, hS0, HSI, HB4⟩ := hcut
      obtain ⟨w4, hw4⟩ : ∃ x, x = wc := ⟨_, rfl⟩
      subst hw4
      have HT6 := Lib.hid ((HT5.out.below HB4.out).mono HB4.out.size)
      have E6 := (HB4.out.cell (World.block_lt_of_cell? _ _ E5)).trans E5
      have HE6 := Lib.hid E6
      have HM6 := Lib.hid ((HB4.out.cell (World.block_lt_of_cell? _ _ d5)).trans d5)
      have hn0 : S0 + 1 + 1 < w4.heap.size := World.block_lt_of_cell? _ _ HSI.out.b2
      have hWn : W.heap.size ≤ w4.heap.size := HT6.out.fr.size
      obtain ⟨xs, hxs⟩ : ∃ xs, xs = stepL f A (i, s, p) sg A := ⟨_, rfl⟩
      obtain ⟨gS, hgS⟩ : ∃ gS : Nat × Pl → Nat, gS = gW f A n last ml i := ⟨_, rfl⟩
      have HXS := Lib.hid hxs
      have HGS := Lib.hid hgS
      have hR := HB.out.hR
      have hmm := HB.out.hm
      have hnk := HT6.out.ct.nK
      have hSQ : SeqE Fence.wide 8 Try.prog 86 #[.pointer (some ⟨S0, 0, none⟩), .pointer (some ⟨S0 + 1 + 1, 0, none⟩), .pointer (some ⟨S0 + 1, 0, none⟩)] (encS xs) (fun _ _ _ => True) (Kc w4.heap.size km (c + 1)) xs.length w4 := by
        rw [hxs, HA.out]
        exact steps_seq (by rw [← HA.out]; exact h1) (by rw [← HA.out]; exact h2) (by show i ≤ 1000; omega) hs2 (by show p ≤ 1000; omega) HSI.out (fun A B hk hst => hst.kc hk ⟨by omega, hnk.1, by omega⟩ ⟨by omega, hnk.2.1, by omega⟩ ⟨hn0, .inl (by omega), by omega⟩) 8
      have HSQ := Lib.hid hSQ
      have hsgD : ml.getD i none = sg := by rw [HSG.out]; simp [him]
      have HSGD := Lib.hid hsgD
      have HROOM : Hid (∀ j, j ≤ xs.length → t + sumK (gB e gS) xs j ≤ 1099511627776) := fun j hj => by
        have h3 := HI4.out.room hml q hiu (by rw [← HE.out]; exact heA) j (by rw [hsgD, ← hxs]; exact hj)
        rw [hsgD, ← hxs, ← hgS, ← HE.out] at h3
        exact h3
      clear hxs hgS hSQ e0 e1 e2 d5 E5 E6 HST hnk hsgD
      apply_assumption
      refine (wpIn_wide (n := 9)).1 ?_
      gi_wp2_with fail
      generalize ha0 : Act.mk _ _ = a0
      refine range_e (F := Fence.wide) (n := 9) (a := a0) (w := w4) rfl (by decide) (gf := 86) (lb := #[.pointer (some ⟨S0, 0, none⟩), .pointer (some ⟨S0 + 1 + 1, 0, none⟩), .pointer (some ⟨S0 + 1, 0, none⟩)]) (by rw [← ha0]; rfl) trivial (enters_of Try.func86 (by kernel_rfl) rfl)
        (show SeqE Fence.wide (9 - 1) _ _ _ _ _ _ _ _ from HSQ.out) Kc.trans (fun W'' l o o' hl h hc hw => Kc.of_below (belowK_b (Nat.le_refl _) W'' l o o' hl h hc hw)) (fun k v => by unfold encS; split <;> rfl)
        (fun j W' => BeM R mb al n ck f bL bR bK bM bC km last mv ml c X w4.heap.size ds (i, s, p) (t + sumK (gB e gS) xs j) W W' ∧ W'.cell? ⟨E, 0, none⟩ = some (.int .i64 (e : Int)) ∧ w4.heap.size ≤ W'.heap.size)
        (fun _ _ _ => False)
        (fun j A' B row hh hg hr => ⟨BeM.own HB.out hWn () A' B row hh.1 hg hr, cell_kept hh.2.1 hg (fun r e => (hr r e).2), Nat.le_trans hh.2.2 hg.size⟩)
        (fun _ _ _ _ _ hs _ _ => hs)
        ⟨HT6.out, HE6.out, Nat.le_refl _⟩
        (fun j v a' W' => ∃ Z y, xs[j]? = some y ∧ P3 Z y.2.1 y.2.2.1 y.2.2.2 W' ∧ w4.heap.size ≤ Z ∧ a' = { tmps := (((#[31, 32].zip (encS xs j v)).foldl (fun t (p, v) => t.setIfInBounds p v) a0.tmps).setIfInBounds 13 (.int .i64 (y.1 : Int))).setIfInBounds 14 (.pointer (some ⟨Z, 0, none⟩)), defers := [] })
        (fun j v a' => fun _ A B row hst hg hr => by
          obtain ⟨Z, y, h1, h2, h3, h4⟩ := hst
          exact ⟨Z, y, h1, h2.kept3 hg (fun r e => (hr r e).2), h3, h4⟩) ?assign ?body ?done ?stop
      case assign =>
        intro l j vv W' K' hk hI _ hKK
        obtain ⟨y, hy⟩ : ∃ y, xs[j]? = some y := ⟨xs[j], List.getElem?_eq_getElem hk⟩
        have hsz : w4.heap.size ≤ W'.heap.size := hI.2.2
        have HI := Lib.hid hI
        have HKK := Lib.hid hKK
        have HY2 := Lib.hid hy
        subst ha0
        unfold encS
        rw [hy]
        unfold plcV
        clear hI hKK hy
        gi_wp2_with fail
        have hb := below_al W' (.cells #[.int .i64 (y.2.1 : Int), .int .i64 (y.2.2.1 : Int), .int .i64 (y.2.2.2 : Int)] 88)
        exact HKK.out _ _ ((KeepsOthers.alloc _ _).from _) (Kc.of_below (hb.mono hsz)) ⟨HI.out.1.below hb, (hb.cell (World.block_lt_of_cell? _ _ HI.out.2.1)).trans HI.out.2.1, Nat.le_trans hsz hb.size⟩ ⟨W'.heap.size, y, HY2.out, P3.new W' _ _ _, hsz, by unfold encS; rw [HY2.out]; simp [plcV]⟩
      case body =>
        rintro l j vv a' W' hk hI ⟨Z, ⟨yv, ya, yb, yc⟩, hy, hP, hZ, rfl⟩
        subst ha0
        unfold encS
        rw [hy]
        unfold plcV
        dsimp only at hP ⊢
        have hmem := stepL_mem (by rw [← HXS.out]; exact List.mem_of_getElem? hy)
        obtain ⟨-, hya, hyf, hyc⟩ := hmem
        dsimp only at hya hyf hyc
        have hyb := hf _ _ _ hyf
        have hyc2 : yc ≤ A := by rw [hyc]; exact ncN_le
        have hcw : cntK f A n last ml (n - (i + 1)) yb yc = gS (yv, ya, yb, yc) := by rw [HGS.out]; exact cntK_words hml _ _ _ _ (by omega)
        have hCT := fun (V : World) (hV : CtI R mb al n ck f bL bR bK bM bC km last mv ml V) => HCN.out (n - (i + 1)) (i + 1) (by omega) V yb yc hyb hyc2 hV
        rw [hcw] at hCT
        unfold plcV at hCT
        dsimp only at hCT
        rw [← hya] at hCT
        have hsuc := sumK_succ (gB e gS) hy
        have hroom := HROOM.out (j + 1) hk
        have hg1 : gB e gS (yv, ya, yb, yc) = if yv < e then gS (yv, ya, yb, yc) else 0 := rfl
        rw [hg1] at hsuc
        obtain ⟨t1, ht1⟩ : ∃ t1, t1 = t + sumK (gB e gS) xs j := ⟨_, rfl⟩
        rw [← ht1] at hI
        have HI := Lib.hid hI
        have HY := Lib.hid hy
        have HP := Lib.hid hP
        have HT1 := Lib.hid ht1
        have z0 := hP.c0
        have z1 := hP.c1
        have z2 := hP.c2
        have cE := hI.2.1
        by_cases p5 : yv < e
        · have p6 : (yv : Int) < (e : Int) := by omega
          rw [if_pos p5] at hsuc
          obtain ⟨m, hm⟩ : ∃ m, m = gS (yv, ya, yb, yc) := ⟨_, rfl⟩
          rw [← hm] at hsuc hCT
          have hmin : min m tooM = m := by unfold tooM; omega
          rw [hmin] at hCT
          have htm : t1 + m ≤ 1099511627776 := by omega
          have hw2 : IntKind.i64.wrap ((t1 : Int) + (m : Int)) = ((t1 + m : Nat) : Int) := by rw [IntWalk.i64_in _ (by omega)]; omega
          obtain ⟨t2, ht2⟩ : ∃ t2, t2 = t1 + m := ⟨_, rfl⟩
          rw [← ht2] at hw2
          have HT2 : Hid (t + sumK (gB e gS) xs (j + 1) = t2) := by show _ = _; omega
          have HCT := Lib.hid (fun (V : World) (hV : Below W'.heap.size W' V) => hCT V (hI.1.ct.below hV))
          have HId := Lib.hid (hI.1.below (below_dr W' 1))
          have HCT2 := Lib.hid (fun (V : World) (hV : Below W'.heap.size W' V) => (callsIn_wide (n := 6)).2 (HCT.out V hV))
          have hbd : Hid (Below W'.heap.size W' W'.drew) := below_dr W' 1
          have cC : W'.drew.cell? ⟨c, 0, none⟩ = some (cntV bL bR bK bM bC) := hI.1.cB
          unfold cntV at cC
          have z0d : W'.drew.cell? ⟨Z, 0, none⟩ = some (.int .i64 (ya : Int)) := z0
          have z1d : W'.drew.cell? ⟨Z, 1, none⟩ = some (.int .i64 (yb : Int)) := z1
          have z2d : W'.drew.cell? ⟨Z, 2, none⟩ = some (.int .i64 (yc : Int)) := z2
          have tBd : W'.drew.cell? ⟨c + 1, 0, none⟩ = some (.int .i64 (t1 : Int)) := hI.1.tB
          clear hI hy hP hya hyf hyc hm hCT ht1 ht2 hcw hsuc hroom hg1 hmin htm
          gi_wp2_with fail
          gi_region_with (first | (refine ⟨trivial, ?_⟩; gi_at_call 83; go_must (with_reducible refine (CallsIn.inRound l (HCT2.out _ ?h)).mono ?_; (case h => exact hbd.out)); rintro e w6 ⟨rfl, HC6, HG6⟩; have BM6 := Lib.hid (HId.out.call HB.out hcW hXc HC6.out HG6.out); have t6 := BM6.out.tB; have g6 := BM6.out.tf) | fail)
          all_goals gi_wp2_with fail
          all_goals
            have hEk : some E ≠ some km := fun e => by have := Option.some.inj e; omega
            have hkm4 : km < w4.heap.size := by omega
            exact ⟨((KeepsOthers.drew W').from _).trans ((KeepsFrom.of_grownBy HG6.out (fun j e => by cases e; exact hkm4)).trans ((KeepsOthers.setCell _ _ _).from _)),
              ((Kc.of_below (hbd.out.mono HI.out.2.2)).trans (Kc.of_grown HG6.out HI.out.2.2)).trans (Kc.of_set _ _ _), by rw [HT2.out]; exact BM6.out.setT HB.out hcW hXc t2,
              (World.cell?_setCell_other _ _ _ _ (by intro e; injection e with e; omega)).trans (HG6.out.cell HI.out.2.1 hEk), by rw [World.size_setCell]; exact Nat.le_trans HI.out.2.2 HG6.out.size⟩
        · have p6 : ¬ (yv : Int) < (e : Int) := by omega
          rw [if_neg p5] at hsuc
          have HT2 : Hid (t + sumK (gB e gS) xs (j + 1) = t1) := by show _ = _; omega
          clear hI hy hP hya hyf hyc hCT ht1 hcw hsuc hroom hg1
          gi_wp2_with fail
          exact ⟨KeepsFrom.refl _ _, ⟨Nat.le_refl _, rfl, rfl, rfl, fun _ _ _ _ => rfl⟩, by rw [HT2.out]; exact HI.out.1, HI.out.2⟩
      case done =>
        intro d W' hd hI hDD
        subst ha0
        have HTd := Lib.hid (hI.1.mark hWn hd hDD)
        have cE := hI.2.1
        have HCE := Lib.hid cE
        have HMd := Lib.hid (HMS.out.kept2 hI.1.fr (fun j e e2 => HNE.out j e (Option.some.inj e2)))
        obtain ⟨B9, o9, e9, d9⟩ := HMd.out.at' (j := i) (by rw [asM_len]; exact him)
        injection e9 with e9
        injection e9 with e91 e92 e93
        subst e91 e92
        have hsz : (asM ml)[i]'(by rw [asM_len]; exact him) = zm := by rw [HZM.out, HSG.out]; simp [asM]
        rw [hsz] at d9
        clear hI hDD hsz
        gi_wp2_with fail
        obtain ⟨j9, hj9, hr9⟩ := HI4.out.run' hiu
        rw [← HE.out] at hj9
        obtain ⟨tt, htt⟩ : ∃ tt, tt = t + sumK (gB e gS) xs xs.length := ⟨_, rfl⟩
        rw [← htt] at HTd
        by_cases hfit : sg = none ∨ sg = some e
        · have hnx := HI4.out.next hf hml q hiu (by rw [← HE.out]; exact heA) (by rw [← HE.out]; exact hj9) hr9 (by rw [HSGD.out, ← HE.out]; exact hfit)
          rw [HSGD.out, ← HXS.out, ← HGS.out, ← HE.out, ← htt] at hnx
          have HNX := Lib.hid hnx
          obtain ⟨p9, hp9⟩ : ∃ p9, p9 = ncN A p e := ⟨_, rfl⟩
          have HS9 : Hid (∀ V, SerA R mb al n ck f V → Calls Try.prog 71 #[.pointer (some ⟨R, 0, none⟩), .agg #[.int .i64 (i : Int), .int .i64 (s : Int), .int .i64 (p : Int)], .int .i64 (e : Int)] V fun e' w' => e' = .returned (.tuple #[.agg #[.int .i64 ((i + 1 : Nat) : Int), .int .i64 (j9 : Int), .int .i64 (p9 : Int)], .bool true]) ∧ Hid (Below V.heap.size V w')) := fun V hV => by
            have h3 := HSP.out V hV i s p e (by omega) hs2 (by omega) (by omega)
            rw [hj9, ← hp9] at h3
            exact h3
          rw [← hp9] at HNX
          obtain ⟨i9, hi9⟩ : ∃ i9, i9 = i + 1 := ⟨_, rfl⟩
          rw [← hi9] at HS9 hw HNX
          have HI9 := Lib.hid hi9
          clear hnx hj9 hr9 htt hp9 hi9
          rcases hfit with hfit | hfit
          · have hz : zm = -1 := by rw [HZM.out, hfit]; rfl
            have q45 : ((-1 : Int) != -1) = false := by decide
            rw [hz] at d9
            clear hz hfit
            go_wp2_with fail
            go_quiet (fail)
            rename_i nq
            go_upto_region 13 with fail
            have HT9 := Lib.hid (HTd.out.below (below_dr W' nq))
            have E9 : (World.drewN W' nq).cell? ⟨E, 0, none⟩ = some (.int .i64 (e : Int)) := HCE.out
            have hsz9 : W'.heap.size ≤ (World.drewN W' nq).heap.size := Nat.le_refl _
            clear d9 cE
            generalize World.drewN W' nq = w9 at *
            have x0 := HT9.out.pl.c0
            have x1 := HT9.out.pl.c1
            have x2 := HT9.out.pl.c2
            have HS9c := Lib.hid (HS9.out w9 HT9.out.ct.se)
            dsimp only at x0 x1 x2
            go_upto_region 14 with (first
              | (go_at_call 71; (with_reducible refine HS9c.out.mono ?_); rintro e' w10 ⟨rfl, HB10⟩; have HT10 := Lib.hid (HT9.out.below HB10.out); have y0 := HT10.out.pl.c0; have y1 := HT10.out.pl.c1; have y2 := HT10.out.pl.c2; have f0 := HT10.out.pl.fz 0; have f1 := HT10.out.pl.fz 1; have f2 := HT10.out.pl.fz 2)
              | fail)
            have HT11 := Lib.hid (HT10.out.setP HB.out hcW hXc (i9, j9, p9))
            dsimp only at HT11
            clear y0 y1 y2 f0 f1 f2 x0 x1 x2
            go_wp2_with fail
            refine ⟨⟨i9, _, _, _, _, _, _, _, _, _, _, _, _, _, _, _, _, _, _, _, _, _, _, _, _, _, _, _, _, _, _, _, _, _, _, d :: ds, by have := HI9.out; omega, ⟨j9, p9, tt, HT11.out.mono (by rw [World.size_setCell, World.size_setCell, World.size_setCell]; exact Nat.le_trans hsz9 HB10.out.size), HNX.out⟩, rfl⟩, ?_⟩
            have := HI9.out
            simp [intOf]; omega
          · have hz : zm = (e : Int) := by rw [HZM.out, hfit]; rfl
            have q45 : ((e : Int) != -1) = true := by rw [bne_iff_ne]; omega
            have q52 : ((e : Int) != (e : Int)) = false := by simp
            rw [hz] at d9
            clear hz hfit
            go_wp2_with fail
            go_quiet (fail)
            rename_i nq
            go_upto_region 13 with fail
            have HT9 := Lib.hid (HTd.out.below (below_dr W' nq))
            have E9 : (World.drewN W' nq).cell? ⟨E, 0, none⟩ = some (.int .i64 (e : Int)) := HCE.out
            have hsz9 : W'.heap.size ≤ (World.drewN W' nq).heap.size := Nat.le_refl _
            clear d9 cE
            generalize World.drewN W' nq = w9 at *
            have x0 := HT9.out.pl.c0
            have x1 := HT9.out.pl.c1
            have x2 := HT9.out.pl.c2
            have HS9c := Lib.hid (HS9.out w9 HT9.out.ct.se)
            dsimp only at x0 x1 x2
            go_upto_region 14 with (first
              | (go_at_call 71; (with_reducible refine HS9c.out.mono ?_); rintro e' w10 ⟨rfl, HB10⟩; have HT10 := Lib.hid (HT9.out.below HB10.out); have y0 := HT10.out.pl.c0; have y1 := HT10.out.pl.c1; have y2 := HT10.out.pl.c2; have f0 := HT10.out.pl.fz 0; have f1 := HT10.out.pl.fz 1; have f2 := HT10.out.pl.fz 2)
              | fail)
            have HT11 := Lib.hid (HT10.out.setP HB.out hcW hXc (i9, j9, p9))
            dsimp only at HT11
            clear y0 y1 y2 f0 f1 f2 x0 x1 x2
            go_wp2_with fail
            refine ⟨⟨i9, _, _, _, _, _, _, _, _, _, _, _, _, _, _, _, _, _, _, _, _, _, _, _, _, _, _, _, _, _, _, _, _, _, _, d :: ds, by have := HI9.out; omega, ⟨j9, p9, tt, HT11.out.mono (by rw [World.size_setCell, World.size_setCell, World.size_setCell]; exact Nat.le_trans hsz9 HB10.out.size), HNX.out⟩, rfl⟩, ?_⟩
            have := HI9.out
            simp [intOf]; omega
        · have hst := HI4.out.stop hml q hiu (by rw [← HE.out]; exact heA) (by rw [HSGD.out, ← HE.out]; exact hfit)
          rw [HSGD.out, ← HXS.out, ← HGS.out, ← HE.out, ← htt] at hst
          have HSTP := Lib.hid hst
          obtain ⟨x, hx⟩ : ∃ x, sg = some x := by
            cases hsg : sg with
            | none => exact absurd (Or.inl hsg) hfit
            | some x => exact ⟨x, rfl⟩
          have hz : zm = (x : Int) := by rw [HZM.out, hx]; rfl
          have q45 : ((x : Int) != -1) = true := by rw [bne_iff_ne]; omega
          have q52 : ((x : Int) != (e : Int)) = true := by rw [bne_iff_ne]; intro h3; exact hfit (.inr (by rw [hx]; congr 1; omega))
          have tB := HTd.out.tB
          rw [hz] at d9
          clear hz hfit hx hst htt hj9 hr9
          go_wp2_with fail
          go_quiet (fail)
          rename_i nq
          have tBn : (World.drewN W' nq).cell? ⟨c + 1, 0, none⟩ = some (.int .i64 (tt : Int)) := tB
          have HT9 := Lib.hid (HTd.out.below (below_dr W' nq))
          go_wp2_with fail
          show LeavesInM Fence.wide 9 Try.prog _ _ _ (marks (d :: ds)) .returning _
          refine leaves_marks (ctfr_own (al := al) (n := n) (ck := ck) (f := f) (last := last) (ml := ml) HB.out) (by simp) (fun W'' hW => ?_) (d :: ds) _ HT9.out.he ⟨HT9.out.ct, HT9.out.fr⟩
          exact ⟨.int .i64 (tt : Int), by simp [results, Try.results55, go_sem], by rw [← HA.out, ← HSTP.out], hW.1, hW.2⟩
      case stop =>
        intro d cd j W' hd hj hI hDD
        exact hI.elim
  · obtain rfl : i = n := by omega
    have q1 : ¬ (i : Int) < i := by omega
    obtain ⟨s, p, t, hT4, hI4⟩ := HL.out
    have HT4 := Lib.hid hT4
    have HI4 := Lib.hid hI4
    have b0 := hT4.tB
    clear hT4 hI4 HL
    go_wp2_with fail
    show LeavesInM Fence.wide 9 Try.prog _ _ _ (marks ds) .returning wr
    refine leaves_marks (ctfr_own (al := al) (n := i) (ck := ck) (f := f) (last := last) (ml := ml) HB.out) (by simp) (fun W' hW => ?_) ds _ HT4.out.he ⟨HT4.out.ct, HT4.out.fr⟩
    exact ⟨.int .i64 (t : Int), by simp [results, Try.results55, go_sem], by rw [← HA.out, HI4.out.done (by omega) HUL.out], hW.1, hW.2⟩
end Go.Proofs.Ytgblfobomiiofaa
