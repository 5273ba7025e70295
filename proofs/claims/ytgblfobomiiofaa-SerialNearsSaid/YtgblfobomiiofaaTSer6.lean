/- Contracts and lemmas (several texts merged into one). -/
import Derived.Test.YtgblfobomiiofaaTSer5
namespace Go.Proofs.Ytgblfobomiiofaa
open Go Go.RowKit Go.Shelf Gw Go.Maps

/-- the bound of a count -/
def tooM : Nat := 1099511627777
/-- in how many ways a serial that matches a mask goes on: k bytes are to come -/
def cntK (f : Nat → Nat → Option Nat) (A n : Nat) (last : Option Nat) (ml : List (Option Nat)) : Nat → Nat → Nat → Nat
  | 0, _, p => if last = none ∨ last = some (lcN A p) then 1 else 0
  | k + 1, s, p => ((stepL f A (n - (k + 1), s, p) (ml.getD (n - (k + 1)) none) A).map fun y => cntK f A n last ml k y.2.2.1 y.2.2.2).sum
theorem cntK_free {f : Nat → Nat → Option Nat} {A n : Nat} {ml : List (Option Nat)} : ∀ (k s p p' : Nat), cntK f A n none ml k s p = cntK f A n none ml k s p'
  | 0, _, _, _ => by simp [cntK]
  | k + 1, s, p, p' => by
    unfold cntK stepL
    rw [List.map_filterMap, List.map_filterMap]
    congr 2
    funext v
    unfold stepG
    dsimp only
    split
    · cases f s v with
      | none => rfl
      | some j => simp only [Option.map_some]; rw [cntK_free k j (ncN A p v) (ncN A p' v)]
    · rfl
theorem min_add (a b T : Nat) : min (min a T + min b T) T = min (a + b) T := by omega
/-- the sum of the first k rounds -/
def sumK (g : Nat × Pl → Nat) (xs : List (Nat × Pl)) (k : Nat) : Nat := ((xs.take k).map g).sum
theorem sumK_zero (g : Nat × Pl → Nat) (xs : List (Nat × Pl)) : sumK g xs 0 = 0 := rfl
theorem sumK_succ (g : Nat × Pl → Nat) {xs : List (Nat × Pl)} {k : Nat} {y : Nat × Pl} (h : xs[k]? = some y) : sumK g xs (k + 1) = sumK g xs k + g y := by
  unfold sumK
  obtain ⟨hk, he⟩ := List.getElem?_eq_some_iff.1 h
  rw [List.take_succ_eq_append_getElem hk, List.map_append, List.sum_append, he]
  simp
theorem sumK_all (g : Nat × Pl → Nat) (xs : List (Nat × Pl)) : sumK g xs xs.length = (xs.map g).sum := by unfold sumK; rw [List.take_length]
/-- what is yielded lies in the automaton -/
theorem stepL_mem {f : Nat → Nat → Option Nat} {A : Nat} {q : Pl} {sg : Option Nat} {m : Nat} {y : Nat × Pl} (h : y ∈ stepL f A q sg m) : y.1 < m ∧ y.2.1 = q.1 + 1 ∧ f q.2.1 y.1 = some y.2.2.1 ∧ y.2.2.2 = ncN A q.2.2 y.1 := by
  unfold stepL at h
  obtain ⟨v, hv, e⟩ := List.mem_filterMap.1 h
  unfold stepG at e
  split at e
  · obtain ⟨j, hj, rfl⟩ := Option.map_eq_some_iff.1 e
    exact ⟨List.mem_range.1 hv, rfl, hj, rfl⟩
  · cases e
/-- the counter's closure -/
def cntV (bL bR bK bM bC : Nat) : Value := .func (.func 83) #[] #[.pointer (some ⟨bL, 0, none⟩), .pointer (some ⟨bR, 0, none⟩), .pointer (some ⟨bK, 0, none⟩), .pointer (some ⟨bM, 0, none⟩), .pointer (some ⟨bC, 0, none⟩)]
/-- what the counter keeps in memory; km: the map of what is known -/
structure CtI (R mb : Nat) (al : ByteArray) (n : Nat) (ck : Bool) (f : Nat → Nat → Option Nat) (bL bR bK bM bC km : Nat) (last : Option Nat) (mv : Value) (ml : List (Option Nat)) (W : World) : Prop where
  se : SerA R mb al n ck f W
  cL : W.cell? ⟨bL, 0, none⟩ = some (.int .i64 (sgn last))
  cR : W.cell? ⟨bR, 0, none⟩ = some (.pointer (some ⟨R, 0, none⟩))
  cK : W.cell? ⟨bK, 0, none⟩ = some (.map (some km))
  cM : W.cell? ⟨bM, 0, none⟩ = some mv
  cC : W.cell? ⟨bC, 0, none⟩ = some (cntV bL bR bK bM bC)
  ms : IsIs W mv (asM ml)
  mp : ∃ h, MapF KP km h W ∧ ∀ a, KP.dom a → ∀ j, h a = some j → a.1 ≤ n ∧ j = min (cntK f al.size n last ml (n - a.1) a.2.1 a.2.2) tooM
  nK : R ≠ km ∧ mb ≠ km ∧ bL ≠ km ∧ bR ≠ km ∧ bK ≠ km ∧ bM ≠ km ∧ bC ≠ km ∧ mv.ownBlock ≠ some km
section
variable {R mb : Nat} {al : ByteArray} {n : Nat} {ck : Bool} {f : Nat → Nat → Option Nat} {bL bR bK bM bC km : Nat} {last : Option Nat} {mv : Value} {ml : List (Option Nat)} {W W' : World}
theorem IsIs.kept {v : Value} {l : List Int} {row : Option Nat} (h : IsIs W v l) (hg : W.grownBy W' row) (hne : v.ownBlock ≠ row) : IsIs W' v l := by
  obtain ⟨ao, c, rfl, h⟩ := h
  refine ⟨ao, c, rfl, fun hp => ?_⟩
  obtain ⟨B, o, e, hB, hc⟩ := h hp
  subst e
  exact ⟨B, o, rfl, Nat.lt_of_lt_of_le hB hg.size, fun j hj => hg.cell (hc j hj) hne⟩
theorem SerA.kept {row : Option Nat} (h : SerA R mb al n ck f W) (hg : W.grownBy W' row) (h1 : some R ≠ row) (h2 : some mb ≠ row) : SerA R mb al n ck f W' :=
  ⟨⟨hg.cell h.se.c0 h1, hg.cell h.se.c1 h1, hg.cell h.se.c2 h1⟩, hg.cell h.c3 h1, h.mp.kept hg h2⟩
theorem CtI.below (h : CtI R mb al n ck f bL bR bK bM bC km last mv ml W) (hb : Below W.heap.size W W') : CtI R mb al n ck f bL bR bK bM bC km last mv ml W' := by
  have hg : W.grownBy W' none := ⟨hb.os, hb.tape, hb.output, hb.size, fun k hk _ => hb.block k hk⟩
  obtain ⟨g, h1, h2⟩ := h.mp
  exact ⟨h.se.below hb, hg.cell h.cL (by simp), hg.cell h.cR (by simp), hg.cell h.cK (by simp), hg.cell h.cM (by simp), hg.cell h.cC (by simp), h.ms.below hb, ⟨g, h1.below hb, h2⟩, h.nK⟩
/-- a result is remembered -/
theorem CtI.put (h : CtI R mb al n ck f bL bR bK bM bC km last mv ml W) {i s p j : Nat} (hi : i ≤ n) (hd : KP.dom (i, s, p)) (hj : j = min (cntK f al.size n last ml (n - i) s p) tooM) :
    ∃ W', (Instr.mapUpdate 120 (.map (some km)) (plcV (i, s, p)) (.int .i64 (j : Int))).run Try.prog W = .ok () W' ∧ CtI R mb al n ck f bL bR bK bM bC km last mv ml W' ∧ W.grownBy W' (some km) := by
  obtain ⟨g, h1, h2⟩ := h.mp
  obtain ⟨W', r1, r2, r3⟩ := h1.put (t := 120) Try.underlying120 hd (j := j) (by rw [hj]; unfold tooM; omega)
  obtain ⟨n1, n2, n3, n4, n5, n6, n7, n8⟩ := h.nK
  have ne : ∀ {x : Nat}, x ≠ km → some x ≠ some km := fun h e => h (Option.some.inj e)
  refine ⟨W', r1, ⟨h.se.kept r3 (ne n1) (ne n2), r3.cell h.cL (ne n3), r3.cell h.cR (ne n4), r3.cell h.cK (ne n5), r3.cell h.cM (ne n6), r3.cell h.cC (ne n7), h.ms.kept r3 n8, ⟨_, r2, fun a ha k hk => ?_⟩, h.nK⟩, r3⟩
  by_cases e : a = (i, s, p)
  · subst e
    rw [if_pos rfl] at hk
    injection hk with hk
    exact ⟨hi, by rw [← hk]; exact hj⟩
  · rw [if_neg e] at hk
    exact h2 a ha k hk
end
end Go.Proofs.Ytgblfobomiiofaa
namespace Go.Proofs.Ytgblfobomiiofaa
open Go Go.RowKit Go.Shelf Gw Go.Maps

/-- the number that the counter keys with -/
def pN (last : Option Nat) (p : Nat) : Nat := if last = none then 0 else p
theorem cntK_pN (f : Nat → Nat → Option Nat) (A n : Nat) (last : Option Nat) (ml : List (Option Nat)) (k s p : Nat) : cntK f A n last ml k s (pN last p) = cntK f A n last ml k s p := by
  unfold pN
  cases last with
  | none => exact cntK_free k s _ _
  | some v => rw [if_neg (by simp)]
theorem P3.zero {X a b c : Nat} {w : World} (h : P3 X a b c w) : P3 X a b 0 (w.setCell ⟨X, 2, none⟩ (.int .i64 0)) := by
  refine ⟨?_, ?_, ?_, fun j => by rw [World.frozen?_setCell]; exact h.fz j⟩
  · rw [World.cell?_setCell_other _ _ _ _ (by intro e; injection e with _ e; omega)]; exact h.c0
  · rw [World.cell?_setCell_other _ _ _ _ (by intro e; injection e with _ e; omega)]; exact h.c1
  · exact World.cell?_setCell_same _ _ _ h.c2
set_option maxRecDepth 100000 in
set_option maxHeartbeats 2000000 in
theorem count_zero {R mb : Nat} {al : ByteArray} {n : Nat} {ck : Bool} {f : Nat → Nat → Option Nat} {bL bR bK bM bC km : Nat} {last : Option Nat} {mv : Value} {ml : List (Option Nat)} {W : World} (h1 : 2 ≤ al.size) (h2 : al.size ≤ 36)
    (h : CtI R mb al n ck f bL bR bK bM bC km last mv ml W) {s p : Nat} (hp : p ≤ al.size) :
    Calls Try.prog 83 #[plcV (n, s, p), .pointer (some ⟨bL, 0, none⟩), .pointer (some ⟨bR, 0, none⟩), .pointer (some ⟨bK, 0, none⟩), .pointer (some ⟨bM, 0, none⟩), .pointer (some ⟨bC, 0, none⟩)] W
      fun e W' => e = .returned (.int .i64 (cntK f al.size n last ml 0 s p : Int)) ∧ Hid (Below W.heap.size W W') := by
  have HH := Lib.hid h
  have cL := h.cL
  have hLl := World.block_lt_of_cell? _ _ h.cL
  obtain ⟨z, hz⟩ : ∃ z, z = sgn last := ⟨_, rfl⟩
  rw [← hz] at cL
  have HZ := Lib.hid hz
  unfold plcV
  obtain ⟨r, hr⟩ : ∃ r, r = cntK f al.size n last ml 0 s p := ⟨_, rfl⟩
  rw [← hr]
  have HR := Lib.hid hr
  clear h hz hr
  go_enter Try.func83, Try.ntmps83
  refine wp_seq_k fun _ _ => ?_
  go_cut [6, 7] from 8 (fun s6 s7 wz => s6 = .pointer (some ⟨W.heap.size, 0, none⟩) ∧ s7 = .int .i64 0 ∧ Hid (P3 W.heap.size n s p wz ∧ Below W.heap.size W wz))
  case first =>
    go_wp2_with fail
    go_meet
    case rel => exact ⟨rfl, rfl, P3.new W n s p, below_al _ _⟩
  case rest =>
    obtain ⟨rfl, rfl, H1⟩ := hcut
    apply_assumption
    refine wp_seq_k fun _ _ => ?_
    obtain ⟨X, hX⟩ : ∃ X, X = W.heap.size := ⟨_, rfl⟩
    have HX := Lib.hid hX
    rw [← hX] at H1 ⊢
    clear hX
    have l1 : wc.cell? ⟨bL, 0, none⟩ = some (.int .i64 z) := (H1.out.2.cell (p := ⟨bL, 0, none⟩) (by rw [HX.out]; exact hLl)).trans cL
    go_cut [] from 13 to 15 (fun wz => Hid (P3 X n s (pN last p) wz ∧ Below X W wz))
    case first =>
      have hz2 := HZ.out
      cases last with
      | none =>
        have e1 : z = -1 := hz2
        have e2 : pN none p = 0 := rfl
        subst e1
        have c2 := H1.out.1.c2
        have f2 := H1.out.1.fz 2
        have HN : Hid (P3 X n s (pN none p) (wc.setCell ⟨X, 2, none⟩ (.int .i64 0)) ∧ Below X W (wc.setCell ⟨X, 2, none⟩ (.int .i64 0))) := ⟨by rw [e2]; exact H1.out.1.zero, H1.out.2.setCell (Nat.le_refl _) _⟩
        clear hz2 e2 HH HR HZ H1
        go_wp2_with fail
        go_meet
        case rel => exact HN
      | some v =>
        have e1 : z = (v : Int) := hz2
        have e2 : pN (some v) p = p := by unfold pN; rw [if_neg (by simp)]
        have e3 : ((v : Int) == -1) = false := by rw [beq_eq_false_iff_ne]; omega
        have HN : Hid (P3 X n s (pN (some v) p) wc ∧ Below X W wc) := by rw [e2]; exact H1.out
        subst e1
        clear hz2 e2 HH HR HZ H1
        go_wp2_with fail
        go_meet
        case rel => exact HN
    case rest =>
      have H2 := hcut
      clear H1 l1
      have HB : Below W.heap.size W wc := by rw [← HX.out]; exact H2.out.2
      have HC := Lib.hid (HH.out.below HB)
      have e0 := H2.out.1.c0
      have r0 := HC.out.cR
      have r1 := HC.out.se.se.c1
      have l1 : wc.cell? ⟨bL, 0, none⟩ = some (.int .i64 z) := by rw [HZ.out]; exact HC.out.cL
      have HB1 := Lib.hid HB
      clear HB
      go_upto_region 3 with fail
      go_quiet (fail)
      rename_i nq
      have HP2 := Lib.hid (H2.out.1.below (below_dr wc nq))
      have HC2 := Lib.hid (HC.out.below (below_dr wc nq))
      have HB2 := Lib.hid (HB1.out.trans ((below_dr wc nq).mono HB1.out.size))
      have l2 : (World.drewN wc nq).cell? ⟨bL, 0, none⟩ = some (.int .i64 z) := l1
      clear e0 r0 r1 l1 HC HB1 H2 hcut
      generalize World.drewN wc nq = w2 at *
      have e2 := HP2.out.c2
      have r0 := HC2.out.cR
      have HLC : Hid (∀ q, Calls Try.prog 84 #[.pointer (some ⟨R, 0, none⟩), .int .i64 (pN last p : Int)] (w2.drewN q) fun e w' => e = .returned (.int .i64 (lcN al.size (pN last p) : Int)) ∧ ∃ k, w' = w2.drewN k) := fun q =>
        (lastCheck_any (HC2.out.se.se.below (below_dr w2 q)) h1 h2 (by unfold pN; split <;> omega)).mono fun e w' ⟨h1, h2⟩ => ⟨h1, q, h2.symm⟩
      have hz2 := HZ.out
      have hr2 := HR.out
      rw [← cntK_pN] at hr2
      cases last with
      | none =>
        have e1 : z = -1 := hz2
        have e3 : r = 1 := by rw [hr2]; simp [cntK]
        subst e1 e3
        clear hz2 hr2 HR HZ HC2 HP2 HH HLC
        go_wp2_with fail
        go_quiet (fail)
        rename_i nq2
        go_wp2_with fail
        go_ret
        exact ⟨rfl, HB2.out.trans ((below_dr _ _).mono HB2.out.size)⟩
      | some v =>
        have e1 : z = (v : Int) := hz2
        have d1 : ((v : Int) == -1) = false := by rw [beq_eq_false_iff_ne]; omega
        obtain ⟨c, hc⟩ : ∃ c, c = lcN al.size (pN (some v) p) := ⟨_, rfl⟩
        rw [← hc] at HLC
        by_cases e : v = c
        · have e3 : r = 1 := by rw [hr2]; unfold cntK; exact if_pos (.inr (by rw [← hc]; exact congrArg some e))
          subst e1 e3 e
          clear hz2 hr2 HR HZ HC2 HP2 HH hc
          go_wp2_with fail
          go_quiet ((go_at_call 84; exact HLC.out _))
          rename_i nq2
          go_wp2_with fail
          go_ret
          exact ⟨rfl, HB2.out.trans ((below_dr _ _).mono HB2.out.size)⟩
        · have e3 : r = 0 := by rw [hr2]; simp [cntK, ← hc, e]
          have d2 : ((v : Int) == (c : Int)) = false := by rw [beq_eq_false_iff_ne]; omega
          subst e1 e3
          clear hz2 hr2 HR HZ HC2 HP2 HH hc
          go_wp2_with fail
          go_quiet ((go_at_call 84; exact HLC.out _))
          rename_i nq2
          go_wp2_with fail
          go_ret
          exact ⟨rfl, HB2.out.trans ((below_dr _ _).mono HB2.out.size)⟩
end Go.Proofs.Ytgblfobomiiofaa
namespace Go.Proofs.Ytgblfobomiiofaa
open Go Go.RowKit Go.Shelf Gw Go.Maps

theorem grown_of {W W' : World} (hb : Below W.heap.size W W') (row : Option Nat) : W.grownBy W' row := ⟨hb.os, hb.tape, hb.output, hb.size, fun k hk _ => hb.block k hk⟩
/-- a statement that can't be left but at its end -/
theorem wp_calm {P : Program} {c : Code} {K : Act → World → Prop} {Q : Exit → Act → World → Prop} {a : Act} {w : World} (h : c.wp P (Exit.then K (fun _ _ _ => False)) a w) : c.wp P (Exit.then K Q) a w :=
  wp_mono h (fun e a w hq => by
    cases e with
    | normal => exact hq
    | _ => exact False.elim hq)
theorem MapF.of_block {α : Type} {k : TypeId} {K : KeyK α k} {b : Nat} {f : α → Option Nat} {W W' : World} (h : MapF K b f W) (e : W'.heap[b]? = W.heap[b]?) : MapF K b f W' := by
  obtain ⟨D, ⟨es, clock, e1, F, e2, e3⟩, h2⟩ := h
  exact ⟨D, ⟨es, clock, e.trans e1, F, e2, e3⟩, h2⟩
/-- what a round keeps: all below n0 but the map km and the box Y -/
structure Kc (n0 km Y : Nat) (A B : World) : Prop where
  size : A.heap.size ≤ B.heap.size
  os : B.os = A.os
  tape : B.tape = A.tape
  output : B.output = A.output
  block : ∀ k, k < n0 → k ≠ km → k ≠ Y → B.heap[k]? = A.heap[k]?
theorem Kc.trans {n0 km Y : Nat} {A B C : World} (h : Kc n0 km Y A B) (k : Kc n0 km Y B C) : Kc n0 km Y A C :=
  ⟨Nat.le_trans h.size k.size, k.os.trans h.os, k.tape.trans h.tape, k.output.trans h.output, fun i h1 h2 h3 => (k.block i h1 h2 h3).trans (h.block i h1 h2 h3)⟩
theorem Kc.of_below {n0 km Y : Nat} {A B : World} (h : Below n0 A B) : Kc n0 km Y A B := ⟨h.size, h.os, h.tape, h.output, fun k hk _ _ => h.block k hk⟩
theorem Kc.of_grown {n0 km Y : Nat} {A B : World} (h : A.grownBy B (some km)) (hn : n0 ≤ A.heap.size) : Kc n0 km Y A B :=
  ⟨h.size, h.os, h.tape, h.output, fun k hk h1 _ => h.block k (by omega) (fun e => h1 (Option.some.inj e))⟩
theorem Kc.of_set {n0 km Y : Nat} (A : World) (j : Nat) (v : Value) : Kc n0 km Y A (A.setCell ⟨Y, j, none⟩ v) :=
  ⟨by rw [World.size_setCell]; exact Nat.le_refl _, rfl, rfl, rfl, fun k _ _ h => Below.heap_setCell _ _ _ k (by show k ≠ Y; exact h)⟩
section
variable {R mb : Nat} {al : ByteArray} {n : Nat} {ck : Bool} {f : Nat → Nat → Option Nat} {bL bR bK bM bC km : Nat} {last : Option Nat} {mv : Value} {ml : List (Option Nat)} {W W' : World}
theorem StI.kc {B : Nat} {q : Pl} {sg : Option Nat} {n0 Y : Nat} (h : StI R mb al n ck f B q sg W) (hk : Kc n0 km Y W W') (hR : R < n0 ∧ R ≠ km ∧ R ≠ Y) (hm : mb < n0 ∧ mb ≠ km ∧ mb ≠ Y) (hB : B + 1 + 1 < n0 ∧ (km < B ∨ B + 1 + 1 < km) ∧ Y < B) : StI R mb al n ck f B q sg W' := by
  have eR := hk.block R hR.1 hR.2.1 hR.2.2
  have em := hk.block mb hm.1 hm.2.1 hm.2.2
  have e0 := hk.block B (by omega) (by omega) (by omega)
  have e1 := hk.block (B + 1) (by omega) (by omega) (by omega)
  have e2 := hk.block (B + 1 + 1) (by omega) (by omega) (by omega)
  exact ⟨⟨⟨(World.cell?_of_block eR).trans h.se.se.c0, (World.cell?_of_block eR).trans h.se.se.c1, (World.cell?_of_block eR).trans h.se.se.c2⟩, (World.cell?_of_block eR).trans h.se.c3, h.se.mp.of_block em⟩,
    (World.cell?_of_block e0).trans h.b0, ⟨(World.cell?_of_block e1).trans h.pl.c0, (World.cell?_of_block e1).trans h.pl.c1, (World.cell?_of_block e1).trans h.pl.c2, fun j => (World.frozen?_of_block (a := ⟨B + 1, j, none⟩) e1).trans (h.pl.fz j)⟩, (World.cell?_of_block e2).trans h.b2⟩
/-- where the counter's blocks lie -/
structure CtB (R mb bL bR bK bM bC km : Nat) (mv : Value) (n0 : Nat) : Prop where
  hR : R < n0
  hm : mb < n0
  hL : bL < n0
  hr : bR < n0
  hK : bK < n0
  hM : bM < n0
  hC : bC < n0
  hk : km < n0
  hv : ∀ j, mv.ownBlock = some j → j < n0
theorem CtB.mono {n0 n1 : Nat} (h : CtB R mb bL bR bK bM bC km mv n0) (e : n0 ≤ n1) : CtB R mb bL bR bK bM bC km mv n1 :=
  ⟨Nat.lt_of_lt_of_le h.hR e, Nat.lt_of_lt_of_le h.hm e, Nat.lt_of_lt_of_le h.hL e, Nat.lt_of_lt_of_le h.hr e, Nat.lt_of_lt_of_le h.hK e, Nat.lt_of_lt_of_le h.hM e, Nat.lt_of_lt_of_le h.hC e, Nat.lt_of_lt_of_le h.hk e, fun j hj => Nat.lt_of_lt_of_le (h.hv j hj) e⟩
theorem CtI.blocks (h : CtI R mb al n ck f bL bR bK bM bC km last mv ml W) (hp : 0 < ml.length) : CtB R mb bL bR bK bM bC km mv W.heap.size := by
  obtain ⟨g, h1, _⟩ := h.mp
  refine ⟨h.se.se.lt, h.se.mp.lt, World.block_lt_of_cell? _ _ h.cL, World.block_lt_of_cell? _ _ h.cR, World.block_lt_of_cell? _ _ h.cK, World.block_lt_of_cell? _ _ h.cM, World.block_lt_of_cell? _ _ h.cC, h1.lt, fun j hj => ?_⟩
  obtain ⟨ao, c, e, hc⟩ := h.ms
  obtain ⟨B, o, e2, hB, _⟩ := hc (by rw [asM_len]; exact hp)
  subst e e2
  have e3 : some B = some j := hj
  injection e3 with e3
  omega
theorem IsIs.kept2 {v : Value} {l : List Int} {row : Option Nat} (h : IsIs W v l) (hg : W.grownBy W' row) (hne : ∀ j, v.ownBlock = some j → some j ≠ row) : IsIs W' v l := by
  obtain ⟨ao, c, rfl, h⟩ := h
  refine ⟨ao, c, rfl, fun hp => ?_⟩
  obtain ⟨B, o, e, hB, hc⟩ := h hp
  subst e
  exact ⟨B, o, rfl, Nat.lt_of_lt_of_le hB hg.size, fun j hj => hg.cell (hc j hj) (hne B rfl)⟩
/-- a block that is none of the counter's turns -/
theorem CtI.kept {n0 : Nat} {row : Option Nat} (h : CtI R mb al n ck f bL bR bK bM bC km last mv ml W) (hB : CtB R mb bL bR bK bM bC km mv n0) (hg : W.grownBy W' row) (hr : ∀ j, row = some j → n0 ≤ j) : CtI R mb al n ck f bL bR bK bM bC km last mv ml W' := by
  have ne : ∀ {x : Nat}, x < n0 → some x ≠ row := fun hx e => by have := hr _ e.symm; omega
  obtain ⟨g, h1, h2⟩ := h.mp
  exact ⟨h.se.kept hg (ne hB.hR) (ne hB.hm), hg.cell h.cL (ne hB.hL), hg.cell h.cR (ne hB.hr), hg.cell h.cK (ne hB.hK), hg.cell h.cM (ne hB.hM), hg.cell h.cC (ne hB.hC),
    h.ms.kept2 hg (fun j hj => ne (hB.hv j hj)), ⟨g, h1.kept hg (ne hB.hk), h2⟩, h.nK⟩
/-- a place's box is not turned -/
theorem P3.kept {X a b c : Nat} {row : Option Nat} (h : P3 X a b c W) (hg : W.grownBy W' row) (hne : some X ≠ row) : P3 X a b c W' :=
  ⟨hg.cell h.c0 hne, hg.cell h.c1 hne, hg.cell h.c2 hne, fun j => (World.frozen?_of_block (a := ⟨X, j, none⟩) (hg.block X h.lt hne)).trans (h.fz j)⟩
theorem P3.kept3 {X a b c : Nat} {row : Option Nat} (h : P3 X a b c W) (hg : W.grownBy W' row) (hr : ∀ r, row = some r → ∃ o : Obj, W.heap[r]? = some o ∧ o.isCells = false) : P3 X a b c W' := by
  obtain ⟨o, ho, hc⟩ := cells_of_cell h.c0
  exact ⟨cell_kept h.c0 hg hr, cell_kept h.c1 hg hr, cell_kept h.c2 hg hr, fun j => (World.frozen?_of_block (a := ⟨X, j, none⟩) (grownBy_keeps_cells hg hr ho hc)).trans (h.fz j)⟩
/-- the invariant of counter's loop: the box Y holds the sum x so far, cut -/
structure CtR (R mb : Nat) (al : ByteArray) (n : Nat) (ck : Bool) (f : Nat → Nat → Option Nat) (bL bR bK bM bC km : Nat) (last : Option Nat) (mv : Value) (ml : List (Option Nat)) (n0 X Y : Nat) (q : Pl) (w : World) (x : Nat) (W : World) : Prop where
  ct : CtI R mb al n ck f bL bR bK bM bC km last mv ml W
  pl : P3 X q.1 q.2.1 q.2.2 W
  cY : W.cell? ⟨Y, 0, none⟩ = some (.int .i64 (min x tooM : Nat))
  fY : W.frozen? ⟨Y, 0, none⟩ = false
  kc : Kc n0 km Y w W
  hw : n0 ≤ w.heap.size
theorem CtR.own {n0 X Y : Nat} {q : Pl} {w : World} (g : Nat → Nat) (hB : CtB R mb bL bR bK bM bC km mv n0) (hX : X < n0) (hY : Y < n0) :
    OwnFrom n0 (fun k W => CtR R mb al n ck f bL bR bK bM bC km last mv ml n0 X Y q w (g k) W) := fun k A B row h hg hr => by
  have ne : ∀ {x : Nat}, x < n0 → some x ≠ row := fun hx e => by have := (hr _ e.symm).1; omega
  have hYl := World.block_lt_of_cell? _ _ h.cY
  exact ⟨h.ct.kept hB hg (fun j e => (hr j e).1), h.pl.kept hg (ne hX), hg.cell h.cY (ne hY), (World.frozen?_of_block (hg.block Y hYl (ne hY))).trans h.fY,
    h.kc.trans ⟨hg.size, hg.os, hg.tape, hg.output, fun k hk _ _ => hg.block k (by have := h.kc.size; have := h.hw; omega) (ne hk)⟩, h.hw⟩
/-- one more round: what the call left, and the sum -/
theorem CtR.round {n0 X Y : Nat} {q : Pl} {w : World} {x y : Nat} {W W' : World} (h : CtR R mb al n ck f bL bR bK bM bC km last mv ml n0 X Y q w x W) (_hB : CtB R mb bL bR bK bM bC km mv n0) (_hX : X < n0) (_hY : Y < n0) (hXk : X ≠ km) (hYk : Y ≠ km) (hXY : X ≠ Y)
    (hYB : R ≠ Y ∧ mb ≠ Y ∧ bL ≠ Y ∧ bR ≠ Y ∧ bK ≠ Y ∧ bM ≠ Y ∧ bC ≠ Y ∧ mv.ownBlock ≠ some Y)
    (hc : CtI R mb al n ck f bL bR bK bM bC km last mv ml W') (hg : W.grownBy W' (some km)) (hz : y = min x tooM) :
    W'.cell? ⟨Y, 0, none⟩ = some (.int .i64 (y : Int)) ∧ W'.frozen? ⟨Y, 0, none⟩ = false ∧
    ∀ z, CtR R mb al n ck f bL bR bK bM bC km last mv ml n0 X Y q w z (W'.setCell ⟨Y, 0, none⟩ (.int .i64 (min z tooM : Nat))) := by
  have ne : ∀ {x : Nat}, x ≠ km → some x ≠ some km := fun h e => h (Option.some.inj e)
  have hYl := World.block_lt_of_cell? _ _ h.cY
  have c1 : W'.cell? ⟨Y, 0, none⟩ = some (.int .i64 (y : Int)) := by rw [hz]; exact hg.cell h.cY (ne hYk)
  have f1 : W'.frozen? ⟨Y, 0, none⟩ = false := (World.frozen?_of_block (hg.block Y hYl (ne hYk))).trans h.fY
  refine ⟨c1, f1, fun z => ?_⟩
  have hs := grownBy_setCell W' Y 0 (.int .i64 (min z tooM : Nat))
  have nY : ∀ {x : Nat}, x ≠ Y → some x ≠ some Y := fun h e => h (Option.some.inj e)
  obtain ⟨g1, g2, g3, g4, g5, g6, g7, g8⟩ := hYB
  obtain ⟨gm, m1, m2⟩ := hc.mp
  refine ⟨⟨hc.se.kept hs (nY g1) (nY g2), hs.cell hc.cL (nY g3), hs.cell hc.cR (nY g4), hs.cell hc.cK (nY g5), hs.cell hc.cM (nY g6), hs.cell hc.cC (nY g7), hc.ms.kept hs g8, ⟨gm, m1.kept hs (nY (fun e => hYk e.symm)), m2⟩, hc.nK⟩,
    (h.pl.kept hg (ne hXk)).kept hs (nY hXY), World.cell?_setCell_same _ _ _ c1, by rw [World.frozen?_setCell]; exact f1, (h.kc.trans (Kc.of_grown hg (Nat.le_trans h.hw h.kc.size))).trans (Kc.of_set W' 0 _), h.hw⟩
/-- a world that has grown beyond -/
theorem CtR.below {n0 X Y : Nat} {q : Pl} {w : World} {x : Nat} {W W' : World} (h : CtR R mb al n ck f bL bR bK bM bC km last mv ml n0 X Y q w x W) (hb : Below W.heap.size W W') : CtR R mb al n ck f bL bR bK bM bC km last mv ml n0 X Y q w x W' := by
  have hYl := World.block_lt_of_cell? _ _ h.cY
  exact ⟨h.ct.below hb, h.pl.below hb, (hb.cell (p := ⟨Y, 0, none⟩) hYl).trans h.cY, (hb.frozen (p := ⟨Y, 0, none⟩) hYl).trans h.fY, h.kc.trans (Kc.of_below (hb.mono (Nat.le_trans h.hw h.kc.size))), h.hw⟩
end
end Go.Proofs.Ytgblfobomiiofaa
namespace Go.Proofs.Ytgblfobomiiofaa
open Go Go.RowKit Go.Shelf Gw Go.Maps

attribute [local go_sem] Oper.semAt_some

set_option maxRecDepth 100000 in
set_option maxHeartbeats 4000000 in
theorem count_step {R mb : Nat} {al : ByteArray} {n : Nat} {ck : Bool} {f : Nat → Nat → Option Nat} {bL bR bK bM bC km : Nat} {last : Option Nat} {mv : Value} {ml : List (Option Nat)} {W : World} (h1 : 2 ≤ al.size) (h2 : al.size ≤ 36) (hn : n ≤ 16)
    {i rem : Nat} (hir : i + (rem + 1) = n) (hf : ∀ i v j, f i v = some j → j < 200) (hml : n ≤ ml.length)
    (IH : ∀ (V : World) (s p : Nat), s < 200 → p ≤ al.size → CtI R mb al n ck f bL bR bK bM bC km last mv ml V →
      Calls Try.prog 83 #[plcV (i + 1, s, p), .pointer (some ⟨bL, 0, none⟩), .pointer (some ⟨bR, 0, none⟩), .pointer (some ⟨bK, 0, none⟩), .pointer (some ⟨bM, 0, none⟩), .pointer (some ⟨bC, 0, none⟩)] V
        fun e V' => e = .returned (.int .i64 (min (cntK f al.size n last ml rem s p) tooM : Nat)) ∧ Hid (CtI R mb al n ck f bL bR bK bM bC km last mv ml V') ∧ Hid (V.grownBy V' (some km)))
    (h : CtI R mb al n ck f bL bR bK bM bC km last mv ml W) {s p : Nat} (hs : s < 200) (hp : p ≤ al.size) :
    Calls Try.prog 83 #[plcV (i, s, p), .pointer (some ⟨bL, 0, none⟩), .pointer (some ⟨bR, 0, none⟩), .pointer (some ⟨bK, 0, none⟩), .pointer (some ⟨bM, 0, none⟩), .pointer (some ⟨bC, 0, none⟩)] W
      fun e W' => e = .returned (.int .i64 (min (cntK f al.size n last ml (rem + 1) s p) tooM : Nat)) ∧ Hid (CtI R mb al n ck f bL bR bK bM bC km last mv ml W') ∧ Hid (W.grownBy W' (some km)) := by
  have HH := Lib.hid h
  have cL := h.cL
  have hLl := World.block_lt_of_cell? _ _ h.cL
  obtain ⟨z, hz⟩ : ∃ z, z = sgn last := ⟨_, rfl⟩
  rw [← hz] at cL
  have HZ := Lib.hid hz
  unfold plcV
  obtain ⟨r, hr⟩ : ∃ r, r = min (cntK f al.size n last ml (rem + 1) s p) tooM := ⟨_, rfl⟩
  rw [← hr]
  have HR := Lib.hid hr
  have HIH := Lib.hid IH
  have hin : ((i : Int) == (n : Int)) = false := by rw [beq_eq_false_iff_ne]; omega
  clear h hz hr IH
  refine (callsIn_wide (n := 9)).1 ?_
  refine callsIn_of_wp_marks Try.func83 rfl trivial ?_ rfl
  simp only [Try.ntmps83, List.size_toArray, List.length_cons, List.length_nil, Nat.reduceAdd, Nat.reduceSub, Array.replicate_succ, Array.replicate_zero, List.push_toArray, List.append_toArray, List.nil_append, List.cons_append]
  refine wpIn_wide.2 ?_
  refine wp_seq_k fun _ _ => ?_
  go_cut [6, 7] from 8 (fun s6 s7 wz => s6 = .pointer (some ⟨W.heap.size, 0, none⟩) ∧ s7 = .int .i64 0 ∧ Hid (P3 W.heap.size i s p wz ∧ Below W.heap.size W wz))
  case first =>
    go_wp2_with fail
    go_meet
    case rel => exact ⟨rfl, rfl, P3.new W i s p, below_al _ _⟩
  case rest =>
    obtain ⟨rfl, rfl, H1⟩ := hcut
    apply_assumption
    refine wp_seq_k fun _ _ => ?_
    obtain ⟨X, hX⟩ : ∃ X, X = W.heap.size := ⟨_, rfl⟩
    have HX := Lib.hid hX
    rw [← hX] at H1 ⊢
    clear hX
    have l1 : wc.cell? ⟨bL, 0, none⟩ = some (.int .i64 z) := (H1.out.2.cell (p := ⟨bL, 0, none⟩) (by rw [HX.out]; exact hLl)).trans cL
    go_cut [] from 13 to 15 (fun wz => Hid (P3 X i s (pN last p) wz ∧ Below X W wz))
    case first =>
      have hz2 := HZ.out
      cases last with
      | none =>
        have e1 : z = -1 := hz2
        have e2 : pN none p = 0 := rfl
        subst e1
        have c2 := H1.out.1.c2
        have f2 := H1.out.1.fz 2
        have HN : Hid (P3 X i s (pN none p) (wc.setCell ⟨X, 2, none⟩ (.int .i64 0)) ∧ Below X W (wc.setCell ⟨X, 2, none⟩ (.int .i64 0))) := ⟨by rw [e2]; exact H1.out.1.zero, H1.out.2.setCell (Nat.le_refl _) _⟩
        clear hz2 e2 HH HR HZ H1 HIH
        go_wp2_with fail
        go_meet
        case rel => exact HN
      | some v =>
        have e1 : z = (v : Int) := hz2
        have e2 : pN (some v) p = p := by unfold pN; rw [if_neg (by simp)]
        have e3 : ((v : Int) == -1) = false := by rw [beq_eq_false_iff_ne]; omega
        have HN : Hid (P3 X i s (pN (some v) p) wc ∧ Below X W wc) := by rw [e2]; exact H1.out
        subst e1
        clear hz2 e2 HH HR HZ H1 HIH
        go_wp2_with fail
        go_meet
        case rel => exact HN
    case rest =>
      have H2 := hcut
      clear H1 l1
      have HB : Below W.heap.size W wc := by rw [← HX.out]; exact H2.out.2
      have HC := Lib.hid (HH.out.below HB)
      have e0 := H2.out.1.c0
      have r0 := HC.out.cR
      have r1 := HC.out.se.se.c1
      have l1 : wc.cell? ⟨bL, 0, none⟩ = some (.int .i64 z) := by rw [HZ.out]; exact HC.out.cL
      have HB1 := Lib.hid HB
      clear HB
      go_upto_region 3 with fail
      go_quiet (fail)
      rename_i nq
      have HP2 := Lib.hid (H2.out.1.below (below_dr wc nq))
      have HC2 := Lib.hid (HC.out.below (below_dr wc nq))
      have HB2 := Lib.hid (HB1.out.trans ((below_dr wc nq).mono HB1.out.size))
      have l2 : (World.drewN wc nq).cell? ⟨bL, 0, none⟩ = some (.int .i64 z) := l1
      clear e0 r0 r1 l1 HC HB1 H2 hcut
      generalize World.drewN wc nq = w2 at *
      obtain ⟨p', hp'⟩ : ∃ p', p' = pN last p := ⟨_, rfl⟩
      have hp2 : p' ≤ al.size := by rw [hp']; unfold pN; split <;> omega
      rw [← hp'] at HP2
      have HPN := Lib.hid hp'
      have e0 := HP2.out.c0
      have e1 := HP2.out.c1
      have e2 := HP2.out.c2
      have k0 := HC2.out.cK
      have r0 := HC2.out.cR
      have m0 := HC2.out.cM
      obtain ⟨g, hM, hsem⟩ := HC2.out.mp
      have hdom : KP.dom (i, s, p') := by exact ⟨by show i < 20; omega, hs, by show p' < 40; omega⟩
      have hlk := hM.get2 (a := (i, s, p')) (t := 120) Try.underlying120 hdom
      have hlk2 : (Instr.lookup 120 (.map (some km)) (.agg #[.int .i64 (i : Int), .int .i64 (s : Int), .int .i64 (p' : Int)]) true).run Try.prog w2 = .ok (.tuple #[.int .i64 (((g (i, s, p')).getD 0 : Nat) : Int), .bool (g (i, s, p')).isSome]) w2 := hlk
      clear hlk
      have HSEM := Lib.hid (hsem (i, s, p') hdom)
      clear hM hsem hp'
      cases hg : g (i, s, p') with
      | some j =>
        rw [hg] at hlk2 HSEM
        have hlk3 : (Instr.lookup 120 (.map (some km)) (.agg #[.int .i64 (i : Int), .int .i64 (s : Int), .int .i64 (p' : Int)]) true).run Try.prog w2 = .ok (.tuple #[.int .i64 (j : Int), .bool true]) w2 := hlk2
        have hjr : j = r := by
          have h3 := (HSEM.out j rfl).2
          rw [h3, HR.out, HPN.out]
          dsimp only
          rw [cntK_pN, show n - i = rem + 1 by omega]
        subst hjr
        clear hlk2 hg HSEM HR HZ HPN HIH
        go_wp2_with fail
        refine ⟨.int .i64 (j : Int), by simp [results, Try.results83, go_sem], ?_⟩
        exact ⟨rfl, HC2.out.below (below_al _ _), grown_of (HB2.out.trans ((below_al _ _).mono HB2.out.size)) _⟩
      | none =>
        rw [hg] at hlk2
        have hlk3 : (Instr.lookup 120 (.map (some km)) (.agg #[.int .i64 (i : Int), .int .i64 (s : Int), .int .i64 (p' : Int)]) true).run Try.prog w2 = .ok (.tuple #[.int .i64 0, .bool false]) w2 := hlk2
        clear hlk2 hg HSEM
        have him : i < ml.length := by omega
        have HMS := Lib.hid HC2.out.ms
        obtain ⟨mo, mc, rfl, -⟩ := HC2.out.ms
        obtain ⟨Bm, om, rfl, d0⟩ := HMS.out.at' (j := i) (by rw [asM_len]; exact him)
        obtain ⟨sg, hsg⟩ : ∃ sg, sg = ml[i] := ⟨_, rfl⟩
        have hsz : (asM ml)[i]'(by rw [asM_len]; exact him) = sgn sg := by rw [hsg]; simp [asM]
        rw [hsz] at d0
        obtain ⟨zm, hzm⟩ : ∃ zm, zm = sgn sg := ⟨_, rfl⟩
        rw [← hzm] at d0
        have hlm : (i : Int) < ((asM ml).length : Int) := by rw [asM_len]; omega
        have HSG := Lib.hid hsg
        have HZM := Lib.hid hzm
        clear hsz hsg hzm
        go_upto_region 10 with fail
        obtain ⟨Y, hY⟩ : ∃ Y, Y = w2.heap.size := ⟨_, rfl⟩
        have hb3 := below_al w2 (.cells #[.int .i64 0] 3)
        have y0 : (w2.alloc (.cells #[.int .i64 0] 3)).cell? ⟨Y, 0, none⟩ = some (.int .i64 0) := by rw [hY]; exact World.cell?_alloc_at _ _ _ _ rfl
        have fy : Hid (∀ j, (w2.alloc (.cells #[.int .i64 0] 3)).frozen? ⟨Y, j, none⟩ = false) := fun j => by unfold World.frozen?; dsimp only; rw [hY, World.alloc_heap_new]; simp
        have HC3 := Lib.hid (HC2.out.below hb3)
        have HP3 := Lib.hid (HP2.out.below hb3)
        have HB3 := Lib.hid (HB2.out.trans (hb3.mono HB2.out.size))
        have HYb : Hid (w2.heap.size ≤ Y) := by rw [hY]; exact Nat.le_refl _
        have d3 := (hb3.cell (p := ⟨Bm, om + i, none⟩) (World.block_lt_of_cell? _ _ d0)).trans d0
        rw [← hY]
        clear hb3 hY d0 k0 hlk3 e0 e1 e2 r0 m0 HMS
        generalize w2.alloc (.cells #[.int .i64 0] 3) = w3 at *
        have e0 := HP3.out.c0
        have e1 := HP3.out.c1
        have e2 := HP3.out.c2
        have r0 := HC3.out.cR
        have m0 := HC3.out.cM
        have HST := Lib.hid (steps_any (W := w3.drew) (HC3.out.se.below (below_dr w3 1)) (i, s, p') sg)
        rw [← HZM.out] at HST
        unfold plcV stepsV at HST
        dsimp only at HST
        go_upto_region 10 with fail
        go_cut [48] from 41 (fun s48 wz => ∃ S0, s48 = .func (.func 86) #[] #[.pointer (some ⟨S0, 0, none⟩), .pointer (some ⟨S0 + 1 + 1, 0, none⟩), .pointer (some ⟨S0 + 1, 0, none⟩)] ∧ w3.heap.size = S0 ∧ Hid (StI R mb al n ck f S0 (i, s, p') sg wz) ∧ Hid (Below w3.heap.size w3 wz))
        case first =>
          refine wp_calm ?_
          go_region_with (first
            | (go_at_call 68; (with_reducible refine HST.out.mono ?_); rintro e w4 ⟨rfl, HSI, HB4⟩)
            | fail)
          all_goals go_wp2_with fail
          all_goals go_meet
          all_goals exact ⟨_, rfl, rfl, HSI, (below_dr w3 1).trans HB4.out⟩
        case rest =>
          obtain ⟨S0, rfl, hS0, HSI, HB4⟩ := hcut
          obtain ⟨w4, hw4⟩ : ∃ x, x = wc := ⟨_, rfl⟩
          subst hw4
          have HC4 := Lib.hid (HC3.out.below HB4.out)
          have hn0 : S0 + 1 + 1 < w4.heap.size := World.block_lt_of_cell? _ _ HSI.out.b2
          have hYl := World.block_lt_of_cell? _ _ y0
          have hYl2 : Y < S0 := by rw [← hS0]; exact hYl
          have HY4 : Hid (w4.cell? ⟨Y, 0, none⟩ = some (.int .i64 0)) := (HB4.out.cell (p := ⟨Y, 0, none⟩) hYl).trans y0
          have HFY4 : Hid (w4.frozen? ⟨Y, 0, none⟩ = false) := (HB4.out.frozen (p := ⟨Y, 0, none⟩) hYl).trans (fy.out 0)
          have HP4 := Lib.hid (HP3.out.below HB4.out)
          clear e0 e1 e2 r0 m0 HST y0 fy
          have hmp : 0 < ml.length := by omega
          have HBL := Lib.hid (HC4.out.blocks hmp)
          have HBW := Lib.hid (HH.out.blocks hmp)
          have hWY : W.heap.size ≤ Y := Nat.le_trans HB2.out.size HYb.out
          have hXW := HX.out
          have hXY : X < Y := Nat.lt_of_lt_of_le HP2.out.lt HYb.out
          have hkW := HBW.out.hk
          obtain ⟨xs, hxs⟩ : ∃ xs, xs = stepL f al.size (i, s, p') sg al.size := ⟨_, rfl⟩
          obtain ⟨gS, hgS⟩ : ∃ gS : Nat × Pl → Nat, gS = fun y => cntK f al.size n last ml rem y.2.2.1 y.2.2.2 := ⟨_, rfl⟩
          have HXS := Lib.hid hxs
          have HGS := Lib.hid hgS
          have hnY : R ≠ Y ∧ mb ≠ Y ∧ bL ≠ Y ∧ bR ≠ Y ∧ bK ≠ Y ∧ bM ≠ Y ∧ bC ≠ Y ∧ (Value.slice (some ⟨Bm, om, none⟩) (asM ml).length mc).ownBlock ≠ some Y := by
            have h3 := HBW.out
            exact ⟨by have := h3.hR; omega, by have := h3.hm; omega, by have := h3.hL; omega, by have := h3.hr; omega, by have := h3.hK; omega, by have := h3.hM; omega, by have := h3.hC; omega, fun e => by have := h3.hv _ e; omega⟩
          have HNY := Lib.hid hnY
          have hSQ : SeqE Fence.wide 8 Try.prog 86 #[.pointer (some ⟨S0, 0, none⟩), .pointer (some ⟨S0 + 1 + 1, 0, none⟩), .pointer (some ⟨S0 + 1, 0, none⟩)] (encS xs) (fun _ _ _ => True) (Kc w4.heap.size km Y) xs.length w4 := by
            rw [hxs]
            exact steps_seq h1 h2 (by show i ≤ 1000; omega) hs (by show p' ≤ 1000; omega) HSI.out (fun A B hk hst => hst.kc hk ⟨HBL.out.hR, HC4.out.nK.1, hnY.1⟩ ⟨HBL.out.hm, HC4.out.nK.2.1, hnY.2.1⟩ ⟨hn0, .inl (by omega), hYl2⟩) 8
          have hI0 : CtR R mb al n ck f bL bR bK bM bC km last (.slice (some ⟨Bm, om, none⟩) (asM ml).length mc) ml w4.heap.size X Y (i, s, p') w4 (sumK gS xs 0) w4 :=
            ⟨HC4.out, HP4.out, by rw [HY4.out, sumK_zero]; rfl, HFY4.out, ⟨Nat.le_refl _, rfl, rfl, rfl, fun _ _ _ _ => rfl⟩, Nat.le_refl _⟩
          have HXW := Lib.hid hXW
          clear hxs hgS hnY hXW
          apply_assumption
          refine (wpIn_wide (n := 9)).1 ?_
          gi_wp2_with fail
          generalize ha0 : Act.mk _ _ = a0
          refine range_e (F := Fence.wide) (n := 9) (a := a0) (w := w4) rfl (by decide) (gf := 86) (lb := #[.pointer (some ⟨S0, 0, none⟩), .pointer (some ⟨S0 + 1 + 1, 0, none⟩), .pointer (some ⟨S0 + 1, 0, none⟩)]) (by rw [← ha0]; rfl) trivial (enters_of Try.func86 (by kernel_rfl) rfl)
            (show SeqE Fence.wide (9 - 1) _ _ _ _ _ _ _ _ from hSQ) Kc.trans (fun W'' l o o' hl h hc hw => Kc.of_below (belowK_b (Nat.le_refl _) W'' l o o' hl h hc hw)) (fun k v => by unfold encS; split <;> rfl)
            (fun k W' => CtR R mb al n ck f bL bR bK bM bC km last (.slice (some ⟨Bm, om, none⟩) (asM ml).length mc) ml w4.heap.size X Y (i, s, p') w4 (sumK gS xs k) W') (fun _ _ _ => False) (CtR.own (fun k => sumK gS xs k) HBL.out (by have := HP4.out.lt; exact this) (World.block_lt_of_cell? _ _ HY4.out)) (fun _ _ _ _ _ hs _ _ => hs) hI0
            (fun k v a' W' => ∃ Z y, xs[k]? = some y ∧ P3 Z y.2.1 y.2.2.1 y.2.2.2 W' ∧ w4.heap.size ≤ Z ∧ a' = { tmps := ((#[49, 50].zip (encS xs k v)).foldl (fun t (p, v) => t.setIfInBounds p v) a0.tmps).setIfInBounds 11 (.pointer (some ⟨Z, 0, none⟩)), defers := [] })
            (fun k v a' => fun _ A B row hst hg hr => by
              obtain ⟨Z, y, h1, h2, h3, h4⟩ := hst
              exact ⟨Z, y, h1, h2.kept3 hg (fun r e => (hr r e).2), h3, h4⟩) ?assign ?body ?done ?stop
          case assign =>
            intro l k v W' K hk hI _ hKK
            obtain ⟨y, hy⟩ : ∃ y, xs[k]? = some y := ⟨xs[k], List.getElem?_eq_getElem hk⟩
            have hsz : w4.heap.size ≤ W'.heap.size := hI.kc.size
            have HI := Lib.hid hI
            have HKK := Lib.hid hKK
            have HY2 := Lib.hid hy
            subst ha0
            unfold encS
            rw [hy]
            unfold plcV
            clear hI hKK hy
            gi_wp2_with fail
            exact HKK.out _ _ ((KeepsOthers.alloc _ _).from _) (Kc.of_below ((below_al _ _).mono hsz)) (HI.out.below (below_al _ _)) ⟨W'.heap.size, y, HY2.out, P3.new W' _ _ _, hsz, by unfold encS; rw [HY2.out]; simp [plcV]⟩
          case body =>
            rintro l k v a' W' hk hI ⟨Z, ⟨yv, ya, yb, yc⟩, hy, hP, hZ, rfl⟩
            subst ha0
            unfold encS
            rw [hy]
            unfold plcV
            dsimp only at hP ⊢
            have hmem := stepL_mem (by rw [← HXS.out]; exact List.mem_of_getElem? hy)
            obtain ⟨-, hya, hyf, hyc⟩ := hmem
            dsimp only at hya hyf hyc
            have hyb := hf _ _ _ hyf
            have hyc2 : yc ≤ al.size := by rw [hyc]; exact ncN_le
            have hCT := HIH.out W' yb yc hyb hyc2 hI.ct
            unfold plcV at hCT
            dsimp only at hCT
            rw [← hya] at hCT
            obtain ⟨m, hm⟩ : ∃ m, m = min (cntK f al.size n last ml rem yb yc) tooM := ⟨_, rfl⟩
            rw [← hm] at hCT
            have hmT : m ≤ tooM := by rw [hm]; omega
            obtain ⟨x, hx⟩ : ∃ x, x = min (sumK gS xs k) tooM := ⟨_, rfl⟩
            have hxT : x ≤ tooM := by rw [hx]; omega
            unfold tooM at hmT hxT
            have hw : IntKind.i64.wrap ((x : Int) + (m : Int)) = ((x + m : Nat) : Int) := by rw [IntWalk.i64_in _ (by omega)]; omega
            have hsum : min (sumK gS xs (k + 1)) tooM = min (x + m) tooM := by rw [sumK_succ gS hy, hx, hm, HGS.out]; dsimp only; exact (min_add _ _ _).symm
            obtain ⟨tt, htt⟩ : ∃ tt, tt = x + m := ⟨_, rfl⟩
            rw [← htt] at hw hsum
            have HTT := Lib.hid htt
            have HSUM := Lib.hid hsum
            have HXX := Lib.hid hx
            have HCT := Lib.hid hCT
            have HI := Lib.hid hI
            have HY2 := Lib.hid hy
            have z0 := hP.c0
            have z1 := hP.c1
            have z2 := hP.c2
            have cC := hI.ct.cC
            unfold cntV at cC
            clear hI hy hP hya hyf hyc hm hx hsum hCT htt
            gi_wp2_with (refine ⟨trivial, ?_⟩; gi_at_call 83; refine (CallsIn.inRound l (callsIn_wide.2 HCT.out)).mono ?_; rintro e w6 ⟨rfl, HC6, HG6⟩; have hrd := HI.out.round HBL.out (by have := HP4.out.lt; exact this) (World.block_lt_of_cell? _ _ HY4.out) (by have := HXW.out; omega) (by omega) (by omega) HNY.out HC6.out HG6.out HXX.out; have g1 := hrd.1; have g2 := hrd.2.1; have HRD := Lib.hid hrd.2.2; clear hrd)
            have e1 : (min ((tt : Nat) : Int) 1099511627777) = ((min (sumK gS xs (k + 1)) tooM : Nat) : Int) := by rw [HSUM.out]; unfold tooM; omega
            rw [e1]
            have hk4 := HBL.out.hk
            exact ⟨(KeepsFrom.of_grownBy HG6.out (fun j e => by cases e; exact hk4)).trans ((KeepsOthers.setCell _ _ _).from _), (Kc.of_grown HG6.out (Nat.le_trans HI.out.hw HI.out.kc.size)).trans (Kc.of_set _ _ _), HRD.out _⟩
          case done =>
            intro d W' hd hI hDD
            subst ha0
            have hsg : ml.getD (n - (rem + 1)) none = sg := by
              rw [show n - (rem + 1) = i by omega, HSG.out]
              simp [him]
            have hsum : min (sumK gS xs xs.length) tooM = r := by
              rw [sumK_all, HR.out, HXS.out, HGS.out, HPN.out, ← cntK_pN f al.size n last ml (rem + 1) s p]
              conv => rhs; unfold cntK
              rw [hsg, show n - (rem + 1) = i by omega]
            obtain ⟨W2, hup, hC2, hG2⟩ := hI.ct.put (i := i) (s := s) (p := p') (j := r) (by omega) hdom (by rw [HR.out, HPN.out, cntK_pN, show n - i = rem + 1 by omega])
            have hup2 : (Instr.mapUpdate 120 (.map (some km)) (.agg #[.int .i64 (i : Int), .int .i64 (s : Int), .int .i64 (p' : Int)]) (.int .i64 (r : Int))).run Try.prog W' = .ok () W2 := hup
            have hkY : Y ≠ km := by omega
            have hkd : d ≠ km := by have := HBL.out.hk; omega
            have cY : W'.cell? ⟨Y, 0, none⟩ = some (.int .i64 (r : Int)) := by rw [← hsum]; exact hI.cY
            have cY2 : W2.cell? ⟨Y, 0, none⟩ = some (.int .i64 (r : Int)) := hG2.cell cY (fun e => hkY (Option.some.inj e))
            have z0 := hI.pl.c0
            have z1 := hI.pl.c1
            have z2 := hI.pl.c2
            have cK := hI.ct.cK
            have HD2 : Hid (W2.heap[d]? = some (.deferred (some []))) := (hG2.block d (Array.getElem?_eq_some_iff.1 hDD).1 (fun e => hkd (Option.some.inj e))).trans hDD
            have HI := Lib.hid hI
            have HC2' := Lib.hid hC2
            have HG2' := Lib.hid hG2
            have HFIN : Hid (CtI R mb al n ck f bL bR bK bM bC km last (.slice (some ⟨Bm, om, none⟩) (asM ml).length mc) ml (W2.putObj d (.deferred none)) ∧ W.grownBy (W2.putObj d (.deferred none)) (some km)) := by
              have hp := grownBy_putObj' W2 d (.deferred none)
              refine ⟨hC2.kept HBL.out hp (fun j e => by cases e; exact hd), ?_⟩
              have b0 := HB3.out
              have b1 := HB4.out
              have kc := hI.kc
              refine ⟨hp.os.trans (hG2.os.trans (kc.os.trans (b1.os.trans b0.os))), hp.tape.trans (hG2.tape.trans (kc.tape.trans (b1.tape.trans b0.tape))), hp.output.trans (hG2.output.trans (kc.output.trans (b1.output.trans b0.output))), Nat.le_trans b0.size (Nat.le_trans b1.size (Nat.le_trans kc.size (Nat.le_trans hG2.size hp.size))), fun k hk hne => ?_⟩
              have s4 : W.heap.size ≤ w4.heap.size := Nat.le_trans b0.size b1.size
              have n1 : k ≠ km := fun e => hne (by rw [e])
              exact (hp.block k (Nat.lt_of_lt_of_le hk (Nat.le_trans s4 (Nat.le_trans kc.size hG2.size))) (fun e => by injection e with e; omega)).trans ((hG2.block k (Nat.lt_of_lt_of_le hk (Nat.le_trans s4 kc.size)) hne).trans ((kc.block k (by omega) n1 (by omega)).trans ((b1.block k (Nat.lt_of_lt_of_le hk b0.size)).trans (b0.block k hk))))
            clear hI hC2 hG2 hup hDD hsum hsg
            gi_wp2_with fail
            go_wp2_with fail
            refine ⟨by simp, .inl ⟨_, _, rfl, run_takeDeferred HD2.out, ?_⟩⟩
            exact ⟨.int .i64 (r : Int), by simp [results, Try.results83, go_sem], rfl, HFIN.out.1, HFIN.out.2⟩
          case stop =>
            intro d c k W' _ _ hh
            exact hh.elim
end Go.Proofs.Ytgblfobomiiofaa
namespace Go.Proofs.Ytgblfobomiiofaa
open Go Go.RowKit Go.Shelf Gw Go.Maps

theorem cntK_zero_le (f : Nat → Nat → Option Nat) (A n : Nat) (last : Option Nat) (ml : List (Option Nat)) (s p : Nat) : cntK f A n last ml 0 s p ≤ 1 := by
  unfold cntK
  split <;> omega
theorem count_any {R mb : Nat} {al : ByteArray} {n : Nat} {ck : Bool} {f : Nat → Nat → Option Nat} {bL bR bK bM bC km : Nat} {last : Option Nat} {mv : Value} {ml : List (Option Nat)} (h1 : 2 ≤ al.size) (h2 : al.size ≤ 36) (hn : n ≤ 16) (hml : n ≤ ml.length) (hf : ∀ i v j, f i v = some j → j < 200) :
    ∀ (rem i : Nat), i + rem = n → ∀ (V : World) (s p : Nat), s < 200 → p ≤ al.size → CtI R mb al n ck f bL bR bK bM bC km last mv ml V →
      Calls Try.prog 83 #[plcV (i, s, p), .pointer (some ⟨bL, 0, none⟩), .pointer (some ⟨bR, 0, none⟩), .pointer (some ⟨bK, 0, none⟩), .pointer (some ⟨bM, 0, none⟩), .pointer (some ⟨bC, 0, none⟩)] V
        fun e V' => e = .returned (.int .i64 (min (cntK f al.size n last ml rem s p) tooM : Nat)) ∧ Hid (CtI R mb al n ck f bL bR bK bM bC km last mv ml V') ∧ Hid (V.grownBy V' (some km))
  | 0, i, hi, V, s, p, hs, hp, h => by
    have e : i = n := by omega
    subst e
    refine (count_zero h1 h2 h hp).mono ?_
    rintro e V' ⟨rfl, hb⟩
    have hle := cntK_zero_le f al.size i last ml s p
    have hT : min (cntK f al.size i last ml 0 s p) tooM = cntK f al.size i last ml 0 s p := by unfold tooM; omega
    exact ⟨by rw [hT], h.below hb.out, grown_of hb.out _⟩
  | rem + 1, i, hi, V, s, p, hs, hp, h =>
    count_step h1 h2 hn hi hf hml (fun V s p hs hp h => count_any h1 h2 hn hml hf rem (i + 1) (by omega) V s p hs hp h) h hs hp
end Go.Proofs.Ytgblfobomiiofaa
