/- Contracts and lemmas (several texts merged into one). -/
import Derived.Test.YtgblfobomiiofaaTSer1
import Derived.Test.YtgblfobomiiofaaTSerB
import Derived.Test.YtgblfobomiiofaaTSerH
namespace Gw
/-- the beginnings: distinct, the empty word first, with each its own, and of each banned string all but the last sign -/
structure NodesD (bans L : List (List Nat)) : Prop where
  zero : L[0]? = some []
  init : ∀ x v, x ++ [v] ∈ L → x ∈ L
  ban : ∀ b ∈ bans, ∃ y v, b = y ++ [v] ∧ y ∈ L
  dup : L.Nodup
theorem NodesD.nil {bans L : List (List Nat)} (h : NodesD bans L) : [] ∈ L := List.mem_of_getElem? h.zero
theorem NodesD.tree {bans L : List (List Nat)} (h : NodesD bans L) : Tree L := ⟨h.zero, h.init, h.dup⟩
theorem ends_lsufD {L bans : List (List Nat)} (h : NodesD bans L) (w : List Nat) (v : Nat) : EndsB bans (lsuf L w ++ [v]) ↔ EndsB bans (w ++ [v]) := by
  constructor
  · rintro ⟨b, h1, h2⟩
    exact ⟨b, h1, h2.trans (List.suffix_append_self_iff.2 (lsuf_suffix L w))⟩
  · rintro ⟨b, h1, h2⟩
    refine ⟨b, h1, ?_⟩
    obtain ⟨y, v', rfl, hy⟩ := h.ban b h1
    rcases snoc_suffix h2 with e | ⟨z, e, hz⟩
    · simp at e
    · obtain ⟨e1, e2⟩ := List.append_inj' e rfl
      simp at e2
      subst e1; subst e2
      exact List.suffix_append_self_iff.2 (lsuf_max hy hz)
/-- the document's step -/
def autD (bans L : List (List Nat)) (i v : Nat) : Option Nat :=
  match L[i]? with
  | none => none
  | some x => if EndsB bans (x ++ [v]) then none else some (L.idxOf (lsuf L (x ++ [v])))
section
variable {bans L : List (List Nat)} (h : NodesD bans L)
include h
theorem stOf_atD (w : List Nat) : L[stOf L w]? = some (lsuf L w) := by
  have hm := lsuf_mem h.nil w
  have hl := List.idxOf_lt_length_of_mem hm
  unfold stOf
  rw [List.getElem?_eq_getElem hl, List.getElem_idxOf]
theorem stOf_nilD : stOf L [] = 0 := by
  obtain ⟨hl, he⟩ := List.getElem?_eq_some_iff.1 h.zero
  show L.idxOf [] = 0
  cases L with
  | nil => simp at hl
  | cons a t => simp at he; subst he; simp
theorem autD_step (w : List Nat) (v : Nat) : autD bans L (stOf L w) v = if EndsB bans (w ++ [v]) then none else some (stOf L (w ++ [v])) := by
  unfold autD
  rw [stOf_atD h w]
  simp only [ends_lsufD h, lsuf_step h.nil h.init]
  rfl
theorem run_autD : ∀ (u w : List Nat), AllowW bans w → run (autD bans L) (stOf L w) u = if AllowW bans (w ++ u) then some (stOf L (w ++ u)) else none
  | [], w, hw => by simp [run, hw]
  | v :: u, w, hw => by
    unfold run
    rw [autD_step h]
    by_cases c : EndsB bans (w ++ [v])
    · have : ¬ AllowW bans (w ++ v :: u) := fun ha => by
        rw [show w ++ v :: u = (w ++ [v]) ++ u by simp] at ha
        exact (allow_snoc.1 (allow_init ha)).2 c
      simp [c, this]
    · have ih := run_autD u (w ++ [v]) (allow_snoc.2 ⟨hw, c⟩)
      simp only [c, if_false, Option.bind_some]
      rw [ih]
      simp
end
theorem flat_congr {α β : Type} {l : List α} {f g : α → List β} (h : ∀ x ∈ l, f x = g x) : l.flatMap f = l.flatMap g := by
  rw [List.flatMap_def, List.flatMap_def, List.map_congr_left h]
theorem words_congr {δ δ' : Nat → Nat → Option Nat} {A : Nat} {nc : Nat → Nat → Nat} {fin : Nat → Bool} : ∀ {ms : List (Option Nat)} {st st' p : Nat}, (∀ u : List Nat, (∀ v ∈ u, v < A) → (run δ st u).isSome = (run δ' st' u).isSome) → words δ A nc fin ms st p = words δ' A nc fin ms st' p
  | [], _, _, _, _ => rfl
  | m :: ms, st, st', p, h => by
    rw [words_cons, words_cons]
    refine flat_congr fun v hv => ?_
    have hvA : v < A := List.mem_range.1 hv
    have e : stepW δ A nc fin m ms st p v = stepW δ' A nc fin m ms st' p v := by
      unfold stepW
      split
      · have h1 := h [v] (fun x hx => by simp at hx; omega)
        cases e1 : δ st v with
        | none =>
          cases e2 : δ' st' v with
          | none => rfl
          | some j => simp [run, e1, e2] at h1
        | some i =>
          cases e2 : δ' st' v with
          | none => simp [run, e1, e2] at h1
          | some j =>
            refine words_congr fun u hu => ?_
            have h2 := h (v :: u) (fun x hx => by
              rcases List.mem_cons.1 hx with rfl | hx
              · exact hvA
              · exact hu x hx)
            simpa [run, e1, e2] using h2
      · rfl
    rw [e]
/-- in how many ways it goes on by the document -/
def waysD (bans L : List (List Nat)) (A n i : Nat) : Nat := (words (autD bans L) A (fun _ _ => 0) (fun _ => true) (List.replicate n none) i 0).length
theorem waysD_zero (bans L : List (List Nat)) (A i : Nat) : waysD bans L A 0 i = 1 := rfl
/-- one term of the next row -/
def termD (bans L : List (List Nat)) (A n i c : Nat) : Nat := match autD bans L i c with | none => 0 | some j => waysD bans L A n j
theorem waysD_succ (bans L : List (List Nat)) (A n i : Nat) : waysD bans L A (n + 1) i = sumV (termD bans L A n i) A := by
  have h := cnt_cons (δ := autD bans L) (A := A) (nc := fun _ _ => 0) (fin := fun _ => true) none (List.replicate n none) i 0
  unfold waysD
  rw [List.replicate_succ]
  refine h.trans ?_
  congr 1
  funext v
  unfold stepW termD waysD fitsM
  cases autD bans L i v <;> rfl
end Gw
namespace Go.Proofs.Ytgblfobomiiofaa
open Go Go.RowKit Go.Shelf Gw Go.Maps

/-- the beginnings of banned strings, as the document finds them -/
def LD (s : Sch) : List (List Nat) := treeL ((bansS s).map List.dropLast)
def fD (s : Sch) : Nat → Nat → Option Nat := autD (bansS s) (LD s)
theorem nodesD {s : Sch} (h : WellF s) : NodesD (bansS s) (LD s) := by
  obtain ⟨h1, h2, -⟩ := foldB_tree ((bansS s).map List.dropLast) Tree.start
  refine ⟨h1.zero, h1.init, fun b hb => ?_, h1.dup⟩
  have hne := bans_ne h b hb
  refine ⟨b.dropLast, b.getLast hne, (List.dropLast_concat_getLast hne).symm, ?_⟩
  exact h2 _ (List.mem_map.2 ⟨b, hb, rfl⟩)
theorem bans_len {s : Sch} (h : WellF s) : ∀ b ∈ bansS s, 1 ≤ b.length ∧ b.length ≤ 8 ∧ ∀ v ∈ b, v < s.al.size := fun b hb => by
  obtain ⟨t, ht, rfl⟩ := List.mem_map.1 hb
  obtain ⟨k, hk, rfl⟩ := List.mem_iff_getElem.1 ht
  have h5 := h.2.2.2.1.2 k hk
  rw [wordN_len]
  exact ⟨h5.1, h5.2.1, fun v hv => wordN_lt h5.2.2 v hv⟩
theorem LD_vals {s : Sch} (h : WellF s) : Vals s.al.size (LD s) := treeL_vals fun b hb w hw => by
  obtain ⟨x, hx, rfl⟩ := List.mem_map.1 hb
  rw [List.dropLast_eq_take] at hw
  exact (bans_len h x hx).2.2 w (List.mem_of_mem_take hw)
theorem sumL_most {m : Nat} : ∀ {l : List (List Nat)}, (∀ b ∈ l, b.length ≤ m) → sumL l ≤ l.length * m
  | [], _ => by simp [sumL]
  | b :: l, h => by
    have h1 := h b (by simp)
    have h2 := sumL_most (l := l) (fun x hx => h x (by simp [hx]))
    simp only [sumL, List.length_cons, Nat.add_mul]
    omega
theorem LD_len {s : Sch} (h : WellF s) : (LD s).length ≤ 113 := by
  have h1 := treeL_len ((bansS s).map List.dropLast)
  have h2 := sumL_most (m := 7) (l := (bansS s).map List.dropLast) (fun b hb => by
    obtain ⟨x, hx, rfl⟩ := List.mem_map.1 hb
    have := (bans_len h x hx).2.1
    rw [List.length_dropLast]
    omega)
  have h3 : ((bansS s).map List.dropLast).length ≤ 16 := by
    rw [List.length_map]
    unfold bansS
    rw [List.length_map]
    exact h.2.2.2.1.1
  show (treeL ((bansS s).map List.dropLast)).length ≤ 113
  omega
theorem words_free {δ : Nat → Nat → Option Nat} {A : Nat} {nc nc' : Nat → Nat → Nat} : ∀ {ms : List (Option Nat)} {st p p' : Nat}, words δ A nc (fun _ => true) ms st p = words δ A nc' (fun _ => true) ms st p'
  | [], _, _, _ => rfl
  | m :: ms, st, p, p' => by
    rw [words_cons, words_cons]
    refine flat_congr fun v _ => ?_
    congr 1
    unfold stepW
    split
    · split
      · rfl
      · exact words_free
    · rfl
/-- the words from a place of the document -/
def wD (s : Sch) (n i : Nat) : List (List Nat) := words (fD s) s.al.size (fun _ _ => 0) (fun _ => true) (List.replicate n none) i 0
/-- the document's words are the program's -/
theorem wD_words {s : Sch} (h : WellF s) : wD s (nS s) 0 = wordsS s := by
  have hfr : (freeS s).take (nS s) = List.replicate (nS s) none := by
    unfold freeS
    rw [List.take_replicate, Nat.min_eq_left (le_szN _ _)]
  have hfin : finL s.al.size none = fun _ => true := by
    funext p
    unfold finL
    simp
  unfold wordsS wordsAt
  rw [List.drop_zero, hfr, hfin]
  unfold wD
  refine (words_congr (δ' := fS s) (st' := 0) fun u hu => ?_).trans words_free
  rw [allow_fS h hu]
  have h3 := run_autD (nodesD h) u [] (allow_nil (bans_ne h))
  rw [stOf_nilD (nodesD h), List.nil_append] at h3
  unfold fD
  rw [h3]
  by_cases c : AllowW (bansS s) u <;> simp [c]
theorem wD_zero (s : Sch) (i : Nat) : wD s 0 i = [[]] := rfl
/-- in how many ways it goes on -/
def wayD (s : Sch) (n i : Nat) : Nat := (wD s n i).length
def trmD (s : Sch) (n i c : Nat) : Nat := match fD s i c with | none => 0 | some j => wayD s n j
theorem wayD_succ (s : Sch) (n i : Nat) : wayD s (n + 1) i = sumV (trmD s n i) s.al.size := waysD_succ (bansS s) (LD s) s.al.size n i
theorem wayD_tot {s : Sch} (h : WellF s) : wayD s (nS s) 0 = totS s := by
  rw [totS_words, ← wD_words h]
  rfl
theorem stepW_trm (s : Sch) (n i c : Nat) : (stepW (fD s) s.al.size (fun _ _ => 0) (fun _ => true) none (List.replicate n none) i 0 c) = match fD s i c with | none => [] | some j => wD s n j := by
  unfold stepW wD fitsM
  cases fD s i c <;> rfl
theorem stepW_len_trm (s : Sch) (n i : Nat) : (fun c => (stepW (fD s) s.al.size (fun _ _ => 0) (fun _ => true) none (List.replicate n none) i 0 c).length) = trmD s n i := by
  funext c
  rw [stepW_trm]
  unfold trmD wayD
  cases fD s i c <;> rfl
/-- the place at which the n-th word goes on -/
theorem wD_pick {s : Sch} {n i c k j : Nat} (hc : c < s.al.size) (hj : fD s i c = some j) (hk : k < wayD s n j) {r : List Nat} (hr : (wD s n j)[k]? = some r) : (wD s (n + 1) i)[sumV (trmD s n i) c + k]? = some (c :: r) := by
  have hst : stepW (fD s) s.al.size (fun _ _ => 0) (fun _ => true) none (List.replicate n none) i 0 c = wD s n j := by rw [stepW_trm, hj]
  have h3 := pick_step (δ := fD s) (A := s.al.size) (nc := fun _ _ => 0) (fin := fun _ => true) none (List.replicate n none) i 0 (v := c) (k := k) hc (by rw [hst]; exact hk)
  rw [stepW_len_trm] at h3
  unfold wD
  rw [List.replicate_succ, h3]
  congr 2
  have h4 : ((stepW (fD s) s.al.size (fun _ _ => 0) (fun _ => true) none (List.replicate n none) i 0 c)[k]?) = some r := by rw [hst]; exact hr
  rw [List.getElem?_eq_getElem (by rw [hst]; exact hk)] at h4
  injection h4
theorem wD_bel {s : Sch} {n i c j : Nat} (hc : c < s.al.size) (hj : fD s i c = some j) (b : List Nat) : bel (wD s (n + 1) i) (c :: b) = sumV (trmD s n i) c + bel (wD s n j) b := by
  have h3 := bel_step (δ := fD s) (A := s.al.size) (nc := fun _ _ => 0) (fin := fun _ => true) none (List.replicate n none) i 0 hc b
  rw [stepW_len_trm, stepW_trm, hj] at h3
  unfold wD
  rw [List.replicate_succ]
  exact h3
theorem wayD_ge {s : Sch} {n i c j : Nat} (hc : c < s.al.size) (hj : fD s i c = some j) : wayD s n j ≤ wayD s (n + 1) i := by
  rw [wayD_succ]
  have h1 : sumV (trmD s n i) (c + 1) ≤ sumV (trmD s n i) s.al.size := sumV_mono _ hc
  have h2 : sumV (trmD s n i) (c + 1) = sumV (trmD s n i) c + wayD s n j := by
    show sumV (trmD s n i) c + trmD s n i c = _
    unfold trmD
    rw [hj]
  omega
theorem fD_lt {s : Sch} (h : WellF s) {i c j : Nat} (hj : fD s i c = some j) : j < (LD s).length := by
  unfold fD autD at hj
  split at hj
  · cases hj
  · split at hj
    · cases hj
    · injection hj with hj
      rw [← hj]
      exact List.idxOf_lt_length_of_mem (lsuf_mem (nodesD h).nil _)
/-- what the document keeps at a place, at most one more than the limit -/
def capD (n : Nat) : Nat := min n tooM
theorem cap_add (a b : Nat) : min (capD a + capD b) tooM = capD (a + b) := by unfold capD; omega
end Go.Proofs.Ytgblfobomiiofaa
namespace Go.Proofs.Ytgblfobomiiofaa
open Go Go.RowKit Go.Shelf Gw Go.Maps

theorem word_inj {al x y : ByteArray} (hx : OfA x al) (hy : OfA y al) (h : wordN al x = wordN al y) : x = y := bys_inj (by rw [← signs_word hx, ← signs_word hy, h])
theorem idx_first {l : List (List Nat)} {a : List Nat} {i : Nat} (h : l[i]? = some a) (hn : ∀ j, j < i → l[j]? ≠ some a) : l.idxOf a = i := by
  induction l generalizing i with
  | nil => simp at h
  | cons b l ih =>
    cases i with
    | zero =>
      simp at h
      subst h
      simp
    | succ i =>
      have hb : b ≠ a := fun e => hn 0 (by omega) (by simp [e])
      rw [List.idxOf_cons, beq_eq_false_iff_ne.2 hb]
      simp only [cond_false]
      rw [ih (i := i) (by simpa using h) (fun j hj => by simpa using hn (j + 1) (by omega))]
/-- where a word lies among the beginnings, or -1 -/
def plD (L : List (List Nat)) (x : List Nat) : Int := if x ∈ L then ((L.idxOf x : Nat) : Int) else -1
/-- a box of three cells -/
structure BxR (X : Nat) (a b c : Value) (w : World) : Prop where
  c0 : w.cell? ⟨X, 0, none⟩ = some a
  c1 : w.cell? ⟨X, 1, none⟩ = some b
  c2 : w.cell? ⟨X, 2, none⟩ = some c
theorem BxR.lt {X : Nat} {a b c : Value} {w : World} (h : BxR X a b c w) : X < w.heap.size := World.block_lt_of_cell? _ _ h.c0
theorem BxR.below {X : Nat} {a b c : Value} {w w' : World} (h : BxR X a b c w) (hb : Below w.heap.size w w') : BxR X a b c w' :=
  ⟨(hb.cell (p := ⟨X, 0, none⟩) h.lt).trans h.c0, (hb.cell (p := ⟨X, 1, none⟩) h.lt).trans h.c1, (hb.cell (p := ⟨X, 2, none⟩) h.lt).trans h.c2⟩
theorem BxR.new (W : World) (a b c : Value) (t : TypeId) : BxR W.heap.size a b c (W.alloc (.cells #[a, b, c] t)) :=
  ⟨World.cell?_alloc_at _ _ _ _ rfl, World.cell?_alloc_at _ _ _ _ rfl, World.cell?_alloc_at _ _ _ _ rfl⟩
/-- the beginnings as strings -/
structure BegL (al : ByteArray) (BL : List ByteArray) (L : List (List Nat)) : Prop where
  words : BL.map (wordN al) = L
  of : ∀ t ∈ BL, OfA t al
theorem BegL.at' {al : ByteArray} {BL : List ByteArray} {L : List (List Nat)} (h : BegL al BL L) {i : Nat} (hi : i < BL.length) : L[i]? = some (wordN al BL[i]) := by
  rw [← h.words, List.getElem?_map, List.getElem?_eq_getElem hi]
  rfl
theorem BegL.ne {al x : ByteArray} {BL : List ByteArray} {L : List (List Nat)} (h : BegL al BL L) (hx : OfA x al) {i : Nat} (hi : i < BL.length) (hn : BL[i] ≠ x) : L[i]? ≠ some (wordN al x) := by
  rw [h.at' hi]
  intro e
  injection e with e
  exact hn (word_inj (h.of _ (List.getElem_mem hi)) hx e)
theorem BegL.len {al : ByteArray} {BL : List ByteArray} {L : List (List Nat)} (h : BegL al BL L) : L.length = BL.length := by rw [← h.words, List.length_map]
set_option maxRecDepth 100000 in
set_option maxHeartbeats 2000000 in
theorem place_any {al x : ByteArray} {BL : List ByteArray} {L : List (List Nat)} {vb vn vy : Value} {w : World} (hv : IsSs w vb BL) (hB : BegL al BL L) (hx : OfA x al) (hl : BL.length ≤ 1000) :
    Calls Try.prog 61 #[.agg #[vb, vn, vy], .string x] w fun e w' => e = .returned (.int .i64 (plD L (wordN al x))) ∧ Hid (Below w.heap.size w w') := by
  obtain ⟨w1, hw1⟩ : ∃ w1, w1 = w.alloc (.cells #[vb, vn, vy] 30) := ⟨_, rfl⟩
  have hb1 : Below w.heap.size w w1 := by rw [hw1]; exact below_al _ _
  have H3 : Hid (BxR w.heap.size vb vn vy w1) := by rw [hw1]; exact BxR.new _ _ _ _ _
  have HV := Lib.hid (hv.below hb1)
  have HB1 := Lib.hid hb1
  have HW1 := Lib.hid hw1
  obtain ⟨bo, bc, rfl, -⟩ := hv
  clear hw1 hb1
  obtain ⟨m, hm⟩ : ∃ m, m = BL.length := ⟨_, rfl⟩
  rw [← hm] at HV HW1 H3 hl ⊢
  obtain ⟨R, hR⟩ : ∃ R, R = plD L (wordN al x) := ⟨_, rfl⟩
  rw [← hR]
  have HM := Lib.hid hm
  have HR := Lib.hid hR
  have HBG := Lib.hid hB
  have HX := Lib.hid hx
  clear hm hR hB hx
  have k0 := H3.out.c0; have k1 := H3.out.c1; have k2 := H3.out.c2
  go_enter Try.func61, Try.ntmps61
  go_upto_region 1 with fail
  rw [← HW1.out]
  go_wp2_with fail
  go_loopw [5] (fun s5 wr => ∃ i : Nat, i ≤ m ∧ s5 = .int .i64 i ∧ Hid (w1 = wr) ∧ Hid (∀ j (h : j < BL.length), j < i → BL[j] ≠ x)) (fun s5 _ => m - (intOf s5).toNat)
  case atStart => exact ⟨0, Nat.zero_le _, rfl, rfl, fun j _ h => by omega⟩
  case round =>
    obtain ⟨i, hi, rfl, HWR, HA⟩ := hrel
    obtain rfl := HWR.out
    by_cases q : i < m
    · have q1 : (i : Int) < m := by omega
      obtain ⟨i1, hi1⟩ : ∃ i1, i1 = i + 1 := ⟨_, rfl⟩
      have hw : IntKind.i64.wrap ((i : Int) + 1) = (i1 : Int) := by rw [IntWalk.i64_in _ (by omega)]; omega
      have hib : i < BL.length := by rw [← HM.out]; exact q
      obtain ⟨B, o, rfl, d0⟩ := HV.out.at' hib
      obtain ⟨b, hbb⟩ : ∃ b, b = BL[i] := ⟨_, rfl⟩
      rw [← hbb] at d0
      have HBE := Lib.hid hbb
      clear hbb
      by_cases c : b = x
      · subst c
        obtain rfl : R = (i : Int) := by
          rw [HR.out]
          have hat := HBG.out.at' hib
          rw [← HBE.out] at hat
          have hfi := idx_first hat (fun j hj => HBG.out.ne HX.out (by omega) (HA.out j (by omega) hj))
          unfold plD
          rw [if_pos (List.mem_of_getElem? hat), hfi]
        go_wp2_with fail
        go_ret
        exact ⟨rfl, HB1⟩
      · have hc2 := btl_ne c
        have HN2 : Hid (∀ j (h : j < BL.length), j < i1 → BL[j] ≠ x) := fun j hj hji => by
          rcases Nat.lt_succ_iff_lt_or_eq.1 (show j < i + 1 by omega) with h | h
          · exact HA.out j hj h
          · subst h
            rw [← HBE.out]; exact c
        have him : m - i1 < m - i := by omega
        have hil : i1 ≤ m := by omega
        clear hi1
        go_wp2_with fail
        go_roundw
        case rel => exact ⟨i1, hil, by go_num, (by first | exact rfl | exact Lib.hid trivial), HN2⟩
        case measure => simp [intOf]; omega
    · obtain rfl : i = m := by omega
      have q1 : ¬ (i : Int) < i := by omega
      obtain rfl : R = -1 := by
        rw [HR.out]
        unfold plD
        rw [if_neg]
        intro hm
        obtain ⟨j, hj, e⟩ := List.mem_iff_getElem.1 hm
        have hjb : j < BL.length := by rw [← HBG.out.len]; exact hj
        exact HBG.out.ne HX.out hjb (HA.out j hjb (by rw [HM.out]; exact hjb)) (by rw [List.getElem?_eq_getElem hj, e])
      go_wp2_with fail
      go_ret
      exact ⟨rfl, HB1⟩
/-- what step answers -/
def stD (bans L : List (List Nat)) (x : List Nat) : Int := if EndsB bans x then -1 else ((L.idxOf (lsuf L x) : Nat) : Int)
theorem lsuf_skip {L : List (List Nat)} : ∀ {x : List Nat} {k : Nat}, k ≤ x.length → (∀ j, j < k → x.drop j ∉ L) → lsuf L x = lsuf L (x.drop k)
  | _, 0, _, _ => by rw [List.drop_zero]
  | [], k + 1, h, _ => by simp at h
  | a :: x, k + 1, h, hn => by
    have h0 : a :: x ∉ L := hn 0 (by omega)
    have e : lsuf L (a :: x) = lsuf L x := by
      conv => lhs; unfold lsuf
      rw [if_neg h0]
    rw [e, List.drop_succ_cons]
    exact lsuf_skip (by simpa using h) (fun j hj => hn (j + 1) (by omega))
theorem lsuf_self {L : List (List Nat)} {x : List Nat} (h : x ∈ L) : lsuf L x = x := by
  cases x with
  | nil => rfl
  | cons a x => unfold lsuf; rw [if_pos h]
theorem word_drop (al x : ByteArray) (k : Nat) : wordN al (x.extract k x.size) = (wordN al x).drop k := by
  unfold wordN
  rw [bys_extract, ← bys_len x, List.take_length, List.map_drop]
theorem of_extract {al x : ByteArray} (h : OfA x al) (i j : Nat) : OfA (x.extract i j) al := fun b hb => by
  rw [bys_extract] at hb
  exact h b (List.mem_of_mem_take (List.mem_of_mem_drop hb))
theorem ends_at {al x b : ByteArray} (hx : OfA x al) (hb : OfA b al) : wordN al b <:+ wordN al x ↔ b.size ≤ x.size ∧ x.extract (x.size - b.size) x.size = b := by
  constructor
  · intro h
    have hl := h.length_le
    rw [wordN_len, wordN_len] at hl
    have h2 := List.suffix_iff_eq_drop.1 h
    rw [wordN_len, wordN_len, ← word_drop] at h2
    exact ⟨hl, (word_inj hb (of_extract hx _ _) h2).symm⟩
  · rintro ⟨h1, h2⟩
    rw [List.suffix_iff_eq_drop, wordN_len, wordN_len, ← word_drop, h2]
set_option maxRecDepth 100000 in
set_option maxHeartbeats 4000000 in
theorem stepD_any {s : Sch} {x : ByteArray} {BL : List ByteArray} {L : List (List Nat)} {vb vn vy bv : Value} {w : World} (hW : WellF s) (hs : IsSs w bv s.bl) (hv : IsSs w vb BL) (hB : BegL s.al BL L) (h0 : L[0]? = some []) (hx : OfA x s.al) (hl : BL.length ≤ 1000) (hxl : x.size ≤ 1000) :
    Calls Try.prog 62 #[.agg #[vb, vn, vy], schV s bv, .string x] w fun e w' => e = .returned (.int .i64 (stD (bansS s) L (wordN s.al x))) ∧ Hid (Below w.heap.size w w') := by
  obtain ⟨w0, hw0⟩ : ∃ w0, w0 = w.alloc (.cells #[vb, vn, vy] 30) := ⟨_, rfl⟩
  have hb0 : Below w.heap.size w w0 := by rw [hw0]; exact below_al _ _
  have h30 : BxR w.heap.size vb vn vy w0 := by rw [hw0]; exact BxR.new _ _ _ _ _
  obtain ⟨w1, hw1⟩ : ∃ w1, w1 = w0.alloc (.cells #[.string s.al, .int .i64 s.len, bv, .bool s.ck] 24) := ⟨_, rfl⟩
  have hb01 : Below w0.heap.size w0 w1 := by rw [hw1]; exact below_al _ _
  have H4 : Hid (B4 w0.heap.size (.string s.al) (.int .i64 s.len) bv (.bool s.ck) w1) := by rw [hw1]; exact B4.new _ _ _ _ _ _
  have H3 := Lib.hid (h30.below hb01)
  have hb1 : Below w.heap.size w w1 := hb0.trans (hb01.mono hb0.size)
  have HV := Lib.hid (hv.below hb1)
  have HS := Lib.hid (hs.below hb1)
  have HB1 := Lib.hid hb1
  obtain ⟨Y, hY⟩ : ∃ Y, Y = w0.heap.size := ⟨_, rfl⟩
  have hYe : w.heap.size + 1 = Y := by rw [hY, hw0, World.size_alloc]
  rw [← hY] at H4
  rw [hw0] at hw1
  have HW1 := Lib.hid hw1
  have HYE := Lib.hid hYe
  have hbs : ∀ b ∈ s.bl, b.size ≤ 1000 ∧ OfA b s.al := fun b hb => by
    obtain ⟨k, hk, rfl⟩ := List.mem_iff_getElem.1 hb
    have h5 := hW.2.2.2.1.2 k hk
    exact ⟨by have := h5.2.1; omega, h5.2.2⟩
  have hbl : s.bl.length ≤ 16 := hW.2.2.2.1.1
  clear hb0 h30 hb01 hb1 hw0 hY hw1 hYe hv
  obtain ⟨al, len, bl, ck⟩ := s
  unfold schV
  dsimp only at *
  have hE : bansS ⟨al, len, bl, ck⟩ = bl.map (wordN al) := rfl
  rw [hE]
  obtain ⟨bo, bc, rfl, -⟩ := hs
  obtain ⟨R, hR⟩ : ∃ R, R = stD (bl.map (wordN al)) L (wordN al x) := ⟨_, rfl⟩
  rw [← hR]
  obtain ⟨m, hm⟩ : ∃ m, m = bl.length := ⟨_, rfl⟩
  rw [← hm] at H4 HS HW1 hbl ⊢
  have HR := Lib.hid hR
  have HM := Lib.hid hm
  have HBG := Lib.hid hB
  have HX := Lib.hid hx
  have HBS := Lib.hid hbs
  have H00 := Lib.hid h0
  clear hR hm hB hx hbs hW hE h0
  have k2 := H4.out.c2
  have j0 := H3.out.c0; have j1 := H3.out.c1; have j2 := H3.out.c2
  go_enter Try.func62, Try.ntmps62
  go_upto_region 1 with fail
  rw [← HW1.out, HYE.out]
  go_wp2_with fail
  go_loopw [7] (fun s7 wr => ∃ i : Nat, i ≤ m ∧ s7 = .int .i64 i ∧ Hid (w1 = wr) ∧ Hid (∀ j (h : j < bl.length), j < i → ¬ wordN al bl[j] <:+ wordN al x)) (fun s7 _ => m - (intOf s7).toNat)
  case atStart => exact ⟨0, Nat.zero_le _, rfl, rfl, fun j _ h => by omega⟩
  case round =>
    obtain ⟨i, hi, rfl, HWR, HA⟩ := hrel
    obtain rfl := HWR.out
    by_cases q : i < m
    · have q1 : (i : Int) < m := by omega
      obtain ⟨i1, hi1⟩ : ∃ i1, i1 = i + 1 := ⟨_, rfl⟩
      have hw : IntKind.i64.wrap ((i : Int) + 1) = (i1 : Int) := by rw [IntWalk.i64_in _ (by omega)]; omega
      have hib : i < bl.length := by rw [← HM.out]; exact q
      obtain ⟨B, o, rfl, d0⟩ := HS.out.at' hib
      obtain ⟨b, hbb⟩ : ∃ b, b = bl[i] := ⟨_, rfl⟩
      rw [← hbb] at d0
      obtain ⟨hb1, hbO⟩ := HBS.out bl[i] (List.getElem_mem _)
      rw [← hbb] at hb1 hbO
      have HN : ¬ wordN al b <:+ wordN al x → Hid (∀ j (h : j < bl.length), j < i1 → ¬ wordN al bl[j] <:+ wordN al x) := fun hn j hj hji => by
        rcases Nat.lt_succ_iff_lt_or_eq.1 (show j < i + 1 by omega) with h | h
        · exact HA.out j hj h
        · subst h
          rw [← hbb]; exact hn
      have him : m - i1 < m - i := by omega
      have hil : i1 ≤ m := by omega
      have HBE := Lib.hid hbb
      have HEA := Lib.hid (ends_at HX.out hbO)
      clear hi1 hbb hbO
      by_cases c : b.size ≤ x.size
      · have c1 : (b.size : Int) ≤ (x.size : Int) := by omega
        obtain ⟨d, hd⟩ : ∃ d, d = x.size - b.size := ⟨_, rfl⟩
        have hwd : IntKind.i64.wrap ((x.size : Int) - (b.size : Int)) = (d : Int) := by rw [IntWalk.i64_in _ (by omega)]; omega
        obtain ⟨Z, hZ⟩ : ∃ Z, Z = x.extract d x.size := ⟨_, rfl⟩
        have hsl : ∀ W, (Instr.slice 9 (.string x) (some (.int .i64 (d : Int))) none none).run Try.prog W = .ok (.string Z) W := fun W => by rw [slice_from (by omega) W, hZ]
        have HZ : Hid (wordN al b <:+ wordN al x ↔ Z = b) := by
          show _ ↔ _
          rw [HEA.out, ← hd, ← hZ]
          exact ⟨fun h => h.2, fun h => ⟨c, h⟩⟩
        clear hd hZ
        by_cases cz : Z = b
        · subst cz
          obtain rfl : R = -1 := by
            rw [HR.out]
            unfold stD
            rw [if_pos ⟨wordN al Z, List.mem_map.2 ⟨Z, by rw [HBE.out]; exact List.getElem_mem hib, rfl⟩, HZ.out.2 rfl⟩]
          go_wp2_with fail
          go_ret
          exact ⟨rfl, HB1⟩
        · have hc2 := btl_ne cz
          have HN2 := HN (fun h => cz (HZ.out.1 h))
          clear HN
          go_wp2_with fail
          go_roundw
          case rel => exact ⟨i1, hil, by go_num, (by first | exact rfl | exact Lib.hid trivial), HN2⟩
          case measure => simp [intOf]; omega
      · have c1 : ¬ (b.size : Int) ≤ (x.size : Int) := by omega
        have HN2 := HN (fun h => c (HEA.out.1 h).1)
        clear HN
        go_wp2_with fail
        go_roundw
        case rel => exact ⟨i1, hil, by go_num, (by first | exact rfl | exact Lib.hid trivial), HN2⟩
        case measure => simp [intOf]; omega
    · obtain rfl : i = m := by omega
      have q1 : ¬ (i : Int) < i := by omega
      have hne : ¬ EndsB (bl.map (wordN al)) (wordN al x) := by
        rintro ⟨y, hy, hs⟩
        obtain ⟨b, hb, rfl⟩ := List.mem_map.1 hy
        obtain ⟨j, hj, rfl⟩ := List.mem_iff_getElem.1 hb
        exact HA.out j hj (by rw [HM.out]; exact hj) hs
      have hRL : R = ((L.idxOf (lsuf L (wordN al x)) : Nat) : Int) := by
        rw [HR.out]
        unfold stD
        rw [if_neg hne]
      have HRL := Lib.hid hRL
      clear hne hRL HA
      go_wp2_with fail
      go_loopw [9] (fun s9 wr2 => ∃ k : Nat, k ≤ x.size ∧ s9 = .int .i64 k ∧ Hid (BxR w.heap.size vb vn vy wr2) ∧ Hid (IsSs wr2 vb BL) ∧ Hid (Below w.heap.size w wr2) ∧ Hid (∀ j, j < k → (wordN al x).drop j ∉ L)) (fun s9 _ => x.size - (intOf s9).toNat)
      case atStart => exact ⟨0, Nat.zero_le _, rfl, H3, HV, HB1, fun j h => by omega⟩
      case round =>
        obtain ⟨k, hk, rfl, H3R, HVR, HBR, HK⟩ := hrel
        have r0 := H3R.out.c0; have r1 := H3R.out.c1; have r2 := H3R.out.c2
        by_cases p : k < x.size
        · have p1 : (k : Int) < (x.size : Int) := by omega
          obtain ⟨k1, hk1⟩ : ∃ k1, k1 = k + 1 := ⟨_, rfl⟩
          have hwk : IntKind.i64.wrap ((k : Int) + 1) = (k1 : Int) := by rw [IntWalk.i64_in _ (by omega)]; omega
          obtain ⟨Z, hZ⟩ : ∃ Z, Z = x.extract k x.size := ⟨_, rfl⟩
          have hsl : ∀ W, (Instr.slice 9 (.string x) (some (.int .i64 (k : Int))) none none).run Try.prog W = .ok (.string Z) W := fun W => by rw [slice_from (by omega) W, hZ]
          have hZO : OfA Z al := by rw [hZ]; exact of_extract HX.out _ _
          obtain ⟨pz, hpz⟩ : ∃ pz, pz = plD L ((wordN al x).drop k) := ⟨_, rfl⟩
          have HPL : Hid (Calls Try.prog 61 #[.agg #[vb, vn, vy], .string Z] wr.drew fun e w' => e = .returned (.int .i64 pz) ∧ Hid (Below wr.drew.heap.size wr.drew w')) := by
            have h5 := place_any (vn := vn) (vy := vy) (HVR.out.below (below_dr wr 1)) HBG.out hZO hl
            rw [hZ, word_drop, ← hpz] at h5
            rw [hZ]
            exact h5
          have HPZ := Lib.hid hpz
          have HK1 := Lib.hid hk1
          have hkm : x.size - k1 < x.size - k := by omega
          have hkl : k1 ≤ x.size := by omega
          clear hZ hZO hpz hk1
          go_upto_region 10 with fail
          go_cut [10] from 45 to 49 (fun s10 wz => s10 = .int .i64 pz ∧ Hid (Below wr.heap.size wr wz))
          case first =>
            clear k2 j0 j1 j2
            go_region_with (first
              | (go_at_call 61; (with_reducible refine HPL.out.mono ?_); rintro e wb ⟨rfl, HBq⟩)
              | fail)
            all_goals go_wp2_with fail
            all_goals go_meet
            all_goals exact ⟨rfl, (below_dr wr 1).trans HBq.out⟩
          case rest =>
            obtain ⟨rfl, HBc⟩ := hcut
            have HBS2 := Lib.hid (HBR.out.trans (HBc.out.mono HBR.out.size))
            have H3S := Lib.hid (H3R.out.below HBc.out)
            have HVS := Lib.hid (HVR.out.below HBc.out)
            apply_assumption
            have hkw : k ≤ (wordN al x).length := by rw [wordN_len]; omega
            by_cases hmem : (wordN al x).drop k ∈ L
            · have hz0 : pz = R := by
                rw [HPZ.out, HRL.out, lsuf_skip hkw HK.out, lsuf_self hmem]
                unfold plD
                rw [if_pos hmem]
              have hge : R ≥ 0 := by rw [HRL.out]; omega
              subst hz0
              go_wp2_with fail
              go_ret
              exact ⟨rfl, HBS2⟩
            · have hz0 : pz = -1 := by
                rw [HPZ.out]
                unfold plD
                rw [if_neg hmem]
              have HK2 : Hid (∀ j, j < k1 → (wordN al x).drop j ∉ L) := fun j hj => by
                rcases Nat.lt_succ_iff_lt_or_eq.1 (show j < k + 1 by rw [← HK1.out]; exact hj) with h | h
                · exact HK.out j h
                · subst h; exact hmem
              subst hz0
              have hneg : ¬ (-1 : Int) ≥ 0 := by omega
              clear hmem hkw
              go_wp2_with fail
              go_roundw
              case rel => exact ⟨k1, hkl, by go_num, H3S, HVS, HBS2, HK2⟩
              case measure => simp [intOf]; omega
        · obtain rfl : k = x.size := by omega
          have p1 : ¬ (x.size : Int) < (x.size : Int) := by omega
          obtain rfl : R = 0 := by
            rw [HRL.out, lsuf_skip (k := x.size) (by rw [wordN_len]; exact Nat.le_refl _) HK.out]
            have e : (wordN al x).drop x.size = [] := List.drop_eq_nil_of_le (by rw [wordN_len]; exact Nat.le_refl _)
            rw [e]
            have h6 := idx_first H00.out (fun j hj => by omega)
            show ((L.idxOf [] : Nat) : Int) = 0
            rw [h6]
            rfl
          go_wp2_with fail
          go_ret
          exact ⟨rfl, HBR⟩
end Go.Proofs.Ytgblfobomiiofaa
namespace Go.Proofs.Ytgblfobomiiofaa
open Go Go.RowKit Go.Shelf Gw Go.Maps

/-- where a place goes on, as the document writes it -/
def nxD (s : Sch) (i c : Nat) : Int := match fD s i c with | none => -1 | some j => (j : Int)
def nextRow (s : Sch) (i : Nat) : List Int := (List.range s.al.size).map (nxD s i)
def nextR (s : Sch) : List (List Int) := (List.range (LD s).length).map (nextRow s)
def wayRow (s : Sch) (n : Nat) : List Int := (List.range (LD s).length).map fun i => ((capD (wayD s n i) : Nat) : Int)
def wayR (s : Sch) (k : Nat) : List (List Int) := (List.range k).map (wayRow s)
theorem nextRow_len (s : Sch) (i : Nat) : (nextRow s i).length = s.al.size := by simp [nextRow]
theorem nextR_len (s : Sch) : (nextR s).length = (LD s).length := by simp [nextR]
theorem wayRow_len (s : Sch) (n : Nat) : (wayRow s n).length = (LD s).length := by simp [wayRow]
theorem wayR_len (s : Sch) (k : Nat) : (wayR s k).length = k := by simp [wayR]
theorem wayR_succ (s : Sch) (k : Nat) : wayR s (k + 1) = wayR s k ++ [wayRow s k] := by
  unfold wayR
  rw [List.range_succ, List.map_append]
  rfl
theorem nextR_take (s : Sch) {i : Nat} (hi : i < (LD s).length) : (nextR s).take (i + 1) = (nextR s).take i ++ [nextRow s i] := by
  have h : i < (nextR s).length := by rw [nextR_len]; exact hi
  rw [List.take_succ_eq_append_getElem h]
  simp [nextR]
/-- a slice of slices of ints in memory, apart from some blocks -/
def SlzA (X : List Nat) (W : World) (v : Value) (rows : List (List Int)) : Prop :=
  ∃ ao c, v = .slice ao rows.length c ∧ (∀ x ∈ X, v.ownBlock ≠ some x) ∧ ∀ i (hi : i < rows.length), ∃ B o bv, ao = some ⟨B, o, none⟩ ∧ W.cell? ⟨B, o + i, none⟩ = some bv ∧ IsIs W bv rows[i] ∧ ∀ x ∈ X, bv.ownBlock ≠ some x
theorem SlzA.kept {X : List Nat} {T : Nat} {W W' : World} {v : Value} {rows : List (List Int)} (h : SlzA X W v rows) (hg : W.grownBy W' (some T)) (hT : T ∈ X) : SlzA X W' v rows := by
  obtain ⟨ao, c, rfl, hn, h⟩ := h
  refine ⟨ao, c, rfl, hn, fun i hi => ?_⟩
  obtain ⟨B, o, bv, rfl, hc, hI, hb⟩ := h i hi
  exact ⟨B, o, bv, rfl, hg.cell hc (hn T hT), hI.kept hg (hb T hT), hb⟩
theorem SlzA.below {X : List Nat} {W W' : World} {v : Value} {rows : List (List Int)} (h : SlzA X W v rows) (hb : Below W.heap.size W W') : SlzA X W' v rows := by
  obtain ⟨ao, c, rfl, hn, h⟩ := h
  refine ⟨ao, c, rfl, hn, fun i hi => ?_⟩
  obtain ⟨B, o, bv, rfl, hc, hI, hb2⟩ := h i hi
  exact ⟨B, o, bv, rfl, (hb.cell (p := ⟨B, o + i, none⟩) (World.block_lt_of_cell? _ _ hc)).trans hc, hI.below hb, hb2⟩
theorem SlzA.at' {X : List Nat} {W : World} {a : Option Addr} {n c : Nat} {rows : List (List Int)} (h : SlzA X W (.slice a n c) rows) {i : Nat} (hi : i < rows.length) : ∃ B o bv, a = some ⟨B, o, none⟩ ∧ W.cell? ⟨B, o + i, none⟩ = some bv ∧ IsIs W bv rows[i] := by
  obtain ⟨a', c', hv, _, hcs⟩ := h
  injection hv with hv1 hv2 hv3
  subst hv1
  obtain ⟨B, o, bv, h1, h2, h3, _⟩ := hcs i hi
  exact ⟨B, o, bv, h1, h2, h3⟩
theorem IsSs.kept {W W' : World} {v : Value} {l : List ByteArray} {row : Option Nat} (h : IsSs W v l) (hg : W.grownBy W' row) (hne : v.ownBlock ≠ row) : IsSs W' v l := by
  obtain ⟨ao, c, rfl, h⟩ := h
  refine ⟨ao, c, rfl, fun hp => ?_⟩
  obtain ⟨B, o, e, hB, hc⟩ := h hp
  subst e
  exact ⟨B, o, rfl, Nat.lt_of_lt_of_le hB hg.size, fun j hj => hg.cell (hc j hj) hne⟩
theorem IsSs.of_row {W : World} {base : Nat} {v : Value} {l : List ByteArray} (h : W.ownsRow base 9 1 v l.length (l.map .string)) : IsSs W v l := isSs_of_row h
theorem grownBy_none {w w' : World} (hb : Below w.heap.size w w') (row : Option Nat) : w.grownBy w' row := ⟨hb.os, hb.tape, hb.output, hb.size, fun k hk _ => hb.block k hk⟩
theorem grownBy_trans {a b c : World} {row : Option Nat} (h : a.grownBy b row) (h2 : b.grownBy c row) : a.grownBy c row :=
  ⟨h2.os.trans h.os, h2.tape.trans h.tape, h2.output.trans h.output, Nat.le_trans h.size h2.size, fun k hk hne => (h2.block k (Nat.lt_of_lt_of_le hk h.size) hne).trans (h.block k hk hne)⟩
/-- what grows only in blocks from B on, and in one more -/
theorem grownBy_far {a b c : World} {T g : Nat} (h : a.grownBy b (some T)) (h2 : b.grownBy c (some g)) (hg : a.heap.size ≤ g) : a.grownBy c (some T) :=
  ⟨h2.os.trans h.os, h2.tape.trans h.tape, h2.output.trans h.output, Nat.le_trans h.size h2.size, fun k hk hne => (h2.block k (Nat.lt_of_lt_of_le hk h.size) (fun e => by injection e with e; omega)).trans (h.block k hk hne)⟩
/-- a row of rows of ints of the call's own, apart from some blocks -/
def RowZ (base : Nat) (X : List Nat) (v : Value) (rows : List (List Int)) (vals : List Value) (w : World) : Prop :=
  w.ownsRow base 67 1 v rows.length vals ∧ (∀ x ∈ X, v.ownBlock ≠ some x ∧ x < w.heap.size) ∧ ∀ j (_ : j < rows.length), ∃ a, vals[j]? = some a ∧ IsIs w a rows[j] ∧ ∀ g, a.ownBlock = some g → v.ownBlock ≠ some g ∧ g < w.heap.size ∧ g ∉ X
section
variable {base : Nat} {X : List Nat} {v : Value} {rows : List (List Int)} {vals : List Value} {w : World}
theorem RowZ.nil (base : Nat) (X : List Nat) (w : World) (h : ∀ x ∈ X, x < w.heap.size) : RowZ base X (.slice none 0 0) [] [] w := ⟨World.ownsRow_nil _ _ _ _, fun x hx => ⟨by simp [Value.ownBlock], h x hx⟩, fun j h => by simp at h⟩
theorem RowZ.kept (h : RowZ base X v rows vals w) {w' : World} {row : Option Nat} (hg : w.grownBy w' row) (hr : ∀ x, row = some x → x ∈ X) : RowZ base X v rows vals w' := by
  have hne : v.ownBlock = none ∨ v.ownBlock ≠ row := by
    cases row with
    | none =>
      cases hv : v.ownBlock with
      | none => exact .inl rfl
      | some g => exact .inr (by simp)
    | some x => exact .inr (h.2.1 x (hr x rfl)).1
  refine ⟨h.1.kept hg hne, fun x hx => ⟨(h.2.1 x hx).1, Nat.lt_of_lt_of_le (h.2.1 x hx).2 hg.size⟩, fun j hj => ?_⟩
  obtain ⟨a, h1, h2, h3⟩ := h.2.2 j hj
  have hne2 : a.ownBlock ≠ row ∨ row = none := by
    cases row with
    | none => exact .inr rfl
    | some x => exact .inl fun e => (h3 x e).2.2 (hr x rfl)
  refine ⟨a, h1, ?_, fun g hg' => ⟨(h3 g hg').1, Nat.lt_of_lt_of_le (h3 g hg').2.1 hg.size, (h3 g hg').2.2⟩⟩
  obtain ⟨ao, c, rfl, hi⟩ := h2
  refine ⟨ao, c, rfl, fun hp => ?_⟩
  obtain ⟨B, o, e, hB, hc⟩ := hi hp
  subst e
  refine ⟨B, o, rfl, Nat.lt_of_lt_of_le hB hg.size, fun j hj => hg.cell (hc j hj) ?_⟩
  rcases hne2 with h4 | h4
  · exact h4
  · rw [h4]; simp
theorem RowZ.below (h : RowZ base X v rows vals w) {w' : World} (hb : Below w.heap.size w w') : RowZ base X v rows vals w' := h.kept (grownBy_none hb none) (fun x e => by cases e)
theorem RowZ.push (h : RowZ base X v rows vals w) {a2 v' : Value} {r : List Int} {w8 : World} {o : Obj} (ha : IsIs w a2 r) (hne : ∀ g, a2.ownBlock = some g → v.ownBlock ≠ some g ∧ g < w.heap.size ∧ g ∉ X)
    (hown : w8.ownsRow base 67 1 v' (rows.length + 1) (vals ++ [a2])) (hg : (w.alloc o).grownBy w8 v.ownBlock) (hat : v'.ownBlock = v.ownBlock ∨ v'.ownBlock = some (w.alloc o).heap.size) : RowZ base X v' (rows ++ [r]) (vals ++ [a2]) w8 := by
  have hlen : vals.length = rows.length := by have := h.1.1; omega
  have hsA : (w.alloc o).heap.size = w.heap.size + 1 := World.size_alloc _ _
  have hvn : ∀ x, v.ownBlock ≠ some x → x < w.heap.size → v'.ownBlock ≠ some x := fun x h1 h2 e => by
    rcases hat with c | c
    · exact h1 (c.symm.trans e)
    · have e2 := c.symm.trans e
      injection e2 with e2
      omega
  have fin : ∀ {a : Value} {l : List Int}, IsIs w a l → (∀ g, a.ownBlock = some g → v.ownBlock ≠ some g ∧ g < w.heap.size ∧ g ∉ X) → IsIs w8 a l ∧ ∀ g, a.ownBlock = some g → v'.ownBlock ≠ some g ∧ g < w8.heap.size ∧ g ∉ X := by
    intro a l hl hn
    refine ⟨(hl.below (below_al w o)).kept2 hg (fun g hg e => (hn g hg).1 e.symm), fun g hga => ⟨hvn g (hn g hga).1 (hn g hga).2.1, ?_, (hn g hga).2.2⟩⟩
    have h5 := hg.size
    have h6 := (hn g hga).2.1
    omega
  refine ⟨by rw [List.length_append]; exact hown, fun x hx => ⟨hvn x (h.2.1 x hx).1 (h.2.1 x hx).2, ?_⟩, fun j hj => ?_⟩
  · have h5 := hg.size
    have h6 := (h.2.1 x hx).2
    omega
  · by_cases q : j < rows.length
    · obtain ⟨a, h1, h2, h3⟩ := h.2.2 j q
      obtain ⟨f1, f2⟩ := fin h2 h3
      exact ⟨a, by rw [List.getElem?_append_left (by omega)]; exact h1, by rw [List.getElem_append_left q]; exact f1, f2⟩
    · rw [List.length_append, List.length_singleton] at hj
      obtain rfl : j = rows.length := by omega
      obtain ⟨f1, f2⟩ := fin ha hne
      exact ⟨a2, by rw [List.getElem?_append_right (by omega), hlen]; simp, by rw [List.getElem_append_right (Nat.le_refl _)]; simpa using f1, f2⟩
theorem RowZ.slz (h : RowZ base X v rows vals w) : SlzA X w v rows := by
  obtain ⟨h1, h2, h3⟩ := h
  have hcs := fun g hg => h1.cells (g := g) hg
  have hvT := fun x hx => (h2 x hx).1
  rcases h1.2 with ⟨rfl, h0⟩ | ⟨g, cap, cur, rfl, _⟩
  · exact ⟨none, 0, by rw [h0], hvT, fun i hi => by omega⟩
  · refine ⟨some ⟨g, 0, none⟩, cap, rfl, hvT, fun i hi => ?_⟩
    obtain ⟨a, e1, e2, e3⟩ := h3 i hi
    have c0 := hcs g rfl _ _ e1
    rw [show (⟨g, 0, none⟩ : Addr).add i = ⟨g, 0 + i, none⟩ from Addr.add_lit ..] at c0
    exact ⟨g, 0, a, rfl, c0, e2, fun x hx e => (e3 x e).2.2 hx⟩
theorem RowZ.at' {a : Option Addr} {n c : Nat} (h : RowZ base X (.slice a n c) rows vals w) {i : Nat} (hi : i < rows.length) : ∃ B bv, a = some ⟨B, 0, none⟩ ∧ w.cell? ⟨B, i, none⟩ = some bv ∧ IsIs w bv rows[i] := by
  obtain ⟨h1, h2, h3⟩ := h
  have hcs := fun g hg => h1.cells (g := g) hg
  rcases h1.2 with ⟨e, h0⟩ | ⟨g, cap, cur, e, _⟩
  · omega
  · injection e with e1 _ _
    subst e1
    obtain ⟨bv, e1, e2, _⟩ := h3 i hi
    have c0 := hcs g rfl _ _ e1
    rw [show (⟨g, 0, none⟩ : Addr).add i = ⟨g, 0 + i, none⟩ from Addr.add_lit .., Nat.zero_add] at c0
    exact ⟨g, bv, rfl, c0, e2⟩
end
/-- the boxes of Table: its rows, its result, the scheme -/
structure TbP (Xs Xr T : Nat) (s : Sch) (bv vb vn vy : Value) (W w : World) : Prop where
  t : BxR T vb vn vy w
  tf : ∀ j, w.frozen? ⟨T, j, none⟩ = false
  r : BxR Xr (.slice none 0 0) (.slice none 0 0) (.slice none 0 0) w
  rf : ∀ j, w.frozen? ⟨Xr, j, none⟩ = false
  b4 : B4 Xs (.string s.al) (.int .i64 s.len) bv (.bool s.ck) w
  hs : IsSs W bv s.bl
  blw : Below W.heap.size W w
  bT : W.heap.size ≤ T
  bR : W.heap.size ≤ Xr
  bS : W.heap.size ≤ Xs
  nR : T ≠ Xr
  nS : T ≠ Xs
section
variable {Xs Xr T : Nat} {s : Sch} {bv vb vn vy : Value} {W w : World}
theorem TbP.ss (h : TbP Xs Xr T s bv vb vn vy W w) : IsSs w bv s.bl := h.hs.below h.blw
theorem TbP.kept (h : TbP Xs Xr T s bv vb vn vy W w) {w' : World} {row : Option Nat} (hg : w.grownBy w' row) (hr : ∀ x, row = some x → x ≠ T ∧ x ≠ Xr ∧ x ≠ Xs ∧ W.heap.size ≤ x) : TbP Xs Xr T s bv vb vn vy W w' := by
  have hT : some T ≠ row := fun e => (hr T e.symm).1 rfl
  have hR : some Xr ≠ row := fun e => (hr Xr e.symm).2.1 rfl
  have hS : some Xs ≠ row := fun e => (hr Xs e.symm).2.2.1 rfl
  refine ⟨⟨hg.cell h.t.c0 hT, hg.cell h.t.c1 hT, hg.cell h.t.c2 hT⟩, fun j => (World.frozen?_of_block (hg.block _ h.t.lt hT)).trans (h.tf j), ⟨hg.cell h.r.c0 hR, hg.cell h.r.c1 hR, hg.cell h.r.c2 hR⟩, fun j => (World.frozen?_of_block (hg.block _ h.r.lt hR)).trans (h.rf j),
    ⟨hg.cell h.b4.c0 hS, hg.cell h.b4.c1 hS, hg.cell h.b4.c2 hS, hg.cell h.b4.c3 hS⟩, h.hs, ?_, h.bT, h.bR, h.bS, h.nR, h.nS⟩
  exact h.blw.grown hg h.blw.size (fun j hj => (hr j hj).2.2.2)
theorem TbP.below (h : TbP Xs Xr T s bv vb vn vy W w) {w' : World} (hb : Below w.heap.size w w') : TbP Xs Xr T s bv vb vn vy W w' := h.kept (grownBy_none hb none) (fun x e => by cases e)
theorem TbP.far (h : TbP Xs Xr T s bv vb vn vy W w) (k : Nat) (u : Value) : (w.setCell ⟨T, k, none⟩ u).cell? ⟨Xr, 0, none⟩ = some (.slice none 0 0) ∧ True := ⟨(World.cell?_setCell_far _ _ _ _ (fun e => h.nR e)).trans h.r.c0, trivial⟩
theorem TbP.set (h : TbP Xs Xr T s bv vb vn vy W w) (k : Nat) {u vb' vn' vy' : Value} (ht : BxR T vb' vn' vy' (w.setCell ⟨T, k, none⟩ u)) : TbP Xs Xr T s bv vb' vn' vy' W (w.setCell ⟨T, k, none⟩ u) := by
  have fr : ∀ {j : Nat} {v : Value}, w.cell? ⟨Xr, j, none⟩ = some v → (w.setCell ⟨T, k, none⟩ u).cell? ⟨Xr, j, none⟩ = some v := fun e => (World.cell?_setCell_far _ _ _ _ (fun e => h.nR e)).trans e
  have fs : ∀ {j : Nat} {v : Value}, w.cell? ⟨Xs, j, none⟩ = some v → (w.setCell ⟨T, k, none⟩ u).cell? ⟨Xs, j, none⟩ = some v := fun e => (World.cell?_setCell_far _ _ _ _ (fun e => h.nS e)).trans e
  exact ⟨ht, fun j => by rw [World.frozen?_setCell]; exact h.tf j, ⟨fr h.r.c0, fr h.r.c1, fr h.r.c2⟩, fun j => by rw [World.frozen?_setCell]; exact h.rf j, ⟨fs h.b4.c0, fs h.b4.c1, fs h.b4.c2, fs h.b4.c3⟩, h.hs, h.blw.setCell h.bT _, h.bT, h.bR, h.bS, h.nR, h.nS⟩
theorem TbP.set0 (h : TbP Xs Xr T s bv vb vn vy W w) (u : Value) : TbP Xs Xr T s bv u vn vy W (w.setCell ⟨T, 0, none⟩ u) :=
  h.set 0 ⟨World.cell?_setCell_same _ _ _ h.t.c0, (World.cell?_setCell_other _ _ _ _ (by intro e; injection e with _ e; exact absurd e (by decide))).trans h.t.c1, (World.cell?_setCell_other _ _ _ _ (by intro e; injection e with _ e; exact absurd e (by decide))).trans h.t.c2⟩
theorem TbP.set1 (h : TbP Xs Xr T s bv vb vn vy W w) (u : Value) : TbP Xs Xr T s bv vb u vy W (w.setCell ⟨T, 1, none⟩ u) :=
  h.set 1 ⟨(World.cell?_setCell_other _ _ _ _ (by intro e; injection e with _ e; exact absurd e (by decide))).trans h.t.c0, World.cell?_setCell_same _ _ _ h.t.c1, (World.cell?_setCell_other _ _ _ _ (by intro e; injection e with _ e; exact absurd e (by decide))).trans h.t.c2⟩
theorem TbP.set2 (h : TbP Xs Xr T s bv vb vn vy W w) (u : Value) : TbP Xs Xr T s bv vb vn u W (w.setCell ⟨T, 2, none⟩ u) :=
  h.set 2 ⟨(World.cell?_setCell_other _ _ _ _ (by intro e; injection e with _ e; exact absurd e (by decide))).trans h.t.c0, (World.cell?_setCell_other _ _ _ _ (by intro e; injection e with _ e; exact absurd e (by decide))).trans h.t.c1, World.cell?_setCell_same _ _ _ h.t.c2⟩
end
end Go.Proofs.Ytgblfobomiiofaa
namespace Go.Proofs.Ytgblfobomiiofaa
open Go Go.RowKit Go.Shelf Gw Go.Maps

theorem encI_len (l : List Int) : (encI l).length = l.length := by simp [encI]
theorem made_zero (n : Nat) : madeCells #[.int .i64 0] n = (encI (List.replicate n 0)).toArray := by
  rw [made_rep]
  congr 1
  simp [repL, encI]
theorem made_own (W : World) (n : Nat) (h : n ≤ 1000000) : (W.alloc (.cells (madeCells #[.int .i64 0] n) 3)).ownsRow W.heap.size 3 1 (.slice (some ⟨W.heap.size, 0, none⟩) n n) n (encI (List.replicate n 0)) := by
  refine ⟨by rw [encI_len]; simp, .inr ⟨W.heap.size, n, madeCells #[.int .i64 0] n, rfl, Nat.le_refl _, World.alloc_heap_new _ _, Nat.le_refl _, by unfold maxLen; omega, by rw [made_zero]; simp [encI_len], ?_⟩⟩
  rw [made_zero]
  show ((encI (List.replicate n 0)).toArray.toList).take (n * 1) = _
  rw [Nat.mul_one]
  exact List.take_of_length_le (by simp [encI_len])
theorem encI_setL (l : List Int) (j : Nat) (v : Int) : (encI l).set j (.int .i64 v) = encI (l.set j v) := by
  unfold encI
  rw [List.map_set]
/-- the first ones of a row, and zeros -/
def halfL (l : List Int) (i : Nat) : List Int := l.take i ++ List.replicate (l.length - i) 0
theorem halfL_len (l : List Int) {i : Nat} (h : i ≤ l.length) : (halfL l i).length = l.length := by unfold halfL; simp; omega
theorem halfL_zero (l : List Int) : halfL l 0 = List.replicate l.length 0 := by unfold halfL; simp
theorem halfL_all (l : List Int) : halfL l l.length = l := by unfold halfL; simp
theorem halfL_at {l : List Int} {i : Nat} (h : i < l.length) : (halfL l i)[i]? = some 0 := by
  unfold halfL
  rw [List.getElem?_append_right (by rw [List.length_take]; omega), List.length_take, Nat.min_eq_left (Nat.le_of_lt h), Nat.sub_self]
  rw [List.getElem?_replicate, if_pos (by omega)]
theorem halfL_set {l : List Int} {i : Nat} (h : i < l.length) : (halfL l i).set i l[i] = halfL l (i + 1) := by
  refine List.ext_getElem? fun j => ?_
  have hl := halfL_len l (Nat.le_of_lt h)
  have hl2 := halfL_len l (i := i + 1) h
  rw [List.getElem?_set]
  by_cases c : i = j
  · subst c
    rw [if_pos rfl, if_pos (by omega)]
    unfold halfL
    rw [List.getElem?_append_left (by rw [List.length_take]; omega), List.getElem?_take, if_pos (by omega), List.getElem?_eq_getElem h]
  · rw [if_neg c]
    unfold halfL
    by_cases d : j < i
    · rw [List.getElem?_append_left (by rw [List.length_take]; omega), List.getElem?_append_left (by rw [List.length_take]; omega), List.getElem?_take, List.getElem?_take, if_pos d, if_pos (by omega)]
    · rw [List.getElem?_append_right (by rw [List.length_take]; omega), List.getElem?_append_right (by rw [List.length_take]; omega), List.length_take, List.length_take, List.getElem?_replicate, List.getElem?_replicate, Nat.min_eq_left (Nat.le_of_lt h), Nat.min_eq_left (by omega)]
      by_cases e : j < l.length
      · rw [if_pos (by omega), if_pos (by omega)]
      · rw [if_neg (by omega), if_neg (by omega)]
/-- setting the place again -/
theorem set_set_same (l : List Int) (i : Nat) (a b : Int) : (l.set i a).set i b = l.set i b := by simp
def ones (k : Nat) : List Int := List.replicate k 1
/-- a store into a row of ints of the call's own -/
theorem row_stored {w : World} {base g n c : Nat} {l : List Int} (h : w.ownsRow base 3 1 (.slice (some ⟨g, 0, none⟩) n c) n (encI l)) (j : Nat) (v : Int) : (w.setCell ⟨g, j, none⟩ (.int .i64 v)).ownsRow base 3 1 (.slice (some ⟨g, 0, none⟩) n c) n (encI (l.set j v)) := by
  have h5 := (h.stored j (.int .i64 v)).1
  rw [encI_setL] at h5
  exact h5
theorem row_cell {w : World} {base g n c : Nat} {l : List Int} (h : w.ownsRow base 3 1 (.slice (some ⟨g, 0, none⟩) n c) n (encI l)) {j : Nat} {v : Int} (hj : l[j]? = some v) : w.cell? ⟨g, j, none⟩ = some (.int .i64 v) ∧ w.frozen? ⟨g, j, none⟩ = false := by
  have hl := h.1
  rw [encI_len] at hl
  have hjl := (List.getElem?_eq_some_iff.1 hj).1
  have h5 := h.cellAt j (by omega)
  refine ⟨?_, h.frozenAt j⟩
  rw [h5]
  unfold encI
  rw [List.getElem?_map, hj]
  rfl
/-- what the loop over the places keeps: i rows of Next are made, the first j numbers of the first row of Ways are 1 -/
structure P2S (W1 : World) (Xs Xr T go k : Nat) (s : Sch) (bv vb : Value) (W wr : World) (vn : Value) (vals : List Value) (i j : Nat) : Prop where
  tb : TbP Xs Xr T s bv vb vn (.slice none 0 0) W wr
  gr : W1.grownBy wr (some T)
  on : wr.ownsRow W1.heap.size 3 1 (.slice (some ⟨go, 0, none⟩) k k) k (encI (halfL (ones k) j))
  rn : RowZ W1.heap.size [go, T, Xr] vn ((nextR s).take i) vals wr
  lT : T < W1.heap.size
  lR : Xr < W1.heap.size
  lS : Xs < W1.heap.size
  lW : W.heap.size ≤ W1.heap.size
section
variable {W1 : World} {Xs Xr T go k : Nat} {s : Sch} {bv vb : Value} {W wr : World} {vn : Value} {vals : List Value} {i j : Nat}
theorem P2S.go_ge (h : P2S W1 Xs Xr T go k s bv vb W wr vn vals i j) : W1.heap.size ≤ go ∧ go < wr.heap.size := h.on.lt go rfl
theorem P2S.below (h : P2S W1 Xs Xr T go k s bv vb W wr vn vals i j) {w' : World} (hb : Below wr.heap.size wr w') : P2S W1 Xs Xr T go k s bv vb W w' vn vals i j :=
  ⟨h.tb.below hb, grownBy_trans h.gr (grownBy_none hb _), ownsRow_below h.on hb, h.rn.below hb, h.lT, h.lR, h.lS, h.lW⟩
theorem P2S.push (h : P2S W1 Xs Xr T go k s bv vb W wr vn vals i j) (hi : i < (LD s).length) {a2 : Value} (ha : IsIs wr a2 (nextRow s i)) (hne : ∀ g, a2.ownBlock = some g → vn.ownBlock ≠ some g ∧ g < wr.heap.size ∧ g ≠ go ∧ g ≠ T ∧ g ≠ Xr)
    {o : Obj} {w8 : World} {v' : Value} (hg : (wr.alloc o).grownBy w8 vn.ownBlock) (hat : v'.ownBlock = vn.ownBlock ∨ v'.ownBlock = some (wr.alloc o).heap.size) (hown : w8.ownsRow W1.heap.size 67 1 v' (i + 1) (vals ++ [a2])) :
    w8.cell? ⟨T, 1, none⟩ = some vn ∧ w8.frozen? ⟨T, 1, none⟩ = false ∧ P2S W1 Xs Xr T go k s bv vb W (w8.setCell ⟨T, 1, none⟩ v') v' (vals ++ [a2]) (i + 1) j := by
  have hil : ((nextR s).take i).length = i := by rw [List.length_take, nextR_len]; omega
  have h2 := h.below (below_al wr o)
  have hvge : ∀ x, vn.ownBlock = some x → W1.heap.size ≤ x := fun x e => (h.rn.1.lt x e).1
  have ht8 : TbP Xs Xr T s bv vb vn (.slice none 0 0) W w8 := h2.tb.kept hg (fun x e => by
    have h5 := hvge x e
    have := h.lT; have := h.lR; have := h.lS; have := h.lW
    exact ⟨by omega, by omega, by omega, by omega⟩)
  have hgo : vn.ownBlock ≠ some go := (h.rn.2.1 go (by simp)).1
  have hT : vn.ownBlock ≠ some T := (h.rn.2.1 T (by simp)).1
  have hgw : wr.grownBy w8 vn.ownBlock := (World.grownBy_alloc wr o _).trans hg
  have hg8 : W1.grownBy w8 (some T) := by
    cases hv : vn.ownBlock with
    | none => rw [hv] at hgw; exact ⟨hgw.os.trans h.gr.os, hgw.tape.trans h.gr.tape, hgw.output.trans h.gr.output, Nat.le_trans h.gr.size hgw.size, fun x hx hne => (hgw.block x (Nat.lt_of_lt_of_le hx h.gr.size) (by simp)).trans (h.gr.block x hx hne)⟩
    | some x => rw [hv] at hgw; exact grownBy_far h.gr hgw (hvge x hv)
  have hrz := h.rn.push (X := [go, T, Xr]) ha (fun g hg' => ⟨(hne g hg').1, (hne g hg').2.1, by simp; exact ⟨(hne g hg').2.2.1, (hne g hg').2.2.2.1, (hne g hg').2.2.2.2⟩⟩) (by rw [hil]; exact hown) hg hat
  rw [← nextR_take s hi] at hrz
  refine ⟨ht8.t.c1, ht8.tf 1, ht8.set1 v', grownBy_trans hg8 (grownBy_setCell _ _ _ _), ?_, hrz.kept (grownBy_setCell _ _ _ _) (fun x e => by injection e with e; rw [← e]; simp), h.lT, h.lR, h.lS, h.lW⟩
  have hon8 := h2.on.kept hg (.inr (fun e => hgo e.symm))
  refine hon8.kept (grownBy_setCell _ _ _ _) (.inr (fun e => ?_))
  have e' : some go = some T := e
  injection e' with e'
  have := h.go_ge.1; have := h.lT
  omega
theorem P2S.one (h : P2S W1 Xs Xr T go k s bv vb W wr vn vals i j) (hj : j < k) : wr.cell? ⟨go, j, none⟩ = some (.int .i64 0) ∧ wr.frozen? ⟨go, j, none⟩ = false ∧ P2S W1 Xs Xr T go k s bv vb W (wr.setCell ⟨go, j, none⟩ (.int .i64 1)) vn vals i (j + 1) := by
  have hjl : j < (ones k).length := by simp [ones]; exact hj
  obtain ⟨c1, c2⟩ := row_cell h.on (halfL_at hjl)
  have hge := h.go_ge
  have hst := row_stored h.on j 1
  have e1 : (ones k)[j] = 1 := by simp [ones]
  have e2 := halfL_set hjl
  rw [e1] at e2
  rw [e2] at hst
  have lT := h.lT; have lR := h.lR; have lS := h.lS; have lW := h.lW
  refine ⟨c1, c2, h.tb.kept (grownBy_setCell _ _ _ _) (fun x e => by injection e with e; rw [← e]; exact ⟨by omega, by omega, by omega, by omega⟩), grownBy_far h.gr (grownBy_setCell _ _ _ _) hge.1, hst, h.rn.kept (grownBy_setCell _ _ _ _) (fun x e => by injection e with e; rw [← e]; simp), lT, lR, lS, lW⟩
end
/-- blocks that aren't made yet are apart -/
theorem SlzA.fresh {X : List Nat} {W : World} {v : Value} {rows : List (List Int)} (h : SlzA X W v rows) (h0 : rows ≠ []) (h1 : ∀ r ∈ rows, r ≠ []) {x : Nat} (hx : W.heap.size ≤ x) : SlzA (x :: X) W v rows := by
  obtain ⟨ao, c, rfl, hn, hh⟩ := h
  refine ⟨ao, c, rfl, fun y hy => ?_, fun i hi => ?_⟩
  · rcases List.mem_cons.1 hy with rfl | hy
    · obtain ⟨B, o, bv, rfl, hc, _⟩ := hh 0 (List.length_pos_iff.2 h0)
      intro e
      have e' : some B = some y := e
      injection e' with e'
      have := World.block_lt_of_cell? _ _ hc
      dsimp only at this
      omega
    · exact hn y hy
  · obtain ⟨B, o, bv, rfl, hc, hI, hb⟩ := hh i hi
    refine ⟨B, o, bv, rfl, hc, hI, fun y hy => ?_⟩
    rcases List.mem_cons.1 hy with rfl | hy
    · obtain ⟨ao2, c2, rfl, h2⟩ := hI
      obtain ⟨B2, o2, rfl, hB2, _⟩ := h2 (List.length_pos_iff.2 (h1 _ (List.getElem_mem hi)))
      intro e
      have e' : some B2 = some y := e
      injection e' with e'
      omega
    · exact hb y hy
/-- what the loop over the lengths keeps: k rows of Ways are made -/
structure P3S (W2 : World) (Xs Xr T : Nat) (s : Sch) (bv vb vn : Value) (BL : List ByteArray) (W wr : World) (vy : Value) (vals : List Value) (k : Nat) : Prop where
  tb : TbP Xs Xr T s bv vb vn vy W wr
  gr : W2.grownBy wr (some T)
  hb : IsSs wr vb BL
  hn : SlzA [T, Xr] wr vn (nextR s)
  ry : RowZ W2.heap.size [T, Xr] vy (wayR s k) vals wr
  nb : vb.ownBlock ≠ some T
  nR : vb.ownBlock ≠ some Xr
  fr : ∀ x, W2.heap.size ≤ x → vb.ownBlock ≠ some x ∧ SlzA [x, T] W2 vn (nextR s)
  lT : T < W2.heap.size
  lR : Xr < W2.heap.size
  lS : Xs < W2.heap.size
  lW : W.heap.size ≤ W2.heap.size
section
variable {W2 : World} {Xs Xr T : Nat} {s : Sch} {bv vb vn : Value} {BL : List ByteArray} {W wr : World} {vy : Value} {vals : List Value} {k : Nat}
theorem P3S.below (h : P3S W2 Xs Xr T s bv vb vn BL W wr vy vals k) {w' : World} (hb : Below wr.heap.size wr w') : P3S W2 Xs Xr T s bv vb vn BL W w' vy vals k :=
  ⟨h.tb.below hb, grownBy_trans h.gr (grownBy_none hb _), h.hb.below hb, h.hn.below hb, h.ry.below hb, h.nb, h.nR, h.fr, h.lT, h.lR, h.lS, h.lW⟩
theorem P3S.push (h : P3S W2 Xs Xr T s bv vb vn BL W wr vy vals k) {a2 : Value} (ha : IsIs wr a2 (wayRow s k)) (hne : ∀ g, a2.ownBlock = some g → vy.ownBlock ≠ some g ∧ g < wr.heap.size ∧ g ≠ T ∧ g ≠ Xr)
    {o : Obj} {w8 : World} {v' : Value} (hg : (wr.alloc o).grownBy w8 vy.ownBlock) (hat : v'.ownBlock = vy.ownBlock ∨ v'.ownBlock = some (wr.alloc o).heap.size) (hown : w8.ownsRow W2.heap.size 67 1 v' (k + 1) (vals ++ [a2])) :
    w8.cell? ⟨T, 2, none⟩ = some vy ∧ w8.frozen? ⟨T, 2, none⟩ = false ∧ P3S W2 Xs Xr T s bv vb vn BL W (w8.setCell ⟨T, 2, none⟩ v') v' (vals ++ [a2]) (k + 1) := by
  have hil : (wayR s k).length = k := wayR_len s k
  have h2 := h.below (below_al wr o)
  have hvge : ∀ x, vy.ownBlock = some x → W2.heap.size ≤ x := fun x e => (h.ry.1.lt x e).1
  have lT := h.lT; have lR := h.lR; have lS := h.lS; have lW := h.lW
  have ht8 : TbP Xs Xr T s bv vb vn vy W w8 := h2.tb.kept hg (fun x e => by
    have h5 := hvge x e
    exact ⟨by omega, by omega, by omega, by omega⟩)
  have hgw : wr.grownBy w8 vy.ownBlock := (World.grownBy_alloc wr o _).trans hg
  have hg8 : W2.grownBy w8 (some T) := by
    cases hv : vy.ownBlock with
    | none => rw [hv] at hgw; exact ⟨hgw.os.trans h.gr.os, hgw.tape.trans h.gr.tape, hgw.output.trans h.gr.output, Nat.le_trans h.gr.size hgw.size, fun x hx hne => (hgw.block x (Nat.lt_of_lt_of_le hx h.gr.size) (by simp)).trans (h.gr.block x hx hne)⟩
    | some x => rw [hv] at hgw; exact grownBy_far h.gr hgw (hvge x hv)
  have hrz := h.ry.push (X := [T, Xr]) ha (fun g hg' => ⟨(hne g hg').1, (hne g hg').2.1, by simp; exact ⟨(hne g hg').2.2.1, (hne g hg').2.2.2⟩⟩) (by rw [hil]; exact hown) hg hat
  rw [← wayR_succ s k] at hrz
  have hb8 : IsSs w8 vb BL := by
    cases hv : vy.ownBlock with
    | none => rw [hv] at hgw; exact h.hb.below ⟨hgw.os, hgw.tape, hgw.output, hgw.size, fun x hx => hgw.block x hx (by simp)⟩
    | some x => rw [hv] at hgw; exact h.hb.kept hgw (h.fr x (hvge x hv)).1
  have hn8 : SlzA [T, Xr] w8 vn (nextR s) := by
    obtain ⟨ao, c, rfl, hn, hh⟩ := h.hn
    refine ⟨ao, c, rfl, hn, fun i hi => ?_⟩
    obtain ⟨B, o', bv', rfl, hc, hI, hb⟩ := hh i hi
    cases hv : vy.ownBlock with
    | none =>
      rw [hv] at hgw
      exact ⟨B, o', bv', rfl, hgw.cell hc (by simp), hI.below ⟨hgw.os, hgw.tape, hgw.output, hgw.size, fun x hx => hgw.block x hx (by simp)⟩, hb⟩
    | some x =>
      rw [hv] at hgw
      obtain ⟨ao2, c2, hv2, hn2, hh2⟩ := (h.fr x (hvge x hv)).2.kept h.gr (by simp)
      injection hv2 with hv2 _ _
      subst hv2
      obtain ⟨B2, o2, bv2, e2, hc2, hI2, hb2⟩ := hh2 i hi
      have hne2 := hn2 x (by simp)
      injection e2 with e2
      injection e2 with e2 e3
      subst e2; subst e3
      rw [hc] at hc2
      injection hc2 with hc2
      subst hc2
      exact ⟨B, o', bv', rfl, hgw.cell hc hne2, hI.kept hgw (hb2 x (by simp)), hb⟩
  refine ⟨ht8.t.c2, ht8.tf 2, ht8.set2 v', grownBy_trans hg8 (grownBy_setCell _ _ _ _), hb8.kept (grownBy_setCell _ _ _ _) h.nb, hn8.kept (grownBy_setCell _ _ _ _) (by simp), hrz.kept (grownBy_setCell _ _ _ _) (fun x e => by injection e with e; rw [← e]; simp), h.nb, h.nR, h.fr, lT, lR, lS, lW⟩
/-- what the document's Table answers -/
def TabS (s : Sch) (W : World) (v : Value) : Prop :=
  ∃ X vb vn vy BL, v = .agg #[vb, vn, vy] ∧ IsSs W vb BL ∧ BegL s.al BL (LD s) ∧ SlzA X W vn (nextR s) ∧ SlzA X W vy (wayR s (nS s + 1))
theorem TabS.below {s : Sch} {W W' : World} {v : Value} (h : TabS s W v) (hb : Below W.heap.size W W') : TabS s W' v := by
  obtain ⟨X, vb, vn, vy, BL, rfl, h1, h2, h3, h4⟩ := h
  exact ⟨X, vb, vn, vy, BL, rfl, h1.below hb, h2, h3.below hb, h4.below hb⟩
theorem nxD_st {s : Sch} {i c : Nat} {x : List Nat} (hi : (LD s)[i]? = some x) : nxD s i c = stD (bansS s) (LD s) (x ++ [c]) := by
  unfold nxD fD autD stD
  rw [hi]
  dsimp only
  by_cases h : EndsB (bansS s) (x ++ [c])
  · rw [if_pos h, if_pos h]
  · rw [if_neg h, if_neg h]
theorem ones_way (s : Sch) : ones (LD s).length = wayRow s 0 := by
  unfold ones wayRow
  refine List.ext_getElem (by simp) (fun i h1 h2 => ?_)
  simp [wayD, wD_zero, capD, tooM]
theorem wayRow_at (s : Sch) (n : Nat) {i : Nat} (hi : i < (LD s).length) : (wayRow s n)[i]'(by rw [wayRow_len]; exact hi) = ((capD (wayD s n i) : Nat) : Int) := by simp [wayRow]
theorem nextRow_at (s : Sch) (i : Nat) {c : Nat} (hc : c < s.al.size) : (nextRow s i)[c]'(by rw [nextRow_len]; exact hc) = nxD s i c := by simp [nextRow]
theorem nextR_at (s : Sch) {i : Nat} (hi : i < (LD s).length) : (nextR s)[i]'(by rw [nextR_len]; exact hi) = nextRow s i := by simp [nextR]
theorem wayR_at (s : Sch) {k n : Nat} (hn : n < k) : (wayR s k)[n]'(by rw [wayR_len]; exact hn) = wayRow s n := by simp [wayR]
end
theorem treeL_word_len {n : Nat} : ∀ {bans L : List (List Nat)}, (∀ x ∈ L, x.length ≤ n) → (∀ b ∈ bans, b.length ≤ n) → ∀ x ∈ bans.foldl (fun L b => addB L [] b) L, x.length ≤ n
  | [], _, h, _ => h
  | b :: bans, L, h, hb => by
    refine treeL_word_len (bans := bans) ?_ (fun x hx => hb x (by simp [hx]))
    have go : ∀ (r pre : List Nat) (L : List (List Nat)), (∀ x ∈ L, x.length ≤ n) → pre.length + r.length ≤ n → ∀ x ∈ addB L pre r, x.length ≤ n := by
      intro r
      induction r with
      | nil => intro pre L h _; exact h
      | cons v r ih =>
        intro pre L h hl
        simp only [List.length_cons] at hl
        unfold addB
        refine ih _ _ (fun x hx => ?_) (by rw [List.length_append, List.length_singleton]; omega)
        unfold addP at hx
        split at hx
        · exact h x hx
        · rcases List.mem_append.1 hx with c | c
          · exact h x c
          · rw [List.mem_singleton] at c
            rw [c, List.length_append, List.length_singleton]
            omega
    exact go b [] L h (by have := hb b (by simp); simpa using this)
theorem LD_word_len {s : Sch} (h : WellF s) {x : List Nat} (hx : x ∈ LD s) : x.length ≤ 8 := treeL_word_len (n := 8) (fun x hx => by simp at hx; subst hx; simp) (fun b hb => by
  obtain ⟨y, hy, rfl⟩ := List.mem_map.1 hb
  have := (bans_len h y hy).2.1
  rw [List.length_dropLast]
  omega) x hx
theorem word_snoc {al b : ByteArray} (ha : GoodA al) {c : Nat} (hc : c < al.size) : wordN al (b ++ al.extract c (c + 1)) = wordN al b ++ [c] := by
  unfold wordN
  rw [bys_append, List.map_append, bys_extract]
  congr 1
  have e1 : ((bys al).take (c + 1)).drop c = [al[c]] := by
    rw [List.take_add_one, List.drop_append]
    have e2 : (bys al)[c]? = some al[c] := by rw [List.getElem?_eq_getElem (by rw [bys_len]; exact hc)]; rfl
    rw [e2]
    simp [Nat.min_eq_left (Nat.le_of_lt hc)]
  rw [e1]
  show [(bys al).idxOf al[c]] = [c]
  rw [idx_sign ha hc]
end Go.Proofs.Ytgblfobomiiofaa
