/- Contracts and lemmas (several texts merged into one). -/
import Derived.Below
namespace Gw
/-- the longest end of a word that is a node -/
def lsuf (L : List (List Nat)) : List Nat → List Nat
  | [] => []
  | a :: w => if (a :: w) ∈ L then a :: w else lsuf L w
theorem lsuf_suffix (L : List (List Nat)) : ∀ w, lsuf L w <:+ w
  | [] => List.suffix_refl _
  | a :: w => by
    unfold lsuf
    split
    · exact List.suffix_refl _
    · exact (lsuf_suffix L w).trans (List.suffix_cons a w)
theorem lsuf_mem {L : List (List Nat)} (h0 : [] ∈ L) : ∀ w, lsuf L w ∈ L
  | [] => h0
  | a :: w => by
    unfold lsuf
    split
    · assumption
    · exact lsuf_mem h0 w
theorem lsuf_max {L : List (List Nat)} {x : List Nat} (hx : x ∈ L) : ∀ {w}, x <:+ w → x <:+ lsuf L w
  | [], h => h
  | a :: w, h => by
    unfold lsuf
    split
    · exact h
    · rename_i hn
      rcases List.suffix_cons_iff.1 h with e | e
      · exact absurd (e ▸ hx) hn
      · exact lsuf_max hx e
theorem suffix_anti {x y : List Nat} (h1 : x <:+ y) (h2 : y <:+ x) : x = y := h1.eq_of_length_le h2.length_le
theorem lsuf_eq {L : List (List Nat)} {w y : List Nat} (hy : y ∈ L) (h1 : y <:+ w) (h2 : ∀ x ∈ L, x <:+ w → x <:+ y) (h0 : [] ∈ L) : lsuf L w = y :=
  suffix_anti (h2 _ (lsuf_mem h0 w) (lsuf_suffix L w)) (lsuf_max hy h1)
theorem snoc_suffix {x w : List Nat} {v : Nat} (h : x <:+ w ++ [v]) : x = [] ∨ ∃ y, x = y ++ [v] ∧ y <:+ w := by
  obtain ⟨t, ht⟩ := h
  rcases List.eq_nil_or_concat x with rfl | ⟨y, z, rfl⟩
  · exact .inl rfl
  · rw [List.concat_eq_append] at ht ⊢
    rw [← List.append_assoc] at ht
    obtain ⟨e1, e2⟩ := List.append_inj' ht rfl
    simp at e2
    subst e2
    exact .inr ⟨y, rfl, t, e1⟩
theorem lsuf_step {L : List (List Nat)} (h0 : [] ∈ L) (hc : ∀ x v, x ++ [v] ∈ L → x ∈ L) (w : List Nat) (v : Nat) : lsuf L (lsuf L w ++ [v]) = lsuf L (w ++ [v]) := by
  refine (lsuf_eq (lsuf_mem h0 _) ((lsuf_suffix _ _).trans ?_) (fun x hx hs => ?_) h0).symm
  · exact List.suffix_append_self_iff.2 (lsuf_suffix L w)
  · refine lsuf_max hx ?_
    rcases snoc_suffix hs with rfl | ⟨y, rfl, hy⟩
    · exact List.nil_suffix
    · exact List.suffix_append_self_iff.2 (lsuf_max (hc _ _ hx) hy)
/-- a banned string is an end of the word -/
def EndsB (bans : List (List Nat)) (w : List Nat) : Prop := ∃ b ∈ bans, b <:+ w
instance (bans : List (List Nat)) (w : List Nat) : Decidable (EndsB bans w) := by unfold EndsB; infer_instance
theorem ends_lsuf {L bans : List (List Nat)} (hb : ∀ b ∈ bans, b ∈ L) (w : List Nat) : EndsB bans (lsuf L w) ↔ EndsB bans w :=
  ⟨fun ⟨b, h1, h2⟩ => ⟨b, h1, h2.trans (lsuf_suffix L w)⟩, fun ⟨b, h1, h2⟩ => ⟨b, h1, lsuf_max (hb b h1) h2⟩⟩
/-- no banned string occurs in the word -/
def AllowW (bans : List (List Nat)) (w : List Nat) : Prop := ∀ b ∈ bans, ¬ b <:+: w
instance (bans : List (List Nat)) (w : List Nat) : Decidable (AllowW bans w) := by unfold AllowW; infer_instance
theorem allow_nil {bans : List (List Nat)} (h : ∀ b ∈ bans, b ≠ []) : AllowW bans [] := fun b hb hi => h b hb (List.infix_nil.1 hi)
theorem allow_snoc {bans : List (List Nat)} {w : List Nat} {v : Nat} : AllowW bans (w ++ [v]) ↔ AllowW bans w ∧ ¬ EndsB bans (w ++ [v]) := by
  constructor
  · intro h
    exact ⟨fun b hb hi => h b hb (List.infix_concat_iff.2 (.inr hi)), fun ⟨b, hb, hs⟩ => h b hb hs.isInfix⟩
  · rintro ⟨h1, h2⟩ b hb hi
    rcases List.infix_concat_iff.1 hi with c | c
    · exact h2 ⟨b, hb, c⟩
    · exact h1 b hb c
theorem allow_init {bans : List (List Nat)} {w u : List Nat} (h : AllowW bans (w ++ u)) : AllowW bans w := fun b hb hi => h b hb (hi.trans (List.prefix_append w u).isInfix)
/-- the nodes: distinct, the empty word first, with each node its beginning -/
structure Nodes (bans L : List (List Nat)) : Prop where
  zero : L[0]? = some []
  init : ∀ x v, x ++ [v] ∈ L → x ∈ L
  ban : ∀ b ∈ bans, b ∈ L
  dup : L.Nodup
theorem Nodes.nil {bans L : List (List Nat)} (h : Nodes bans L) : [] ∈ L := List.mem_of_getElem? h.zero
/-- the automaton: from the state of a node by a value, unless a banned string ends there -/
def auto (bans L : List (List Nat)) (i v : Nat) : Option Nat :=
  match L[i]? with
  | none => none
  | some x => if EndsB bans (lsuf L (x ++ [v])) then none else some (L.idxOf (lsuf L (x ++ [v])))
/-- the state after a word -/
def stOf (L : List (List Nat)) (w : List Nat) : Nat := L.idxOf (lsuf L w)
section
variable {bans L : List (List Nat)} (h : Nodes bans L)
include h
theorem stOf_at (w : List Nat) : L[stOf L w]? = some (lsuf L w) := by
  have hm := lsuf_mem h.nil w
  have hl := List.idxOf_lt_length_of_mem hm
  unfold stOf
  rw [List.getElem?_eq_getElem hl, List.getElem_idxOf]
theorem stOf_nil : stOf L [] = 0 := by
  obtain ⟨hl, he⟩ := List.getElem?_eq_some_iff.1 h.zero
  show L.idxOf [] = 0
  cases L with
  | nil => simp at hl
  | cons a t => simp at he; subst he; simp
theorem auto_step (w : List Nat) (v : Nat) : auto bans L (stOf L w) v = if EndsB bans (w ++ [v]) then none else some (stOf L (w ++ [v])) := by
  unfold auto
  rw [stOf_at h w]
  simp only [lsuf_step h.nil h.init, ends_lsuf h.ban]
  rfl
end
/-- the run of an automaton -/
def run (δ : Nat → Nat → Option Nat) : Nat → List Nat → Option Nat
  | i, [] => some i
  | i, v :: u => (δ i v).bind fun j => run δ j u
theorem run_auto {bans L : List (List Nat)} (h : Nodes bans L) : ∀ (u w : List Nat), AllowW bans w → run (auto bans L) (stOf L w) u = if AllowW bans (w ++ u) then some (stOf L (w ++ u)) else none
  | [], w, hw => by simp [run, hw]
  | v :: u, w, hw => by
    unfold run
    rw [auto_step h]
    by_cases c : EndsB bans (w ++ [v])
    · have : ¬ AllowW bans (w ++ v :: u) := fun ha => by
        rw [show w ++ v :: u = (w ++ [v]) ++ u by simp] at ha
        exact (allow_snoc.1 (allow_init ha)).2 c
      simp [c, this]
    · have ih := run_auto h u (w ++ [v]) (allow_snoc.2 ⟨hw, c⟩)
      simp only [c, if_false, Option.bind_some]
      rw [ih]
      simp
end Gw
namespace Gw
/-- v fits the sign of a mask: a value, or none where it is free -/
def fitsM (m : Option Nat) (v : Nat) : Bool := m.isNone || m == some v
/-- the words that a mask lets through from a state on, in ascending order; fin: which ends are let through -/
def words (δ : Nat → Nat → Option Nat) (A : Nat) (nc : Nat → Nat → Nat) (fin : Nat → Bool) : List (Option Nat) → Nat → Nat → List (List Nat)
  | [], _, p => if fin p then [[]] else []
  | m :: ms, st, p => (List.range A).flatMap fun v => if fitsM m v then
      match δ st v with
      | none => []
      | some j => (words δ A nc fin ms j (nc p v)).map (v :: ·) else []
/-- how many they are, at most T -/
def cnt (δ : Nat → Nat → Option Nat) (A : Nat) (nc : Nat → Nat → Nat) (fin : Nat → Bool) (ms : List (Option Nat)) (st p : Nat) : Nat := (words δ A nc fin ms st p).length
/-- the part of a step by one value -/
def stepW (δ : Nat → Nat → Option Nat) (A : Nat) (nc : Nat → Nat → Nat) (fin : Nat → Bool) (m : Option Nat) (ms : List (Option Nat)) (st p v : Nat) : List (List Nat) :=
  if fitsM m v then
      match δ st v with
      | none => []
      | some j => words δ A nc fin ms j (nc p v) else []
section
variable {δ : Nat → Nat → Option Nat} {A : Nat} {nc : Nat → Nat → Nat} {fin : Nat → Bool}
theorem words_cons (m : Option Nat) (ms : List (Option Nat)) (st p : Nat) : words δ A nc fin (m :: ms) st p = (List.range A).flatMap fun v => (stepW δ A nc fin m ms st p v).map (v :: ·) := by
  conv => lhs; unfold words
  congr 1
  funext v
  unfold stepW
  split
  · split <;> rfl
  · rfl
/-- the check number after a word -/
def chk (nc : Nat → Nat → Nat) : Nat → List Nat → Nat
  | p, [] => p
  | p, v :: u => chk nc (nc p v) u
/-- a word fits a mask -/
def fitsW : List (Option Nat) → List Nat → Bool
  | [], [] => true
  | m :: ms, v :: u => fitsM m v && fitsW ms u
  | _, _ => false
theorem fitsW_len : ∀ {ms : List (Option Nat)} {u : List Nat}, fitsW ms u = true → u.length = ms.length
  | [], [], _ => rfl
  | m :: ms, v :: u, h => by
    unfold fitsW at h
    rw [Bool.and_eq_true] at h
    simp [fitsW_len h.2]
  | [], _ :: _, h => by simp [fitsW] at h
  | _ :: _, [], h => by simp [fitsW] at h
theorem mem_words : ∀ {ms : List (Option Nat)} {st p : Nat} {u : List Nat}, u ∈ words δ A nc fin ms st p ↔ fitsW ms u = true ∧ (∀ v ∈ u, v < A) ∧ (run δ st u).isSome = true ∧ fin (chk nc p u) = true
  | [], st, p, u => by
    unfold words
    cases u with
    | nil =>
      by_cases c : fin p = true <;> simp [c, fitsW, run, chk]
    | cons v u =>
      by_cases c : fin p = true <;> simp [c, fitsW]
  | m :: ms, st, p, u => by
    rw [words_cons, List.mem_flatMap]
    constructor
    · rintro ⟨v, hv, hu⟩
      obtain ⟨u', hu', rfl⟩ := List.mem_map.1 hu
      rw [List.mem_range] at hv
      unfold stepW at hu'
      split at hu'
      · rename_i hf
        split at hu'
        · simp at hu'
        · rename_i j hj
          obtain ⟨h1, h2, h3, h4⟩ := mem_words.1 hu'
          refine ⟨by simp [fitsW, hf, h1], ?_, ?_, h4⟩
          · intro x hx
            rcases List.mem_cons.1 hx with e | e
            · rw [e]; exact hv
            · exact h2 x e
          · unfold run; rw [hj]; exact h3
      · simp at hu'
    · rintro ⟨h1, h2, h3, h4⟩
      cases u with
      | nil => simp [fitsW] at h1
      | cons v u =>
        simp only [fitsW, Bool.and_eq_true] at h1
        refine ⟨v, List.mem_range.2 (h2 v (by simp)), List.mem_map.2 ⟨u, ?_, rfl⟩⟩
        unfold stepW
        rw [if_pos h1.1]
        unfold run at h3
        cases hd : δ st v with
        | none => rw [hd] at h3; simp at h3
        | some j =>
          rw [hd] at h3
          exact mem_words.2 ⟨h1.2, fun x hx => h2 x (by simp [hx]), h3, h4⟩
/-- the order of words: that of their first values that differ -/
def ltW : List Nat → List Nat → Prop
  | [], [] => False
  | [], _ :: _ => True
  | _ :: _, [] => False
  | a :: u, b :: w => a < b ∨ (a = b ∧ ltW u w)
instance decLtW : (u w : List Nat) → Decidable (ltW u w)
  | [], [] => isFalse id
  | [], _ :: _ => isTrue trivial
  | _ :: _, [] => isFalse id
  | a :: u, b :: w => by
    unfold ltW
    have := decLtW u w
    infer_instance
theorem ltW_irrefl : ∀ u, ¬ ltW u u
  | [], h => h
  | a :: u, h => by
    unfold ltW at h
    rcases h with h | ⟨_, h⟩
    · omega
    · exact ltW_irrefl u h
theorem ltW_trans : ∀ {u v w : List Nat}, ltW u v → ltW v w → ltW u w
  | [], [], _, h, _ => h.elim
  | [], _ :: _, [], _, h => h.elim
  | [], _ :: _, _ :: _, _, _ => trivial
  | _ :: _, [], _, h, _ => h.elim
  | _ :: _, _ :: _, [], _, h => h.elim
  | a :: u, b :: v, c :: w, h, k => by
    unfold ltW at *
    rcases h with h | ⟨h, h'⟩ <;> rcases k with k | ⟨k, k'⟩
    · left; omega
    · left; omega
    · left; omega
    · right; exact ⟨by omega, ltW_trans h' k'⟩
theorem ltW_total : ∀ {u w : List Nat}, u.length = w.length → u ≠ w → ltW u w ∨ ltW w u
  | [], [], _, h => absurd rfl h
  | [], _ :: _, h, _ => by simp at h
  | _ :: _, [], h, _ => by simp at h
  | a :: u, b :: w, h, k => by
    unfold ltW
    rcases Nat.lt_trichotomy a b with c | c | c
    · exact .inl (.inl c)
    · subst c
      rcases ltW_total (u := u) (w := w) (by simpa using h) (fun e => k (by rw [e])) with d | d
      · exact .inl (.inr ⟨rfl, d⟩)
      · exact .inr (.inr ⟨rfl, d⟩)
    · exact .inr (.inl c)
theorem sorted_words : ∀ (ms : List (Option Nat)) (st p : Nat), (words δ A nc fin ms st p).Pairwise ltW
  | [], st, p => by unfold words; split <;> simp
  | m :: ms, st, p => by
    rw [words_cons]
    have hpart : ∀ v, (stepW δ A nc fin m ms st p v).Pairwise ltW := fun v => by
      unfold stepW
      split
      · split
        · simp
        · exact sorted_words ms _ _
      · simp
    rw [List.flatMap_def, List.pairwise_flatten]
    refine ⟨fun l hl => ?_, ?_⟩
    · obtain ⟨v, _, rfl⟩ := List.mem_map.1 hl
      exact List.pairwise_map.2 ((hpart v).imp fun h => .inr ⟨rfl, h⟩)
    · refine List.pairwise_map.2 (List.pairwise_lt_range.imp fun {a b} hab x hx y hy => ?_)
      obtain ⟨x', _, rfl⟩ := List.mem_map.1 hx
      obtain ⟨y', _, rfl⟩ := List.mem_map.1 hy
      exact .inl hab
theorem words_nodup (ms : List (Option Nat)) (st p : Nat) : (words δ A nc fin ms st p).Nodup :=
  List.Pairwise.imp (S := (· ≠ ·)) (fun {a b} h (e : a = b) => ltW_irrefl b (by rw [e] at h; exact h)) (sorted_words ms st p)
/-- the sum over the first values -/
def sumV (f : Nat → Nat) : Nat → Nat
  | 0 => 0
  | k + 1 => sumV f k + f k
theorem len_flat {α : Type} (g : Nat → List α) : ∀ k, ((List.range k).flatMap g).length = sumV (fun v => (g v).length) k
  | 0 => rfl
  | k + 1 => by rw [List.range_succ, List.flatMap_append, List.length_append, len_flat g k]; simp [sumV]
theorem cnt_cons (m : Option Nat) (ms : List (Option Nat)) (st p : Nat) : cnt δ A nc fin (m :: ms) st p = sumV (fun v => (stepW δ A nc fin m ms st p v).length) A := by
  unfold cnt
  rw [words_cons, len_flat]
  congr 1
  funext v
  simp
theorem sumV_mono (f : Nat → Nat) {a b : Nat} (h : a ≤ b) : sumV f a ≤ sumV f b := by
  induction h with
  | refl => exact Nat.le_refl _
  | step _ ih => exact Nat.le_trans ih (Nat.le_add_right _ _)
theorem getElem_flat {α : Type} (g : Nat → List α) (k : Nat) {v i : Nat} (hv : v < k) (hi : i < (g v).length) : ((List.range k).flatMap g)[sumV (fun v => (g v).length) v + i]? = some (g v)[i] := by
  induction k with
  | zero => omega
  | succ k ih =>
    rw [List.range_succ, List.flatMap_append]
    by_cases c : v = k
    · subst c
      rw [← len_flat g v, List.getElem?_append_right (by omega), Nat.add_sub_cancel_left]
      simp [hi]
    · have hl : sumV (fun v => (g v).length) v + i < ((List.range k).flatMap g).length := by
        rw [len_flat]
        have : sumV (fun v => (g v).length) (v + 1) ≤ sumV (fun v => (g v).length) k := sumV_mono _ (by omega)
        simp only [sumV] at this
        omega
      rw [List.getElem?_append_left hl]
      exact ih (by omega)
/-- the k-th word begins with the value at which the counts of the values before it leave less than its own -/
theorem pick_step (m : Option Nat) (ms : List (Option Nat)) (st p : Nat) {v k : Nat} (hv : v < A) (hk : k < (stepW δ A nc fin m ms st p v).length) :
    (words δ A nc fin (m :: ms) st p)[sumV (fun v => (stepW δ A nc fin m ms st p v).length) v + k]? = some (v :: (stepW δ A nc fin m ms st p v)[k]) := by
  rw [words_cons]
  have h := getElem_flat (fun v => (stepW δ A nc fin m ms st p v).map (v :: ·)) A (v := v) (i := k) hv (by simpa using hk)
  simp only [List.length_map] at h
  rw [h]
  simp
theorem countP_flat (g : Nat → List (List Nat)) (e : Nat) (b : List Nat) : ∀ k, ((List.range k).flatMap fun v => (g v).map (v :: ·)).countP (fun u => decide (ltW u (e :: b))) = sumV (fun v => (g v).length) (min k e) + if e < k then (g e).countP (fun u => decide (ltW u b)) else 0
  | 0 => by simp [sumV]
  | k + 1 => by
    rw [List.range_succ, List.flatMap_append, List.countP_append, countP_flat g e b k]
    simp only [List.flatMap_cons, List.flatMap_nil, List.append_nil, List.countP_map]
    rcases Nat.lt_trichotomy k e with c | c | c
    · rw [show ((fun u => decide (ltW u (e :: b))) ∘ (k :: ·)) = fun _ => true from funext fun u => decide_eq_true (p := ltW (k :: u) (e :: b)) (.inl c)]
      rw [if_neg (by omega), if_neg (by omega), Nat.min_eq_left (by omega), Nat.min_eq_left (by omega)]
      simp [sumV]
    · subst c
      rw [show ((fun u => decide (ltW u (k :: b))) ∘ (k :: ·)) = fun u => decide (ltW u b) from funext fun u => (decide_eq_decide (p := ltW (k :: u) (k :: b)) (q := ltW u b)).2 ⟨fun h => by rcases h with h | h; exact absurd h (Nat.lt_irrefl _); exact h.2, fun h => .inr ⟨rfl, h⟩⟩]
      rw [if_neg (by omega), if_pos (by omega), Nat.min_eq_left (by omega), Nat.min_eq_right (by omega), Nat.add_zero]
    · rw [show ((fun u => decide (ltW u (e :: b))) ∘ (k :: ·)) = fun _ => false from funext fun u => decide_eq_false (p := ltW (k :: u) (e :: b)) (fun h => by rcases h with h | h <;> omega)]
      rw [if_pos (by omega), if_pos (by omega), Nat.min_eq_right (by omega), Nat.min_eq_right (by omega)]
      simp
/-- how many words are less than one -/
def bel (l : List (List Nat)) (b : List Nat) : Nat := l.countP fun u => decide (ltW u b)
theorem bel_step (m : Option Nat) (ms : List (Option Nat)) (st p : Nat) {e : Nat} (he : e < A) (b : List Nat) :
    bel (words δ A nc fin (m :: ms) st p) (e :: b) = sumV (fun v => (stepW δ A nc fin m ms st p v).length) e + bel (stepW δ A nc fin m ms st p e) b := by
  unfold bel
  rw [words_cons, countP_flat, Nat.min_eq_right (by omega), if_pos he]
theorem bel_nil (l : List (List Nat)) (h : ∀ u ∈ l, u.length = 0) : bel l [] = 0 := by
  unfold bel
  rw [List.countP_eq_zero]
  intro u hu
  rw [List.eq_nil_of_length_eq_zero (h u hu)]
  simpa using (show ¬ ltW [] [] from id)
/-- in a sorted list as many elements as k are less than the k-th -/
theorem bel_at {l : List (List Nat)} (hs : l.Pairwise ltW) {k : Nat} (hk : k < l.length) : bel l l[k] = k := by
  obtain ⟨x, hx⟩ : ∃ x, x = l[k] := ⟨_, rfl⟩
  rw [← hx]
  unfold bel
  rw [List.pairwise_iff_getElem] at hs
  have e1 : (l.take k).countP (fun u => decide (ltW u x)) = k := by
    have hlen : (l.take k).length = k := by rw [List.length_take, Nat.min_eq_left (Nat.le_of_lt hk)]
    have : (l.take k).countP (fun u => decide (ltW u x)) = (l.take k).length := by
      rw [List.countP_eq_length]
      intro u hu
      obtain ⟨i, hi, rfl⟩ := List.mem_iff_getElem.1 hu
      rw [hlen] at hi
      rw [List.getElem_take, hx]
      exact decide_eq_true (hs i k (by omega) hk (by omega))
    omega
  have e2 : (l.drop k).countP (fun u => decide (ltW u x)) = 0 := by
    rw [List.countP_eq_zero]
    intro u hu
    obtain ⟨i, hi, rfl⟩ := List.mem_iff_getElem.1 hu
    rw [List.length_drop] at hi
    rw [List.getElem_drop, hx]
    simp only [decide_eq_true_eq]
    intro h
    rcases Nat.eq_zero_or_pos i with c | c
    · subst c; exact ltW_irrefl _ h
    · exact ltW_irrefl _ (ltW_trans h (hs k (k + i) hk (by omega) (by omega)))
  rw [← List.take_append_drop k l, List.countP_append, e1, e2, Nat.add_zero]
end
end Gw
namespace Gw
def addP (L : List (List Nat)) (x : List Nat) : List (List Nat) := if x ∈ L then L else L ++ [x]
/-- the nodes with those of a banned string: pre is read, rest is to come -/
def addB : List (List Nat) → List Nat → List Nat → List (List Nat)
  | L, _, [] => L
  | L, pre, v :: r => addB (addP L (pre ++ [v])) (pre ++ [v]) r
def treeL (bans : List (List Nat)) : List (List Nat) := bans.foldl (fun L b => addB L [] b) [[]]
/-- the edges of the tree -/
def edge (L : List (List Nat)) (i v : Nat) : Option Nat :=
  match L[i]? with
  | none => none
  | some x => if x ++ [v] ∈ L then some (L.idxOf (x ++ [v])) else none
theorem idx_at {L : List (List Nat)} {x : List Nat} (h : x ∈ L) : L[L.idxOf x]? = some x := by
  have hl := List.idxOf_lt_length_of_mem h
  rw [List.getElem?_eq_getElem hl, List.getElem_idxOf]
theorem idx_of {L : List (List Nat)} (hd : L.Nodup) {i : Nat} {x : List Nat} (h : L[i]? = some x) : L.idxOf x = i := by
  have hx : x ∈ L := List.mem_of_getElem? h
  have h2 := idx_at hx
  obtain ⟨h3, e3⟩ := List.getElem?_eq_some_iff.1 h
  obtain ⟨h4, e4⟩ := List.getElem?_eq_some_iff.1 h2
  exact (List.getElem_inj hd).1 (e4.trans e3.symm)
theorem edge_iff {L : List (List Nat)} (hd : L.Nodup) {i v j : Nat} : edge L i v = some j ↔ ∃ x, L[i]? = some x ∧ L[j]? = some (x ++ [v]) := by
  unfold edge
  constructor
  · intro h
    split at h
    · cases h
    · rename_i x hx
      split at h
      · rename_i hm
        injection h with h
        subst h
        exact ⟨x, hx, idx_at hm⟩
      · cases h
  · rintro ⟨x, h1, h2⟩
    rw [h1]
    simp only
    rw [if_pos (List.mem_of_getElem? h2), idx_of hd h2]
/-- what all trees of nodes keep -/
structure Tree (L : List (List Nat)) : Prop where
  zero : L[0]? = some []
  init : ∀ x v, x ++ [v] ∈ L → x ∈ L
  dup : L.Nodup
theorem Tree.start : Tree [[]] := ⟨rfl, fun x v h => by simp at h, by simp⟩
theorem Tree.push {L : List (List Nat)} (h : Tree L) {x : List Nat} {v : Nat} (hx : x ∈ L) (hn : x ++ [v] ∉ L) : Tree (L ++ [x ++ [v]]) := by
  have hl : 0 < L.length := (List.getElem?_eq_some_iff.1 h.zero).1
  refine ⟨by rw [List.getElem?_append_left hl]; exact h.zero, fun y w hy => ?_, ?_⟩
  · rcases List.mem_append.1 hy with c | c
    · exact List.mem_append_left _ (h.init _ _ c)
    · rw [List.mem_singleton] at c
      obtain ⟨e, _⟩ := List.append_inj' c rfl
      rw [e]; exact List.mem_append_left _ hx
  · rw [List.nodup_append]
    refine ⟨h.dup, by simp, fun a ha b hb => ?_⟩
    rw [List.mem_singleton] at hb
    subst hb
    intro e; exact hn (e ▸ ha)
/-- the edges with one node more -/
theorem edge_push {L : List (List Nat)} (h : Tree L) {s v : Nat} {x : List Nat} (hs : L[s]? = some x) (hn : x ++ [v] ∉ L) (i w : Nat) : edge (L ++ [x ++ [v]]) i w = if i = s ∧ w = v then some L.length else edge L i w := by
  have hT := h.push (List.mem_of_getElem? hs) hn
  have hsl : s < L.length := (List.getElem?_eq_some_iff.1 hs).1
  by_cases c : i = s ∧ w = v
  · rw [if_pos c]
    obtain ⟨rfl, rfl⟩ := c
    rw [edge_iff hT.dup]
    exact ⟨x, by rw [List.getElem?_append_left hsl]; exact hs, by rw [List.getElem?_append_right (Nat.le_refl _)]; simp⟩
  · rw [if_neg c]
    apply Option.ext
    intro j
    rw [edge_iff hT.dup, edge_iff h.dup]
    constructor
    · rintro ⟨y, h1, h2⟩
      have hi : i < (L ++ [x ++ [v]]).length := (List.getElem?_eq_some_iff.1 h1).1
      have hj : j < (L ++ [x ++ [v]]).length := (List.getElem?_eq_some_iff.1 h2).1
      rw [List.length_append, List.length_singleton] at hi hj
      have hil : i < L.length := by
        rcases Nat.lt_or_ge i L.length with d | d
        · exact d
        · exfalso
          have hi2 : i = L.length := by omega
          rw [hi2, List.getElem?_append_right (Nat.le_refl _), Nat.sub_self] at h1
          simp at h1
          subst h1
          rcases Nat.lt_or_ge j L.length with e | e
          · rw [List.getElem?_append_left e] at h2
            exact hn (h.init _ _ (List.mem_of_getElem? h2))
          · have hj2 : j = L.length := by omega
            rw [hj2, List.getElem?_append_right (Nat.le_refl _), Nat.sub_self] at h2
            simp at h2
      rw [List.getElem?_append_left hil] at h1
      rcases Nat.lt_or_ge j L.length with e | e
      · rw [List.getElem?_append_left e] at h2
        exact ⟨y, h1, h2⟩
      · exfalso
        have hj2 : j = L.length := by omega
        rw [hj2, List.getElem?_append_right (Nat.le_refl _), Nat.sub_self] at h2
        simp only [List.getElem?_cons_zero, Option.some.injEq] at h2
        obtain ⟨e1, e2⟩ := List.append_inj' h2 rfl
        simp at e2
        subst e1; subst e2
        exact c ⟨(idx_of h.dup h1).symm.trans (idx_of h.dup hs), rfl⟩
    · rintro ⟨y, h1, h2⟩
      have hi := (List.getElem?_eq_some_iff.1 h1).1
      have hj := (List.getElem?_eq_some_iff.1 h2).1
      exact ⟨y, by rw [List.getElem?_append_left hi]; exact h1, by rw [List.getElem?_append_left hj]; exact h2⟩
theorem addP_tree {L : List (List Nat)} (h : Tree L) {x : List Nat} {v : Nat} (hx : x ∈ L) : Tree (addP L (x ++ [v])) ∧ x ++ [v] ∈ addP L (x ++ [v]) ∧ (∀ y ∈ L, y ∈ addP L (x ++ [v])) ∧ (addP L (x ++ [v])).length ≤ L.length + 1 := by
  unfold addP
  split
  · exact ⟨h, by assumption, fun _ h => h, by omega⟩
  · exact ⟨h.push hx (by assumption), by simp, fun y hy => List.mem_append_left _ hy, by simp⟩
theorem addB_tree : ∀ {r pre : List Nat} {L : List (List Nat)}, Tree L → pre ∈ L → Tree (addB L pre r) ∧ pre ++ r ∈ addB L pre r ∧ (∀ y ∈ L, y ∈ addB L pre r) ∧ (addB L pre r).length ≤ L.length + r.length
  | [], pre, L, h, hp => ⟨h, by rw [List.append_nil]; exact hp, fun _ h => h, by unfold addB; omega⟩
  | v :: r, pre, L, h, hp => by
    obtain ⟨h1, h2, h3, h4⟩ := addP_tree (v := v) h hp
    obtain ⟨k1, k2, k3, k4⟩ := addB_tree (r := r) h1 h2
    refine ⟨k1, by rw [show pre ++ v :: r = (pre ++ [v]) ++ r by simp]; exact k2, fun y hy => k3 y (h3 y hy), ?_⟩
    unfold addB
    simp only [List.length_cons]
    omega
theorem foldB_tree : ∀ (bans : List (List Nat)) {L : List (List Nat)}, Tree L → Tree (bans.foldl (fun L b => addB L [] b) L) ∧ (∀ b ∈ bans, b ∈ bans.foldl (fun L b => addB L [] b) L) ∧ (∀ y ∈ L, y ∈ bans.foldl (fun L b => addB L [] b) L)
  | [], L, h => ⟨h, fun b hb => (List.not_mem_nil hb).elim, fun _ h => h⟩
  | b :: bans, L, h => by
    obtain ⟨h1, h2, h3, -⟩ := addB_tree (r := b) h (List.mem_of_getElem? h.zero)
    obtain ⟨k1, k2, k3⟩ := foldB_tree bans h1
    refine ⟨k1, fun x hx => ?_, fun y hy => k3 y (h3 y hy)⟩
    rcases List.mem_cons.1 hx with e | e
    · rw [e]; exact k3 _ h2
    · exact k2 x e
theorem treeL_nodes (bans : List (List Nat)) : Nodes bans (treeL bans) := by
  obtain ⟨h1, h2, -⟩ := foldB_tree bans Tree.start
  exact ⟨h1.zero, h1.init, h2, h1.dup⟩
theorem Nodes.tree {bans L : List (List Nat)} (h : Nodes bans L) : Tree L := ⟨h.zero, h.init, h.dup⟩
/-- the values of all nodes -/
def Vals (A : Nat) (L : List (List Nat)) : Prop := ∀ x ∈ L, ∀ v ∈ x, v < A
theorem addP_vals {A : Nat} {L : List (List Nat)} (h : Vals A L) {x : List Nat} {v : Nat} (hx : ∀ w ∈ x, w < A) (hv : v < A) : Vals A (addP L (x ++ [v])) := by
  unfold addP
  split
  · exact h
  · intro y hy w hw
    rcases List.mem_append.1 hy with c | c
    · exact h y c w hw
    · rw [List.mem_singleton] at c
      subst c
      rcases List.mem_append.1 hw with d | d
      · exact hx w d
      · rw [List.mem_singleton] at d; rw [d]; exact hv
theorem addB_vals {A : Nat} : ∀ {r pre : List Nat} {L : List (List Nat)}, Vals A L → (∀ w ∈ pre, w < A) → (∀ w ∈ r, w < A) → Vals A (addB L pre r)
  | [], _, _, h, _, _ => h
  | v :: r, pre, L, h, hp, hr => by
    unfold addB
    refine addB_vals (addP_vals h hp (hr v (by simp))) (fun w hw => ?_) fun w hw => hr w (by simp [hw])
    rcases List.mem_append.1 hw with d | d
    · exact hp w d
    · rw [List.mem_singleton] at d; rw [d]; exact hr v (by simp)
theorem foldB_vals {A : Nat} : ∀ (bans : List (List Nat)) {L : List (List Nat)}, Vals A L → (∀ b ∈ bans, ∀ w ∈ b, w < A) → Vals A (bans.foldl (fun L b => addB L [] b) L)
  | [], _, h, _ => h
  | b :: bans, L, h, hb => foldB_vals bans (addB_vals h (by simp) (hb b (by simp))) fun b' hb' => hb b' (by simp [hb'])
theorem treeL_vals {A : Nat} {bans : List (List Nat)} (hb : ∀ b ∈ bans, ∀ w ∈ b, w < A) : Vals A (treeL bans) := foldB_vals bans (fun x hx v hv => by simp at hx; subst hx; simp at hv) hb
/-- how many bytes the banned strings have -/
def sumL : List (List Nat) → Nat
  | [] => 0
  | b :: l => b.length + sumL l
theorem foldB_len : ∀ (bans : List (List Nat)) {L : List (List Nat)}, Tree L → (bans.foldl (fun L b => addB L [] b) L).length ≤ L.length + sumL bans
  | [], L, _ => by simp [sumL]
  | b :: bans, L, h => by
    obtain ⟨h1, -, -, h4⟩ := addB_tree (r := b) h (List.mem_of_getElem? h.zero)
    have := foldB_len bans h1
    simp only [List.foldl_cons, sumL]
    omega
theorem treeL_len (bans : List (List Nat)) : (treeL bans).length ≤ 1 + sumL bans := foldB_len bans Tree.start
theorem treeL_snoc (bans : List (List Nat)) (b : List Nat) : treeL (bans ++ [b]) = addB (treeL bans) [] b := by
  unfold treeL; rw [List.foldl_append]; rfl
end Gw
namespace Gw
/-- how long a node is -/
def dl (L : List (List Nat)) (i : Nat) : Nat := (L[i]?.getD []).length
/-- the search of the nodes: P are done, c is under way up to the value v, R wait -/
structure BI (L : List (List Nat)) (P : List Nat) (c v : Nat) (R : List Nat) : Prop where
  nd : (P ++ c :: R).Nodup
  lt : ∀ i ∈ P ++ c :: R, i < L.length
  so : (P ++ c :: R).Pairwise fun a b => dl L a ≤ dl L b
  hi : ∀ a ∈ P ++ c :: R, dl L a ≤ dl L c + 1
  z : 0 ∈ P ++ c :: R
  cl : ∀ p ∈ P, ∀ w j, edge L p w = some j → j ∈ P ++ c :: R
  clc : ∀ w j, w < v → edge L c w = some j → j ∈ P ++ c :: R
  src : ∀ j ∈ P ++ c :: R, j = 0 ∨ ∃ p w, edge L p w = some j ∧ (p ∈ P ∨ (p = c ∧ w < v))
theorem edge_len {L : List (List Nat)} (hd : L.Nodup) {i v j : Nat} (h : edge L i v = some j) : dl L j = dl L i + 1 := by
  obtain ⟨x, h1, h2⟩ := (edge_iff hd).1 h
  unfold dl
  rw [h1, h2]; simp
theorem edge_inj {L : List (List Nat)} (hd : L.Nodup) {i v j i' v' : Nat} (h : edge L i v = some j) (h' : edge L i' v' = some j) : i = i' ∧ v = v' := by
  obtain ⟨x, h1, h2⟩ := (edge_iff hd).1 h
  obtain ⟨y, h3, h4⟩ := (edge_iff hd).1 h'
  rw [h2] at h4
  injection h4 with h4
  obtain ⟨e1, e2⟩ := List.append_inj' h4 rfl
  simp at e2
  subst e1
  exact ⟨(idx_of hd h1).symm.trans (idx_of hd h3), e2⟩
theorem edge_lt {L : List (List Nat)} (hd : L.Nodup) {i v j : Nat} (h : edge L i v = some j) : j < L.length := by
  obtain ⟨x, h1, h2⟩ := (edge_iff hd).1 h
  exact (List.getElem?_eq_some_iff.1 h2).1
theorem edge_val {A : Nat} {L : List (List Nat)} (hv : Vals A L) (hd : L.Nodup) {i v j : Nat} (h : edge L i v = some j) : v < A := by
  obtain ⟨x, h1, h2⟩ := (edge_iff hd).1 h
  exact hv _ (List.mem_of_getElem? h2) v (by simp)
theorem dl_zero {L : List (List Nat)} (h : Tree L) : dl L 0 = 0 := by unfold dl; rw [h.zero]; rfl
theorem BI.start {L : List (List Nat)} (h : Tree L) : BI L [] 0 0 [] := by
  have hl : 0 < L.length := (List.getElem?_eq_some_iff.1 h.zero).1
  exact ⟨by simp, by simp [hl], by simp, by simp [dl_zero h], by simp, fun p hp => by simp at hp, fun w j hw => by omega, fun j hj => .inl (by simpa using hj)⟩
theorem BI.push {L : List (List Nat)} {P R : List Nat} {c v j : Nat} (h : BI L P c v R) (hT : Tree L) (e : edge L c v = some j) : BI L P c (v + 1) (R ++ [j]) := by
  have hO : P ++ c :: (R ++ [j]) = (P ++ c :: R) ++ [j] := by simp
  have hjl := edge_len hT.dup e
  have hjn : j ∉ P ++ c :: R := fun hj => by
    rcases h.src j hj with rfl | ⟨p, w, hp, hq⟩
    · rw [dl_zero hT] at hjl; omega
    · obtain ⟨rfl, rfl⟩ := edge_inj hT.dup hp e
      rcases hq with hq | ⟨_, hq⟩
      · exact (List.nodup_append.1 h.nd).2.2 p hq p (by simp) rfl
      · omega
  constructor
  · rw [hO, List.nodup_append]
    refine ⟨h.nd, by simp, fun a ha b hb => ?_⟩
    rw [List.mem_singleton] at hb
    subst hb
    intro e2; exact hjn (e2 ▸ ha)
  · rw [hO]; intro i hi
    rcases List.mem_append.1 hi with d | d
    · exact h.lt i d
    · rw [List.mem_singleton] at d; rw [d]; exact edge_lt hT.dup e
  · rw [hO, List.pairwise_append]
    refine ⟨h.so, by simp, fun a ha b hb => ?_⟩
    rw [List.mem_singleton] at hb
    have := h.hi a ha
    rw [hb, hjl]; exact this
  · rw [hO]; intro a ha
    rcases List.mem_append.1 ha with d | d
    · exact h.hi a d
    · rw [List.mem_singleton] at d; rw [d, hjl]; exact Nat.le_refl _
  · rw [hO]; exact List.mem_append_left _ h.z
  · rw [hO]; intro p hp w k hk; exact List.mem_append_left _ (h.cl p hp w k hk)
  · rw [hO]; intro w k hw hk
    rcases Nat.lt_succ_iff_lt_or_eq.1 hw with d | d
    · exact List.mem_append_left _ (h.clc w k d hk)
    · subst d
      rw [e] at hk
      injection hk with hk
      subst hk
      simp
  · rw [hO]; intro k hk
    rcases List.mem_append.1 hk with d | d
    · rcases h.src k d with r | ⟨p, w, h1, h2⟩
      · exact .inl r
      · exact .inr ⟨p, w, h1, h2.imp id fun ⟨a, b⟩ => ⟨a, by omega⟩⟩
    · rw [List.mem_singleton] at d
      subst d
      exact .inr ⟨c, v, e, .inr ⟨rfl, by omega⟩⟩
theorem BI.skip {L : List (List Nat)} {P R : List Nat} {c v : Nat} (h : BI L P c v R) (e : edge L c v = none) : BI L P c (v + 1) R := by
  refine ⟨h.nd, h.lt, h.so, h.hi, h.z, h.cl, fun w j hw hk => ?_, fun j hj => ?_⟩
  · rcases Nat.lt_succ_iff_lt_or_eq.1 hw with d | d
    · exact h.clc w j d hk
    · subst d; rw [e] at hk; cases hk
  · rcases h.src j hj with r | ⟨p, w, h1, h2⟩
    · exact .inl r
    · exact .inr ⟨p, w, h1, h2.imp id fun ⟨a, b⟩ => ⟨a, by omega⟩⟩
theorem BI.next {L : List (List Nat)} {P R : List Nat} {c d A : Nat} (h : BI L P c A (d :: R)) (hT : Tree L) (hv : Vals A L) : BI L (P ++ [c]) d 0 R := by
  have hO : (P ++ [c]) ++ d :: R = P ++ c :: d :: R := by simp
  constructor
  · rw [hO]; exact h.nd
  · rw [hO]; exact h.lt
  · rw [hO]; exact h.so
  · rw [hO]; intro a ha
    have h1 := h.hi a ha
    have h2 : dl L c ≤ dl L d := by
      have := (List.pairwise_append.1 h.so).2.1
      exact (List.pairwise_cons.1 this).1 d (by simp)
    omega
  · rw [hO]; exact h.z
  · rw [hO]; intro p hp w j hj
    rcases List.mem_append.1 hp with r | r
    · exact h.cl p r w j hj
    · rw [List.mem_singleton] at r
      subst r
      exact h.clc w j (edge_val hv hT.dup hj) hj
  · intro w j hw; omega
  · rw [hO]; intro j hj
    rcases h.src j hj with r | ⟨p, w, h1, h2⟩
    · exact .inl r
    · refine .inr ⟨p, w, h1, .inl ?_⟩
      rcases h2 with h2 | ⟨h2, _⟩
      · exact List.mem_append_left _ h2
      · rw [h2]; simp
/-- nodes no longer than the one under way have been met, shorter ones are done -/
theorem BI.early {L : List (List Nat)} {P R : List Nat} {c v : Nat} (h : BI L P c v R) (hT : Tree L) : ∀ (x : List Nat) (i : Nat), L[i]? = some x → (x.length ≤ dl L c → i ∈ P ++ c :: R) ∧ (x.length < dl L c → i ∈ P) := by
  intro x
  induction hn : x.length generalizing x with
  | zero =>
    intro i hi
    have hx : x = [] := List.eq_nil_of_length_eq_zero hn
    subst hx
    have h0 : i = 0 := (idx_of hT.dup hi).symm.trans (idx_of hT.dup hT.zero)
    subst h0
    refine ⟨fun _ => h.z, fun hl => ?_⟩
    rcases List.mem_append.1 h.z with e | e
    · exact e
    · exfalso
      have h1 : dl L c ≤ dl L 0 := by
        rcases List.mem_cons.1 e with e | e
        · rw [← e]; exact Nat.le_refl _
        · have := (List.pairwise_append.1 h.so).2.1
          exact (List.pairwise_cons.1 this).1 0 e
      rw [dl_zero hT] at h1
      omega
  | succ n ih =>
    intro i hi
    rcases List.eq_nil_or_concat x with rfl | ⟨y, w, rfl⟩
    · simp at hn
    · rw [List.concat_eq_append] at hi hn
      have hy : y ∈ L := hT.init y w (List.mem_of_getElem? hi)
      obtain ⟨k, hk⟩ : ∃ k, L[k]? = some y := List.mem_iff_getElem?.1 hy
      have hyl : y.length = n := by simpa using hn
      have he : edge L k w = some i := (edge_iff hT.dup).2 ⟨y, hk, hi⟩
      have hin : n + 1 ≤ dl L c → i ∈ P ++ c :: R := fun hl => h.cl k ((ih y hyl k hk).2 (by omega)) w i he
      refine ⟨hin, fun hl => ?_⟩
      rcases List.mem_append.1 (hin (by omega)) with e | e
      · exact e
      · exfalso
        have h1 : dl L c ≤ dl L i := by
          rcases List.mem_cons.1 e with e | e
          · rw [← e]; exact Nat.le_refl _
          · have := (List.pairwise_append.1 h.so).2.1
            exact (List.pairwise_cons.1 this).1 i e
        have h2 : dl L i = n + 1 := by unfold dl; rw [hi]; simpa using hn
        omega
/-- at the end all nodes are done -/
theorem BI.all {L : List (List Nat)} {P : List Nat} {c A : Nat} (h : BI L P c A []) (hT : Tree L) (hv : Vals A L) : ∀ i, i < L.length → i ∈ P ++ [c] := by
  have key : ∀ (x : List Nat) (i : Nat), L[i]? = some x → i ∈ P ++ [c] := by
    intro x
    induction hn : x.length generalizing x with
    | zero =>
      intro i hi
      have hx : x = [] := List.eq_nil_of_length_eq_zero hn
      subst hx
      have h0 : i = 0 := (idx_of hT.dup hi).symm.trans (idx_of hT.dup hT.zero)
      subst h0
      exact h.z
    | succ n ih =>
      intro i hi
      rcases List.eq_nil_or_concat x with rfl | ⟨y, w, rfl⟩
      · simp at hn
      · rw [List.concat_eq_append] at hi hn
        have hy : y ∈ L := hT.init y w (List.mem_of_getElem? hi)
        obtain ⟨k, hk⟩ : ∃ k, L[k]? = some y := List.mem_iff_getElem?.1 hy
        have he : edge L k w = some i := (edge_iff hT.dup).2 ⟨y, hk, hi⟩
        rcases List.mem_append.1 (ih y (by simpa using hn) k hk) with e | e
        · exact h.cl k e w i he
        · rw [List.mem_singleton] at e
          subst e
          exact h.clc w i (edge_val hv hT.dup he) he
  intro i hi
  exact key L[i] i (List.getElem?_eq_getElem hi)
theorem nodup_lt_len : ∀ {n : Nat} {l : List Nat}, l.Nodup → (∀ i ∈ l, i < n) → l.length ≤ n
  | 0, l, _, hl => by
    cases l with
    | nil => simp
    | cons a t => have := hl a (by simp); omega
  | n + 1, l, hd, hl => by
    have h1 := nodup_lt_len (n := n) (hd.erase n) fun i hi => by
      have h2 := hl i (List.mem_of_mem_erase hi)
      have h3 : i ≠ n := fun e => (hd.mem_erase_iff.1 hi).1 e
      omega
    have h4 := List.length_erase (a := n) (l := l)
    split at h4 <;> omega
theorem BI.len {L : List (List Nat)} {P R : List Nat} {c v : Nat} (h : BI L P c v R) : P.length + 1 + R.length ≤ L.length := by
  have := nodup_lt_len h.nd h.lt
  simp at this
  omega
end Gw
namespace Gw
/-- the word of a node -/
def nodeW (L : List (List Nat)) (i : Nat) : List Nat := L[i]?.getD []
/-- where a node goes by a value, in the completed automaton -/
def fullE (L : List (List Nat)) (i v : Nat) : Nat := L.idxOf (lsuf L (nodeW L i ++ [v]))
/-- the longest shorter node with which a node ends -/
def failE (L : List (List Nat)) (i : Nat) : Nat := L.idxOf (lsuf L (nodeW L i).tail)
def asideE (L : List (List Nat)) (i v : Nat) : Nat := if i = 0 then 0 else L.idxOf (lsuf L ((nodeW L i).tail ++ [v]))
/-- the moves, where P are done and c up to v -/
def mvF (L : List (List Nat)) (A : Nat) (P : List Nat) (c v : Nat) (i w : Nat) : Option Nat := if w < A ∧ (i ∈ P ∨ (i = c ∧ w < v)) then some (fullE L i w) else edge L i w
def shF (L : List (List Nat)) (O : List Nat) (j : Nat) : Nat := if j ∈ O then failE L j else 0
def enF (bans L : List (List Nat)) (O : List Nat) (j : Nat) : Bool := if j ∈ O then decide (EndsB bans (nodeW L j)) else decide (nodeW L j ∈ bans)
theorem nodeW_at {L : List (List Nat)} {i : Nat} (h : i < L.length) : L[i]? = some (nodeW L i) := by unfold nodeW; rw [List.getElem?_eq_getElem h]; rfl
theorem nodeW_idx {L : List (List Nat)} {x : List Nat} (h : x ∈ L) : nodeW L (L.idxOf x) = x := by unfold nodeW; rw [idx_at h]; rfl
theorem nodeW_zero {L : List (List Nat)} (h : Tree L) : nodeW L 0 = [] := by unfold nodeW; rw [h.zero]; rfl
theorem idx_nil {L : List (List Nat)} (h : Tree L) : L.idxOf [] = 0 := idx_of h.dup h.zero
theorem node_nil {L : List (List Nat)} (h : Tree L) {i : Nat} (hi : i < L.length) (hw : nodeW L i = []) : i = 0 := by
  have := idx_of h.dup (nodeW_at hi)
  rw [hw, idx_nil h] at this
  exact this.symm
theorem Tree.nil {L : List (List Nat)} (h : Tree L) : [] ∈ L := List.mem_of_getElem? h.zero
theorem fullE_lt {L : List (List Nat)} (h : Tree L) (i v : Nat) : fullE L i v < L.length := List.idxOf_lt_length_of_mem (lsuf_mem h.nil _)
theorem failE_lt {L : List (List Nat)} (h : Tree L) (i : Nat) : failE L i < L.length := List.idxOf_lt_length_of_mem (lsuf_mem h.nil _)
theorem lsuf_notin {L : List (List Nat)} {x : List Nat} (h : x ∉ L) (hx : x ≠ []) : lsuf L x = lsuf L x.tail := by
  cases x with
  | nil => exact absurd rfl hx
  | cons a t =>
    show lsuf L (a :: t) = lsuf L t
    conv => lhs; unfold lsuf
    rw [if_neg h]
theorem lsuf_in {L : List (List Nat)} {x : List Nat} (h : x ∈ L) : lsuf L x = x := by
  cases x with
  | nil => rfl
  | cons a t => unfold lsuf; rw [if_pos h]
theorem BI.clt {L : List (List Nat)} {P R : List Nat} {c v : Nat} (h : BI L P c v R) : c < L.length := h.lt c (by simp)
/-- a move by a value that has not come: an edge of the tree -/
theorem BI.mv_now {L : List (List Nat)} {A : Nat} {P R : List Nat} {c v : Nat} (h : BI L P c v R) : mvF L A P c v c v = edge L c v := by
  unfold mvF
  rw [if_neg]
  rintro ⟨_, h2⟩
  rcases h2 with h2 | ⟨_, h2⟩
  · exact (List.nodup_append.1 h.nd).2.2 c h2 c (by simp) rfl
  · omega
section
variable {bans L : List (List Nat)} {A : Nat} {P R : List Nat} {c v : Nat} (h : BI L P c v R) (hT : Tree L)
include h hT
/-- the move aside has been laid before -/
theorem BI.aside (hc : c ≠ 0) (hvA : v < A) : mvF L A P c v (failE L c) v = some (asideE L c v) := by
  have hcl := h.clt
  have hw : nodeW L c ≠ [] := fun e => hc (node_nil hT hcl e)
  have hy := lsuf_mem hT.nil (nodeW L c).tail
  have hlen : (lsuf L (nodeW L c).tail).length < dl L c := by
    have h1 := (lsuf_suffix L (nodeW L c).tail).length_le
    have h2 : (nodeW L c).tail.length + 1 = (nodeW L c).length := by
      cases hn : nodeW L c with
      | nil => exact absurd hn hw
      | cons a t => simp
    have h3 : dl L c = (nodeW L c).length := rfl
    omega
  have hP : failE L c ∈ P := (h.early hT _ _ (idx_at hy)).2 hlen
  unfold mvF
  rw [if_pos ⟨hvA, .inl hP⟩]
  unfold asideE
  rw [if_neg hc]
  unfold fullE failE
  rw [nodeW_idx hy, lsuf_step hT.nil hT.init]
theorem BI.aside_in : asideE L c v ∈ P ++ c :: R := by
  have hcl := h.clt
  by_cases hc : c = 0
  · unfold asideE
    rw [if_pos hc]
    exact h.z
  · unfold asideE
    rw [if_neg hc]
    have hy := lsuf_mem hT.nil ((nodeW L c).tail ++ [v])
    have hw : nodeW L c ≠ [] := fun e => hc (node_nil hT hcl e)
    refine (h.early hT _ _ (idx_at hy)).1 ?_
    have h1 := (lsuf_suffix L ((nodeW L c).tail ++ [v])).length_le
    have h2 : (nodeW L c).tail.length + 1 = (nodeW L c).length := by
      cases hn : nodeW L c with
      | nil => exact absurd hn hw
      | cons a t => simp
    have h3 : dl L c = (nodeW L c).length := rfl
    rw [List.length_append, List.length_singleton] at h1
    omega
theorem BI.full_none (e : edge L c v = none) : fullE L c v = asideE L c v := by
  have hcl := h.clt
  have hn : nodeW L c ++ [v] ∉ L := fun hm => by
    unfold edge at e
    rw [nodeW_at hcl] at e
    simp only at e
    rw [if_pos hm] at e
    cases e
  unfold fullE asideE
  rw [lsuf_notin hn (by simp)]
  by_cases hc : c = 0
  · rw [if_pos hc, hc, nodeW_zero hT]
    exact idx_nil hT
  · rw [if_neg hc]
    have hw : nodeW L c ≠ [] := fun e => hc (node_nil hT hcl e)
    cases hn2 : nodeW L c with
    | nil => exact absurd hn2 hw
    | cons a t => rfl
theorem BI.full_some {j : Nat} (e : edge L c v = some j) : fullE L c v = j ∧ failE L j = asideE L c v ∧ nodeW L j = nodeW L c ++ [v] := by
  have hcl := h.clt
  obtain ⟨x, h1, h2⟩ := (edge_iff hT.dup).1 e
  rw [nodeW_at hcl] at h1
  injection h1 with h1
  subst h1
  have hj : nodeW L j = nodeW L c ++ [v] := by unfold nodeW; rw [h2]; rfl
  refine ⟨?_, ?_, hj⟩
  · unfold fullE
    rw [lsuf_in (List.mem_of_getElem? h2)]
    exact idx_of hT.dup h2
  · unfold failE asideE
    rw [hj]
    by_cases hc : c = 0
    · rw [if_pos hc, hc, nodeW_zero hT]
      exact idx_nil hT
    · rw [if_neg hc]
      have hw : nodeW L c ≠ [] := fun e => hc (node_nil hT hcl e)
      cases hn2 : nodeW L c with
      | nil => exact absurd hn2 hw
      | cons a t => rfl
theorem BI.mv_none (e : edge L c v = none) (hvA : v < A) (i w : Nat) : mvF L A P c (v + 1) i w = if i = c ∧ w = v then some (asideE L c v) else mvF L A P c v i w := by
  by_cases q : i = c ∧ w = v
  · rw [if_pos q]
    obtain ⟨rfl, rfl⟩ := q
    unfold mvF
    rw [if_pos ⟨hvA, .inr ⟨rfl, by omega⟩⟩, h.full_none hT e]
  · rw [if_neg q]
    unfold mvF
    by_cases r : w < A ∧ (i ∈ P ∨ (i = c ∧ w < v))
    · rw [if_pos r, if_pos ⟨r.1, r.2.imp id fun ⟨a, b⟩ => ⟨a, by omega⟩⟩]
    · rw [if_neg r, if_neg]
      rintro ⟨h1, h2⟩
      refine r ⟨h1, h2.imp id fun ⟨a, b⟩ => ⟨a, ?_⟩⟩
      rcases Nat.lt_succ_iff_lt_or_eq.1 b with d | d
      · exact d
      · exact absurd ⟨a, d⟩ q
theorem BI.mv_some {j : Nat} (e : edge L c v = some j) (i w : Nat) : mvF L A P c (v + 1) i w = mvF L A P c v i w := by
  unfold mvF
  by_cases r : w < A ∧ (i ∈ P ∨ (i = c ∧ w < v))
  · rw [if_pos r, if_pos ⟨r.1, r.2.imp id fun ⟨a, b⟩ => ⟨a, by omega⟩⟩]
  · rw [if_neg r]
    split
    · rename_i q
      obtain ⟨h1, h2⟩ := q
      rcases h2 with h2 | ⟨h2, h3⟩
      · exact absurd ⟨h1, .inl h2⟩ r
      · rcases Nat.lt_succ_iff_lt_or_eq.1 h3 with d | d
        · exact absurd ⟨h1, .inr ⟨h2, d⟩⟩ r
        · subst d; subst h2
          rw [e, (h.full_some hT e).1]
    · rfl
theorem BI.sh_some {j : Nat} (e : edge L c v = some j) (i : Nat) : shF L (P ++ c :: (R ++ [j])) i = if i = j then asideE L c v else shF L (P ++ c :: R) i := by
  unfold shF
  by_cases q : i = j
  · rw [if_pos q, q, if_pos (by simp), (h.full_some hT e).2.1]
  · rw [if_neg q]
    by_cases r : i ∈ P ++ c :: R
    · rw [if_pos r, if_pos (by simp at r ⊢; rcases r with r | r | r <;> simp [r])]
    · rw [if_neg r, if_neg (by simp at r ⊢; simp [r, q])]
theorem BI.not_in {j : Nat} (e : edge L c v = some j) : j ∉ P ++ c :: R := fun hj => by
  rcases h.src j hj with rfl | ⟨p, w, hp, hq⟩
  · have := edge_len hT.dup e
    rw [dl_zero hT] at this; omega
  · obtain ⟨rfl, rfl⟩ := edge_inj hT.dup hp e
    rcases hq with hq | ⟨_, hq⟩
    · exact (List.nodup_append.1 h.nd).2.2 p hq p (by simp) rfl
    · omega
theorem BI.en_some {j : Nat} (e : edge L c v = some j) (hb : ∀ b ∈ bans, b ∈ L) (i : Nat) : enF bans L (P ++ c :: (R ++ [j])) i = if i = j then (enF bans L (P ++ c :: R) j || enF bans L (P ++ c :: R) (asideE L c v)) else enF bans L (P ++ c :: R) i := by
  obtain ⟨h1, h2, h3⟩ := h.full_some hT e
  by_cases q : i = j
  · rw [if_pos q, q]
    unfold enF
    rw [if_pos (by simp), if_neg (h.not_in hT e), if_pos (h.aside_in hT)]
    have ha : nodeW L (asideE L c v) = lsuf L (nodeW L j).tail := by
      rw [← h2]; unfold failE; exact nodeW_idx (lsuf_mem hT.nil _)
    rw [ha]
    have hk : EndsB bans (nodeW L j) ↔ nodeW L j ∈ bans ∨ EndsB bans (lsuf L (nodeW L j).tail) := by
      rw [ends_lsuf hb]
      have hne : nodeW L j ≠ [] := by rw [h3]; simp
      cases hn : nodeW L j with
      | nil => exact absurd hn hne
      | cons a t =>
        constructor
        · rintro ⟨b, hb1, hb2⟩
          rcases List.suffix_cons_iff.1 hb2 with d | d
          · exact .inl (d ▸ hb1)
          · exact .inr ⟨b, hb1, d⟩
        · rintro (d | ⟨b, hb1, hb2⟩)
          · exact ⟨_, d, List.suffix_refl _⟩
          · exact ⟨b, hb1, hb2.trans (List.suffix_cons a t)⟩
    by_cases q1 : nodeW L j ∈ bans
    · simp [hk, q1]
    · simp [hk, q1]
  · rw [if_neg q]
    unfold enF
    by_cases r : i ∈ P ++ c :: R
    · rw [if_pos r, if_pos (by simp at r ⊢; rcases r with r | r | r <;> simp [r])]
    · rw [if_neg r, if_neg (by simp at r ⊢; simp [r, q])]
end
theorem mvF_next (L : List (List Nat)) (A : Nat) (P : List Nat) (c d : Nat) (i w : Nat) : mvF L A (P ++ [c]) d 0 i w = mvF L A P c A i w := by
  unfold mvF
  by_cases q : w < A ∧ (i ∈ P ∨ (i = c ∧ w < A))
  · rw [if_pos q, if_pos ⟨q.1, .inl (by rcases q.2 with r | r; exact List.mem_append_left _ r; simp [r.1])⟩]
  · rw [if_neg q, if_neg]
    rintro ⟨h1, h2⟩
    rcases h2 with h2 | ⟨_, h2⟩
    · rcases List.mem_append.1 h2 with r | r
      · exact q ⟨h1, .inl r⟩
      · exact q ⟨h1, .inr ⟨by simpa using r, h1⟩⟩
    · omega
theorem mvF_start (L : List (List Nat)) (A : Nat) (i w : Nat) : mvF L A [] 0 0 i w = edge L i w := by
  unfold mvF
  rw [if_neg]
  rintro ⟨_, h⟩
  rcases h with h | ⟨_, h⟩
  · simp at h
  · omega
/-- the automaton with values below A -/
def autoA (A : Nat) (bans L : List (List Nat)) (i v : Nat) : Option Nat := if v < A then auto bans L i v else none
theorem mvF_end {L : List (List Nat)} {P : List Nat} {c A : Nat} (h : BI L P c A []) (hT : Tree L) (hv : Vals A L) (i w : Nat) : mvF L A P c A i w = if w < A ∧ i < L.length then some (fullE L i w) else none := by
  by_cases q : w < A ∧ i < L.length
  · rw [if_pos q]
    unfold mvF
    rw [if_pos]
    refine ⟨q.1, ?_⟩
    rcases List.mem_append.1 (h.all hT hv i q.2) with r | r
    · exact .inl r
    · exact .inr ⟨by simpa using r, q.1⟩
  · rw [if_neg q]
    unfold mvF
    rw [if_neg]
    · cases he : edge L i w with
      | none => rfl
      | some j =>
        exfalso
        obtain ⟨x, h1, h2⟩ := (edge_iff hT.dup).1 he
        exact q ⟨edge_val hv hT.dup he, (List.getElem?_eq_some_iff.1 h1).1⟩
    · rintro ⟨h1, h2⟩
      refine q ⟨h1, ?_⟩
      rcases h2 with h2 | ⟨h2, _⟩
      · exact h.lt i (List.mem_append_left _ h2)
      · rw [h2]; exact h.lt c (by simp)
theorem autoA_eq {bans L : List (List Nat)} (hN : Nodes bans L) (A : Nat) (i w : Nat) : autoA A bans L i w = if w < A ∧ i < L.length then (if EndsB bans (nodeW L (fullE L i w)) then none else some (fullE L i w)) else none := by
  unfold autoA auto
  by_cases q : w < A
  · by_cases r : i < L.length
    · rw [if_pos q, if_pos ⟨q, r⟩, nodeW_at r]
      simp only
      have : nodeW L (fullE L i w) = lsuf L (nodeW L i ++ [w]) := by unfold fullE; exact nodeW_idx (lsuf_mem hN.nil _)
      rw [this]
      rfl
    · rw [if_pos q, if_neg (fun h => r h.2), List.getElem?_eq_none (by omega)]
  · rw [if_neg q, if_neg (fun h => q h.1)]
theorem enF_end {bans L : List (List Nat)} {P : List Nat} {c A : Nat} (h : BI L P c A []) (hT : Tree L) (hv : Vals A L) {j : Nat} (hj : j < L.length) : enF bans L (P ++ [c]) j = decide (EndsB bans (nodeW L j)) := by
  unfold enF
  rw [if_pos (h.all hT hv j hj)]
end Gw
