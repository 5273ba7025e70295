/- Without banned strings the n-th word is n's digits. -/
import Derived.Test.YtgblfobomiiofaaTSerB
namespace Go.Proofs.Ytgblfobomiiofaa
open Go Go.RowKit Go.Shelf Gw Go.Maps

/-- all words of a length, in order -/
def allW (A : Nat) : Nat → List (List Nat)
  | 0 => [[]]
  | k + 1 => (List.range A).flatMap fun v => (allW A k).map (v :: ·)
/-- the low digits of a number, the highest first -/
def lowD (A : Nat) : Nat → Nat → List Nat
  | 0, _ => []
  | k + 1, n => (n / A ^ k % A) :: lowD A k n
theorem lowD_len (A : Nat) : ∀ (k n : Nat), (lowD A k n).length = k
  | 0, _ => rfl
  | k + 1, n => by
    show (lowD A k n).length + 1 = k + 1
    rw [lowD_len A k n]
theorem lowD_lt {A : Nat} (hA : 0 < A) : ∀ {k n v : Nat}, v ∈ lowD A k n → v < A
  | 0, n, v, h => by
    have h' : v ∈ ([] : List Nat) := h
    simp at h'
  | k + 1, n, v, h => by
    have h' : v ∈ (n / A ^ k % A) :: lowD A k n := h
    rcases List.mem_cons.1 h' with rfl | h2
    · exact Nat.mod_lt _ hA
    · exact lowD_lt hA h2
theorem lowD_mod {A m : Nat} : ∀ {k : Nat} (n : Nat), k ≤ m → lowD A k (n % A ^ m) = lowD A k n
  | 0, _, _ => rfl
  | k + 1, n, h => by
    show (n % A ^ m / A ^ k % A) :: lowD A k (n % A ^ m) = (n / A ^ k % A) :: lowD A k n
    rw [lowD_mod n (by omega)]
    congr 1
    obtain ⟨d, rfl⟩ : ∃ d, m = k + (d + 1) := ⟨m - k - 1, by omega⟩
    rw [Nat.pow_add, Nat.mod_mul_right_div_self]
    exact Nat.mod_mod_of_dvd _ ⟨A ^ d, by rw [Nat.pow_succ, Nat.mul_comm]⟩
theorem flat_len {L : Nat} {g : Nat → List (List Nat)} (hg : ∀ v, (g v).length = L) : ∀ A, ((List.range A).flatMap g).length = A * L
  | 0 => by simp
  | A + 1 => by
    rw [List.range_succ, List.flatMap_append, List.length_append, flat_len hg A]
    simp [hg, Nat.add_mul]
theorem flat_at {L : Nat} {g : Nat → List (List Nat)} (hg : ∀ v, (g v).length = L) {v j : Nat} (hj : j < L) : ∀ {A : Nat}, v < A → ((List.range A).flatMap g)[v * L + j]? = (g v)[j]?
  | 0, h => by omega
  | A + 1, h => by
    have hl := flat_len hg A
    rw [List.range_succ, List.flatMap_append]
    rcases Nat.lt_succ_iff_lt_or_eq.1 h with h2 | h2
    · rw [List.getElem?_append_left, flat_at hg hj h2]
      rw [hl]
      have h3 : (v + 1) * L ≤ A * L := Nat.mul_le_mul_right L h2
      rw [Nat.add_mul] at h3
      omega
    · subst h2
      rw [List.getElem?_append_right (by rw [hl]; omega), hl, Nat.add_sub_cancel_left]
      simp
theorem allW_len (A : Nat) : ∀ k, (allW A k).length = A ^ k
  | 0 => rfl
  | k + 1 => by
    show ((List.range A).flatMap fun v => (allW A k).map (v :: ·)).length = _
    rw [flat_len (L := A ^ k) (fun v => by rw [List.length_map, allW_len A k]), Nat.pow_succ, Nat.mul_comm]
theorem allW_at {A : Nat} (hA : 0 < A) : ∀ {k n : Nat}, n < A ^ k → (allW A k)[n]? = some (lowD A k n)
  | 0, n, h => by
    have : n = 0 := by simpa using h
    subst this
    rfl
  | k + 1, n, h => by
    have hp : 0 < A ^ k := Nat.pow_pos hA
    have hv : n / A ^ k < A := Nat.div_lt_of_lt_mul (by rw [Nat.pow_succ] at h; exact h)
    have hr : n % A ^ k < A ^ k := Nat.mod_lt _ hp
    have e : n = n / A ^ k * A ^ k + n % A ^ k := (Nat.div_add_mod' n (A ^ k)).symm
    show ((List.range A).flatMap fun v => (allW A k).map (v :: ·))[n]? = some ((n / A ^ k % A) :: lowD A k n)
    rw [Nat.mod_eq_of_lt hv]
    have h3 := flat_at (L := A ^ k) (g := fun v => (allW A k).map (v :: ·)) (fun v => by rw [List.length_map, allW_len]) hr hv
    rw [← e] at h3
    rw [h3, List.getElem?_map, allW_at hA hr, lowD_mod n (Nat.le_refl k)]
    rfl
theorem run_snocP (f : Nat → Nat → Option Nat) (v : Nat) : ∀ (u : List Nat) (i : Nat), run f i (u ++ [v]) = (run f i u).bind fun j => f j v
  | [], i => by
    show run f i [v] = f i v
    unfold run
    cases f i v <;> rfl
  | x :: u, i => by
    show run f i (x :: (u ++ [v])) = _
    unfold run
    cases f i x with
    | none => rfl
    | some j => exact run_snocP f v u j
theorem words_full {f : Nat → Nat → Option Nat} {A : Nat} {nc : Nat → Nat → Nat} (hf : ∀ u : List Nat, (∀ v ∈ u, v < A) → (run f 0 u).isSome = true) : ∀ (k st p : Nat), (∃ u0 : List Nat, (∀ v ∈ u0, v < A) ∧ run f 0 u0 = some st) → words f A nc (fun _ => true) (List.replicate k none) st p = allW A k
  | 0, _, _, _ => rfl
  | k + 1, st, p, ⟨u0, h0, hr⟩ => by
    rw [List.replicate_succ, words_cons]
    show _ = (List.range A).flatMap fun v => (allW A k).map (v :: ·)
    rw [List.flatMap_def, List.flatMap_def]
    congr 1
    refine List.map_congr_left fun v hv => ?_
    have hvA : v < A := List.mem_range.1 hv
    have h1 : ∀ x ∈ u0 ++ [v], x < A := fun x hx => by
      rcases List.mem_append.1 hx with h | h
      · exact h0 x h
      · rw [List.mem_singleton.1 h]; exact hvA
    have h2 := hf _ h1
    have h3 := run_snocP f v u0 0
    rw [hr] at h3
    have h4 : (some st).bind (fun j => f j v) = f st v := rfl
    rw [h4] at h3
    cases hfv : f st v with
    | none => rw [h3, hfv] at h2; cases h2
    | some j =>
      have e0 : stepW f A nc (fun _ => true) none (List.replicate k none) st p v = words f A nc (fun _ => true) (List.replicate k none) j (nc p v) := by
        unfold stepW fitsM
        simp [hfv]
      rw [e0, words_full hf k j (nc p v) ⟨u0 ++ [v], h1, by rw [h3, hfv]⟩]
theorem plain_words {s : Sch} (h : WellF s) (hb : s.bl = []) : wordsS s = allW s.al.size (nS s) := by
  unfold wordsS wordsAt freeS
  rw [List.drop_zero, List.take_replicate, Nat.min_eq_left (le_szN _ _)]
  have e : (finL s.al.size none) = fun _ => true := by
    funext p
    unfold finL
    simp
  rw [e]
  refine words_full (fun u hu => ?_) _ _ _ ⟨[], by simp, rfl⟩
  rw [allow_fS h hu]
  refine decide_eq_true fun b hb2 => ?_
  unfold bansS at hb2
  rw [hb] at hb2
  simp at hb2
theorem plain_tot {s : Sch} (h : WellF s) (hb : s.bl = []) : totS s = s.al.size ^ nS s := by rw [totS_words, plain_words h hb, allW_len]
theorem plain_at {s : Sch} (h : WellF s) (hb : s.bl = []) {n : Nat} (hn : n < s.al.size ^ nS s) : (wordsS s)[n]? = some (lowD s.al.size (nS s) n) := by
  rw [plain_words h hb]
  exact allW_at (by have := h.1.1; omega) hn
end Go.Proofs.Ytgblfobomiiofaa
