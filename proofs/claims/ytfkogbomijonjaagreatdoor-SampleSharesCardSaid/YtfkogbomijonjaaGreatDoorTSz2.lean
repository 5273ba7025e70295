/- Contracts and lemmas (several texts merged into one). -/
import Derived.RangeFuncNested
import Derived.Test.YtfkogbomijonjaaGreatDoorTSz1
import Derived.Test.YtfkogbomijonjaaGreatDoorRgo
import Derived.Test.YtfkogbomijonjaaGreatDoorWn
import Derived.RangeFuncBound
import Derived.RangeFuncLeaves
import Derived.Shelf.Abstract
import Derived.WalkKit
import Derived.OwnWalkIn
import Derived.TacticsInMore
import Derived.RegionIn
import Derived.Stop.RegionWithIn
import Derived.BigRegionIn
import Derived.Sort.CutIn
import Derived.Shelf.RegionOpen
import Derived.LoopNIn
import Derived.LoopIn
import Derived.Laws.EntriesVeiled
namespace Go.Proofs.YtfkogbomijonjaaGreatDoor
open Go Go.RowKit

/-- the iterator's contract: N rounds; at round k it yields a value of which E k holds at that time; the body keeps Kp -/
def SeqE (F : Fence) (n : Nat) (P : Program) (g : Nat) (lb : Array Value) (enc : Nat → Value → Array Value) (E : Nat → Value → World → Prop) (Kp : World → World → Prop) (N : Nat) (w : World) : Prop :=
  ∀ (l : Nat) (J Jx : Nat → World → Prop) (W : World), Below w.heap.size w W → AbidesFrom W.heap.size J → AbidesFrom W.heap.size Jx →
    (∀ k v W1, k < N → J k W1 → E k v W1 → YieldAt F (n - 1) P l (enc k v) W1 fun e W' => (e = .returned (.bool true) ∧ J (k + 1) W' ∧ Kp W1 W') ∨ (e = .returned (.bool false) ∧ Jx k W')) →
    J 0 W → CallsIn F n P g (#[.func (.yield l) #[] #[]] ++ lb) W fun e W' => (∃ v, e = .returned v) ∧ (J N W' ∨ ∃ k, k < N ∧ Jx k W')
/-- how a round's body may end -/
def endE (B : Nat) (Kp : World → World → Prop) (I : Nat → World → Prop) (Ix : Code → Nat → World → Prop) (k : Nat) (W : World) : Exit → Act → World → Prop
  | .normal, _, W' => KeepsFrom B W W' ∧ Kp W W' ∧ I (k + 1) W'
  | .ret, _, W' => KeepsFrom B W W' ∧ Ix .ret k W'
  | .exit i, _, W' => KeepsFrom B W W' ∧ Ix (.exit i) k W'
  | .goto _, _, _ => False
  | .panic _, _, _ => False
  | .outgrown, _, _ => False

section
variable {F : Fence} {n : Nat} {P : Program}
/-- behind a round: the record is written, and what is kept is kept -/
theorem round_done {w : World} {r : Loop} {W W3 : World} (hl : W.heap[w.heap.size + 1]? = some (.loop { r with state := .busy, pending := none })) (hk : W.heap[w.heap.size]? = some (.deferred (some []))) (h3 : KeepsFrom w.heap.size W W3) (jump : Option Code) :
    W3.heap[w.heap.size + 1]? = some (.loop { r with state := .busy, pending := none }) ∧ (Instr.endRound (w.heap.size + 1) jump).run P W3 = .ok (.bool jump.isNone) (W3.putObj (w.heap.size + 1) (.loop { r with state := if jump.isNone then .ready else .done, pending := jump })) ∧
    (W3.putObj (w.heap.size + 1) (.loop { r with state := if jump.isNone then .ready else .done, pending := jump })).heap[w.heap.size + 1]? = some (.loop { r with state := if jump.isNone then .ready else .done, pending := jump }) ∧
    (W3.putObj (w.heap.size + 1) (.loop { r with state := if jump.isNone then .ready else .done, pending := jump })).heap[w.heap.size]? = some (.deferred (some [])) := by
  have a1 := h3.same _ _ (Nat.le_succ _) hl rfl
  have a2 := h3.same _ _ (Nat.le_refl _) hk rfl
  refine ⟨a1, run_endRound (r := { r with state := .busy, pending := none }) jump a1, World.putObj_heap_same (Array.getElem?_eq_some_iff.1 a1).1, ?_⟩
  rw [World.putObj_heap_other (by omega)]
  exact a2
theorem range_e {g : Operand} {ps : Array Tmp} {assign body : Code} {Q : Exit → Act → World → Prop} {a : Act} {w : World} (hro : F.round = none) (h1 : 1 ≤ n) {gf : Nat} {lb : Array Value} (hg : a.eval g = .func (.func gf) #[] lb) (hF : F.fn gf) (eg : ∀ args w, (callFunc gf args).run P w = .ok (.enter gf args) w)
    {enc : Nat → Value → Array Value} {E : Nat → Value → World → Prop} {Kp : World → World → Prop} {N : Nat} (hseq : SeqE F (n - 1) P gf lb enc E Kp N w) (hKt : ∀ {A B C : World}, Kp A B → Kp B C → Kp A C)
    (hKb : ∀ (W : World) (l : Nat) (o o' : Obj), w.heap.size ≤ l → W.heap[l]? = some o → o.isCells = false → o.isWalk = false → Kp W (W.putObj l o')) (hps : ∀ k v, (enc k v).size = ps.size)
    (I : Nat → World → Prop) (Ix : Code → Nat → World → Prop) (hI : OwnFrom w.heap.size I) (hIx : ∀ c, OwnFrom w.heap.size (Ix c)) (h0 : I 0 w) (Ax : Nat → Value → Act → World → Prop) (hAx : ∀ k v a', OwnFrom w.heap.size (fun (_ : Unit) W => Ax k v a' W))
    (hassign : ∀ (l k : Nat) (v : Value) (W : World) (K : Act → World → Prop), k < N → I k W → E k v W → (∀ a' W', KeepsFrom w.heap.size W W' → Kp W W' → I k W' → Ax k v a' W' → K a' W') →
      assign.wpIn (F.inRound l) (n - 1 - 1) P (Exit.then K (fun _ _ _ => False)) { tmps := (ps.zip (enc k v)).foldl (fun t (p, v) => t.setIfInBounds p v) a.tmps, defers := [] } W)
    (hbody : ∀ (l k : Nat) (v : Value) (a' : Act) (W : World), k < N → I k W → Ax k v a' W → body.wpIn (F.inRound l) (n - 1 - 1) P (endE w.heap.size Kp I Ix k W) a' W)
    (hdone : ∀ (d : Nat) (W : World), w.heap.size ≤ d → I N W → W.heap[d]? = some (.deferred (some [])) → Q .normal { a with defers := { target := .collected d, args := #[] } :: a.defers } W)
    (hstop : ∀ (d : Nat) (c : Code) (k : Nat) (W : World), w.heap.size ≤ d → k < N → Ix c k W → W.heap[d]? = some (.deferred (some [])) → c.wpIn F n P Q { a with defers := { target := .collected d, args := #[] } :: a.defers } W) :
    (Code.rangeFunc g ps assign body).wpIn F n P Q a w := by
  refine wpIn_rangeFunc fun fn hfn => ?_
  rw [hro]
  obtain ⟨r, hr⟩ : ∃ r : Loop, r = { state := .ready, pending := none, fn, tmps := a.tmps, params := ps, assign, body, defers := w.heap.size } := ⟨_, rfl⟩
  obtain ⟨w1, hw1⟩ : ∃ w1, w1 = (w.alloc (.deferred (some []))).alloc (.loop r) := ⟨_, rfl⟩
  have hs1 : w1.heap.size = w.heap.size + 2 := by rw [hw1]; simp
  have hl1 : w1.heap[w.heap.size + 1]? = some (.loop r) := by
    have := World.alloc_heap_new (w.alloc (.deferred (some []))) (.loop r)
    rwa [World.size_alloc, ← hw1] at this
  have hk1 : w1.heap[w.heap.size]? = some (.deferred (some [])) := by
    rw [hw1]; exact (Below.heap_alloc _ _ _ (by simp)).trans (World.alloc_heap_new w _)
  have hrow : ∀ {A B : World} {row : Option Nat}, (∀ j, row = some j → w1.heap.size ≤ j ∧ ∃ o : Obj, A.heap[j]? = some o ∧ o.isWalk = true) → (∀ j, row = some j → w.heap.size ≤ j ∧ ∃ o : Obj, A.heap[j]? = some o ∧ o.isCells = false) := fun h j e => by
    obtain ⟨h2, o, ho, hw⟩ := h j e
    exact ⟨by omega, o, ho, Obj.not_cells_of_walk hw⟩
  refine ⟨w.heap.size + 1, [{ target := .collected w.heap.size, args := #[] }], w1, { target := .fn (.func gf) lb, args := #[.func (.yield (w.heap.size + 1)) #[] #[]] }, w1, gf, #[.func (.yield (w.heap.size + 1)) #[] #[]] ++ lb, w1, ?_, ?_, ?_, ?_, fun _ => h1, ?_⟩
  · rw [hw1, hr]; exact run_enterLoop_outer _ _ _ _ _
  · simp only [resolve, hg]
    simp [go_sem]
  · intro f' hf'
    simp [Target.leads] at hf'
    subst hf'; exact hF
  · simp [invoke, go_sem, eg]
  refine (hseq (w.heap.size + 1) (fun k W => I k W ∧ W.heap[w.heap.size + 1]? = some (.loop r) ∧ W.heap[w.heap.size]? = some (.deferred (some [])))
    (fun k W => ∃ c, Ix c k W ∧ W.heap[w.heap.size + 1]? = some (.loop { r with state := .done, pending := some c }) ∧ W.heap[w.heap.size]? = some (.deferred (some []))) w1
    (by rw [hw1]; exact ((Below.refl _ w).alloc (Nat.le_refl _) _).alloc (by simp) _) ?_ ?_ ?_ ⟨by rw [hw1]; exact hI.alloc _ (hI.alloc _ h0), hl1, hk1⟩).mono ?_
  · intro k A B row hs hg' hj
    exact ⟨hI k A B row hs.1 hg' (hrow (B := B) hj), (grownBy_keeps hg' (fun j e => (hj j e).2) hs.2.1 rfl).trans hs.2.1, (grownBy_keeps hg' (fun j e => (hj j e).2) hs.2.2 rfl).trans hs.2.2⟩
  · rintro k A B row ⟨c, hc, hs⟩ hg' hj
    exact ⟨c, hIx c k A B row hc hg' (hrow (B := B) hj), (grownBy_keeps hg' (fun j e => (hj j e).2) hs.1 rfl).trans hs.1, (grownBy_keeps hg' (fun j e => (hj j e).2) hs.2 rfl).trans hs.2⟩
  · rintro k v W hkN ⟨hi, hl, hk⟩ hE
    have hy := run_yield (P := P) (args := enc k v) hl (by rw [hr]; exact hps k v)
    rw [hr] at hy
    refine ⟨fn, _, assign, body, hy, roundIn_of_wpIn hfn (hassign _ k v W _ hkN hi hE ?_)⟩
    intro a' Wa hkf hkp hia hax
    have hla := hkf.same _ _ (Nat.le_succ _) hl rfl
    have hka := hkf.same _ _ (Nat.le_refl _) hk rfl
    have hlt := (Array.getElem?_eq_some_iff.1 hla).1
    refine ⟨_, run_beginRound hla (by rw [hr]), ?_⟩
    have hl2 : (Wa.putObj (w.heap.size + 1) (.loop { r with state := .busy })).heap[w.heap.size + 1]? = some (.loop { r with state := .busy, pending := none }) := by
      rw [World.putObj_heap_same hlt, hr]
    have hk2 : (Wa.putObj (w.heap.size + 1) (.loop { r with state := .busy })).heap[w.heap.size]? = some (.deferred (some [])) := (World.putObj_heap_other (by omega)).trans hka
    have hp2 := hKt hkp (hKb Wa (w.heap.size + 1) _ (.loop { r with state := .busy }) (Nat.le_succ _) hla rfl rfl)
    refine wpIn_mono (hbody _ k v a' _ hkN (hI.putObj _ hia (Nat.le_succ _) hla rfl) ((hAx k v a').putObj (s := ()) _ hax (Nat.le_succ _) hla rfl)) ?_
    rintro e a3 W3 hp
    cases e with
    | normal =>
      obtain ⟨h3, hp3, hi3⟩ := hp
      obtain ⟨b1, b2, b3, b4⟩ := round_done (P := P) hl2 hk2 h3 none
      refine ⟨_, _, b2, .inl ⟨rfl, ⟨hI.putObj _ hi3 (Nat.le_succ _) b1 rfl, ?_, b4⟩, hKt (hKt hp2 hp3) (hKb _ _ _ _ (Nat.le_succ _) b1 rfl rfl)⟩⟩
      rw [b3, hr]; rfl
    | ret =>
      obtain ⟨h3, hi3⟩ := hp
      obtain ⟨b1, b2, b3, b4⟩ := round_done (P := P) hl2 hk2 h3 (some .ret)
      exact ⟨_, _, b2, .inr ⟨rfl, .ret, (hIx _).putObj _ hi3 (Nat.le_succ _) b1 rfl, b3, b4⟩⟩
    | exit i =>
      obtain ⟨h3, hi3⟩ := hp
      obtain ⟨b1, b2, b3, b4⟩ := round_done (P := P) hl2 hk2 h3 (some (.exit i))
      exact ⟨_, _, b2, .inr ⟨rfl, .exit i, (hIx _).putObj _ hi3 (Nat.le_succ _) b1 rfl, b3, b4⟩⟩
    | goto t => exact hp.elim
    | panic ch => exact hp.elim
    | outgrown => exact hp.elim
  · rintro e W2 ⟨⟨v, rfl⟩, (⟨hi, hl, hk⟩ | ⟨k, hkN, c, hi, hl, hk⟩)⟩
    · refine ⟨none, _, by have := run_endLoop (P := P) hl (by rw [hr]; simp); rw [hr] at this; exact this, ?_⟩
      exact hdone _ _ (Nat.le_refl _) (hI.putObj _ hi (Nat.le_succ _) hl rfl) ((World.putObj_heap_other (by omega)).trans hk)
    · refine ⟨some c, _, run_endLoop (P := P) hl (by simp), ?_⟩
      exact hstop _ c k _ (Nat.le_refl _) hkN ((hIx c).putObj _ hi (Nat.le_succ _) hl rfl) ((World.putObj_heap_other (by omega)).trans hk)
end
end Go.Proofs.YtfkogbomijonjaaGreatDoor
namespace Gu

/-- how many samples of n pieces, of b bad and g good ones, have i bad ones -/
def hyp (b g n i : Nat) : Nat := if i ≤ n then pascalN b i * pascalN g (n - i) else 0
/-- the sum from a on, over m of them -/
def hsum (b g n a : Nat) : Nat → Nat
  | 0 => 0
  | m + 1 => hsum b g n a m + hyp b g n (a + m)
theorem hsum_succ (b g n a m : Nat) : hsum b g n a (m + 1) = hsum b g n a m + hyp b g n (a + m) := rfl
theorem hyp_of {b g n i : Nat} (h : i ≤ n) : hyp b g n i = pascalN b i * pascalN g (n - i) := if_pos h
theorem hyp_gt {b g n i : Nat} (h : n < i) : hyp b g n i = 0 := if_neg (by omega)
theorem hyp_le (b g n i : Nat) : hyp b g n i ≤ 2 ^ (b + g) := by
  unfold hyp
  split
  · rw [Nat.pow_add]; exact Nat.mul_le_mul (pascalN_le _ _) (pascalN_le _ _)
  · exact Nat.zero_le _
theorem hsum_le (b g n a : Nat) : ∀ m, hsum b g n a m ≤ m * 2 ^ (b + g)
  | 0 => by simp [hsum]
  | m + 1 => by
    have h1 := hsum_le b g n a m
    have h2 := hyp_le b g n (a + m)
    rw [hsum_succ, Nat.succ_mul]; omega
theorem hsum_mono {b g n a : Nat} : ∀ {m k : Nat}, m ≤ k → hsum b g n a m ≤ hsum b g n a k
  | m, 0, h => by
    have : m = 0 := by omega
    subst this; exact Nat.le_refl _
  | m, k + 1, h => by
    rcases Nat.eq_or_lt_of_le h with h1 | h1
    · rw [h1]; exact Nat.le_refl _
    · have := hsum_mono (b := b) (g := g) (n := n) (a := a) (show m ≤ k by omega)
      rw [hsum_succ]; omega
theorem hsum_full {b g n : Nat} : ∀ {m : Nat}, n + 1 ≤ m → hsum b g n 0 m = hsum b g n 0 (n + 1)
  | 0, h => by omega
  | m + 1, h => by
    rcases Nat.eq_or_lt_of_le h with h1 | h1
    · rw [h1]
    · rw [hsum_succ, hsum_full (show n + 1 ≤ m by omega), hyp_gt (by omega), Nat.add_zero]
/-- one bad piece more -/
theorem hyp_bad (b g n i : Nat) : hyp (b + 1) g (n + 1) (i + 1) = hyp b g n i + hyp b g (n + 1) (i + 1) := by
  by_cases h : i ≤ n
  · rw [hyp_of (by omega), hyp_of h, hyp_of (by omega), pascalN_succ, Nat.add_mul, show n + 1 - (i + 1) = n - i by omega]
  · rw [hyp_gt (by omega), hyp_gt (by omega), hyp_gt (by omega)]
theorem hyp_bad0 (b g n : Nat) : hyp (b + 1) g n 0 = hyp b g n 0 := by
  rw [hyp_of (by omega), hyp_of (by omega), pascalN_zero, pascalN_zero]
theorem hsum_bad (b g n : Nat) : ∀ m, hsum (b + 1) g (n + 1) 0 (m + 1) = hsum b g (n + 1) 0 (m + 1) + hsum b g n 0 m
  | 0 => by simp only [hsum, Nat.zero_add]; rw [hyp_bad0]; omega
  | m + 1 => by
    rw [hsum_succ _ _ _ _ (m + 1), hsum_bad b g n m, hsum_succ b g (n + 1) 0 (m + 1), hsum_succ b g n 0 m, Nat.zero_add, Nat.zero_add, hyp_bad]; omega
/-- one good piece more -/
theorem hyp_good (b g n i : Nat) : hyp b (g + 1) (n + 1) i = hyp b g n i + hyp b g (n + 1) i := by
  by_cases h : i ≤ n
  · rw [hyp_of (by omega), hyp_of h, hyp_of (by omega), show n + 1 - i = (n - i) + 1 by omega, pascalN_succ, Nat.mul_add]
  · by_cases h1 : i = n + 1
    · subst h1
      rw [hyp_of (by omega), hyp_gt (by omega), hyp_of (by omega), Nat.sub_self, pascalN_zero, pascalN_zero]; omega
    · rw [hyp_gt (by omega), hyp_gt (by omega), hyp_gt (by omega)]
theorem hsum_good (b g n : Nat) : ∀ m, hsum b (g + 1) (n + 1) 0 m = hsum b g n 0 m + hsum b g (n + 1) 0 m
  | 0 => rfl
  | m + 1 => by rw [hsum_succ, hsum_succ, hsum_succ, hsum_good b g n m, hyp_good]; omega
theorem hsum_none (b g : Nat) : ∀ m, hsum b g 0 0 (m + 1) = 1
  | 0 => by simp only [hsum, Nat.zero_add]; rw [hyp_of (Nat.le_refl _), pascalN_zero, pascalN_zero]
  | m + 1 => by rw [hsum_succ, hsum_none b g m, hyp_gt (by omega)]
/-- a further bad piece makes acceptance no more probable -/
theorem hsum_worse (b g : Nat) : ∀ n m, hsum (b + 1) g n 0 m ≤ hsum b (g + 1) n 0 m
  | _, 0 => Nat.le_refl _
  | 0, m + 1 => by rw [hsum_none, hsum_none]; exact Nat.le_refl _
  | n + 1, m + 1 => by
    rw [hsum_bad, hsum_good]
    have := hsum_mono (b := b) (g := g) (n := n) (a := 0) (show m ≤ m + 1 by omega)
    omega
theorem hyp_zero (g n : Nat) : ∀ m, hsum 0 g n 0 (m + 1) = pascalN g n
  | 0 => by simp only [hsum, Nat.zero_add]; rw [hyp_of (Nat.zero_le _), pascalN_zero, Nat.sub_zero, Nat.one_mul]
  | m + 1 => by
    rw [hsum_succ, hyp_zero g n m, Nat.zero_add]
    have : hyp 0 g n (m + 1) = 0 := by
      unfold hyp
      split
      · rw [show pascalN 0 (m + 1) = 0 from rfl, Nat.zero_mul]
      · rfl
    omega
/-- all samples together (Vandermonde) -/
theorem hsum_all : ∀ b g n, hsum b g n 0 (n + 1) = pascalN (b + g) n
  | 0, g, n => by rw [hyp_zero, Nat.zero_add]
  | b + 1, g, 0 => by rw [hsum_none, pascalN_zero]
  | b + 1, g, n + 1 => by
    rw [hsum_bad, hsum_all b g (n + 1), hsum_all b g n, show b + 1 + g = (b + g) + 1 by omega, pascalN_succ]; omega
theorem hsum_le_all (b g n m : Nat) : hsum b g n 0 m ≤ pascalN (b + g) n := by
  rw [← hsum_all b g n]
  rcases Nat.le_total m (n + 1) with h | h
  · exact hsum_mono h
  · rw [hsum_full h]; exact Nat.le_refl _
theorem pascalN_pos : ∀ {n k : Nat}, k ≤ n → 0 < pascalN n k
  | n, 0, _ => by rw [pascalN_zero]; exact Nat.one_pos
  | n + 1, k + 1, h => by
    have := pascalN_pos (n := n) (k := k) (by omega)
    rw [pascalN_succ]; omega
/-- k times a coefficient -/
theorem pascalN_abs : ∀ n k : Nat, (k + 1) * pascalN (n + 1) (k + 1) = (n + 1) * pascalN n k
  | 0, 0 => rfl
  | 0, k + 1 => by rw [pascalN_gt (n := 0 + 1) (by omega), pascalN_gt (by omega)]; simp
  | n + 1, 0 => by
    have := pascalN_abs n 0
    rw [pascalN_zero] at this ⊢
    rw [pascalN_succ, pascalN_zero]
    omega
  | n + 1, k + 1 => by
    have h1 := pascalN_abs n k
    have h2 := pascalN_abs n (k + 1)
    rw [pascalN_succ (n + 1) (k + 1), Nat.mul_add, h2, show k + 1 + 1 = (k + 1) + 1 from rfl, Nat.add_mul (k + 1) 1, h1, Nat.one_mul, pascalN_succ n k]
    grind
theorem hyp_first (b g n i : Nat) : (b + 1) * hyp b g n i = (i + 1) * hyp (b + 1) g (n + 1) (i + 1) := by
  by_cases h : i ≤ n
  · rw [hyp_of h, hyp_of (by omega), show n + 1 - (i + 1) = n - i by omega, ← Nat.mul_assoc, ← Nat.mul_assoc, pascalN_abs]
  · rw [hyp_gt (by omega), hyp_gt (by omega)]; simp
theorem hyp_second (b g n i : Nat) (hi : i ≤ n) : (g + 1) * hyp b g n i = (n + 1 - i) * hyp b (g + 1) (n + 1) i := by
  have h1 := pascalN_abs g (n - i)
  rw [hyp_of hi, hyp_of (by omega), show n + 1 - i = (n - i) + 1 by omega]
  calc (g + 1) * (pascalN b i * pascalN g (n - i)) = pascalN b i * ((g + 1) * pascalN g (n - i)) := by grind
    _ = pascalN b i * ((n - i + 1) * pascalN (g + 1) (n - i + 1)) := by rw [h1]
    _ = _ := by grind
/-- the first piece, bad or good -/
theorem hsum_first (b g n : Nat) : ∀ m, (b + 1) * hsum b (g + 1) n 0 m + (g + 1) * hsum (b + 1) g n 0 (m + 1) = (n + 1) * hsum (b + 1) (g + 1) (n + 1) 0 (m + 1)
  | 0 => by
    simp only [hsum, Nat.zero_add, Nat.mul_zero]
    have := hyp_second (b + 1) g n 0 (Nat.zero_le _)
    rw [this, Nat.sub_zero]
  | m + 1 => by
    have ih := hsum_first b g n m
    rw [hsum_succ b (g + 1) n 0 m, hsum_succ (b + 1) g n 0 (m + 1), hsum_succ (b + 1) (g + 1) (n + 1) 0 (m + 1), Nat.zero_add, Nat.zero_add, Nat.mul_add, Nat.mul_add, Nat.mul_add, ← ih]
    have h1 := hyp_first b (g + 1) n m
    by_cases h : m + 1 ≤ n
    · have h2 := hyp_second (b + 1) g n (m + 1) h
      have h3 : (m + 1) * hyp (b + 1) (g + 1) (n + 1) (m + 1) + (n + 1 - (m + 1)) * hyp (b + 1) (g + 1) (n + 1) (m + 1) = (n + 1) * hyp (b + 1) (g + 1) (n + 1) (m + 1) := by
        rw [← Nat.add_mul]; congr 1; omega
      omega
    · rw [hyp_gt (n := n) (i := m + 1) (by omega), Nat.mul_zero, h1]
      by_cases h4 : m = n
      · subst h4; omega
      · rw [hyp_gt (n := n + 1) (i := m + 1) (by omega)]; simp
/-- coefficients by factorials -/
def fac : Nat → Nat
  | 0 => 1
  | n + 1 => (n + 1) * fac n
theorem fac_pos : ∀ n, 0 < fac n
  | 0 => Nat.one_pos
  | n + 1 => Nat.mul_pos (Nat.succ_pos _) (fac_pos n)
theorem pascalN_fac : ∀ k m : Nat, pascalN (k + m) k * (fac k * fac m) = fac (k + m)
  | 0, m => by rw [pascalN_zero, Nat.zero_add]; simp [fac]
  | k + 1, m => by
    have h := pascalN_abs (k + m) k
    have ih := pascalN_fac k m
    rw [show k + 1 + m = (k + m) + 1 by omega]
    show _ = (k + m + 1) * fac (k + m)
    rw [← ih]
    show pascalN (k + m + 1) (k + 1) * ((k + 1) * fac k * fac m) = _
    calc pascalN (k + m + 1) (k + 1) * ((k + 1) * fac k * fac m) = ((k + 1) * pascalN (k + m + 1) (k + 1)) * (fac k * fac m) := by grind
      _ = _ := by rw [h]; grind
theorem hyp_fac {x y z u : Nat} : hyp (x + y) (z + u) (x + z) x * pascalN (x + y + (z + u)) (x + y) * (fac x * fac y * (fac z * fac u)) = fac (x + y + (z + u)) := by
  rw [hyp_of (by omega), show x + z - x = z by omega]
  have h1 := pascalN_fac x y
  have h2 := pascalN_fac z u
  have h3 := pascalN_fac (x + y) (z + u)
  rw [← h3, ← h1, ← h2]
  grind
/-- the number of bad pieces and the size of the sample may be exchanged -/
theorem hyp_turn {l b n i : Nat} (hb : b ≤ l) (hn : n ≤ l) : hyp b (l - b) n i * pascalN l b = hyp n (l - n) b i * pascalN l n := by
  by_cases h1 : i ≤ n
  · by_cases h2 : i ≤ b
    · by_cases h3 : n - i ≤ l - b
      · obtain ⟨y, hy⟩ : ∃ y, b = i + y := ⟨b - i, by omega⟩
        obtain ⟨z, hz⟩ : ∃ z, n = i + z := ⟨n - i, by omega⟩
        obtain ⟨u, hu⟩ : ∃ u, l - b = z + u := ⟨l - b - z, by omega⟩
        have hl : l = i + y + (z + u) := by omega
        have e1 := hyp_fac (x := i) (y := y) (z := z) (u := u)
        have e2 := hyp_fac (x := i) (y := z) (z := y) (u := u)
        have hp : 0 < fac i * fac y * (fac z * fac u) := Nat.mul_pos (Nat.mul_pos (fac_pos _) (fac_pos _)) (Nat.mul_pos (fac_pos _) (fac_pos _))
        refine Nat.eq_of_mul_eq_mul_right hp ?_
        rw [show l - n = y + u by omega, hu, hy, hz, hl, e1]
        rw [show i + y + (z + u) = i + z + (y + u) by omega]
        rw [show fac i * fac y * (fac z * fac u) = fac i * fac z * (fac y * fac u) by grind, e2]
      · rw [hyp_of h1, hyp_of h2, pascalN_gt (n := l - b) (by omega), pascalN_gt (n := l - n) (by omega)]; simp
    · rw [hyp_of h1, hyp_gt (n := b) (by omega), pascalN_gt (n := b) (by omega)]; simp
  · rw [hyp_gt (by omega)]
    unfold hyp
    split
    · rw [pascalN_gt (n := n) (by omega)]; simp
    · simp
theorem hsum_turn {l b n : Nat} (hb : b ≤ l) (hn : n ≤ l) : ∀ m, hsum b (l - b) n 0 m * pascalN l b = hsum n (l - n) b 0 m * pascalN l n
  | 0 => by simp [hsum]
  | m + 1 => by rw [hsum_succ, hsum_succ, Nat.add_mul, Nat.add_mul, hsum_turn hb hn m, hyp_turn hb hn]
end Gu
namespace Go.Proofs.YtfkogbomijonjaaGreatDoor
open Go Go.RowKit Gu

/-- a box whose cells are known -/
structure Bxs (X : Nat) (l : List Value) (W : World) : Prop where
  lt : X < W.heap.size
  c : ∀ i v, l[i]? = some v → W.cell? ⟨X, i, none⟩ = some v ∧ W.frozen? ⟨X, i, none⟩ = false
theorem Bxs.c0 {X : Nat} {a : Value} {l : List Value} {W : World} (h : Bxs X (a :: l) W) : W.cell? ⟨X, 0, none⟩ = some a := (h.c 0 a rfl).1
theorem Bxs.f0 {X : Nat} {a : Value} {l : List Value} {W : World} (h : Bxs X (a :: l) W) : W.frozen? ⟨X, 0, none⟩ = false := (h.c 0 a rfl).2
theorem Bxs.c1 {X : Nat} {a b : Value} {l : List Value} {W : World} (h : Bxs X (a :: b :: l) W) : W.cell? ⟨X, 1, none⟩ = some b := (h.c 1 b rfl).1
theorem Bxs.f1 {X : Nat} {a b : Value} {l : List Value} {W : World} (h : Bxs X (a :: b :: l) W) : W.frozen? ⟨X, 1, none⟩ = false := (h.c 1 b rfl).2
theorem Bxs.next {X : Nat} {l : List Value} {W W' : World} (h : Bxs X l W) (hb : Below W.heap.size W W') : Bxs X l W' :=
  ⟨Nat.lt_of_lt_of_le h.lt hb.size, fun i v hi => ⟨(hb.cell (p := ⟨X, i, none⟩) h.lt).trans (h.c i v hi).1, (hb.frozen (p := ⟨X, i, none⟩) h.lt).trans (h.c i v hi).2⟩⟩
theorem Bxs.new1 (W : World) (a : Value) (T : TypeId) : Bxs W.heap.size [a] (W.alloc (.cells #[a] T)) :=
  ⟨by simp, fun i v hi => by
    have : i = 0 := by have := (List.getElem?_eq_some_iff.1 hi).1; simpa using this
    subst this
    simp at hi
    subst hi
    exact ⟨World.cell?_alloc_at _ _ _ _ rfl, World.frozen?_alloc_at _ _ _ _ rfl⟩⟩
theorem Bxs.new2 (W : World) (a b : Value) (T : TypeId) : Bxs W.heap.size [a, b] (W.alloc (.cells #[a, b] T)) :=
  ⟨by simp, fun i v hi => by
    have : i = 0 ∨ i = 1 := by have := (List.getElem?_eq_some_iff.1 hi).1; simp at this; omega
    rcases this with rfl | rfl
    · simp at hi
      subst hi
      exact ⟨World.cell?_alloc_at _ _ _ _ rfl, World.frozen?_alloc_at _ _ _ _ rfl⟩
    · simp at hi
      subst hi
      exact ⟨World.cell?_alloc_at _ _ _ _ rfl, World.frozen?_alloc_at _ _ _ _ rfl⟩⟩
theorem Bxs.set1 {X : Nat} {z : Value} {W : World} (h : Bxs X [z] W) (a : Value) : Bxs X [a] (W.setCell ⟨X, 0, none⟩ a) :=
  ⟨by rw [World.size_setCell]; exact h.lt, fun i v hi => by
    have : i = 0 := by have := (List.getElem?_eq_some_iff.1 hi).1; simpa using this
    subst this
    simp at hi
    subst hi
    exact ⟨World.cell?_setCell_same _ _ _ h.c0, (World.frozen?_setCell _ _ _ _).trans h.f0⟩⟩
theorem Bxs.set2 {X : Nat} {y z : Value} {W : World} (h : Bxs X [y, z] W) (a b : Value) : Bxs X [a, b] ((W.setCell ⟨X, 0, none⟩ a).setCell ⟨X, 1, none⟩ b) := by
  have hr := read_two h.c0 h.c1 a b
  refine ⟨by rw [World.size_setCell, World.size_setCell]; exact h.lt, fun i v hi => ?_⟩
  have hf : ∀ p, ((W.setCell ⟨X, 0, none⟩ a).setCell ⟨X, 1, none⟩ b).frozen? p = W.frozen? p := fun p => (World.frozen?_setCell _ _ _ _).trans (World.frozen?_setCell _ _ _ _)
  have : i = 0 ∨ i = 1 := by have := (List.getElem?_eq_some_iff.1 hi).1; simp at this; omega
  rcases this with rfl | rfl
  · simp at hi
    subst hi
    exact ⟨hr.1, (hf _).trans h.f0⟩
  · simp at hi
    subst hi
    exact ⟨hr.2, (hf _).trans h.f1⟩
theorem Bxs.keep1 {X : Nat} {W : World} (h : Bxs X [.slice none 0 0] W) {r : Value} {n : Nat} (hd : D W r n) (a : Value) : D (W.setCell ⟨X, 0, none⟩ a) r n := hd.setCell h.c0 (by intro d h; cases h) a
theorem Bxs.keep2 {X : Nat} {W : World} (h : Bxs X [.slice none 0 0, .slice none 0 0] W) {r : Value} {n : Nat} (hd : D W r n) (a b : Value) : D ((W.setCell ⟨X, 0, none⟩ a).setCell ⟨X, 1, none⟩ b) r n := IsN_setTwo hd h.c0 h.c1 (by intro d h; cases h) (by intro d h; cases h) a b
def tupN (i : Nat) : Value → Value
  | .tuple vs => vs.getD i undef
  | v => v
/-- what accumulator answers: its closure over the box B -/
def accV (B : Nat) : Value := .func (.func 50) #[] #[.pointer (some ⟨B, 0, none⟩)]
theorem accumulator_any (W : World) : Calls Tryz.prog 32 #[] W fun e w' => e = .returned (accV W.heap.size) ∧ w' = W.alloc (.cells #[.slice none 0 0] 55) := by
  go_enter Tryz.func32, Tryz.ntmps32
  go_wp2_with fail
  go_ret
  exact ⟨by simp [accV], rfl⟩
/-- what terms answers: its closure over four boxes from B on: the samples, n, lo, hi -/
def termsV (B : Nat) : Value := .func (.func 52) #[] #[.pointer (some ⟨B + 1 + 1, 0, none⟩), .pointer (some ⟨B + 1 + 1 + 1, 0, none⟩), .pointer (some ⟨B + 1, 0, none⟩), .pointer (some ⟨B, 0, none⟩)]
def termsW (W : World) (lot : Int) (vb vg : Value) (n lo hi : Int) : World := (((W.alloc (.cells #[.int .i64 lot, vb, vg] 45)).alloc (.cells #[.int .i64 n] 3)).alloc (.cells #[.int .i64 lo] 3)).alloc (.cells #[.int .i64 hi] 3)
theorem sterms_any (W : World) (lot : Int) (ao bo : Option Addr) (an ac bn bc : Nat) (n lo hi : Int) : Calls Tryz.prog 33 #[.agg #[.int .i64 lot, .slice ao an ac, .slice bo bn bc], .int .i64 n, .int .i64 lo, .int .i64 hi] W fun e w' => e = .returned (termsV W.heap.size) ∧ w' = termsW W lot (.slice ao an ac) (.slice bo bn bc) n lo hi := by
  go_enter Tryz.func33, Tryz.ntmps33
  go_wp2_with fail
  go_ret
  exact ⟨by simp [termsV], rfl⟩
end Go.Proofs.YtfkogbomijonjaaGreatDoor
namespace Go.Proofs.YtfkogbomijonjaaGreatDoor
open Go Go.RowKit Go.Shelf Gu

attribute [local go_sem] Oper.semAt_some

/-- the four boxes of terms -/
structure Bx4 (Bs : Nat) (lot : Int) (vb vg : Value) (n lo hi : Int) (W : World) : Prop where
  b0 : W.heap[Bs]? = some (.cells #[.int .i64 lot, vb, vg] 45 (0, 0))
  b1 : W.heap[Bs + 1]? = some (.cells #[.int .i64 n] 3 (0, 0))
  b2 : W.heap[Bs + 1 + 1]? = some (.cells #[.int .i64 lo] 3 (0, 0))
  b3 : W.heap[Bs + 1 + 1 + 1]? = some (.cells #[.int .i64 hi] 3 (0, 0))
/-- what a round keeps: what lay below n0, and the four boxes -/
def Kt (n0 Bs : Nat) (W W' : World) : Prop := Below n0 W W' ∧ ∀ k, Bs ≤ k → k < Bs + 4 → W'.heap[k]? = W.heap[k]?
theorem Kt.trans {n0 Bs : Nat} {A B C : World} (h : Kt n0 Bs A B) (k : Kt n0 Bs B C) : Kt n0 Bs A C := ⟨h.1.trans k.1, fun i h1 h2 => (k.2 i h1 h2).trans (h.2 i h1 h2)⟩
theorem Bx4.kept {n0 Bs : Nat} {lot : Int} {vb vg : Value} {n lo hi : Int} {W W' : World} (h : Bx4 Bs lot vb vg n lo hi W) (hk : Kt n0 Bs W W') : Bx4 Bs lot vb vg n lo hi W' :=
  ⟨(hk.2 _ (by omega) (by omega)).trans h.b0, (hk.2 _ (by omega) (by omega)).trans h.b1, (hk.2 _ (by omega) (by omega)).trans h.b2, (hk.2 _ (by omega) (by omega)).trans h.b3⟩
theorem Bx4.lt {Bs : Nat} {lot : Int} {vb vg : Value} {n lo hi : Int} {W : World} (h : Bx4 Bs lot vb vg n lo hi W) : Bs + 1 + 1 + 1 < W.heap.size := (Array.getElem?_eq_some_iff.1 h.b3).1
theorem Bx4.next {Bs : Nat} {lot : Int} {vb vg : Value} {n lo hi : Int} {W W' : World} (h : Bx4 Bs lot vb vg n lo hi W) (hb : Below W.heap.size W W') : Bx4 Bs lot vb vg n lo hi W' := by
  have := h.lt
  exact ⟨(hb.block _ (by omega)).trans h.b0, (hb.block _ (by omega)).trans h.b1, (hb.block _ (by omega)).trans h.b2, (hb.block _ (by omega)).trans h.b3⟩
theorem Bx4.cells {Bs : Nat} {lot : Int} {vb vg : Value} {n lo hi : Int} {W : World} (h : Bx4 Bs lot vb vg n lo hi W) :
    W.cell? ⟨Bs, 0, none⟩ = some (.int .i64 lot) ∧ W.cell? ⟨Bs, 1, none⟩ = some vb ∧ W.cell? ⟨Bs, 2, none⟩ = some vg ∧ W.cell? ⟨Bs + 1, 0, none⟩ = some (.int .i64 n) ∧ W.cell? ⟨Bs + 1 + 1, 0, none⟩ = some (.int .i64 lo) ∧ W.cell? ⟨Bs + 1 + 1 + 1, 0, none⟩ = some (.int .i64 hi) := by
  have h0 := h.b0; have h1 := h.b1; have h2 := h.b2; have h3 := h.b3
  refine ⟨?_, ?_, ?_, ?_, ?_, ?_⟩ <;> simp [World.cell?, h0, h1, h2, h3]
theorem at_pascal {W : World} {v : Value} {b : Nat} (h : NRow W v (b + 1) (pascalN b)) (k : Nat) (hk : k ≤ 9223372036854775807) :
    Calls Tryz.prog 53 #[v, .int .i64 k] W fun e w' => ∃ ro rl rc, e = .returned (.agg #[.slice ro rl rc]) ∧ D w' (.slice ro rl rc) (pascalN b k) ∧ Below W.heap.size W w' :=
  (sat_any h k hk).mono fun e w' ⟨r, h1, h2, h3⟩ => by
    have e1 : (if k < b + 1 then pascalN b k else 0) = pascalN b k := by
      split
      · rfl
      · exact (pascalN_gt (by omega)).symm
    rw [e1] at h2
    obtain ⟨ro, rc, rfl, -⟩ := h2.shape
    exact ⟨_, _, _, h1, h2, h3⟩
/-- what each operation yields -/
def TA (w0 : World) (Bs : Nat) (so po : Option Addr) (sl sc tl tc ix n d c1 c2 : Nat) : Nat → (Nat → Value) → World → Prop
  | 0, x, _ => x 0 = .pointer (some ⟨Bs, 1, none⟩)
  | 1, x, _ => x 1 = .slice so sl sc
  | 2, x, _ => x 2 = .int .i64 (ix : Int)
  | 3, x, w => ∃ ro rl rc, x 3 = .agg #[.slice ro rl rc] ∧ D w (.slice ro rl rc) c1
  | 4, x, _ => x 4 = .pointer (some ⟨Bs, 2, none⟩)
  | 5, x, _ => x 5 = .slice po tl tc
  | 6, x, _ => x 6 = .int .i64 (n : Int)
  | 7, x, _ => x 7 = .int .i64 (ix : Int)
  | 8, x, _ => x 8 = .int .i64 (d : Int)
  | 9, x, w => ∃ ro rl rc, x 9 = .agg #[.slice ro rl rc] ∧ D w (.slice ro rl rc) c2
  | 10, x, w => ∃ ro rl rc, x 10 = .tuple #[.agg #[.slice ro rl rc], .int .i64 0] ∧ D w (.slice ro rl rc) (c1 * c2)
  | 11, x, _ => x 11 = x 10 ∧ ∃ ro rl rc, x 11 = .tuple #[.agg #[.slice ro rl rc], .int .i64 0]
  | 12, x, _ => x 12 = tupN 0 (x 11)
  | 13, x, _ => x 13 = tupN 1 (x 11)
  | 14, x, w => ∃ X, x 14 = .pointer (some ⟨X, 0, none⟩) ∧ w0.heap.size ≤ X ∧ Bxs X [.slice none 0 0] w
  | 15, x, w => ∃ X v, x 14 = .pointer (some ⟨X, 0, none⟩) ∧ x 12 = .agg #[v] ∧ w0.heap.size ≤ X ∧ Bxs X [v] w
  | 16, x, _ => x 16 = x 13
  | _ + 17, _, _ => True
def TAkill : Nat → Option Nat
  | 14 => some 15
  | _ => none
theorem TA.congr {w0 : World} {Bs : Nat} {so po : Option Addr} {sl sc tl tc ix n d c1 c2 : Nat} {DD : Nat → List Nat} (d11_10 : 10 ∈ DD 11) (d12_11 : 11 ∈ DD 12) (d13_11 : 11 ∈ DD 13) (d15_14 : 14 ∈ DD 15) (d15_12 : 12 ∈ DD 15) (d16_13 : 13 ∈ DD 16) : ∀ i x y w, (∀ j, j = i ∨ j ∈ DD i → x j = y j) → TA w0 Bs so po sl sc tl tc ix n d c1 c2 i x w → TA w0 Bs so po sl sc tl tc ix n d c1 c2 i y w
  | 0, x, y, w, h, t => by have e := h 0 (.inl rfl); simp only [TA] at t ⊢; rw [← e]; exact t
  | 1, x, y, w, h, t => by have e := h 1 (.inl rfl); simp only [TA] at t ⊢; rw [← e]; exact t
  | 2, x, y, w, h, t => by have e := h 2 (.inl rfl); simp only [TA] at t ⊢; rw [← e]; exact t
  | 3, x, y, w, h, t => by have e := h 3 (.inl rfl); simp only [TA] at t ⊢; rw [← e]; exact t
  | 4, x, y, w, h, t => by have e := h 4 (.inl rfl); simp only [TA] at t ⊢; rw [← e]; exact t
  | 5, x, y, w, h, t => by have e := h 5 (.inl rfl); simp only [TA] at t ⊢; rw [← e]; exact t
  | 6, x, y, w, h, t => by have e := h 6 (.inl rfl); simp only [TA] at t ⊢; rw [← e]; exact t
  | 7, x, y, w, h, t => by have e := h 7 (.inl rfl); simp only [TA] at t ⊢; rw [← e]; exact t
  | 8, x, y, w, h, t => by have e := h 8 (.inl rfl); simp only [TA] at t ⊢; rw [← e]; exact t
  | 9, x, y, w, h, t => by have e := h 9 (.inl rfl); simp only [TA] at t ⊢; rw [← e]; exact t
  | 10, x, y, w, h, t => by have e := h 10 (.inl rfl); simp only [TA] at t ⊢; rw [← e]; exact t
  | 11, x, y, w, h, t => by have e := h 11 (.inl rfl); have e10 := h 10 (.inr d11_10); simp only [TA] at t ⊢; rw [← e, ← e10]; exact t
  | 12, x, y, w, h, t => by have e := h 12 (.inl rfl); have e11 := h 11 (.inr d12_11); simp only [TA] at t ⊢; rw [← e, ← e11]; exact t
  | 13, x, y, w, h, t => by have e := h 13 (.inl rfl); have e11 := h 11 (.inr d13_11); simp only [TA] at t ⊢; rw [← e, ← e11]; exact t
  | 14, x, y, w, h, t => by have e := h 14 (.inl rfl); simp only [TA] at t ⊢; rw [← e]; exact t
  | 15, x, y, w, h, t => by have e14 := h 14 (.inr d15_14); have e12 := h 12 (.inr d15_12); simp only [TA] at t ⊢; rw [← e14, ← e12]; exact t
  | 16, x, y, w, h, t => by have e := h 16 (.inl rfl); have e13 := h 13 (.inr d16_13); simp only [TA] at t ⊢; rw [← e, ← e13]; exact t
  | _ + 17, x, y, w, h, t => trivial
theorem TA.next {w0 : World} {Bs : Nat} {so po : Option Addr} {sl sc tl tc ix n d c1 c2 : Nat} {w w' : World} (hb : Below w.heap.size w w') : ∀ j y, TA w0 Bs so po sl sc tl tc ix n d c1 c2 j y w → TA w0 Bs so po sl sc tl tc ix n d c1 c2 j y w'
  | 0, y, t => t
  | 1, y, t => t
  | 2, y, t => t
  | 3, y, t => by obtain ⟨ro, rl, rc, e, h0⟩ := t; exact ⟨ro, rl, rc, e, h0.below hb⟩
  | 4, y, t => t
  | 5, y, t => t
  | 6, y, t => t
  | 7, y, t => t
  | 8, y, t => t
  | 9, y, t => by obtain ⟨ro, rl, rc, e, h0⟩ := t; exact ⟨ro, rl, rc, e, h0.below hb⟩
  | 10, y, t => by obtain ⟨ro, rl, rc, e, h0⟩ := t; exact ⟨ro, rl, rc, e, h0.below hb⟩
  | 11, y, t => t
  | 12, y, t => t
  | 13, y, t => t
  | 14, y, t => by obtain ⟨X, e, h0, h⟩ := t; exact ⟨X, e, h0, h.next hb⟩
  | 15, y, t => by obtain ⟨X, v, e1, e2, h0, h⟩ := t; exact ⟨X, v, e1, e2, h0, h.next hb⟩
  | 16, y, t => t
  | _ + 17, y, t => trivial
theorem TA.store15 {w0 : World} {Bs : Nat} {so po : Option Addr} {sl sc tl tc ix n d c1 c2 : Nat} {w : World} {X : Nat} (hz : Bxs X [.slice none 0 0] w) (v : Value) {j : Nat} (hj : j = 0 ∨ j = 1 ∨ j = 2 ∨ j = 3 ∨ j = 4 ∨ j = 5 ∨ j = 6 ∨ j = 7 ∨ j = 8 ∨ j = 9 ∨ j = 10 ∨ j = 11 ∨ j = 12 ∨ j = 13 ∨ j = 16) (y : Nat → Value) (t : TA w0 Bs so po sl sc tl tc ix n d c1 c2 j y w) : TA w0 Bs so po sl sc tl tc ix n d c1 c2 j y (w.setCell ⟨X, 0, none⟩ v) := by
  rcases hj with rfl | rfl | rfl | rfl | rfl | rfl | rfl | rfl | rfl | rfl | rfl | rfl | rfl | rfl | rfl
  · exact t
  · exact t
  · exact t
  · obtain ⟨ro, rl, rc, e, h0⟩ := t; exact ⟨ro, rl, rc, e, hz.keep1 h0 v⟩
  · exact t
  · exact t
  · exact t
  · exact t
  · exact t
  · obtain ⟨ro, rl, rc, e, h0⟩ := t; exact ⟨ro, rl, rc, e, hz.keep1 h0 v⟩
  · obtain ⟨ro, rl, rc, e, h0⟩ := t; exact ⟨ro, rl, rc, e, hz.keep1 h0 v⟩
  · exact t
  · exact t
  · exact t
  · exact t
theorem Kw.none {w W : World} (h : Kw w W) : w.grownBy W none := ⟨Below.os h, Below.tape h, Below.output h, Below.size h, fun k hk _ => Below.block h k hk⟩
/-- what is yielded at round k -/
def encT (a k : Nat) (v : Value) : Array Value := #[.int .i64 ((a + k : Nat) : Int), .agg #[v]]
set_option maxRecDepth 100000 in
set_option maxHeartbeats 4000000 in
theorem terms_seq {m : Nat} {lot lo hi top : Int} {b g n a N Bs : Nat} {vb vg : Value} {W0 w : World} (hvb : NRow W0 vb (b + 1) (pascalN b)) (hvg : NRow W0 vg (g + 1) (pascalN g)) (hbg : b + g ≤ 2048) (hn : n ≤ 2048) (h0w : Below W0.heap.size W0 w) (_hBs : W0.heap.size ≤ Bs) (hx : Bx4 Bs lot vb vg n lo hi w)
    (hmax : max lo 0 = (a : Int)) (hmin : min hi (n : Int) = top) (hN : (N : Int) = max 0 (top + 1 - a)) :
    SeqE Fence.wide m Tryz.prog 52 #[.pointer (some ⟨Bs + 1 + 1, 0, none⟩), .pointer (some ⟨Bs + 1 + 1 + 1, 0, none⟩), .pointer (some ⟨Bs + 1, 0, none⟩), .pointer (some ⟨Bs, 0, none⟩)] (encT a)
      (fun k v W => D W v (hyp b g n (a + k))) (Kt W0.heap.size Bs) N w := by
  intro l J Jx W hW hJ hJx hY h0
  have HJ : Hid (∀ k W W', J k W → W.grownBy W' none → J k W') := fun k W W' hs hg => hJ k W W' none hs hg (fun r e => by cases e)
  have HX := Lib.hid (hx.next hW)
  have HB := Lib.hid (h0w.trans (hW.mono h0w.size))
  have HVB := Lib.hid hvb; have HVG := Lib.hid hvg; have HY := Lib.hid hY; have H0 := Lib.hid h0
  have hmx : ∀ p q : Int, (if p < q then q else p) = max p q := fun p q => by split <;> omega
  have hmn : ∀ p q : Int, (if p < q then p else q) = min p q := fun p q => by split <;> omega
  obtain ⟨so, sl, sc, rfl⟩ : ∃ so sl sc, vb = .slice so sl sc := by
    obtain ⟨_, xs, _, h2, _⟩ := hvb
    obtain ⟨g1, c1, h3⟩ := h2.shape
    exact ⟨_, _, _, h3⟩
  obtain ⟨po, tl, tc, rfl⟩ : ∃ so sl sc, vg = .slice so sl sc := by
    obtain ⟨_, xs, _, h2, _⟩ := hvg
    obtain ⟨g1, c1, h3⟩ := h2.shape
    exact ⟨_, _, _, h3⟩
  obtain ⟨-, k1, k2, k3, k4, k5⟩ := HX.out.cells
  clear hY hJ hJx h0 hW hvb hvg hx h0w
  refine callsIn_of_wp Tryz.func52 rfl trivial ?_ rfl
  simp only [Tryz.ntmps52, List.size_toArray, List.length_cons, List.length_nil, Nat.reduceAdd, Nat.reduceSub, Array.replicate_succ, Array.replicate_zero, List.push_toArray, List.append_toArray, List.nil_append, List.cons_append]
  gi_wp2_with fail
  gi_loopw [6] (fun s6 wr => ∃ k : Nat, k ≤ N ∧ s6 = .int .i64 ((a + k : Nat) : Int) ∧ Hid (Below W0.heap.size W0 wr) ∧ Hid (Bx4 Bs lot (.slice so sl sc) (.slice po tl tc) n lo hi wr) ∧ Hid (J k wr)) (fun s6 _ => a + N - (intOf s6).toNat)
  case atStart => exact ⟨0, Nat.zero_le _, by rw [Nat.add_zero, ← hmax], HB, HX, H0⟩
  case round =>
    obtain ⟨k, hk, rfl, HB1, HX1, HJ1⟩ := hrel
    obtain ⟨ix, hix⟩ : ∃ i, i = a + k := ⟨_, rfl⟩
    rw [← hix]
    obtain ⟨-, k1, k2, k3, k4, k5⟩ := HX1.out.cells
    by_cases hlt : k < N
    · have hle : (ix : Int) ≤ top := by omega
      have hin : ix ≤ n := by omega
      obtain ⟨d, hd⟩ : ∃ d, d = n - ix := ⟨_, rfl⟩
      have HWR : Hid (IntKind.i64.wrap ((n : Int) - ix) = (d : Int)) := by show _ = _; rw [IntWalk.i64_in _ (by omega)]; omega
      have hwi : IntKind.i64.wrap ((ix : Int) + 1) = ((ix + 1 : Nat) : Int) := by rw [IntWalk.i64_in _ (by omega)]; omega
      obtain ⟨c1, hc1⟩ : ∃ c, c = pascalN b ix := ⟨_, rfl⟩
      obtain ⟨c2, hc2⟩ : ∃ c, c = pascalN g d := ⟨_, rfl⟩
      have HHY : Hid (c1 * c2 = hyp b g n (a + k)) := by rw [← hix, hyp_of hin, hc1, hc2, hd]; rfl
      have b1 : c1 ≤ big := by rw [hc1]; exact le_big (pascalN_le _ _) (by omega)
      have b2 : c2 ≤ big := by rw [hc2]; exact le_big (pascalN_le _ _) (by omega)
      have b3 : c1 * c2 ≤ big := by rw [HHY.out]; exact le_big (hyp_le _ _ _ _) (by omega)
      have HA1 : Hid (∀ W', Kw wr W' → Calls Tryz.prog 53 #[.slice so sl sc, .int .i64 ix] W' fun e w' => ∃ ro rl rc, e = .returned (.agg #[.slice ro rl rc]) ∧ D w' (.slice ro rl rc) c1 ∧ Below W'.heap.size W' w') := fun W' h => by
        rw [hc1]; exact at_pascal (HVB.out.below (HB1.out.trans (Below.mono h HB1.out.size))) ix (by omega)
      have HA2 : Hid (∀ W', Kw wr W' → Calls Tryz.prog 53 #[.slice po tl tc, .int .i64 d] W' fun e w' => ∃ ro rl rc, e = .returned (.agg #[.slice ro rl rc]) ∧ D w' (.slice ro rl rc) c2 ∧ Below W'.heap.size W' w') := fun W' h => by
        rw [hc2]; exact at_pascal (HVG.out.below (HB1.out.trans (Below.mono h HB1.out.size))) d (by omega)
      have HMU : Hid (∀ W' u v, D W' u c1 → D W' v c2 → Calls Tryz.prog 49 #[.agg #[u], .agg #[v]] W' fun e w' => ∃ ro rl rc, e = .returned (.tuple #[.agg #[.slice ro rl rc], .int .i64 0]) ∧ D w' (.slice ro rl rc) (c1 * c2) ∧ Below W'.heap.size W' w') := fun W' u v h1 h2 =>
        (NMul_any u v c1 c2 W' h1 h2 (by have := (bits_of b1).2; omega) (by have := (bits_of b2).2; omega)).mono fun e w' ⟨r, e1, e2, e3⟩ => by
          rw [fitN_of (bits_of b3).1] at e2
          rw [show fitE (c1 * c2) = 0 from if_pos (bits_of b3).1] at e1
          obtain ⟨ro, rc, rfl, -⟩ := e2.shape
          exact ⟨_, _, _, e1, e2, e3⟩
      have HCEL : Hid (∀ W', Kw wr W' → W'.cell? ⟨Bs, 1, none⟩ = some (.slice so sl sc) ∧ W'.cell? ⟨Bs, 2, none⟩ = some (.slice po tl tc) ∧ W'.cell? ⟨Bs + 1, 0, none⟩ = some (.int .i64 n)) := fun W' h => by
        obtain ⟨-, z1, z2, z3, -, -⟩ := (HX1.out.next h).cells
        exact ⟨z1, z2, z3⟩
      have HI := Lib.hid hix; have HIN := Lib.hid hin; have HLT := Lib.hid hlt
      clear hc1 hc2 b1 b2 b3 hix hd hlt hin HVB HVG HX HB H0
      gi_upto_region 3 with fail
      clear k1 k2 k3 k4 k5
      gi_cut [7, 8] from 18 (fun s7 s8 W1 => ∃ X ro rl rc, s7 = .pointer (some ⟨X, 0, none⟩) ∧ s8 = .int .i64 0 ∧ Hid (Kw wr W1) ∧ wr.heap.size ≤ X ∧ Hid (Bxs X [.slice ro rl rc] W1) ∧ Hid (D W1 (.slice ro rl rc) (c1 * c2)))
      case first =>
        refine wpIn_wide.2 ?_
        refine region_own wr 17 (fun x => ⟨#[.func (.yield l) #[] #[], .pointer (some ⟨Bs + 1 + 1, 0, none⟩), .pointer (some ⟨Bs + 1 + 1 + 1, 0, none⟩), .pointer (some ⟨Bs + 1, 0, none⟩), .pointer (some ⟨Bs, 0, none⟩), undef, .int .i64 (ix : Int), x 14, x 16, .int .i64 lo, .int .i64 (a : Int), .int .i64 (ix : Int), .int .i64 hi, .int .i64 (n : Int), .int .i64 top, .bool true, u16, u17, x 11, x 0, x 1, x 2, x 3, x 4, x 5, x 6, x 7, x 8, x 9, x 10, x 12, x 13, u32, u33, u34, u35, u36], []⟩) (TA wr Bs so po sl sc tl tc ix n d c1 c2) TAkill (fun j => [_, _, _, _, _, _, _, _, _, _, _, _, _, _, _, undef, _].getD j undef) rfl (by kernel_rfl) (of_decide_eq_true (by kernel_rfl)) (of_decide_eq_true (by kernel_rfl)) (of_decide_eq_true (by kernel_rfl)) (TA.congr (of_decide_eq_true (by kernel_rfl)) (of_decide_eq_true (by kernel_rfl)) (of_decide_eq_true (by kernel_rfl)) (of_decide_eq_true (by kernel_rfl)) (of_decide_eq_true (by kernel_rfl)) (of_decide_eq_true (by kernel_rfl))) ?_ ?_
        · intro i hi
          have hi2 : i = 0 ∨ i = 1 ∨ i = 2 ∨ i = 3 ∨ i = 4 ∨ i = 5 ∨ i = 6 ∨ i = 7 ∨ i = 8 ∨ i = 9 ∨ i = 10 ∨ i = 11 ∨ i = 12 ∨ i = 13 ∨ i = 14 ∨ i = 15 ∨ i = 16 := by omega
          clear hi
          rcases hi2 with rfl | rfl | rfl | rfl | rfl | rfl | rfl | rfl | rfl | rfl | rfl | rfl | rfl | rfl | rfl | rfl | rfl
          · refine ⟨_, rfl, fun x w hk hd K' hK => ?_⟩
            clear hd
            go_simp
            exact hK _ w (upd_same x 0 _) hk (fun j _ _ _ _ y t => t)
          · refine ⟨_, rfl, fun x w hk hd K' hK => ?_⟩
            have e0 : x 0 = _ := (hd 0 (of_decide_eq_true (by kernel_rfl)) (.inl rfl))
            have c0 := (HCEL.out w hk).1
            clear hd
            simp only [e0]
            go_simp
            have hK2 := hK _ w (upd_same x 1 _) hk (fun j _ _ _ _ y t => t)
            simp (config := {decide := true}) only [upd, if_true, if_false, e0] at hK2
            exact hK2
          · refine ⟨_, rfl, fun x w hk hd K' hK => ?_⟩
            clear hd
            go_simp
            exact hK _ w (upd_same x 2 _) hk (fun j _ _ _ _ y t => t)
          · refine ⟨_, rfl, fun x w hk hd K' hK => ?_⟩
            have e1 : x 1 = _ := (hd 1 (of_decide_eq_true (by kernel_rfl)) (.inl rfl))
            have e2 : x 2 = _ := (hd 2 (of_decide_eq_true (by kernel_rfl)) (.inl rfl))
            have HC := Lib.hid (HA1.out w hk)
            clear hd
            simp only [e1, e2]
            go_simp
            refine HC.out.mono ?_
            rintro e w' ⟨ro, rl, rc, rfl, h, hB⟩
            have hK2 := hK _ w' (⟨ro, rl, rc, upd_same x 3 _, h⟩) (hk.next hB) (fun j _ _ _ _ y t => TA.next hB j y t)
            simp (config := {decide := true}) only [upd, if_true, if_false, e1, e2] at hK2
            exact hK2
          · refine ⟨_, rfl, fun x w hk hd K' hK => ?_⟩
            clear hd
            go_simp
            exact hK _ w (upd_same x 4 _) hk (fun j _ _ _ _ y t => t)
          · refine ⟨_, rfl, fun x w hk hd K' hK => ?_⟩
            have e4 : x 4 = _ := (hd 4 (of_decide_eq_true (by kernel_rfl)) (.inl rfl))
            have c0 := (HCEL.out w hk).2.1
            clear hd
            simp only [e4]
            go_simp
            have hK2 := hK _ w (upd_same x 5 _) hk (fun j _ _ _ _ y t => t)
            simp (config := {decide := true}) only [upd, if_true, if_false, e4] at hK2
            exact hK2
          · refine ⟨_, rfl, fun x w hk hd K' hK => ?_⟩
            have c0 := (HCEL.out w hk).2.2
            clear hd
            go_simp
            have hK2 := hK _ w (upd_same x 6 _) hk (fun j _ _ _ _ y t => t)
            simp (config := {decide := true}) only [upd, if_true, if_false] at hK2
            exact hK2
          · refine ⟨_, rfl, fun x w hk hd K' hK => ?_⟩
            clear hd
            go_simp
            exact hK _ w (upd_same x 7 _) hk (fun j _ _ _ _ y t => t)
          · refine ⟨_, rfl, fun x w hk hd K' hK => ?_⟩
            have e6 : x 6 = _ := (hd 6 (of_decide_eq_true (by kernel_rfl)) (.inl rfl))
            have e7 : x 7 = _ := (hd 7 (of_decide_eq_true (by kernel_rfl)) (.inl rfl))
            have hw := HWR.out
            clear hd
            simp only [e6, e7]
            go_simp
            have hK2 := hK _ w (upd_same x 8 _) hk (fun j _ _ _ _ y t => t)
            simp (config := {decide := true}) only [upd, if_true, if_false, e6, e7] at hK2
            exact hK2
          · refine ⟨_, rfl, fun x w hk hd K' hK => ?_⟩
            have e5 : x 5 = _ := (hd 5 (of_decide_eq_true (by kernel_rfl)) (.inl rfl))
            have e8 : x 8 = _ := (hd 8 (of_decide_eq_true (by kernel_rfl)) (.inl rfl))
            have HC := Lib.hid (HA2.out w hk)
            clear hd
            simp only [e5, e8]
            go_simp
            refine HC.out.mono ?_
            rintro e w' ⟨ro, rl, rc, rfl, h, hB⟩
            have hK2 := hK _ w' (⟨ro, rl, rc, upd_same x 9 _, h⟩) (hk.next hB) (fun j _ _ _ _ y t => TA.next hB j y t)
            simp (config := {decide := true}) only [upd, if_true, if_false, e5, e8] at hK2
            exact hK2
          · refine ⟨_, rfl, fun x w hk hd K' hK => ?_⟩
            obtain ⟨ro3, rl3, rc3, e3, h3_0⟩ := (hd 3 (of_decide_eq_true (by kernel_rfl)) (.inl rfl))
            obtain ⟨ro9, rl9, rc9, e9, h9_0⟩ := (hd 9 (of_decide_eq_true (by kernel_rfl)) (.inl rfl))
            have HC := Lib.hid (HMU.out w _ _ h3_0 h9_0)
            clear h3_0 h9_0
            clear hd
            simp only [e3, e9]
            go_simp
            refine HC.out.mono ?_
            rintro e w' ⟨ro, rl, rc, rfl, h, hB⟩
            have hK2 := hK _ w' (⟨ro, rl, rc, upd_same x 10 _, h⟩) (hk.next hB) (fun j _ _ _ _ y t => TA.next hB j y t)
            simp (config := {decide := true}) only [upd, if_true, if_false, e3, e9] at hK2
            exact hK2
          · refine ⟨_, rfl, fun x w hk hd K' hK => ?_⟩
            obtain ⟨ro10, rl10, rc10, e10, h10_0⟩ := (hd 10 (of_decide_eq_true (by kernel_rfl)) (.inl rfl))
            clear hd
            go_simp
            have hK2 := hK (x 10) w ⟨rfl, ro10, rl10, rc10, (upd_same x 11 _).trans e10⟩ hk (fun j _ _ _ _ y t => t)
            simp (config := {decide := true}) only [upd, if_true, if_false, e10] at hK2 ⊢
            exact hK2
          · refine ⟨_, rfl, fun x w hk hd K' hK => ?_⟩
            obtain ⟨-, ro11, rl11, rc11, e11⟩ := (hd 11 (of_decide_eq_true (by kernel_rfl)) (.inl rfl))
            clear hd
            simp only [e11]
            go_simp
            have hK2 := hK _ w (show upd x 12 _ 12 = tupN 0 (x 11) from (upd_same x 12 _).trans (by rw [e11] <;> rfl)) hk (fun j _ _ _ _ y t => t)
            simp (config := {decide := true}) only [upd, if_true, if_false, e11] at hK2
            exact hK2
          · refine ⟨_, rfl, fun x w hk hd K' hK => ?_⟩
            obtain ⟨-, ro11, rl11, rc11, e11⟩ := (hd 11 (of_decide_eq_true (by kernel_rfl)) (.inl rfl))
            clear hd
            simp only [e11]
            go_simp
            have hK2 := hK _ w (show upd x 13 _ 13 = tupN 1 (x 11) from (upd_same x 13 _).trans (by rw [e11] <;> rfl)) hk (fun j _ _ _ _ y t => t)
            simp (config := {decide := true}) only [upd, if_true, if_false, e11] at hK2
            exact hK2
          · refine ⟨_, rfl, fun x w hk hd K' hK => ?_⟩
            clear hd
            go_simp
            exact hK _ _ ⟨_, upd_same x 14 _, Below.size hk, Bxs.new1 w _ _⟩ (hk.next (alloc1_below _ _)) (fun j _ _ _ _ y t => TA.next (alloc1_below _ _) j y t)
          · refine ⟨_, rfl, fun x w hk hd K' hK => ?_⟩
            obtain ⟨X, eb, hX, hz⟩ := (hd 14 (of_decide_eq_true (by kernel_rfl)) (.inr rfl))
            have ev : x 12 = _ := (hd 12 (of_decide_eq_true (by kernel_rfl)) (.inl rfl))
            obtain ⟨-, ro11, rl11, rc11, em⟩ := (hd 11 (of_decide_eq_true (by kernel_rfl)) (.inl rfl))
            rw [em] at ev
            have ev : x 12 = .agg #[.slice ro11 rl11 rc11] := ev
            have k0 := hz.c0; have g0 := hz.f0
            clear hd
            simp only [ev, eb]
            go_simp
            have hK2 := hK undef (w.setCell ⟨X, 0, none⟩ (.slice ro11 rl11 rc11)) ⟨X, _, eb, ev, hX, hz.set1 _⟩ (Below.setCell hk (p := ⟨X, 0, none⟩) hX _) (fun j hj hne hnr hkl y t => by
              have hjj : j = 0 ∨ j = 1 ∨ j = 2 ∨ j = 3 ∨ j = 4 ∨ j = 5 ∨ j = 6 ∨ j = 7 ∨ j = 8 ∨ j = 9 ∨ j = 10 ∨ j = 11 ∨ j = 12 ∨ j = 13 ∨ j = 16 := by
                rcases (by omega : j = 0 ∨ j = 1 ∨ j = 2 ∨ j = 3 ∨ j = 4 ∨ j = 5 ∨ j = 6 ∨ j = 7 ∨ j = 8 ∨ j = 9 ∨ j = 10 ∨ j = 11 ∨ j = 12 ∨ j = 13 ∨ j = 14 ∨ j = 16) with rfl | rfl | rfl | rfl | rfl | rfl | rfl | rfl | rfl | rfl | rfl | rfl | rfl | rfl | rfl | rfl
                · decide
                · decide
                · decide
                · decide
                · decide
                · decide
                · decide
                · decide
                · decide
                · decide
                · decide
                · decide
                · decide
                · decide
                · exact absurd rfl (hkl 15 rfl).1
                · decide
              exact TA.store15 hz _ hjj y t)
            simp (config := {decide := true}) only [upd, if_false, eb, ev, em] at hK2
            exact hK2
          · refine ⟨_, rfl, fun x w hk hd K' hK => ?_⟩
            clear hd
            go_simp
            exact hK _ w (show upd x 16 _ 16 = x 13 from upd_same x 16 _) hk (fun j _ _ _ _ y t => t)
        · intro x w listed hk hT hl
          subst hl
          have t10 := hT 10 (by decide) rfl
          obtain ⟨e11, -⟩ := hT 11 (by decide) rfl
          obtain ⟨X, v, e14, e12, hX, hbx⟩ := hT 15 (by decide) rfl
          obtain ⟨ro, rl, rc, e10, hq⟩ := t10
          have f12 : x 12 = .agg #[.slice ro rl rc] := Eq.trans (hT 12 (by decide) rfl) (by rw [e11, e10]; rfl)
          rw [f12] at e12
          injection e12 with e12; injection e12 with e12; injection e12 with e12 _
          subst e12
          have e16 : x 16 = .int .i64 0 := Eq.trans (hT 16 (by decide) rfl) (Eq.trans (hT 13 (by decide) rfl) (by rw [e11, e10]; rfl))
          simp only [e14, e16]
          refine wpAny_done (by kernel_rfl) ?_ _
          have HQ := Lib.hid hq; have HBX := Lib.hid hbx; have HKW := Lib.hid hk
          clear e10 e11 e14 f12 e16 hq hbx hk hT
          go_wp2_with fail
          go_meet
          case rel => exact ⟨X, ro, rl, rc, rfl, rfl, HKW, hX, HBX, HQ⟩
      case rest =>
        obtain ⟨X, ro, rl, rc, rfl, rfl, HKW, hX, HBX, HQ⟩ := hcut
        obtain ⟨W1, hW1⟩ : ∃ W1, W1 = wc := ⟨_, rfl⟩
        subst hW1
        have HJ2 := Lib.hid (HJ.out _ _ _ HJ1.out (Kw.none HKW.out))
        have hx1 := HBX.out.c0
        have HB2 := Lib.hid (HB1.out.trans (Below.mono HKW.out HB1.out.size))
        have HX2 := Lib.hid (HX1.out.next HKW.out)
        obtain ⟨fn, tmps, assign, body, hy, hR⟩ := HY.out k (.slice ro rl rc) W1 HLT.out HJ2.out (by rw [← HHY.out]; exact HQ.out)
        unfold encT at hy
        rw [← HI.out] at hy
        clear HQ HBX HJ1 HB1 HX1 HCEL HA1 HA2 HMU HHY HKW HWR
        gi_wp2_with fail
        refine ⟨fun h => (by cases h), hR.mono ?_⟩
        rintro e W3 (⟨rfl, hJ3, hk3⟩ | ⟨rfl, hJx3⟩)
        · have HB3 := Lib.hid (HB2.out.trans hk3.1)
          have HX3 := Lib.hid (HX2.out.kept hk3)
          have HJ3 := Lib.hid hJ3
          clear hJ3 hk3 hx1 hy hR
          gi_wp2_with fail
          go_roundw
          case rel => exact ⟨k + 1, HLT.out, by rw [HI.out]; rfl, HB3, HX3, HJ3⟩
          case measure => have h1 := HLT.out; have h2 := HI.out; simp [intOf]; omega
        · have HJX := Lib.hid hJx3
          clear hJx3 hx1 hy hR
          gi_wp2_with fail
          refine bodyPost_ret (results_none rfl _ _ _) rfl ?_
          exact ⟨⟨_, rfl⟩, .inr ⟨k, HLT.out, HJX.out⟩⟩
    · have hkN : k = N := by omega
      have hle : ¬ (ix : Int) ≤ top := by omega
      subst hkN
      clear hlt hN hk
      gi_wp2_with fail
      go_end0
      exact ⟨⟨_, rfl⟩, .inl HJ1.out⟩
end Go.Proofs.YtfkogbomijonjaaGreatDoor
namespace Go.Proofs.YtfkogbomijonjaaGreatDoor
open Go Go.RowKit Go.Shelf Gu

attribute [local go_sem] Oper.semAt_some

theorem D.kept {W W' : World} {row : Option Nat} {v : Value} {n : Nat} (h : D W v n) (hg : W.grownBy W' row) (hr : ∀ r, row = some r → ∃ o : Obj, W.heap[r]? = some o ∧ o.isCells = false) : D W' v n := by
  rcases h with h | ⟨h0, b, o, cap, hv, hc⟩
  · exact .inl h
  · exact .inr ⟨h0, b, o, cap, hv, fun i hi => cell_kept (hc i hi) hg hr⟩
theorem Nx.kept {W W' : World} {row : Option Nat} {B : Nat} {v : Value} (h : Nx B v W) (hg : W.grownBy W' row) (hr : ∀ r, row = some r → ∃ o : Obj, W.heap[r]? = some o ∧ o.isCells = false) : Nx B v W' :=
  ⟨cell_kept h.c0 hg hr, (frozen_kept h.c0 hg hr).trans h.f0, Nat.lt_of_lt_of_le h.lt hg.size⟩
theorem Nx.past {W W' : World} {A B : Nat} {v : Value} (h : Nx B v W) (hg : W.grownBy W' (some A)) (hne : B ≠ A) : Nx B v W' :=
  ⟨hg.cell h.c0 (by simpa using hne), (World.frozen?_of_block (hg.block B h.lt (by simpa using hne))).trans h.f0, Nat.lt_of_lt_of_le h.lt hg.size⟩
theorem Nx.far {W : World} {A B : Nat} {v : Value} (h : Nx B v W) (hne : B ≠ A) (u : Value) : Nx B v (W.setCell ⟨A, 0, none⟩ u) :=
  ⟨(World.cell?_setCell_other _ _ _ _ (by intro e; injection e with e; exact hne e.symm)).trans h.c0, (World.frozen?_setCell _ _ _ _).trans h.f0, by rw [World.size_setCell]; exact h.lt⟩
theorem Nx.set {W : World} {B : Nat} {v : Value} (h : Nx B v W) (u : Value) : Nx B u (W.setCell ⟨B, 0, none⟩ u) :=
  ⟨World.cell?_setCell_same _ _ _ h.c0, (World.frozen?_setCell _ _ _ _).trans h.f0, by rw [World.size_setCell]; exact h.lt⟩
/-- a number, boxed -/
def NB (B x : Nat) (W : World) : Prop := ∃ o l c, Nx B (.slice o l c) W ∧ D W (.slice o l c) x
theorem NB.kept {W W' : World} {row : Option Nat} {B x : Nat} (h : NB B x W) (hg : W.grownBy W' row) (hr : ∀ r, row = some r → ∃ o : Obj, W.heap[r]? = some o ∧ o.isCells = false) : NB B x W' := by
  obtain ⟨o, l, c, h1, h2⟩ := h
  exact ⟨o, l, c, h1.kept hg hr, h2.kept hg hr⟩
theorem NB.next {W W' : World} {B x : Nat} (h : NB B x W) (hb : Below W.heap.size W W') : NB B x W' := by
  obtain ⟨o, l, c, h1, h2⟩ := h
  exact ⟨o, l, c, h1.next hb, h2.below hb⟩
/-- what count keeps between two rounds -/
structure CI (W : World) (x : Nat) (W' : World) : Prop where
  sum : NB (W.heap.size + 1 + 1) x W'
  acc : NB (W.heap.size + 1 + 1 + 1) x W'
  res : Nx (W.heap.size + 1) (.slice none 0 0) W'
  fn : Nx (W.heap.size + 1 + 1 + 1 + 1) (accV (W.heap.size + 1 + 1 + 1)) W'
  bel : Below W.heap.size W W'
  sz : W.heap.size + 1 + 1 + 1 + 1 + 1 + 1 + 1 + 1 + 1 ≤ W'.heap.size
theorem CI.own {W : World} (f : Nat → Nat) {B : Nat} (hB : W.heap.size ≤ B) : OwnFrom B (fun k W' => CI W (f k) W') := fun k X Y row h hg hr => by
  have hr2 : ∀ r, row = some r → ∃ o : Obj, X.heap[r]? = some o ∧ o.isCells = false := fun r e => (hr r e).2
  exact ⟨h.sum.kept hg hr2, h.acc.kept hg hr2, h.res.kept hg hr2, h.fn.kept hg hr2, h.bel.grown hg h.bel.size (fun k e => Nat.le_trans hB (hr k e).1), Nat.le_trans h.sz hg.size⟩
theorem CI.next {W : World} {x : Nat} {X Y : World} (h : CI W x X) (hb : Below X.heap.size X Y) : CI W x Y :=
  ⟨h.sum.next hb, h.acc.next hb, h.res.next hb, h.fn.next hb, h.bel.trans (hb.mono h.bel.size), Nat.le_trans h.sz hb.size⟩
theorem D.zero (W : World) : D W (.slice none 0 0) 0 := IsN.zero _ _ _ _ _
/-- the world where count's loop begins -/
theorem count_start (W : World) (lot : Int) (vb vg : Value) (n lo hi : Int) : ∃ wT w4, wT = ((((W.alloc (.cells #[.int .i64 lot, vb, vg] 45)).alloc (.cells #[.slice none 0 0] 55)).alloc (.cells #[.slice none 0 0] 55)).alloc (.cells #[.slice none 0 0] 55)).alloc (.cells #[accV (W.heap.size + 1 + 1 + 1)] 68) ∧
    w4 = termsW wT lot vb vg n lo hi ∧ wT.heap.size = W.heap.size + 1 + 1 + 1 + 1 + 1 ∧ w4.heap.size = W.heap.size + 1 + 1 + 1 + 1 + 1 + 1 + 1 + 1 + 1 ∧ CI W 0 w4 ∧ Bx4 (W.heap.size + 1 + 1 + 1 + 1 + 1) lot vb vg n lo hi w4 ∧
    wT.cell? ⟨W.heap.size, 0, none⟩ = some (.int .i64 lot) ∧ wT.cell? ⟨W.heap.size, 1, none⟩ = some vb ∧ wT.cell? ⟨W.heap.size, 2, none⟩ = some vg := by
  obtain ⟨a0, h0⟩ : ∃ a, a = W.alloc (.cells #[.int .i64 lot, vb, vg] 45) := ⟨_, rfl⟩
  obtain ⟨a1, h1⟩ : ∃ a, a = a0.alloc (.cells #[.slice none 0 0] 55) := ⟨_, rfl⟩
  obtain ⟨a2, h2⟩ : ∃ a, a = a1.alloc (.cells #[.slice none 0 0] 55) := ⟨_, rfl⟩
  obtain ⟨a3, h3⟩ : ∃ a, a = a2.alloc (.cells #[.slice none 0 0] 55) := ⟨_, rfl⟩
  obtain ⟨a4, h4⟩ : ∃ a, a = a3.alloc (.cells #[accV (W.heap.size + 1 + 1 + 1)] 68) := ⟨_, rfl⟩
  obtain ⟨a5, h5⟩ : ∃ a, a = a4.alloc (.cells #[.int .i64 lot, vb, vg] 45) := ⟨_, rfl⟩
  obtain ⟨a6, h6⟩ : ∃ a, a = a5.alloc (.cells #[.int .i64 n] 3) := ⟨_, rfl⟩
  obtain ⟨a7, h7⟩ : ∃ a, a = a6.alloc (.cells #[.int .i64 lo] 3) := ⟨_, rfl⟩
  obtain ⟨a8, h8⟩ : ∃ a, a = a7.alloc (.cells #[.int .i64 hi] 3) := ⟨_, rfl⟩
  have s0 : a0.heap.size = W.heap.size + 1 := by rw [h0]; simp
  have s1 : a1.heap.size = W.heap.size + 1 + 1 := by rw [h1, World.size_alloc, s0]
  have s2 : a2.heap.size = W.heap.size + 1 + 1 + 1 := by rw [h2, World.size_alloc, s1]
  have s3 : a3.heap.size = W.heap.size + 1 + 1 + 1 + 1 := by rw [h3, World.size_alloc, s2]
  have s4 : a4.heap.size = W.heap.size + 1 + 1 + 1 + 1 + 1 := by rw [h4, World.size_alloc, s3]
  have s5 : a5.heap.size = W.heap.size + 1 + 1 + 1 + 1 + 1 + 1 := by rw [h5, World.size_alloc, s4]
  have s6 : a6.heap.size = W.heap.size + 1 + 1 + 1 + 1 + 1 + 1 + 1 := by rw [h6, World.size_alloc, s5]
  have s7 : a7.heap.size = W.heap.size + 1 + 1 + 1 + 1 + 1 + 1 + 1 + 1 := by rw [h7, World.size_alloc, s6]
  have s8 : a8.heap.size = W.heap.size + 1 + 1 + 1 + 1 + 1 + 1 + 1 + 1 + 1 := by rw [h8, World.size_alloc, s7]
  have b0 : Below W.heap.size W a0 := by rw [h0]; exact alloc1_below _ _
  have b1 : Below a0.heap.size a0 a1 := by rw [h1]; exact alloc1_below _ _
  have b2 : Below a1.heap.size a1 a2 := by rw [h2]; exact alloc1_below _ _
  have b3 : Below a2.heap.size a2 a3 := by rw [h3]; exact alloc1_below _ _
  have b4 : Below a3.heap.size a3 a4 := by rw [h4]; exact alloc1_below _ _
  have b5 : Below a4.heap.size a4 a5 := by rw [h5]; exact alloc1_below _ _
  have b6 : Below a5.heap.size a5 a6 := by rw [h6]; exact alloc1_below _ _
  have b7 : Below a6.heap.size a6 a7 := by rw [h7]; exact alloc1_below _ _
  have b8 : Below a7.heap.size a7 a8 := by rw [h8]; exact alloc1_below _ _
  have c7 := b7.trans (b8.mono b7.size)
  have c6 := b6.trans (c7.mono b6.size)
  have c5 := b5.trans (c6.mono b5.size)
  have c4 := b4.trans (c5.mono b4.size)
  have c3 := b3.trans (c4.mono b3.size)
  have c2 := b2.trans (c3.mono b2.size)
  have c1 := b1.trans (c2.mono b1.size)
  have d3 := b3.trans (b4.mono b3.size)
  have d2 := b2.trans (d3.mono b2.size)
  have d1 := b1.trans (d2.mono b1.size)
  have e1 : Nx (W.heap.size + 1) (.slice none 0 0) a1 := by have := Nx.new a0 (.slice none 0 0) 55; rwa [← h1, s0] at this
  have e2 : Nx (W.heap.size + 1 + 1) (.slice none 0 0) a2 := by have := Nx.new a1 (.slice none 0 0) 55; rwa [← h2, s1] at this
  have e3 : Nx (W.heap.size + 1 + 1 + 1) (.slice none 0 0) a3 := by have := Nx.new a2 (.slice none 0 0) 55; rwa [← h3, s2] at this
  have e4 : Nx (W.heap.size + 1 + 1 + 1 + 1) (accV (W.heap.size + 1 + 1 + 1)) a4 := by have := Nx.new a3 (accV (W.heap.size + 1 + 1 + 1)) 68; rwa [← h4, s3] at this
  have g5 : a5.heap[W.heap.size + 1 + 1 + 1 + 1 + 1]? = some (.cells #[.int .i64 lot, vb, vg] 45 (0, 0)) := by rw [← s4, h5]; exact heap_alloc_new _ _
  have g6 : a6.heap[W.heap.size + 1 + 1 + 1 + 1 + 1 + 1]? = some (.cells #[.int .i64 n] 3 (0, 0)) := by rw [← s5, h6]; exact heap_alloc_new _ _
  have g7 : a7.heap[W.heap.size + 1 + 1 + 1 + 1 + 1 + 1 + 1]? = some (.cells #[.int .i64 lo] 3 (0, 0)) := by rw [← s6, h7]; exact heap_alloc_new _ _
  have g8 : a8.heap[W.heap.size + 1 + 1 + 1 + 1 + 1 + 1 + 1 + 1]? = some (.cells #[.int .i64 hi] 3 (0, 0)) := by rw [← s7, h8]; exact heap_alloc_new _ _
  have g0 : a4.heap[W.heap.size]? = some (.cells #[.int .i64 lot, vb, vg] 45 (0, 0)) := (d1.block _ (by omega)).trans (by rw [h0]; exact heap_alloc_new _ _)
  refine ⟨a4, a8, by rw [h4, h3, h2, h1, h0], by rw [h8, h7, h6, h5]; rfl, s4, s8, ⟨⟨_, _, _, e2.next c3, D.zero _⟩, ⟨_, _, _, e3.next c4, D.zero _⟩, e1.next c2, e4.next c5, b0.trans (c1.mono b0.size), Nat.le_of_eq s8.symm⟩,
    ⟨(c6.block _ (by omega)).trans g5, (c7.block _ (by omega)).trans g6, (b8.block _ (by omega)).trans g7, g8⟩, ?_, ?_, ?_⟩ <;> simp [World.cell?, g0]
set_option maxRecDepth 100000 in
set_option maxHeartbeats 2000000 in
theorem count_any {lot lo hi top : Int} {b g n a N : Nat} {vb vg : Value} {W : World} (hvb : NRow W vb (b + 1) (pascalN b)) (hvg : NRow W vg (g + 1) (pascalN g)) (hbg : b + g ≤ 2048) (hn : n ≤ 2048)
    (hmax : max lo 0 = (a : Int)) (hmin : min hi (n : Int) = top) (hN : (N : Int) = max 0 (top + 1 - a)) :
    Calls Tryz.prog 29 #[.agg #[.int .i64 lot, vb, vg], .int .i64 n, .int .i64 lo, .int .i64 hi] W fun e w' => ∃ ro rl rc, e = .returned (.agg #[.slice ro rl rc]) ∧ D w' (.slice ro rl rc) (hsum b g n a N) ∧ Below W.heap.size W w' := by
  obtain ⟨so, sl, sc, rfl⟩ : ∃ so sl sc, vb = .slice so sl sc := by
    obtain ⟨_, xs, _, h2, _⟩ := hvb
    obtain ⟨g1, c1, h3⟩ := h2.shape
    exact ⟨_, _, _, h3⟩
  obtain ⟨po, tl, tc, rfl⟩ : ∃ so sl sc, vg = .slice so sl sc := by
    obtain ⟨_, xs, _, h2, _⟩ := hvg
    obtain ⟨g1, c1, h3⟩ := h2.shape
    exact ⟨_, _, _, h3⟩
  obtain ⟨wT, w4, hT, h4, hs, hs4, hCI, hB4, k0, k1, k2⟩ := count_start W lot (.slice so sl sc) (.slice po tl tc) n lo hi
  have HSQ := Lib.hid (terms_seq (m := 8) hvb hvg hbg hn hCI.bel (Bs := W.heap.size + 1 + 1 + 1 + 1 + 1) (by omega) hB4 hmax hmin hN)
  have HAC : Hid (∀ W', CallsIn Fence.wide 8 Tryz.prog 32 #[] W' fun e w' => e = .returned (accV W'.heap.size) ∧ w' = W'.alloc (.cells #[.slice none 0 0] 55)) := fun W' => callsIn_wide.2 (accumulator_any W')
  have HTE : Hid (CallsIn Fence.wide 8 Tryz.prog 33 #[.agg #[.int .i64 lot, .slice so sl sc, .slice po tl tc], .int .i64 n, .int .i64 lo, .int .i64 hi] wT fun e w' => e = .returned (termsV (W.heap.size + 1 + 1 + 1 + 1 + 1)) ∧ w' = w4) := callsIn_wide.2 (by rw [h4, ← hs]; exact sterms_any wT lot so po sl sc tl tc n lo hi)
  have HCI := Lib.hid hCI; have HT := Lib.hid hT; have HS4 := Lib.hid hs4; have HN := Lib.hid hN; have HMIN := Lib.hid hmin; have HMAX := Lib.hid hmax
  clear hvb hvg hT h4 hs hs4 hCI hB4 hN hmin hmax
  refine (callsIn_wide (n := 9)).1 ?_
  refine callsIn_of_wp_marks Tryz.func29 rfl trivial ?_ rfl
  simp only [Tryz.ntmps29, List.size_toArray, List.length_cons, List.length_nil, Nat.reduceAdd, Nat.reduceSub, Array.replicate_succ, Array.replicate_zero, List.push_toArray, List.append_toArray, List.nil_append, List.cons_append]
  gi_wp2_with fail
  refine ⟨trivial, (HAC.out _).mono ?_⟩
  rintro e w' ⟨rfl, rfl⟩
  simp only [World.size_alloc]
  unfold accV at HT ⊢
  gi_upto_region 3 with fail
  rw [← HT.out]
  gi_wp2_with fail
  refine ⟨trivial, HTE.out.mono ?_⟩
  rintro e w' ⟨rfl, rfl⟩
  gi_wp2_with fail
  have hge : W.heap.size ≤ w'.heap.size := HCI.out.bel.size
  have hs9 := HS4.out
  have hNn : N ≤ n + 1 := by have h1 := HN.out; have h2 := HMIN.out; have h3 := HMAX.out; omega
  refine range_e rfl (by omega) (gf := 52) (lb := #[.pointer (some ⟨W.heap.size + 1 + 1 + 1 + 1 + 1 + 1 + 1, 0, none⟩), .pointer (some ⟨W.heap.size + 1 + 1 + 1 + 1 + 1 + 1 + 1 + 1, 0, none⟩), .pointer (some ⟨W.heap.size + 1 + 1 + 1 + 1 + 1 + 1, 0, none⟩), .pointer (some ⟨W.heap.size + 1 + 1 + 1 + 1 + 1, 0, none⟩)]) rfl trivial (enters_of Tryz.func52 (by kernel_rfl) rfl)
    HSQ.out Kt.trans (fun W'' l o o' hl h hc hw => ⟨belowK_b hge W'' l o o' hl h hc hw, fun k h1 h2 => World.putObj_heap_other (by omega)⟩) (fun _ _ => rfl)
    (fun k W' => CI W (hsum b g n a k) W') (fun _ _ _ => False) (CI.own _ hge) (fun _ _ _ _ _ hs _ _ => hs) HCI.out
    (fun k v a' W' => ∃ Bx xo xl xc, v = .slice xo xl xc ∧ W.heap.size + 1 + 1 + 1 + 1 + 1 + 1 + 1 + 1 + 1 ≤ Bx ∧ Nx Bx v W' ∧ D W' v (hyp b g n (a + k)) ∧ a' = { tmps := #[.agg #[.int .i64 lot, .slice so sl sc, .slice po tl tc], .int .i64 n, .int .i64 lo, .int .i64 hi, .pointer (some ⟨W.heap.size, 0, none⟩), undef, undef, undef, .pointer (some ⟨W.heap.size + 1, 0, none⟩), .pointer (some ⟨W.heap.size + 1 + 1, 0, none⟩), .pointer (some ⟨W.heap.size + 1 + 1 + 1 + 1, 0, none⟩), undef, .pointer (some ⟨Bx, 0, none⟩), .func (.func 50) #[] #[.pointer (some ⟨W.heap.size + 1 + 1 + 1, 0, none⟩)], .agg #[.int .i64 lot, .slice so sl sc, .slice po tl tc], .int .i64 n, .int .i64 lo, .int .i64 hi, termsV (W.heap.size + 1 + 1 + 1 + 1 + 1), .int .i64 ((a + k : Nat) : Int), .agg #[.slice xo xl xc], undef, undef, undef, undef], defers := [] })
    (fun k v a' => fun _ X Y row hs hg hr => by
      obtain ⟨Bx, xo, xl, xc, h1, h2, h3, h4, h5⟩ := hs
      have hr2 : ∀ r, row = some r → ∃ o : Obj, X.heap[r]? = some o ∧ o.isCells = false := fun r e => (hr r e).2
      exact ⟨Bx, xo, xl, xc, h1, h2, h3.kept hg hr2, h4.kept hg hr2, h5⟩) ?assign ?body ?done ?stop
  case assign =>
    intro l k v W' K hk hI hE hK
    obtain ⟨xo, xc, rfl, -⟩ := hE.shape
    have hsz := hI.sz
    unfold encT
    gi_wp2
    exact hK _ _ ((KeepsOthers.alloc _ _).from _) ⟨(Below.refl _ W').alloc hI.bel.size _, fun j h1 h2 => Below.heap_alloc _ _ _ (by omega)⟩ (hI.next (alloc1_below _ _)) ⟨W'.heap.size, _, _, _, rfl, hsz, Nx.new _ _ _, hE.below (alloc1_below _ _), rfl⟩
  case body =>
    rintro l k v a' W' hk hI ⟨Bx, xo, xl, xc, rfl, hBx, hX, hD, rfl⟩
    obtain ⟨⟨uo, ul, uc, u1, u2⟩, ⟨vo, vl, vc, v1, v2⟩, r1, f1, b1, sz⟩ := hI
    have q1 : ∀ j, j ≤ N → hsum b g n a j ≤ big := fun j hj => by
      have h1 := hsum_le b g n a j
      have h2 : j * 2 ^ (b + g) ≤ 2 ^ 12 * 2 ^ (b + g) := Nat.mul_le_mul_right _ (Nat.le_trans (show j ≤ 2049 by omega) (by decide))
      rw [← Nat.pow_add] at h2
      exact le_big (Nat.le_trans h1 h2) (by omega)
    have q2 : hyp b g n (a + k) ≤ big := le_big (hyp_le _ _ _ _) (by omega)
    have q3 : hsum b g n a k + hyp b g n (a + k) = hsum b g n a (k + 1) := rfl
    have HA := Lib.hid (acc_any v1 v2 hD (bits_of (q1 k (by omega))).2 (bits_of q2).2 (by rw [q3]; exact (bits_of (q1 (k + 1) (by omega))).1))
    rw [q3] at HA
    have c0 := f1.c0; have c1 := hX.c0; have c2 := u1.c0; have c3 := u1.f0
    unfold accV at c0
    have U1 := Lib.hid u1; have R1 := Lib.hid r1; have F1 := Lib.hid f1; have B1 := Lib.hid b1; have SZ := Lib.hid sz
    clear q1 q2 q3 v1 v2 hD u1 u2 r1 f1 b1 sz
    gi_wp2_with (refine ⟨trivial, ?_⟩; gi_at_call 50; refine (CallsIn.inRound l (callsIn_wide.2 HA.out)).mono ?_; rintro e w6 ⟨ro, rl, rc, rfl, g1, g2, g3, g4⟩; have e1 := (U1.out.past g3 (by omega)).c0; have e2 := (U1.out.past g3 (by omega)).f0)
    have hsz := SZ.out
    have hb6 : Below W.heap.size W' w6 := (Below.refl _ _).grown g3 B1.out.size (fun j e => by cases e; omega)
    refine ⟨(KeepsFrom.of_grownBy g3 (fun j e => by cases e; omega)).trans ((KeepsOthers.setCell _ _ _).from _), ⟨hb6.setCell (p := ⟨W.heap.size + 1 + 1, 0, none⟩) (by show W.heap.size ≤ W.heap.size + 1 + 1; omega) _, fun j h1 h2 => ?_⟩, ?_⟩
    · exact (Below.heap_setCell _ _ _ j (by show j ≠ W.heap.size + 1 + 1; omega)).trans (g3.block j (by omega) (by intro e; injection e with e; omega))
    · exact ⟨⟨_, _, _, (U1.out.past g3 (by omega)).set _, g1.setCell e1 (by intro d h; cases h) _⟩, ⟨_, _, _, g2.far (by omega) _, g1.setCell e1 (by intro d h; cases h) _⟩, (R1.out.past g3 (by omega)).far (by omega) _, (F1.out.past g3 (by omega)).far (by omega) _,
        (B1.out.trans hb6).setCell (p := ⟨W.heap.size + 1 + 1, 0, none⟩) (by show W.heap.size ≤ W.heap.size + 1 + 1; omega) _, by rw [World.size_setCell]; exact Nat.le_trans hsz g3.size⟩
  case done =>
    rintro d W' hd ⟨⟨uo, ul, uc, u1, u2⟩, -, r1, f1, b1, sz⟩ hK
    have c2 := u1.c0; have c3 := r1.c0; have c4 := r1.f0
    have HU2 := Lib.hid (u2.setCell c3 (by intro d h; cases h) (.slice uo ul uc))
    have HB := Lib.hid (b1.setCell (p := ⟨W.heap.size + 1, 0, none⟩) (by show W.heap.size ≤ W.heap.size + 1; omega) (.slice uo ul uc))
    have HR := Lib.hid (r1.set (.slice uo ul uc))
    have HK := Lib.hid ((KeepsOthers.setCell W' ⟨W.heap.size + 1, 0, none⟩ (.slice uo ul uc)).same d _ hK rfl)
    clear u1 u2 r1 f1 b1 sz hK
    gi_wp2
    have c5 := (HR.out.kept (grownBy_putObj' _ d (.deferred none)) (fun r e => by cases e; exact ⟨_, HK.out, rfl⟩)).c0
    refine ⟨by simp, .inl ⟨_, _, rfl, run_takeDeferred HK.out, ?_⟩⟩
    refine ⟨.agg #[.slice uo ul uc], by simp [results, Tryz.results29, go_sem, c5], _, _, _, rfl, D.kept HU2.out (grownBy_putObj' _ d (.deferred none)) (fun r e => by cases e; exact ⟨_, HK.out, rfl⟩), HB.out.trans (belowK_b (w := W) (Nat.le_refl _) _ d _ _ (by omega) HK.out rfl rfl)⟩
  case stop =>
    rintro d c k W' _ _ h _
    exact h.elim
end Go.Proofs.YtfkogbomijonjaaGreatDoor
namespace Go.Proofs.YtfkogbomijonjaaGreatDoor
open Go Go.RowKit Gu

theorem am_gm {r t m : Nat} (h : r + t ≤ 2 * m) : r * t ≤ m * m := by
  rcases Nat.le_total r m with h1 | h1
  · obtain ⟨d, rfl⟩ := Nat.exists_eq_add_of_le h1
    have e1 : r * t ≤ r * (r + 2 * d) := Nat.mul_le_mul_left _ (by omega)
    have e2 : r * (r + 2 * d) = r * r + 2 * (r * d) := by rw [Nat.mul_add, Nat.mul_left_comm]
    have e3 : (r + d) * (r + d) = r * r + r * d + (r * d + d * d) := by rw [Nat.add_mul, Nat.mul_add, Nat.mul_add, Nat.mul_comm d r]
    omega
  · obtain ⟨d, rfl⟩ := Nat.exists_eq_add_of_le h1
    obtain ⟨x, rfl⟩ : ∃ x, m = t + x := ⟨m - t, by omega⟩
    have e1 : (t + x + d) * t = t * t + t * x + t * d := by rw [Nat.add_mul, Nat.add_mul, Nat.mul_comm x t, Nat.mul_comm d t]
    have e2 : (t + x) * (t + x) = t * t + t * x + (t * x + x * x) := by rw [Nat.add_mul, Nat.mul_add, Nat.mul_add, Nat.mul_comm x t]
    have e3 : t * d ≤ t * x := Nat.mul_le_mul_left _ (by omega)
    omega
theorem newton {a r : Nat} (hr : 0 < r) (ha : 0 < a) : 0 < (r + a / r) / 2 ∧ a < ((r + a / r) / 2 + 1) * ((r + a / r) / 2 + 1) ∧ (r ≤ (r + a / r) / 2 → r * r ≤ a) := by
  have h1 : a < r * (a / r + 1) := Nat.lt_mul_div_succ a hr
  have h2 : r * (a / r) ≤ a := Nat.mul_div_le a r
  have h3 : r = 1 → a / r = a := fun h => by rw [h, Nat.div_one]
  generalize a / r = q at *
  refine ⟨?_, ?_, fun h => ?_⟩
  · rcases Nat.lt_or_ge 1 r with h | h
    · omega
    · have := h3 (by omega); omega
  · exact Nat.lt_of_lt_of_le h1 (am_gm (by omega))
  · exact Nat.le_trans (Nat.mul_le_mul_left _ (by omega)) h2
theorem sqrt_start {a : Nat} (_ha : 0 < a) : a < (1 * 2 ^ ((nd 2 a + 1) / 2) + 1) * (1 * 2 ^ ((nd 2 a + 1) / 2) + 1) := by
  have h := nd_lt (B := 2) (by decide) a
  rw [Nat.one_mul]
  have h1 : 2 ^ nd 2 a ≤ 2 ^ ((nd 2 a + 1) / 2) * 2 ^ ((nd 2 a + 1) / 2) := by rw [← Nat.pow_add]; exact Nat.pow_le_pow_right (by decide) (by omega)
  have h2 : 2 ^ ((nd 2 a + 1) / 2) * 2 ^ ((nd 2 a + 1) / 2) ≤ (2 ^ ((nd 2 a + 1) / 2) + 1) * (2 ^ ((nd 2 a + 1) / 2) + 1) := Nat.mul_le_mul (by omega) (by omega)
  omega
theorem sqrt_room {a : Nat} (ha : 0 < a) : 1 * 2 ^ ((nd 2 a + 1) / 2) < 4294967296 ^ (nd 4294967296 a + 1) := by
  have h1 := nd_pow_le (B := 2) (by decide) ha
  have h0 := nd_pos (B := 2) (by decide) ha
  have h2 := nd_lt (B := 4294967296) (by decide) a
  have h3 : 2 ^ ((nd 2 a + 1) / 2) ≤ 2 ^ (nd 2 a - 1 + 1) := Nat.pow_le_pow_right (by decide) (by omega)
  rw [Nat.pow_succ] at h3
  rw [Nat.pow_succ, Nat.one_mul]
  omega
/-- what a region keeps whose calls make memory: a number, and all that lay there when it began -/
structure St1 (W0 : World) (v : Value) (a : Nat) (W : World) : Prop where
  num : D W v a
  bel : Below W0.heap.size W0 W
theorem St1.next {W0 W W' : World} {v : Value} {a : Nat} (h : St1 W0 v a W) (hb : Below W.heap.size W W') : St1 W0 v a W' :=
  ⟨h.num.below hb, h.bel.trans (hb.mono h.bel.size)⟩
theorem St1.cell {W0 W : World} {v : Value} {a k : Nat} {x : Value} (h : St1 W0 v a W) (hk : k < W0.heap.size) (hc : W0.cell? ⟨k, 0, none⟩ = some x) : W.cell? ⟨k, 0, none⟩ = some x :=
  (h.bel.cell (p := ⟨k, 0, none⟩) hk).trans hc
theorem St1.frozen {W0 W : World} {v : Value} {a k : Nat} (h : St1 W0 v a W) (hk : k < W0.heap.size) (hc : W0.frozen? ⟨k, 0, none⟩ = false) : W.frozen? ⟨k, 0, none⟩ = false :=
  (h.bel.frozen (p := ⟨k, 0, none⟩) hk).trans hc
end Go.Proofs.YtfkogbomijonjaaGreatDoor
namespace Go.Proofs.YtfkogbomijonjaaGreatDoor
open Go Go.RowKit Gu

/-- the denominator that b stands for -/
def dn (b : Nat) : Nat := if b = 0 then 1 else b
theorem dn_pos (b : Nat) : 0 < dn b := by unfold dn; split <;> omega
theorem dn_of {b : Nat} (h : 0 < b) : dn b = b := if_neg (by omega)
theorem dn_nd {b m : Nat} (h : nd 4294967296 b ≤ m) (hm : 1 ≤ m) : nd 4294967296 (dn b) ≤ m := by
  unfold dn
  split
  · exact Nat.le_trans (nd_small (by decide)) hm
  · exact h
set_option maxHeartbeats 1000000 in
theorem terms_zero (v u : Value) (a : Nat) (w : World) (hv : D w v a) (hu : D w u 0) :
    Calls Tryz.prog 19 #[.agg #[v, u]] w fun e w' => ∃ r, e = .returned (.tuple #[v, r]) ∧ D w' r 1 ∧ Below w.heap.size w w' := by
  have b1 : ∀ o, Below w.heap.size w (w.alloc o) := fun o => (Below.refl _ _).alloc (Nat.le_refl _) _
  obtain ⟨W0, hW0⟩ : ∃ W0 : World, W0 = w.alloc (.cells #[v, u] 33) := ⟨_, rfl⟩
  have hz0 : W0.heap.size = w.heap.size + 1 := by rw [hW0]; simp
  have hbw : Below w.heap.size w W0 := by rw [hW0]; exact b1 _
  have hst0 : St1 W0 v a W0 := ⟨hv.below hbw, Below.refl _ _⟩
  have c0 : W0.cell? ⟨w.heap.size, 0, none⟩ = some v := by rw [hW0]; exact World.cell?_alloc_at _ _ _ _ rfl
  have HCA : Hid (∀ W, St1 W0 v a W → W.cell? ⟨w.heap.size, 0, none⟩ = some v) := fun W h => h.cell (by omega) c0
  have HZ := Lib.hid (isZero_any u 0 W0 (hu.below hbw))
  rw [show decide ((0 : Nat) = 0) = true from rfl] at HZ
  have HD1 : Hid (∀ W, St1 W0 v a W → Calls Tryz.prog 36 #[.int .u64 1] W fun e w' => ∃ r, e = .returned r ∧ D w' r 1 ∧ St1 W0 v a w') := fun W h =>
    (digitsOf_any 1 W (by decide)).mono fun e w' ⟨r, he, hr, hB⟩ => ⟨r, he, hr, h.next hB⟩
  have HBW := Lib.hid hbw
  have HW0 := Lib.hid hW0
  obtain ⟨ao, ac, rfl, -⟩ := hv.shape
  obtain ⟨bo, bc, rfl, -⟩ := hu.shape
  have hs2 := hst0.next ((Below.refl _ W0).drew)
  have hc2 := HCA.out _ hs2
  have hc0 := HCA.out _ hst0
  clear hv hu b1 hz0 hbw c0 hW0
  go_enter Tryz.func19, Tryz.ntmps19
  go_wp2_with fail
  rw [← HW0.out]
  refine HZ.out.mono ?_
  rintro e w1 ⟨rfl, rfl⟩
  go_wp2_with fail
  go_region_held3 (fun W : World => W.cell? ⟨w.heap.size, 0, none⟩ = some (.slice ao (nd 4294967296 a) ac) ∧ St1 W0 (.slice ao (nd 4294967296 a) ac) a W) (first | (refine And.intro ?_ ?_ <;> assumption)) (first
    | (go_at_call 36; with_reducible refine (HD1.out _ ?h).mono ?_; (case h => assumption); rintro e w' ⟨o1, rfl, hr', hs'⟩; have hc' := HCA.out _ hs'))
  all_goals
    have hD : D w' o1 1 := by assumption
    have hT : St1 W0 (.slice ao (nd 4294967296 a) ac) a w' := by assumption
    have HDD := Lib.hid hD
    have HBE := Lib.hid (HBW.out.trans (hT.bel.mono HBW.out.size))
    clear hD hT
    go_wp2
    go_ret2
    exact ⟨_, rfl, HDD.out, HBE.out⟩
theorem terms_any (v u : Value) (a b : Nat) (w : World) (hv : D w v a) (hu : D w u b) :
    Calls Tryz.prog 19 #[.agg #[v, u]] w fun e w' => ∃ r, e = .returned (.tuple #[v, r]) ∧ D w' r (dn b) ∧ Below w.heap.size w w' := by
  rcases Nat.eq_zero_or_pos b with h | h
  · subst h
    rw [show dn 0 = 1 from rfl]
    exact terms_zero v u a w hv hu
  · rw [dn_of h]
    exact (terms_pos v u a b w hv hu h).mono fun e w' ⟨he, hB⟩ => ⟨u, he, hu.below hB, hB⟩
/-- the text of a fraction -/
def fracText (a b : Nat) : List UInt8 := if b = 1 then Lib.decDigits a else Lib.decDigits a ++ 47 :: Lib.decDigits b
set_option maxHeartbeats 1000000 in
theorem FracString_one (v u : Value) (a b : Nat) (w : World) (hv : D w v a) (hu : D w u b) (hb : dn b = 1) (ha : nd 4294967296 a ≤ 100000) (he : Env w) :
    Calls Tryz.prog 10 #[.agg #[v, u]] w fun e w' => e = .returned (.string ⟨(Lib.decDigits a).toArray⟩) ∧ Below w.heap.size w w' := by
  have b1 : ∀ o, Below w.heap.size w (w.alloc o) := fun o => (Below.refl _ _).alloc (Nat.le_refl _) _
  have HT := Lib.hid (fun o => terms_any v u a b (w.alloc o) (hv.below (b1 o)) (hu.below (b1 o)))
  rw [hb] at HT
  have HO := Lib.hid (fun r w' (h : D w' r 1) => isOne_any r 1 w' h)
  rw [show decide ((1 : Nat) = 1) = true from rfl] at HO
  have HSA := Lib.hid (fun o w' (h : Below (w.alloc o).heap.size (w.alloc o) w') => String_any v a w' ((hv.below (b1 o)).below h) ha ((he.below (b1 o)).below h))
  have HB1 := Lib.hid b1
  obtain ⟨Sa, hSa⟩ : ∃ Sa : ByteArray, Sa = ⟨(Lib.decDigits a).toArray⟩ := ⟨_, rfl⟩
  rw [← hSa] at HSA ⊢
  obtain ⟨ao, ac, rfl, -⟩ := hv.shape
  obtain ⟨bo, bc, rfl, -⟩ := hu.shape
  clear hv hu b1 he hSa hb
  go_enter Tryz.func10, Tryz.ntmps10
  go_wp2_with fail
  refine (HT.out _).mono ?_
  rintro e w1 ⟨r, rfl, hr, hb1⟩
  have HB2 := Lib.hid hb1; have HR := Lib.hid hr; clear hb1 hr
  go_wp2_with fail
  refine (HO.out _ _ HR.out).mono ?_
  rintro e w2 ⟨rfl, rfl⟩
  go_wp2_with fail
  refine (HSA.out _ _ HB2.out).mono ?_
  rintro e w2 ⟨rfl, hb2⟩
  have HB3 := Lib.hid ((HB1.out _).trans ((HB2.out.trans (hb2.mono HB2.out.size)).mono (by simp))); clear hb2
  go_wp2
  go_ret
  exact ⟨rfl, HB3.out⟩
theorem FracString_any (v u : Value) (a b : Nat) (w : World) (hv : D w v a) (hu : D w u b) (ha : nd 4294967296 a ≤ 100000) (hb2 : nd 4294967296 b ≤ 100000) (he : Env w) :
    Calls Tryz.prog 10 #[.agg #[v, u]] w fun e w' => e = .returned (.string ⟨(fracText a (dn b)).toArray⟩) ∧ Below w.heap.size w w' := by
  unfold fracText
  by_cases h : dn b = 1
  · rw [if_pos h]
    exact FracString_one v u a b w hv hu h ha he
  · rw [if_neg h]
    have h1 : 1 < b := by
      unfold dn at h
      split at h <;> omega
    rw [dn_of (by omega)]
    exact FracString_two v u a b w hv hu h1 ha hb2 he
end Go.Proofs.YtfkogbomijonjaaGreatDoor
namespace Go.Proofs.YtfkogbomijonjaaGreatDoor
open Go Go.RowKit Gu

def ffE (P Q : Nat) : Int := if nd 2 P ≤ 16384 ∧ nd 2 Q ≤ 16384 then 0 else 3
def ffN (P Q x : Nat) : Nat := if nd 2 P ≤ 16384 ∧ nd 2 Q ≤ 16384 then x else 0
/-- in lowest terms -/
def lowP (a b : Nat) : Nat := a / Nat.gcd a b
def lowQ (a b : Nat) : Nat := b / Nat.gcd a b
/-- what the end of a function with a result of two cells reads, where a box was made before -/
theorem fit_end {w w1 : World} {B : Nat} (d0 : w1.cell? ⟨B, 0, none⟩ = some (.slice none 0 0)) (d1 : w1.cell? ⟨B, 1, none⟩ = some (.slice none 0 0)) (hb : Below w.heap.size w w1) (hB : w.heap.size ≤ B) (hlt : B < w1.heap.size) (x y : Value) (o : Obj) :
    (((w1.setCell ⟨B, 0, none⟩ x).setCell ⟨B, 1, none⟩ y).alloc o).cell? ⟨B, 0, none⟩ = some x ∧ (((w1.setCell ⟨B, 0, none⟩ x).setCell ⟨B, 1, none⟩ y).alloc o).cell? ⟨B, 1, none⟩ = some y ∧ Below w.heap.size w (((w1.setCell ⟨B, 0, none⟩ x).setCell ⟨B, 1, none⟩ y).alloc o) := by
  obtain ⟨t0, t1⟩ := read_two d0 d1 x y
  have hl : B < ((w1.setCell ⟨B, 0, none⟩ x).setCell ⟨B, 1, none⟩ y).heap.size := by rw [World.size_setCell, World.size_setCell]; exact hlt
  exact ⟨(World.cell?_alloc_past _ _ _ hl).trans t0, (World.cell?_alloc_past _ _ _ hl).trans t1, ((hb.setCell hB _).setCell hB _).alloc (Nat.le_of_lt (Nat.lt_of_le_of_lt hB hl)) _⟩
/-- a function's result of two cells in the block B, filled by what a call gave -/
theorem two_store {w W' : World} {B P Q : Nat} {ro so : Option Addr} {rc sc : Nat} (hr : D W' (.slice ro (nd 4294967296 P) rc) P) (hs : D W' (.slice so (nd 4294967296 Q) sc) Q)
    (d0 : W'.cell? ⟨B, 0, none⟩ = some (.slice none 0 0)) (d1 : W'.cell? ⟨B, 1, none⟩ = some (.slice none 0 0)) (hb : Below w.heap.size w W') (hB : w.heap.size ≤ B) :
    let W2 := (W'.setCell ⟨B, 0, none⟩ (.slice ro (nd 4294967296 P) rc)).setCell ⟨B, 1, none⟩ (.slice so (nd 4294967296 Q) sc)
    D W2 (.slice ro (nd 4294967296 P) rc) P ∧ D W2 (.slice so (nd 4294967296 Q) sc) Q ∧ W2.cell? ⟨B, 0, none⟩ = some (.slice ro (nd 4294967296 P) rc) ∧ W2.cell? ⟨B, 1, none⟩ = some (.slice so (nd 4294967296 Q) sc) ∧ Below w.heap.size w W2 := by
  obtain ⟨t0, t1⟩ := read_two d0 d1 (.slice ro (nd 4294967296 P) rc) (.slice so (nd 4294967296 Q) sc)
  exact ⟨IsN_setTwo hr d0 d1 (by intro d h; cases h) (by intro d h; cases h) _ _, IsN_setTwo hs d0 d1 (by intro d h; cases h) (by intro d h; cases h) _ _, t0, t1, (hb.setCell hB _).setCell hB _⟩
end Go.Proofs.YtfkogbomijonjaaGreatDoor
namespace Go.Proofs.YtfkogbomijonjaaGreatDoor
open Go Go.RowKit Gu

theorem binN_of {l k : Nat} (h : l ≤ 4096) : binN l k = pascalN l k := if_neg (by omega)
theorem NRow.slice {W : World} {v : Value} {m : Nat} {f : Nat → Nat} (h : NRow W v m f) : ∃ so sl sc, v = .slice so sl sc := by
  obtain ⟨_, xs, _, h2, _⟩ := h
  obtain ⟨g1, c1, h3⟩ := h2.shape
  exact ⟨_, _, _, h3⟩
theorem big_nd {x K : Nat} (h : x ≤ big) (hK : K = 400000) : x < 4294967296 ^ K := (nd_le (by decide)).1 (by rw [hK]; exact (bits_of h).2)
theorem NewFrac_big (v u : Value) (a b : Nat) (w : World) (hv : D w v a) (hu : D w u b) (hb : 0 < b) (ha : a ≤ big) (hb2 : b ≤ big) :
    Calls Tryz.prog 28 #[.agg #[v], .agg #[u]] w fun e w' => ∃ ao al ac bo bl bc, e = .returned (.tuple #[.agg #[.slice ao al ac, .slice bo bl bc], .int .i64 0]) ∧ D w' (.slice ao al ac) (lowP a b) ∧ D w' (.slice bo bl bc) (lowQ a b) ∧ Below w.heap.size w w' := by
  obtain ⟨K, hK⟩ : ∃ K : Nat, K = 400000 := ⟨_, rfl⟩
  exact (NewFrac_any (divide_long K (by omega)) v u a b w hv hu hb (big_nd ha hK) (big_nd hb2 hK)).mono fun e w' ⟨r, s, h1, h2, h3, h4⟩ => by
    obtain ⟨ao, ac, rfl, -⟩ := h2.shape
    obtain ⟨bo, bc, rfl, -⟩ := h3.shape
    exact ⟨_, _, _, _, _, _, h1, h2, h3, h4⟩
/-- what each operation yields -/
def TB (w0 : World) (so po : Option Addr) (sl sc tl tc n c1 c2 : Nat) (lot lo hi : Int) : Nat → (Nat → Value) → World → Prop
  | 0, x, _ => x 0 = .agg #[.int .i64 lot, .slice so sl sc, .slice po tl tc]
  | 1, x, _ => x 1 = .int .i64 (n : Int)
  | 2, x, _ => x 2 = .int .i64 lo
  | 3, x, _ => x 3 = .int .i64 hi
  | 4, x, w => ∃ ro rl rc, x 4 = .agg #[.slice ro rl rc] ∧ D w (.slice ro rl rc) c1
  | 5, x, _ => x 5 = .agg #[.int .i64 lot, .slice so sl sc, .slice po tl tc]
  | 6, x, _ => x 6 = .int .i64 (n : Int)
  | 7, x, w => ∃ ro rl rc, x 7 = .agg #[.slice ro rl rc] ∧ D w (.slice ro rl rc) c2
  | 8, x, w => ∃ ao al ac bo bl bc, x 8 = .tuple #[.agg #[.slice ao al ac, .slice bo bl bc], .int .i64 0] ∧ D w (.slice ao al ac) (lowP c1 c2) ∧ D w (.slice bo bl bc) (lowQ c1 c2)
  | 9, x, _ => x 9 = x 8 ∧ ∃ ao al ac bo bl bc, x 9 = .tuple #[.agg #[.slice ao al ac, .slice bo bl bc], .int .i64 0]
  | 10, x, _ => x 10 = tupN 0 (x 9)
  | 11, x, _ => x 11 = tupN 1 (x 9)
  | 12, x, w => ∃ X, x 12 = .pointer (some ⟨X, 0, none⟩) ∧ w0.heap.size ≤ X ∧ Bxs X [.slice none 0 0, .slice none 0 0] w
  | 13, x, w => ∃ X v v2, x 12 = .pointer (some ⟨X, 0, none⟩) ∧ x 10 = .agg #[v, v2] ∧ w0.heap.size ≤ X ∧ Bxs X [v, v2] w
  | 14, x, _ => x 14 = x 11
  | _ + 15, _, _ => True
def TBkill : Nat → Option Nat
  | 12 => some 13
  | _ => none
theorem TB.congr {w0 : World} {so po : Option Addr} {sl sc tl tc n c1 c2 : Nat} {lot lo hi : Int} {DD : Nat → List Nat} (d9_8 : 8 ∈ DD 9) (d10_9 : 9 ∈ DD 10) (d11_9 : 9 ∈ DD 11) (d13_12 : 12 ∈ DD 13) (d13_10 : 10 ∈ DD 13) (d14_11 : 11 ∈ DD 14) : ∀ i x y w, (∀ j, j = i ∨ j ∈ DD i → x j = y j) → TB w0 so po sl sc tl tc n c1 c2 lot lo hi i x w → TB w0 so po sl sc tl tc n c1 c2 lot lo hi i y w
  | 0, x, y, w, h, t => by have e := h 0 (.inl rfl); simp only [TB] at t ⊢; rw [← e]; exact t
  | 1, x, y, w, h, t => by have e := h 1 (.inl rfl); simp only [TB] at t ⊢; rw [← e]; exact t
  | 2, x, y, w, h, t => by have e := h 2 (.inl rfl); simp only [TB] at t ⊢; rw [← e]; exact t
  | 3, x, y, w, h, t => by have e := h 3 (.inl rfl); simp only [TB] at t ⊢; rw [← e]; exact t
  | 4, x, y, w, h, t => by have e := h 4 (.inl rfl); simp only [TB] at t ⊢; rw [← e]; exact t
  | 5, x, y, w, h, t => by have e := h 5 (.inl rfl); simp only [TB] at t ⊢; rw [← e]; exact t
  | 6, x, y, w, h, t => by have e := h 6 (.inl rfl); simp only [TB] at t ⊢; rw [← e]; exact t
  | 7, x, y, w, h, t => by have e := h 7 (.inl rfl); simp only [TB] at t ⊢; rw [← e]; exact t
  | 8, x, y, w, h, t => by have e := h 8 (.inl rfl); simp only [TB] at t ⊢; rw [← e]; exact t
  | 9, x, y, w, h, t => by have e := h 9 (.inl rfl); have e8 := h 8 (.inr d9_8); simp only [TB] at t ⊢; rw [← e, ← e8]; exact t
  | 10, x, y, w, h, t => by have e := h 10 (.inl rfl); have e9 := h 9 (.inr d10_9); simp only [TB] at t ⊢; rw [← e, ← e9]; exact t
  | 11, x, y, w, h, t => by have e := h 11 (.inl rfl); have e9 := h 9 (.inr d11_9); simp only [TB] at t ⊢; rw [← e, ← e9]; exact t
  | 12, x, y, w, h, t => by have e := h 12 (.inl rfl); simp only [TB] at t ⊢; rw [← e]; exact t
  | 13, x, y, w, h, t => by have e12 := h 12 (.inr d13_12); have e10 := h 10 (.inr d13_10); simp only [TB] at t ⊢; rw [← e12, ← e10]; exact t
  | 14, x, y, w, h, t => by have e := h 14 (.inl rfl); have e11 := h 11 (.inr d14_11); simp only [TB] at t ⊢; rw [← e, ← e11]; exact t
  | _ + 15, x, y, w, h, t => trivial
theorem TB.next {w0 : World} {so po : Option Addr} {sl sc tl tc n c1 c2 : Nat} {lot lo hi : Int} {w w' : World} (hb : Below w.heap.size w w') : ∀ j y, TB w0 so po sl sc tl tc n c1 c2 lot lo hi j y w → TB w0 so po sl sc tl tc n c1 c2 lot lo hi j y w'
  | 0, y, t => t
  | 1, y, t => t
  | 2, y, t => t
  | 3, y, t => t
  | 4, y, t => by obtain ⟨ro, rl, rc, e, h0⟩ := t; exact ⟨ro, rl, rc, e, h0.below hb⟩
  | 5, y, t => t
  | 6, y, t => t
  | 7, y, t => by obtain ⟨ro, rl, rc, e, h0⟩ := t; exact ⟨ro, rl, rc, e, h0.below hb⟩
  | 8, y, t => by obtain ⟨ao, al, ac, bo, bl, bc, e, h0, h1⟩ := t; exact ⟨ao, al, ac, bo, bl, bc, e, h0.below hb, h1.below hb⟩
  | 9, y, t => t
  | 10, y, t => t
  | 11, y, t => t
  | 12, y, t => by obtain ⟨X, e, h0, h⟩ := t; exact ⟨X, e, h0, h.next hb⟩
  | 13, y, t => by obtain ⟨X, v, v2, e1, e2, h0, h⟩ := t; exact ⟨X, v, v2, e1, e2, h0, h.next hb⟩
  | 14, y, t => t
  | _ + 15, y, t => trivial
theorem TB.store13 {w0 : World} {so po : Option Addr} {sl sc tl tc n c1 c2 : Nat} {lot lo hi : Int} {w : World} {X : Nat} (hz : Bxs X [.slice none 0 0, .slice none 0 0] w) (v v2 : Value) {j : Nat} (hj : j = 0 ∨ j = 1 ∨ j = 2 ∨ j = 3 ∨ j = 4 ∨ j = 5 ∨ j = 6 ∨ j = 7 ∨ j = 8 ∨ j = 9 ∨ j = 10 ∨ j = 11 ∨ j = 14) (y : Nat → Value) (t : TB w0 so po sl sc tl tc n c1 c2 lot lo hi j y w) : TB w0 so po sl sc tl tc n c1 c2 lot lo hi j y ((w.setCell ⟨X, 0, none⟩ v).setCell ⟨X, 1, none⟩ v2) := by
  rcases hj with rfl | rfl | rfl | rfl | rfl | rfl | rfl | rfl | rfl | rfl | rfl | rfl | rfl
  · exact t
  · exact t
  · exact t
  · exact t
  · obtain ⟨ro, rl, rc, e, h0⟩ := t; exact ⟨ro, rl, rc, e, hz.keep2 h0 v v2⟩
  · exact t
  · exact t
  · obtain ⟨ro, rl, rc, e, h0⟩ := t; exact ⟨ro, rl, rc, e, hz.keep2 h0 v v2⟩
  · obtain ⟨ao, al, ac, bo, bl, bc, e, h0, h1⟩ := t; exact ⟨ao, al, ac, bo, bl, bc, e, hz.keep2 h0 v v2, hz.keep2 h1 v v2⟩
  · exact t
  · exact t
  · exact t
  · exact t
set_option maxRecDepth 100000 in
set_option maxHeartbeats 4000000 in
theorem chance_any {lo hi top : Int} {b g n a N : Nat} {vb vg : Value} {W : World} (hvb : NRow W vb (b + 1) (pascalN b)) (hvg : NRow W vg (g + 1) (pascalN g)) (hbg : b + g ≤ 2048) (hn : n ≤ b + g)
    (hmax : max lo 0 = (a : Int)) (hmin : min hi (n : Int) = top) (hN : (N : Int) = max 0 (top + 1 - a)) (hNn : N ≤ 2049) :
    Calls Tryz.prog 14 #[.agg #[.int .i64 ((b + g : Nat) : Int), vb, vg], .int .i64 n, .int .i64 lo, .int .i64 hi] W fun e w' => ∃ ao al ac bo bl bc, e = .returned (.agg #[.slice ao al ac, .slice bo bl bc]) ∧
      D w' (.slice ao al ac) (lowP (hsum b g n a N) (pascalN (b + g) n)) ∧ D w' (.slice bo bl bc) (lowQ (hsum b g n a N) (pascalN (b + g) n)) ∧ Below W.heap.size W w' := by
  obtain ⟨so, sl, sc, rfl⟩ := hvb.slice
  obtain ⟨po, tl, tc, rfl⟩ := hvg.slice
  obtain ⟨lot, hlot⟩ : ∃ lot : Nat, lot = b + g := ⟨_, rfl⟩
  rw [show ((b + g : Nat) : Int) = (lot : Int) by rw [hlot]]
  obtain ⟨w1, HW⟩ : ∃ w1, w1 = (W.alloc (.cells #[.int .i64 lot, .slice so sl sc, .slice po tl tc] 45)).alloc (.cells #[.slice none 0 0, .slice none 0 0] 33) := ⟨_, rfl⟩
  have hb : Below W.heap.size W w1 := by rw [HW]; exact (alloc1_below _ _).alloc (by simp) _
  have s1 : Sx W.heap.size lot (.slice so sl sc) (.slice po tl tc) w1 := by rw [HW]; exact (Sx.new W lot _ _ _).next (alloc1_below _ _)
  have r1 : Bxs (W.heap.size + 1) [.slice none 0 0, .slice none 0 0] w1 := by
    have := Bxs.new2 (W.alloc (.cells #[.int .i64 lot, .slice so sl sc, .slice po tl tc] 45)) (.slice none 0 0) (.slice none 0 0) 33
    rw [World.size_alloc, ← HW] at this
    exact this
  have q1 : hsum b g n a N ≤ big := by
    have h1 := hsum_le b g n a N
    have h2 : N * 2 ^ (b + g) ≤ 2 ^ 12 * 2 ^ (b + g) := Nat.mul_le_mul_right _ (Nat.le_trans hNn (by decide))
    rw [← Nat.pow_add] at h2
    exact le_big (Nat.le_trans h1 h2) (by omega)
  have q2 : pascalN (b + g) n ≤ big := le_big (pascalN_le _ _) (by omega)
  have q3 : 0 < pascalN (b + g) n := pascalN_pos hn
  have HCO : Hid (∀ W', Kw w1 W' → Calls Tryz.prog 29 #[.agg #[.int .i64 lot, .slice so sl sc, .slice po tl tc], .int .i64 n, .int .i64 lo, .int .i64 hi] W' fun e w' => ∃ ro rl rc, e = .returned (.agg #[.slice ro rl rc]) ∧ D w' (.slice ro rl rc) (hsum b g n a N) ∧ Below W'.heap.size W' w') := fun W' h =>
    count_any (hvb.below (hb.trans (Below.mono h hb.size))) (hvg.below (hb.trans (Below.mono h hb.size))) hbg (by omega) hmax hmin hN
  have HAL : Hid (∀ W', Kw w1 W' → Calls Tryz.prog 30 #[.agg #[.int .i64 lot, .slice so sl sc, .slice po tl tc], .int .i64 n] W' fun e w' => ∃ ro rl rc, e = .returned (.agg #[.slice ro rl rc]) ∧ D w' (.slice ro rl rc) (pascalN (b + g) n) ∧ Below W'.heap.size W' w') := fun W' _ => by
    rw [hlot]
    refine (all_any (b + g) n (.slice so sl sc) (.slice po tl tc) W' hbg (by omega)).mono fun e w' ⟨r, h1, h2, h3⟩ => ?_
    rw [binN_of (by omega)] at h2
    obtain ⟨ao, ac, rfl, -⟩ := h2.shape
    exact ⟨_, _, _, h1, h2, h3⟩
  have HCEL : Hid (∀ W', Kw w1 W' → W'.cell? ⟨W.heap.size, 0, none⟩ = some (.int .i64 lot) ∧ W'.cell? ⟨W.heap.size, 1, none⟩ = some (.slice so sl sc) ∧ W'.cell? ⟨W.heap.size, 2, none⟩ = some (.slice po tl tc)) := fun W' h => ⟨(s1.next h).c0, (s1.next h).c1, (s1.next h).c2⟩
  obtain ⟨c1, hc1⟩ : ∃ c, c = hsum b g n a N := ⟨_, rfl⟩
  obtain ⟨c2, hc2⟩ : ∃ c, c = pascalN (b + g) n := ⟨_, rfl⟩
  rw [← hc1] at q1 HCO ⊢
  rw [← hc2] at q2 q3 HAL ⊢
  have HNF : Hid (∀ W' u v, D W' u c1 → D W' v c2 → Calls Tryz.prog 28 #[.agg #[u], .agg #[v]] W' fun e w' => ∃ ao al ac bo bl bc, e = .returned (.tuple #[.agg #[.slice ao al ac, .slice bo bl bc], .int .i64 0]) ∧ D w' (.slice ao al ac) (lowP c1 c2) ∧ D w' (.slice bo bl bc) (lowQ c1 c2) ∧ Below W'.heap.size W' w') := fun W' u v h1 h2 =>
    NewFrac_big u v c1 c2 W' h1 h2 q3 q1 q2
  have HB := Lib.hid hb; have HR := Lib.hid r1; have HW' := Lib.hid HW
  clear hvb hvg hb s1 r1 q1 q2 q3 hc1 hc2 HW hmax hmin hN hlot
  go_enter Tryz.func14, Tryz.ntmps14
  go_upto_region 1 with fail
  rw [← HW'.out]
  go_cut [9, 10] from 11 to 22 (fun s9 s10 wz => ∃ X ao al ac bo bl bc, s9 = .pointer (some ⟨X, 0, none⟩) ∧ s10 = .int .i64 0 ∧ Hid (Kw w1 wz) ∧ w1.heap.size ≤ X ∧ Hid (Bxs X [.slice ao al ac, .slice bo bl bc] wz) ∧ Hid (D wz (.slice ao al ac) (lowP c1 c2)) ∧ Hid (D wz (.slice bo bl bc) (lowQ c1 c2)))
  case first =>
    refine region_own w1 15 (fun x => ⟨#[.agg #[.int .i64 lot, .slice so sl sc, .slice po tl tc], .int .i64 (n : Int), .int .i64 lo, .int .i64 hi, .pointer (some ⟨W.heap.size, 0, none⟩), undef, undef, undef, .pointer (some ⟨W.heap.size + 1, 0, none⟩), x 12, x 14, x 9, x 0, x 1, x 2, x 3, x 4, x 5, x 6, x 7, x 8, x 10, x 11, undef], []⟩) (TB w1 so po sl sc tl tc n c1 c2 lot lo hi) TBkill (fun j => [_, _, _, _, _, _, _, _, _, _, _, _, _, undef, _].getD j undef) rfl (by kernel_rfl) (of_decide_eq_true (by kernel_rfl)) (of_decide_eq_true (by kernel_rfl)) (of_decide_eq_true (by kernel_rfl)) (TB.congr (of_decide_eq_true (by kernel_rfl)) (of_decide_eq_true (by kernel_rfl)) (of_decide_eq_true (by kernel_rfl)) (of_decide_eq_true (by kernel_rfl)) (of_decide_eq_true (by kernel_rfl)) (of_decide_eq_true (by kernel_rfl))) ?_ ?_
    · intro i hi
      have hi2 : i = 0 ∨ i = 1 ∨ i = 2 ∨ i = 3 ∨ i = 4 ∨ i = 5 ∨ i = 6 ∨ i = 7 ∨ i = 8 ∨ i = 9 ∨ i = 10 ∨ i = 11 ∨ i = 12 ∨ i = 13 ∨ i = 14 := by omega
      clear hi
      rcases hi2 with rfl | rfl | rfl | rfl | rfl | rfl | rfl | rfl | rfl | rfl | rfl | rfl | rfl | rfl | rfl
      · refine ⟨_, rfl, fun x w hk hd K' hK => ?_⟩
        obtain ⟨z0, z1, z2⟩ := HCEL.out w hk
        clear hd
        go_simp
        have hK2 := hK _ w (upd_same x 0 _) hk (fun j _ _ _ _ y t => t)
        simp (config := {decide := true}) only [upd, if_true, if_false] at hK2
        exact hK2
      · refine ⟨_, rfl, fun x w hk hd K' hK => ?_⟩
        clear hd
        go_simp
        exact hK _ w (upd_same x 1 _) hk (fun j _ _ _ _ y t => t)
      · refine ⟨_, rfl, fun x w hk hd K' hK => ?_⟩
        clear hd
        go_simp
        exact hK _ w (upd_same x 2 _) hk (fun j _ _ _ _ y t => t)
      · refine ⟨_, rfl, fun x w hk hd K' hK => ?_⟩
        clear hd
        go_simp
        exact hK _ w (upd_same x 3 _) hk (fun j _ _ _ _ y t => t)
      · refine ⟨_, rfl, fun x w hk hd K' hK => ?_⟩
        have e0 : x 0 = _ := (hd 0 (of_decide_eq_true (by kernel_rfl)) (.inl rfl))
        have e1 : x 1 = _ := (hd 1 (of_decide_eq_true (by kernel_rfl)) (.inl rfl))
        have e2 : x 2 = _ := (hd 2 (of_decide_eq_true (by kernel_rfl)) (.inl rfl))
        have e3 : x 3 = _ := (hd 3 (of_decide_eq_true (by kernel_rfl)) (.inl rfl))
        have HC := Lib.hid (HCO.out w hk)
        clear hd
        simp only [e0, e1, e2, e3]
        go_simp
        refine HC.out.mono ?_
        rintro e w' ⟨ro, rl, rc, rfl, h, hB⟩
        have hK2 := hK _ w' (⟨ro, rl, rc, upd_same x 4 _, h⟩) (hk.next hB) (fun j _ _ _ _ y t => TB.next hB j y t)
        simp (config := {decide := true}) only [upd, if_true, if_false, e0, e1, e2, e3] at hK2
        exact hK2
      · refine ⟨_, rfl, fun x w hk hd K' hK => ?_⟩
        obtain ⟨z0, z1, z2⟩ := HCEL.out w hk
        clear hd
        go_simp
        have hK2 := hK _ w (upd_same x 5 _) hk (fun j _ _ _ _ y t => t)
        simp (config := {decide := true}) only [upd, if_true, if_false] at hK2
        exact hK2
      · refine ⟨_, rfl, fun x w hk hd K' hK => ?_⟩
        clear hd
        go_simp
        exact hK _ w (upd_same x 6 _) hk (fun j _ _ _ _ y t => t)
      · refine ⟨_, rfl, fun x w hk hd K' hK => ?_⟩
        have e5 : x 5 = _ := (hd 5 (of_decide_eq_true (by kernel_rfl)) (.inl rfl))
        have e6 : x 6 = _ := (hd 6 (of_decide_eq_true (by kernel_rfl)) (.inl rfl))
        have HC := Lib.hid (HAL.out w hk)
        clear hd
        simp only [e5, e6]
        go_simp
        refine HC.out.mono ?_
        rintro e w' ⟨ro, rl, rc, rfl, h, hB⟩
        have hK2 := hK _ w' (⟨ro, rl, rc, upd_same x 7 _, h⟩) (hk.next hB) (fun j _ _ _ _ y t => TB.next hB j y t)
        simp (config := {decide := true}) only [upd, if_true, if_false, e5, e6] at hK2
        exact hK2
      · refine ⟨_, rfl, fun x w hk hd K' hK => ?_⟩
        obtain ⟨ro4, rl4, rc4, e4, h4_0⟩ := (hd 4 (of_decide_eq_true (by kernel_rfl)) (.inl rfl))
        obtain ⟨ro7, rl7, rc7, e7, h7_0⟩ := (hd 7 (of_decide_eq_true (by kernel_rfl)) (.inl rfl))
        have HC := Lib.hid (HNF.out w _ _ h4_0 h7_0)
        clear h4_0 h7_0
        clear hd
        simp only [e4, e7]
        go_simp
        refine HC.out.mono ?_
        rintro e w' ⟨ao, al, ac, bo, bl, bc, rfl, h, h9, hB⟩
        have hK2 := hK _ w' (⟨ao, al, ac, bo, bl, bc, upd_same x 8 _, h, h9⟩) (hk.next hB) (fun j _ _ _ _ y t => TB.next hB j y t)
        simp (config := {decide := true}) only [upd, if_true, if_false, e4, e7] at hK2
        exact hK2
      · refine ⟨_, rfl, fun x w hk hd K' hK => ?_⟩
        obtain ⟨ao8, al8, ac8, bo8, bl8, bc8, e8, h8_0, h8_1⟩ := (hd 8 (of_decide_eq_true (by kernel_rfl)) (.inl rfl))
        clear hd
        go_simp
        have hK2 := hK (x 8) w ⟨rfl, ao8, al8, ac8, bo8, bl8, bc8, (upd_same x 9 _).trans e8⟩ hk (fun j _ _ _ _ y t => t)
        simp (config := {decide := true}) only [upd, if_true, if_false, e8] at hK2 ⊢
        exact hK2
      · refine ⟨_, rfl, fun x w hk hd K' hK => ?_⟩
        obtain ⟨-, ao9, al9, ac9, bo9, bl9, bc9, e9⟩ := (hd 9 (of_decide_eq_true (by kernel_rfl)) (.inl rfl))
        clear hd
        simp only [e9]
        go_simp
        have hK2 := hK _ w (show upd x 10 _ 10 = tupN 0 (x 9) from (upd_same x 10 _).trans (by rw [e9] <;> rfl)) hk (fun j _ _ _ _ y t => t)
        simp (config := {decide := true}) only [upd, if_true, if_false, e9] at hK2
        exact hK2
      · refine ⟨_, rfl, fun x w hk hd K' hK => ?_⟩
        obtain ⟨-, ao9, al9, ac9, bo9, bl9, bc9, e9⟩ := (hd 9 (of_decide_eq_true (by kernel_rfl)) (.inl rfl))
        clear hd
        simp only [e9]
        go_simp
        have hK2 := hK _ w (show upd x 11 _ 11 = tupN 1 (x 9) from (upd_same x 11 _).trans (by rw [e9] <;> rfl)) hk (fun j _ _ _ _ y t => t)
        simp (config := {decide := true}) only [upd, if_true, if_false, e9] at hK2
        exact hK2
      · refine ⟨_, rfl, fun x w hk hd K' hK => ?_⟩
        clear hd
        go_simp
        exact hK _ _ ⟨_, upd_same x 12 _, Below.size hk, Bxs.new2 w _ _ _⟩ (hk.next (alloc1_below _ _)) (fun j _ _ _ _ y t => TB.next (alloc1_below _ _) j y t)
      · refine ⟨_, rfl, fun x w hk hd K' hK => ?_⟩
        obtain ⟨X, eb, hX, hz⟩ := (hd 12 (of_decide_eq_true (by kernel_rfl)) (.inr rfl))
        have ev : x 10 = _ := (hd 10 (of_decide_eq_true (by kernel_rfl)) (.inl rfl))
        obtain ⟨-, ao9, al9, ac9, bo9, bl9, bc9, em⟩ := (hd 9 (of_decide_eq_true (by kernel_rfl)) (.inl rfl))
        rw [em] at ev
        have ev : x 10 = .agg #[.slice ao9 al9 ac9, .slice bo9 bl9 bc9] := ev
        have k0 := hz.c0; have g0 := hz.f0
        have k1 := hz.c1; have g1 := hz.f1
        clear hd
        simp only [ev, eb]
        go_simp
        have hK2 := hK undef ((w.setCell ⟨X, 0, none⟩ (.slice ao9 al9 ac9)).setCell ⟨X, 1, none⟩ (.slice bo9 bl9 bc9)) ⟨X, _, _, eb, ev, hX, hz.set2 _ _⟩ (Below.setCell (Below.setCell hk (p := ⟨X, 0, none⟩) hX _) (p := ⟨X, 1, none⟩) hX _) (fun j hj hne hnr hkl y t => by
          have hjj : j = 0 ∨ j = 1 ∨ j = 2 ∨ j = 3 ∨ j = 4 ∨ j = 5 ∨ j = 6 ∨ j = 7 ∨ j = 8 ∨ j = 9 ∨ j = 10 ∨ j = 11 ∨ j = 14 := by
            rcases (by omega : j = 0 ∨ j = 1 ∨ j = 2 ∨ j = 3 ∨ j = 4 ∨ j = 5 ∨ j = 6 ∨ j = 7 ∨ j = 8 ∨ j = 9 ∨ j = 10 ∨ j = 11 ∨ j = 12 ∨ j = 14) with rfl | rfl | rfl | rfl | rfl | rfl | rfl | rfl | rfl | rfl | rfl | rfl | rfl | rfl
            · decide
            · decide
            · decide
            · decide
            · decide
            · decide
            · decide
            · decide
            · decide
            · decide
            · decide
            · decide
            · exact absurd rfl (hkl 13 rfl).1
            · decide
          exact TB.store13 hz _ _ hjj y t)
        simp (config := {decide := true}) only [upd, if_false, eb, ev, em] at hK2
        exact hK2
      · refine ⟨_, rfl, fun x w hk hd K' hK => ?_⟩
        clear hd
        go_simp
        exact hK _ w (show upd x 14 _ 14 = x 11 from upd_same x 14 _) hk (fun j _ _ _ _ y t => t)
    · intro x w listed hk hT hl
      subst hl
      have t8 := hT 8 (by decide) rfl
      obtain ⟨e9, -⟩ := hT 9 (by decide) rfl
      obtain ⟨X, v, v2, e12, e10, hX, hbx⟩ := hT 13 (by decide) rfl
      obtain ⟨ao, al, ac, bo, bl, bc, e8, hq, hq2⟩ := t8
      have f10 : x 10 = .agg #[.slice ao al ac, .slice bo bl bc] := Eq.trans (hT 10 (by decide) rfl) (by rw [e9, e8]; rfl)
      rw [f10] at e10
      injection e10 with e10; injection e10 with e10; injection e10 with e10 e11; injection e11 with e11 _
      subst e10; subst e11
      have e14 : x 14 = .int .i64 0 := Eq.trans (hT 14 (by decide) rfl) (Eq.trans (hT 11 (by decide) rfl) (by rw [e9, e8]; rfl))
      simp only [e12, e14]
      refine wpAny_done (by kernel_rfl) ?_ _
      have HQ := Lib.hid hq; have HQ2 := Lib.hid hq2; have HBX := Lib.hid hbx; have HKW := Lib.hid hk
      clear e8 e9 e12 f10 e14 hq hq2 hbx hk hT
      go_wp2_with fail
      go_meet
      case rel => exact ⟨X, ao, al, ac, bo, bl, bc, rfl, rfl, HKW, hX, HBX, HQ, HQ2⟩
  case rest =>
    obtain ⟨X, ao, al, ac, bo, bl, bc, rfl, rfl, HKW, hX, HBX, HQ, HQ2⟩ := hcut
    obtain ⟨W1, hW1⟩ : ∃ W1, W1 = wc := ⟨_, rfl⟩
    subst hW1
    have hr := HR.out.next HKW.out
    have k0 := HBX.out.c0; have k1 := HBX.out.c1; have k2 := hr.c0; have k3 := hr.c1; have k4 := hr.f0; have k5 := hr.f1
    obtain ⟨z0, z1⟩ := read_two k2 k3 (.slice ao al ac) (.slice bo bl bc)
    have HD1 := Lib.hid (hr.keep2 HQ.out (.slice ao al ac) (.slice bo bl bc)); have HD2 := Lib.hid (hr.keep2 HQ2.out (.slice ao al ac) (.slice bo bl bc))
    have HBE := Lib.hid ((((HB.out.trans (Below.mono HKW.out HB.out.size))).setCell (p := ⟨W.heap.size + 1, 0, none⟩) (by show W.heap.size ≤ W.heap.size + 1; omega) (.slice ao al ac)).setCell (p := ⟨W.heap.size + 1, 1, none⟩) (by show W.heap.size ≤ W.heap.size + 1; omega) (.slice bo bl bc))
    clear hr HBX HQ HQ2 HKW
    go_wp2_with fail
    refine bodyPost_ret (v := .agg #[.slice ao al ac, .slice bo bl bc]) (by simp [results, Tryz.results14, go_sem, z0, z1]) rfl ?_
    exact ⟨_, _, _, _, _, _, rfl, HD1.out, HD2.out, HBE.out⟩
end Go.Proofs.YtfkogbomijonjaaGreatDoor
namespace Go.Proofs.YtfkogbomijonjaaGreatDoor
open Go Go.RowKit Gu

theorem hsum_big {b g n a N k : Nat} (h : b + g ≤ 2000) (hN : N ≤ 2049) (hk : k ≤ 1000000) : hsum b g n a N ≤ big ∧ hsum b g n a N * k ≤ big := by
  have h1 := hsum_le b g n a N
  have h2 : N * 2 ^ (b + g) ≤ 2 ^ 12 * 2 ^ (b + g) := Nat.mul_le_mul_right _ (Nat.le_trans hN (by decide))
  have h3 : k ≤ 2 ^ 20 := Nat.le_trans hk (by decide)
  have h4 : hsum b g n a N * k ≤ 2 ^ 12 * 2 ^ (b + g) * 2 ^ 20 := Nat.mul_le_mul (Nat.le_trans h1 h2) h3
  rw [← Nat.pow_add] at h2 h4
  rw [← Nat.pow_add] at h4
  exact ⟨le_big (Nat.le_trans h1 h2) (by omega), le_big h4 (by omega)⟩
theorem all_big {l n k : Nat} (h : l ≤ 2000) (hk : k ≤ 1000000) : pascalN l n ≤ big ∧ pascalN l n * k ≤ big := by
  have h1 := pascalN_le l n
  have h3 : k ≤ 2 ^ 20 := Nat.le_trans hk (by decide)
  have h4 := Nat.mul_le_mul h1 h3
  rw [← Nat.pow_add] at h4
  exact ⟨le_big h1 (by omega), le_big h4 (by omega)⟩
theorem times_big {v : Value} {a n : Nat} {w : World} (hv : D w v a) (hn : n ≤ 1000000) (ha : a ≤ big) (hm : a * n ≤ big) :
    Calls Tryz.prog 31 #[.agg #[v], .int .i64 n] w fun e w' => ∃ ro rl rc, e = .returned (.agg #[.slice ro rl rc]) ∧ D w' (.slice ro rl rc) (a * n) ∧ Below w.heap.size w w' :=
  (times_any v a n w hv (by omega) (bits_of ha).2 (bits_of hm).1).mono fun e w' ⟨r, h1, h2, h3⟩ => by
    obtain ⟨ro, rc, rfl, -⟩ := h2.shape
    exact ⟨_, _, _, h1, h2, h3⟩
set_option maxRecDepth 100000 in
set_option maxHeartbeats 2000000 in
theorem scompare_any {c top : Int} {b g n N mi : Nat} {vb vg : Value} {W : World} (hvb : NRow W vb (b + 1) (pascalN b)) (hvg : NRow W vg (g + 1) (pascalN g)) (hbg : b + g ≤ 2000) (hn : n ≤ b + g)
    (hmin : min c (n : Int) = top) (hN : (N : Int) = max 0 (top + 1 - (0 : Nat))) (hNn : N ≤ 2049) (hmi : mi ≤ 1000000) :
    Calls Tryz.prog 17 #[.agg #[.int .i64 ((b + g : Nat) : Int), vb, vg], .int .i64 n, .int .i64 c, .int .i64 mi] W fun e w' => e = .returned (.int .i64 (cmpN ((hsum b g n 0 N * 1000000 : Nat) : Int) ((pascalN (b + g) n * mi : Nat) : Int))) ∧ Below W.heap.size W w' := by
  obtain ⟨so, sl, sc, rfl⟩ := hvb.slice
  obtain ⟨po, tl, tc, rfl⟩ := hvg.slice
  obtain ⟨lot, hlot⟩ : ∃ lot : Nat, lot = b + g := ⟨_, rfl⟩
  rw [show ((b + g : Nat) : Int) = (lot : Int) by rw [hlot]]
  obtain ⟨w1, HW⟩ : ∃ w1, w1 = W.alloc (.cells #[.int .i64 lot, .slice so sl sc, .slice po tl tc] 45) := ⟨_, rfl⟩
  have hb : Below W.heap.size W w1 := by rw [HW]; exact alloc1_below _ _
  have s1 : Sx W.heap.size lot (.slice so sl sc) (.slice po tl tc) w1 := by rw [HW]; exact Sx.new W lot _ _ _
  obtain ⟨q1, q2⟩ := hsum_big (n := n) (a := 0) hbg hNn (Nat.le_refl 1000000)
  obtain ⟨q3, q4⟩ := all_big (n := n) hbg hmi
  obtain ⟨c1, hc1⟩ : ∃ x, x = hsum b g n 0 N := ⟨_, rfl⟩
  obtain ⟨c2, hc2⟩ : ∃ x, x = pascalN (b + g) n := ⟨_, rfl⟩
  rw [← hc1] at q1 q2 ⊢
  rw [← hc2] at q3 q4 ⊢
  have HCO : Hid (∀ W', Kw w1 W' → Calls Tryz.prog 29 #[.agg #[.int .i64 lot, .slice so sl sc, .slice po tl tc], .int .i64 n, .int .i64 0, .int .i64 c] W' fun e w' => ∃ ro rl rc, e = .returned (.agg #[.slice ro rl rc]) ∧ Hid (D w' (.slice ro rl rc) c1) ∧ Kw w1 w') := fun W' h => by
    rw [hc1]
    exact (count_any (a := 0) (hvb.below (hb.trans (Below.mono h hb.size))) (hvg.below (hb.trans (Below.mono h hb.size))) (by omega) (by omega) rfl hmin hN).mono fun e w' ⟨ro, rl, rc, h1, h2, h3⟩ => ⟨ro, rl, rc, h1, h2, Kw.next h h3⟩
  have HAL : Hid (∀ W', Kw w1 W' → Calls Tryz.prog 30 #[.agg #[.int .i64 lot, .slice so sl sc, .slice po tl tc], .int .i64 n] W' fun e w' => ∃ ro rl rc, e = .returned (.agg #[.slice ro rl rc]) ∧ Hid (D w' (.slice ro rl rc) c2) ∧ Kw w1 w' ∧ Hid (∀ u x, D W' u x → D w' u x)) := fun W' h => by
    rw [hlot, hc2]
    refine (all_any (b + g) n (.slice so sl sc) (.slice po tl tc) W' (by omega) (by omega)).mono fun e w' ⟨r, h1, h2, h3⟩ => ?_
    rw [binN_of (by omega)] at h2
    obtain ⟨ao, ac, rfl, -⟩ := h2.shape
    exact ⟨_, _, _, h1, h2, Kw.next h h3, fun u x hu => hu.below h3⟩
  have HT1 : Hid (∀ W' v, Kw w1 W' → D W' v c1 → Calls Tryz.prog 31 #[.agg #[v], .int .i64 1000000] W' fun e w' => ∃ ro rl rc, e = .returned (.agg #[.slice ro rl rc]) ∧ Hid (D w' (.slice ro rl rc) (c1 * 1000000)) ∧ Kw w1 w') := fun W' v h hv =>
    (times_big hv (Nat.le_refl _) q1 q2).mono fun e w' ⟨ro, rl, rc, h1, h2, h3⟩ => ⟨ro, rl, rc, h1, h2, Kw.next h h3⟩
  have HT2 : Hid (∀ W' v, Kw w1 W' → D W' v c2 → Calls Tryz.prog 31 #[.agg #[v], .int .i64 mi] W' fun e w' => ∃ ro rl rc, e = .returned (.agg #[.slice ro rl rc]) ∧ Hid (D w' (.slice ro rl rc) (c2 * mi)) ∧ Kw w1 w' ∧ Hid (∀ u x, D W' u x → D w' u x)) := fun W' v h hv =>
    (times_big hv hmi q3 q4).mono fun e w' ⟨ro, rl, rc, h1, h2, h3⟩ => ⟨ro, rl, rc, h1, h2, Kw.next h h3, fun u x hu => hu.below h3⟩
  obtain ⟨R, hR⟩ : ∃ R, R = cmpN ((c1 * 1000000 : Nat) : Int) ((c2 * mi : Nat) : Int) := ⟨_, rfl⟩
  rw [← hR]
  have HCM : Hid (∀ W' u v, Kw w1 W' → D W' u (c1 * 1000000) → D W' v (c2 * mi) → Calls Tryz.prog 34 #[.agg #[u], .agg #[v]] W' fun e w' => e = .returned (.int .i64 R) ∧ Kw w1 w') := fun W' u v h hu hv => by
    rw [hR]
    exact (NCmp_any u v _ _ W' hu hv (by have := (bits_of q2).2; omega) (by have := (bits_of q4).2; omega)).mono fun e w' ⟨h1, h3⟩ => ⟨h1, Kw.next h h3⟩
  have HCEL : Hid (∀ W', Kw w1 W' → W'.cell? ⟨W.heap.size, 0, none⟩ = some (.int .i64 lot) ∧ W'.cell? ⟨W.heap.size, 1, none⟩ = some (.slice so sl sc) ∧ W'.cell? ⟨W.heap.size, 2, none⟩ = some (.slice po tl tc)) := fun W' h => ⟨(s1.next h).c0, (s1.next h).c1, (s1.next h).c2⟩
  have HB := Lib.hid hb; have HW' := Lib.hid HW
  clear hvb hvg hb s1 q1 q2 q3 q4 hc1 hc2 HW hmin hN hlot hR
  go_enter Tryz.func17, Tryz.ntmps17
  go_upto_region 1 with fail
  rw [← HW'.out]
  have hs : Kw w1 w1 := Below.refl _ _
  have hs2 : Kw w1 w1.drew := Below.drew hs
  have hc0 := HCEL.out _ hs
  have hc1 := HCEL.out _ hs2
  go_region_with (first | (go_at_call 29; with_reducible refine (HCO.out _ ?h).mono ?_; (case h => assumption); rintro e w' ⟨ao, al, ac, rfl, hd1, hs3⟩; have hc3 := HCEL.out _ hs3) | (go_at_call 31; with_reducible refine (HT1.out _ _ ?h ?h2).mono ?_; (case h => assumption); (case h2 => exact hd1.out); rintro e w' ⟨bo, bl, bc, rfl, hd2, hs4⟩; have hc4 := HCEL.out _ hs4) | (go_at_call 30; with_reducible refine (HAL.out _ ?h).mono ?_; (case h => assumption); rintro e w' ⟨co, cl, cc, rfl, hd3, hs5, hp5⟩; have hc5 := HCEL.out _ hs5) | (go_at_call 31; with_reducible refine (HT2.out _ _ ?h ?h2).mono ?_; (case h => assumption); (case h2 => exact hd3.out); rintro e w' ⟨do', dl, dc, rfl, hd4, hs6, hp6⟩; have hc6 := HCEL.out _ hs6) | (go_at_call 34; with_reducible refine (HCM.out _ _ _ ?h ?h2 ?h3).mono ?_; (case h => assumption); (case h2 => exact hp6.out _ _ (hp5.out _ _ hd2.out)); (case h3 => exact hd4.out); rintro e w' ⟨rfl, hs7⟩) | fail)
  all_goals
    have HS7 := Lib.hid hs7
    clear hs7
    go_wp2_with fail
    go_ret
    exact ⟨rfl, HB.out.trans (Below.mono HS7.out HB.out.size)⟩
end Go.Proofs.YtfkogbomijonjaaGreatDoor
