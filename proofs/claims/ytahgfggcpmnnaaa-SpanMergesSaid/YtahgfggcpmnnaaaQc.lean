/- What the document's Swap makes of the runs of a map. -/
import Derived.Test.YtahgfggcpmnnaaaQb
namespace Go.Proofs.Ytahgfggcpmnnaaa
open Go Go.RowKit Gs

/-- the function behind the document's Swap -/
def gS (f : Int → Int) (lo hi fr tt : Int) (any : Bool) (x : Int) : Int := if lo ≤ x ∧ x < hi ∧ (any = true ∨ f x = fr) then tt else f x
theorem join_can {g : Int → Int} {s m : Int} {l : List R} {x : R} (h : Gs.Can g s l m) (h1 : x.lo = m) (h2 : m ≤ x.hi) (h3 : ∀ p, x.lo ≤ p → p < x.hi → g p = x.tag) : Gs.Can g s (joinL l x) x.hi := by
  unfold joinL
  by_cases hx : x.hi ≤ x.lo
  · rw [if_pos hx]
    have : m = x.hi := by omega
    rw [← this]; exact h
  · rw [if_neg hx]
    have hone : Gs.Can g m [x] x.hi := by
      have := Gs.Can.one (f := g) (r := x) (by omega) h3
      rwa [h1] at this
    rcases List.eq_nil_or_concat l with rfl | ⟨l', y, hl'⟩
    · have e : s = m := h.1
      rw [e]
      exact hone
    · rw [List.concat_eq_append] at hl'
      subst hl'
      rw [List.getLast?_concat]
      obtain ⟨m1, m2, m3, m4, m5, m6⟩ := h.mid
      have hym : y.hi = m := m2.1
      by_cases ht : y.tag = x.tag
      · simp only
        rw [if_pos ht, List.dropLast_concat]
        exact Gs.Can.make (r := ⟨y.lo, x.hi, x.tag⟩) (k := []) m1 (Gs.Can.nil _ _) (show y.lo < x.hi by omega) (fun p p1 p2 => by
          by_cases hp : p < y.hi
          · exact (m4 p p1 hp).trans ht
          · exact h3 p (by omega) p2) m5 (fun h => absurd h (Int.lt_irrefl _))
      · simp only
        rw [if_neg ht]
        refine Gs.Can.join h hone fun e1 e2 => ?_
        have a1 := m4 (m - 1) (by omega) (by omega)
        have a2 := h3 m (by omega) (by omega)
        rw [a1, a2]
        exact ht
def stepA (x : R) (lo : Int) : Int := max x.lo (min lo x.hi)
def stepB (x : R) (hi : Int) : Int := min x.hi (max hi x.lo)
def stepT (x : R) (fr tt : Int) (any : Bool) : Int := if any = true ∨ x.tag = fr then tt else x.tag
/-- what one round of the document's Swap does -/
def stepL (l : List R) (x : R) (lo hi fr tt : Int) (any : Bool) : List R :=
  joinL (joinL (joinL l ⟨x.lo, stepA x lo, x.tag⟩) ⟨stepA x lo, stepB x hi, stepT x fr tt any⟩) ⟨max (stepA x lo) (stepB x hi), x.hi, x.tag⟩
theorem joinL_len (l : List R) (x : R) : (joinL l x).length ≤ l.length + 1 := by
  unfold joinL
  split
  · omega
  · split
    · rename_i y hy
      split
      · rw [List.length_append, List.length_dropLast, List.length_singleton]; omega
      · simp
    · simp
theorem step_can {f : Int → Int} {lo hi fr tt m : Int} {any : Bool} {l : List R} {x : R} (h : Gs.Can (gS f lo hi fr tt any) 0 l m) (h1 : x.lo = m) (h2 : x.lo < x.hi) (h3 : ∀ p, x.lo ≤ p → p < x.hi → f p = x.tag) (hle : lo ≤ hi) :
    Gs.Can (gS f lo hi fr tt any) 0 (stepL l x lo hi fr tt any) x.hi := by
  have hA : x.lo ≤ stepA x lo ∧ stepA x lo ≤ x.hi := by unfold stepA; omega
  have hB : x.lo ≤ stepB x hi ∧ stepB x hi ≤ x.hi := by unfold stepB; omega
  have hAB : stepA x lo ≤ stepB x hi := by unfold stepA stepB; omega
  have k1 := join_can (x := ⟨x.lo, stepA x lo, x.tag⟩) h h1 (by show m ≤ stepA x lo; omega) (fun p p1 p2 => by
    have p2 : p < stepA x lo := p2
    have p1 : x.lo ≤ p := p1
    have hn : ¬ (lo ≤ p ∧ p < hi ∧ (any = true ∨ f p = fr)) := fun h => by unfold stepA at p2; omega
    show (if _ then _ else _) = _
    rw [if_neg hn]
    exact h3 p p1 (by omega))
  have k2 := join_can (x := ⟨stepA x lo, stepB x hi, stepT x fr tt any⟩) k1 rfl hAB (fun p p1 p2 => by
    have p1 : stepA x lo ≤ p := p1
    have p2 : p < stepB x hi := p2
    have e := h3 p (by omega) (by omega)
    have hin : lo ≤ p ∧ p < hi := by unfold stepA at p1; unfold stepB at p2; omega
    show (if _ then _ else _) = stepT x fr tt any
    unfold stepT
    rw [e]
    by_cases hc : any = true ∨ x.tag = fr
    · rw [if_pos ⟨hin.1, hin.2, hc⟩, if_pos hc]
    · rw [if_neg (fun h => hc h.2.2), if_neg hc])
  exact join_can (x := ⟨max (stepA x lo) (stepB x hi), x.hi, x.tag⟩) k2 (by show max (stepA x lo) (stepB x hi) = stepB x hi; omega) (by show stepB x hi ≤ x.hi; omega) (fun p p1 p2 => by
    have p1 : max (stepA x lo) (stepB x hi) ≤ p := p1
    have p2 : p < x.hi := p2
    have hn : ¬ (lo ≤ p ∧ p < hi ∧ (any = true ∨ f p = fr)) := fun h => by unfold stepB at p1; omega
    show (if _ then _ else _) = _
    rw [if_neg hn]
    exact h3 p (by omega) p2)
theorem stepL_len (l : List R) (x : R) (lo hi fr tt : Int) (any : Bool) : (stepL l x lo hi fr tt any).length ≤ l.length + 3 := by
  unfold stepL
  have h1 := joinL_len l ⟨x.lo, stepA x lo, x.tag⟩
  have h2 := joinL_len (joinL l ⟨x.lo, stepA x lo, x.tag⟩) ⟨stepA x lo, stepB x hi, stepT x fr tt any⟩
  have h3 := joinL_len (joinL (joinL l ⟨x.lo, stepA x lo, x.tag⟩) ⟨stepA x lo, stepB x hi, stepT x fr tt any⟩) ⟨max (stepA x lo) (stepB x hi), x.hi, x.tag⟩
  omega
/-- the count of one round -/
theorem step_cnt (x : R) (k lo hi : Int) (h : x.lo < x.hi) (hle : lo ≤ hi) : cnt k (clip1 lo hi x) = if x.tag = k then max 0 (stepB x hi - stepA x lo) else 0 := by
  unfold clip1 stepA stepB
  by_cases hc : max lo x.lo < min x.hi hi
  · rw [if_pos hc]
    show (if x.tag = k then min x.hi hi - max lo x.lo else 0) + 0 = _
    split <;> omega
  · rw [if_neg hc]
    show 0 = _
    split <;> omega
/-- Set and Swap, as the program's own contracts name them -/
theorem gS_put (f : Int → Int) (lo hi fr tt : Int) : gS f lo hi fr tt true = put f lo hi tt := by
  funext x
  show (if lo ≤ x ∧ x < hi ∧ (true = true ∨ f x = fr) then tt else f x) = if lo ≤ x ∧ x < hi then tt else f x
  by_cases h : lo ≤ x ∧ x < hi
  · rw [if_pos ⟨h.1, h.2, .inl rfl⟩, if_pos h]
  · rw [if_neg (fun h' => h ⟨h'.1, h'.2.1⟩), if_neg h]
end Go.Proofs.Ytahgfggcpmnnaaa
