/- The document's Swap, where it refuses; the function behind it, as the program's contract names it. -/
import Derived.Test.YtahgfggcpmnnaabQc
import Derived.Test.YtahgfggcpmnnaabYy
namespace Go.Proofs.Ytahgfggcpmnnaab
open Go Go.RowKit Gs

theorem gS_swr (f : Int → Int) (lo hi : Int) (fr tt : Nat) : gS f lo hi fr tt false = swr f lo hi fr tt := by
  funext x
  show (if lo ≤ x ∧ x < hi ∧ (false = true ∨ f x = fr) then (tt : Int) else f x) = if lo ≤ x ∧ x < hi then (if f x = fr then (tt : Int) else f x) else f x
  by_cases h : lo ≤ x ∧ x < hi
  · by_cases h2 : f x = fr
    · rw [if_pos ⟨h.1, h.2, .inr h2⟩, if_pos h, if_pos h2]
    · rw [if_neg (fun h' => h'.2.2.elim (fun h => by cases h) h2), if_pos h, if_neg h2]
  · rw [if_neg (fun h' => h ⟨h'.1, h'.2.1⟩), if_neg h]
end Go.Proofs.Ytahgfggcpmnnaab
