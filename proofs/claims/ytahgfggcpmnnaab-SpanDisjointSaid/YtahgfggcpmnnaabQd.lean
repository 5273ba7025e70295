/- The contract of the document's Swap. -/
import Derived.Test.YtahgfggcpmnnaabQc
import Derived.BigRegion
namespace Go.Proofs.Ytahgfggcpmnnaab
open Go Go.RowKit Gs

/-- what the document's Swap answers, where nothing is refused -/
def RU (f : Int → Int) (size lo hi fr tt : Int) (any : Bool) (L : List R) (B : Nat) (s : Int) (v : Value) (n e : Int) (W : World) : Prop :=
  ∃ L', Gs.Can (gS f lo hi fr tt any) 0 L' size ∧ ((4096 < L'.length ∧ s = 0 ∧ v = .slice none 0 0 ∧ n = 0 ∧ e = 5) ∨ (L'.length ≤ 4096 ∧ s = size ∧ e = 0 ∧ IsRs B W v L' ∧ (any = false → n = cnt fr (clip lo hi L))))
theorem Rb.keep {W W' : World} {B : Nat} {r : R} (h : Rb W B r) (e : W'.heap[B]? = W.heap[B]?) : Rb W' B r := e.trans h
theorem IsRs.mono {base base' : Nat} {W : World} {v : Value} {l : List R} (h : IsRs base W v l) (hb : base' ≤ base) : IsRs base' W v l := by
  obtain ⟨ao, c, hv, h⟩ := h
  exact ⟨ao, c, hv, fun hl => by obtain ⟨B, e, h1, h2⟩ := h hl; exact ⟨B, e, ⟨Nat.le_trans hb h1.1, h1.2⟩, h2⟩⟩
theorem JP.box {W W' : World} {base k : Nat} {v v' : Value} {l : List R} {r : R} (h : JP W base v l v' W') (hb : Rb W k r) (hv : ∀ g, v.ownBlock = some g → g ≠ k) : Rb W' k r ∧ ∀ g, v'.ownBlock = some g → g ≠ k := by
  refine ⟨hb.keep (h.keep k hb.lt (fun e => hv k e.symm rfl)), fun g hg e => ?_⟩
  subst e
  rcases h.at' _ hg with h1 | h1
  · exact hv _ h1 rfl
  · exact absurd hb.lt (by omega)
end Go.Proofs.Ytahgfggcpmnnaab
