/- Judge: lists of bools, the verdicts, and what both Judges count. -/
import Derived.Below
import Derived.Test.YtfkogbomijonjaaGreatDoorKp
namespace Go.Proofs.YtfkogbomijonjaaGreatDoor
open Go Go.RowKit

/-- a list of bools lies at a slice -/
def IsBs (W : World) (v : Value) (l : List Bool) : Prop :=
  ∃ ao c, v = .slice ao l.length c ∧ (0 < l.length → ∃ B o, ao = some ⟨B, o, none⟩ ∧ B < W.heap.size ∧ ∀ j (h : j < l.length), W.cell? ⟨B, o + j, none⟩ = some (.bool l[j]))
theorem IsBs.below {W W' : World} {v : Value} {l : List Bool} (h : IsBs W v l) (hb : Below W.heap.size W W') : IsBs W' v l := by
  obtain ⟨ao, c, hv, h⟩ := h
  refine ⟨ao, c, hv, fun hp => ?_⟩
  obtain ⟨B, o, e, hB, hc⟩ := h hp
  exact ⟨B, o, e, Nat.lt_of_lt_of_le hB hb.size, fun j hj => (hb.cell (p := ⟨B, _, none⟩) hB).trans (hc j hj)⟩
theorem IsBs.at' {W : World} {a : Option Addr} {n c : Nat} {l : List Bool} (h : IsBs W (.slice a n c) l) {j : Nat} (hj : j < l.length) : ∃ B o, a = some ⟨B, o, none⟩ ∧ W.cell? ⟨B, o + j, none⟩ = some (.bool l[j]) := by
  obtain ⟨a', c', hv, hcs⟩ := h
  injection hv with hv1 hv2 hv3
  subst hv1
  obtain ⟨B, o, e1, -, hcs2⟩ := hcs (by omega)
  exact ⟨B, o, e1, hcs2 j hj⟩
/-- the verdict after so many good and bad pieces -/
def verd (n c g b : Int) : Int := if g ≥ n - c then 1 else if b > c then 2 else 0
/-- the verdict, the good and the bad pieces when the inspection ends -/
def jrun (n c : Int) : List Bool → Int → Int → Int × Int × Int
  | [], g, b => (verd n c g b, g, b)
  | x :: l, g, b => if verd n c g b = 0 then (if x then jrun n c l g (b + 1) else jrun n c l (g + 1) b) else (verd n c g b, g, b)
theorem jrun_stop {n c : Int} {l : List Bool} {g b : Int} (h : verd n c g b ≠ 0) : jrun n c l g b = (verd n c g b, g, b) := by
  cases l with
  | nil => rfl
  | cons x l => rw [jrun, if_neg h]
theorem jrun_bad {n c : Int} {l : List Bool} {j : Nat} (hj : j < l.length) {g b : Int} (h : verd n c g b = 0) (hx : l[j] = true) : jrun n c (l.drop j) g b = jrun n c (l.drop (j + 1)) g (b + 1) := by
  rw [List.drop_eq_getElem_cons hj, jrun, if_pos h, hx, if_pos rfl]
theorem jrun_good {n c : Int} {l : List Bool} {j : Nat} (hj : j < l.length) {g b : Int} (h : verd n c g b = 0) (hx : l[j] = false) : jrun n c (l.drop j) g b = jrun n c (l.drop (j + 1)) (g + 1) b := by
  rw [List.drop_eq_getElem_cons hj, jrun, if_pos h, hx, if_neg (by decide)]
end Go.Proofs.YtfkogbomijonjaaGreatDoor
