/- What the operations on trees of runs ask of their lists. Of no program. -/
import Derived.Test.YtahgfggcpmnnaaaYb
namespace Gs

theorem cnt_zero {f : Int → Int} {k : Int} {l : List R} {a b : Int} (h : Fits f a l b) (e : cnt k l = 0) (p : Int) (h1 : a ≤ p) (h2 : p < b) : f p ≠ k := by
  intro hp
  have h3 := cb_succ (k := k) h h1 h2
  rw [if_pos hp] at h3
  have h4 := cb_bd (p + 1) k h
  have h5 := cb_bd p k h
  omega
/-- the pieces below a piece of the middle run -/
theorem cb_mid {f : Int → Int} {l m : List R} {r : R} {a b p k : Int} (h : Can f a (l ++ r :: m) b) (h1 : r.lo ≤ p) (h2 : p ≤ r.hi) : cb p k (l ++ r :: m) = cnt k l + (if r.tag = k then p - r.lo else 0) := by
  obtain ⟨g1, g2, g3, g4, _, _⟩ := h.mid
  rw [cb_append, cb_high p k g1.1 h1]
  simp only [cb, cb_low p k g2.1 h2]
  split <;> omega
theorem cb_past {f : Int → Int} {l m : List R} {r : R} {a b p k : Int} (h : Can f a (l ++ r :: m) b) (h1 : r.hi ≤ p) : cb p k (l ++ r :: m) = cnt k l + (if r.tag = k then r.hi - r.lo else 0) + cb p k m := by
  obtain ⟨g1, g2, g3, g4, _, _⟩ := h.mid
  rw [cb_append, cb_high p k g1.1 (by omega)]
  simp only [cb]
  split <;> omega
/-- the sum of n counts -/
def cbs (at' : Int) (l : List R) : Nat → Int
  | 0 => 0
  | n + 1 => cbs at' l n + cb at' n l
theorem cbs_succ {f : Int → Int} {l : List R} {a b p : Int} (h : Fits f a l b) (h1 : a ≤ p) (h2 : p < b) (h3 : 0 ≤ f p) : ∀ n : Nat, cbs (p + 1) l n = cbs p l n + if f p < n then 1 else 0
  | 0 => by simp only [cbs]; split <;> omega
  | n + 1 => by
    simp only [cbs, cbs_succ h h1 h2 h3 n, cb_succ (k := n) h h1 h2]
    split <;> split <;> split <;> omega
theorem cbs_all {f : Int → Int} {l : List R} {a b : Int} (h : Fits f a l b) (c : Ctx f a b) (n : Nat) : a + n ≤ b → cbs (a + n) l 16 = n := by
  induction n with
  | zero =>
    intro _
    have h0 : ∀ k, cbs a l k = 0 := by
      intro k
      induction k with
      | zero => rfl
      | succ k ih => simp only [cbs, ih, cb_low a k h (Int.le_refl _)]; rfl
    simpa using h0 16
  | succ n ih =>
    intro hb
    have h3 := c.2.2 (a + n) (by omega) (by omega)
    have h4 := cbs_succ h (p := a + n) (by omega) (by omega) h3.1 16
    rw [show a + ((n + 1 : Nat) : Int) = a + n + 1 from by omega, h4, ih (by omega), if_pos (by have := h3.2; omega)]
    omega
/-- the run that holds a piece -/
theorem Can.at {f : Int → Int} {l m : List R} {r : R} {a b p : Int} (_h : Can f a (l ++ r :: m) b) (h1 : a ≤ p) (h2 : p < b) : (p < r.lo → 0 < r.lo - a) ∧ (r.hi ≤ p → 0 < b - r.hi) := by
  constructor <;> intro _ <;> omega

/-- what a run of the left part with the same tag becomes: the left part goes on to y's beginning -/
theorem glue_left {f : Int → Int} {l : List R} {a m : Int} {y : R} (h : Can f a l m) (e : l.getLast? = some y) : max a (min y.lo m) = y.lo := by
  obtain ⟨h1, h2, h3, _, _⟩ := h.last e
  omega
theorem glue_right {f : Int → Int} {l : List R} {m b : Int} {y : R} (h : Can f m l b) (e : l.head? = some y) : max m (min y.hi b) = y.hi := by
  obtain ⟨h1, h2, h3, _, _⟩ := h.first e
  omega
end Gs
