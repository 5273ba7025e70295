/- The contract of awake. -/
import Derived.Test.YtfkogbomijonjaaGreatDoorWt
namespace Go.Proofs.YtfkogbomijonjaaGreatDoor
open Go Go.RowKit Gu

theorem fit_small {n : Nat} (h : n < 2 ^ 64) : fitE n = 0 ∧ fitN n = n := by
  have : nd 2 n ≤ 16384 := Nat.le_trans ((nd_le (by decide : 2 ≤ 2)).2 h) (by decide)
  exact ⟨if_pos this, if_pos this⟩
theorem nd_small {n : Nat} (h : n < 4294967296) : nd 4294967296 n ≤ 1 := (nd_le (by decide)).2 (by simpa using h)
theorem add17 (v u : Value) (w : World) (hv : D w v 7) (hu : D w u 10) : Calls Tryz.prog 51 #[.agg #[v], .agg #[u]] w fun e w' => ∃ r, e = .returned (.tuple #[.agg #[r], .int .i64 0]) ∧ D w' r 17 ∧ Below w.heap.size w w' := by
  have h := Add_any v u 7 10 w hv hu (Nat.le_trans (nd_small (by decide)) (by decide)) (Nat.le_trans (nd_small (by decide)) (by decide))
  rw [(fit_small (by decide : 7 + 10 < 2 ^ 64)).1, (fit_small (by decide : 7 + 10 < 2 ^ 64)).2] at h
  exact h
theorem frac710 (v u : Value) (w : World) (hv : D w v 7) (hu : D w u 10) : Calls Tryz.prog 28 #[.agg #[v], .agg #[u]] w fun e w' => ∃ r s, e = .returned (.tuple #[.agg #[r, s], .int .i64 0]) ∧ D w' r 7 ∧ D w' s 10 ∧ Below w.heap.size w w' := by
  have h := NewFrac_any divide_small v u 7 10 w hv hu (by decide) (by decide) (by decide)
  have e : Nat.gcd 7 10 = 1 := by decide
  rw [e] at h
  exact h
theorem str17 (v : Value) (w : World) (hv : D w v 17) (he : Env w) : Calls Tryz.prog 21 #[.agg #[v]] w fun e w' => e = .returned (.string ⟨#[49, 55]⟩) ∧ Below w.heap.size w w' := by
  have h := String_any v 17 w hv (Nat.le_trans (nd_small (by decide)) (by decide)) he
  have e : Lib.decDigits 17 = [49, 55] := by
    rw [decDigits_big (by decide), decDigits_small (by decide)]; rfl
  rw [e] at h
  exact h
theorem fstr710 (v u : Value) (w : World) (hv : D w v 7) (hu : D w u 10) (he : Env w) : Calls Tryz.prog 10 #[.agg #[v, u]] w fun e w' => e = .returned (.string ⟨#[55, 47, 49, 48]⟩) ∧ Below w.heap.size w w' := by
  have h := FracString_two v u 7 10 w hv hu (by decide) (Nat.le_trans (nd_small (by decide)) (by decide)) (Nat.le_trans (nd_small (by decide)) (by decide)) he
  have e : Lib.decDigits 7 ++ 47 :: Lib.decDigits 10 = [55, 47, 49, 48] := by
    rw [decDigits_big (u := 10) (by decide), decDigits_small (u := 7) (by decide), decDigits_small (by decide)]; rfl
  rw [e] at h
  exact h
end Go.Proofs.YtfkogbomijonjaaGreatDoor
