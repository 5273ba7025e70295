/- The contracts of the document's own functions on numbers: Int, power, Bit; and of Int and Bit of a natural number. -/
import Derived.Test.YteieedfigoihpaaGreatDoorRe
namespace Go.Proofs.YteieedfigoihpaaGreatDoor
open Go Go.RowKit Gu

/-- a number as an int, and whether it is one -/
def intN (n : Nat) : Nat := if n ≤ 9223372036854775807 then n else 0
def intB (n : Nat) : Bool := decide (n ≤ 9223372036854775807)
theorem nd63 {n : Nat} : nd 2 n ≤ 63 ↔ n ≤ 9223372036854775807 := by
  rw [nd_le (by decide)]; omega
theorem power_any (n : Nat) (w : World) (hn : n ≤ 16) :
    Calls Tryz.prog 67 #[.int .i64 n] w fun e w' => e = .returned (.int .i64 (2 ^ n : Nat)) ∧ w = w' := by
  have HP : Hid (∀ k, k ≤ n → 2 ^ k ≤ 65536) := fun k hk => Nat.le_trans (Nat.pow_le_pow_right (by decide) (show k ≤ 16 by omega)) (by decide)
  go_enter Tryz.func67, Tryz.ntmps67
  go_wp2
  go_loopw [3, 4] (fun x i wr => ∃ k : Nat, k ≤ n ∧ x = .int .i64 (2 ^ k : Nat) ∧ i = .int .i64 k ∧ wr = w) (fun _ i _ => (n - intOf i).toNat)
  case atStart => exact ⟨0, Nat.zero_le _, rfl, rfl, rfl⟩
  case round =>
    obtain ⟨k, hk, rfl, rfl, rfl⟩ := hrel
    have hp := HP.out k hk
    have HS : Hid (((2 ^ (k + 1) : Nat) : Int) = 2 * ((2 ^ k : Nat) : Int)) := by show _ = _; rw [Nat.pow_succ]; omega
    rcases Nat.eq_or_lt_of_le hk with h | h
    · subst h
      clear HS
      go_wp2
      go_ret
      exact ⟨rfl, rfl⟩
    · generalize 2 ^ k = x at *
      go_wp2
      go_roundw
      case rel => exact ⟨k + 1, by omega, congrArg _ HS.out.symm, by go_num, by trivial⟩
      case measure => simp [intOf]; omega
end Go.Proofs.YteieedfigoihpaaGreatDoor
