/- The contracts of the document's own functions on numbers: Int, power, Bit; and of Int and Bit of a natural number. -/
import Derived.Test.YtgjkhbognenajaaGreatDoorRe
namespace Go.Proofs.YtgjkhbognenajaaGreatDoor
open Go Go.RowKit Gu

/-- a number as an int, and whether it is one -/
def intN (n : Nat) : Nat := if n ≤ 9223372036854775807 then n else 0
def intB (n : Nat) : Bool := decide (n ≤ 9223372036854775807)
theorem nd63 {n : Nat} : nd 2 n ≤ 63 ↔ n ≤ 9223372036854775807 := by
  rw [nd_le (by decide)]; omega
set_option maxHeartbeats 1000000 in
theorem RInt_any (v : Value) (n : Nat) (w : World) (hv : R w v n) (hn : nd 65536 n ≤ 1048576) :
    Calls Tryz.prog 18 #[v] w fun e w' => e = .returned (.tuple #[.int .i64 (intN n), .bool (intB n)]) ∧ w = w' := by
  have HL := Lib.hid (RBitLen_any v n w hv hn)
  obtain ⟨ao, ac, rfl, hcv⟩ := hv.shape
  clear hv
  by_cases hb : n ≤ 9223372036854775807
  · have h63 : ((nd 2 n : Nat) : Int) ≤ 63 := by have := (nd63 (n := n)).2 hb; omega
    have HN : Hid (intN n = n ∧ intB n = true) := ⟨if_pos hb, by simp [intB, hb]⟩
    generalize nd 2 n = L at *
    go_enter Tryz.func18, Tryz.ntmps18
    go_wp2_with fail
    refine HL.out.mono ?_
    rintro e w' ⟨rfl, rfl⟩
    go_wp2
    go_loopw [4, 5] (fun x i wr => ∃ k : Nat, k ≤ nd 65536 n ∧ x = .int .i64 (n / 65536 ^ k : Nat) ∧ i = .int .i64 ((k : Int) - 1) ∧ wr = w) (fun _ i _ => (intOf i + 1).toNat)
    case atStart => exact ⟨_, Nat.le_refl _, by rw [Nat.div_eq_of_lt (nd_lt (by decide) n)]; rfl, rfl, rfl⟩
    case round =>
      obtain ⟨k, hk, rfl, rfl, rfl⟩ := hrel
      cases k with
      | succ k =>
        rw [show ((k + 1 : Nat) : Int) - 1 = k from by omega]
        obtain ⟨gb, go, rfl, hca⟩ := hcv k (by omega)
        have hle : n / 65536 ^ k ≤ n := Nat.div_le_self _ _
        have hst : n / 65536 ^ k = dg 65536 n k + 65536 * (n / 65536 ^ (k + 1)) := div_succ 65536 n k
        have HS : Hid (((n / 65536 ^ k : Nat) : Int) = ((n / 65536 ^ (k + 1) : Nat) : Int) * 65536 + (dg 65536 n k : Nat)) := by show _ = _; omega
        have hlt : (n / 65536 ^ (k + 1)) * 65536 + dg 65536 n k ≤ 9223372036854775807 := by omega
        have hkl : (k : Int) < nd 65536 n := by omega
        clear hcv hle hst
        generalize n / 65536 ^ (k + 1) = x at *
        generalize dg 65536 n k = d at *
        go_wp2
        go_roundw
        case rel => exact ⟨k, by omega, congrArg _ HS.out.symm, by go_num, by trivial⟩
        case measure => simp [intOf]
      | zero =>
        rw [show ((0 : Nat) : Int) - 1 = -1 from rfl, Nat.pow_zero, Nat.div_one]
        clear hcv
        go_wp2
        go_ret2
        exact ⟨by rw [HN.out.1, HN.out.2]; rfl, rfl⟩
  · have h63 : ¬ ((nd 2 n : Nat) : Int) ≤ 63 := by have := (nd63 (n := n)).1; omega
    have HN : Hid (intN n = 0 ∧ intB n = false) := ⟨if_neg hb, by simp [intB]; omega⟩
    generalize nd 2 n = L at *
    clear hcv
    go_enter Tryz.func18, Tryz.ntmps18
    go_wp2_with fail
    refine HL.out.mono ?_
    rintro e w' ⟨rfl, rfl⟩
    go_wp2
    go_ret2
    exact ⟨by rw [HN.out.1, HN.out.2]; rfl, rfl⟩
theorem power_any (n : Nat) (w : World) (hn : n ≤ 16) :
    Calls Tryz.prog 40 #[.int .i64 n] w fun e w' => e = .returned (.int .i64 (2 ^ n : Nat)) ∧ w = w' := by
  have HP : Hid (∀ k, k ≤ n → 2 ^ k ≤ 65536) := fun k hk => Nat.le_trans (Nat.pow_le_pow_right (by decide) (show k ≤ 16 by omega)) (by decide)
  go_enter Tryz.func40, Tryz.ntmps40
  go_wp2
  go_loopw [3, 4] (fun x i wr => ∃ k : Nat, k ≤ n ∧ x = .int .i64 (2 ^ k : Nat) ∧ i = .int .i64 k ∧ wr = w) (fun _ i _ => (n - intOf i).toNat)
  case atStart => exact ⟨0, Nat.zero_le _, rfl, rfl, rfl⟩
  case round =>
    obtain ⟨k, hk, rfl, rfl, rfl⟩ := hrel
    have hp := HP.out k hk
    have HS : Hid (((2 ^ (k + 1) : Nat) : Int) = 2 * ((2 ^ k : Nat) : Int)) := by show _ = _; rw [Nat.pow_succ]; omega
    rcases Nat.eq_or_lt_of_le hk with h | h
    · subst h
      clear HS
      go_wp2
      go_ret
      exact ⟨rfl, rfl⟩
    · generalize 2 ^ k = x at *
      go_wp2
      go_roundw
      case rel => exact ⟨k + 1, by omega, congrArg _ HS.out.symm, by go_num, by trivial⟩
      case measure => simp [intOf]; omega
end Go.Proofs.YtgjkhbognenajaaGreatDoor
