/- The contracts of String, BitLen, Int; terms and String of a fraction. -/
import Derived.Test.YtfkogbomijonjaaGreatDoorWr
namespace Go.Proofs.YtfkogbomijonjaaGreatDoor
open Go Go.RowKit Gu

theorem String_any (v : Value) (n : Nat) (w : World) (hv : D w v n) (hn : nd 4294967296 n ≤ 100000) (he : Env w) :
    Calls Tryz.prog 21 #[.agg #[v]] w fun e w' => e = .returned (.string ⟨(Lib.decDigits n).toArray⟩) ∧ Below w.heap.size w w' := by
  rcases Nat.eq_zero_or_pos n with h0 | h0
  · subst h0
    have HZ := Lib.hid (fun o => isZero_any v 0 (w.alloc o) (hv.below ((Below.refl _ _).alloc (Nat.le_refl _) _)))
    rw [show decide (0 = 0) = true from rfl] at HZ
    obtain ⟨ao, ac, rfl, -⟩ := hv.shape
    rw [nd_zero] at *
    have HD : Hid (Lib.decDigits 0 = [48]) := decDigits_small (by decide)
    clear hv
    go_enter Tryz.func21, Tryz.ntmps21
    go_wp2_with fail
    refine (HZ.out _).mono ?_
    rintro e w1 ⟨rfl, rfl⟩
    go_wp2
    go_ret
    exact ⟨by rw [HD.out]; rfl, (Below.refl _ _).alloc (Nat.le_refl _) _⟩
  · exact String_pos v n w hv h0 hn he
end Go.Proofs.YtfkogbomijonjaaGreatDoor
