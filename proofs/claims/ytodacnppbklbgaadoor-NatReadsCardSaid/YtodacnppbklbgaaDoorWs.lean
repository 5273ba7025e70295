/- The contracts of String, BitLen, Int; terms and String of a fraction. -/
import Derived.Test.YtodacnppbklbgaaDoorWr
namespace Go.Proofs.YtodacnppbklbgaaDoor
open Go Go.RowKit Gu

theorem String_any (v : Value) (n : Nat) (w : World) (hv : D w v n) (hn : nd 4294967296 n ≤ 100000) (he : Env w) :
    Calls Tryd.prog 15 #[.agg #[v]] w fun e w' => e = .returned (.string ⟨(Lib.decDigits n).toArray⟩) ∧ Below w.heap.size w w' := by
  rcases Nat.eq_zero_or_pos n with h0 | h0
  · subst h0
    have HZ := Lib.hid (fun o => isZero_any v 0 (w.alloc o) (hv.below ((Below.refl _ _).alloc (Nat.le_refl _) _)))
    rw [show decide (0 = 0) = true from rfl] at HZ
    obtain ⟨ao, ac, rfl, -⟩ := hv.shape
    rw [nd_zero] at *
    have HD : Hid (Lib.decDigits 0 = [48]) := decDigits_small (by decide)
    clear hv
    go_enter Tryd.func15, Tryd.ntmps15
    go_wp2_with fail
    refine (HZ.out _).mono ?_
    rintro e w1 ⟨rfl, rfl⟩
    go_wp2
    go_ret
    exact ⟨by rw [HD.out]; rfl, (Below.refl _ _).alloc (Nat.le_refl _) _⟩
  · exact String_pos v n w hv h0 hn he
theorem BitLen_any (v : Value) (n : Nat) (w : World) (hv : D w v n) (hn : nd 4294967296 n ≤ 1048576) :
    Calls Tryd.prog 10 #[.agg #[v]] w fun e w' => e = .returned (.int .i64 (nd 2 n)) ∧ Below w.heap.size w w' := by
  have HL := Lib.hid (fun o => bitLen_any v n (w.alloc o) (hv.below ((Below.refl _ _).alloc (Nat.le_refl _) _)) hn)
  obtain ⟨ao, ac, rfl, -⟩ := hv.shape
  clear hv
  go_enter Tryd.func10, Tryd.ntmps10
  go_wp2_with fail
  refine (HL.out _).mono ?_
  rintro e w1 ⟨rfl, rfl⟩
  go_wp2
  go_ret
  exact ⟨rfl, (Below.refl _ _).alloc (Nat.le_refl _) _⟩
/-- Int of a number that is one -/
theorem Int_small (v : Value) (n : Nat) (w : World) (hv : D w v n) (hn : n ≤ 9223372036854775807) :
    Calls Tryd.prog 8 #[.agg #[v]] w fun e w' => e = .returned (.tuple #[.int .i64 n, .bool true]) ∧ Below w.heap.size w w' := by
  have hnd : nd 4294967296 n ≤ 2 := (nd_le (by decide)).2 (by omega)
  have hb : ¬ (64 : Int) ≤ nd 2 n := by
    have := (nd_le (by decide : 2 ≤ 2) (n := n) (k := 63)).2 (by omega)
    omega
  have b1 : ∀ o q, Below w.heap.size w ((w.alloc o).drewN q) := fun o q => below_drewN ((Below.refl _ _).alloc (Nat.le_refl _) _) q
  have HL := Lib.hid (fun o => bitLen_any v n (w.alloc o) (hv.below ((Below.refl _ _).alloc (Nat.le_refl _) _)) (by omega))
  have HA := Lib.hid (fun o q => at_any v n 1 ((w.alloc o).drewN q) (hv.below (b1 o q)) (by omega))
  have HA0 := Lib.hid (fun o q => at_any v n 0 ((w.alloc o).drewN q) (hv.below (b1 o q)) (by omega))
  have h1 : dg 4294967296 n 1 = n / 4294967296 := by
    unfold dg; rw [Nat.pow_one, Nat.mod_eq_of_lt (by omega)]
  have h2 : dg 4294967296 n 0 = n % 4294967296 := by unfold dg; rw [Nat.pow_zero, Nat.div_one]
  rw [h1] at HA; rw [h2] at HA0
  obtain ⟨ao, ac, rfl, -⟩ := hv.shape
  have HOR : Hid (wrap64 (bits BinOp.or IntKind.u64 ((n : Int) / 4294967296 * 4294967296) ((n : Int) % 4294967296)) = n) := by
    have e := or_digits (n / 4294967296) (n % 4294967296) (by omega) (by omega)
    rw [show ((n / 4294967296 : Nat) : Int) = (n : Int) / 4294967296 from by omega, show ((n % 4294967296 : Nat) : Int) = (n : Int) % 4294967296 from by omega, show ((n / 4294967296 * 4294967296 + n % 4294967296 : Nat) : Int) = n from by omega] at e
    show _ = _
    rw [e]
    exact IntWalk.wrap64_in _ (by omega)
  clear hv b1 h1 h2
  go_enter Tryd.func8, Tryd.ntmps8
  go_wp2_with fail
  refine (HL.out _).mono ?_
  rintro e w1 ⟨rfl, rfl⟩
  go_wp2
  go_quiet ((first | (go_at_call_of 26 (Value.int IntKind.i64 1); exact Calls.quiet_of_same ((HA.out _ _).mono fun _ _ ⟨h, h'⟩ => ⟨h, h'.symm⟩)) | (go_at_call_of 26 (Value.int IntKind.i64 0); exact Calls.quiet_of_same ((HA0.out _ _).mono fun _ _ ⟨h, h'⟩ => ⟨h, h'.symm⟩))))
  go_wp2
  rw [HOR.out]
  go_ret2
  exact ⟨rfl, below_drewN ((Below.refl _ _).alloc (Nat.le_refl _) _) _⟩
end Go.Proofs.YtodacnppbklbgaaDoor
