/- The contracts of digitsOf, isZero, isOne, bitLen, bit. -/
import Derived.Test.YtfkogbomijonjaaGreatDoorWb
import Derived.Test.YtfkogbomijonjaaGreatDoorShelf
namespace Go.Proofs.YtfkogbomijonjaaGreatDoor
open Go Go.RowKit Gu

theorem two_cells (n i : Nat) (hi : i < 2) : (#[Value.int .u32 (↑n % 4294967296), Value.int .u32 (↑n / 4294967296 % 4294967296)] : Array Value)[i]? = some (.int .u32 (dg 4294967296 n i : Nat)) := by
  match i, hi with
  | 0, _ => simp [dg]
  | 1, _ => simp [dg]
theorem digitsOf_any (n : Nat) (w : World) (hn : n < 2 ^ 64) :
    Calls Tryz.prog 36 #[.int .u64 n] w fun e w' => ∃ v, e = .returned v ∧ D w' v n ∧ Below w.heap.size w w' := by
  have H := Lib.hid hn; clear hn
  go_enter Tryz.func36, Tryz.ntmps36
  go_wp2_with fail
  refine (trim_any _ _ _ n _ (fun i hi => ?_) ?_ (by decide) (by decide)).mono ?_
  · rw [World.cell?_alloc_at _ _ _ _ rfl]; exact two_cells n i hi
  · exact H.out
  rintro e w' ⟨rfl, rfl⟩
  go_wp2
  go_ret
  refine ⟨_, rfl, ?_, (Below.refl _ _).alloc (Nat.le_refl _) _⟩
  rcases Nat.eq_zero_or_pos n with h0 | h0
  · subst h0; rw [nd_zero]; exact IsN.zero _ _ _ _ _
  · refine .inr ⟨h0, _, 0, _, rfl, fun i hi => ?_⟩
    have : nd 4294967296 n ≤ 2 := (nd_le (by decide)).2 H.out
    rw [Nat.zero_add, World.cell?_alloc_at _ _ _ _ rfl]; exact two_cells n i (by omega)
theorem isZero_any (v : Value) (n : Nat) (w : World) (h : D w v n) :
    Calls Tryz.prog 35 #[v] w fun e w' => e = .returned (.bool (decide (n = 0))) ∧ w = w' := by
  obtain ⟨ao, cap, rfl, -⟩ := h.shape
  have e : ((nd 4294967296 n : Int) == 0) = decide (n = 0) := by
    rw [Bool.eq_iff_iff]; simp; exact nd_eq_zero (by decide)
  have H := Lib.hid e; clear e h
  go_enter Tryz.func35, Tryz.ntmps35
  go_wp2
  go_ret
  exact ⟨by first | rfl | (rw [← H.out]; rfl), rfl⟩
theorem isOne_any (v : Value) (n : Nat) (w : World) (h : D w v n) :
    Calls Tryz.prog 20 #[v] w fun e w' => e = .returned (.bool (decide (n = 1))) ∧ w = w' := by
  rcases h with ⟨h0, ao, cap, hv⟩ | ⟨h0, b, o, cap, hv, hc⟩
  · subst h0; subst hv
    go_enter Tryz.func20, Tryz.ntmps20
    go_wp2
    go_ret
    exact ⟨rfl, rfl⟩
  · have hB : 2 ≤ 4294967296 := by decide
    have hp := nd_pos hB h0
    have hl := nd_lt hB n
    have hc0 := hc 0 hp
    rw [Nat.add_zero] at hc0
    have hd : dg 4294967296 n 0 = n % 4294967296 := by simp [dg]
    rw [hd] at hc0
    subst hv
    have hne : n ≠ 1 ∨ n = 1 := by omega
    by_cases h1 : nd 4294967296 n = 1
    · rw [h1] at hl
      have hl' : n < 4294967296 := by simpa using hl
      rw [Nat.mod_eq_of_lt hl'] at hc0
      rw [h1]
      clear hc hl hp hd h1
      have E : Hid (((n : Int) == 1) = decide (n = 1)) := by
        show _ = _
        rw [Bool.eq_iff_iff]; simp; omega
      go_enter Tryz.func20, Tryz.ntmps20
      go_wp2
      go_ret
      exact ⟨by first | rfl | (rw [← E.out]; rfl), rfl⟩
    · have h2 : n ≠ 1 := by
        intro e; subst e
        exact h1 (nd_of hB (by decide) (fun _ => by decide))
      have hf : (((nd 4294967296 n : Nat) : Int) == 1) = false := by simp; omega
      have hd1 : decide (n = 1) = false := by simp [h2]
      rw [hd1]
      generalize nd 4294967296 n = m at *
      clear hc hl hd hc0 hd1 h2 h1 hne
      go_enter Tryz.func20, Tryz.ntmps20
      go_wp2
      go_ret
      exact ⟨rfl, rfl⟩
theorem bitLen_any (v : Value) (n : Nat) (w : World) (h : D w v n) (hn : nd 4294967296 n ≤ 1048576) :
    Calls Tryz.prog 83 #[v] w fun e w' => e = .returned (.int .i64 (nd 2 n)) ∧ w = w' := by
  have hz := isZero_any v n w h
  rcases h with ⟨h0, ao, cap, hv⟩ | ⟨h0, b, o, cap, hv, hc⟩
  · subst h0; subst hv
    have HZ := Lib.hid hz; clear hz
    rw [nd_zero]
    go_enter Tryz.func83, Tryz.ntmps83
    go_wp2_with (go_at_call 35; refine HZ.out.mono ?_; rintro e w' ⟨rfl, rfl⟩)
    go_ret
    exact ⟨rfl, rfl⟩
  · have hB : 2 ≤ 4294967296 := by decide
    have hp := nd_pos hB h0
    have hcell := hc (nd 4294967296 n - 1) (by omega)
    have hbits : nd 2 n = 32 * (nd 4294967296 n - 1) + Go.Lib.bitLen (dg 4294967296 n (nd 4294967296 n - 1)) := bits_32 h0
    have hlt := dg_lt (B := 4294967296) (by decide) n (nd 4294967296 n - 1)
    rw [show decide (n = 0) = false from by simp; omega] at hz
    subst hv
    rw [hbits]
    clear hc hbits
    generalize dg 4294967296 n (nd 4294967296 n - 1) = t at *
    generalize nd 4294967296 n = m at *
    have HL := Lib.hid (Tryz.bits_Len32 t w (by omega) (by omega))
    have hbl : Go.Lib.bitLen t ≤ 64 := Go.Lib.bitLen_le t 64 (Nat.le_refl _) (by omega)
    have HZ := Lib.hid hz; clear hz
    rw [Int.toNat_natCast] at HL
    go_enter Tryz.func83, Tryz.ntmps83
    go_wp2_with (first | (go_at_call 35; refine HZ.out.mono ?_; rintro e w' ⟨rfl, rfl⟩) | (go_at_call 98; refine HL.out.mono ?_; rintro e w' ⟨rfl, rfl⟩))
    go_ret
    exact ⟨ret_int' (by omega), rfl⟩
end Go.Proofs.YtfkogbomijonjaaGreatDoor
