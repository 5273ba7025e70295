/- The contract of the document's own BitLen. -/
import Derived.Test.YtgjkhbognenajaaGreatDoorRb
namespace Go.Proofs.YtgjkhbognenajaaGreatDoor
open Go Go.RowKit Gu

theorem nd_half {x : Nat} (h : 0 < x) : nd 2 x = nd 2 (x / 2) + 1 := by
  unfold nd; rw [digs_pos (by decide) h]; rfl
theorem bits_16 {n : Nat} (h : 0 < n) : nd 2 n = 16 * (nd 65536 n - 1) + nd 2 (dg 65536 n (nd 65536 n - 1)) := by
  have hB : 2 ≤ 65536 := by decide
  obtain ⟨k, hk⟩ : ∃ k, nd 65536 n = k + 1 := ⟨nd 65536 n - 1, by have := nd_pos hB h; omega⟩
  have ht := dg_top hB h
  rw [hk, Nat.add_sub_cancel] at ht ⊢
  have hl := nd_lt (by decide : 2 ≤ 2) (dg 65536 n k)
  have hp := nd_pow_le (by decide : 2 ≤ 2) ht
  have h0 := nd_pos (by decide : 2 ≤ 2) ht
  generalize hL : nd 2 (dg 65536 n k) = L at *
  obtain ⟨M, rfl⟩ : ∃ M, L = M + 1 := ⟨L - 1, by omega⟩
  rw [Nat.add_sub_cancel] at hp
  have := bits_top (s := 16) (by decide) hk hp hl
  rw [this]; rfl
set_option maxHeartbeats 400000 in
theorem RBitLen_any (v : Value) (n : Nat) (w : World) (hv : R w v n) (hn : nd 65536 n ≤ 1048576) :
    Calls Tryz.prog 33 #[v] w fun e w' => e = .returned (.int .i64 (nd 2 n)) ∧ w = w' := by
  rcases hv with ⟨h0, ao, cap, rfl⟩ | ⟨h0, b, o, cap, rfl, hc⟩
  · subst h0
    rw [nd_zero]
    go_enter Tryz.func33, Tryz.ntmps33
    go_wp2
    go_ret
    exact ⟨rfl, rfl⟩
  · have hp := nd_pos (by decide : 2 ≤ 65536) h0
    have hcell := hc (nd 65536 n - 1) (by omega)
    have hbits := bits_16 h0
    have hlt := dg_lt (B := 65536) (by decide) n (nd 65536 n - 1)
    rw [hbits]
    clear hc hbits
    generalize dg 65536 n (nd 65536 n - 1) = t at *
    generalize nd 65536 n = m at *
    have ht16 : nd 2 t ≤ 16 := (nd_le (by decide)).2 (by omega)
    go_enter Tryz.func33, Tryz.ntmps33
    go_wp2
    go_loop [3, 4] (fun c x => ∃ y k : Nat, y ≤ t ∧ k ≤ 16 ∧ c = .int .i64 ((16 * (m - 1) + k : Nat) : Int) ∧ x = .int .i64 y ∧ Hid (nd 2 t = k + nd 2 y)) (fun _ x => (intOf x).toNat)
    case atStart => exact ⟨t, 0, Nat.le_refl _, by omega, by go_num, rfl, (Nat.zero_add _).symm⟩
    case round =>
      obtain ⟨y, k, hy, hk, rfl, rfl, HY⟩ := hrel
      rcases Nat.eq_zero_or_pos y with hy0 | hy0
      · subst hy0
        go_wp2
        go_ret
        exact ⟨ret_int' (by rw [HY.out, nd_zero]; omega), rfl⟩
      · have hy0' : (0 : Int) < y := by omega
        have HN : Hid (nd 2 t = (k + 1) + nd 2 (y / 2)) := by have := HY.out; have h2 := nd_half hy0; show _ = _; omega
        have hk1 : k + 1 ≤ 16 := by have := HN.out; omega
        go_wp2
        go_round
        case rel => exact ⟨y / 2, k + 1, by omega, hk1, by go_num, by go_num, HN⟩
        case measure => simp [intOf]; omega
end Go.Proofs.YtgjkhbognenajaaGreatDoor
