/- The contracts of trim and digitsOf. -/
import Derived.Test.YtfkogbomijonjaaGreatDoorWa
namespace Go.Proofs.YtfkogbomijonjaaGreatDoor
open Go Go.RowKit Gu

theorem ret_slice {a : Option Addr} {l c l' c' : Nat} (h : l = l') (h' : c = c') : Ending.returned (.slice a l c) = .returned (.slice a l' c') := by rw [h, h']

theorem ret_int' {k : IntKind} {a b : Int} (h : a = b) : Ending.returned (.int k a) = .returned (.int k b) := by rw [h]

set_option maxHeartbeats 400000 in
theorem trim_any (g m cap x : Nat) (w : World) (hc : ∀ i, i < m → w.cell? ⟨g, i, none⟩ = some (.int .u32 (dg 4294967296 x i : Nat))) (hx : x < 4294967296 ^ m) (hm : m ≤ 4611686018427387904) (hcap : m ≤ cap) :
    Calls Tryz.prog 55 #[.slice (some ⟨g, 0, none⟩) m cap] w fun e w' => e = .returned (.slice (some ⟨g, 0, none⟩) (nd 4294967296 x) (nd 4294967296 x)) ∧ w = w' := by
  have hB : 2 ≤ 4294967296 := by decide
  have hle : nd 4294967296 x ≤ m := (nd_le hB).2 hx
  go_enter Tryz.func55, Tryz.ntmps55
  go_wp2
  go_loop [3] (fun n => ∃ k : Nat, nd 4294967296 x ≤ k ∧ k ≤ m ∧ n = .int .i64 k) (fun n => (intOf n).toNat)
  case atStart => exact ⟨m, hle, Nat.le_refl _, rfl⟩
  case round =>
    obtain ⟨k, hk1, hk2, rfl⟩ := hrel
    rcases Nat.eq_or_lt_of_le hk1 with hk | hk
    · have HK := Lib.hid hk
      rcases Nat.eq_zero_or_pos k with h0 | h0
      · subst h0
        clear hk hc
        go_wp2
        go_ret
        exact ⟨ret_slice HK.out.symm HK.out.symm, rfl⟩
      · have htop : 0 < dg 4294967296 x (k - 1) := by
          rw [← hk]; exact dg_top hB (by rcases Nat.eq_zero_or_pos x with h | h; (subst h; rw [nd_zero] at hk; omega); exact h)
        have hcell := hc (k - 1) (by omega)
        generalize dg 4294967296 x (k - 1) = t at *
        clear hk hc
        go_wp2
        go_ret
        exact ⟨ret_slice HK.out.symm HK.out.symm, rfl⟩
    · have hz : dg 4294967296 x (k - 1) = 0 := dg_high (by decide) (nd_lt hB x) (by omega)
      have hcell := hc (k - 1) (by omega)
      rw [hz] at hcell
      clear hz hc
      go_wp2
      go_round
      case rel => exact ⟨k - 1, by omega, by omega, by go_num⟩
      case measure => simp [intOf]; omega
end Go.Proofs.YtfkogbomijonjaaGreatDoor
