/- The contract of the document's own function Binomial. -/
import Derived.Test.YtmbgnkgjmmhncaaDoorSe
import Derived.Test.YtmbgnkgjmmhncaaDoorVc
namespace Go.Proofs.YtmbgnkgjmmhncaaDoor
open Go Go.RowKit Gu

theorem pow_nd16 {x a m : Nat} (h : x < 2 ^ a) (ha : a ≤ 16 * m) : nd 65536 x ≤ m := by
  apply (nd_le (by decide)).2
  rw [show (65536 : Nat) = 2 ^ 16 from by decide, ← Nat.pow_mul]
  exact Nat.lt_of_lt_of_le h (Nat.pow_le_pow_right (by decide) ha)
theorem pascalN_nd16 {n k : Nat} (hn : n ≤ 4096) : nd 65536 (pascalN n k) ≤ 257 := by
  have h := pascalN_le n k
  have h2 : pascalN n k < 2 ^ (n + 1) := by rw [Nat.pow_succ]; have := Nat.pow_pos (n := n) (show 0 < 2 by decide); omega
  exact pow_nd16 h2 (by omega)
theorem nd_rmul' {a b m k : Nat} (ha : nd 65536 a ≤ m) (hb : nd 65536 b ≤ k) : nd 65536 (a * b) ≤ m + k := by
  have h1 := (nd_le (by decide : 2 ≤ 65536)).1 ha
  have h2 := (nd_le (by decide : 2 ≤ 65536)).1 hb
  apply (nd_le (by decide : 2 ≤ 65536)).2
  rw [Nat.pow_add]
  exact Nat.mul_lt_mul_of_lt_of_le h1 (Nat.le_of_lt h2) (Nat.pow_pos (by decide))
/-- what the loop of Binomial keeps -/
def RBinRel (n i : Nat) (w0 : World) (rv : Value) (wr : World) : Prop := R wr rv (pascalN n i) ∧ Below w0.heap.size w0 wr
set_option maxHeartbeats 1000000 in
set_option maxRecDepth 100000 in
theorem RBinomial_any (n k : Nat) (w : World) (hn : n ≤ 4096) (hkb : k ≤ 9223372036854775807) :
    Calls Tryd.prog 31 #[.int .i64 n, .int .i64 k] w fun e w' => ∃ r, e = .returned r ∧ R w' r (pascalN n k) ∧ Below w.heap.size w w' := by
  by_cases hk : n < k
  · have HZ : Hid (pascalN n k = 0) := pascalN_gt hk
    have h1 : (n : Int) < k := by omega
    go_enter Tryd.func31, Tryd.ntmps31
    go_wp2
    go_ret
    exact ⟨_, rfl, by rw [HZ.out]; exact IsN.zero _ _ _ _ _, Below.refl _ _⟩
  have HOF := Lib.hid (fun (x : Nat) w (h : x ≤ 9223372036854775807) => Of_any x w h)
  obtain ⟨m, hm⟩ : ∃ m, m = min k (n - k) := ⟨_, rfl⟩
  have HM : Hid (pascalN n m = pascalN n k) := by show _ = _; rw [hm]; exact pascalN_min (by omega)
  have hmn : m ≤ n := by omega
  have hmi : min (k : Int) ((n : Int) - k) = m := by omega
  have h4 : ¬ ((n : Int) < k) := by omega
  clear hm
  go_enter Tryd.func31, Tryd.ntmps31
  go_wp2_with fail
  refine (HOF.out 1 _ (by decide)).mono ?_
  rintro e w1 ⟨v, rfl, hv, hb⟩
  obtain ⟨vo, vc, rfl, -⟩ := hv.shape
  have HST : Hid (RBinRel n 0 w (.slice vo (nd 65536 1) vc) w1) := ⟨by rw [pascalN_zero]; exact hv, hb⟩
  clear hv hb
  go_wp2

  go_loopw [5, 6] (fun rv t wr => ∃ i : Nat, i ≤ m ∧ t = .int .i64 i ∧ RBinRel n i w rv wr) (fun _ t _ => m - (intOf t).toNat)
  case atStart => exact ⟨0, Nat.zero_le _, rfl, HST.out⟩
  case round =>
    obtain ⟨i, hi, rfl, hrel⟩ := hrel
    have HR := Lib.hid hrel
    obtain ⟨r0, rc, rfl, -⟩ := hrel.1.shape
    clear hrel
    have hci := pascalN_nd16 (n := n) (k := i) hn
    by_cases hlt : i < m
    · have him : (i : Int) < m := by omega
      have hni : (n : Int) - i = ((n - i : Nat) : Int) := by omega
      have HNI := Lib.hid hni
      have HD1 := Lib.hid (HOF.out (n - i) wr (by omega))
      have HP := Lib.hid (fun v W (h1 : R W (.slice r0 (nd 65536 (pascalN n i)) rc) (pascalN n i)) (h2 : R W v (n - i)) => RMul_any _ v _ _ W h1 h2 (by omega) (by have h3 := (nd_le (B := 65536) (n := n - i) (k := 1) (by decide)).2 (by omega); omega))
      have HQ := Lib.hid (fun v W (h1 : R W v (pascalN n i * (n - i))) => Small_any v _ (i + 1) W h1 (by have h3 := nd_rmul' (a := pascalN n i) (b := n - i) (m := 257) (k := 1) hci ((nd_le (by decide)).2 (by omega)); omega) (by omega) (by omega))
      rw [pascalN_div (by omega)] at HQ
      clear hni
      go_wp2_with fail
      rw [HNI.out]
      refine HD1.out.mono ?_
      rintro e w2 ⟨dv, rfl, hd, hb2⟩
      obtain ⟨d0, dc, rfl, -⟩ := hd.shape
      have HP2 := Lib.hid (HP.out _ _ (HR.out.1.below hb2) hd)
      have HB2 := Lib.hid (HR.out.2.trans (hb2.mono HR.out.2.size))
      clear hd hb2 HP HD1
      go_wp2_with fail
      refine HP2.out.mono ?_
      rintro e w3 ⟨pv, rfl, hp, hb3⟩
      obtain ⟨p0, pc, rfl, -⟩ := hp.shape
      have HQ2 := Lib.hid (HQ.out _ _ hp)
      have HB3 := Lib.hid (HB2.out.trans (hb3.mono HB2.out.size))
      clear hp hb3 HP2 HQ HB2
      go_wp2_with fail
      refine HQ2.out.mono ?_
      rintro e w4 ⟨qv, rfl, hq, hb4, -⟩
      obtain ⟨q0, qc, rfl, -⟩ := hq.shape
      have HN : Hid (RBinRel n (i + 1) w (.slice q0 (nd 65536 (pascalN n (i + 1))) qc) w4) := ⟨hq, HB3.out.trans (hb4.mono HB3.out.size)⟩
      clear hq hb4 HQ2 HB3 HR
      go_wp2
      go_roundw
      case rel => exact ⟨i + 1, by omega, by go_num, HN.out⟩
      case measure => simp [intOf]; omega
    · obtain rfl : i = m := by omega
      clear hlt hci
      go_wp2
      go_ret
      exact ⟨_, rfl, by rw [← HM.out]; exact HR.out.1, HR.out.2⟩
end Go.Proofs.YtmbgnkgjmmhncaaDoor
