/- The contracts of the document's own Bit and Raw; Bit of a natural number; the helper made of the laws. -/
import Derived.Test.YtgjkhbognenajaaGreatDoorRf
namespace Go.Proofs.YtgjkhbognenajaaGreatDoor
open Go Go.RowKit Gu

/-- a binary digit, 0 for a negative place -/
def bitN (n : Nat) (i : Int) : Nat := if i < 0 then 0 else dg 2 n i.toNat
set_option maxHeartbeats 1000000 in
theorem RBit_any (v : Value) (n : Nat) (i : Int) (w : World) (hv : R w v n) (hi : i ≤ 9223372036854775807) (hn : nd 65536 n ≤ 1048576) :
    Calls Tryz.prog 35 #[v, .int .i64 i] w fun e w' => e = .returned (.int .i64 (bitN n i)) ∧ Below w.heap.size w w' := by
  obtain ⟨ao, ac, rfl, hcv⟩ := hv.shape
  clear hv
  by_cases h0 : i < 0
  · have HN : Hid (bitN n i = 0) := if_pos h0
    clear hcv
    go_enter Tryz.func35, Tryz.ntmps35
    go_wp2
    go_ret
    exact ⟨by rw [HN.out]; rfl, Below.refl _ _⟩
  · obtain ⟨j, rfl⟩ : ∃ j : Nat, i = j := ⟨i.toNat, by omega⟩
    have HN : Hid (bitN n j = dg 2 n j) := by show _ = _; rw [bitN, if_neg h0, Int.toNat_natCast]
    have HT := Lib.hid (dg_two 16 n j (by decide))
    rw [show (2 ^ 16 : Nat) = 65536 from by decide] at HT
    by_cases hj : j < 16 * nd 65536 n
    · obtain ⟨gb, go, rfl, hca⟩ := hcv (j / 16) (by omega)
      have hjl : (j : Int) < 16 * ((nd 65536 n : Nat) : Int) := by omega
      obtain ⟨q, hqd⟩ : ∃ q, j / 16 = q := ⟨_, rfl⟩
      obtain ⟨r, hrd⟩ : ∃ r, j % 16 = r := ⟨_, rfl⟩
      rw [hqd] at HT hca
      rw [hrd] at HT
      have hq : (j : Int) / 16 = q := by omega
      have hr : (j : Int) % 16 = r := by omega
      have HP := Lib.hid (fun w => power_any r w (by omega))
      have hd := dg_lt (B := 65536) (by decide) n q
      have hpp : 0 < 2 ^ r := Nat.pow_pos (by decide)
      have hpl : 2 ^ r ≤ 65536 := Nat.le_trans (Nat.pow_le_pow_right (by decide) (show r ≤ 16 by omega)) (by decide)
      have hql : (q : Int) < ((nd 65536 n : Nat) : Int) := by omega
      clear hcv h0 hqd hrd
      generalize dg 65536 n q = d at *
      generalize 2 ^ r = p at *
      have HE : Hid ((wrap64 ((d : Int) / (p : Int))).tmod 2 = ((dg 2 n j : Nat) : Int)) := by
        show _ = _
        have e1 : (d : Int) / p = ((d / p : Nat) : Int) := by rw [Int.natCast_ediv]
        have e2 : d / p ≤ d := Nat.div_le_self _ _
        rw [e1, HT.out]
        generalize d / p = x at *
        rw [IntWalk.wrap64_in _ (by omega), Int.tmod_eq_emod_of_nonneg (by omega)]
        omega
      have hp0 : ¬ (p : Int) = 0 := by omega
      go_enter Tryz.func35, Tryz.ntmps35
      go_wp2_with fail
      go_quiet (first | (go_at_call 40; exact Calls.quiet_of_same ((HP.out _).mono fun _ _ ⟨h, h'⟩ => ⟨h, h'.symm⟩)))
      go_wp2
      rw [HE.out]
      go_ret
      exact ⟨by rw [HN.out]; rfl, below_drewN (Below.refl _ _) _⟩
    · have hjl : ¬ (j : Int) < 16 * ((nd 65536 n : Nat) : Int) := by omega
      have hz : dg 2 n j = 0 := by
        refine dg_high (B := 2) (k := 16 * nd 65536 n) (by decide) ?_ (by omega)
        have := nd_lt (by decide : 2 ≤ 65536) n
        rw [Nat.pow_mul]; exact this
      have HZ := Lib.hid hz
      clear hcv hz
      go_enter Tryz.func35, Tryz.ntmps35
      go_wp2
      go_ret
      exact ⟨by rw [HN.out, HZ.out]; rfl, Below.refl _ _⟩
theorem lt_ten {n t : Nat} (h : nd 65536 n ≤ 3 * t) : n < 10 ^ (15 * t) := by
  have h1 := (nd_le (by decide : 2 ≤ 65536)).1 h
  rw [Nat.pow_mul] at h1 ⊢
  exact Nat.lt_of_lt_of_le h1 (Nat.pow_le_pow_left (by decide) _)
theorem fit_len {n m : Nat} (h : nd 65536 n ≤ m) : nd 2 n ≤ 16 * m := by
  have h1 := (nd_le (by decide : 2 ≤ 65536)).1 h
  apply (nd_le (by decide : 2 ≤ 2)).2
  rw [Nat.pow_mul]
  exact h1
theorem fit_ok {n : Nat} (h : nd 65536 n ≤ 1024) : nd 2 n ≤ 16384 := fit_len h
theorem nd_32 {n m : Nat} (h : nd 65536 n ≤ m) : nd 4294967296 n ≤ m := by
  have h1 := (nd_le (by decide : 2 ≤ 65536)).1 h
  exact (nd_le (by decide : 2 ≤ 4294967296)).2 (Nat.lt_of_lt_of_le h1 (Nat.pow_le_pow_left (by decide) _))
end Go.Proofs.YtgjkhbognenajaaGreatDoor
