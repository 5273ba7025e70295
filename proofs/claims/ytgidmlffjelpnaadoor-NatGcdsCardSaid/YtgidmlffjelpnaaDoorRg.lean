/- The contracts of the document's own Bit and Raw; Bit of a natural number; the helper made of the laws. -/
import Derived.Test.YtgidmlffjelpnaaDoorRf
namespace Go.Proofs.YtgidmlffjelpnaaDoor
open Go Go.RowKit Gu

/-- a binary digit, 0 for a negative place -/
def bitN (n : Nat) (i : Int) : Nat := if i < 0 then 0 else dg 2 n i.toNat
theorem Bit_any (v : Value) (n : Nat) (i : Int) (w : World) (hv : D w v n) (hi : i ≤ 9223372036854775807) (hn : nd 4294967296 n ≤ 1048576) :
    Calls Tryd.prog 41 #[.agg #[v], .int .i64 i] w fun e w' => e = .returned (.int .i64 (bitN n i)) ∧ Below w.heap.size w w' := by
  have b1 : ∀ o, Below w.heap.size w (w.alloc o) := fun o => (Below.refl _ _).alloc (Nat.le_refl _) _
  by_cases h0 : i < 0
  · have HN : Hid (bitN n i = 0) := if_pos h0
    obtain ⟨ao, ac, rfl, -⟩ := hv.shape
    have HB := Lib.hid b1
    clear hv b1
    go_enter Tryd.func41, Tryd.ntmps41
    go_wp2
    go_ret
    exact ⟨by rw [HN.out]; rfl, HB.out _⟩
  · obtain ⟨j, rfl⟩ : ∃ j : Nat, i = j := ⟨i.toNat, by omega⟩
    have HN : Hid (bitN n j = dg 2 n j) := by show _ = _; rw [bitN, if_neg h0, Int.toNat_natCast]
    have HL := Lib.hid (fun o => bit_any v n j (w.alloc o) (hv.below (b1 o)) (by omega) hn)
    obtain ⟨ao, ac, rfl, -⟩ := hv.shape
    have HB := Lib.hid b1
    clear hv b1
    go_enter Tryd.func41, Tryd.ntmps41
    go_wp2_with fail
    refine (HL.out _).mono ?_
    rintro e w1 ⟨rfl, rfl⟩
    go_wp2
    go_ret
    exact ⟨by rw [HN.out]; rfl, HB.out _⟩
set_option maxHeartbeats 1000000 in
theorem RBit_any (v : Value) (n : Nat) (i : Int) (w : World) (hv : R w v n) (hi : i ≤ 9223372036854775807) (hn : nd 65536 n ≤ 1048576) :
    Calls Tryd.prog 59 #[v, .int .i64 i] w fun e w' => e = .returned (.int .i64 (bitN n i)) ∧ Below w.heap.size w w' := by
  obtain ⟨ao, ac, rfl, hcv⟩ := hv.shape
  clear hv
  by_cases h0 : i < 0
  · have HN : Hid (bitN n i = 0) := if_pos h0
    clear hcv
    go_enter Tryd.func59, Tryd.ntmps59
    go_wp2
    go_ret
    exact ⟨by rw [HN.out]; rfl, Below.refl _ _⟩
  · obtain ⟨j, rfl⟩ : ∃ j : Nat, i = j := ⟨i.toNat, by omega⟩
    have HN : Hid (bitN n j = dg 2 n j) := by show _ = _; rw [bitN, if_neg h0, Int.toNat_natCast]
    have HT := Lib.hid (dg_two 16 n j (by decide))
    rw [show (2 ^ 16 : Nat) = 65536 from by decide] at HT
    by_cases hj : j < 16 * nd 65536 n
    · obtain ⟨gb, go, rfl, hca⟩ := hcv (j / 16) (by omega)
      have hjl : (j : Int) < 16 * ((nd 65536 n : Nat) : Int) := by omega
      obtain ⟨q, hqd⟩ : ∃ q, j / 16 = q := ⟨_, rfl⟩
      obtain ⟨r, hrd⟩ : ∃ r, j % 16 = r := ⟨_, rfl⟩
      rw [hqd] at HT hca
      rw [hrd] at HT
      have hq : (j : Int) / 16 = q := by omega
      have hr : (j : Int) % 16 = r := by omega
      have HP := Lib.hid (fun w => power_any r w (by omega))
      have hd := dg_lt (B := 65536) (by decide) n q
      have hpp : 0 < 2 ^ r := Nat.pow_pos (by decide)
      have hpl : 2 ^ r ≤ 65536 := Nat.le_trans (Nat.pow_le_pow_right (by decide) (show r ≤ 16 by omega)) (by decide)
      have hql : (q : Int) < ((nd 65536 n : Nat) : Int) := by omega
      clear hcv h0 hqd hrd
      generalize dg 65536 n q = d at *
      generalize 2 ^ r = p at *
      have HE : Hid ((wrap64 ((d : Int) / (p : Int))).tmod 2 = ((dg 2 n j : Nat) : Int)) := by
        show _ = _
        have e1 : (d : Int) / p = ((d / p : Nat) : Int) := by rw [Int.natCast_ediv]
        have e2 : d / p ≤ d := Nat.div_le_self _ _
        rw [e1, HT.out]
        generalize d / p = x at *
        rw [IntWalk.wrap64_in _ (by omega), Int.tmod_eq_emod_of_nonneg (by omega)]
        omega
      have hp0 : ¬ (p : Int) = 0 := by omega
      go_enter Tryd.func59, Tryd.ntmps59
      go_wp2_with fail
      go_quiet (first | (go_at_call 71; exact Calls.quiet_of_same ((HP.out _).mono fun _ _ ⟨h, h'⟩ => ⟨h, h'.symm⟩)))
      go_wp2
      rw [HE.out]
      go_ret
      exact ⟨by rw [HN.out]; rfl, below_drewN (Below.refl _ _) _⟩
    · have hjl : ¬ (j : Int) < 16 * ((nd 65536 n : Nat) : Int) := by omega
      have hz : dg 2 n j = 0 := by
        refine dg_high (B := 2) (k := 16 * nd 65536 n) (by decide) ?_ (by omega)
        have := nd_lt (by decide : 2 ≤ 65536) n
        rw [Nat.pow_mul]; exact this
      have HZ := Lib.hid hz
      clear hcv hz
      go_enter Tryd.func59, Tryd.ntmps59
      go_wp2
      go_ret
      exact ⟨by rw [HN.out, HZ.out]; rfl, Below.refl _ _⟩
theorem lt_ten {n t : Nat} (h : nd 65536 n ≤ 3 * t) : n < 10 ^ (15 * t) := by
  have h1 := (nd_le (by decide : 2 ≤ 65536)).1 h
  rw [Nat.pow_mul] at h1 ⊢
  exact Nat.lt_of_lt_of_le h1 (Nat.pow_le_pow_left (by decide) _)
theorem fit_len {n m : Nat} (h : nd 65536 n ≤ m) : nd 2 n ≤ 16 * m := by
  have h1 := (nd_le (by decide : 2 ≤ 65536)).1 h
  apply (nd_le (by decide : 2 ≤ 2)).2
  rw [Nat.pow_mul]
  exact h1
theorem fit_ok {n : Nat} (h : nd 65536 n ≤ 1024) : nd 2 n ≤ 16384 := fit_len h
theorem nd_32 {n m : Nat} (h : nd 65536 n ≤ m) : nd 4294967296 n ≤ m := by
  have h1 := (nd_le (by decide : 2 ≤ 65536)).1 h
  exact (nd_le (by decide : 2 ≤ 4294967296)).2 (Nat.lt_of_lt_of_le h1 (Nat.pow_le_pow_left (by decide) _))
theorem made_any (v : Value) (n : Nat) (w : World) (hv : R w v n) (hn : nd 65536 n ≤ 1024) :
    Calls Tryd.prog 16 #[v] w fun e w' => ∃ r, e = .returned (.tuple #[.agg #[r], .bool true]) ∧ D w' r n ∧ Below w.heap.size w w' := by
  have hlen := dec_len_le (by decide) (lt_ten (t := 342) (by omega : nd 65536 n ≤ 3 * 342))
  have b1 : ∀ o, Below w.heap.size w (w.alloc o) := fun o => (Below.refl _ _).alloc (Nat.le_refl _) _
  have HT := Lib.hid (fun o => Text_any v n (w.alloc o) (hv.below (b1 o)) (by omega))
  have HP := Lib.hid (fun w => Parse_num ⟨(Lib.decDigits n).toArray⟩ w (by rw [← len_data]; exact Nat.le_trans hlen (by decide)) (isNum_dec n))
  have hsv : sval (Lib.decDigits n) = n := sval_dec n
  have hd : (⟨(Lib.decDigits n).toArray⟩ : ByteArray).data.toList = Lib.decDigits n := rfl
  rw [hd, hsv, show fitE n = 0 from if_pos (fit_ok hn), show fitN n = n from if_pos (fit_ok hn)] at HP
  obtain ⟨S, hS⟩ : ∃ S : ByteArray, S = ⟨(Lib.decDigits n).toArray⟩ := ⟨_, rfl⟩
  rw [← hS] at HT HP
  obtain ⟨ao, ac, rfl, -⟩ := hv.shape
  clear hv hS hsv hd hlen
  go_enter Tryd.func16, Tryd.ntmps16
  go_wp2_with fail
  refine (HT.out _).mono ?_
  rintro e w1 ⟨rfl, hb⟩
  obtain ⟨hc, hf⟩ := bcell hb
  have hz := hb.size
  simp only [World.size_alloc] at hz
  have HB := Lib.hid ((b1 _).trans (hb.mono (by simp)))
  have HC := Lib.hid hb
  clear hb
  go_wp2_with fail
  refine (HP.out _).mono ?_
  rintro e w2 ⟨r, rfl, hr, hb⟩
  obtain ⟨hc2, hf2⟩ := bcell hb
  have hz2 := hb.size
  have HB2 := Lib.hid (HB.out.trans (hb.mono HB.out.size))
  have HD := Lib.hid hr
  obtain ⟨ro, rc, rfl, -⟩ := hr.shape
  have hx : w2.cell? ⟨w.heap.size, 0, none⟩ = some (.slice none 0 0) := ((hc2 _ _ (by omega)).trans (hc _ _ (by simp))).trans (World.cell?_alloc_at _ _ _ _ rfl)
  have hy : w2.frozen? ⟨w.heap.size, 0, none⟩ = false := ((hf2 _ _ (by omega)).trans (hf _ _ (by simp))).trans (by simp)
  have hne : w.heap.size ≠ w2.heap.size := by omega
  have hx2 : ∀ o, (w2.alloc o).cell? ⟨w.heap.size, 0, none⟩ = some (.slice none 0 0) := fun o => (((Below.refl w2.heap.size w2).alloc (Nat.le_refl _) o).cell (p := ⟨w.heap.size, 0, none⟩) (show w.heap.size < w2.heap.size by omega)).trans hx
  have hy2 : ∀ o, (w2.alloc o).frozen? ⟨w.heap.size, 0, none⟩ = false := fun o => (((Below.refl w2.heap.size w2).alloc (Nat.le_refl _) o).frozen (p := ⟨w.heap.size, 0, none⟩) (show w.heap.size < w2.heap.size by omega)).trans hy
  have HX := Lib.hid hx2
  clear hr hb hc hf hc2 hf2
  go_wp2
  refine bodyPost_ret (v := .tuple #[.agg #[.slice ro (nd 4294967296 n) rc], .bool true]) (by simp [results, Tryd.results16, go_sem, hx2]) rfl ⟨_, rfl, (HD.out.below ((Below.refl _ _).alloc (Nat.le_refl _) _)).setCell (HX.out _) (by intro d h; cases h) _, (HB2.out.alloc HB2.out.size _).setCell (Nat.le_refl _) _⟩
end Go.Proofs.YtgidmlffjelpnaaDoor
