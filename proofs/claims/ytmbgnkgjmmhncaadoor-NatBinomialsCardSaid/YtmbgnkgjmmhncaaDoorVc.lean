/- The contract of Binomial. -/
import Derived.Test.YtmbgnkgjmmhncaaDoorChs
import Derived.Test.YtmbgnkgjmmhncaaDoorWm
namespace Go.Proofs.YtmbgnkgjmmhncaaDoor
open Go Go.RowKit Gu

theorem pow_nd {x a m : Nat} (h : x < 2 ^ a) (ha : a ≤ 32 * m) : nd 4294967296 x ≤ m := by
  apply (nd_le (by decide)).2
  rw [show (4294967296 : Nat) = 2 ^ 32 from by decide, ← Nat.pow_mul]
  exact Nat.lt_of_lt_of_le h (Nat.pow_le_pow_right (by decide) ha)
theorem pascalN_nd {n k : Nat} (hn : n ≤ 4096) : nd 4294967296 (pascalN n k) ≤ 129 ∧ nd 2 (pascalN n k) ≤ 4097 := by
  have h := pascalN_le n k
  have h2 : pascalN n k < 2 ^ (n + 1) := by rw [Nat.pow_succ]; have := Nat.pow_pos (n := n) (show 0 < 2 by decide); omega
  have h3 : nd 2 (pascalN n k) ≤ n + 1 := (nd_le (by decide)).2 h2
  refine ⟨?_, by omega⟩
  exact pow_nd h2 (by omega)
def binE (n k : Int) : Int := if n < 0 ∨ 4096 < n ∨ k < 0 then 2 else 0
def binN (n k : Int) : Nat := if n < 0 ∨ 4096 < n ∨ k < 0 then 0 else pascalN n.toNat k.toNat
/-- what the loop of Binomial keeps -/
def BinRel (n i : Nat) (w0 : World) (rv : Value) (wr : World) : Prop := D wr rv (pascalN n i) ∧ Below w0.heap.size w0 wr
set_option maxHeartbeats 1000000 in
set_option maxRecDepth 100000 in
theorem Binomial_pos (n k : Nat) (w : World) (hn : n ≤ 4096) (hk : k ≤ n) :
    Calls Tryd.prog 30 #[.int .i64 n, .int .i64 k] w fun e w' => ∃ r, e = .returned (.tuple #[.agg #[r], .int .i64 0]) ∧ D w' r (pascalN n k) ∧ Below w.heap.size w w' := by
  have HDO := Lib.hid (fun (x : Nat) w (h : x < 2 ^ 64) => digitsOf_any x w h)
  obtain ⟨m, hm⟩ : ∃ m, m = min k (n - k) := ⟨_, rfl⟩
  have HM : Hid (pascalN n m = pascalN n k) := by show _ = _; rw [hm]; exact pascalN_min hk
  have hmn : m ≤ n := by omega
  have hmi : min (k : Int) ((n : Int) - k) = m := by omega
  have h1 : ¬ ((n : Int) < 0) := by omega
  have h2 : ¬ ((4096 : Int) < n) := by omega
  have h3 : ¬ ((k : Int) < 0) := by omega
  have h4 : ¬ ((n : Int) < k) := by omega
  clear hm
  go_enter Tryd.func30, Tryd.ntmps30
  go_wp2_with fail
  refine (HDO.out 1 _ (by decide)).mono ?_
  rintro e w1 ⟨v, rfl, hv, hb⟩
  obtain ⟨vo, vc, rfl, -⟩ := hv.shape
  have HST : Hid (BinRel n 0 (w.alloc (.cells #[.slice none 0 0] 28)) (.slice vo (nd 4294967296 1) vc) w1) := ⟨by rw [pascalN_zero]; exact hv, hb⟩
  have HB0 : Hid (Below w.heap.size w (w.alloc (.cells #[.slice none 0 0] 28))) := (Below.refl _ _).alloc (Nat.le_refl _) _
  clear hv hb
  go_wp2
  go_loopw [6, 29] (fun rv t wr => ∃ i : Nat, i ≤ m ∧ t = .int .i64 i ∧ BinRel n i (w.alloc (.cells #[.slice none 0 0] 28)) rv wr) (fun _ t _ => m - (intOf t).toNat)
  case atStart => exact ⟨0, Nat.zero_le _, rfl, HST.out⟩
  case round =>
    obtain ⟨i, hi, rfl, hrel⟩ := hrel
    have HR := Lib.hid hrel
    obtain ⟨r0, rc, rfl, -⟩ := hrel.1.shape
    clear hrel
    have hci := pascalN_nd (n := n) (k := i) hn
    have hnd := Lib.hid hci.1
    by_cases hlt : i < m
    · have him : (i : Int) < m := by omega
      have hni : (n : Int) - i = ((n - i : Nat) : Int) := by omega
      have HNI := Lib.hid hni
      have HD1 := Lib.hid (HDO.out (n - i) wr (by omega))
      have HP := Lib.hid (fun v W (h1 : D W (.slice r0 (nd 4294967296 (pascalN n i)) rc) (pascalN n i)) (h2 : D W v (n - i)) => product_any _ v _ _ W h1 h2 (by omega) (by have h3 := (nd_le (B := 4294967296) (n := n - i) (k := 1) (by decide)).2 (by omega); omega))
      have HQ := Lib.hid (fun v W (h1 : D W v (pascalN n i * (n - i))) => divideByDigit_any v _ (i + 1) W h1 (by have h3 := nd_mul (a := pascalN n i) (b := n - i) (m := 129) (k := 1) hci.1 ((nd_le (by decide)).2 (by omega)); omega) (by omega) (by omega))
      rw [pascalN_div (by omega)] at HQ
      clear hni
      go_wp2_with fail
      rw [HNI.out]
      refine HD1.out.mono ?_
      rintro e w2 ⟨dv, rfl, hd, hb2⟩
      obtain ⟨d0, dc, rfl, -⟩ := hd.shape
      have HP2 := Lib.hid (HP.out _ _ (HR.out.1.below hb2) hd)
      have HB2 := Lib.hid (HR.out.2.trans (hb2.mono HR.out.2.size))
      clear hd hb2 HP HD1
      go_wp2_with fail
      refine HP2.out.mono ?_
      rintro e w3 ⟨pv, rfl, hp, hb3⟩
      obtain ⟨p0, pc, rfl, -⟩ := hp.shape
      have HQ2 := Lib.hid (HQ.out _ _ hp)
      have HB3 := Lib.hid (HB2.out.trans (hb3.mono HB2.out.size))
      clear hp hb3 HP2 HQ HB2
      go_wp2_with fail
      refine HQ2.out.mono ?_
      rintro e w4 ⟨qv, rfl, hq, hb4⟩
      obtain ⟨q0, qc, rfl, -⟩ := hq.shape
      have HN : Hid (BinRel n (i + 1) (w.alloc (.cells #[.slice none 0 0] 28)) (.slice q0 (nd 4294967296 (pascalN n (i + 1))) qc) w4) := ⟨hq, HB3.out.trans (hb4.mono HB3.out.size)⟩
      clear hq hb4 HQ2 HB3 HR
      go_wp2
      go_roundw
      case rel => exact ⟨i + 1, by omega, by go_num, HN.out⟩
      case measure => simp [intOf]; omega
    · obtain rfl : i = m := by omega
      have HF := Lib.hid (fitting_any (.slice r0 (nd 4294967296 (pascalN n i)) rc) (pascalN n i) wr HR.out.1 (by omega))
      have hfe : fitE (pascalN n i) = 0 ∧ fitN (pascalN n i) = pascalN n i := ⟨if_pos (by omega), if_pos (by omega)⟩
      rw [hfe.1, hfe.2] at HF
      clear hfe hlt hci
      obtain ⟨c, hc⟩ : ∃ c, c = pascalN n i := ⟨_, rfl⟩
      have HC := Lib.hid hc
      rw [← hc] at HF ⊢
      clear hc
      go_wp2_with fail
      refine HF.out.mono ?_
      rintro e w2 ⟨fv, rfl, hfv, hb2⟩
      obtain ⟨f0, fc, rfl, -⟩ := hfv.shape
      have hbb := HR.out.2.trans (hb2.mono HR.out.2.size)
      have hcell : w2.cell? ⟨w.heap.size, 0, none⟩ = some (.slice none 0 0) := (hbb.cell (p := ⟨w.heap.size, 0, none⟩) (by simp)).trans (World.cell?_alloc_at _ _ _ _ rfl)
      have hfr : w2.frozen? ⟨w.heap.size, 0, none⟩ = false := (hbb.frozen (p := ⟨w.heap.size, 0, none⟩) (by simp)).trans (World.frozen?_alloc_at _ _ _ _ rfl)
      have HV := Lib.hid hfv
      have HCE := Lib.hid hcell
      have HBE := Lib.hid (HB0.out.trans (hbb.mono HB0.out.size))
      clear hfv hb2 hbb
      go_wp2
      refine bodyPost_ret (v := .tuple #[.agg #[.slice f0 (nd 4294967296 c) fc], .int .i64 0]) (by simp [results, Tryd.results30, go_sem, hcell]) rfl ⟨_, rfl, by rw [← HM.out, ← HC.out]; exact HV.out.setCell HCE.out (by intro d h; cases h) _, HBE.out.setCell (Nat.le_refl _) _⟩
set_option maxHeartbeats 1000000 in
theorem Binomial_any (n k : Int) (w : World) (hn : n ≤ 9223372036854775807) (hk : k ≤ 9223372036854775807) :
    Calls Tryd.prog 30 #[.int .i64 n, .int .i64 k] w fun e w' => ∃ r, e = .returned (.tuple #[.agg #[r], .int .i64 (binE n k)]) ∧ D w' r (binN n k) ∧ Below w.heap.size w w' := by
  by_cases hbad : n < 0 ∨ 4096 < n ∨ k < 0
  · rw [show binE n k = 2 from if_pos hbad, show binN n k = 0 from if_pos hbad]
    have hb : ∀ o, Below w.heap.size w (w.alloc o) := fun o => (Below.refl _ _).alloc (Nat.le_refl _) _
    have HB := Lib.hid hb
    clear hb
    by_cases h1 : n < 0
    · clear hbad
      go_enter Tryd.func30, Tryd.ntmps30
      go_wp2
      refine bodyPost_ret (v := .tuple #[.agg #[.slice none 0 0], .int .i64 2]) (by simp [results, Tryd.results30, go_sem]) rfl ⟨_, rfl, IsN.zero _ _ _ _ _, HB.out _⟩
    · by_cases h2 : 4096 < n
      · clear hbad
        go_enter Tryd.func30, Tryd.ntmps30
        go_wp2
        refine bodyPost_ret (v := .tuple #[.agg #[.slice none 0 0], .int .i64 2]) (by simp [results, Tryd.results30, go_sem]) rfl ⟨_, rfl, IsN.zero _ _ _ _ _, HB.out _⟩
      · have h3 : k < 0 := by omega
        clear hbad
        go_enter Tryd.func30, Tryd.ntmps30
        go_wp2
        refine bodyPost_ret (v := .tuple #[.agg #[.slice none 0 0], .int .i64 2]) (by simp [results, Tryd.results30, go_sem]) rfl ⟨_, rfl, IsN.zero _ _ _ _ _, HB.out _⟩
  · rw [show binE n k = 0 from if_neg hbad, show binN n k = pascalN n.toNat k.toNat from if_neg hbad]
    obtain ⟨m, rfl⟩ : ∃ m : Nat, n = m := ⟨n.toNat, by omega⟩
    obtain ⟨j, rfl⟩ : ∃ j : Nat, k = j := ⟨k.toNat, by omega⟩
    rw [Int.toNat_natCast, Int.toNat_natCast]
    by_cases hgt : m < j
    · have HZ : Hid (pascalN m j = 0) := pascalN_gt hgt
      have hb : ∀ o, Below w.heap.size w (w.alloc o) := fun o => (Below.refl _ _).alloc (Nat.le_refl _) _
      have HB := Lib.hid hb
      have h1 : ¬ ((m : Int) < 0) := by omega
      have h2 : ¬ ((4096 : Int) < m) := by omega
      have h3 : ¬ ((j : Int) < 0) := by omega
      have h4 : (m : Int) < j := by omega
      clear hb hbad
      go_enter Tryd.func30, Tryd.ntmps30
      go_wp2
      refine bodyPost_ret (v := .tuple #[.agg #[.slice none 0 0], .int .i64 0]) (by simp [results, Tryd.results30, go_sem]) rfl ⟨_, rfl, by rw [HZ.out]; exact IsN.zero _ _ _ _ _, HB.out _⟩
    · exact Binomial_pos m j w (by omega) (by omega)
end Go.Proofs.YtmbgnkgjmmhncaaDoor
