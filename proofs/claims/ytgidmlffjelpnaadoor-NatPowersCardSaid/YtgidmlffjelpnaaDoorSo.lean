/- The contract of the document's own Pow. -/
import Derived.Test.YtgidmlffjelpnaaDoorLd
namespace Go.Proofs.YtgidmlffjelpnaaDoor
open Go Go.RowKit Gu

theorem nd_two_16 {a m : Nat} (ha : nd 2 a ≤ m) : nd 65536 a ≤ m := by
  have h1 := (nd_le (by decide : 2 ≤ 2)).1 ha
  exact (nd_le (by decide : 2 ≤ 65536)).2 (Nat.lt_of_lt_of_le h1 (Nat.pow_le_pow_left (by decide) _))
set_option maxHeartbeats 1000000 in
theorem RPow_unit (v : Value) (a n : Nat) (w : World) (hv : R w v a) (ha : nd 65536 a ≤ 1000) (h : n = 0 ∨ a = 1) :
    Calls Tryd.prog 20 #[v, .int .i64 n] w fun e w' => ∃ r, e = .returned (.tuple #[r, .bool true]) ∧ R w' r 1 ∧ Below w.heap.size w w' := by
  by_cases h0 : n = 0
  · subst h0
    obtain ⟨ao, ac, rfl, -⟩ := hv.shape
    clear hv h
    generalize nd 65536 a = la at *
    go_enter Tryd.func20, Tryd.ntmps20
    go_wp2_with fail
    refine (Of_any 1 _ (by decide)).mono ?_
    rintro e w1 ⟨r, rfl, hr, hb⟩
    have HR := Lib.hid hr; have HB := Lib.hid hb
    clear hr hb
    go_wp2
    go_ret2
    exact ⟨_, rfl, HR.out, HB.out⟩
  · have h1 : a = 1 := by omega
    have hq : ((n : Int) == 0) = false := beq_eq_false_iff_ne.2 (by omega)
    have HV := Lib.hid hv
    obtain ⟨ao, ac, rfl, -⟩ := hv.shape
    have HC := Lib.hid (fun u W (h1 : R W (.slice ao (nd 65536 a) ac) a) (h2 : R W u 1) => RCmp_any _ u a 1 W h1 h2 (by omega) (by have := nd_le_self16 (n := 1) (by decide); omega))
    rw [show cmpN ((a : Nat) : Int) ((1 : Nat) : Int) = 0 from cmpN_eq (by omega)] at HC
    clear hv h h0 h1
    generalize nd 65536 a = la at *
    go_enter Tryd.func20, Tryd.ntmps20
    go_wp2_with fail
    refine (Of_any 1 _ (by decide)).mono ?_
    rintro e w1 ⟨r, rfl, hr, hb⟩
    have HC1 := Lib.hid (HC.out r w1 (HV.out.below hb) hr)
    have HB := Lib.hid hb
    clear hr hb
    go_wp2_with fail
    refine HC1.out.mono ?_
    rintro e w2 ⟨rfl, k, rfl⟩
    have HB1 := Lib.hid (below_drewN HB.out k)
    go_wp2_with fail
    refine (Of_any 1 _ (by decide)).mono ?_
    rintro e w3 ⟨r2, rfl, hr, hb⟩
    have HR := Lib.hid hr; have HB2 := Lib.hid (HB1.out.trans (hb.mono HB1.out.size))
    clear hr hb
    go_wp2
    go_ret2
    exact ⟨_, rfl, HR.out, HB2.out⟩
set_option maxHeartbeats 1000000 in
theorem RPow_zero (v : Value) (n : Nat) (w : World) (hv : R w v 0) (hn : 0 < n) :
    Calls Tryd.prog 20 #[v, .int .i64 n] w fun e w' => ∃ r, e = .returned (.tuple #[r, .bool true]) ∧ R w' r 0 ∧ Below w.heap.size w w' := by
  have hq : ((n : Int) == 0) = false := beq_eq_false_iff_ne.2 (by omega)
  have HC := Lib.hid (fun u W (h1 : R W v 0) (h2 : R W u 1) => RCmp_any v u 0 1 W h1 h2 (by rw [nd_zero]; omega) (by have := nd_le_self16 (n := 1) (by decide); omega))
  rw [show cmpN ((0 : Nat) : Int) ((1 : Nat) : Int) = -1 from cmpN_lt (by decide)] at HC
  have HV := Lib.hid hv
  obtain ⟨ao, ac, rfl, -⟩ := hv.shape
  rw [nd_zero] at HV HC ⊢
  clear hv
  go_enter Tryd.func20, Tryd.ntmps20
  go_wp2_with fail
  refine (Of_any 1 _ (by decide)).mono ?_
  rintro e w1 ⟨r, rfl, hr, hb⟩
  have HC1 := Lib.hid (HC.out r w1 (HV.out.below hb) hr)
  have HB := Lib.hid hb
  clear hr hb
  go_wp2_with fail
  refine HC1.out.mono ?_
  rintro e w2 ⟨rfl, k, rfl⟩
  have HB1 := Lib.hid (below_drewN HB.out k)
  go_wp2
  go_ret2
  exact ⟨_, rfl, IsN.zero _ _ _ _ _, HB1.out⟩
set_option maxHeartbeats 2000000 in
set_option maxRecDepth 100000 in
theorem RPow_loop (v : Value) (a n : Nat) (w : World) (hv : R w v a) (ha : nd 65536 a ≤ 1000) (ha2 : 2 ≤ a) (hn : 0 < n) (hn2 : n ≤ 9223372036854775807) :
    Calls Tryd.prog 20 #[v, .int .i64 n] w fun e w' => ∃ r b, e = .returned (.tuple #[r, .bool b]) ∧ b = decide (nd 2 (a ^ n) ≤ 16384) ∧ (b = true → R w' r (a ^ n)) ∧ Below w.heap.size w w' := by
  have hq : ((n : Int) == 0) = false := beq_eq_false_iff_ne.2 (by omega)
  have HC := Lib.hid (fun u W (h1 : R W v a) (h2 : R W u 1) => RCmp_any v u a 1 W h1 h2 (by omega) (by have := nd_le_self16 (n := 1) (by decide); omega))
  rw [show cmpN ((a : Nat) : Int) ((1 : Nat) : Int) = 1 from cmpN_gt (by omega)] at HC
  have HV := Lib.hid hv
  have hl0 := nd_pos (B := 65536) (by decide) (show 0 < a by omega)
  have HMO : Hid (∀ i, i ≤ n → nd 2 (a ^ i) ≤ nd 2 (a ^ n)) := fun i hi => nd_mono (by decide) (Nat.pow_le_pow_right (by omega) hi)
  have HMU := Lib.hid (fun o x W (h1 : R W o x) (h2 : R W v a) (h3 : nd 2 x ≤ 16384) => RMul_any o v x a W h1 h2 (by have := nd_two_16 h3; omega) (by omega))
  have HNY : Hid (∀ x, nd 2 x ≤ 16384 → nd 65536 (x * a) ≤ 1048576) := fun x h => by have := nd_rmul (nd_two_16 h) ha; omega
  obtain ⟨ao, ac, rfl, -⟩ := hv.shape
  clear hv ha
  generalize nd 65536 a = la at *
  have hl1 : ¬ ((la : Int) = 0) := by omega
  have hl2 : (((la : Int) == 0)) = false := beq_eq_false_iff_ne.2 (by omega)
  go_enter Tryd.func20, Tryd.ntmps20
  go_wp2_with fail
  refine (Of_any 1 _ (by decide)).mono ?_
  rintro e w1 ⟨r, rfl, hr, hb⟩
  have HC1 := Lib.hid (HC.out r w1 (HV.out.below hb) hr)
  have HB := Lib.hid hb
  clear hr hb HC
  go_wp2_with fail
  refine HC1.out.mono ?_
  rintro e w2 ⟨rfl, k, rfl⟩
  have HB1 := Lib.hid (below_drewN HB.out k)
  go_wp2_with fail
  refine (Of_any 1 _ (by decide)).mono ?_
  rintro e w3 ⟨r2, rfl, hr, hb⟩
  have HR := Lib.hid hr; have HB2 := Lib.hid (HB1.out.trans (hb.mono HB1.out.size))
  clear hr hb HC1 HB1 HB
  go_wp2
  go_loopw [6, 7] (fun o x wr => ∃ i : Nat, i ≤ n ∧ x = .int .i64 i ∧ R wr o (a ^ i) ∧ Hid (nd 2 (a ^ i) ≤ 16384) ∧ Below w.heap.size w wr) (fun _ x _ => n - (intOf x).toNat)
  case atStart => exact ⟨0, Nat.zero_le _, rfl, by rw [Nat.pow_zero]; exact HR.out, by show _ ≤ _; rw [Nat.pow_zero]; exact Nat.le_trans (nd_mono (by decide) (show 1 ≤ 2 ^ 1 - 1 by decide)) (by rw [show nd 2 (2 ^ 1 - 1) = 1 from nd_eq (k := 0) (by decide) (by decide) (by decide)]; decide), HB2.out⟩
  case round =>
    obtain ⟨i, hi, rfl, ho, HX, hbel⟩ := hrel
    have HO := Lib.hid ho; have HBE := Lib.hid hbel
    clear ho hbel
    by_cases hlt : i < n
    · have hlt' : (i : Int) < n := by omega
      have HM1 := Lib.hid (HMU.out _ (a ^ i) wr HO.out (HV.out.below HBE.out) HX.out)
      have HNY1 := Lib.hid (HNY.out _ HX.out)
      have HMO1 := Lib.hid (HMO.out (i + 1) (by omega))
      rw [← Nat.pow_succ] at HM1 HNY1
      go_wp2_with fail
      refine HM1.out.mono ?_
      rintro e w4 ⟨r4, rfl, hr, hb⟩
      have HR4 := Lib.hid hr
      have HB4 := Lib.hid (HBE.out.trans (hb.mono HBE.out.size))
      have HBL := Lib.hid (RBitLen_any r4 _ w4 hr HNY1.out)
      clear hr hb HM1 HNY1
      by_cases hfit : nd 2 (a ^ (i + 1)) ≤ 16384
      · have HF := Lib.hid hfit
        have hf : ¬ ((16384 : Int) < ((nd 2 (a ^ (i + 1)) : Nat) : Int)) := by omega
        clear hfit
        generalize hbl : nd 2 (a ^ (i + 1)) = bl at hf HBL
        clear hbl
        go_wp2_with fail
        refine HBL.out.mono ?_
        rintro e w5 ⟨rfl, rfl⟩
        go_wp2
        go_roundw
        case rel => exact ⟨i + 1, by omega, by go_num, HR4.out, HF, HB4.out⟩
        case measure => simp [intOf]; omega
      · have HF : Hid (false = decide (nd 2 (a ^ n) ≤ 16384)) := by
          show _ = _
          have := HMO1.out
          rw [decide_eq_false]; omega
        have hf : ((16384 : Int) < ((nd 2 (a ^ (i + 1)) : Nat) : Int)) := by omega
        clear hfit
        generalize hbl : nd 2 (a ^ (i + 1)) = bl at hf HBL
        clear hbl HMO1
        go_wp2_with fail
        refine HBL.out.mono ?_
        rintro e w5 ⟨rfl, rfl⟩
        go_wp2
        go_ret2
        exact ⟨.slice none 0 0, false, rfl, HF.out, fun h => (by cases h), HB4.out⟩
    · obtain rfl : i = n := by omega
      have HF : Hid (true = decide (nd 2 (a ^ i) ≤ 16384)) := by
        show _ = _
        rw [decide_eq_true]; exact HX.out
      go_wp2
      go_ret2
      exact ⟨_, true, rfl, HF.out, fun _ => HO.out, HBE.out⟩
end Go.Proofs.YtgidmlffjelpnaaDoor
