/- The contracts of bit, cmp.Compare, compare. -/
import Derived.Test.YtfkogbomijonjaaGreatDoorWc
import Derived.Deep.QuietTactic
import Derived.BigQuiet
namespace Go.Proofs.YtfkogbomijonjaaGreatDoor
open Go Go.RowKit Gu

/-- the comparison of two numbers -/
def cmpN (a b : Int) : Int := if a < b then -1 else if b < a then 1 else 0
theorem cmpN_lt {a b : Int} (h : a < b) : cmpN a b = -1 := if_pos h
theorem cmpN_gt {a b : Int} (h : b < a) : cmpN a b = 1 := by unfold cmpN; rw [if_neg (by omega), if_pos h]
theorem cmpN_eq {a b : Int} (h : a = b) : cmpN a b = 0 := by unfold cmpN; rw [if_neg (by omega), if_neg (by omega)]

theorem cmp_int (x y : Int) (w : World) : Calls Tryz.prog 71 #[.int .i64 x, .int .i64 y] w fun e w' => e = .returned (.int .i64 (cmpN x y)) ∧ w = w' := by
  rcases Int.lt_trichotomy x y with h | h | h
  · rw [cmpN_lt h]
    go_enter Tryz.func71, Tryz.ntmps71
    go_wp2
    go_ret
    exact ⟨rfl, rfl⟩
  · subst h
    rw [cmpN_eq rfl]
    go_enter Tryz.func71, Tryz.ntmps71
    go_wp2
    go_ret
    exact ⟨rfl, rfl⟩
  · rw [cmpN_gt h]
    go_enter Tryz.func71, Tryz.ntmps71
    go_wp2
    go_ret
    exact ⟨rfl, rfl⟩
theorem cmp_u32 (x y : Int) (w : World) : Calls Tryz.prog 72 #[.int .u32 x, .int .u32 y] w fun e w' => e = .returned (.int .i64 (cmpN x y)) ∧ w = w' := by
  rcases Int.lt_trichotomy x y with h | h | h
  · rw [cmpN_lt h]
    go_enter Tryz.func72, Tryz.ntmps72
    go_wp2
    go_ret
    exact ⟨rfl, rfl⟩
  · subst h
    rw [cmpN_eq rfl]
    go_enter Tryz.func72, Tryz.ntmps72
    go_wp2
    go_ret
    exact ⟨rfl, rfl⟩
  · rw [cmpN_gt h]
    go_enter Tryz.func72, Tryz.ntmps72
    go_wp2
    go_ret
    exact ⟨rfl, rfl⟩
theorem cmp_u32' (x y : Int) (w : World) : Calls Tryz.prog 72 #[.int .u32 x, .int .u32 y] w fun e w' => e = .returned (.int .i64 (cmpN x y)) ∧ w' = w :=
  (cmp_u32 x y w).mono fun _ _ ⟨h, h'⟩ => ⟨h, h'.symm⟩
/-- a call that turns nothing, in a second region that draws -/
theorem quiet_again {P : Program} {f : FuncId} {args : Array Value} {w : World} {a m : Nat} {v : Value} (h : Calls P f args (w.drewN (a + m)) fun e w' => e = .returned v ∧ w' = w.drewN (a + m)) :
    Calls P f args (w.drewN (a + m)) fun e w'' => e = .returned v ∧ ∃ n, w'' = w.drewN (a + n) := h.mono fun _ _ ⟨he, hm⟩ => ⟨he, m, hm⟩
theorem cmp_dg {a b k : Nat} (h : a / 4294967296 ^ (k + 1) = b / 4294967296 ^ (k + 1)) (hne : dg 4294967296 a k ≠ dg 4294967296 b k) : cmpN (dg 4294967296 a k) (dg 4294967296 b k) = cmpN a b := by
  rcases Nat.lt_or_gt_of_ne hne with h' | h'
  · have := lt_of_dg h h'
    rw [cmpN_lt (by omega), cmpN_lt (by omega)]
  · have := lt_of_dg h.symm h'
    rw [cmpN_gt (by omega), cmpN_gt (by omega)]
/-- what the loop of compare has seen -/
def CmpRel (a b : Nat) (w : World) (k : Nat) (wr : World) : Prop := a / 4294967296 ^ k = b / 4294967296 ^ k ∧ ∃ q, wr = w.drewN q
set_option maxHeartbeats 800000 in
theorem compare_eqlen (ba oa ac bb ob bc a b la : Nat) (w : World) (hla : la ≤ 1048576) (h0 : 0 < la) (ha : a < 4294967296 ^ la) (hb : b < 4294967296 ^ la)
    (hca : ∀ i, i < la → w.cell? ⟨ba, oa + i, none⟩ = some (.int .u32 (dg 4294967296 a i : Nat))) (hcb : ∀ i, i < la → w.cell? ⟨bb, ob + i, none⟩ = some (.int .u32 (dg 4294967296 b i : Nat))) :
    Calls Tryz.prog 54 #[.slice (some ⟨ba, oa, none⟩) la ac, .slice (some ⟨bb, ob, none⟩) la bc] w fun e w' => e = .returned (.int .i64 (cmpN a b)) ∧ ∃ k, w' = w.drewN k := by
  have hstart : CmpRel a b w la w := ⟨by rw [Nat.div_eq_of_lt ha, Nat.div_eq_of_lt hb], 0, rfl⟩
  clear ha hb
  go_enter Tryz.func54, Tryz.ntmps54
  go_wp2
  go_loopw [5] (fun i wr => ∃ k : Nat, k ≤ la ∧ i = .int .i64 ((k : Int) - 1) ∧ CmpRel a b w k wr) (fun i _ => (intOf i + 1).toNat)
  case atStart => exact ⟨la, Nat.le_refl _, rfl, hstart⟩
  case round =>
    obtain ⟨k, hk, rfl, hrel1, q, rfl⟩ := hrel
    cases k with
    | zero =>
      rw [show ((0 : Nat) : Int) - 1 = -1 from rfl]
      have he : a = b := by simpa using hrel1
      clear hrel1 hca hcb hstart
      have HE := Lib.hid he; clear he
      go_wp2
      go_ret
      exact ⟨ret_int' (cmpN_eq (by rw [HE.out])).symm, q, rfl⟩
    | succ k =>
      rw [show ((k + 1 : Nat) : Int) - 1 = k from by omega]
      have ca : w.cell? ⟨ba, oa + k, none⟩ = some (.int .u32 (dg 4294967296 a k : Nat)) := hca k (by omega)
      have cb : w.cell? ⟨bb, ob + k, none⟩ = some (.int .u32 (dg 4294967296 b k : Nat)) := hcb k (by omega)
      clear hca hcb hstart
      have HR := Lib.hid hrel1; clear hrel1
      have hkl : (k : Int) < la := by omega
      by_cases hd : dg 4294967296 a k = dg 4294967296 b k
      · have HN := Lib.hid (div_of_dg HR.out hd)
        rw [hd] at ca
        clear hd HR
        generalize dg 4294967296 b k = db at *
        go_wp2
        go_quiet (fail)
        go_wp2
        go_roundw
        case rel => exact ⟨k, by omega, by go_num, HN.out, _, rfl⟩
        case measure => simp [intOf]
      · have HD := Lib.hid (cmp_dg HR.out hd)
        generalize dg 4294967296 a k = da at *
        generalize dg 4294967296 b k = db at *
        have hne : ((da : Int) != db) = true := by simp; omega
        clear HR hd
        go_wp2
        go_quiet (fail)
        go_wp2
        go_quiet ((go_at_call 72; exact quiet_again (cmp_u32' _ _ _)))
        go_wp2
        go_ret
        refine ⟨ret_int' HD.out, ?_⟩
        simp only [World.drewN_drewN]
        exact ⟨_, rfl⟩
set_option maxHeartbeats 800000 in
theorem compare_any (v u : Value) (a b : Nat) (w : World) (hv : D w v a) (hu : D w u b) (ha : nd 4294967296 a ≤ 1048576) (hb : nd 4294967296 b ≤ 1048576) :
    Calls Tryz.prog 54 #[v, u] w fun e w' => e = .returned (.int .i64 (cmpN a b)) ∧ ∃ k, w' = w.drewN k := by
  have hB : 2 ≤ 4294967296 := by decide
  obtain ⟨ao, ac, rfl, hca⟩ := hv.shape
  obtain ⟨bo, bc, rfl, hcb⟩ := hu.shape
  by_cases hl : nd 4294967296 a = nd 4294967296 b
  · rcases Nat.eq_zero_or_pos (nd 4294967296 a) with h0 | h0
    · have ha0 := (nd_eq_zero hB).1 h0
      have hb0 := (nd_eq_zero hB).1 (hl ▸ h0)
      subst ha0; subst hb0
      rw [nd_zero]
      clear hca hcb hv hu hl h0
      go_enter Tryz.func54, Tryz.ntmps54
      go_wp2
      refine wp_loop_rounds 1 ?_; rw [rounds_succ]
      go_wp2
      go_ret
      exact ⟨rfl, 0, rfl⟩
    · have ha1 := nd_lt hB a
      have hb1 := nd_lt hB b
      obtain ⟨ba, oa, rfl, -⟩ := hca 0 h0
      obtain ⟨bb, ob, rfl, -⟩ := hcb 0 (by omega)
      rw [← hl] at hb1 hcb ⊢
      refine compare_eqlen ba oa ac bb ob bc a b _ w ha h0 ha1 hb1 (fun i hi => ?_) (fun i hi => ?_)
      · obtain ⟨_, _, e, h⟩ := hca i hi; simp only [Option.some.injEq, Addr.mk.injEq, and_true] at e; obtain ⟨rfl, rfl⟩ := e; exact h
      · obtain ⟨_, _, e, h⟩ := hcb i hi; simp only [Option.some.injEq, Addr.mk.injEq, and_true] at e; obtain ⟨rfl, rfl⟩ := e; exact h
  · have hne : ((nd 4294967296 a : Int) != nd 4294967296 b) = true := by simp; omega
    have hr : cmpN (nd 4294967296 a) (nd 4294967296 b) = cmpN a b := by
      rcases Nat.lt_or_gt_of_ne hl with h | h
      · rw [cmpN_lt (by omega), cmpN_lt]
        rcases Nat.lt_or_ge a b with h' | h'
        · omega
        · have := nd_mono hB h'; omega
      · rw [cmpN_gt (by omega), cmpN_gt]
        rcases Nat.lt_or_ge b a with h' | h'
        · omega
        · have := nd_mono hB h'; omega
    rw [← hr]
    clear hr hca hcb hl hv hu
    generalize nd 4294967296 a = la at *
    generalize nd 4294967296 b = lb at *
    go_enter Tryz.func54, Tryz.ntmps54
    go_wp2_with (go_at_call 71; refine (cmp_int _ _ _).mono ?_; rintro e w' ⟨rfl, rfl⟩)
    go_ret
    exact ⟨rfl, 0, rfl⟩
end Go.Proofs.YtfkogbomijonjaaGreatDoor
