/- The contracts of divide at one digit, remainder, quotient, gcd. -/
import Derived.Test.YtfkogbomijonjaaGreatDoorWj
import Derived.Deep.LoopGhost
namespace Go.Proofs.YtfkogbomijonjaaGreatDoor
open Go Go.RowKit Gu

theorem IsN.drewN {k : IntKind} {B : Nat} {w : World} {v : Value} {n : Nat} (h : IsN k B w v n) (q : Nat) : IsN k B (w.drewN q) v n := h.below (below_drewN (Below.refl _ _) q)
/-- what divide does, for numbers below N -/
def DivOK (N : Nat) : Prop := ∀ (v u : Value) (a b : Nat) (w : World), D w v a → D w u b → 0 < b → a < N → b < N →
  Calls Tryz.prog 65 #[v, u] w fun e w' => ∃ q r, e = .returned (.tuple #[q, r]) ∧ D w' q (a / b) ∧ D w' r (a % b) ∧ Below w.heap.size w w'
theorem nd_one {n : Nat} (h0 : 0 < n) (h : n < 4294967296) : nd 4294967296 n = 1 := nd_of (by decide) (by simpa using h) (fun _ => by simp [dg, Nat.mod_eq_of_lt h]; omega)
set_option maxHeartbeats 400000 in
theorem divide_small : DivOK 4294967296 := by
  intro v u a b w hv hu hb ha hbN
  have hB : 2 ≤ 4294967296 := by decide
  have hna : nd 4294967296 a ≤ 1 := (nd_le hB).2 (by simpa using ha)
  have hnb := nd_one hb hbN
  have HC := Lib.hid (compare_any v u a b w hv hu (by omega) (by omega))
  by_cases hlt : a < b
  · have HCl := Lib.hid (fun q => clone_any v a (w.drewN q) (IsN.drewN hv q) (by omega))
    have HE : Hid (a / b = 0 ∧ a % b = a) := ⟨Nat.div_eq_of_lt hlt, Nat.mod_eq_of_lt hlt⟩
    rw [cmpN_lt (by omega)] at HC
    obtain ⟨ao, ac, rfl, -⟩ := hv.shape
    obtain ⟨bo, bc, rfl, -⟩ := hu.shape
    clear hv hu hna hnb hb ha hbN hlt
    go_enter Tryz.func65, Tryz.ntmps65
    go_wp2_with fail
    refine HC.out.mono ?_
    rintro e w' ⟨rfl, q, rfl⟩
    go_wp2_with fail
    refine (HCl.out q).mono ?_
    rintro e w' ⟨r, rfl, hr, hbel⟩
    go_wp2
    go_ret2
    exact ⟨.slice none 0 0, r, rfl, by rw [HE.out.1]; exact IsN.zero _ _ _ _ _, by rw [HE.out.2]; exact hr, (below_drewN (Below.refl _ _) q).trans hbel⟩
  · have HD := Lib.hid (fun q => divideByDigit_any v a b (w.drewN q) (IsN.drewN hv q) (by omega) hb hbN)
    rcases hu with ⟨h0, _⟩ | ⟨_, bb, bo, bc, rfl, hcu⟩
    · omega
    have hcell : w.cell? ⟨bb, bo, none⟩ = some (.int .u32 (b : Nat)) := by
      have := hcu 0 (by omega)
      rw [Nat.add_zero] at this
      rw [this]; simp [dg, Nat.mod_eq_of_lt hbN]
    rw [hnb] at HC ⊢
    have hcmp : ¬ cmpN a b < 0 := by
      unfold cmpN; rw [if_neg (by omega)]; split <;> omega
    have hmod := Nat.mod_lt a hb
    generalize cmpN a b = cc at *
    have HDG := Lib.hid (fun w => digitsOf_any (a % b) w (by omega))
    generalize hmm : a % b = mm at *
    have HMM := Lib.hid hmm; clear hmm
    obtain ⟨ao, ac, rfl, -⟩ := hv.shape
    clear hv hna hnb ha hlt hcu
    go_enter Tryz.func65, Tryz.ntmps65
    go_wp2_with fail
    refine HC.out.mono ?_
    rintro e w' ⟨rfl, q, rfl⟩
    go_wp2_with fail
    refine (HD.out q).mono ?_
    rintro e w' ⟨r, rfl, hr, hbel⟩
    go_wp2_with fail
    refine (HDG.out _).mono ?_
    rintro e w2 ⟨r2, rfl, hr2, hbel2⟩
    go_wp2
    go_ret2
    exact ⟨r, r2, rfl, hr.below hbel2, hr2, ((below_drewN (Below.refl _ _) q).trans hbel).trans (hbel2.mono hbel.size)⟩
theorem remainder_any {N : Nat} (HN : DivOK N) (v u : Value) (a b : Nat) (w : World) (hv : D w v a) (hu : D w u b) (hb : 0 < b) (ha : a < N) (hbN : b < N) :
    Calls Tryz.prog 81 #[v, u] w fun e w' => ∃ r, e = .returned r ∧ D w' r (a % b) ∧ Below w.heap.size w w' := by
  have HD := Lib.hid (HN v u a b w hv hu hb ha hbN)
  obtain ⟨ao, ac, rfl, -⟩ := hv.shape
  obtain ⟨bo, bc, rfl, -⟩ := hu.shape
  clear hv hu HN hb ha hbN
  go_enter Tryz.func81, Tryz.ntmps81
  go_wp2_with fail
  refine HD.out.mono ?_
  rintro e w' ⟨q, r, rfl, hq, hr, hbel⟩
  go_wp2
  go_ret
  exact ⟨r, rfl, hr, hbel⟩
theorem quotient_any {N : Nat} (HN : DivOK N) (v u : Value) (a b : Nat) (w : World) (hv : D w v a) (hu : D w u b) (hb : 0 < b) (ha : a < N) (hbN : b < N) :
    Calls Tryz.prog 67 #[v, u] w fun e w' => ∃ r, e = .returned r ∧ D w' r (a / b) ∧ Below w.heap.size w w' := by
  have HD := Lib.hid (HN v u a b w hv hu hb ha hbN)
  obtain ⟨ao, ac, rfl, -⟩ := hv.shape
  obtain ⟨bo, bc, rfl, -⟩ := hu.shape
  clear hv hu HN hb ha hbN
  go_enter Tryz.func67, Tryz.ntmps67
  go_wp2_with fail
  refine HD.out.mono ?_
  rintro e w' ⟨q, r, rfl, hq, hr, hbel⟩
  go_wp2
  go_ret
  exact ⟨q, rfl, hq, hbel⟩
/-- what the loop of gcd keeps -/
def GcdRel (N g : Nat) (w : World) (x y : Value) (a b : Nat) (wr : World) : Prop := D wr x a ∧ D wr y b ∧ a < N ∧ b < N ∧ Nat.gcd a b = g ∧ Below w.heap.size w wr
set_option maxHeartbeats 400000 in
theorem gcd_any {N : Nat} (HN : DivOK N) (v u : Value) (a b : Nat) (w : World) (hv : D w v a) (hu : D w u b) (ha : a < N) (hb : b < N) :
    Calls Tryz.prog 66 #[v, u] w fun e w' => ∃ r, e = .returned r ∧ D w' r (Nat.gcd a b) ∧ Below w.heap.size w w' := by
  have hstart : GcdRel N (Nat.gcd a b) w v u a b w := ⟨hv, hu, ha, hb, rfl, Below.refl _ _⟩
  have HS := Lib.hid hstart
  have HNN := Lib.hid HN
  clear hstart hv hu ha hb HN
  go_enter Tryz.func66, Tryz.ntmps66
  go_wp2
  go_loopg [0, 1] b (fun n x y wr => ∃ a', GcdRel N (Nat.gcd a b) w x y a' n wr)
  case atStart => exact ⟨a, HS.out⟩
  case round =>
    obtain ⟨a', hx, hy, ha, hb, hg, hbel⟩ := hrel
    have HX := Lib.hid hx; have HY := Lib.hid hy; have HG := Lib.hid hg; have HB := Lib.hid hbel
    have HZ := Lib.hid (isZero_any _ _ _ hy)
    clear hx hy hg hbel
    by_cases h0 : gk = 0
    · subst h0
      rw [show decide ((0 : Nat) = 0) = true from rfl] at HZ
      go_wp2_with (go_at_call 35; refine HZ.out.mono ?_; rintro e w' ⟨rfl, rfl⟩)
      go_ret
      exact ⟨_, rfl, by rw [← HG.out, Nat.gcd_zero_right]; exact HX.out, HB.out⟩
    · rw [show decide (gk = 0) = false from by simp [h0]] at HZ
      have HR := Lib.hid (remainder_any HNN.out _ _ a' gk wr HX.out HY.out (by omega) ha hb)
      go_wp2_with (go_at_call 35; refine HZ.out.mono ?_; rintro e w' ⟨rfl, rfl⟩)
      refine HR.out.mono ?_
      rintro e w' ⟨r, rfl, hr, hbel2⟩
      have HE : Hid (GcdRel N (Nat.gcd a b) w _ r gk (a' % gk) w') := ⟨HY.out.below hbel2, hr, hb, Nat.lt_trans (Nat.mod_lt _ (by omega)) hb, by rw [← HG.out, Nat.gcd_comm gk, ← Nat.gcd_rec, Nat.gcd_comm], HB.out.trans (hbel2.mono HB.out.size)⟩
      have hm : a' % gk < gk := Nat.mod_lt _ (by omega)
      clear hr hbel2
      generalize a' % gk = mm at *
      go_wp2
      go_roundg mm
      case measure => exact hm
      case rel => exact ⟨gk, HE.out⟩
end Go.Proofs.YtfkogbomijonjaaGreatDoor
