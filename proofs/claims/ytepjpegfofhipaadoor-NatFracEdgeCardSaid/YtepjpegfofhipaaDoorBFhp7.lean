/- WHAT IS PROVED: for every int n from 0 to MaxBits - 1, the fraction 2^n, or its inverse, multiplied by itself is the power of the double exponent, or its inverse, if that fits, and otherwise ErrRange and the fraction 0; and the few plain results of awake hold for all arguments. Conditions: the listed tables of the library hold what the program's text lays (the card ties them). -/
import Derived.Test.YtepjpegfofhipaaDoorBFhp5
import Derived.Test.YtepjpegfofhipaaDoorBFhp6
import Derived.Test.YtepjpegfofhipaaDoorBFhp2
import Derived.Test.YtepjpegfofhipaaDoorRows
import Derived.ProofKit
import Derived.LaidMore
import Derived.LaidSub
import Derived.Lay
import Derived.OpenShut
import Derived.Lib.LaidTab
import Derived.Stop.Joined
import Derived.Test.YtepjpegfofhipaaDoorBFhp3
import Derived.Carry
import Derived.Test.YtepjpegfofhipaaDoorCards
import Derived.Test.YtepjpegfofhipaaDoorTie
namespace Go.Proofs.YtepjpegfofhipaaDoor
open Go Go.RowKit Gu

theorem nd_two_up {a m : Nat} (ha : nd 2 a ≤ m) : nd 4294967296 a ≤ m := by
  have h1 := (nd_le (by decide : 2 ≤ 2)).1 ha
  exact (nd_le (by decide : 2 ≤ 4294967296)).2 (Nat.lt_of_lt_of_le h1 (Nat.pow_le_pow_left (by decide) _))
set_option maxHeartbeats 1000000 in
theorem Rsh_neg (v : Value) (a : Nat) (n : Int) (w : World) (hv : D w v a) (hn : n < 0) :
    Calls Tryd.prog 31 #[.agg #[v], .int .i64 n] w fun e w' => e = .returned (.tuple #[.agg #[.slice none 0 0], .int .i64 2]) ∧ Below w.heap.size w w' := by
  have b2 : ∀ o1 o2, Below w.heap.size w ((w.alloc o1).alloc o2) := fun o1 o2 => ((Below.refl _ _).alloc (Nat.le_refl _) _).alloc (by simp) _
  have HB2 := Lib.hid b2
  obtain ⟨ao, ac, rfl, -⟩ := hv.shape
  clear hv b2
  go_enter Tryd.func31, Tryd.ntmps31
  go_wp2
  refine bodyPost_ret (v := .tuple #[.agg #[.slice none 0 0], .int .i64 2]) (by simp [results, Tryd.results31, go_sem]) rfl ⟨rfl, HB2.out _ _⟩
set_option maxHeartbeats 1000000 in
theorem Lsh_neg (v : Value) (a : Nat) (n : Int) (w : World) (hv : D w v a) (hn : n < 0) :
    Calls Tryd.prog 23 #[.agg #[v], .int .i64 n] w fun e w' => e = .returned (.tuple #[.agg #[.slice none 0 0], .int .i64 2]) ∧ Below w.heap.size w w' := by
  have b2 : ∀ o1 o2, Below w.heap.size w ((w.alloc o1).alloc o2) := fun o1 o2 => ((Below.refl _ _).alloc (Nat.le_refl _) _).alloc (by simp) _
  have HB2 := Lib.hid b2
  obtain ⟨ao, ac, rfl, -⟩ := hv.shape
  clear hv b2
  go_enter Tryd.func23, Tryd.ntmps23
  go_wp2
  refine bodyPost_ret (v := .tuple #[.agg #[.slice none 0 0], .int .i64 2]) (by simp [results, Tryd.results23, go_sem]) rfl ⟨rfl, HB2.out _ _⟩
set_option maxHeartbeats 1000000 in
theorem Rsh_any (v : Value) (a n : Nat) (w : World) (hv : D w v a) (ha : nd 4294967296 a ≤ 400000) (hn : n ≤ 9223372036854775807) :
    Calls Tryd.prog 31 #[.agg #[v], .int .i64 n] w fun e w' => ∃ r, e = .returned (.tuple #[.agg #[r], .int .i64 0]) ∧ D w' r (a / 2 ^ n) ∧ Below w.heap.size w w' := by
  have b2 : ∀ o1 o2, Below w.heap.size w ((w.alloc o1).alloc o2) := fun o1 o2 => ((Below.refl _ _).alloc (Nat.le_refl _) _).alloc (by simp) _
  have HS := Lib.hid (fun o1 o2 => shiftRight_any v a n ((w.alloc o1).alloc o2) (hv.below (b2 o1 o2)) (by omega) hn)
  have HB2 := Lib.hid b2
  obtain ⟨ao, ac, rfl, -⟩ := hv.shape
  clear hv b2
  obtain ⟨q, hq⟩ : ∃ q, q = a / 2 ^ n := ⟨_, rfl⟩
  have HQ := Lib.hid hq
  rw [← hq] at HS
  clear hq
  have hn0 : ¬ ((n : Int) < 0) := by omega
  go_enter Tryd.func31, Tryd.ntmps31
  go_wp2_with fail
  refine (HS.out _ _).mono ?_
  rintro e w2 ⟨rv, rfl, hr, hbel⟩
  obtain ⟨ro, rc, rfl, -⟩ := hr.shape
  have hcell : w2.cell? ⟨w.heap.size + 1, 0, none⟩ = some (.slice none 0 0) := (hbel.cell (p := ⟨w.heap.size + 1, 0, none⟩) (by simp)).trans (World.cell?_alloc_at _ _ _ _ (by simp))
  have hfr : w2.frozen? ⟨w.heap.size + 1, 0, none⟩ = false := (hbel.frozen (p := ⟨w.heap.size + 1, 0, none⟩) (by simp)).trans (World.frozen?_alloc_at _ _ _ _ (by simp))
  have HR := Lib.hid hr
  have HCE := Lib.hid hcell
  have HBE := Lib.hid ((HB2.out _ _).trans (hbel.mono (HB2.out _ _).size))
  clear hr hbel
  go_wp2
  refine bodyPost_ret (v := .tuple #[.agg #[.slice ro (nd 4294967296 q) rc], .int .i64 0]) (by simp [results, Tryd.results31, go_sem, hcell]) rfl ⟨_, rfl, by rw [← HQ.out]; exact HR.out.setCell HCE.out (by intro d h; cases h) _, HBE.out.setCell (by show w.heap.size ≤ w.heap.size + 1; omega) _⟩
def lshE (a n : Nat) : Int := if a = 0 then 0 else if n + nd 2 a ≤ 16384 then 0 else 3
def lshN (a n : Nat) : Nat := if n + nd 2 a ≤ 16384 then a * 2 ^ n else 0
set_option maxHeartbeats 1000000 in
theorem Lsh_any (v : Value) (a n : Nat) (w : World) (hv : D w v a) (ha : nd 2 a ≤ 16384) (hn : n ≤ 9223372036854775807) :
    Calls Tryd.prog 23 #[.agg #[v], .int .i64 n] w fun e w' => ∃ r, e = .returned (.tuple #[.agg #[r], .int .i64 (lshE a n)]) ∧ D w' r (lshN a n) ∧ Below w.heap.size w w' := by
  have ha32 : nd 4294967296 a ≤ 16384 := by
    exact nd_two_up ha
  have b2 : ∀ o1 o2, Below w.heap.size w ((w.alloc o1).alloc o2) := fun o1 o2 => ((Below.refl _ _).alloc (Nat.le_refl _) _).alloc (by simp) _
  have HZ := Lib.hid (fun o1 o2 => isZero_any v a ((w.alloc o1).alloc o2) (hv.below (b2 o1 o2)))
  have HBL := Lib.hid (fun o1 o2 => bitLen_any v a ((w.alloc o1).alloc o2) (hv.below (b2 o1 o2)) (by omega))
  have hn0 : ¬ ((n : Int) < 0) := by omega
  by_cases h0 : a = 0
  · have HE : Hid (lshE a n = 0 ∧ lshN a n = 0) := ⟨if_pos h0, by unfold lshN; split <;> simp [h0]⟩
    rw [show decide (a = 0) = true from by simp [h0]] at HZ
    have HB2 := Lib.hid b2
    obtain ⟨ao, ac, rfl, -⟩ := hv.shape
    clear hv b2 h0 HBL ha ha32
    generalize nd 4294967296 a = la at *
    go_enter Tryd.func23, Tryd.ntmps23
    go_wp2_with fail
    refine (HZ.out _ _).mono ?_
    rintro e w1 ⟨rfl, rfl⟩
    go_wp2
    refine bodyPost_ret (v := .tuple #[.agg #[.slice none 0 0], .int .i64 0]) (by simp [results, Tryd.results23, go_sem]) rfl ⟨_, by rw [HE.out.1], by rw [HE.out.2]; exact IsN.zero _ _ _ _ _, HB2.out _ _⟩
  · rw [show decide (a = 0) = false from by simp [h0]] at HZ
    have HB2 := Lib.hid b2
    by_cases hf : n + nd 2 a ≤ 16384
    · have HE : Hid (lshE a n = 0 ∧ lshN a n = a * 2 ^ n) := ⟨by unfold lshE; rw [if_neg h0, if_pos hf], if_pos hf⟩
      have HS := Lib.hid (fun o1 o2 => shiftLeft_any v a n ((w.alloc o1).alloc o2) (hv.below (b2 o1 o2)) (by omega) (by omega))
      have hcmp : ¬ ((16384 : Int) - ((nd 2 a : Nat) : Int) < n) := by omega
      obtain ⟨ao, ac, rfl, -⟩ := hv.shape
      clear hv b2
      obtain ⟨q, hq⟩ : ∃ q, q = a * 2 ^ n := ⟨_, rfl⟩
      have HQ := Lib.hid hq
      rw [← hq] at HS
      clear hq h0
      generalize nd 2 a = bl at *
      go_enter Tryd.func23, Tryd.ntmps23
      go_wp2_with fail
      refine (HZ.out _ _).mono ?_
      rintro e w1 ⟨rfl, rfl⟩
      go_wp2_with fail
      refine (HBL.out _ _).mono ?_
      rintro e w1 ⟨rfl, rfl⟩
      go_wp2_with fail
      refine (HS.out _ _).mono ?_
      rintro e w2 ⟨rv, rfl, hr, hbel⟩
      obtain ⟨ro, rc, rfl, -⟩ := hr.shape
      have hcell : w2.cell? ⟨w.heap.size + 1, 0, none⟩ = some (.slice none 0 0) := (hbel.cell (p := ⟨w.heap.size + 1, 0, none⟩) (by simp)).trans (World.cell?_alloc_at _ _ _ _ (by simp))
      have hfr : w2.frozen? ⟨w.heap.size + 1, 0, none⟩ = false := (hbel.frozen (p := ⟨w.heap.size + 1, 0, none⟩) (by simp)).trans (World.frozen?_alloc_at _ _ _ _ (by simp))
      have HR := Lib.hid hr
      have HCE := Lib.hid hcell
      have HBE := Lib.hid ((HB2.out _ _).trans (hbel.mono (HB2.out _ _).size))
      clear hr hbel
      go_wp2
      refine bodyPost_ret (v := .tuple #[.agg #[.slice ro (nd 4294967296 q) rc], .int .i64 0]) (by simp [results, Tryd.results23, go_sem, hcell]) rfl ⟨_, by rw [HE.out.1], by rw [HE.out.2, ← HQ.out]; exact HR.out.setCell HCE.out (by intro d h; cases h) _, HBE.out.setCell (by show w.heap.size ≤ w.heap.size + 1; omega) _⟩
    · have HE : Hid (lshE a n = 3 ∧ lshN a n = 0) := ⟨by unfold lshE; rw [if_neg h0, if_neg hf], if_neg hf⟩
      have hcmp : (16384 : Int) - ((nd 2 a : Nat) : Int) < n := by omega
      obtain ⟨ao, ac, rfl, -⟩ := hv.shape
      clear hv b2 h0
      generalize nd 2 a = bl at *
      go_enter Tryd.func23, Tryd.ntmps23
      go_wp2_with fail
      refine (HZ.out _ _).mono ?_
      rintro e w1 ⟨rfl, rfl⟩
      go_wp2_with fail
      refine (HBL.out _ _).mono ?_
      rintro e w1 ⟨rfl, rfl⟩
      go_wp2
      refine bodyPost_ret (v := .tuple #[.agg #[.slice none 0 0], .int .i64 3]) (by simp [results, Tryd.results23, go_sem]) rfl ⟨_, by rw [HE.out.1], by rw [HE.out.2]; exact IsN.zero _ _ _ _ _, HB2.out _ _⟩
end Go.Proofs.YtepjpegfofhipaaDoor
namespace Go.Proofs.YtepjpegfofhipaaDoor
open Go Go.RowKit Gu

theorem nd2_pow' (n : Nat) : nd 2 (2 ^ n) = n + 1 := nd_eq (by decide) (Nat.le_refl _) (Nat.pow_lt_pow_right (by decide) (Nat.lt_succ_self n))
theorem Lsh_one' (n : Nat) (v : Value) (W : World) (hv : D W v 1) (hn : n < 16384) :
    Calls Tryd.prog 23 #[.agg #[v], .int .i64 n] W fun e w' => ∃ r, e = .returned (.tuple #[.agg #[r], .int .i64 0]) ∧ D w' r (2 ^ n) ∧ Below W.heap.size W w' := by
  have h1 : nd 2 1 = 1 := nd_eq (k := 0) (by decide) (by decide) (by decide)
  have h := Lsh_any v 1 n W hv (by omega) (by omega)
  rw [show lshE 1 n = 0 from by unfold lshE; rw [if_neg (by decide), if_pos (by omega)], show lshN 1 n = 2 ^ n from by unfold lshN; rw [if_pos (by omega), Nat.one_mul]] at h
  exact h
/-- the box of two cells is stored anew -/
theorem Kq.restore {cs : List (Nat × Nat × Value)} {ns rs : List (Value × Nat)} {w W : World} {F : Nat} {v u : Value} (h : Kq ((F, 1, u) :: (F, 0, v) :: cs) ns rs w W) (he : Env w) (hF : ∀ p ∈ cs, p.1 < F) (hw : w.heap.size ≤ F) (hv : ∃ o l c, v = .slice o l c) (hu : ∃ o l c, u = .slice o l c) (x y : Value) :
    Kq ((F, 1, y) :: (F, 0, x) :: cs) ns rs w ((W.setCell ⟨F, 0, none⟩ x).setCell ⟨F, 1, none⟩ y) := by
  obtain ⟨vo, vl, vc, rfl⟩ := hv
  obtain ⟨uo, ul, uc, rfl⟩ := hu
  have d0 : W.cell? ⟨F, 0, none⟩ = some (.slice vo vl vc) := h.cell (.tail _ (.head _))
  have d1 : W.cell? ⟨F, 1, none⟩ = some (.slice uo ul uc) := h.cell (.head _)
  have hl : F < W.heap.size := (h.box _ (.head _)).1
  obtain ⟨t0, t1⟩ := read_two d0 d1 x y
  have hb : Below w.heap.size w ((W.setCell ⟨F, 0, none⟩ x).setCell ⟨F, 1, none⟩ y) := (h.bel.setCell hw _).setCell hw _
  refine ⟨fun p hp => IsN_setTwo (h.num p hp) d0 d1 (by intro d h; cases h) (by intro d h; cases h) _ _, fun p hp => IsN_setTwo (h.dig p hp) d0 d1 (by intro d h; cases h) (by intro d h; cases h) _ _, fun p hp => ?_, he.below hb, hb⟩
  have hs : ((W.setCell ⟨F, 0, none⟩ x).setCell ⟨F, 1, none⟩ y).heap.size = W.heap.size := by rw [World.size_setCell, World.size_setCell]
  rw [hs]
  rcases List.mem_cons.1 hp with rfl | hp
  · exact ⟨hl, t1⟩
  · rcases List.mem_cons.1 hp with rfl | hp
    · exact ⟨hl, t0⟩
    · have hne := hF p hp
      obtain ⟨h1, h2⟩ := h.box p (.tail _ (.tail _ hp))
      refine ⟨h1, ?_⟩
      rw [World.cell?_setCell_far _ _ _ _ (by show F ≠ p.1; omega), World.cell?_setCell_far _ _ _ _ (by show F ≠ p.1; omega)]
      exact h2
theorem BitLen_to' {v : Value} {n : Nat} (W : World) (m : Int) (hv : D W v n) (hn : nd 2 n ≤ 40000) (hm : (nd 2 n : Int) = m) :
    Calls Tryd.prog 25 #[.agg #[v]] W fun e w' => e = .returned (.int .i64 m) ∧ Below W.heap.size W w' := by
  subst hm
  exact BitLen_any v n W hv (Nat.le_trans (nd_two_up hn) (by decide))
set_option maxHeartbeats 4000000 in
theorem natFracEdge_bad (n : Int) (b : Bool) (w : World) (hb : n < 0 ∨ 16384 ≤ n) (he : Env w) :
    Calls Tryd.prog 5 #[.int .i64 n, .bool b] w fun e w' => e = .returned (.bool true) ∧ Below w.heap.size w w' := by
  have HAW := Lib.hid (awake_any w he)
  clear he
  have H : n < 0 ∨ (¬ n < 0 ∧ 16384 ≤ n) := by omega
  clear hb
  rcases H with h1 | ⟨h1, h2⟩
  all_goals
    go_enter Tryd.func5, Tryd.ntmps5
    go_wp2_with fail
    refine HAW.out.mono ?_
    rintro e w1 ⟨rfl, hb⟩
    have HB := Lib.hid hb
    clear hb
    go_wp2
    go_ret
    exact ⟨by simp, HB.out⟩
set_option maxHeartbeats 4000000 in
set_option maxRecDepth 100000 in
theorem natFracEdge_up (n : Nat) (w : World) (hn : n < 16384) (hfit : 2 * n + 1 ≤ 16384) (he : Env w) :
    Calls Tryd.prog 5 #[.int .i64 n, .bool false] w fun e w' => e = .returned (.bool true) ∧ Below w.heap.size w w' := by
  have HS0 := Lib.hid (Kq.start he)
  have HE0 := Lib.hid he
  have HNE := Lib.hid (New_any 1 w (by decide))
  obtain ⟨X, hX⟩ : ∃ X, X = 2 ^ n := ⟨_, rfl⟩
  have hX2 : nd 2 X = n + 1 := by rw [hX]; exact nd2_pow' n
  have hX0 : 0 < X := by rw [hX]; exact Nat.pow_pos (by decide)
  have hXX : nd 2 (X * X) = 2 * n + 1 := by rw [hX, ← Nat.pow_add, show n + n = 2 * n from by omega]; exact nd2_pow' _
  have hX3 := nd_two_up (Nat.le_of_eq hX2)
  have h132 : nd 4294967296 1 ≤ 1 := nd_small (by decide)
  have h12 : nd 2 1 = 1 := nd_eq (k := 0) (by decide) (by decide) (by decide)
  have HLA := Lib.hid (fun v W (h : D W v 1) => Lsh_one' n v W h hn)
  rw [← hX] at HLA
  obtain ⟨N, hN, hN2⟩ : ∃ N, N ≤ 400000 ∧ 20000 ≤ N := ⟨20000, by decide, Nat.le_refl _⟩
  have HNF := Lib.hid (fun v u W (h1 : D W v X) (h2 : D W u 1) => NewFrac_any (divide_long N hN) v u X 1 W h1 h2 (by decide) ((nd_le (by decide)).1 (by omega)) ((nd_le (by decide)).1 (by omega)))
  rw [Nat.gcd_one_right, Nat.div_one, Nat.div_one] at HNF
  have HNG := Lib.hid (fun v u W (h1 : D W v 1) (h2 : D W u X) => NewFrac_any (divide_long N hN) v u 1 X W h1 h2 hX0 ((nd_le (by decide)).1 (by omega)) ((nd_le (by decide)).1 (by omega)))
  rw [Nat.gcd_one_left, Nat.div_one, Nat.div_one] at HNG
  have HML := Lib.hid (fun v u W (h1 : D W v X) (h2 : D W u 1) => FMul_any v u v u X 1 X 1 W h1 h2 h1 h2 (by omega) (by omega) (by omega) (by omega))
  rw [dn_of (show 0 < 1 by decide), Nat.one_mul] at HML
  unfold FRes at HML
  rw [show lowP (X * X) 1 = X * X from by unfold lowP; rw [Nat.gcd_one_right, Nat.div_one], show lowQ (X * X) 1 = 1 from by unfold lowQ; rw [Nat.gcd_one_right]] at HML
  have hok : nd 2 (X * X) ≤ 16384 ∧ nd 2 (1) ≤ 16384 := ⟨by omega, by omega⟩
  rw [show ffE (X * X) (1) = 0 from if_pos hok, show ffN (X * X) (1) (X * X) = X * X from if_pos hok, show ffN (X * X) (1) (1) = 1 from if_pos hok] at HML
  have hY32 := nd_two_up (Nat.le_of_eq hXX)
  have hXXp : 0 < X * X := Nat.mul_pos hX0 hX0
  clear he hX hX2 hok
  generalize hY : X * X = Y at *
  clear hY
  have h1 : ¬ ((n : Int) < 0) := by omega
  have h3 : ¬ ((16384 : Int) ≤ n) := by omega
  go_enter Tryd.func5, Tryd.ntmps5
  go_wp2_with fail
  refine (HNE.out).mono ?_
  rintro e w1 ⟨vo, rfl, ho, hb⟩
  obtain ⟨oo, oc, rfl, -⟩ := ho.shape
  have hs := ((HS0.out.next hb).addNum ho).boxed (.slice oo (nd 4294967296 (1)) oc) 28
  have HS1 := Lib.hid hs
  clear hs hb ho HS0
  have co := HS1.out.cell (.head _)
  go_wp2_with fail
  refine (HLA.out _ _ (HS1.out.num _ (.head _))).mono ?_
  rintro e w2 ⟨vx, rfl, hx, hb⟩
  obtain ⟨xo, xc, rfl, -⟩ := hx.shape
  have hs := ((HS1.out.next hb).addNum hx).boxed (.slice xo (nd 4294967296 (X)) xc) 28
  have HS2 := Lib.hid hs
  clear hs hb hx HS1
  clear co
  have cx := HS2.out.cell (.head _)
  have co := HS2.out.cell (.tail _ (.head _))
  go_wp2_with fail
  refine (HNF.out _ _ _ (HS2.out.num _ (.head _)) (HS2.out.num _ (.tail _ (.head _)))).mono ?_
  rintro e w3 ⟨vf1, vf2, rfl, hf1, hf2, hb⟩
  obtain ⟨f1o, f1c, rfl, -⟩ := hf1.shape
  obtain ⟨f2o, f2c, rfl, -⟩ := hf2.shape
  have hs := (((HS2.out.next hb).addNum hf1).addNum hf2).boxed2 (.slice f1o (nd 4294967296 (X)) f1c) (.slice f2o (nd 4294967296 (1)) f2c) 32
  have HS3 := Lib.hid hs
  clear hs hb hf1 hf2 HS2
  clear cx co
  have cf1 := HS3.out.cell (.tail _ (.head _))
  have cf2 := HS3.out.cell (.head _)
  go_wp2_with fail
  refine (HML.out _ _ _ (HS3.out.num _ (.tail _ (.head _))) (HS3.out.num _ (.head _))).mono ?_
  rintro e w4 ⟨vr1, vr2, rfl, hr1, hr2, hb⟩
  obtain ⟨r1o, r1c, rfl, -⟩ := hr1.shape
  obtain ⟨r2o, r2c, rfl, -⟩ := hr2.shape
  have hs := (((HS3.out.next hb).addNum hr1).addNum hr2).boxed2 (.slice r1o (nd 4294967296 (Y)) r1c) (.slice r2o (nd 4294967296 (1)) r2c) 32
  have HS4 := Lib.hid hs
  clear hs hb hr1 hr2 HS3
  clear cf1 cf2
  have hbig : ¬ (16384 : Int) < 2 * (n : Int) + 1 := by omega
  have hs := HS4.out
  obtain ⟨cs, hcs⟩ : ∃ cs : List (Nat × Nat × Value), cs = [(w4.heap.size, 1, .slice r2o (nd 4294967296 (1)) r2c), (w4.heap.size, 0, .slice r1o (nd 4294967296 (Y)) r1c), (w3.heap.size, 1, .slice f2o (nd 4294967296 (1)) f2c), (w3.heap.size, 0, .slice f1o (nd 4294967296 (X)) f1c), (w2.heap.size, 0, .slice xo (nd 4294967296 (X)) xc), (w1.heap.size, 0, .slice oo (nd 4294967296 (1)) oc)] := ⟨_, rfl⟩
  obtain ⟨ns, hns⟩ : ∃ ns : List (Value × Nat), ns = [(.slice r2o (nd 4294967296 (1)) r2c, 1), (.slice r1o (nd 4294967296 (Y)) r1c, Y), (.slice f2o (nd 4294967296 (1)) f2c, 1), (.slice f1o (nd 4294967296 (X)) f1c, X), (.slice xo (nd 4294967296 (X)) xc, X), (.slice oo (nd 4294967296 (1)) oc, 1)] := ⟨_, rfl⟩
  obtain ⟨rs, hrs⟩ : ∃ rs : List (Value × Nat), rs = [] := ⟨_, rfl⟩
  rw [← hcs, ← hns, ← hrs] at hs
  have HCL : Hid (∀ W', Kq cs ns rs w W' → W'.cell? ⟨w4.heap.size, 0, none⟩ = some (.slice r1o (nd 4294967296 (Y)) r1c) ∧ W'.cell? ⟨w4.heap.size, 1, none⟩ = some (.slice r2o (nd 4294967296 (1)) r2c)) := fun W' h => by
    rw [hcs] at h
    exact ⟨h.cell (.tail _ (.head _)), h.cell (.head _)⟩
  have HM_r1 : Hid (((.slice r1o (nd 4294967296 (Y)) r1c, Y) : Value × Nat) ∈ ns) := by show _ ∈ _; rw [hns]; exact (.tail _ (.head _))
  have HM_r2 : Hid (((.slice r2o (nd 4294967296 (1)) r2c, 1) : Value × Nat) ∈ ns) := by show _ ∈ _; rw [hns]; exact (.head _)
  have hs2 := hs.drew
  have hcl := HCL.out _ hs2
  have hc0 := HCL.out _ hs
  have HAK := Lib.hid (fun W' (h : Kq cs ns rs w W') => awake_Q h)
  clear hcs hns hrs HS4
  have HNU : Hid (∀ W', Kq cs ns rs w W' → Calls Tryd.prog 16 #[.agg #[.slice r1o (nd 4294967296 (Y)) r1c, .slice r2o (nd 4294967296 (1)) r2c]] W' fun e w' => ∃ o l c, e = .returned (.agg #[.slice o l c]) ∧ D w' (.slice o l c) (Y) ∧ Kq cs ns rs w w') := fun W' h =>
    (FNum_any _ _ (Y) (1) W' (h.num _ HM_r1.out) (h.num _ HM_r2.out) (by omega)).mono fun e w' ⟨r, he, hr, hB⟩ => by
      obtain ⟨ro, rc, rfl, -⟩ := hr.shape
      exact ⟨ro, _, rc, he, hr, h.next hB⟩
  have HDE : Hid (∀ W', Kq cs ns rs w W' → Calls Tryd.prog 17 #[.agg #[.slice r1o (nd 4294967296 (Y)) r1c, .slice r2o (nd 4294967296 (1)) r2c]] W' fun e w' => ∃ o l c, e = .returned (.agg #[.slice o l c]) ∧ D w' (.slice o l c) (1) ∧ Kq cs ns rs w w') := fun W' h => by
    have h1 := FDen_any _ _ (Y) (1) W' (h.num _ HM_r1.out) (h.num _ HM_r2.out) (by rw [dn_of (by omega)]; omega)
    rw [dn_of (show 0 < 1 by omega)] at h1
    exact h1.mono fun e w' ⟨r, he, hr, hB⟩ => by
      obtain ⟨ro, rc, rfl, -⟩ := hr.shape
      exact ⟨ro, _, rc, he, hr, h.next hB⟩
  have HB1 : Hid (∀ W' x, Kq cs ns rs w W' → D W' x Y → Calls Tryd.prog 25 #[.agg #[x]] W' fun e w' => e = .returned (.int .i64 (2 * (n : Int) + 1)) ∧ Kq cs ns rs w w') := fun W' x h hx =>
    (BitLen_to' W' _ hx (by omega) (by omega)).mono fun e w' ⟨he, hB⟩ => ⟨he, h.next hB⟩
  have HB2 : Hid (∀ W' x, Kq cs ns rs w W' → D W' x 1 → Calls Tryd.prog 25 #[.agg #[x]] W' fun e w' => e = .returned (.int .i64 1) ∧ Kq cs ns rs w w') := fun W' x h hx =>
    (BitLen_to' W' _ hx (by omega) (by omega)).mono fun e w' ⟨he, hB⟩ => ⟨he, h.next hB⟩
  have k1 : IntKind.i64.wrap (2 * (n : Int)) = 2 * (n : Int) := IntWalk.i64_in _ (by omega)
  have k2 : IntKind.i64.wrap (2 * (n : Int) + 2) = 2 * (n : Int) + 2 := IntWalk.i64_in _ (by omega)
  have k3 : IntKind.i64.wrap ((2 * (n : Int) + 1) + (1 : Int)) = 2 * (n : Int) + 2 := by rw [IntWalk.i64_in _ (by omega)]; omega
  clear h3
  go_wp2_with fail
  go_region_held3 (fun W' : World => (W'.cell? ⟨w4.heap.size, 0, none⟩ = some (.slice r1o (nd 4294967296 (Y)) r1c) ∧ W'.cell? ⟨w4.heap.size, 1, none⟩ = some (.slice r2o (nd 4294967296 (1)) r2c)) ∧ Kq cs ns rs w W') (first | (refine And.intro ?_ ?_ <;> assumption)) (first
    | (go_at_call 16; with_reducible refine (HNU.out _ ?h).mono ?_; (case h => assumption); rintro e w' ⟨o1, l1, k1, rfl, hr', hs'⟩; have hc' := HCL.out _ hs')
    | (go_at_call 17; with_reducible refine (HDE.out _ ?h).mono ?_; (case h => assumption); rintro e w' ⟨o1, l1, k1, rfl, hr', hs'⟩; have hc' := HCL.out _ hs')
    | (go_at_call 25; with_reducible refine (HB1.out _ _ ?h ?r).mono ?_; (case h => assumption); (case r => first | assumption | exact rchain (by assumption) (by assumption) | exact dchain (by assumption) (by assumption)); rintro e w' ⟨rfl, hs'⟩; have hc' := HCL.out _ hs')
    | (go_at_call 25; with_reducible refine (HB2.out _ _ ?h ?r).mono ?_; (case h => assumption); (case r => first | assumption | exact rchain (by assumption) (by assumption) | exact dchain (by assumption) (by assumption)); rintro e w' ⟨rfl, hs'⟩; have hc' := HCL.out _ hs')
    | (go_at_call 12; with_reducible refine (HAK.out _ ?h).mono ?_; (case h => assumption); rintro e w' ⟨rfl, hs'⟩; have hc' := HCL.out _ hs'))
  all_goals go_wp2
  all_goals go_ret
  all_goals exact ⟨by simp, (by assumption : Kq cs ns rs w _).bel⟩
set_option maxHeartbeats 4000000 in
set_option maxRecDepth 100000 in
theorem natFracEdge_up_not (n : Nat) (w : World) (hn : n < 16384) (hfit : 16384 < 2 * n + 1) (he : Env w) :
    Calls Tryd.prog 5 #[.int .i64 n, .bool false] w fun e w' => e = .returned (.bool true) ∧ Below w.heap.size w w' := by
  have HS0 := Lib.hid (Kq.start he)
  have HE0 := Lib.hid he
  have HNE := Lib.hid (New_any 1 w (by decide))
  obtain ⟨X, hX⟩ : ∃ X, X = 2 ^ n := ⟨_, rfl⟩
  have hX2 : nd 2 X = n + 1 := by rw [hX]; exact nd2_pow' n
  have hX0 : 0 < X := by rw [hX]; exact Nat.pow_pos (by decide)
  have hXX : nd 2 (X * X) = 2 * n + 1 := by rw [hX, ← Nat.pow_add, show n + n = 2 * n from by omega]; exact nd2_pow' _
  have hX3 := nd_two_up (Nat.le_of_eq hX2)
  have h132 : nd 4294967296 1 ≤ 1 := nd_small (by decide)
  have h12 : nd 2 1 = 1 := nd_eq (k := 0) (by decide) (by decide) (by decide)
  have HLA := Lib.hid (fun v W (h : D W v 1) => Lsh_one' n v W h hn)
  rw [← hX] at HLA
  obtain ⟨N, hN, hN2⟩ : ∃ N, N ≤ 400000 ∧ 20000 ≤ N := ⟨20000, by decide, Nat.le_refl _⟩
  have HNF := Lib.hid (fun v u W (h1 : D W v X) (h2 : D W u 1) => NewFrac_any (divide_long N hN) v u X 1 W h1 h2 (by decide) ((nd_le (by decide)).1 (by omega)) ((nd_le (by decide)).1 (by omega)))
  rw [Nat.gcd_one_right, Nat.div_one, Nat.div_one] at HNF
  have HNG := Lib.hid (fun v u W (h1 : D W v 1) (h2 : D W u X) => NewFrac_any (divide_long N hN) v u 1 X W h1 h2 hX0 ((nd_le (by decide)).1 (by omega)) ((nd_le (by decide)).1 (by omega)))
  rw [Nat.gcd_one_left, Nat.div_one, Nat.div_one] at HNG
  have HML := Lib.hid (fun v u W (h1 : D W v X) (h2 : D W u 1) => FMul_any v u v u X 1 X 1 W h1 h2 h1 h2 (by omega) (by omega) (by omega) (by omega))
  rw [dn_of (show 0 < 1 by decide), Nat.one_mul] at HML
  unfold FRes at HML
  rw [show lowP (X * X) 1 = X * X from by unfold lowP; rw [Nat.gcd_one_right, Nat.div_one], show lowQ (X * X) 1 = 1 from by unfold lowQ; rw [Nat.gcd_one_right]] at HML
  have hok : ¬ (nd 2 (X * X) ≤ 16384 ∧ nd 2 (1) ≤ 16384) := by omega
  rw [show ffE (X * X) (1) = 3 from if_neg hok, show ffN (X * X) (1) (X * X) = 0 from if_neg hok, show ffN (X * X) (1) (1) = 0 from if_neg hok] at HML
  have hY32 := nd_two_up (Nat.le_of_eq hXX)
  have hXXp : 0 < X * X := Nat.mul_pos hX0 hX0
  clear he hX hX2 hok
  generalize hY : X * X = Y at *
  clear hY
  have h1 : ¬ ((n : Int) < 0) := by omega
  have h3 : ¬ ((16384 : Int) ≤ n) := by omega
  go_enter Tryd.func5, Tryd.ntmps5
  go_wp2_with fail
  refine (HNE.out).mono ?_
  rintro e w1 ⟨vo, rfl, ho, hb⟩
  obtain ⟨oo, oc, rfl, -⟩ := ho.shape
  have hs := ((HS0.out.next hb).addNum ho).boxed (.slice oo (nd 4294967296 (1)) oc) 28
  have HS1 := Lib.hid hs
  clear hs hb ho HS0
  have co := HS1.out.cell (.head _)
  go_wp2_with fail
  refine (HLA.out _ _ (HS1.out.num _ (.head _))).mono ?_
  rintro e w2 ⟨vx, rfl, hx, hb⟩
  obtain ⟨xo, xc, rfl, -⟩ := hx.shape
  have hs := ((HS1.out.next hb).addNum hx).boxed (.slice xo (nd 4294967296 (X)) xc) 28
  have HS2 := Lib.hid hs
  clear hs hb hx HS1
  clear co
  have cx := HS2.out.cell (.head _)
  have co := HS2.out.cell (.tail _ (.head _))
  go_wp2_with fail
  refine (HNF.out _ _ _ (HS2.out.num _ (.head _)) (HS2.out.num _ (.tail _ (.head _)))).mono ?_
  rintro e w3 ⟨vf1, vf2, rfl, hf1, hf2, hb⟩
  obtain ⟨f1o, f1c, rfl, -⟩ := hf1.shape
  obtain ⟨f2o, f2c, rfl, -⟩ := hf2.shape
  have hs := (((HS2.out.next hb).addNum hf1).addNum hf2).boxed2 (.slice f1o (nd 4294967296 (X)) f1c) (.slice f2o (nd 4294967296 (1)) f2c) 32
  have HS3 := Lib.hid hs
  clear hs hb hf1 hf2 HS2
  clear cx co
  have cf1 := HS3.out.cell (.tail _ (.head _))
  have cf2 := HS3.out.cell (.head _)
  go_wp2_with fail
  refine (HML.out _ _ _ (HS3.out.num _ (.tail _ (.head _))) (HS3.out.num _ (.head _))).mono ?_
  rintro e w4 ⟨vr1, vr2, rfl, hr1, hr2, hb⟩
  obtain ⟨r1o, r1c, rfl, -⟩ := hr1.shape
  obtain ⟨r2o, r2c, rfl, -⟩ := hr2.shape
  have hs := (((HS3.out.next hb).addNum hr1).addNum hr2).boxed2 (.slice r1o (nd 4294967296 (0)) r1c) (.slice r2o (nd 4294967296 (0)) r2c) 32
  have HS4 := Lib.hid hs
  clear hs hb hr1 hr2 HS3
  clear cf1 cf2
  have hbig : (16384 : Int) < 2 * (n : Int) + 1 := by omega
  have hto := FracString_any _ _ 0 0 _ (HS4.out.num _ (.tail _ (.head _))) (HS4.out.num _ (.head _)) (by rw [nd_zero]; omega) (by rw [nd_zero]; omega) HS4.out.env
  rw [show dn 0 = 1 from rfl, fracText_zero] at hto
  have HTO := Lib.hid (hto.mono fun e w' h => And.intro h.1 (HS4.out.next h.2))
  clear hto
  have cr1 := HS4.out.cell (.tail _ (.head _))
  have cr2 := HS4.out.cell (.head _)
  go_wp2_with fail
  refine (HTO.out).mono ?_
  rintro e w5 ⟨rfl, hs⟩
  have HS5 := Lib.hid hs
  clear hs HS4
  clear cr1 cr2 HTO
  go_wp2_with fail
  refine (awake_Q HS5.out).mono ?_
  rintro e w6 ⟨rfl, hs⟩
  have HS6 := Lib.hid hs
  clear hs HS5
  go_wp2
  go_ret
  exact ⟨by simp, HS6.out.bel⟩
set_option maxHeartbeats 4000000 in
set_option maxRecDepth 100000 in
theorem natFracEdge_down (n : Nat) (w : World) (hn : n < 16384) (hfit : 2 * n + 1 ≤ 16384) (he : Env w) :
    Calls Tryd.prog 5 #[.int .i64 n, .bool true] w fun e w' => e = .returned (.bool true) ∧ Below w.heap.size w w' := by
  have HS0 := Lib.hid (Kq.start he)
  have HE0 := Lib.hid he
  have HNE := Lib.hid (New_any 1 w (by decide))
  obtain ⟨X, hX⟩ : ∃ X, X = 2 ^ n := ⟨_, rfl⟩
  have hX2 : nd 2 X = n + 1 := by rw [hX]; exact nd2_pow' n
  have hX0 : 0 < X := by rw [hX]; exact Nat.pow_pos (by decide)
  have hXX : nd 2 (X * X) = 2 * n + 1 := by rw [hX, ← Nat.pow_add, show n + n = 2 * n from by omega]; exact nd2_pow' _
  have hX3 := nd_two_up (Nat.le_of_eq hX2)
  have h132 : nd 4294967296 1 ≤ 1 := nd_small (by decide)
  have h12 : nd 2 1 = 1 := nd_eq (k := 0) (by decide) (by decide) (by decide)
  have HLA := Lib.hid (fun v W (h : D W v 1) => Lsh_one' n v W h hn)
  rw [← hX] at HLA
  obtain ⟨N, hN, hN2⟩ : ∃ N, N ≤ 400000 ∧ 20000 ≤ N := ⟨20000, by decide, Nat.le_refl _⟩
  have HNF := Lib.hid (fun v u W (h1 : D W v X) (h2 : D W u 1) => NewFrac_any (divide_long N hN) v u X 1 W h1 h2 (by decide) ((nd_le (by decide)).1 (by omega)) ((nd_le (by decide)).1 (by omega)))
  rw [Nat.gcd_one_right, Nat.div_one, Nat.div_one] at HNF
  have HNG := Lib.hid (fun v u W (h1 : D W v 1) (h2 : D W u X) => NewFrac_any (divide_long N hN) v u 1 X W h1 h2 hX0 ((nd_le (by decide)).1 (by omega)) ((nd_le (by decide)).1 (by omega)))
  rw [Nat.gcd_one_left, Nat.div_one, Nat.div_one] at HNG
  have HML := Lib.hid (fun v u W (h1 : D W v 1) (h2 : D W u X) => FMul_any v u v u 1 X 1 X W h1 h2 h1 h2 (by omega) (by omega) (by omega) (by omega))
  rw [dn_of hX0, Nat.one_mul] at HML
  unfold FRes at HML
  rw [show lowP 1 (X * X) = 1 from by unfold lowP; rw [Nat.gcd_one_left], show lowQ 1 (X * X) = X * X from by unfold lowQ; rw [Nat.gcd_one_left, Nat.div_one]] at HML
  have hok : nd 2 (1) ≤ 16384 ∧ nd 2 (X * X) ≤ 16384 := ⟨by omega, by omega⟩
  rw [show ffE (1) (X * X) = 0 from if_pos hok, show ffN (1) (X * X) (1) = 1 from if_pos hok, show ffN (1) (X * X) (X * X) = X * X from if_pos hok] at HML
  have hY32 := nd_two_up (Nat.le_of_eq hXX)
  have hXXp : 0 < X * X := Nat.mul_pos hX0 hX0
  clear he hX hX2 hok
  generalize hY : X * X = Y at *
  clear hY
  have h1 : ¬ ((n : Int) < 0) := by omega
  have h3 : ¬ ((16384 : Int) ≤ n) := by omega
  go_enter Tryd.func5, Tryd.ntmps5
  go_wp2_with fail
  refine (HNE.out).mono ?_
  rintro e w1 ⟨vo, rfl, ho, hb⟩
  obtain ⟨oo, oc, rfl, -⟩ := ho.shape
  have hs := ((HS0.out.next hb).addNum ho).boxed (.slice oo (nd 4294967296 (1)) oc) 28
  have HS1 := Lib.hid hs
  clear hs hb ho HS0
  have co := HS1.out.cell (.head _)
  go_wp2_with fail
  refine (HLA.out _ _ (HS1.out.num _ (.head _))).mono ?_
  rintro e w2 ⟨vx, rfl, hx, hb⟩
  obtain ⟨xo, xc, rfl, -⟩ := hx.shape
  have hs := ((HS1.out.next hb).addNum hx).boxed (.slice xo (nd 4294967296 (X)) xc) 28
  have HS2 := Lib.hid hs
  clear hs hb hx HS1
  clear co
  have cx := HS2.out.cell (.head _)
  have co := HS2.out.cell (.tail _ (.head _))
  go_wp2_with fail
  refine (HNF.out _ _ _ (HS2.out.num _ (.head _)) (HS2.out.num _ (.tail _ (.head _)))).mono ?_
  rintro e w3 ⟨vf1, vf2, rfl, hf1, hf2, hb⟩
  obtain ⟨f1o, f1c, rfl, -⟩ := hf1.shape
  obtain ⟨f2o, f2c, rfl, -⟩ := hf2.shape
  have hfb : ∀ p ∈ ([(w2.heap.size, 0, .slice xo (nd 4294967296 (X)) xc), (w1.heap.size, 0, .slice oo (nd 4294967296 (1)) oc)] : List (Nat × Nat × Value)), p.1 < w3.heap.size := fun p hp => ((HS2.out.next hb).box p hp).1
  have HFB := Lib.hid hfb
  have HFW := Lib.hid (HS2.out.next hb).bel.size
  clear hfb
  have hs := (((HS2.out.next hb).addNum hf1).addNum hf2).boxed2 (.slice f1o (nd 4294967296 (X)) f1c) (.slice f2o (nd 4294967296 (1)) f2c) 32
  have HS3 := Lib.hid hs
  clear hs hb hf1 hf2 HS2
  clear cx co
  have cx := HS3.out.cell (.tail _ (.tail _ (.head _)))
  have co := HS3.out.cell (.tail _ (.tail _ (.tail _ (.head _))))
  go_wp2_with fail
  refine (HNG.out _ _ _ (HS3.out.num _ (.tail _ (.tail _ (.tail _ (.head _))))) (HS3.out.num _ (.tail _ (.tail _ (.head _))))).mono ?_
  rintro e w4 ⟨vh1, vh2, rfl, hh1, hh2, hb⟩
  clear cx co
  obtain ⟨h1o, h1c, rfl, -⟩ := hh1.shape
  obtain ⟨h2o, h2c, rfl, -⟩ := hh2.shape
  have hsn := ((HS3.out.next hb).addNum hh1).addNum hh2
  have hcc0 := hsn.cell (.tail _ (.head _))
  have hff0 : w4.frozen? ⟨w3.heap.size, 0, none⟩ = false := (hb.frozen (p := ⟨w3.heap.size, 0, none⟩) (by simp)).trans (World.frozen?_alloc_at _ _ _ _ rfl)
  have hcc1 := hsn.cell (.head _)
  have hff1 : w4.frozen? ⟨w3.heap.size, 1, none⟩ = false := (hb.frozen (p := ⟨w3.heap.size, 1, none⟩) (by simp)).trans (World.frozen?_alloc_at _ _ _ _ rfl)
  have hs := Kq.restore hsn HE0.out HFB.out HFW.out ⟨_, _, _, rfl⟩ ⟨_, _, _, rfl⟩ (.slice h1o (nd 4294967296 (1)) h1c) (.slice h2o (nd 4294967296 (X)) h2c)
  have HS4 := Lib.hid hs
  clear hs hh1 hh2 hsn hb HS3
  have ch1 := HS4.out.cell (.tail _ (.head _))
  have ch2 := HS4.out.cell (.head _)
  go_wp2_with fail
  refine (HML.out _ _ _ (HS4.out.num _ (.tail _ (.head _))) (HS4.out.num _ (.head _))).mono ?_
  rintro e w5 ⟨vr1, vr2, rfl, hr1, hr2, hb⟩
  obtain ⟨r1o, r1c, rfl, -⟩ := hr1.shape
  obtain ⟨r2o, r2c, rfl, -⟩ := hr2.shape
  have hs := (((HS4.out.next hb).addNum hr1).addNum hr2).boxed2 (.slice r1o (nd 4294967296 (1)) r1c) (.slice r2o (nd 4294967296 (Y)) r2c) 32
  have HS5 := Lib.hid hs
  clear hs hb hr1 hr2 HS4
  clear ch1 ch2 hcc0 hcc1 hff0 hff1
  have hbig : ¬ (16384 : Int) < 2 * (n : Int) + 1 := by omega
  have hs := HS5.out
  obtain ⟨cs, hcs⟩ : ∃ cs : List (Nat × Nat × Value), cs = [(w5.heap.size, 1, .slice r2o (nd 4294967296 (Y)) r2c), (w5.heap.size, 0, .slice r1o (nd 4294967296 (1)) r1c), (w3.heap.size, 1, .slice h2o (nd 4294967296 (X)) h2c), (w3.heap.size, 0, .slice h1o (nd 4294967296 (1)) h1c), (w2.heap.size, 0, .slice xo (nd 4294967296 (X)) xc), (w1.heap.size, 0, .slice oo (nd 4294967296 (1)) oc)] := ⟨_, rfl⟩
  obtain ⟨ns, hns⟩ : ∃ ns : List (Value × Nat), ns = [(.slice r2o (nd 4294967296 (Y)) r2c, Y), (.slice r1o (nd 4294967296 (1)) r1c, 1), (.slice h2o (nd 4294967296 (X)) h2c, X), (.slice h1o (nd 4294967296 (1)) h1c, 1), (.slice f2o (nd 4294967296 (1)) f2c, 1), (.slice f1o (nd 4294967296 (X)) f1c, X), (.slice xo (nd 4294967296 (X)) xc, X), (.slice oo (nd 4294967296 (1)) oc, 1)] := ⟨_, rfl⟩
  obtain ⟨rs, hrs⟩ : ∃ rs : List (Value × Nat), rs = [] := ⟨_, rfl⟩
  rw [← hcs, ← hns, ← hrs] at hs
  have HCL : Hid (∀ W', Kq cs ns rs w W' → W'.cell? ⟨w5.heap.size, 0, none⟩ = some (.slice r1o (nd 4294967296 (1)) r1c) ∧ W'.cell? ⟨w5.heap.size, 1, none⟩ = some (.slice r2o (nd 4294967296 (Y)) r2c)) := fun W' h => by
    rw [hcs] at h
    exact ⟨h.cell (.tail _ (.head _)), h.cell (.head _)⟩
  have HM_r1 : Hid (((.slice r1o (nd 4294967296 (1)) r1c, 1) : Value × Nat) ∈ ns) := by show _ ∈ _; rw [hns]; exact (.tail _ (.head _))
  have HM_r2 : Hid (((.slice r2o (nd 4294967296 (Y)) r2c, Y) : Value × Nat) ∈ ns) := by show _ ∈ _; rw [hns]; exact (.head _)
  have hs2 := hs.drew
  have hcl := HCL.out _ hs2
  have hc0 := HCL.out _ hs
  have HAK := Lib.hid (fun W' (h : Kq cs ns rs w W') => awake_Q h)
  clear hcs hns hrs HS5
  have HNU : Hid (∀ W', Kq cs ns rs w W' → Calls Tryd.prog 16 #[.agg #[.slice r1o (nd 4294967296 (1)) r1c, .slice r2o (nd 4294967296 (Y)) r2c]] W' fun e w' => ∃ o l c, e = .returned (.agg #[.slice o l c]) ∧ D w' (.slice o l c) (1) ∧ Kq cs ns rs w w') := fun W' h =>
    (FNum_any _ _ (1) (Y) W' (h.num _ HM_r1.out) (h.num _ HM_r2.out) (by omega)).mono fun e w' ⟨r, he, hr, hB⟩ => by
      obtain ⟨ro, rc, rfl, -⟩ := hr.shape
      exact ⟨ro, _, rc, he, hr, h.next hB⟩
  have HDE : Hid (∀ W', Kq cs ns rs w W' → Calls Tryd.prog 17 #[.agg #[.slice r1o (nd 4294967296 (1)) r1c, .slice r2o (nd 4294967296 (Y)) r2c]] W' fun e w' => ∃ o l c, e = .returned (.agg #[.slice o l c]) ∧ D w' (.slice o l c) (Y) ∧ Kq cs ns rs w w') := fun W' h => by
    have h1 := FDen_any _ _ (1) (Y) W' (h.num _ HM_r1.out) (h.num _ HM_r2.out) (by rw [dn_of (by omega)]; omega)
    rw [dn_of (show 0 < Y by omega)] at h1
    exact h1.mono fun e w' ⟨r, he, hr, hB⟩ => by
      obtain ⟨ro, rc, rfl, -⟩ := hr.shape
      exact ⟨ro, _, rc, he, hr, h.next hB⟩
  have HB1 : Hid (∀ W' x, Kq cs ns rs w W' → D W' x Y → Calls Tryd.prog 25 #[.agg #[x]] W' fun e w' => e = .returned (.int .i64 (2 * (n : Int) + 1)) ∧ Kq cs ns rs w w') := fun W' x h hx =>
    (BitLen_to' W' _ hx (by omega) (by omega)).mono fun e w' ⟨he, hB⟩ => ⟨he, h.next hB⟩
  have HB2 : Hid (∀ W' x, Kq cs ns rs w W' → D W' x 1 → Calls Tryd.prog 25 #[.agg #[x]] W' fun e w' => e = .returned (.int .i64 1) ∧ Kq cs ns rs w w') := fun W' x h hx =>
    (BitLen_to' W' _ hx (by omega) (by omega)).mono fun e w' ⟨he, hB⟩ => ⟨he, h.next hB⟩
  have k1 : IntKind.i64.wrap (2 * (n : Int)) = 2 * (n : Int) := IntWalk.i64_in _ (by omega)
  have k2 : IntKind.i64.wrap (2 * (n : Int) + 2) = 2 * (n : Int) + 2 := IntWalk.i64_in _ (by omega)
  have k3 : IntKind.i64.wrap ((1 : Int) + (2 * (n : Int) + 1)) = 2 * (n : Int) + 2 := by rw [IntWalk.i64_in _ (by omega)]; omega
  clear h3
  go_wp2_with fail
  go_region_held3 (fun W' : World => (W'.cell? ⟨w5.heap.size, 0, none⟩ = some (.slice r1o (nd 4294967296 (1)) r1c) ∧ W'.cell? ⟨w5.heap.size, 1, none⟩ = some (.slice r2o (nd 4294967296 (Y)) r2c)) ∧ Kq cs ns rs w W') (first | (refine And.intro ?_ ?_ <;> assumption)) (first
    | (go_at_call 16; with_reducible refine (HNU.out _ ?h).mono ?_; (case h => assumption); rintro e w' ⟨o1, l1, k1, rfl, hr', hs'⟩; have hc' := HCL.out _ hs')
    | (go_at_call 17; with_reducible refine (HDE.out _ ?h).mono ?_; (case h => assumption); rintro e w' ⟨o1, l1, k1, rfl, hr', hs'⟩; have hc' := HCL.out _ hs')
    | (go_at_call 25; with_reducible refine (HB1.out _ _ ?h ?r).mono ?_; (case h => assumption); (case r => first | assumption | exact rchain (by assumption) (by assumption) | exact dchain (by assumption) (by assumption)); rintro e w' ⟨rfl, hs'⟩; have hc' := HCL.out _ hs')
    | (go_at_call 25; with_reducible refine (HB2.out _ _ ?h ?r).mono ?_; (case h => assumption); (case r => first | assumption | exact rchain (by assumption) (by assumption) | exact dchain (by assumption) (by assumption)); rintro e w' ⟨rfl, hs'⟩; have hc' := HCL.out _ hs')
    | (go_at_call 12; with_reducible refine (HAK.out _ ?h).mono ?_; (case h => assumption); rintro e w' ⟨rfl, hs'⟩; have hc' := HCL.out _ hs'))
  all_goals go_wp2
  all_goals go_ret
  all_goals exact ⟨by simp, (by assumption : Kq cs ns rs w _).bel⟩
set_option maxHeartbeats 4000000 in
set_option maxRecDepth 100000 in
theorem natFracEdge_down_not (n : Nat) (w : World) (hn : n < 16384) (hfit : 16384 < 2 * n + 1) (he : Env w) :
    Calls Tryd.prog 5 #[.int .i64 n, .bool true] w fun e w' => e = .returned (.bool true) ∧ Below w.heap.size w w' := by
  have HS0 := Lib.hid (Kq.start he)
  have HE0 := Lib.hid he
  have HNE := Lib.hid (New_any 1 w (by decide))
  obtain ⟨X, hX⟩ : ∃ X, X = 2 ^ n := ⟨_, rfl⟩
  have hX2 : nd 2 X = n + 1 := by rw [hX]; exact nd2_pow' n
  have hX0 : 0 < X := by rw [hX]; exact Nat.pow_pos (by decide)
  have hXX : nd 2 (X * X) = 2 * n + 1 := by rw [hX, ← Nat.pow_add, show n + n = 2 * n from by omega]; exact nd2_pow' _
  have hX3 := nd_two_up (Nat.le_of_eq hX2)
  have h132 : nd 4294967296 1 ≤ 1 := nd_small (by decide)
  have h12 : nd 2 1 = 1 := nd_eq (k := 0) (by decide) (by decide) (by decide)
  have HLA := Lib.hid (fun v W (h : D W v 1) => Lsh_one' n v W h hn)
  rw [← hX] at HLA
  obtain ⟨N, hN, hN2⟩ : ∃ N, N ≤ 400000 ∧ 20000 ≤ N := ⟨20000, by decide, Nat.le_refl _⟩
  have HNF := Lib.hid (fun v u W (h1 : D W v X) (h2 : D W u 1) => NewFrac_any (divide_long N hN) v u X 1 W h1 h2 (by decide) ((nd_le (by decide)).1 (by omega)) ((nd_le (by decide)).1 (by omega)))
  rw [Nat.gcd_one_right, Nat.div_one, Nat.div_one] at HNF
  have HNG := Lib.hid (fun v u W (h1 : D W v 1) (h2 : D W u X) => NewFrac_any (divide_long N hN) v u 1 X W h1 h2 hX0 ((nd_le (by decide)).1 (by omega)) ((nd_le (by decide)).1 (by omega)))
  rw [Nat.gcd_one_left, Nat.div_one, Nat.div_one] at HNG
  have HML := Lib.hid (fun v u W (h1 : D W v 1) (h2 : D W u X) => FMul_any v u v u 1 X 1 X W h1 h2 h1 h2 (by omega) (by omega) (by omega) (by omega))
  rw [dn_of hX0, Nat.one_mul] at HML
  unfold FRes at HML
  rw [show lowP 1 (X * X) = 1 from by unfold lowP; rw [Nat.gcd_one_left], show lowQ 1 (X * X) = X * X from by unfold lowQ; rw [Nat.gcd_one_left, Nat.div_one]] at HML
  have hok : ¬ (nd 2 (1) ≤ 16384 ∧ nd 2 (X * X) ≤ 16384) := by omega
  rw [show ffE (1) (X * X) = 3 from if_neg hok, show ffN (1) (X * X) (1) = 0 from if_neg hok, show ffN (1) (X * X) (X * X) = 0 from if_neg hok] at HML
  have hY32 := nd_two_up (Nat.le_of_eq hXX)
  have hXXp : 0 < X * X := Nat.mul_pos hX0 hX0
  clear he hX hX2 hok
  generalize hY : X * X = Y at *
  clear hY
  have h1 : ¬ ((n : Int) < 0) := by omega
  have h3 : ¬ ((16384 : Int) ≤ n) := by omega
  go_enter Tryd.func5, Tryd.ntmps5
  go_wp2_with fail
  refine (HNE.out).mono ?_
  rintro e w1 ⟨vo, rfl, ho, hb⟩
  obtain ⟨oo, oc, rfl, -⟩ := ho.shape
  have hs := ((HS0.out.next hb).addNum ho).boxed (.slice oo (nd 4294967296 (1)) oc) 28
  have HS1 := Lib.hid hs
  clear hs hb ho HS0
  have co := HS1.out.cell (.head _)
  go_wp2_with fail
  refine (HLA.out _ _ (HS1.out.num _ (.head _))).mono ?_
  rintro e w2 ⟨vx, rfl, hx, hb⟩
  obtain ⟨xo, xc, rfl, -⟩ := hx.shape
  have hs := ((HS1.out.next hb).addNum hx).boxed (.slice xo (nd 4294967296 (X)) xc) 28
  have HS2 := Lib.hid hs
  clear hs hb hx HS1
  clear co
  have cx := HS2.out.cell (.head _)
  have co := HS2.out.cell (.tail _ (.head _))
  go_wp2_with fail
  refine (HNF.out _ _ _ (HS2.out.num _ (.head _)) (HS2.out.num _ (.tail _ (.head _)))).mono ?_
  rintro e w3 ⟨vf1, vf2, rfl, hf1, hf2, hb⟩
  obtain ⟨f1o, f1c, rfl, -⟩ := hf1.shape
  obtain ⟨f2o, f2c, rfl, -⟩ := hf2.shape
  have hfb : ∀ p ∈ ([(w2.heap.size, 0, .slice xo (nd 4294967296 (X)) xc), (w1.heap.size, 0, .slice oo (nd 4294967296 (1)) oc)] : List (Nat × Nat × Value)), p.1 < w3.heap.size := fun p hp => ((HS2.out.next hb).box p hp).1
  have HFB := Lib.hid hfb
  have HFW := Lib.hid (HS2.out.next hb).bel.size
  clear hfb
  have hs := (((HS2.out.next hb).addNum hf1).addNum hf2).boxed2 (.slice f1o (nd 4294967296 (X)) f1c) (.slice f2o (nd 4294967296 (1)) f2c) 32
  have HS3 := Lib.hid hs
  clear hs hb hf1 hf2 HS2
  clear cx co
  have cx := HS3.out.cell (.tail _ (.tail _ (.head _)))
  have co := HS3.out.cell (.tail _ (.tail _ (.tail _ (.head _))))
  go_wp2_with fail
  refine (HNG.out _ _ _ (HS3.out.num _ (.tail _ (.tail _ (.tail _ (.head _))))) (HS3.out.num _ (.tail _ (.tail _ (.head _))))).mono ?_
  rintro e w4 ⟨vh1, vh2, rfl, hh1, hh2, hb⟩
  clear cx co
  obtain ⟨h1o, h1c, rfl, -⟩ := hh1.shape
  obtain ⟨h2o, h2c, rfl, -⟩ := hh2.shape
  have hsn := ((HS3.out.next hb).addNum hh1).addNum hh2
  have hcc0 := hsn.cell (.tail _ (.head _))
  have hff0 : w4.frozen? ⟨w3.heap.size, 0, none⟩ = false := (hb.frozen (p := ⟨w3.heap.size, 0, none⟩) (by simp)).trans (World.frozen?_alloc_at _ _ _ _ rfl)
  have hcc1 := hsn.cell (.head _)
  have hff1 : w4.frozen? ⟨w3.heap.size, 1, none⟩ = false := (hb.frozen (p := ⟨w3.heap.size, 1, none⟩) (by simp)).trans (World.frozen?_alloc_at _ _ _ _ rfl)
  have hs := Kq.restore hsn HE0.out HFB.out HFW.out ⟨_, _, _, rfl⟩ ⟨_, _, _, rfl⟩ (.slice h1o (nd 4294967296 (1)) h1c) (.slice h2o (nd 4294967296 (X)) h2c)
  have HS4 := Lib.hid hs
  clear hs hh1 hh2 hsn hb HS3
  have ch1 := HS4.out.cell (.tail _ (.head _))
  have ch2 := HS4.out.cell (.head _)
  go_wp2_with fail
  refine (HML.out _ _ _ (HS4.out.num _ (.tail _ (.head _))) (HS4.out.num _ (.head _))).mono ?_
  rintro e w5 ⟨vr1, vr2, rfl, hr1, hr2, hb⟩
  obtain ⟨r1o, r1c, rfl, -⟩ := hr1.shape
  obtain ⟨r2o, r2c, rfl, -⟩ := hr2.shape
  have hs := (((HS4.out.next hb).addNum hr1).addNum hr2).boxed2 (.slice r1o (nd 4294967296 (0)) r1c) (.slice r2o (nd 4294967296 (0)) r2c) 32
  have HS5 := Lib.hid hs
  clear hs hb hr1 hr2 HS4
  clear ch1 ch2 hcc0 hcc1 hff0 hff1
  have hbig : (16384 : Int) < 2 * (n : Int) + 1 := by omega
  have hto := FracString_any _ _ 0 0 _ (HS5.out.num _ (.tail _ (.head _))) (HS5.out.num _ (.head _)) (by rw [nd_zero]; omega) (by rw [nd_zero]; omega) HS5.out.env
  rw [show dn 0 = 1 from rfl, fracText_zero] at hto
  have HTO := Lib.hid (hto.mono fun e w' h => And.intro h.1 (HS5.out.next h.2))
  clear hto
  have cr1 := HS5.out.cell (.tail _ (.head _))
  have cr2 := HS5.out.cell (.head _)
  go_wp2_with fail
  refine (HTO.out).mono ?_
  rintro e w6 ⟨rfl, hs⟩
  have HS6 := Lib.hid hs
  clear hs HS5
  clear cr1 cr2 HTO
  go_wp2_with fail
  refine (awake_Q HS6.out).mono ?_
  rintro e w7 ⟨rfl, hs⟩
  have HS7 := Lib.hid hs
  clear hs HS6
  go_wp2
  go_ret
  exact ⟨by simp, HS7.out.bel⟩
theorem natFracEdge_walk (n : Int) (b : Bool) (w : World) (he : Env w) :
    Calls Tryd.prog 5 #[.int .i64 n, .bool b] w fun e w' => e = .returned (.bool true) ∧ Below w.heap.size w w' := by
  by_cases h : n < 0 ∨ 16384 ≤ n
  · exact natFracEdge_bad n b w h he
  · obtain ⟨m, rfl⟩ : ∃ m : Nat, n = m := ⟨n.toNat, by omega⟩
    by_cases hf : 2 * m + 1 ≤ 16384
    · cases b
      · exact natFracEdge_up m w (by omega) hf he
      · exact natFracEdge_down m w (by omega) hf he
    · cases b
      · exact natFracEdge_up_not m w (by omega) (by omega) he
      · exact natFracEdge_down_not m w (by omega) (by omega) he
end Go.Proofs.YtepjpegfofhipaaDoor
namespace Go.Proofs.YtepjpegfofhipaaDoor
open Go Go.RowKit Gu

theorem own : ownKnob Tryd.prog.godebug = none := by kernel_rfl
theorem env_of_laid {W : World} {l : List (String × DataW Unit)}
    (hl : l.filter (fun x => x.1 == "internal/strconv.uint64pow10") = [("internal/strconv.uint64pow10", Rows.laid_internal_strconv_uint64pow10)]) (h : laidMetH Tryd.prog l W) : Env W := by
  have h1 := h.filter (fun x => x.1 == "internal/strconv.uint64pow10")
  rw [hl, MakeChecks.laidMetH_plain _ _ _ (by kernel_rfl)] at h1
  exact Lib.tabIs_of_head (g := 1) (by kernel_rfl) (by kernel_rfl) Tryd.underlying152 Tryd.underlying88 (by kernel_rfl) (by kernel_rfl) h1
end Go.Proofs.YtepjpegfofhipaaDoor
namespace Go.Proofs.YtepjpegfofhipaaDoor
open Go Go.ChangeShapes Go.WideShapes Go.ChangeAt Go.RowKit Gu

theorem laidOut' : laidOutB Tryd.prog = true := by kernel_rfl
theorem u16_of_wf {n : Int} (h : (Lit.int .u16 n).wf = true) : 0 ≤ n ∧ n ≤ 65535 := by
  simpa [Lit.wf, IntKind.min, IntKind.max, IntKind.signed, IntKind.bits] using h
theorem raw_of {H : Type} {enc : TypeId × Value → H} {W : World} {d : DataW H} {p : List MemPlace} {a0 : Option Addr} {len cap : Nat}
    (h : DataW.Trod enc Tryd.prog W 0 (fun _ => true) true 22 (.slice a0 len cap) d p) : ∃ xs, IsRaw W (.slice a0 len cap) xs ∧ xs.length ≤ maxLen := by
  obtain ⟨fuel, hf⟩ := h
  have c16 : Tryd.prog.cellsOf 67 = 1 := by kernel_rfl
  rcases open_ints Tryd.underlying22 Tryd.underlying67 c16 hf with ⟨hcs, hx⟩ | ⟨a, len', cap', zs, hcs, _, hl, hm, hz, hx, hcell, hwz⟩
  · simp [Value.cells] at hcs
    obtain ⟨rfl, rfl, rfl⟩ := hcs
    exact ⟨[], ⟨Dig.nil _, .inl ⟨rfl, _, _, rfl⟩⟩, by simp⟩
  · simp [Value.cells] at hcs
    obtain ⟨rfl, rfl, rfl⟩ := hcs
    simp only [if_true] at hz
    rcases Nat.eq_zero_or_pos len with h0 | h0
    · subst h0
      exact ⟨[], ⟨Dig.nil _, .inl ⟨rfl, _, _, rfl⟩⟩, by simp⟩
    · obtain ⟨b, o, s⟩ := a
      obtain rfl : s = none := by
        have h1 := hcell 0 (by omega)
        cases s with
        | none => rfl
        | some _ =>
          exfalso
          unfold World.cell? Addr.add at h1
          simp only [if_true] at h1
          split at h1 <;> simp at h1
      have hl' : ((zs.take len).map Int.toNat).length = len := by rw [List.length_map, List.length_take]; omega
      have hget : ∀ i (h : i < ((zs.take len).map Int.toNat).length), ∃ hi : i < zs.length, ((zs.take len).map Int.toNat)[i] = zs[i].toNat := fun i h => ⟨by omega, by simp⟩
      refine ⟨(zs.take len).map Int.toNat, ⟨fun i hi => ?_, .inr ⟨b, o, cap, by rw [hl'], fun i hi => ?_⟩⟩, by omega⟩
      · obtain ⟨hi2, e⟩ := hget i hi
        have := u16_of_wf (hwz _ (List.getElem_mem hi2))
        rw [e]; omega
      · obtain ⟨hi2, e⟩ := hget i hi
        have := u16_of_wf (hwz _ (List.getElem_mem hi2))
        have h1 := hcell i hi2
        rw [add_plain] at h1
        rw [h1, e, List.getD, List.getElem?_eq_getElem hi2, Option.getD_some, Int.toNat_of_nonneg this.1]
end Go.Proofs.YtepjpegfofhipaaDoor
namespace Go.Proofs.YtepjpegfofhipaaDoor
open Go Go.ChangeShapes Go.WideShapes Go.ChangeAt Go.RowKit Gu

set_option maxRecDepth 100000 in
theorem natFracEdge_lifted (os : Os) (started : os.Started) (H : Type) (enc : TypeId × Value → H) :
    ReturnsInHanded {} Tryd.checked os 5 .any (fun w args => (Rows.natFracEdgeSpec.pre enc Tryd.prog Tryd.f5 [] false w args ∧ laidMetH Tryd.prog Rows.natFracEdgeRow.laid w) ∧ sizedMet enc Tryd.prog Tryd.f5 (OpenSpec.ofChange Rows.natFracEdgeSpec) false w args)
      (Rows.natFracEdgeSpec.post enc Tryd.prog Tryd.f5 false true false false) := by
  refine returnsInHanded_of_change_and (C := Tryd.checked) (X := fun w _ => laidMetH Tryd.prog Rows.natFracEdgeRow.laid w) (fun _ _ _ hh h => h.of_heap hh) own started (by kernel_rfl) Tryd.func5
    (ChangeSpec.witness_shaped (enc := enc) (C := Tryd.checked) (os := os) (X := fun w _ => laidMetH Tryd.prog Rows.natFracEdgeRow.laid w) false (World.laidAll Tryd.prog os Rows.natFracEdgeRow.laid) #[.int .i64 0, .bool false] 8 (World.laidAll_os _ _ _)
      (World.shaped_of_ZipB (by kernel_rfl) (by kernel_rfl)) (by kernel_rfl) (by kernel_rfl) (by kernel_rfl)
      (by rw [MakeChecks.laidMetH_plain _ _ _ (by kernel_rfl)]; exact laidMet_laidAll _ (by kernel_rfl) (by kernel_rfl))) ?_
  intro W base args ds gs before hval0 hW _ _ hL _
  have hval : ∀ (j : Nat) t v, Tryd.f5.params[j]? = some t → args[j]? = some v → Value.okWide Tryd.prog W .any base t v := hval0
  have hW' := hW
  obtain ⟨p, q, hA0, hV, rfl, hfz, hnd⟩ := hW
  have hA : DataW.TrodAll enc Tryd.prog W 0 (fun _ => true) true Tryd.f5.params.toList args.toList ds p := hA0
  rw [Tryd.params5] at hA hval
  obtain ⟨v0, v1, d0, d1, p0, p1, rfl, rfl, rfl, h0, h1⟩ := trodAll_two hA
  obtain ⟨rfl, rfl⟩ := trodVars_none hV
  obtain ⟨i, rfl, rfl, rfl, wi⟩ := open_int Tryd.underlying3 (hval 0 3 v0 rfl rfl) h0
  obtain ⟨k, rfl, rfl, rfl⟩ := open_bool Tryd.underlying4 (hval 1 4 v1 rfl rfl) h1
  clear hA0 hval0
  simp only [List.append_nil] at hW'
  refine (natFracEdge_walk i k W (env_of_laid (by rfl) hL)).mono fun e W' ⟨he, hb⟩ => ?_
  subst he
  exact ⟨_, rfl, _, _, _, [], _, [], hW', trodAll_mk1 (shut_bool Tryd.underlying4 _),
    trodAll_mk2 (shut_int Tryd.underlying3 wi) (shut_bool Tryd.underlying4 _), rfl, hb.frame _, fun h => by cases h⟩
theorem natFracEdge_holds : Rows.NatFracEdgeSaid :=
  OpenClaim.holds_of_wide 5 Tryd.f5 rfl rfl rfl rfl rfl rfl rfl ⟨rfl, rfl, rfl, rfl, rfl⟩ rfl rfl rfl rfl rfl (by kernel_rfl) Tryd.func5 (by kernel_rfl)
    (of_decide_eq_true (by kernel_rfl)) (by unfold Func.isWrapper; first | (rw [if_pos (by decide +kernel)]; kernel_rfl) | (rw [if_neg (by decide +kernel)]; exact ⟨rfl, rfl⟩))
    (fun os started H enc _ => natFracEdge_lifted os started H enc)
theorem natFracEdge_card_holds : Rows.NatFracEdgeCardSaid :=
  Claim7.holds_tied_plain_at .later [] [.data, .data, .data] true _ false
    natFracEdge_holds (fun _ h => by cases h) (by kernel_rfl) (fun _ h => by cases h) natFracEdge_row_tie rfl ⟨rfl, rfl⟩ (by kernel_rfl) rfl
    (fun f fn hf hfn => by
      obtain rfl : f = 5 := Option.some.inj ((show Tryd.prog.funcNamed "guilloche/guillochelaw01.NatFracEdge" = some 5 by kernel_rfl).symm.trans hf) |>.symm
      obtain rfl : fn = Tryd.f5 := (Option.some.inj (Tryd.func5.symm.trans hfn)).symm
      exact ⟨by kernel_rfl, fun j t ht => by
        rw [Tryd.params5] at ht
        have hm : t ∈ [3, 4] := by simpa using Array.mem_of_getElem? ht
        have hall : ([3, 4].all fun u => !Tryd.prog.wantsStandIn u) = true := by kernel_rfl
        exact (show Tryd.prog.wantsStandIn t = false by simpa using List.all_eq_true.1 hall t hm)⟩)
    (by kernel_rfl)
#print axioms natFracEdge_card_holds
end Go.Proofs.YtepjpegfofhipaaDoor
