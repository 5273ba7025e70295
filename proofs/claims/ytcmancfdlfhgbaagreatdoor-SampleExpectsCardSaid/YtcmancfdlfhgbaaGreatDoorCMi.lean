/- The law SampleExpects. -/
import Derived.OrdersHeld
import Derived.Test.YtcmancfdlfhgbaaGreatDoorCMh
import Derived.Test.YtcmancfdlfhgbaaGreatDoorTSz7
import Derived.Test.YtcmancfdlfhgbaaGreatDoorTSz3
import Derived.Deep.RegionHeld3
namespace Go.Proofs.YtcmancfdlfhgbaaGreatDoor
open Go Go.RowKit Gu

/-- what told keeps while it looks, where the denominator may be the zero value -/
structure StU (w : World) (v u r s : Value) (P Q Q0 : Nat) (W : World) : Prop where
  n1 : D W v P
  n2 : D W u Q0
  d1 : R W r P
  d2 : R W s Q
  env : Env W
  bel : Below w.heap.size w W
theorem StU.next {w W W' : World} {v u r s : Value} {P Q Q0 : Nat} (h : StU w v u r s P Q Q0 W) (hb : Below W.heap.size W W') : StU w v u r s P Q Q0 W' :=
  ⟨h.n1.below hb, h.n2.below hb, h.d1.below hb, h.d2.below hb, h.env.below hb, h.bel.trans (hb.mono h.bel.size)⟩
set_option maxHeartbeats 2000000 in
set_option maxRecDepth 100000 in
theorem told_dn (v u r s : Value) (P Q Q0 : Nat) (hdn : dn Q0 = Q) (w : World) (hv : D w v P) (hu : D w u Q0) (hr : R w r P) (hs : R w s Q) (hQ : 0 < Q) (h0 : nd 4294967296 Q0 ≤ 5000) (h1 : nd 65536 P ≤ 5000) (h2 : nd 65536 Q ≤ 5000) (he : Env w) :
    Calls Tryz.prog 16 #[.agg #[v, u], .int .i64 0, .agg #[r, s]] w fun e w' => e = .returned (.bool true) ∧ Below w.heap.size w w' := by
  have k1 := nd_32 h1
  have k2 := nd_32 h2
  obtain ⟨W0, hW0⟩ : ∃ W0 : World, W0 = (w.alloc (.cells #[v, u] 31)).alloc (.cells #[r, s] 38) := ⟨_, rfl⟩
  have hz0 : W0.heap.size = w.heap.size + 2 := by rw [hW0]; simp
  have hbw : Below w.heap.size w W0 := by rw [hW0]; exact ((Below.refl _ _).alloc (Nat.le_refl _) _).alloc (by simp) _
  have hst0 : StU W0 v u r s P Q Q0 W0 := ⟨hv.below hbw, hu.below hbw, hr.below hbw, hs.below hbw, he.below hbw, Below.refl _ _⟩
  have ca : ∀ W, Below W0.heap.size W0 W → W.cell? ⟨w.heap.size, 0, none⟩ = some v ∧ W.cell? ⟨w.heap.size, 1, none⟩ = some u ∧ W.cell? ⟨w.heap.size + 1, 0, none⟩ = some r ∧ W.cell? ⟨w.heap.size + 1, 1, none⟩ = some s := fun W hb => by
    have e0 : W0.cell? ⟨w.heap.size, 0, none⟩ = some v := by rw [hW0]; exact (World.cell?_alloc_past _ _ _ (by simp)).trans (World.cell?_alloc_at _ _ _ _ rfl)
    have e1 : W0.cell? ⟨w.heap.size, 1, none⟩ = some u := by rw [hW0]; exact (World.cell?_alloc_past _ _ _ (by simp)).trans (World.cell?_alloc_at _ _ _ _ rfl)
    have e2 : W0.cell? ⟨w.heap.size + 1, 0, none⟩ = some r := by rw [hW0]; exact World.cell?_alloc_at _ _ _ _ (by simp)
    have e3 : W0.cell? ⟨w.heap.size + 1, 1, none⟩ = some s := by rw [hW0]; exact World.cell?_alloc_at _ _ _ _ (by simp)
    exact ⟨(hb.cell (p := ⟨w.heap.size, 0, none⟩) (by show w.heap.size < _; omega)).trans e0, (hb.cell (p := ⟨w.heap.size, 1, none⟩) (by show w.heap.size < _; omega)).trans e1, (hb.cell (p := ⟨w.heap.size + 1, 0, none⟩) (by show w.heap.size + 1 < _; omega)).trans e2, (hb.cell (p := ⟨w.heap.size + 1, 1, none⟩) (by show w.heap.size + 1 < _; omega)).trans e3⟩
  have HCA : Hid (∀ W, StU W0 v u r s P Q Q0 W → W.cell? ⟨w.heap.size, 0, none⟩ = some v ∧ W.cell? ⟨w.heap.size, 1, none⟩ = some u ∧ W.cell? ⟨w.heap.size + 1, 0, none⟩ = some r ∧ W.cell? ⟨w.heap.size + 1, 1, none⟩ = some s) := fun W h => ca W h.bel
  obtain ⟨S, hS⟩ : ∃ S : ByteArray, S = ⟨(fracText P Q).toArray⟩ := ⟨_, rfl⟩
  have HSA : Hid (∀ W, StU W0 v u r s P Q Q0 W → Calls Tryz.prog 28 #[.agg #[v, u]] W fun e w' => e = .returned (.string S) ∧ StU W0 v u r s P Q Q0 w') := fun W h => by
    have h3 := FracString_any v u P Q0 W h.n1 h.n2 (by omega) (by omega) h.env
    rw [hdn, ← hS] at h3
    exact h3.mono fun e w' ⟨he, hB⟩ => ⟨he, h.next hB⟩
  have HSB : Hid (∀ W, StU W0 v u r s P Q Q0 W → Calls Tryz.prog 41 #[.agg #[r, s]] W fun e w' => e = .returned (.string S) ∧ StU W0 v u r s P Q Q0 w') := fun W h => by
    rw [hS]
    exact (RFText_any r s P Q W h.d1 h.d2 (by omega) (by omega)).mono fun e w' ⟨he, hB⟩ => ⟨he, h.next hB⟩
  have HBW := Lib.hid hbw; have HW0 := Lib.hid hW0
  have hs2 := hst0.next ((Below.refl _ W0).drew)
  have hc0 := HCA.out _ hst0
  have hc2 := HCA.out _ hs2
  obtain ⟨ao, ac, rfl, -⟩ := hv.shape
  obtain ⟨bo, bc, rfl, -⟩ := hu.shape
  obtain ⟨ro, rc, rfl, -⟩ := hr.shape
  obtain ⟨so, sc, rfl, -⟩ := hs.shape
  clear hv hu hr hs hz0 hbw hW0 hS ca he k1 k2 h1 h2 h0 hQ hdn
  generalize nd 4294967296 P = la at *
  generalize nd 4294967296 Q0 = lb at *
  generalize nd 65536 P = lc at *
  generalize nd 65536 Q = ld at *
  go_enter Tryz.func16, Tryz.ntmps16
  go_wp2_with fail
  rw [← HW0.out]
  go_region_held3 (fun W : World => (W.cell? ⟨w.heap.size, 0, none⟩ = some (.slice ao la ac) ∧ W.cell? ⟨w.heap.size, 1, none⟩ = some (.slice bo lb bc) ∧ W.cell? ⟨w.heap.size + 1, 0, none⟩ = some (.slice ro lc rc) ∧ W.cell? ⟨w.heap.size + 1, 1, none⟩ = some (.slice so ld sc)) ∧ StU W0 (.slice ao la ac) (.slice bo lb bc) (.slice ro lc rc) (.slice so ld sc) P Q Q0 W) (first | (refine And.intro ?_ ?_ <;> assumption)) (first
    | (go_at_call 28; with_reducible refine (HSA.out _ ?h).mono ?_; (case h => assumption); rintro e w' ⟨rfl, hs'⟩; have hc' := HCA.out _ hs')
    | (go_at_call 41; with_reducible refine (HSB.out _ ?h).mono ?_; (case h => assumption); rintro e w' ⟨rfl, hs'⟩; have hc' := HCA.out _ hs'))
  all_goals
    have hT : StU W0 (.slice ao la ac) (.slice bo lb bc) (.slice ro lc rc) (.slice so ld sc) P Q Q0 w' := by assumption
    have HBE := Lib.hid (HBW.out.trans (hT.bel.mono HBW.out.size))
    clear hT
    go_wp2
    go_ret
    exact ⟨by simp, HBE.out⟩

set_option maxHeartbeats 1000000 in
theorem Expect_notgood {lot bad n c : Int} {W : World} (h : ¬ GoodP lot bad n 256) :
    Calls Tryz.prog 13 #[.int .i64 lot, .int .i64 bad, .int .i64 n, .int .i64 c] W fun e w' => e = .returned (.tuple #[.agg #[.slice none 0 0, .slice none 0 0], .int .i64 2]) ∧ Below W.heap.size W w' := by
  obtain ⟨w1, HW⟩ : ∃ w1, w1 = W.alloc (.cells #[.slice none 0 0, .slice none 0 0] 31) := ⟨_, rfl⟩
  have hb : Below W.heap.size W w1 := by rw [HW]; exact alloc1_below _ _
  have r1 : Bxs W.heap.size [.slice none 0 0, .slice none 0 0] w1 := by rw [HW]; exact Bxs.new2 _ _ _ _
  obtain ⟨z0, z1⟩ := read_two r1.c0 r1.c1 (.slice none 0 0) (.slice none 0 0)
  have k2 := r1.c0; have k3 := r1.c1; have k4 := r1.f0; have k5 := r1.f1
  have HBE := Lib.hid ((hb.setCell (p := ⟨W.heap.size, 0, none⟩) (Nat.le_refl _) (.slice none 0 0)).setCell (p := ⟨W.heap.size, 1, none⟩) (Nat.le_refl _) (.slice none 0 0))
  have HW' := Lib.hid HW
  clear hb r1 HW
  by_cases h1 : 0 ≤ lot ∧ lot ≤ 256
  · have HF1 := isFrom_is (decide_eq_true h1)
    by_cases h2 : 0 ≤ bad ∧ bad ≤ lot
    · have HF2 := isFrom_is (decide_eq_true h2)
      have HF3 := isFrom_is (decide_eq_false (p := 0 ≤ n ∧ n ≤ lot) (fun h3 => h ⟨h1, h2, h3⟩))
      clear h h1 h2
      go_enter Tryz.func13, Tryz.ntmps13
      go_upto_region 1 with fail
      rw [← HW'.out]
      go_wp2_with fail
      refine (HF1.out _).mono ?_
      rintro e w' ⟨rfl, rfl⟩
      go_wp2_with fail
      refine (HF2.out _).mono ?_
      rintro e w' ⟨rfl, rfl⟩
      go_wp2_with fail
      refine (HF3.out _).mono ?_
      rintro e w' ⟨rfl, rfl⟩
      go_wp2_with fail
      refine bodyPost_ret (v := .tuple #[.agg #[.slice none 0 0, .slice none 0 0], .int .i64 2]) (by simp [results, Tryz.results13, go_sem, z0, z1]) rfl ?_
      exact ⟨rfl, HBE.out⟩
    · have HF2 := isFrom_is (decide_eq_false h2)
      clear h h1 h2
      go_enter Tryz.func13, Tryz.ntmps13
      go_upto_region 1 with fail
      rw [← HW'.out]
      go_wp2_with fail
      refine (HF1.out _).mono ?_
      rintro e w' ⟨rfl, rfl⟩
      go_wp2_with fail
      refine (HF2.out _).mono ?_
      rintro e w' ⟨rfl, rfl⟩
      go_wp2_with fail
      refine bodyPost_ret (v := .tuple #[.agg #[.slice none 0 0, .slice none 0 0], .int .i64 2]) (by simp [results, Tryz.results13, go_sem, z0, z1]) rfl ?_
      exact ⟨rfl, HBE.out⟩
  · have HF1 := isFrom_is (decide_eq_false h1)
    clear h h1
    go_enter Tryz.func13, Tryz.ntmps13
    go_upto_region 1 with fail
    rw [← HW'.out]
    go_wp2_with fail
    refine (HF1.out _).mono ?_
    rintro e w' ⟨rfl, rfl⟩
    go_wp2_with fail
    refine bodyPost_ret (v := .tuple #[.agg #[.slice none 0 0, .slice none 0 0], .int .i64 2]) (by simp [results, Tryz.results13, go_sem, z0, z1]) rfl ?_
    exact ⟨rfl, HBE.out⟩
set_option maxHeartbeats 1000000 in
theorem Expect_neg {lot bad n c : Int} {W : World} (h : GoodP lot bad n 256) (hc : c < 0) :
    Calls Tryz.prog 13 #[.int .i64 lot, .int .i64 bad, .int .i64 n, .int .i64 c] W fun e w' => e = .returned (.tuple #[.agg #[.slice none 0 0, .slice none 0 0], .int .i64 2]) ∧ Below W.heap.size W w' := by
  obtain ⟨w1, HW⟩ : ∃ w1, w1 = W.alloc (.cells #[.slice none 0 0, .slice none 0 0] 31) := ⟨_, rfl⟩
  have hb : Below W.heap.size W w1 := by rw [HW]; exact alloc1_below _ _
  have r1 : Bxs W.heap.size [.slice none 0 0, .slice none 0 0] w1 := by rw [HW]; exact Bxs.new2 _ _ _ _
  obtain ⟨z0, z1⟩ := read_two r1.c0 r1.c1 (.slice none 0 0) (.slice none 0 0)
  have k2 := r1.c0; have k3 := r1.c1; have k4 := r1.f0; have k5 := r1.f1
  have HBE := Lib.hid ((hb.setCell (p := ⟨W.heap.size, 0, none⟩) (Nat.le_refl _) (.slice none 0 0)).setCell (p := ⟨W.heap.size, 1, none⟩) (Nat.le_refl _) (.slice none 0 0))
  have HW' := Lib.hid HW
  clear hb r1 HW
  obtain ⟨h1, h2, h3⟩ := h
  have HF1 := isFrom_is (decide_eq_true h1)
  have HF2 := isFrom_is (decide_eq_true h2)
  have HF3 := isFrom_is (decide_eq_true h3)
  clear h1 h2 h3
  go_enter Tryz.func13, Tryz.ntmps13
  go_upto_region 1 with fail
  rw [← HW'.out]
  go_wp2_with fail
  refine (HF1.out _).mono ?_
  rintro e w' ⟨rfl, rfl⟩
  go_wp2_with fail
  refine (HF2.out _).mono ?_
  rintro e w' ⟨rfl, rfl⟩
  go_wp2_with fail
  refine (HF3.out _).mono ?_
  rintro e w' ⟨rfl, rfl⟩
  go_wp2_with fail
  refine bodyPost_ret (v := .tuple #[.agg #[.slice none 0 0, .slice none 0 0], .int .i64 2]) (by simp [results, Tryz.results13, go_sem, z0, z1]) rfl ?_
  exact ⟨rfl, HBE.out⟩
set_option maxRecDepth 100000 in
set_option maxHeartbeats 1000000 in
theorem RExpect_closed (p q g b m : Nat) (c : Int) (hl : p + q ≤ 40) (hm : m ≤ p + q) (hm2 : m ≤ 6) (hgb : g + b ≤ 40) (hc : (m : Int) ≤ c ∨ c < 0) (hc0 : -1 ≤ c) (hc1 : c + b ≤ 9223372036854775807) (W : World) :
    Calls Tryz.prog 17 #[.int .i64 ((g + b + p + q : Nat) : Int), .int .i64 ((b + p : Nat) : Int), .int .i64 ((g + b + m : Nat) : Int), .int .i64 (c + b), .int .i64 (g : Int), .int .i64 (b : Int)] W (ExpR p q m c W) := by
  obtain ⟨lot, hlot⟩ : ∃ x : Nat, x = g + b + p + q := ⟨_, rfl⟩
  obtain ⟨bad, hbad⟩ : ∃ x : Nat, x = b + p := ⟨_, rfl⟩
  obtain ⟨n, hn⟩ : ∃ x : Nat, x = g + b + m := ⟨_, rfl⟩
  obtain ⟨d, hd⟩ : ∃ x : Int, x = c + b := ⟨_, rfl⟩
  rw [← hlot, ← hbad, ← hn, ← hd]
  have N1 := num_is 1 (by decide)
  have w1 : IntKind.i64.wrap ((n : Int) - d) = (n : Int) - d := IntWalk.i64_in _ (by omega)
  obtain ⟨v1, HW⟩ : ∃ w1, w1 = W.alloc (.cells #[.slice none 0 0, .slice none 0 0] 38) := ⟨_, rfl⟩
  have hb : Below W.heap.size W v1 := by rw [HW]; exact alloc1_below _ _
  have r1 : Bxs W.heap.size [.slice none 0 0, .slice none 0 0] v1 := by rw [HW]; exact Bxs.new2 _ _ _ _
  have HX : Hid (∀ w' (ro : Option Addr) (rl rc : Nat), R w' (.slice ro rl rc) 1 → Below W.heap.size W w' → ExpR p q m c W (.returned (.agg #[.slice none 0 0, .slice ro rl rc])) w') := fun w' ro rl rc h1 h2 => ExpR.none hm hc h1 h2
  have HB := Lib.hid hb; have HR := Lib.hid r1; have HW' := Lib.hid HW
  have hcc : (g : Int) ≥ (n : Int) - d ∨ (b : Int) > d := by omega
  clear hb r1 HW hlot hbad hn hd hc hc0 hc1 hm hl
  by_cases t1 : (g : Int) ≥ (n : Int) - d
  · have d1 : decide ((g : Int) ≥ (n : Int) - d) = true := decide_eq_true t1
    clear hcc
    go_enter Tryz.func17, Tryz.ntmps17
    go_upto_region 1 with fail
    rw [← HW'.out]
    go_wp2_with fail
    refine (N1.out _).mono ?_
    rintro e v2 ⟨ro, rl, rc, rfl, hr, hb⟩
    obtain ⟨v3, HW3⟩ : ∃ w, w = v2.alloc (.cells #[.slice none 0 0, .slice ro rl rc] 38) := ⟨_, rfl⟩
    have b3 : Below v2.heap.size v2 v3 := by rw [HW3]; exact alloc1_below _ _
    have x3 : Bxs v2.heap.size [.slice none 0 0, .slice ro rl rc] v3 := by rw [HW3]; exact Bxs.new2 _ _ _ _
    have b13 := hb.trans (b3.mono hb.size)
    have z := HR.out.next b13
    have k0 := x3.c0; have k1 := x3.c1; have k2 := z.c0; have k3 := z.c1; have k4 := z.f0; have k5 := z.f1
    obtain ⟨z0, z1⟩ := read_two z.c0 z.c1 (.slice none 0 0) (.slice ro rl rc)
    have HF := Lib.hid (HX.out _ ro rl rc (IsN_setTwo (hr.below b3) z.c0 z.c1 (by intro d h; cases h) (by intro d h; cases h) (.slice none 0 0) (.slice ro rl rc)) (((HB.out.trans (b13.mono HB.out.size)).setCell (p := ⟨W.heap.size, 0, none⟩) (Nat.le_refl _) (.slice none 0 0)).setCell (p := ⟨W.heap.size, 1, none⟩) (Nat.le_refl _) (.slice ro rl rc)))
    have HW3' := Lib.hid HW3
    clear hr hb b3 x3 b13 z HW3 HX
    go_upto_region 2 with fail
    rw [← HW3'.out]
    go_wp2_with fail
    refine bodyPost_ret (v := .agg #[.slice none 0 0, .slice ro rl rc]) (by simp [results, Tryz.results17, go_sem, z0, z1]) rfl ?_
    exact HF.out
  · have t2 : (b : Int) > d := hcc.resolve_left t1
    have d1 : decide ((g : Int) ≥ (n : Int) - d) = false := decide_eq_false t1
    have d2 : decide ((b : Int) > d) = true := decide_eq_true t2
    clear hcc
    go_enter Tryz.func17, Tryz.ntmps17
    go_upto_region 1 with fail
    rw [← HW'.out]
    go_wp2_with fail
    refine (N1.out _).mono ?_
    rintro e v2 ⟨ro, rl, rc, rfl, hr, hb⟩
    obtain ⟨v3, HW3⟩ : ∃ w, w = v2.alloc (.cells #[.slice none 0 0, .slice ro rl rc] 38) := ⟨_, rfl⟩
    have b3 : Below v2.heap.size v2 v3 := by rw [HW3]; exact alloc1_below _ _
    have x3 : Bxs v2.heap.size [.slice none 0 0, .slice ro rl rc] v3 := by rw [HW3]; exact Bxs.new2 _ _ _ _
    have b13 := hb.trans (b3.mono hb.size)
    have z := HR.out.next b13
    have k0 := x3.c0; have k1 := x3.c1; have k2 := z.c0; have k3 := z.c1; have k4 := z.f0; have k5 := z.f1
    obtain ⟨z0, z1⟩ := read_two z.c0 z.c1 (.slice none 0 0) (.slice ro rl rc)
    have HF := Lib.hid (HX.out _ ro rl rc (IsN_setTwo (hr.below b3) z.c0 z.c1 (by intro d h; cases h) (by intro d h; cases h) (.slice none 0 0) (.slice ro rl rc)) (((HB.out.trans (b13.mono HB.out.size)).setCell (p := ⟨W.heap.size, 0, none⟩) (Nat.le_refl _) (.slice none 0 0)).setCell (p := ⟨W.heap.size, 1, none⟩) (Nat.le_refl _) (.slice ro rl rc)))
    have HW3' := Lib.hid HW3
    clear hr hb b3 x3 b13 z HW3 HX
    go_upto_region 2 with fail
    rw [← HW3'.out]
    go_wp2_with fail
    refine bodyPost_ret (v := .agg #[.slice none 0 0, .slice ro rl rc]) (by simp [results, Tryz.results17, go_sem, z0, z1]) rfl ?_
    exact HF.out
theorem RExpect_all : ∀ (m p q g b : Nat) (c : Int), p + q ≤ 40 → m ≤ p + q → m ≤ 6 → g + b + m ≤ 6 → -1 ≤ c → c + b ≤ 9223372036854775807 → ∀ W : World,
    Calls Tryz.prog 17 #[.int .i64 ((g + b + p + q : Nat) : Int), .int .i64 ((b + p : Nat) : Int), .int .i64 ((g + b + m : Nat) : Int), .int .i64 (c + b), .int .i64 (g : Int), .int .i64 (b : Int)] W (ExpR p q m c W)
  | 0, p, q, g, b, c, h1, h2, h3, h4, h5, h6, W => RExpect_closed p q g b 0 c h1 h2 h3 (by omega) (by omega) h5 h6 W
  | m + 1, p, q, g, b, c, h1, h2, h3, h4, h5, h6, W => by
    by_cases hc : ((m + 1 : Nat) : Int) ≤ c ∨ c < 0
    · exact RExpect_closed p q g b (m + 1) c h1 h2 h3 (by omega) hc h5 h6 W
    · have a1 : 0 ≤ c := by omega
      have a2 : c < (m : Int) + 1 := by omega
      refine RExpect_open p q g b (p + q) m c rfl h1 h2 h3 a1 a2 (by omega) W (fun hp W' => ?_) (fun hq W' => ?_)
      · have := RExpect_all m (p - 1) q g (b + 1) (c - 1) (by omega) (by omega) (by omega) (by omega) (by omega) (by omega) W'
        rw [show g + (b + 1) + (p - 1) + q = g + b + p + q by omega, show b + 1 + (p - 1) = b + p by omega, show g + (b + 1) + m = g + b + (m + 1) by omega, show c - 1 + ((b + 1 : Nat) : Int) = c + b by omega] at this
        exact this
      · have := RExpect_all m p (q - 1) (g + 1) b c (by omega) (by omega) (by omega) (by omega) h5 h6 W'
        rw [show g + 1 + b + p + (q - 1) = g + b + p + q by omega, show g + 1 + b + m = g + b + (m + 1) by omega] at this
        exact this
theorem den_nd {Q Q0 : Nat} (h : dn Q0 = Q) (h2 : nd 65536 Q ≤ 5000) : nd 4294967296 Q0 ≤ 5000 := by
  unfold dn at h
  split at h
  · rename_i h0; rw [h0, nd_zero]; omega
  · rw [h]; exact nd_32 h2
/-- a denominator, the zero value standing for 1 -/
def DenQ (Q : Nat) (W : World) (v : Value) : Prop := ∃ Q0, D W v Q0 ∧ dn Q0 = Q
theorem DenQ.next {Q : Nat} {W W' : World} {v : Value} (h : DenQ Q W v) (hb : Below W.heap.size W W') : DenQ Q W' v := by
  obtain ⟨Q0, a, b⟩ := h
  exact ⟨Q0, a.below hb, b⟩
set_option maxRecDepth 100000 in
set_option maxHeartbeats 4000000 in
theorem sampleExpects_law {lot bad n c : Int} {W : World} (_hl : (-9223372036854775808 ≤ lot ∧ lot ≤ 9223372036854775807)) (_hb : (-9223372036854775808 ≤ bad ∧ bad ≤ 9223372036854775807)) (_hn : (-9223372036854775808 ≤ n ∧ n ≤ 9223372036854775807)) (hc : (-9223372036854775808 ≤ c ∧ c ≤ 9223372036854775807)) (he : Env W) :
    Calls Tryz.prog 4 #[.int .i64 lot, .int .i64 bad, .int .i64 n, .int .i64 c] W fun e w' => e = .returned (.bool true) ∧ Below W.heap.size W w' := by
  have HAW : Hid (∀ W', Below W.heap.size W W' → Calls Tryz.prog 9 #[] W' fun e w' => e = .returned (.bool true) ∧ Hid (Below W'.heap.size W' w')) := fun W' h => sawake_any W' (he.below h)
  have HE := Lib.hid he
  have HC := Lib.hid hc
  clear _hl _hb _hn hc he
  by_cases hA : lot > 40 ∧ lot ≤ 256
  case pos =>
    obtain ⟨s1, s2⟩ := hA
    go_enter Tryz.func4, Tryz.ntmps4
    go_wp2_with fail
    refine (HAW.out _ (Below.refl _ _)).mono ?_
    rintro e w' ⟨rfl, hb⟩
    go_wp2_with fail
    go_ret
    exact ⟨rfl, hb.out⟩
  by_cases hB : lot ≤ 40 ∧ n > 6 ∧ n ≤ lot
  case pos =>
    obtain ⟨s1, s2, s3⟩ := hB
    have s4 : ¬ lot > 40 := by omega
    go_enter Tryz.func4, Tryz.ntmps4
    go_wp2_with fail
    refine (HAW.out _ (Below.refl _ _)).mono ?_
    rintro e w' ⟨rfl, hb⟩
    go_wp2_with fail
    go_ret
    exact ⟨rfl, hb.out⟩
  by_cases hv : GoodP lot bad n 256 ∧ 0 ≤ c
  case neg =>
    have HA2 : Hid (∀ W', Calls Tryz.prog 13 #[.int .i64 lot, .int .i64 bad, .int .i64 n, .int .i64 c] W' fun e w' => e = .returned (.tuple #[.agg #[.slice none 0 0, .slice none 0 0], .int .i64 2]) ∧ Below W'.heap.size W' w') := fun W' => by
      by_cases h : GoodP lot bad n 256
      · exact Expect_neg h (Int.lt_of_not_ge fun h2 => hv ⟨h, h2⟩)
      · exact Expect_notgood h
    have HRF : Hid (∀ W', Below W.heap.size W W' → Calls Tryz.prog 15 #[.agg #[.slice none 0 0, .slice none 0 0], .int .i64 2] W' fun e w' => e = .returned (.bool true) ∧ Hid (Below W'.heap.size W' w')) := fun W' h => refused_ok W' (HE.out.below h)
    have hx : ∃ r : Bool, Hid (∀ W, Calls Tryz.prog 14 #[.int .i64 lot, .int .i64 bad, .int .i64 n, .int .i64 256] W fun e w' => e = .returned (.bool r) ∧ W = w') ∧ (r = true → c < 0) := by
      by_cases h : GoodP lot bad n 256
      · exact ⟨true, Good_yes h, fun _ => Int.lt_of_not_ge fun h2 => hv ⟨h, h2⟩⟩
      · exact ⟨false, Good_no h, fun h => by cases h⟩
    obtain ⟨r, HG, hrc⟩ := hx
    have HRC := Lib.hid hrc
    clear hv HC hrc
    go_enter Tryz.func4, Tryz.ntmps4
    go_upto_region 1 with fail
    go_cut [29] from 11 to 30 (fun s29 wz => s29 = .bool false ∧ W = wz)
    case first =>
      by_cases s1 : lot > 40
      · have s2 : ¬ lot ≤ 256 := fun h => hA ⟨s1, h⟩
        have s3 : ¬ lot ≤ 40 := by omega
        clear hA hB
        go_wp2_with fail
        go_meet
        case rel => exact ⟨rfl, rfl⟩
      · have s3 : lot ≤ 40 := by omega
        by_cases s4 : n > 6
        · have s5 : ¬ n ≤ lot := fun h => hB ⟨s3, s4, h⟩
          clear hA hB
          go_wp2_with fail
          go_meet
          case rel => exact ⟨rfl, rfl⟩
        · clear hA hB
          go_wp2_with fail
          go_meet
          case rel => exact ⟨rfl, rfl⟩
    case rest =>
      obtain ⟨rfl, rfl⟩ := hcut
      go_wp2_with fail
      refine (HA2.out _).mono ?_
      rintro e v1 ⟨rfl, hb⟩
      obtain ⟨v2, HW2⟩ : ∃ w2, w2 = v1.alloc (.cells #[.slice none 0 0, .slice none 0 0] 31) := ⟨_, rfl⟩
      have b2 : Below v1.heap.size v1 v2 := by rw [HW2]; exact alloc1_below _ _
      have HX := Lib.hid (show Bxs v1.heap.size [.slice none 0 0, .slice none 0 0] v2 by rw [HW2]; exact Bxs.new2 _ _ _ _)
      have HB := Lib.hid (hb.trans (b2.mono hb.size)); have HW' := Lib.hid HW2
      clear hb b2 HW2 HA2
      go_upto_region 4 with fail
      rw [← HW'.out]
      cases r with
      | true =>
        have hcn : c < 0 := HRC.out rfl
        go_wp2_with fail
        refine (HG.out _).mono ?_
        rintro e w' ⟨rfl, rfl⟩
        have k0 := HX.out.c0; have k1 := HX.out.c1
        go_wp2_with fail
        refine (HRF.out _ HB.out).mono ?_
        rintro e w3 ⟨rfl, hb⟩
        have HB3 := Lib.hid (HB.out.trans (hb.out.mono HB.out.size))
        clear hb k0 k1
        go_wp2_with fail
        refine (HAW.out _ HB3.out).mono ?_
        rintro e w4 ⟨rfl, hb⟩
        go_wp2_with fail
        go_ret
        exact ⟨rfl, HB3.out.trans (hb.out.mono HB3.out.size)⟩
      | false =>
        go_wp2_with fail
        refine (HG.out _).mono ?_
        rintro e w' ⟨rfl, rfl⟩
        have k0 := HX.out.c0; have k1 := HX.out.c1
        go_wp2_with fail
        refine (HRF.out _ HB.out).mono ?_
        rintro e w3 ⟨rfl, hb⟩
        have HB3 := Lib.hid (HB.out.trans (hb.out.mono HB.out.size))
        clear hb k0 k1
        go_wp2_with fail
        refine (HAW.out _ HB3.out).mono ?_
        rintro e w4 ⟨rfl, hb⟩
        go_wp2_with fail
        go_ret
        exact ⟨rfl, HB3.out.trans (hb.out.mono HB3.out.size)⟩
  obtain ⟨hgood, hc0⟩ := hv
  have HG := Good_yes hgood
  obtain ⟨⟨h1, h2⟩, ⟨h3, h4⟩, h5, h6⟩ := hgood
  have hl40 : lot ≤ 40 := by omega
  have hn6 : n ≤ 6 := by omega
  obtain ⟨b, rfl⟩ : ∃ b : Nat, bad = b := ⟨bad.toNat, by omega⟩
  obtain ⟨g, rfl⟩ : ∃ g : Nat, lot = ((b + g : Nat) : Int) := ⟨lot.toNat - b, by omega⟩
  obtain ⟨m, rfl⟩ : ∃ m : Nat, n = m := ⟨n.toNat, by omega⟩
  have hm : m ≤ b + g := by omega
  have hbg : b + g ≤ 40 := by omega
  have hm6 : m ≤ 6 := by omega
  have hq := eS_QN (b := b) (g := g) (k := m) (n := (m : Int)) (c := c) (by omega) hm hbg hm6
  obtain ⟨P, hP⟩ : ∃ x, x = lowP (eS b g m c m) (eM (b + g) m) := ⟨_, rfl⟩
  obtain ⟨Q, hQ⟩ : ∃ x, x = lowQ (eS b g m c m) (eM (b + g) m) := ⟨_, rfl⟩
  have hQ0 : 0 < Q := by rw [hQ]; exact lowQ_pos hq.1
  have p1 : nd 65536 P ≤ 5000 := Nat.le_trans (R.nd (k := 243) (by rw [hP]; exact Nat.le_trans (lowP_le _ _) hq.2.1) (by decide)) (by decide)
  have p2 : nd 65536 Q ≤ 5000 := Nat.le_trans (R.nd (k := 243) (by rw [hQ]; exact Nat.le_trans (lowQ_le _ _) hq.2.2.1) (by decide)) (by decide)
  have HA2 : Hid (∀ W', Calls Tryz.prog 13 #[.int .i64 ((b + g : Nat) : Int), .int .i64 b, .int .i64 m, .int .i64 c] W' fun e w' => ∃ ao al ac bo bl bc, e = .returned (.tuple #[.agg #[.slice ao al ac, .slice bo bl bc], .int .i64 0]) ∧ D w' (.slice ao al ac) P ∧ DenQ Q w' (.slice bo bl bc) ∧ Below W'.heap.size W' w') := fun W' => by
    refine (Expect_dn (b := b) (g := g) (n := m) (c := c) (W := W') (by omega) hm hc0 HC.out.2).mono fun e w' ⟨ao, al, ac, bo, bl, bc, e1, e2, ⟨Q0, e3, e4, _⟩, e5⟩ => ⟨ao, al, ac, bo, bl, bc, e1, by rw [hP]; exact e2, ⟨Q0, e3, by rw [hQ]; exact e4⟩, e5⟩
  have HRX : Hid (∀ W', Calls Tryz.prog 17 #[.int .i64 ((b + g : Nat) : Int), .int .i64 b, .int .i64 m, .int .i64 c, .int .i64 0, .int .i64 0] W' fun e w' => ∃ ro rl rc so sl sc, e = .returned (.agg #[.slice ro rl rc, .slice so sl sc]) ∧ Hid (R w' (.slice ro rl rc) P ∧ R w' (.slice so sl sc) Q) ∧ Below W'.heap.size W' w') := fun W' => by
    have := RExpect_all m b g 0 0 c hbg hm hm6 (by omega) (by omega) (by have := HC.out; omega) W'
    rw [show 0 + 0 + b + g = b + g by omega, show 0 + b = b by omega, show 0 + 0 + m = m by omega, show c + ((0 : Nat) : Int) = c by omega] at this
    refine this.mono fun e w' ⟨ao, al, ac, bo, bl, bc, e1, e2, e3, e4⟩ => ⟨ao, al, ac, bo, bl, bc, e1, ⟨by rw [hP]; exact e2, by rw [hQ]; exact e3⟩, e4⟩
  have HTO : Hid (∀ W' v u r s, Below W.heap.size W W' → D W' v P → DenQ Q W' u → R W' r P → R W' s Q → Calls Tryz.prog 16 #[.agg #[v, u], .int .i64 0, .agg #[r, s]] W' fun e w' => e = .returned (.bool true) ∧ Hid (Below W'.heap.size W' w')) := fun W' v u r s h g1 ⟨Q0, g2, g3⟩ g4 g5 => told_dn v u r s P Q Q0 g3 W' g1 g2 g4 g5 hQ0 (den_nd g3 p2) p1 p2 (HE.out.below h)
  obtain ⟨lt, hlt⟩ : ∃ lt : Nat, lt = b + g := ⟨_, rfl⟩
  rw [show ((b + g : Nat) : Int) = (lt : Int) by rw [hlt]] at HG HA2 HRX hA hB ⊢
  have hc00 : ¬ c < 0 := by omega
  clear hlt hP hQ p1 p2 hQ0 hq hm hbg hm6 h1 h2 h3 h4 h5 h6 HC HE hl40 hn6 hc0
  go_enter Tryz.func4, Tryz.ntmps4
  go_upto_region 1 with fail
  go_cut [29] from 11 to 30 (fun s29 wz => s29 = .bool false ∧ W = wz)
  case first =>
    by_cases s1 : (lt : Int) > 40
    · have s2 : ¬ (lt : Int) ≤ 256 := fun h => hA ⟨s1, h⟩
      have s3 : ¬ (lt : Int) ≤ 40 := by omega
      clear hA hB
      go_wp2_with fail
      go_meet
      case rel => exact ⟨rfl, rfl⟩
    · have s3 : (lt : Int) ≤ 40 := by omega
      by_cases s4 : (m : Int) > 6
      · have s5 : ¬ (m : Int) ≤ (lt : Int) := fun h => hB ⟨s3, s4, h⟩
        clear hA hB
        go_wp2_with fail
        go_meet
        case rel => exact ⟨rfl, rfl⟩
      · clear hA hB
        go_wp2_with fail
        go_meet
        case rel => exact ⟨rfl, rfl⟩
  case rest =>
    obtain ⟨rfl, rfl⟩ := hcut
    go_wp2_with fail
    refine (HA2.out _).mono ?_
    rintro e v1 ⟨ao, aj, ac, bo, bl, bc, rfl, hp, hq, hb⟩
    obtain ⟨v2, HW2⟩ : ∃ w2, w2 = v1.alloc (.cells #[.slice ao aj ac, .slice bo bl bc] 31) := ⟨_, rfl⟩
    have b2 : Below v1.heap.size v1 v2 := by rw [HW2]; exact alloc1_below _ _
    have HX := Lib.hid (show Bxs v1.heap.size [.slice ao aj ac, .slice bo bl bc] v2 by rw [HW2]; exact Bxs.new2 _ _ _ _)
    have HP := Lib.hid (hp.below b2); have HQ := Lib.hid (hq.next b2)
    have HB := Lib.hid (hb.trans (b2.mono hb.size)); have HW' := Lib.hid HW2
    clear hp hq hb b2 HW2
    go_upto_region 4 with fail
    rw [← HW'.out]
    go_wp2_with fail
    refine (HG.out _).mono ?_
    rintro e w' ⟨rfl, rfl⟩
    have HCE : Hid (∀ W', Kw v2 W' → W'.cell? ⟨v1.heap.size, 0, none⟩ = some (.slice ao aj ac) ∧ W'.cell? ⟨v1.heap.size, 1, none⟩ = some (.slice bo bl bc)) := fun W' h => ⟨(HX.out.next h).c0, (HX.out.next h).c1⟩
    have HR1 : Hid (∀ W', Kw v2 W' → Calls Tryz.prog 17 #[.int .i64 lt, .int .i64 b, .int .i64 m, .int .i64 c, .int .i64 0, .int .i64 0] W' fun e w' => ∃ ro rl rc so sl sc, e = .returned (.agg #[.slice ro rl rc, .slice so sl sc]) ∧ Hid (R w' (.slice ro rl rc) P ∧ R w' (.slice so sl sc) Q) ∧ Kw v2 w') := fun W' h => (HRX.out W').mono fun e w' ⟨ro, rl, rc, so, sl, sc, e1, e2, e4⟩ => ⟨ro, rl, rc, so, sl, sc, e1, e2, Kw.next h e4⟩
    have HT1 : Hid (∀ W' x y, Kw v2 W' → (R W' x P ∧ R W' y Q) → Calls Tryz.prog 16 #[.agg #[.slice ao aj ac, .slice bo bl bc], .int .i64 0, .agg #[x, y]] W' fun e w' => e = .returned (.bool true) ∧ Kw v2 w') := fun W' x y h hr =>
      (HTO.out W' _ _ _ _ (HB.out.trans (Below.mono h HB.out.size)) (HP.out.below h) (HQ.out.next h) hr.1 hr.2).mono fun e w' ⟨h1, h2⟩ => ⟨h1, Kw.next h h2.out⟩
    have HW1 : Hid (∀ W', Kw v2 W' → Calls Tryz.prog 9 #[] W' fun e w' => e = .returned (.bool true) ∧ Kw v2 w') := fun W' h =>
      (HAW.out W' (HB.out.trans (Below.mono h HB.out.size))).mono fun e w' ⟨h1, h2⟩ => ⟨h1, Kw.next h h2.out⟩
    go_upto_region 6 with fail
    have hs : Kw v2 v2 := Below.refl _ _
    have hs2 : Kw v2 v2.drew := Below.drew hs
    have hc0 := HCE.out _ hs
    have hc1 := HCE.out _ hs2
    clear HTO HRX HG HA2 HAW HX HP HQ HW'
    go_region_held3 (fun W' : World => (W'.cell? ⟨v1.heap.size, 0, none⟩ = some (.slice ao aj ac) ∧ W'.cell? ⟨v1.heap.size, 1, none⟩ = some (.slice bo bl bc)) ∧ Kw v2 W') (first | (refine And.intro ?_ ?_ <;> assumption) | fail) (first | (go_at_call 17; with_reducible refine (HR1.out _ ?h).mono ?_; (case h => assumption); rintro e w' ⟨eo, el, ec, fo, fl, fc, rfl, hd1, hs3⟩; have hc3 := HCE.out _ hs3) | (go_at_call 16; with_reducible refine (HT1.out _ _ _ ?h ?h2).mono ?_; (case h => assumption); (case h2 => exact hd1.out); rintro e w' ⟨rfl, hs4⟩; have hc4 := HCE.out _ hs4) | (go_at_call 9; with_reducible refine (HW1.out _ ?h).mono ?_; (case h => assumption); rintro e w' ⟨rfl, hs5⟩; have hc5 := HCE.out _ hs5) | fail)
    all_goals
      have HS := Lib.hid hs5
      clear hs5 hc5
      go_wp2_with fail
      go_ret
      exact ⟨by first | rfl | simp, HB.out.trans (Below.mono HS.out HB.out.size)⟩
end Go.Proofs.YtcmancfdlfhgbaaGreatDoor
