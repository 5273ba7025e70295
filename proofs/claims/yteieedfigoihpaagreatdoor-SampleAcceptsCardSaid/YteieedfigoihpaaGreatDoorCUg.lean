/- The law SampleAccepts. -/
import Derived.OrdersHeld
import Derived.Test.YteieedfigoihpaaGreatDoorCUf
import Derived.Test.YteieedfigoihpaaGreatDoorTSz3
namespace Go.Proofs.YteieedfigoihpaaGreatDoor
open Go Go.RowKit Gu

set_option maxRecDepth 100000 in
set_option maxHeartbeats 8000000 in
theorem sampleAccepts_law {lot bad n c : Int} {W : World} (_hl : -9223372036854775808 ≤ lot ∧ lot ≤ 9223372036854775807) (_hb : -9223372036854775808 ≤ bad ∧ bad ≤ 9223372036854775807) (_hn : -9223372036854775808 ≤ n ∧ n ≤ 9223372036854775807) (hc : -9223372036854775808 ≤ c ∧ c ≤ 9223372036854775807) (he : Env W) :
    Calls Tryz.prog 3 #[.int .i64 lot, .int .i64 bad, .int .i64 n, .int .i64 c] W fun e w' => e = .returned (.bool true) ∧ Below W.heap.size W w' := by
  have HAW : Hid (∀ W', Below W.heap.size W W' → Calls Tryz.prog 5 #[] W' fun e w' => e = .returned (.bool true) ∧ Hid (Below W'.heap.size W' w')) := fun W' h => sawake_any W' (he.below h)
  have HE := Lib.hid he
  have HC := Lib.hid hc
  clear _hl _hb _hn hc he
  by_cases hskip : lot > 60 ∧ lot ≤ 2048
  case pos =>
    obtain ⟨s1, s2⟩ := hskip
    go_enter Tryz.func3, Tryz.ntmps3
    go_wp2_with fail
    refine (HAW.out _ (Below.refl _ _)).mono ?_
    rintro e w' ⟨rfl, hb⟩
    go_wp2_with fail
    go_ret
    exact ⟨rfl, hb.out⟩
  by_cases hgood : GoodP lot bad n 2048
  case neg =>
    have HG := Good_no hgood
    have HA : Hid (∀ W', Calls Tryz.prog 6 #[.int .i64 lot, .int .i64 bad, .int .i64 n, .int .i64 c] W' fun e w' => e = .returned (.tuple #[.agg #[.slice none 0 0, .slice none 0 0], .int .i64 2]) ∧ Below W'.heap.size W' w') := fun W' => Accept_bad hgood
    clear hgood HC
    have HRF : Hid (∀ W', Below W.heap.size W W' → Calls Tryz.prog 8 #[.agg #[.slice none 0 0, .slice none 0 0], .int .i64 2] W' fun e w' => e = .returned (.bool true) ∧ Hid (Below W'.heap.size W' w')) := fun W' h => refused_ok W' (HE.out.below h)
    by_cases s1 : lot > 60
    case pos =>
      have s2 : ¬ lot ≤ 2048 := fun s2 => hskip ⟨s1, s2⟩
      clear hskip
      go_enter Tryz.func3, Tryz.ntmps3
      go_wp2_with fail
      refine (HA.out _).mono ?_
      rintro e v1 ⟨rfl, hb⟩
      obtain ⟨v2, HW2⟩ : ∃ w2, w2 = v1.alloc (.cells #[.slice none 0 0, .slice none 0 0] 26) := ⟨_, rfl⟩
      have b2 : Below v1.heap.size v1 v2 := by rw [HW2]; exact alloc1_below _ _
      have HX := Lib.hid (show Bxs v1.heap.size [.slice none 0 0, .slice none 0 0] v2 by rw [HW2]; exact Bxs.new2 _ _ _ _)
      have HB := Lib.hid (hb.trans (b2.mono hb.size)); have HW' := Lib.hid HW2
      clear hb b2 HW2
      go_upto_region 4 with fail
      rw [← HW'.out]
      go_wp2_with fail
      refine (HG.out _).mono ?_
      rintro e w' ⟨rfl, rfl⟩
      have k0 := HX.out.c0; have k1 := HX.out.c1
      go_wp2_with fail
      refine (HRF.out _ HB.out).mono ?_
      rintro e w3 ⟨rfl, hb⟩
      have HB3 := Lib.hid (HB.out.trans (hb.out.mono HB.out.size))
      clear hb k0 k1
      go_wp2_with fail
      refine (HAW.out _ HB3.out).mono ?_
      rintro e w4 ⟨rfl, hb⟩
      go_wp2_with fail
      go_ret
      exact ⟨rfl, HB3.out.trans (hb.out.mono HB3.out.size)⟩
    case neg =>
      clear hskip
      go_enter Tryz.func3, Tryz.ntmps3
      go_wp2_with fail
      refine (HA.out _).mono ?_
      rintro e v1 ⟨rfl, hb⟩
      obtain ⟨v2, HW2⟩ : ∃ w2, w2 = v1.alloc (.cells #[.slice none 0 0, .slice none 0 0] 26) := ⟨_, rfl⟩
      have b2 : Below v1.heap.size v1 v2 := by rw [HW2]; exact alloc1_below _ _
      have HX := Lib.hid (show Bxs v1.heap.size [.slice none 0 0, .slice none 0 0] v2 by rw [HW2]; exact Bxs.new2 _ _ _ _)
      have HB := Lib.hid (hb.trans (b2.mono hb.size)); have HW' := Lib.hid HW2
      clear hb b2 HW2
      go_upto_region 4 with fail
      rw [← HW'.out]
      go_wp2_with fail
      refine (HG.out _).mono ?_
      rintro e w' ⟨rfl, rfl⟩
      have k0 := HX.out.c0; have k1 := HX.out.c1
      go_wp2_with fail
      refine (HRF.out _ HB.out).mono ?_
      rintro e w3 ⟨rfl, hb⟩
      have HB3 := Lib.hid (HB.out.trans (hb.out.mono HB.out.size))
      clear hb k0 k1
      go_wp2_with fail
      refine (HAW.out _ HB3.out).mono ?_
      rintro e w4 ⟨rfl, hb⟩
      go_wp2_with fail
      go_ret
      exact ⟨rfl, HB3.out.trans (hb.out.mono HB3.out.size)⟩
  have HG := Good_yes hgood
  obtain ⟨⟨h1, h2⟩, ⟨h3, h4⟩, h5, h6⟩ := hgood
  have s1 : ¬ lot > 60 := fun s1 => hskip ⟨s1, h2⟩
  clear hskip
  obtain ⟨b, rfl⟩ : ∃ b : Nat, bad = b := ⟨bad.toNat, by omega⟩
  obtain ⟨g, rfl⟩ : ∃ g : Nat, lot = ((b + g : Nat) : Int) := ⟨lot.toNat - b, by omega⟩
  obtain ⟨m, rfl⟩ : ∃ m : Nat, n = m := ⟨n.toNat, by omega⟩
  have hm : m ≤ b + g := by omega
  have hbg : b + g ≤ 60 := by omega
  have HA : Hid (∀ W', Calls Tryz.prog 6 #[.int .i64 ((b + g : Nat) : Int), .int .i64 b, .int .i64 m, .int .i64 c] W' fun e w' => ∃ ao al ac bo bl bc, e = .returned (.tuple #[.agg #[.slice ao al ac, .slice bo bl bc], .int .i64 0]) ∧
      D w' (.slice ao al ac) (lowP (accS b g m c) (pascalN (b + g) m)) ∧ D w' (.slice bo bl bc) (lowQ (accS b g m c) (pascalN (b + g) m)) ∧ Below W'.heap.size W' w') := fun W' => Accept_any (by omega) hm
  have HRA : Hid (∀ W', Calls Tryz.prog 10 #[.int .i64 ((b + g : Nat) : Int), .int .i64 b, .int .i64 m, .int .i64 c] W' fun e w' => ∃ r s, e = .returned (.agg #[r, s]) ∧ R w' r (lowP (accS b g m c) (pascalN (b + g) m)) ∧ R w' s (lowQ (accS b g m c) (pascalN (b + g) m)) ∧ Below W'.heap.size W' w') := fun W' => RAccept_any hbg hm HC.out.2
  have hp : pascalN (b + g) m ≤ 2 ^ 60 := Nat.le_trans (pascalN_le _ _) (Nat.pow_le_pow_right (by decide) hbg)
  have hq : accS b g m c ≤ 2 ^ 60 := Nat.le_trans (accS_le _ _ _ _) hp
  have hM0 : 0 < pascalN (b + g) m := pascalN_pos hm
  obtain ⟨P, hP⟩ : ∃ x, x = lowP (accS b g m c) (pascalN (b + g) m) := ⟨_, rfl⟩
  obtain ⟨Q, hQ⟩ : ∃ x, x = lowQ (accS b g m c) (pascalN (b + g) m) := ⟨_, rfl⟩
  have p1 : nd 65536 P ≤ 5000 := Nat.le_trans (n60 (by rw [hP]; exact Nat.le_trans (lowP_le _ _) hq)) (by decide)
  have p2 : nd 65536 Q ≤ 5000 := Nat.le_trans (n60 (by rw [hQ]; exact Nat.le_trans (lowQ_le _ _) hp)) (by decide)
  have p3 : 0 < Q := by rw [hQ]; exact lowQ_pos hM0
  rw [← hP, ← hQ] at HA HRA
  have HTO : Hid (∀ W' v u r s, Below W.heap.size W W' → D W' v P → D W' u Q → R W' r P → R W' s Q → Calls Tryz.prog 9 #[.agg #[v, u], .int .i64 0, .agg #[r, s]] W' fun e w' => e = .returned (.bool true) ∧ Hid (Below W'.heap.size W' w')) := fun W' v u r s h g1 g2 g3 g4 => told_ok v u r s P Q W' g1 g2 g3 g4 p3 p1 p2 (HE.out.below h)
  obtain ⟨lt, hlt⟩ : ∃ lt : Nat, lt = b + g := ⟨_, rfl⟩
  rw [← hlt] at HG HA HRA s1 ⊢
  clear hlt hP hQ p1 p2 p3 hp hq hM0 hm hbg h1 h2 h3 h4 h5 h6 HC HE
  go_enter Tryz.func3, Tryz.ntmps3
  go_wp2_with fail
  refine (HA.out _).mono ?_
  rintro e v1 ⟨ao, aj, ac, bo, bl, bc, rfl, hp, hq, hb⟩
  obtain ⟨v2, HW2⟩ : ∃ w2, w2 = v1.alloc (.cells #[.slice ao aj ac, .slice bo bl bc] 26) := ⟨_, rfl⟩
  have b2 : Below v1.heap.size v1 v2 := by rw [HW2]; exact alloc1_below _ _
  have HX := Lib.hid (show Bxs v1.heap.size [.slice ao aj ac, .slice bo bl bc] v2 by rw [HW2]; exact Bxs.new2 _ _ _ _)
  have HP := Lib.hid (hp.below b2); have HQ := Lib.hid (hq.below b2)
  have HB := Lib.hid (hb.trans (b2.mono hb.size)); have HW' := Lib.hid HW2
  clear hp hq hb b2 HW2
  go_upto_region 4 with fail
  rw [← HW'.out]
  go_wp2_with fail
  refine (HG.out _).mono ?_
  rintro e w' ⟨rfl, rfl⟩
  have HCE : Hid (∀ W', Kw v2 W' → W'.cell? ⟨v1.heap.size, 0, none⟩ = some (.slice ao aj ac) ∧ W'.cell? ⟨v1.heap.size, 1, none⟩ = some (.slice bo bl bc)) := fun W' h => ⟨(HX.out.next h).c0, (HX.out.next h).c1⟩
  have HR1 : Hid (∀ W', Kw v2 W' → Calls Tryz.prog 10 #[.int .i64 lt, .int .i64 b, .int .i64 m, .int .i64 c] W' fun e w' => ∃ ro rl rc so sl sc, e = .returned (.agg #[.slice ro rl rc, .slice so sl sc]) ∧ Hid (R w' (.slice ro rl rc) P ∧ R w' (.slice so sl sc) Q) ∧ Kw v2 w') := fun W' h => (HRA.out W').mono fun e w' ⟨r, s, e1, e2, e3, e4⟩ => by
    obtain ⟨ro, rc, rfl, -⟩ := e2.shape
    obtain ⟨so, sc, rfl, -⟩ := e3.shape
    exact ⟨_, _, _, _, _, _, e1, ⟨e2, e3⟩, Kw.next h e4⟩
  have HT1 : Hid (∀ W' x y, Kw v2 W' → (R W' x P ∧ R W' y Q) → Calls Tryz.prog 9 #[.agg #[.slice ao aj ac, .slice bo bl bc], .int .i64 0, .agg #[x, y]] W' fun e w' => e = .returned (.bool true) ∧ Kw v2 w') := fun W' x y h hr =>
    (HTO.out W' _ _ _ _ (HB.out.trans (Below.mono h HB.out.size)) (HP.out.below h) (HQ.out.below h) hr.1 hr.2).mono fun e w' ⟨h1, h2⟩ => ⟨h1, Kw.next h h2.out⟩
  have HW1 : Hid (∀ W', Kw v2 W' → Calls Tryz.prog 5 #[] W' fun e w' => e = .returned (.bool true) ∧ Kw v2 w') := fun W' h =>
    (HAW.out W' (HB.out.trans (Below.mono h HB.out.size))).mono fun e w' ⟨h1, h2⟩ => ⟨h1, Kw.next h h2.out⟩
  go_upto_region 6 with fail
  have hs : Kw v2 v2 := Below.refl _ _
  have hs2 : Kw v2 v2.drew := Below.drew hs
  have hc0 := HCE.out _ hs
  have hc1 := HCE.out _ hs2
  clear HTO HRA HG HA HAW HX HP HQ HW'
  go_region_held3 (fun W' : World => (W'.cell? ⟨v1.heap.size, 0, none⟩ = some (.slice ao aj ac) ∧ W'.cell? ⟨v1.heap.size, 1, none⟩ = some (.slice bo bl bc)) ∧ Kw v2 W') (first | (refine And.intro ?_ ?_ <;> assumption) | fail) (first | (go_at_call 10; with_reducible refine (HR1.out _ ?h).mono ?_; (case h => assumption); rintro e w' ⟨eo, el, ec, fo, fl, fc, rfl, hd1, hs3⟩; have hc3 := HCE.out _ hs3) | (go_at_call 9; with_reducible refine (HT1.out _ _ _ ?h ?h2).mono ?_; (case h => assumption); (case h2 => exact hd1.out); rintro e w' ⟨rfl, hs4⟩; have hc4 := HCE.out _ hs4) | (go_at_call 5; with_reducible refine (HW1.out _ ?h).mono ?_; (case h => assumption); rintro e w' ⟨rfl, hs5⟩; have hc5 := HCE.out _ hs5) | fail)
  all_goals
    have HS := Lib.hid hs5
    clear hs5 hc5
    go_wp2_with fail
    go_ret
    exact ⟨by first | rfl | simp, HB.out.trans (Below.mono HS.out HB.out.size)⟩
end Go.Proofs.YteieedfigoihpaaGreatDoor
