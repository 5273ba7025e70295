/- The law SampleSmaller: its walk. -/
import Derived.Test.YteieedfigoihpaaDoorCUa
namespace Go.Proofs.YteieedfigoihpaaDoor
open Go Go.RowKit Gu

theorem risk_yes {x : Int} (h : 0 ≤ x ∧ x ≤ 1000000) : Hid (∀ W, Calls Tryd.prog 37 #[.int .i64 x] W fun e w' => e = .returned (.bool true) ∧ W = w') := fun W => by
  obtain ⟨h1, h2⟩ := h
  have g1 : x ≥ 0 := h1
  go_enter Tryd.func37, Tryd.ntmps37
  go_wp2_with fail
  go_ret
  exact ⟨rfl, rfl⟩
theorem risk_no {x : Int} (h : ¬ (0 ≤ x ∧ x ≤ 1000000)) : Hid (∀ W, Calls Tryd.prog 37 #[.int .i64 x] W fun e w' => e = .returned (.bool false) ∧ W = w') := fun W => by
  by_cases h1 : x ≥ 0
  · have h2 : ¬ x ≤ 1000000 := fun h2 => h ⟨h1, h2⟩
    clear h
    go_enter Tryd.func37, Tryd.ntmps37
    go_wp2_with fail
    go_ret
    exact ⟨rfl, rfl⟩
  · clear h
    go_enter Tryd.func37, Tryd.ntmps37
    go_wp2_with fail
    go_ret
    exact ⟨rfl, rfl⟩
/-- valid arguments of Plan -/
def PlannedP (lot good bad al be : Int) : Prop := (1 ≤ lot ∧ lot ≤ 256) ∧ (0 ≤ good ∧ good < bad ∧ bad ≤ lot) ∧ (0 ≤ al ∧ al ≤ 1000000) ∧ 0 ≤ be ∧ be ≤ 1000000
theorem Planned_yes {lot good bad al be : Int} (h : PlannedP lot good bad al be) : Hid (∀ W, Calls Tryd.prog 19 #[.int .i64 lot, .int .i64 good, .int .i64 bad, .int .i64 al, .int .i64 be] W fun e w' => e = .returned (.bool true) ∧ W = w') := fun W => by
  obtain ⟨⟨h1, h2⟩, ⟨h3, h4, h5⟩, h6, h7⟩ := h
  have g1 : lot ≥ 1 := h1
  have g3 : good ≥ 0 := h3
  have H6 := risk_yes h6
  have H7 := risk_yes h7
  clear h6 h7
  go_enter Tryd.func19, Tryd.ntmps19
  go_wp2_with fail
  refine (H6.out _).mono ?_
  rintro e w' ⟨rfl, rfl⟩
  go_wp2_with fail
  refine (H7.out _).mono ?_
  rintro e w' ⟨rfl, rfl⟩
  go_wp2_with fail
  go_ret
  exact ⟨rfl, rfl⟩
set_option maxHeartbeats 2000000 in
theorem Planned_no {lot good bad al be : Int} (h : ¬ PlannedP lot good bad al be) : Hid (∀ W, Calls Tryd.prog 19 #[.int .i64 lot, .int .i64 good, .int .i64 bad, .int .i64 al, .int .i64 be] W fun e w' => e = .returned (.bool false) ∧ W = w') := fun W => by
  have fin : ∀ (a1 : lot ≥ 1) (a2 : lot ≤ 256) (a3 : good ≥ 0) (a4 : good < bad) (a5 : bad ≤ lot) (a6 : 0 ≤ al ∧ al ≤ 1000000) (a7 : 0 ≤ be ∧ be ≤ 1000000), False := fun a1 a2 a3 a4 a5 a6 a7 => h ⟨⟨a1, a2⟩, ⟨a3, a4, a5⟩, a6, a7⟩
  have HF := Lib.hid fin
  clear h fin
  by_cases h1 : lot ≥ 1
  case neg => go_enter Tryd.func19, Tryd.ntmps19; go_wp2_with fail; go_ret; exact ⟨rfl, rfl⟩
  by_cases h2 : lot ≤ 256
  case neg => go_enter Tryd.func19, Tryd.ntmps19; go_wp2_with fail; go_ret; exact ⟨rfl, rfl⟩
  by_cases h3 : good ≥ 0
  case neg => go_enter Tryd.func19, Tryd.ntmps19; go_wp2_with fail; go_ret; exact ⟨rfl, rfl⟩
  by_cases h4 : good < bad
  case neg => go_enter Tryd.func19, Tryd.ntmps19; go_wp2_with fail; go_ret; exact ⟨rfl, rfl⟩
  by_cases h5 : bad ≤ lot
  case neg => go_enter Tryd.func19, Tryd.ntmps19; go_wp2_with fail; go_ret; exact ⟨rfl, rfl⟩
  by_cases h6 : 0 ≤ al ∧ al ≤ 1000000
  case neg =>
    have H6 := risk_no h6
    clear h6 HF
    go_enter Tryd.func19, Tryd.ntmps19
    go_wp2_with fail
    refine (H6.out _).mono ?_
    rintro e w' ⟨rfl, rfl⟩
    go_wp2_with fail
    go_ret
    exact ⟨rfl, rfl⟩
  have H7 := risk_no fun h7 => HF.out h1 h2 h3 h4 h5 h6 h7
  have H6 := risk_yes h6
  clear h6 HF
  go_enter Tryd.func19, Tryd.ntmps19
  go_wp2_with fail
  refine (H6.out _).mono ?_
  rintro e w' ⟨rfl, rfl⟩
  go_wp2_with fail
  refine (H7.out _).mono ?_
  rintro e w' ⟨rfl, rfl⟩
  go_wp2_with fail
  go_ret
  exact ⟨rfl, rfl⟩
set_option maxRecDepth 100000 in
set_option maxHeartbeats 40000000 in
theorem sampleSmaller_law {lot good bad al be m d : Int} {W : World} (_h0 : -9223372036854775808 ≤ lot ∧ lot ≤ 9223372036854775807) (_h1 : -9223372036854775808 ≤ good ∧ good ≤ 9223372036854775807) (_h2 : -9223372036854775808 ≤ bad ∧ bad ≤ 9223372036854775807) (_h3 : -9223372036854775808 ≤ al ∧ al ≤ 9223372036854775807) (_h4 : -9223372036854775808 ≤ be ∧ be ≤ 9223372036854775807) (_h5 : -9223372036854775808 ≤ m ∧ m ≤ 9223372036854775807) (_h6 : -9223372036854775808 ≤ d ∧ d ≤ 9223372036854775807) (he : Env W) :
    Calls Tryd.prog 7 #[.int .i64 lot, .int .i64 good, .int .i64 bad, .int .i64 al, .int .i64 be, .int .i64 m, .int .i64 d] W fun e w' => e = .returned (.bool true) ∧ Below W.heap.size W w' := by
  have HAW : Hid (∀ W', Below W.heap.size W W' → Calls Tryd.prog 9 #[] W' fun e w' => e = .returned (.bool true) ∧ Hid (Below W'.heap.size W' w')) := fun W' h => sawake_any W' (he.below h)
  clear he _h0 _h1 _h2 _h3 _h4 _h5 _h6
  by_cases hbig : lot > 60
  case pos =>
    go_enter Tryd.func7, Tryd.ntmps7
    go_wp2_with fail
    refine (HAW.out _ (Below.refl _ _)).mono ?_
    rintro e w' ⟨rfl, hb⟩
    go_wp2_with fail
    go_ret
    exact ⟨rfl, hb.out⟩
  by_cases hpl : PlannedP lot good bad al be
  case neg =>
    have HG := Planned_no hpl
    clear hpl
    go_enter Tryd.func7, Tryd.ntmps7
    go_wp2_with fail
    refine (HG.out _).mono ?_
    rintro e w' ⟨rfl, rfl⟩
    go_wp2_with fail
    refine (HAW.out _ (Below.refl _ _)).mono ?_
    rintro e w' ⟨rfl, hb⟩
    go_wp2_with fail
    go_ret
    exact ⟨rfl, hb.out⟩
  have HG := Planned_yes hpl
  obtain ⟨⟨h1, h2⟩, ⟨h3, h4, h5⟩, ⟨h6, h7⟩, h8, h9⟩ := hpl
  obtain ⟨b1, rfl⟩ : ∃ b : Nat, good = (b : Int) := ⟨good.toNat, by omega⟩
  obtain ⟨b2, rfl⟩ : ∃ b : Nat, bad = (b : Int) := ⟨bad.toNat, by omega⟩
  obtain ⟨g2, rfl⟩ : ∃ g : Nat, lot = ((b2 + g : Nat) : Int) := ⟨lot.toNat - b2, by omega⟩
  obtain ⟨a1, rfl⟩ : ∃ b : Nat, al = (b : Int) := ⟨al.toNat, by omega⟩
  obtain ⟨a2, rfl⟩ : ∃ b : Nat, be = (b : Int) := ⟨be.toNat, by omega⟩
  obtain ⟨g1, hg1⟩ : ∃ g : Nat, b1 + g = b2 + g2 := ⟨b2 + g2 - b1, by omega⟩
  have HP : Hid (∀ W', Calls Tryd.prog 20 #[.int .i64 ((b2 + g2 : Nat) : Int), .int .i64 b1, .int .i64 b2, .int .i64 a1, .int .i64 a2] W' fun e w' => ∃ n c : Nat, e = .returned (.tuple #[.int .i64 n, .int .i64 c, .int .i64 0]) ∧
      n ≤ b2 + g2 ∧ LeastC b1 g1 n (1000000 - a1) c ∧ KeepB b2 g2 n a2 c ∧ (∀ m, m < n → ∀ d, LeastC b1 g1 m (1000000 - a1) d → ¬ KeepB b2 g2 m a2 d) ∧ Below W'.heap.size W' w') := fun W' => Plan_any hg1 (by omega) (by omega) (by omega) (by omega)
  have HK : Hid (∀ W' (n c : Nat) (r : Bool), n ≤ b2 + g2 → (r = true ↔ KeepA b1 g1 n (1000000 - a1) c ∧ KeepC b2 g2 n a2 c) → Calls Tryd.prog 21 #[.int .i64 ((b2 + g2 : Nat) : Int), .int .i64 b1, .int .i64 b2, .int .i64 a1, .int .i64 a2, .int .i64 n, .int .i64 c] W' fun e w' => e = .returned (.bool r) ∧ Hid (Below W'.heap.size W' w')) := fun W' n c r hn hr => keeps_any hg1 (by omega) hn (by omega) (by omega) r hr
  obtain ⟨lt, hlt⟩ : ∃ x : Nat, x = b2 + g2 := ⟨_, rfl⟩
  rw [← hlt] at HG HP HK hbig ⊢
  clear h1 h2 h3 h4 h5 h6 h7 h8 h9 hg1 hlt
  go_enter Tryd.func7, Tryd.ntmps7
  go_wp2_with fail
  refine (HG.out _).mono ?_
  rintro e w' ⟨rfl, rfl⟩
  go_wp2_with fail
  refine (HP.out _).mono ?_
  rintro e w1 ⟨n, c, rfl, hn, h1, h2, h3, hb⟩
  have HB := Lib.hid hb
  have HK1 : Hid (∀ W', Calls Tryd.prog 21 #[.int .i64 lt, .int .i64 b1, .int .i64 b2, .int .i64 a1, .int .i64 a2, .int .i64 n, .int .i64 c] W' fun e w' => e = .returned (.bool true) ∧ Hid (Below W'.heap.size W' w')) := fun W' => HK.out W' n c true hn ⟨fun _ => plan_keeps h1 h2, fun _ => rfl⟩
  have HK2 : Hid (∀ W' (k j : Nat), k < n ∨ k = n ∧ j < c → Calls Tryd.prog 21 #[.int .i64 lt, .int .i64 b1, .int .i64 b2, .int .i64 a1, .int .i64 a2, .int .i64 k, .int .i64 j] W' fun e w' => e = .returned (.bool false) ∧ Hid (Below W'.heap.size W' w')) := fun W' k j hk => HK.out W' k j false (by omega) ⟨fun h => absurd h Bool.false_ne_true, fun h => absurd h (plan_smaller h1 h3 hk)⟩
  have t1 : ¬ (n : Int) < 0 := by omega
  have t2 : ¬ (n : Int) > (lt : Int) := by omega
  have t3 : ¬ (c : Int) < 0 := by omega
  have d1 : decide ((n : Int) < 0) = false := decide_eq_false t1
  have d2 : decide ((n : Int) > (lt : Int)) = false := decide_eq_false t2
  have d3 : decide ((c : Int) < 0) = false := decide_eq_false t3
  clear hb h1 h2 h3 hn HK HP HG
  go_wp2_with fail
  refine (HK1.out _).mono ?_
  rintro e w2 ⟨rfl, hb⟩
  have HB2 := Lib.hid (HB.out.trans (hb.out.mono HB.out.size))
  clear hb HB HK1
  by_cases q1 : m < 0
  case pos =>
    go_wp2_with fail
    refine (HAW.out _ HB2.out).mono ?_
    rintro e w' ⟨rfl, hb⟩
    go_wp2_with fail
    go_ret
    exact ⟨rfl, HB2.out.trans (hb.out.mono HB2.out.size)⟩
  by_cases q2 : d < 0
  case pos =>
    go_wp2_with fail
    refine (HAW.out _ HB2.out).mono ?_
    rintro e w' ⟨rfl, hb⟩
    go_wp2_with fail
    go_ret
    exact ⟨rfl, HB2.out.trans (hb.out.mono HB2.out.size)⟩
  obtain ⟨k, rfl⟩ : ∃ k : Nat, m = (k : Int) := ⟨m.toNat, by omega⟩
  obtain ⟨j, rfl⟩ : ∃ j : Nat, d = (j : Int) := ⟨d.toNat, by omega⟩
  have e1 : decide ((k : Int) < 0) = false := decide_eq_false q1
  have e2 : decide ((j : Int) < 0) = false := decide_eq_false q2
  by_cases q3 : (k : Int) > (n : Int)
  case pos =>
    have e3 : decide ((k : Int) > (n : Int)) = true := decide_eq_true q3
    go_wp2_with fail
    refine (HAW.out _ HB2.out).mono ?_
    rintro e w' ⟨rfl, hb⟩
    go_wp2_with fail
    go_ret
    exact ⟨rfl, HB2.out.trans (hb.out.mono HB2.out.size)⟩
  have e3 : decide ((k : Int) > (n : Int)) = false := decide_eq_false q3
  by_cases q4 : (k : Int) = (n : Int)
  case neg =>
    have HK3 := Lib.hid fun W' => HK2.out W' k j (by omega)
    clear HK2
    go_wp2_with fail
    refine (HK3.out _).mono ?_
    rintro e w3 ⟨rfl, hb⟩
    have HB3 := Lib.hid (HB2.out.trans (hb.out.mono HB2.out.size))
    clear hb
    go_wp2_with fail
    refine (HAW.out _ HB3.out).mono ?_
    rintro e w' ⟨rfl, hb⟩
    go_wp2_with fail
    go_ret
    exact ⟨rfl, HB3.out.trans (hb.out.mono HB3.out.size)⟩
  obtain rfl : k = n := by omega
  clear q4
  by_cases q5 : (j : Int) ≥ (c : Int)
  case pos =>
    have e5 : decide ((j : Int) ≥ (c : Int)) = true := decide_eq_true q5
    go_wp2_with fail
    refine (HAW.out _ HB2.out).mono ?_
    rintro e w' ⟨rfl, hb⟩
    go_wp2_with fail
    go_ret
    exact ⟨rfl, HB2.out.trans (hb.out.mono HB2.out.size)⟩
  have e5 : decide ((j : Int) ≥ (c : Int)) = false := decide_eq_false q5
  have HK3 := Lib.hid fun W' => HK2.out W' k j (by omega)
  clear HK2
  go_wp2_with fail
  refine (HK3.out _).mono ?_
  rintro e w3 ⟨rfl, hb⟩
  have HB3 := Lib.hid (HB2.out.trans (hb.out.mono HB2.out.size))
  clear hb
  go_wp2_with fail
  refine (HAW.out _ HB3.out).mono ?_
  rintro e w' ⟨rfl, hb⟩
  go_wp2_with fail
  go_ret
  exact ⟨rfl, HB3.out.trans (hb.out.mono HB3.out.size)⟩
end Go.Proofs.YteieedfigoihpaaDoor
