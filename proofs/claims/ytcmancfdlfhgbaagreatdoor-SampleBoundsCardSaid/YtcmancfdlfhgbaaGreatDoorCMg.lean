/- The law SampleBounds: Bound where its arguments are not valid; the document's Bound; the walk. -/
import Derived.Test.YtcmancfdlfhgbaaGreatDoorTSz5
import Derived.Test.YtcmancfdlfhgbaaGreatDoorTSz7
namespace Go.Proofs.YtcmancfdlfhgbaaGreatDoor
open Go Go.RowKit Gu

theorem boxes4z (W : World) (a b c d : Int) (T : TypeId) : ∃ w1, w1 = (((W.alloc (.cells #[.int .i64 a] T)).alloc (.cells #[.int .i64 b] T)).alloc (.cells #[.int .i64 c] T)).alloc (.cells #[.int .i64 d] T) ∧ Below W.heap.size W w1 ∧
    w1.cell? ⟨W.heap.size, 0, none⟩ = some (.int .i64 a) ∧ w1.cell? ⟨W.heap.size + 1, 0, none⟩ = some (.int .i64 b) ∧ w1.cell? ⟨W.heap.size + 1 + 1, 0, none⟩ = some (.int .i64 c) ∧ w1.cell? ⟨W.heap.size + 1 + 1 + 1, 0, none⟩ = some (.int .i64 d) := by
  obtain ⟨wa, ha⟩ : ∃ w, w = W.alloc (.cells #[.int .i64 a] T) := ⟨_, rfl⟩
  obtain ⟨wb, hb⟩ : ∃ w, w = wa.alloc (.cells #[.int .i64 b] T) := ⟨_, rfl⟩
  obtain ⟨wc, hc⟩ : ∃ w, w = wb.alloc (.cells #[.int .i64 c] T) := ⟨_, rfl⟩
  obtain ⟨wd, hd⟩ : ∃ w, w = wc.alloc (.cells #[.int .i64 d] T) := ⟨_, rfl⟩
  have sa : wa.heap.size = W.heap.size + 1 := by rw [ha, World.size_alloc]
  have sb : wb.heap.size = W.heap.size + 1 + 1 := by rw [hb, World.size_alloc, sa]
  have sc : wc.heap.size = W.heap.size + 1 + 1 + 1 := by rw [hc, World.size_alloc, sb]
  have ba : Below W.heap.size W wa := by rw [ha]; exact alloc1_below _ _
  have bb : Below wa.heap.size wa wb := by rw [hb]; exact alloc1_below _ _
  have bc : Below wb.heap.size wb wc := by rw [hc]; exact alloc1_below _ _
  have bd : Below wc.heap.size wc wd := by rw [hd]; exact alloc1_below _ _
  have na : Nx W.heap.size (.int .i64 a) wa := by rw [ha]; exact Nx.new W _ _
  have nb : Nx wa.heap.size (.int .i64 b) wb := by rw [hb]; exact Nx.new wa _ _
  have nc : Nx wb.heap.size (.int .i64 c) wc := by rw [hc]; exact Nx.new wb _ _
  have nd' : Nx wc.heap.size (.int .i64 d) wd := by rw [hd]; exact Nx.new wc _ _
  have e0 := ((na.next bb).next bc).next bd
  have e1 := (nb.next bc).next bd
  have e2 := nc.next bd
  rw [sa] at e1
  rw [sb] at e2
  rw [sc] at nd'
  exact ⟨wd, by rw [hd, hc, hb, ha], ba.trans ((bb.trans ((bc.trans (bd.mono bc.size)).mono bb.size)).mono ba.size), e0.c0, e1.c0, e2.c0, nd'.c0⟩
theorem isRisk_no {x : Int} (h : ¬ (0 ≤ x ∧ x ≤ 1000000)) : Hid (∀ W', Calls Tryz.prog 30 #[.int .i64 x] W' fun e w' => e = .returned (.bool false) ∧ W' = w') := fun W' => by
  have := isRisk_any x W'
  rwa [decide_eq_false h] at this
set_option maxHeartbeats 1000000 in
set_option maxRecDepth 100000 in
theorem Bound_bad {lot n fnd risk : Int} {W : World} (h : ¬ BoundedP lot n fnd risk) :
    Calls Tryz.prog 10 #[.int .i64 lot, .int .i64 n, .int .i64 fnd, .int .i64 risk] W fun e w' => e = .returned (.tuple #[.int .i64 0, .int .i64 2]) ∧ Hid (Below W.heap.size W w') := by
  obtain ⟨w1, HW, hb, c0, c1, c2, c3⟩ := boxes4z W lot n fnd risk 3
  have HB : Hid (Below W.heap.size W w1) := hb
  have HW' := Lib.hid HW
  clear hb HW
  by_cases h1 : 0 ≤ lot ∧ lot ≤ 256
  case neg =>
    have HF1 := isFrom_is (decide_eq_false h1)
    clear h h1
    go_enter Tryz.func10, Tryz.ntmps10
    go_upto_region 1 with fail
    rw [← HW'.out]
    go_wp2_with fail
    refine (HF1.out _).mono ?_
    rintro e w' ⟨rfl, rfl⟩
    go_wp2_with fail
    refine bodyPost_ret (v := .tuple #[.int .i64 0, .int .i64 2]) (by simp [results, Tryz.results10, go_sem]) rfl ?_
    exact ⟨rfl, HB⟩
  have HF1 := isFrom_is (decide_eq_true h1)
  by_cases h2 : 0 ≤ n ∧ n ≤ lot
  case neg =>
    have HF2 := isFrom_is (decide_eq_false h2)
    clear h h1 h2
    go_enter Tryz.func10, Tryz.ntmps10
    go_upto_region 1 with fail
    rw [← HW'.out]
    go_wp2_with fail
    refine (HF1.out _).mono ?_
    rintro e w' ⟨rfl, rfl⟩
    go_wp2_with fail
    refine (HF2.out _).mono ?_
    rintro e w' ⟨rfl, rfl⟩
    go_wp2_with fail
    refine bodyPost_ret (v := .tuple #[.int .i64 0, .int .i64 2]) (by simp [results, Tryz.results10, go_sem]) rfl ?_
    exact ⟨rfl, HB⟩
  have HF2 := isFrom_is (decide_eq_true h2)
  by_cases h3 : 0 ≤ fnd ∧ fnd ≤ n
  case neg =>
    have HF3 := isFrom_is (decide_eq_false h3)
    clear h h1 h2 h3
    go_enter Tryz.func10, Tryz.ntmps10
    go_upto_region 1 with fail
    rw [← HW'.out]
    go_wp2_with fail
    refine (HF1.out _).mono ?_
    rintro e w' ⟨rfl, rfl⟩
    go_wp2_with fail
    refine (HF2.out _).mono ?_
    rintro e w' ⟨rfl, rfl⟩
    go_wp2_with fail
    refine (HF3.out _).mono ?_
    rintro e w' ⟨rfl, rfl⟩
    go_wp2_with fail
    refine bodyPost_ret (v := .tuple #[.int .i64 0, .int .i64 2]) (by simp [results, Tryz.results10, go_sem]) rfl ?_
    exact ⟨rfl, HB⟩
  have HF3 := isFrom_is (decide_eq_true h3)
  have HR := isRisk_no (fun h4 => h ⟨h1, h2, h3, h4⟩)
  clear h h1 h2 h3
  go_enter Tryz.func10, Tryz.ntmps10
  go_upto_region 1 with fail
  rw [← HW'.out]
  go_wp2_with fail
  refine (HF1.out _).mono ?_
  rintro e w' ⟨rfl, rfl⟩
  go_wp2_with fail
  refine (HF2.out _).mono ?_
  rintro e w' ⟨rfl, rfl⟩
  go_wp2_with fail
  refine (HF3.out _).mono ?_
  rintro e w' ⟨rfl, rfl⟩
  go_wp2_with fail
  refine (HR.out _).mono ?_
  rintro e w' ⟨rfl, rfl⟩
  go_wp2_with fail
  refine bodyPost_ret (v := .tuple #[.int .i64 0, .int .i64 2]) (by simp [results, Tryz.results10, go_sem]) rfl ?_
  exact ⟨rfl, HB⟩
/-- the best number found so far -/
def BestI (fnd K k best : Nat) : Prop := fnd ≤ k ∧ fnd ≤ best ∧ best ≤ K ∧ (K < k → best = K)
set_option maxRecDepth 100000 in
set_option maxHeartbeats 2000000 in
theorem RBound_any {lot n fnd risk K : Nat} {W : World} (hl : lot ≤ 60) (hn : n ≤ lot) (hf : fnd ≤ n) (hr : risk ≤ 1000000) (hK : BoundK lot n fnd risk K) :
    Calls Tryz.prog 12 #[.int .i64 lot, .int .i64 n, .int .i64 fnd, .int .i64 risk] W fun e w' => e = .returned (.int .i64 K) ∧ Hid (Below W.heap.size W w') := by
  obtain ⟨top, htop⟩ : ∃ top : Nat, top = lot - n + fnd := ⟨_, rfl⟩
  have htl : top ≤ lot := by omega
  obtain ⟨M, hM⟩ : ∃ M, M = pascalN lot n := ⟨_, rfl⟩
  have p2 : M ≤ 2 ^ 60 := by rw [hM]; exact Nat.le_trans (pascalN_le _ _) (Nat.pow_le_pow_right (by decide) hl)
  have z1 : 0 < M := by rw [hM]; exact pascalN_pos hn
  have hacc : ∀ y, y ≤ top → accS y (lot - y) n fnd ≤ 2 ^ 60 := fun y hy => Nat.le_trans (accS_le _ _ _ _) (by rw [show y + (lot - y) = lot by omega, ← hM]; exact p2)
  have e6 : (1000000 : Nat) ≤ 2 ^ 60 := by decide
  have HA : Hid (∀ W' (y : Nat), y ≤ top → Calls Tryz.prog 36 #[.int .i64 lot, .int .i64 y, .int .i64 n, .int .i64 fnd] W' fun e w' => ∃ r s, e = .returned (.agg #[r, s]) ∧ R w' r (lowP (accS y (lot - y) n fnd) M) ∧ R w' s (lowQ (accS y (lot - y) n fnd) M) ∧ Below W'.heap.size W' w') := fun W' y hy => by
    have := RAccept_any (b := y) (g := lot - y) (n := n) (c := (fnd : Int)) (w := W') (by omega) (by omega) (by omega)
    rw [show y + (lot - y) = lot by omega, ← hM] at this
    exact this
  have HRI : Hid (∀ W', Calls Tryz.prog 38 #[.int .i64 risk] W' fun e w' => ∃ r s, e = .returned (.agg #[r, s]) ∧ R w' r (lowP risk 1000000) ∧ R w' s (lowQ risk 1000000) ∧ Below W'.heap.size W' w') := fun W' => Risk_any risk W' hr
  have HCM : Hid (∀ y, y ≤ top → ∀ W' v u x z, R W' v (lowP (accS y (lot - y) n fnd) M) → R W' u (lowQ (accS y (lot - y) n fnd) M) → R W' x (lowP risk 1000000) → R W' z (lowQ risk 1000000) → Calls Tryz.prog 37 #[.agg #[v, u], .agg #[x, z]] W' fun e w' => ∃ R : Int, e = .returned (.int .i64 R) ∧ Hid (R ≤ 0 ↔ ¬ OKB lot n fnd risk y) ∧ Below W'.heap.size W' w') := fun y hy W' v u x z g1 g2 g3 g4 => by
    refine (RCmp_low g1 g2 g3 g4 z1 (by decide) (hacc y hy) p2 (Nat.le_trans hr e6) e6).mono fun e w' ⟨h1, h2⟩ => ⟨_, h1, ?_, h2⟩
    show _ ↔ _
    unfold OKB
    rw [cmp_le, ← hM, Nat.mul_comm risk M]
    omega
  have HB1 : Hid (∀ k best, k ≤ top → BestI fnd K k best → OKB lot n fnd risk k → BestI fnd K (k + 1) k) := fun k best hk hb ho => by
    obtain ⟨a, -, b, c⟩ := hb
    obtain ⟨k1, k2, k3, k4⟩ := hK
    have h1 : k ≤ K := Nat.le_of_not_lt fun h => k4 k h (by omega) ho
    exact ⟨by omega, a, h1, fun h => by omega⟩
  have HB2 : Hid (∀ k best, k ≤ top → BestI fnd K k best → ¬ OKB lot n fnd risk k → BestI fnd K (k + 1) best) := fun k best hk hb ho => by
    obtain ⟨a, b, c, d⟩ := hb
    obtain ⟨k1, k2, k3, k4⟩ := hK
    refine ⟨by omega, b, c, fun h => ?_⟩
    rcases Nat.eq_or_lt_of_le (Nat.le_of_lt_succ h) with h | h
    · subst h
      have : ¬ fnd < K := fun h => ho (k3 h)
      omega
    · exact d h
  have HB0 : Hid (BestI fnd K fnd fnd) := ⟨Nat.le_refl _, Nat.le_refl _, hK.1, fun h => absurd h (Nat.not_lt_of_le hK.1)⟩
  have HBE : Hid (∀ k best, ¬ k ≤ top → BestI fnd K k best → best = K) := fun k best hk hb => hb.2.2.2 (by have := hK.2.1; omega)
  have HKB : Hid (∀ k best, BestI fnd K k best → fnd ≤ k ∧ best ≤ lot) := fun k best h => ⟨h.1, by have := hK.2.1; have := h.2.2.1; omega⟩
  have hw1 : IntKind.i64.wrap ((lot : Int) - n) = (lot : Int) - n := IntWalk.i64_in _ (by omega)
  have hw2 : IntKind.i64.wrap ((lot : Int) - n + fnd) = (top : Int) := by rw [IntWalk.i64_in _ (by omega)]; omega
  have htop2 : top ≤ 60 := by omega
  have hft : fnd ≤ top := by omega
  clear hM z1 p2 hacc e6 hr hK htop htl hl hn hf
  go_enter Tryz.func12, Tryz.ntmps12
  go_wp2_with fail
  go_loopw [9, 10] (fun s9 s10 wr => ∃ k best : Nat, k ≤ top + 1 ∧ s10 = .int .i64 k ∧ s9 = .int .i64 best ∧ Hid (BestI fnd K k best) ∧ Hid (Below W.heap.size W wr)) (fun _ s10 _ => top + 1 - (intOf s10).toNat)
  case atStart => exact ⟨fnd, fnd, by omega, rfl, rfl, HB0, Below.refl _ _⟩
  case round =>
    obtain ⟨k, best, hk, rfl, rfl, HBI, HW⟩ := hrel
    by_cases q : k ≤ top
    · have q1 : (k : Int) ≤ (top : Int) := by omega
      have dq : decide ((k : Int) ≤ (top : Int)) = true := decide_eq_true q1
      have hk1 : IntKind.i64.wrap ((k : Int) + 1) = ((k + 1 : Nat) : Int) := by rw [IntWalk.i64_in _ (by omega)]; omega
      have HA2 := Lib.hid fun W' => HA.out W' k q
      go_wp2_with fail
      refine (HA2.out _).mono ?_
      rintro e w1 ⟨u, v, rfl, hu, hv, hb⟩
      obtain ⟨uo, uc, rfl, -⟩ := hu.shape
      obtain ⟨vo, vc, rfl, -⟩ := hv.shape
      have HU := Lib.hid hu; have HV := Lib.hid hv; have HB := Lib.hid (HW.out.trans (hb.mono HW.out.size))
      clear hu hv hb HA2
      go_wp2_with fail
      refine (HRI.out _).mono ?_
      rintro e w2 ⟨x, y, rfl, hx, hy, hb⟩
      obtain ⟨xo, xc, rfl, -⟩ := hx.shape
      obtain ⟨yo, yc, rfl, -⟩ := hy.shape
      have HC := Lib.hid (HCM.out k q _ _ _ _ _ (HU.out.below hb) (HV.out.below hb) hx hy)
      have HB2 := Lib.hid (HB.out.trans (hb.mono HB.out.size))
      clear hx hy hb HU HV HB
      go_wp2_with fail
      refine HC.out.mono ?_
      rintro e w3 ⟨R, rfl, hR, hb⟩
      have HB3 := Lib.hid (HB2.out.trans (hb.mono HB2.out.size))
      clear hb HB2 HC
      by_cases qo : OKB lot n fnd risk k
      · have hR0 : R > 0 := Int.lt_of_not_ge fun h => hR.out.1 h qo
        have dR : decide (R > 0) = true := decide_eq_true hR0
        have HNX := Lib.hid (HB1.out k best q HBI.out qo)
        clear qo hR
        go_wp2_with fail
        go_roundw
        case rel => exact ⟨k + 1, k, by omega, rfl, rfl, HNX, HB3⟩
        case measure => simp [intOf]; omega
      · have hR0 : ¬ R > 0 := fun h => by have := hR.out.2 qo; omega
        have dR : decide (R > 0) = false := decide_eq_false hR0
        have HNX := Lib.hid (HB2.out k best q HBI.out qo)
        clear qo hR
        go_wp2_with fail
        go_roundw
        case rel => exact ⟨k + 1, best, by omega, rfl, rfl, HNX, HB3⟩
        case measure => simp [intOf]; omega
    · have q1 : ¬ (k : Int) ≤ (top : Int) := by omega
      have dq : decide ((k : Int) ≤ (top : Int)) = false := decide_eq_false q1
      have HE := Lib.hid (HBE.out k best q HBI.out)
      go_wp2_with fail
      go_ret
      exact ⟨by rw [HE.out]; rfl, HW⟩
set_option maxRecDepth 100000 in
set_option maxHeartbeats 4000000 in
theorem sampleBounds_law {lot n fnd risk : Int} {W : World} (_h0 : -9223372036854775808 ≤ lot ∧ lot ≤ 9223372036854775807) (_h1 : -9223372036854775808 ≤ n ∧ n ≤ 9223372036854775807) (_h2 : -9223372036854775808 ≤ fnd ∧ fnd ≤ 9223372036854775807) (_h3 : -9223372036854775808 ≤ risk ∧ risk ≤ 9223372036854775807) (he : Env W) :
    Calls Tryz.prog 3 #[.int .i64 lot, .int .i64 n, .int .i64 fnd, .int .i64 risk] W fun e w' => e = .returned (.bool true) ∧ Below W.heap.size W w' := by
  have HAW : Hid (∀ W', Below W.heap.size W W' → Calls Tryz.prog 9 #[] W' fun e w' => e = .returned (.bool true) ∧ Hid (Below W'.heap.size W' w')) := fun W' h => sawake_any W' (he.below h)
  clear he _h0 _h1 _h2 _h3
  by_cases hmid : lot > 24 ∧ lot ≤ 256
  case pos =>
    obtain ⟨m1, m2⟩ := hmid
    go_enter Tryz.func3, Tryz.ntmps3
    go_wp2_with fail
    refine (HAW.out _ (Below.refl _ _)).mono ?_
    rintro e w' ⟨rfl, hb⟩
    go_wp2_with fail
    go_ret
    exact ⟨rfl, hb.out⟩
  by_cases hbd : BoundedP lot n fnd risk
  case neg =>
    have HG := Bounded_no hbd
    have HBB : Hid (∀ W', Calls Tryz.prog 10 #[.int .i64 lot, .int .i64 n, .int .i64 fnd, .int .i64 risk] W' fun e w' => e = .returned (.tuple #[.int .i64 0, .int .i64 2]) ∧ Hid (Below W'.heap.size W' w')) := fun W' => Bound_bad hbd
    clear hbd
    by_cases m1 : lot > 24
    · have m2 : ¬ lot ≤ 256 := fun h => hmid ⟨m1, h⟩
      clear hmid
      go_enter Tryz.func3, Tryz.ntmps3
      go_wp2_with fail
      refine (HBB.out _).mono ?_
      rintro e w1 ⟨rfl, hb⟩
      go_wp2_with fail
      refine (HG.out _).mono ?_
      rintro e w' ⟨rfl, rfl⟩
      go_wp2_with fail
      refine (HAW.out _ hb.out).mono ?_
      rintro e w2 ⟨rfl, hb2⟩
      go_wp2_with fail
      go_ret
      exact ⟨rfl, hb.out.trans (hb2.out.mono hb.out.size)⟩
    · clear hmid
      go_enter Tryz.func3, Tryz.ntmps3
      go_wp2_with fail
      refine (HBB.out _).mono ?_
      rintro e w1 ⟨rfl, hb⟩
      go_wp2_with fail
      refine (HG.out _).mono ?_
      rintro e w' ⟨rfl, rfl⟩
      go_wp2_with fail
      refine (HAW.out _ hb.out).mono ?_
      rintro e w2 ⟨rfl, hb2⟩
      go_wp2_with fail
      go_ret
      exact ⟨rfl, hb.out.trans (hb2.out.mono hb.out.size)⟩
  have HG := Bounded_yes hbd
  obtain ⟨⟨h1, h2⟩, ⟨h3, h4⟩, ⟨h5, h6⟩, h7, h8⟩ := hbd
  have m1 : ¬ lot > 24 := fun h => hmid ⟨h, h2⟩
  clear hmid
  obtain ⟨lot, rfl⟩ : ∃ b : Nat, lot = (b : Int) := ⟨lot.toNat, by omega⟩
  obtain ⟨n, rfl⟩ : ∃ b : Nat, n = (b : Int) := ⟨n.toNat, by omega⟩
  obtain ⟨fnd, rfl⟩ : ∃ b : Nat, fnd = (b : Int) := ⟨fnd.toNat, by omega⟩
  obtain ⟨risk, rfl⟩ : ∃ b : Nat, risk = (b : Int) := ⟨risk.toNat, by omega⟩
  have HBD : Hid (∀ W', Calls Tryz.prog 10 #[.int .i64 lot, .int .i64 n, .int .i64 fnd, .int .i64 risk] W' fun e w' => ∃ k : Nat, e = .returned (.tuple #[.int .i64 k, .int .i64 0]) ∧ Hid (BoundK lot n fnd risk k) ∧ Hid (Below W'.heap.size W' w')) := fun W' => Bound_any (by omega) (by omega) (by omega) (by omega)
  have HRB : Hid (∀ W' K, BoundK lot n fnd risk K → Calls Tryz.prog 12 #[.int .i64 lot, .int .i64 n, .int .i64 fnd, .int .i64 risk] W' fun e w' => e = .returned (.int .i64 K) ∧ Hid (Below W'.heap.size W' w')) := fun W' K h => RBound_any (by omega) (by omega) (by omega) (by omega) h
  clear h1 h2 h3 h4 h5 h6 h7 h8
  go_enter Tryz.func3, Tryz.ntmps3
  go_wp2_with fail
  refine (HBD.out _).mono ?_
  rintro e w1 ⟨k, rfl, hk, hb⟩
  have HR2 := Lib.hid fun W' => HRB.out W' k hk.out
  clear hk
  go_wp2_with fail
  refine (HG.out _).mono ?_
  rintro e w' ⟨rfl, rfl⟩
  go_wp2_with fail
  refine (HR2.out _).mono ?_
  rintro e w2 ⟨rfl, hb2⟩
  have HB2 := Lib.hid (hb.out.trans (hb2.out.mono hb.out.size))
  clear hb hb2
  go_wp2_with fail
  refine (HAW.out _ HB2.out).mono ?_
  rintro e w3 ⟨rfl, hb3⟩
  go_wp2_with fail
  go_ret
  exact ⟨rfl, HB2.out.trans (hb3.out.mono HB2.out.size)⟩
end Go.Proofs.YtcmancfdlfhgbaaGreatDoor
