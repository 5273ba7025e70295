/- Contracts and lemmas (several texts merged into one). -/
import Derived.Test.YtgidmlffjelpnaaDoorBVlp4
import Derived.Deep.RegionHeld3
import Derived.Deep.RegionLaw
import Derived.Deep.DeepMust
import Derived.Deep.DeepFit
namespace Go.Proofs.YtgidmlffjelpnaaDoor
open Go Go.RowKit Gu

set_option maxHeartbeats 2000000 in
set_option maxRecDepth 100000 in
/-- P j x: x stands for the power with the exponent j -/
theorem npower_any (f : Nat) (cap : Array Value) (P : Nat → Nat → Prop) (bv ev : Value) (b e : Nat) (w : World) (hb : D w bv b) (he : D w ev e) (hn : nd 4294967296 e ≤ 100000) (h1 : P 0 1) (hent : ∀ args w, (callFunc f args).run Tryd.prog w = .ok (.enter f args) w)
    (HF1 : ∀ W v x j, Below w.heap.size w W → D W v x → P j x → 2 * j ≤ e → Calls Tryd.prog f (#[v, v] ++ cap) W fun e w' => ∃ r y, e = .returned r ∧ D w' r y ∧ P (2 * j) y ∧ Below W.heap.size W w')
    (HF2 : ∀ W v u x j, Below w.heap.size w W → D W v x → D W u b → P j x → j + 1 ≤ e → Calls Tryd.prog f (#[v, u] ++ cap) W fun e w' => ∃ r y, e = .returned r ∧ D w' r y ∧ P (j + 1) y ∧ Below W.heap.size W w') :
    Calls Tryd.prog 53 #[bv, ev, .func (.func f) #[] cap] w fun x w' => ∃ r y, x = .returned r ∧ D w' r y ∧ P e y ∧ Below w.heap.size w w' := by
  have HB := Lib.hid hb; have HE := Lib.hid he
  have H1 := Lib.hid h1; have G1 := Lib.hid HF1; have G2 := Lib.hid HF2
  have HBL := Lib.hid (fun W (h : D W ev e) => bitLen_any ev e W h (by omega))
  have hT := nd_two_le hn
  have HT0 := Lib.hid (nd_lt (B := 2) (by decide) e)
  clear hb he h1 HF1 HF2
  go_enter Tryd.func53, Tryd.ntmps53
  go_wp2_with fail
  refine (digitsOf_any 1 _ (by decide)).mono ?_
  rintro e' w1 ⟨dv, rfl, hd, hb1⟩
  have HD := Lib.hid hd; have HB1 := Lib.hid hb1
  clear hd hb1
  go_wp2_with fail
  refine (HBL.out _ (HE.out.below HB1.out)).mono ?_
  rintro e' w2 ⟨rfl, rfl⟩
  generalize nd 2 e = n at *
  go_wp2
  go_loopw [7, 8] (fun v x wr => ∃ t y : Nat, t ≤ n ∧ x = .int .i64 ((t : Int) - 1) ∧ D wr v y ∧ P (e / 2 ^ t) y ∧ Below w.heap.size w wr) (fun _ x _ => (intOf x + 1).toNat)
  case atStart => exact ⟨n, 1, Nat.le_refl _, rfl, HD.out, by rw [Nat.div_eq_of_lt HT0.out]; exact H1.out, HB1.out⟩
  case round =>
    obtain ⟨t, y, ht, rfl, hv, hp, hbel⟩ := hrel
    have HV := Lib.hid hv; have HP := Lib.hid hp; have HBE := Lib.hid hbel
    clear hv hp hbel
    rcases Nat.eq_zero_or_pos t with h0 | h0
    · subst h0
      have hlt : ¬ ((0 : Int) ≤ ((0 : Nat) : Int) - 1) := by decide
      go_wp2
      go_ret
      exact ⟨u7, rfl, y, HV.out, by have := HP.out; rw [Nat.pow_zero, Nat.div_one] at this; exact this, HBE.out⟩
    · obtain ⟨s, rfl⟩ : ∃ s, t = s + 1 := ⟨t - 1, by omega⟩
      rw [show (((s + 1 : Nat)) : Int) - 1 = (s : Int) from by omega]
      have HJ : Hid (e / 2 ^ s = dg 2 e s + 2 * (e / 2 ^ (s + 1))) := div_succ 2 e s
      have HJ2 : Hid (e / 2 ^ s ≤ e) := Nat.div_le_self _ _
      have hdg := dg_lt (B := 2) (by decide) e s
      have hs0 : (0 : Int) ≤ (s : Int) := by omega
      go_wp2_with fail
      refine (G1.out wr u7 y (e / 2 ^ (s + 1)) HBE.out HV.out HP.out (by have := HJ.out; have := HJ2.out; omega)).mono ?_
      rintro e' w2 ⟨r, y2, rfl, hr, hp2, hb2⟩
      have HR := Lib.hid hr; have HP2 := Lib.hid hp2
      have HBE2 := Lib.hid (HBE.out.trans (hb2.mono HBE.out.size))
      have HBI := Lib.hid (bit_any ev e s w2 (HE.out.below HBE2.out) (by omega) (by omega))
      clear hr hp2 hb2 HV HP HBE
      generalize dg 2 e s = d at *
      go_wp2_with fail
      refine HBI.out.mono ?_
      rintro e' w3 ⟨rfl, rfl⟩
      rcases (show d = 0 ∨ d = 1 by omega) with rfl | rfl
      · go_wp2
        go_roundw
        case rel => exact ⟨s, y2, by omega, by go_num, HR.out, by rw [HJ.out, Nat.zero_add]; exact HP2.out, HBE2.out⟩
        case measure => simp [intOf]
      · go_wp2_with fail
        refine (G2.out w2 r bv y2 (2 * (e / 2 ^ (s + 1))) HBE2.out HR.out (HB.out.below HBE2.out) HP2.out (by have := HJ.out; have := HJ2.out; omega)).mono ?_
        rintro e' w4 ⟨r2, y3, rfl, hr3, hp3, hb3⟩
        have HR3 := Lib.hid hr3; have HP3 := Lib.hid hp3
        have HBE3 := Lib.hid (HBE2.out.trans (hb3.mono HBE2.out.size))
        clear hr3 hp3 hb3
        go_wp2
        go_roundw
        case rel => exact ⟨s, y3, by omega, by go_num, HR3.out, by rw [HJ.out, Nat.add_comm]; exact HP3.out, HBE3.out⟩
        case measure => simp [intOf]
end Go.Proofs.YtgidmlffjelpnaaDoor
namespace Go.Proofs.YtgidmlffjelpnaaDoor
open Go Go.RowKit Gu

theorem am_gm {r t m : Nat} (h : r + t ≤ 2 * m) : r * t ≤ m * m := by
  rcases Nat.le_total r m with h1 | h1
  · obtain ⟨d, rfl⟩ := Nat.exists_eq_add_of_le h1
    have e1 : r * t ≤ r * (r + 2 * d) := Nat.mul_le_mul_left _ (by omega)
    have e2 : r * (r + 2 * d) = r * r + 2 * (r * d) := by rw [Nat.mul_add, Nat.mul_left_comm]
    have e3 : (r + d) * (r + d) = r * r + r * d + (r * d + d * d) := by rw [Nat.add_mul, Nat.mul_add, Nat.mul_add, Nat.mul_comm d r]
    omega
  · obtain ⟨d, rfl⟩ := Nat.exists_eq_add_of_le h1
    obtain ⟨x, rfl⟩ : ∃ x, m = t + x := ⟨m - t, by omega⟩
    have e1 : (t + x + d) * t = t * t + t * x + t * d := by rw [Nat.add_mul, Nat.add_mul, Nat.mul_comm x t, Nat.mul_comm d t]
    have e2 : (t + x) * (t + x) = t * t + t * x + (t * x + x * x) := by rw [Nat.add_mul, Nat.mul_add, Nat.mul_add, Nat.mul_comm x t]
    have e3 : t * d ≤ t * x := Nat.mul_le_mul_left _ (by omega)
    omega
theorem newton {a r : Nat} (hr : 0 < r) (ha : 0 < a) : 0 < (r + a / r) / 2 ∧ a < ((r + a / r) / 2 + 1) * ((r + a / r) / 2 + 1) ∧ (r ≤ (r + a / r) / 2 → r * r ≤ a) := by
  have h1 : a < r * (a / r + 1) := Nat.lt_mul_div_succ a hr
  have h2 : r * (a / r) ≤ a := Nat.mul_div_le a r
  have h3 : r = 1 → a / r = a := fun h => by rw [h, Nat.div_one]
  generalize a / r = q at *
  refine ⟨?_, ?_, fun h => ?_⟩
  · rcases Nat.lt_or_ge 1 r with h | h
    · omega
    · have := h3 (by omega); omega
  · exact Nat.lt_of_lt_of_le h1 (am_gm (by omega))
  · exact Nat.le_trans (Nat.mul_le_mul_left _ (by omega)) h2
theorem sqrt_start {a : Nat} (_ha : 0 < a) : a < (1 * 2 ^ ((nd 2 a + 1) / 2) + 1) * (1 * 2 ^ ((nd 2 a + 1) / 2) + 1) := by
  have h := nd_lt (B := 2) (by decide) a
  rw [Nat.one_mul]
  have h1 : 2 ^ nd 2 a ≤ 2 ^ ((nd 2 a + 1) / 2) * 2 ^ ((nd 2 a + 1) / 2) := by rw [← Nat.pow_add]; exact Nat.pow_le_pow_right (by decide) (by omega)
  have h2 : 2 ^ ((nd 2 a + 1) / 2) * 2 ^ ((nd 2 a + 1) / 2) ≤ (2 ^ ((nd 2 a + 1) / 2) + 1) * (2 ^ ((nd 2 a + 1) / 2) + 1) := Nat.mul_le_mul (by omega) (by omega)
  omega
theorem sqrt_room {a : Nat} (ha : 0 < a) : 1 * 2 ^ ((nd 2 a + 1) / 2) < 4294967296 ^ (nd 4294967296 a + 1) := by
  have h1 := nd_pow_le (B := 2) (by decide) ha
  have h0 := nd_pos (B := 2) (by decide) ha
  have h2 := nd_lt (B := 4294967296) (by decide) a
  have h3 : 2 ^ ((nd 2 a + 1) / 2) ≤ 2 ^ (nd 2 a - 1 + 1) := Nat.pow_le_pow_right (by decide) (by omega)
  rw [Nat.pow_succ] at h3
  rw [Nat.pow_succ, Nat.one_mul]
  omega
/-- what a region keeps whose calls make memory: a number, and all that lay there when it began -/
structure St1 (W0 : World) (v : Value) (a : Nat) (W : World) : Prop where
  num : D W v a
  bel : Below W0.heap.size W0 W
theorem St1.next {W0 W W' : World} {v : Value} {a : Nat} (h : St1 W0 v a W) (hb : Below W.heap.size W W') : St1 W0 v a W' :=
  ⟨h.num.below hb, h.bel.trans (hb.mono h.bel.size)⟩
theorem St1.cell {W0 W : World} {v : Value} {a k : Nat} {x : Value} (h : St1 W0 v a W) (hk : k < W0.heap.size) (hc : W0.cell? ⟨k, 0, none⟩ = some x) : W.cell? ⟨k, 0, none⟩ = some x :=
  (h.bel.cell (p := ⟨k, 0, none⟩) hk).trans hc
theorem St1.frozen {W0 W : World} {v : Value} {a k : Nat} (h : St1 W0 v a W) (hk : k < W0.heap.size) (hc : W0.frozen? ⟨k, 0, none⟩ = false) : W.frozen? ⟨k, 0, none⟩ = false :=
  (h.bel.frozen (p := ⟨k, 0, none⟩) hk).trans hc
set_option maxHeartbeats 2000000 in
set_option maxRecDepth 100000 in
theorem Sqrt_any (v : Value) (a : Nat) (w : World) (hv : D w v a) (ha : nd 4294967296 a ≤ 200000) :
    Calls Tryd.prog 29 #[.agg #[v]] w fun e w' => ∃ r s, e = .returned (.agg #[r]) ∧ D w' r s ∧ s * s ≤ a ∧ a < (s + 1) * (s + 1) ∧ Below w.heap.size w w' := by
  have b2 : ∀ o1 o2, Below w.heap.size w ((w.alloc o1).alloc o2) := fun o1 o2 => ((Below.refl _ _).alloc (Nat.le_refl _) _).alloc (by simp) _
  have HB2 := Lib.hid b2
  have HV := Lib.hid (fun o1 o2 => hv.below (b2 o1 o2))
  have HZ := Lib.hid (fun o1 o2 => isZero_any v a ((w.alloc o1).alloc o2) (hv.below (b2 o1 o2)))
  by_cases h0 : a = 0
  · subst h0
    rw [show decide ((0 : Nat) = 0) = true from rfl] at HZ
    obtain ⟨ao, ac, rfl, -⟩ := hv.shape
    clear hv b2
    go_enter Tryd.func29, Tryd.ntmps29
    go_wp2_with fail
    refine (HZ.out _ _).mono ?_
    rintro e w1 ⟨rfl, rfl⟩
    go_wp2
    refine bodyPost_ret (v := .agg #[.slice none 0 0]) (by simp [results, Tryd.results29, go_sem]) rfl ⟨.slice none 0 0, 0, rfl, IsN.zero _ _ _ _ _, by decide, by decide, HB2.out _ _⟩
  · rw [show decide (a = 0) = false from by simp [h0]] at HZ
    have ha0 : 0 < a := Nat.pos_of_ne_zero h0
    obtain ⟨M, hM⟩ : ∃ M, M = 4294967296 ^ (nd 4294967296 a + 1) := ⟨_, rfl⟩
    have HDV := Lib.hid (divide_long (nd 4294967296 a + 1) (by omega))
    rw [← hM] at HDV
    have HST := Lib.hid (sqrt_start ha0)
    have hroom := sqrt_room ha0
    rw [← hM] at hroom
    have HRM := Lib.hid hroom
    have HR0 : Hid (0 < 1 * 2 ^ ((nd 2 a + 1) / 2)) := by
      show 0 < _
      rw [Nat.one_mul]; exact Nat.pow_pos (by decide)
    have haM : a < M := by rw [hM, Nat.pow_succ]; have := nd_lt (B := 4294967296) (by decide) a; omega
    have HNM : Hid (∀ x, x < M → nd 4294967296 x ≤ 200001) := fun x hx => by
      rw [hM] at hx
      have := (nd_le (B := 4294967296) (by decide)).2 hx
      omega
    have HAM := Lib.hid haM
    have HBL := Lib.hid (fun W (h : D W v a) => bitLen_any v a W h (by omega))
    have hb2 := nd_two_le ha
    have HSL := Lib.hid (fun dv W (h : D W dv 1) => shiftLeft_any dv 1 ((nd 2 a + 1) / 2) W h (by rw [nd_small (by decide : 1 < 4294967296) |> Nat.le_antisymm <| nd_pos (by decide) (by decide)]; decide) (by omega))
    obtain ⟨ao, ac, rfl, -⟩ := hv.shape
    clear hv b2 h0 hM hroom haM
    go_enter Tryd.func29, Tryd.ntmps29
    go_wp2_with fail
    refine (HZ.out _ _).mono ?_
    rintro e w1 ⟨rfl, rfl⟩
    obtain ⟨W0, hW0⟩ : ∃ W0 : World, W0 = (w.alloc (.cells #[.slice ao (nd 4294967296 a) ac] 26)).alloc (.cells #[.slice none 0 0] 26) := ⟨_, rfl⟩
    have hz0 : W0.heap.size = w.heap.size + 2 := by rw [hW0]; simp
    have c0 : W0.cell? ⟨w.heap.size, 0, none⟩ = some (.slice ao (nd 4294967296 a) ac) := by rw [hW0]; exact (World.cell?_alloc_past _ _ _ (by simp)).trans (World.cell?_alloc_at _ _ _ _ rfl)
    have c1 : W0.cell? ⟨w.heap.size + 1, 0, none⟩ = some (.slice none 0 0) := by rw [hW0]; exact World.cell?_alloc_at _ _ _ _ (by simp)
    have f1 : W0.frozen? ⟨w.heap.size + 1, 0, none⟩ = false := by rw [hW0]; exact World.frozen?_alloc_at _ _ _ _ (by simp)
    have hst0 : St1 W0 (.slice ao (nd 4294967296 a) ac) a W0 := by rw [hW0]; exact ⟨HV.out _ _, Below.refl _ _⟩
    have hbw : Below w.heap.size w W0 := by rw [hW0]; exact HB2.out _ _
    have HCA : Hid (∀ W, St1 W0 (.slice ao (nd 4294967296 a) ac) a W → W.cell? ⟨w.heap.size, 0, none⟩ = some (.slice ao (nd 4294967296 a) ac)) := fun W h => h.cell (by omega) c0
    have HC1 : Hid (∀ W, St1 W0 (.slice ao (nd 4294967296 a) ac) a W → W.cell? ⟨w.heap.size + 1, 0, none⟩ = some (.slice none 0 0)) := fun W h => h.cell (by omega) c1
    have HF1 : Hid (∀ W, St1 W0 (.slice ao (nd 4294967296 a) ac) a W → W.frozen? ⟨w.heap.size + 1, 0, none⟩ = false) := fun W h => h.frozen (by omega) f1
    have HBW := Lib.hid hbw
    have HSZ : Hid (W0.heap.size = w.heap.size + 2) := hz0
    have HD1 : Hid (∀ W, St1 W0 (.slice ao (nd 4294967296 a) ac) a W → Calls Tryd.prog 54 #[.int .u64 1] W fun e w' => ∃ o l c, e = .returned (.slice o l c) ∧ D w' (.slice o l c) 1 ∧ St1 W0 (.slice ao (nd 4294967296 a) ac) a w') := fun W h =>
      (digitsOf_any 1 W (by decide)).mono fun e w' ⟨r, he, hr, hB⟩ => by
        obtain ⟨ro, rc, rfl, -⟩ := hr.shape
        exact ⟨ro, _, rc, he, hr, h.next hB⟩
    have HB1 : Hid (∀ W, St1 W0 (.slice ao (nd 4294967296 a) ac) a W → Calls Tryd.prog 51 #[.slice ao (nd 4294967296 a) ac] W fun e w' => e = .returned (.int .i64 (nd 2 a)) ∧ St1 W0 (.slice ao (nd 4294967296 a) ac) a w') := fun W h =>
      (HBL.out W h.num).mono fun e w' ⟨he, hw⟩ => ⟨he, hw ▸ h⟩
    rw [← hW0]
    have hs2 := hst0.next ((Below.refl _ W0).drew)
    have hca := HCA.out _ hs2
    have hcz := HCA.out _ hst0
    clear hW0 hz0 c0 c1 f1 hbw
    generalize nd 2 a = bl at *
    have HSL2 : Hid (∀ dv W, St1 W0 (.slice ao (nd 4294967296 a) ac) a W → D W dv 1 → Calls Tryd.prog 72 #[dv, .int .i64 (IntKind.i64.wrap ((IntKind.i64.wrap ((bl : Int) + 1)).tdiv 2))] W fun e w' => ∃ o l c, e = .returned (.slice o l c) ∧ D w' (.slice o l c) (1 * 2 ^ ((bl + 1) / 2)) ∧ St1 W0 (.slice ao (nd 4294967296 a) ac) a w') := fun dv W h hd => by
      have h1 := HSL.out dv W hd
      rw [show (((bl + 1) / 2 : Nat) : Int) = IntKind.i64.wrap ((IntKind.i64.wrap ((bl : Int) + 1)).tdiv 2) from by rw [IntWalk.i64_in ((bl : Int) + 1) (by omega), Int.tdiv_eq_ediv_of_nonneg (by omega), IntWalk.i64_in _ (by omega)]; omega] at h1
      exact h1.mono fun e w' ⟨r, he, hr, hB⟩ => by
        obtain ⟨ro, rc, rfl, -⟩ := hr.shape
        exact ⟨ro, _, rc, he, hr, h.next hB⟩
    clear HSL
    generalize 1 * 2 ^ ((bl + 1) / 2) = r0 at *
    go_wp2_with fail
    go_region_held3 (fun W : World => W.cell? ⟨w.heap.size, 0, none⟩ = some (.slice ao (nd 4294967296 a) ac) ∧ St1 W0 (.slice ao (nd 4294967296 a) ac) a W) (first | (refine And.intro ?_ ?_ <;> assumption)) (first
      | (go_at_call 54; with_reducible refine (HD1.out _ ?h).mono ?_; (case h => assumption); rintro e w' ⟨o1, l1, k1, rfl, hr', hs'⟩; have hc' := HCA.out _ hs')
      | (go_at_call 51; with_reducible refine (HBL.out _ ?h).mono ?_; (case h => exact St1.num (by assumption)); rintro e w' ⟨rfl, rfl⟩)
      | (go_at_call 72; with_reducible refine (HSL2.out _ _ ?h ?r).mono ?_; (case h => assumption); (case r => first | assumption | exact dchain (by assumption) (by assumption)); rintro e w' ⟨o2, l2, k2, rfl, hr', hs'⟩; have hc' := HCA.out _ hs'))
    all_goals
      have hroot : D w' (.slice o2 l2 k2) r0 := by assumption
      have hst : St1 W0 (.slice ao (nd 4294967296 a) ac) a w' := by assumption
      have HRT := Lib.hid hroot; have HSS := Lib.hid hst
      clear hroot hst
      go_wp2
      go_loopg [3] r0 (fun n x wr => 0 < n ∧ n < M ∧ Hid (a < (n + 1) * (n + 1)) ∧ D wr x n ∧ St1 W0 (.slice ao (nd 4294967296 a) ac) a wr)
      case atStart => exact ⟨HR0.out, HRM.out, HST.out, HRT.out, HSS.out⟩
      case round =>
        obtain ⟨hn, hnM, HA, hx, hst⟩ := hrel
        obtain ⟨xo, xc, rfl, -⟩ := hx.shape
        have HX := Lib.hid hx
        have hca := HCA.out _ hst
        have HS := Lib.hid hst
        have HQ := Lib.hid (quotient_any HDV.out _ _ a gk wr hst.num hx hn HAM.out hnM)
        have HNW := Lib.hid (newton hn ha0)
        have hng := HNM.out _ hnM
        have hnq : nd 4294967296 (a / gk) ≤ 200000 := Nat.le_trans (nd_mono (by decide) (Nat.div_le_self _ _)) ha
        have HNN := Lib.hid (HNM.out)
        clear hx hst
        generalize a / gk = q at *
        have hsum := nd_add hng (Nat.le_trans hnq (by decide))
        go_wp2_with fail
        refine HQ.out.mono ?_
        rintro e w2 ⟨qv, rfl, hq, hb⟩
        have HS2 := Lib.hid (HS.out.next hb)
        have HX2 := Lib.hid (HX.out.below hb)
        have HSUM := Lib.hid (sum_any _ qv gk q w2 HX2.out hq (by omega) (by omega))
        clear hq hb hca
        go_wp2_with fail
        refine HSUM.out.mono ?_
        rintro e w3 ⟨sv, rfl, hs3, hb⟩
        have HS3 := Lib.hid (HS2.out.next hb)
        have HX3 := Lib.hid (HX2.out.below hb)
        have HSH := Lib.hid (shiftRight_any sv (gk + q) 1 w3 hs3 (by omega) (by decide))
        rw [Nat.pow_one] at HSH
        clear hs3 hb
        go_wp2_with fail
        refine HSH.out.mono ?_
        rintro e w4 ⟨nv, rfl, hn4, hb⟩
        have HS4 := Lib.hid (HS3.out.next hb)
        have HX4 := Lib.hid (HX3.out.below hb)
        have HN4 := Lib.hid hn4
        have hnh : nd 4294967296 ((gk + q) / 2) ≤ 1048576 := Nat.le_trans (nd_mono (by decide) (Nat.div_le_self _ _)) (by omega)
        have HCM := Lib.hid (compare_any nv _ ((gk + q) / 2) gk w4 hn4 HX4.out hnh (by omega))
        clear hn4 hb hnh hsum
        generalize (gk + q) / 2 = nx at *
        by_cases hle : gk ≤ nx
        · have hcm : (0 : Int) ≤ cmpN ((nx : Nat) : Int) ((gk : Nat) : Int) := by
            rcases Nat.lt_or_eq_of_le hle with h | h
            · rw [cmpN_gt (by omega)]; decide
            · rw [cmpN_eq (by omega)]; decide
          have HSQ : Hid (gk * gk ≤ a) := HNW.out.2.2 hle
          clear hle
          generalize cmpN ((nx : Nat) : Int) ((gk : Nat) : Int) = cc at *
          go_wp2_with fail
          refine HCM.out.mono ?_
          rintro e w5 ⟨rfl, k, rfl⟩
          have hs5 := HS4.out.next (below_drewN (Below.refl _ w4) k)
          have hcell := HC1.out _ hs5
          have hfr := HF1.out _ hs5
          have HX5 := Lib.hid (HX4.out.below (below_drewN (Below.refl _ w4) k))
          have HCE := Lib.hid hcell
          have HBE := Lib.hid (HBW.out.trans (hs5.bel.mono HBW.out.size))
          clear hs5
          go_wp2
          refine bodyPost_ret (v := .agg #[.slice xo (nd 4294967296 gk) xc]) (by simp [results, Tryd.results29, go_sem, hcell]) rfl ⟨_, gk, rfl, HX5.out.setCell HCE.out (by intro d h; cases h) _, HSQ.out, HA.out, HBE.out.setCell (by show w.heap.size ≤ w.heap.size + 1; omega) _⟩
        · have hcm : cmpN ((nx : Nat) : Int) ((gk : Nat) : Int) < (0 : Int) := by rw [cmpN_lt (by omega)]; decide
          have HLT : Hid (nx < gk) := by show _ < _; omega
          clear hle
          generalize cmpN ((nx : Nat) : Int) ((gk : Nat) : Int) = cc at *
          go_wp2_with fail
          refine HCM.out.mono ?_
          rintro e w5 ⟨rfl, k, rfl⟩
          have HS5 := Lib.hid (HS4.out.next (below_drewN (Below.refl _ w4) k))
          have HN5 := Lib.hid (HN4.out.below (below_drewN (Below.refl _ w4) k))
          go_wp2
          go_roundg nx
          case measure => exact HLT.out
          case rel => exact ⟨HNW.out.1, by have := HLT.out; omega, HNW.out.2.1, HN5.out, HS5.out⟩
end Go.Proofs.YtgidmlffjelpnaaDoor
namespace Go.Proofs.YtgidmlffjelpnaaDoor
open Go Go.RowKit Gu

/-- what a region keeps that stores its result into the block B, the last one that lay there when it began -/
structure St2 (B : Nat) (W0 : World) (v : Value) (a : Nat) (W : World) : Prop where
  num : D W v a
  bel : Below B W0 W
  lt : B < W.heap.size
  res : ∃ o l c, W.cell? ⟨B, 0, none⟩ = some (.slice o l c)
  fro : W.frozen? ⟨B, 0, none⟩ = false
theorem St2.next {B : Nat} {W0 W W' : World} {v : Value} {a : Nat} (h : St2 B W0 v a W) (hb : Below W.heap.size W W') : St2 B W0 v a W' :=
  ⟨h.num.below hb, h.bel.trans (hb.mono (Nat.le_of_lt h.lt)), Nat.lt_of_lt_of_le h.lt hb.size, by
    obtain ⟨o, l, c, hc⟩ := h.res
    exact ⟨o, l, c, (hb.cell (p := ⟨B, 0, none⟩) h.lt).trans hc⟩, (hb.frozen (p := ⟨B, 0, none⟩) h.lt).trans h.fro⟩
theorem St2.setCell {B : Nat} {W0 W : World} {v : Value} {a : Nat} (h : St2 B W0 v a W) (o : Option Addr) (l c : Nat) : St2 B W0 v a (W.setCell ⟨B, 0, none⟩ (.slice o l c)) := by
  obtain ⟨o', l', c', hc⟩ := h.res
  exact ⟨h.num.setCell hc (by intro d e; cases e) _, h.bel.setCell (Nat.le_refl _) _, by rw [World.size_setCell]; exact h.lt, ⟨o, l, c, World.cell?_setCell_same _ _ _ hc⟩, by simpa using h.fro⟩
theorem St2.cell {B k : Nat} {W0 W : World} {v : Value} {a : Nat} {x : Value} (h : St2 B W0 v a W) (hk : k < B) (hc : W0.cell? ⟨k, 0, none⟩ = some x) : W.cell? ⟨k, 0, none⟩ = some x :=
  (h.bel.cell (p := ⟨k, 0, none⟩) hk).trans hc
theorem pow_far {a n : Nat} (ha : 1 < nd 2 a) (hn : 16384 / (nd 2 a - 1) < n) : 16384 < nd 2 (a ^ n) := by
  have h0 : 0 < a := by
    rcases Nat.eq_zero_or_pos a with h | h
    · rw [h, nd_zero] at ha; omega
    · exact h
  have h1 := nd_pow_le (B := 2) (by decide) h0
  have h2 : 2 ^ ((nd 2 a - 1) * n) ≤ a ^ n := by rw [Nat.pow_mul]; exact Nat.pow_le_pow_left h1 n
  have h3 : 16384 < (nd 2 a - 1) * n := by
    have := (Nat.div_lt_iff_lt_mul (by omega)).1 hn
    rw [Nat.mul_comm]; exact this
  rcases Nat.lt_or_ge 16384 (nd 2 (a ^ n)) with h | h
  · exact h
  · have h4 := (nd_le (B := 2) (by decide)).1 (show nd 2 (a ^ n) ≤ (nd 2 a - 1) * n by omega)
    omega
theorem nd_two_up' {a m : Nat} (ha : nd 2 a ≤ m) : nd 4294967296 a ≤ m := by
  have h1 := (nd_le (by decide : 2 ≤ 2)).1 ha
  exact (nd_le (by decide : 2 ≤ 4294967296)).2 (Nat.lt_of_lt_of_le h1 (Nat.pow_le_pow_left (by decide) _))
theorem nd_one2 : nd 2 1 = 1 := nd_eq (k := 0) (by decide) (by decide) (by decide)
theorem pow_near {a n : Nat} (h : nd 2 a ≤ 1 ∨ n ≤ 16384 / (nd 2 a - 1)) (j : Nat) (hj : j ≤ n) : nd 2 (a ^ j) ≤ 32769 := by
  rcases Nat.lt_or_ge 1 (nd 2 a) with hb | hb
  · have h1 : n ≤ 16384 / (nd 2 a - 1) := by omega
    have h2 := (Nat.le_div_iff_mul_le (by omega)).1 h1
    have h3 : a ^ j ≤ 2 ^ (nd 2 a * j) := by rw [Nat.pow_mul]; exact Nat.pow_le_pow_left (Nat.le_of_lt (nd_lt (by decide) a)) j
    have h4 : a ^ j < 2 ^ (nd 2 a * j + 1) := Nat.lt_of_le_of_lt h3 (Nat.pow_lt_pow_right (by decide) (Nat.lt_succ_self _))
    have h5 := (nd_le (B := 2) (by decide)).2 h4
    obtain ⟨c, hc⟩ : ∃ c, nd 2 a = c + 1 := ⟨nd 2 a - 1, by omega⟩
    have h6 : nd 2 a * j = c * j + j := by rw [hc, Nat.add_mul, Nat.one_mul]
    rw [hc, Nat.add_sub_cancel] at h2
    have h7 : c * j ≤ n * c := by rw [Nat.mul_comm n c]; exact Nat.mul_le_mul_left _ hj
    have h8 : n * 1 ≤ n * c := Nat.mul_le_mul_left _ (by omega)
    omega
  · have h1 : a < 2 := by have := (nd_le (B := 2) (k := 1) (by decide)).1 hb; simpa using this
    have h2 : a ^ j ≤ 1 := by have := Nat.pow_le_pow_left (show a ≤ 1 by omega) j; rwa [Nat.one_pow] at this
    have h3 := nd_mono (B := 2) (by decide) h2
    rw [nd_one2] at h3
    omega
theorem product_enters : ∀ args w, (callFunc 55 args).run Tryd.prog w = .ok (.enter 55 args) w := enters_of Tryd.func55 (by kernel_rfl) rfl
theorem power_product (K : Nat) (hK : K ≤ 40000) (bv ev : Value) (b e : Nat) (w : World) (hb : D w bv b) (he : D w ev e) (hn : nd 4294967296 e ≤ 100000) (hj : ∀ j, j ≤ e → nd 2 (b ^ j) ≤ K) (hb2 : nd 2 b ≤ K) :
    Calls Tryd.prog 53 #[bv, ev, .func (.func 55) #[] #[]] w fun x w' => ∃ r, x = .returned r ∧ D w' r (b ^ e) ∧ Below w.heap.size w w' := by
  have hu : ∀ {x}, nd 2 x ≤ K → nd 4294967296 x ≤ 524288 := fun {x} h => by
    have := nd_two_up' h
    omega
  refine (npower_any 55 #[] (fun j x => x = b ^ j ∧ j ≤ e) bv ev b e w hb he hn ⟨rfl, Nat.zero_le _⟩ product_enters ?_ ?_).mono ?_
  · rintro W v x j hB hv ⟨rfl, hje⟩ h2
    refine (product_any v v _ _ W hv hv (hu (hj j hje)) (hu (hj j hje))).mono ?_
    rintro e' w' ⟨r, he', hr, hB'⟩
    exact ⟨r, _, he', hr, ⟨by rw [← Nat.pow_add]; congr 1; omega, h2⟩, hB'⟩
  · rintro W v u x j hB hv hu' ⟨rfl, hje⟩ h2
    refine (product_any v u _ _ W hv hu' (hu (hj j hje)) (hu hb2)).mono ?_
    rintro e' w' ⟨r, he', hr, hB'⟩
    exact ⟨r, _, he', hr, ⟨(Nat.pow_succ _ _).symm, h2⟩, hB'⟩
  · rintro x w' ⟨r, y, hx, hr, ⟨rfl, -⟩, hB⟩
    exact ⟨r, hx, hr, hB⟩
set_option maxHeartbeats 1000000 in
theorem Pow_neg (v : Value) (a : Nat) (n : Int) (w : World) (hv : D w v a) (hn : n < 0) :
    Calls Tryd.prog 17 #[.agg #[v], .int .i64 n] w fun e w' => e = .returned (.tuple #[.agg #[.slice none 0 0], .int .i64 2]) ∧ Below w.heap.size w w' := by
  have b2 : ∀ o1 o2, Below w.heap.size w ((w.alloc o1).alloc o2) := fun o1 o2 => ((Below.refl _ _).alloc (Nat.le_refl _) _).alloc (by simp) _
  have HB2 := Lib.hid b2
  obtain ⟨ao, ac, rfl, -⟩ := hv.shape
  clear hv b2
  go_enter Tryd.func17, Tryd.ntmps17
  go_wp2
  refine bodyPost_ret (v := .tuple #[.agg #[.slice none 0 0], .int .i64 2]) (by simp [results, Tryd.results17, go_sem]) rfl ⟨rfl, HB2.out _ _⟩
set_option maxHeartbeats 2000000 in
set_option maxRecDepth 100000 in
theorem Pow_any (v : Value) (a n : Nat) (w : World) (hv : D w v a) (ha : nd 2 a ≤ 30000) (hn : n ≤ 9223372036854775807) :
    Calls Tryd.prog 17 #[.agg #[v], .int .i64 n] w fun e w' => ∃ r, e = .returned (.tuple #[.agg #[r], .int .i64 (fitE (a ^ n))]) ∧ D w' r (fitN (a ^ n)) ∧ Below w.heap.size w w' := by
  have b2 : ∀ o1 o2, Below w.heap.size w ((w.alloc o1).alloc o2) := fun o1 o2 => ((Below.refl _ _).alloc (Nat.le_refl _) _).alloc (by simp) _
  have HB2 := Lib.hid b2
  have ha32 : nd 4294967296 a ≤ 30000 := nd_two_up' ha
  have HV := Lib.hid (fun o1 o2 => hv.below (b2 o1 o2))
  have HBL := Lib.hid (fun W (h : D W v a) => bitLen_any v a W h (by omega))
  have hn0 : ¬ ((n : Int) < 0) := by omega
  by_cases hfar : 1 < nd 2 a ∧ 16384 / (nd 2 a - 1) < n
  · have HP := pow_far hfar.1 hfar.2
    have HE : Hid (fitE (a ^ n) = 3 ∧ fitN (a ^ n) = 0) := ⟨if_neg (by omega), if_neg (by omega)⟩
    obtain ⟨h1, h2⟩ := hfar
    have h3 : (1 : Int) < (nd 2 a : Nat) := by omega
    have h4 : (16384 : Int) / (((nd 2 a : Nat) : Int) - 1) < n := by
      have e : (((nd 2 a : Nat) : Int) - 1) = ((nd 2 a - 1 : Nat) : Int) := by omega
      rw [e]
      exact_mod_cast h2
    obtain ⟨ao, ac, rfl, -⟩ := hv.shape
    clear hv b2 HP h2
    generalize fitE (a ^ n) = fe at *
    generalize fitN (a ^ n) = fn at *
    go_enter Tryd.func17, Tryd.ntmps17
    go_wp2_with fail
    refine (HBL.out _ (HV.out _ _)).mono ?_
    rintro e w1 ⟨rfl, rfl⟩
    go_wp2
    refine bodyPost_ret (v := .tuple #[.agg #[.slice none 0 0], .int .i64 3]) (by simp [results, Tryd.results17, go_sem]) rfl ⟨.slice none 0 0, by rw [HE.out.1], by rw [HE.out.2]; exact IsN.zero _ _ _ _ _, HB2.out _ _⟩
  · have hnear : nd 2 a ≤ 1 ∨ n ≤ 16384 / (nd 2 a - 1) := by omega
    have HNR := Lib.hid (pow_near hnear)
    have HNP := Lib.hid (pow_near hnear n (Nat.le_refl _))
    obtain ⟨W0, hW0⟩ : ∃ W0 : World, W0 = (w.alloc (.cells #[v] 26)).alloc (.cells #[.slice none 0 0] 26) := ⟨_, rfl⟩
    have hz0 : W0.heap.size = w.heap.size + 2 := by rw [hW0]; simp
    have c0 : W0.cell? ⟨w.heap.size, 0, none⟩ = some v := by rw [hW0]; exact (World.cell?_alloc_past _ _ _ (by simp)).trans (World.cell?_alloc_at _ _ _ _ rfl)
    have c1 : W0.cell? ⟨w.heap.size + 1, 0, none⟩ = some (.slice none 0 0) := by rw [hW0]; exact World.cell?_alloc_at _ _ _ _ (by simp)
    have f1 : W0.frozen? ⟨w.heap.size + 1, 0, none⟩ = false := by rw [hW0]; exact World.frozen?_alloc_at _ _ _ _ (by simp)
    have hst0 : St2 (w.heap.size + 1) W0 v a W0 := by
      refine ⟨?_, Below.refl _ _, by omega, ⟨_, _, _, c1⟩, f1⟩
      rw [hW0]; exact HV.out _ _
    have hbw : Below w.heap.size w W0 := by rw [hW0]; exact HB2.out _ _
    have HCA : Hid (∀ W, St2 (w.heap.size + 1) W0 v a W → W.cell? ⟨w.heap.size, 0, none⟩ = some v) := fun W h => h.cell (by omega) c0
    have HBW := Lib.hid hbw
    have HSZ : Hid (W0.heap.size = w.heap.size + 2) := hz0
    have HD1 : Hid (∀ W, St2 (w.heap.size + 1) W0 v a W → Calls Tryd.prog 54 #[.int .u64 (IntKind.u64.wrap (n : Int))] W fun e w' => ∃ o l c, e = .returned (.slice o l c) ∧ D w' (.slice o l c) n ∧ St2 (w.heap.size + 1) W0 v a w') := fun W h => by
      rw [IntWalk.u64_in _ (by omega)]
      exact (digitsOf_any n W (by omega)).mono fun e w' ⟨r, he, hr, hB⟩ => by
        obtain ⟨ro, rc, rfl, -⟩ := hr.shape
        exact ⟨ro, _, rc, he, hr, h.next hB⟩
    have HPW : Hid (∀ W u, St2 (w.heap.size + 1) W0 v a W → D W u n → Calls Tryd.prog 53 #[v, u, .func (.func 55) #[] #[]] W fun e w' => ∃ o l c, e = .returned (.slice o l c) ∧ D w' (.slice o l c) (a ^ n) ∧ St2 (w.heap.size + 1) W0 v a w') := fun W u h hu =>
      (power_product 32769 (by decide) v u a n W h.num hu (by have : nd 4294967296 n ≤ 2 := (nd_le (by decide)).2 (by omega); omega) HNR.out (by omega)).mono fun e w' ⟨r, he, hr, hB⟩ => by
        obtain ⟨ro, rc, rfl, -⟩ := hr.shape
        exact ⟨ro, _, rc, he, hr, h.next hB⟩
    have HFT : Hid (∀ W u, St2 (w.heap.size + 1) W0 v a W → D W u (a ^ n) → Calls Tryd.prog 52 #[u] W fun e w' => ∃ o l c, e = .returned (.tuple #[.agg #[.slice o l c], .int .i64 (fitE (a ^ n))]) ∧ D w' (.slice o l c) (fitN (a ^ n)) ∧ St2 (w.heap.size + 1) W0 v a w') := fun W u h hu =>
      (fitting_any u (a ^ n) W hu (by have := nd_two_up' HNP.out; omega)).mono fun e w' ⟨r, he, hr, hB⟩ => by
        obtain ⟨ro, rc, rfl, -⟩ := hr.shape
        exact ⟨ro, _, rc, he, hr, h.next hB⟩
    have HSET : Hid (∀ W o l c, St2 (w.heap.size + 1) W0 v a W → (W.setCell ⟨w.heap.size + 1, 0, none⟩ (.slice o l c)).cell? ⟨w.heap.size, 0, none⟩ = some v ∧ St2 (w.heap.size + 1) W0 v a (W.setCell ⟨w.heap.size + 1, 0, none⟩ (.slice o l c))) := fun W o l c h => ⟨HCA.out _ (h.setCell o l c), h.setCell o l c⟩
    obtain ⟨ao, ac, rfl, -⟩ := hv.shape
    have hs2 := hst0.next ((Below.refl _ W0).drew)
    have hca := HCA.out _ hs2
    have hcz := HCA.out _ hst0
    have h3 : (((nd 2 a : Nat) : Int) ≤ 1) ∨ ((1 : Int) < (nd 2 a : Nat) ∧ ¬ ((16384 : Int) / (((nd 2 a : Nat) : Int) - 1) < n)) := by
      rcases Nat.lt_or_ge 1 (nd 2 a) with h | h
      · refine .inr ⟨by omega, ?_⟩
        have e : (((nd 2 a : Nat) : Int) - 1) = ((nd 2 a - 1 : Nat) : Int) := by omega
        rw [e]
        have h2 : ¬ 16384 / (nd 2 a - 1) < n := by omega
        exact_mod_cast h2
      · exact .inl (by omega)
    have HW0 := Lib.hid hW0
    clear hz0 c0 c1 f1 hbw hv b2 hfar hnear HNR HNP hW0
    generalize fitE (a ^ n) = fe at *
    generalize fitN (a ^ n) = fn at *
    generalize a ^ n = an at *
    generalize nd 2 a = bl at *
    rcases h3 with h3 | ⟨h3, h4⟩
    all_goals
      go_enter Tryd.func17, Tryd.ntmps17
      go_wp2_with fail
      rw [← HW0.out]
      refine (HBL.out _ hst0.num).mono ?_
      rintro e w1 ⟨rfl, rfl⟩
      go_wp2_with fail
      go_region_held3 (fun W : World => W.cell? ⟨w.heap.size, 0, none⟩ = some (.slice ao (nd 4294967296 a) ac) ∧ St2 (w.heap.size + 1) W0 (.slice ao (nd 4294967296 a) ac) a W) (first | (refine And.intro ?_ ?_ <;> assumption) | exact HSET.out _ _ _ _ (by assumption)) (first
        | (go_at_call 54; with_reducible refine (HD1.out _ ?h).mono ?_; (case h => assumption); rintro e w' ⟨o1, l1, k1, rfl, hr', hs'⟩; have hc' := HCA.out _ hs')
        | (go_at_call 53; with_reducible refine (HPW.out _ _ ?h ?r).mono ?_; (case h => assumption); (case r => first | assumption | exact dchain (by assumption) (by assumption)); rintro e w' ⟨o1, l1, k1, rfl, hr', hs'⟩; have hc' := HCA.out _ hs')
        | (go_at_call 52; with_reducible refine (HFT.out _ _ ?h ?r).mono ?_; (case h => assumption); (case r => first | assumption | exact dchain (by assumption) (by assumption)); rintro e w' ⟨o1, l1, k1, rfl, hr', hs'⟩; have hc' := HCA.out _ hs'; obtain ⟨zo, zl, zc, hz'⟩ := hs'.res; have hf' := hs'.fro))
      all_goals
        have hD : D w' (.slice o1 l1 k1) fn := by assumption
        have hT : St2 (w.heap.size + 1) W0 (.slice ao (nd 4294967296 a) ac) a w' := by assumption
        obtain ⟨yo, yl, yc, hzc⟩ := hT.res
        have hcell : (w'.setCell ⟨w.heap.size + 1, 0, none⟩ (.slice o1 l1 k1)).cell? ⟨w.heap.size + 1, 0, none⟩ = some (.slice o1 l1 k1) := World.cell?_setCell_same _ _ _ hzc
        have HDD := Lib.hid (hD.setCell hzc (by intro d h; cases h) (.slice o1 l1 k1))
        have HBE := Lib.hid ((HBW.out.trans (hT.bel.mono (by omega))).setCell (p := ⟨w.heap.size + 1, 0, none⟩) (by show w.heap.size ≤ w.heap.size + 1; omega) (.slice o1 l1 k1))
        have HCE := Lib.hid hcell
        clear hD hT hzc hcell
        go_wp2
        have hcell := HCE.out
        refine bodyPost_ret (v := .tuple #[.agg #[.slice o1 l1 k1], .int .i64 fe]) (by simp [results, Tryd.results17, go_sem, hcell]) rfl ⟨_, rfl, HDD.out, HBE.out⟩
end Go.Proofs.YtgidmlffjelpnaaDoor
namespace Go.Proofs.YtgidmlffjelpnaaDoor
open Go Go.RowKit Gu

theorem pm_sq {a j m x : Nat} (h : x % m = a ^ j % m) : x * x % m % m = a ^ (2 * j) % m := by
  rw [Nat.mod_mod, Nat.mul_mod, h, ← Nat.mul_mod, ← Nat.pow_add]; congr 2; omega
theorem pm_su {a j m x : Nat} (h : x % m = a ^ j % m) : x * (a % m) % m % m = a ^ (j + 1) % m := by
  rw [Nat.mod_mod, Nat.mul_mod, h, Nat.mod_mod, ← Nat.mul_mod, Nat.pow_succ]
set_option maxHeartbeats 2000000 in
theorem PM1_any (x y t : Value) (X Y m p : Nat) (W : World) (hx : D W x X) (hy : D W y Y) (hc : W.cell? ⟨p, 0, none⟩ = some t) (ht : D W t m) (hm0 : 0 < m) (h1 : nd 4294967296 X ≤ 1000) (h2 : nd 4294967296 Y ≤ 1000) (h3 : nd 4294967296 m ≤ 1000) :
    Calls Tryd.prog 57 #[x, y, .pointer (some ⟨p, 0, none⟩)] W fun e w' => ∃ r, e = .returned r ∧ D w' r (X * Y % m) ∧ Below W.heap.size W w' := by
  have hlt := World.block_lt_of_cell? _ _ hc
  have hnd := nd_mul h1 h2
  obtain ⟨N, hN⟩ : ∃ N, N = 2000 := ⟨_, rfl⟩
  have HDV := Lib.hid (divide_long N (by omega))
  have hmN : m < 4294967296 ^ N := (nd_le (by decide)).1 (by omega)
  have hpN : X * Y < 4294967296 ^ N := (nd_le (by decide)).1 (by omega)
  have hst0 : St1 W t m W := ⟨ht, Below.refl _ _⟩
  have HPR : Hid (∀ W', St1 W t m W' → Calls Tryd.prog 55 #[x, y] W' fun e w' => ∃ o l c, e = .returned (.slice o l c) ∧ D w' (.slice o l c) (X * Y) ∧ St1 W t m w') := fun W' h =>
    (product_any x y X Y W' (hx.below h.bel) (hy.below h.bel) (by omega) (by omega)).mono fun e w' ⟨r, he, hr, hB⟩ => by
      obtain ⟨ro, rc, rfl, -⟩ := hr.shape
      exact ⟨ro, _, rc, he, hr, h.next hB⟩
  have HRE : Hid (∀ W' v, St1 W t m W' → D W' v (X * Y) → Calls Tryd.prog 58 #[v, t] W' fun e w' => ∃ r, e = .returned r ∧ D w' r (X * Y % m) ∧ St1 W t m w') := fun W' v h hv =>
    (remainder_any HDV.out v t (X * Y) m W' hv h.num hm0 hpN hmN).mono fun e w' ⟨r, he, hr, hB⟩ => ⟨r, he, hr, h.next hB⟩
  have HCA : Hid (∀ W', St1 W t m W' → W'.cell? ⟨p, 0, none⟩ = some t) := fun W' h => h.cell hlt hc
  obtain ⟨xo, xc, rfl, -⟩ := hx.shape
  obtain ⟨yo, yc, rfl, -⟩ := hy.shape
  have hs2 := hst0.next ((Below.refl _ W).drew)
  have hca := HCA.out _ hs2
  clear hx hy ht hnd h1 h2 h3 hpN hmN hN hm0
  generalize X * Y = XY at *
  go_enter Tryd.func57, Tryd.ntmps57
  go_wp2_with fail
  go_region_held3 (fun W' : World => W'.cell? ⟨p, 0, none⟩ = some t ∧ St1 W t m W') (first | (refine And.intro ?_ ?_ <;> assumption)) (first
    | (go_at_call 55; with_reducible refine (HPR.out _ ?h).mono ?_; (case h => assumption); rintro e w' ⟨o1, l1, k1, rfl, hr', hs'⟩; have hc' := HCA.out _ hs')
    | (go_at_call 58; with_reducible refine (HRE.out _ _ ?h ?r).mono ?_; (case h => assumption); (case r => first | assumption | exact dchain (by assumption) (by assumption)); rintro e w' ⟨o2, rfl, hr', hs'⟩; have hc' := HCA.out _ hs'))
  all_goals
    have hD : D w' o2 (XY % m) := by assumption
    have hT : St1 W t m w' := by assumption
    have HDD := Lib.hid hD; have HTT := Lib.hid hT
    clear hD hT
    go_wp2
    go_ret
    exact ⟨_, rfl, HDD.out, HTT.out.bel⟩
theorem pm1_enters : ∀ args w, (callFunc 57 args).run Tryd.prog w = .ok (.enter 57 args) w := enters_of Tryd.func57 (by kernel_rfl) rfl
theorem power_mod (bv ev t : Value) (a e m p : Nat) (w : World) (hb : D w bv (a % m)) (he : D w ev e) (hc : w.cell? ⟨p, 0, none⟩ = some t) (ht : D w t m) (hm0 : 0 < m) (hn : nd 4294967296 e ≤ 1000) (hm : nd 4294967296 m ≤ 1000) :
    Calls Tryd.prog 53 #[bv, ev, .func (.func 57) #[] #[.pointer (some ⟨p, 0, none⟩)]] w fun x w' => ∃ r y, x = .returned r ∧ D w' r y ∧ y ≤ m ∧ y % m = a ^ e % m ∧ Below w.heap.size w w' := by
  have hlt := World.block_lt_of_cell? _ _ hc
  have hle : ∀ y, y ≤ m → nd 4294967296 y ≤ 1000 := fun y h => Nat.le_trans (nd_mono (by decide) h) hm
  refine (npower_any 57 #[.pointer (some ⟨p, 0, none⟩)] (fun j y => y ≤ m ∧ y % m = a ^ j % m) bv ev (a % m) e w hb he (by omega) ⟨hm0, by rw [Nat.pow_zero]⟩ pm1_enters ?_ ?_).mono ?_
  · rintro W v x j hB hv ⟨h1, h2⟩ -
    exact (PM1_any v v t x x m p W hv hv ((hB.cell (p := ⟨p, 0, none⟩) hlt).trans hc) (ht.below hB) hm0 (hle x h1) (hle x h1) hm).mono fun e' w' ⟨r, he', hr, hB'⟩ =>
      ⟨r, _, he', hr, ⟨Nat.le_of_lt (Nat.mod_lt _ hm0), pm_sq h2⟩, hB'⟩
  · rintro W v u x j hB hv hu ⟨h1, h2⟩ -
    exact (PM1_any v u t x (a % m) m p W hv hu ((hB.cell (p := ⟨p, 0, none⟩) hlt).trans hc) (ht.below hB) hm0 (hle x h1) (hle _ (Nat.le_of_lt (Nat.mod_lt _ hm0))) hm).mono fun e' w' ⟨r, he', hr, hB'⟩ =>
      ⟨r, _, he', hr, ⟨Nat.le_of_lt (Nat.mod_lt _ hm0), pm_su h2⟩, hB'⟩
  · rintro x w' ⟨r, y, hx, hr, ⟨h1, h2⟩, hB⟩
    exact ⟨r, y, hx, hr, h1, h2, hB⟩
set_option maxHeartbeats 1000000 in
theorem PowMod_zero (v u t : Value) (a e : Nat) (w : World) (hv : D w v a) (hu : D w u e) (ht : D w t 0) :
    Calls Tryd.prog 22 #[.agg #[v], .agg #[u], .agg #[t]] w fun x w' => x = .returned (.tuple #[.agg #[.slice none 0 0], .int .i64 11]) ∧ Below w.heap.size w w' := by
  have b4 : ∀ o1 o2 o3 o4, Below w.heap.size w ((((w.alloc o1).alloc o2).alloc o3).alloc o4) := fun o1 o2 o3 o4 => ((((Below.refl _ _).alloc (Nat.le_refl _) _).alloc (by simp) _).alloc (by simp; omega) _).alloc (by simp; omega) _
  have HZ := Lib.hid (fun o1 o2 o3 o4 => isZero_any t 0 ((((w.alloc o1).alloc o2).alloc o3).alloc o4) (ht.below (b4 o1 o2 o3 o4)))
  rw [show decide ((0 : Nat) = 0) = true from rfl] at HZ
  have HB := Lib.hid b4
  obtain ⟨ao, ac, rfl, -⟩ := hv.shape
  obtain ⟨eo, ec, rfl, -⟩ := hu.shape
  obtain ⟨mo, mc, rfl, -⟩ := ht.shape
  clear hv hu ht b4
  go_enter Tryd.func22, Tryd.ntmps22
  go_wp2_with fail
  refine (HZ.out _ _ _ _).mono ?_
  rintro x w1 ⟨rfl, rfl⟩
  go_wp2
  refine bodyPost_ret (v := .tuple #[.agg #[.slice none 0 0], .int .i64 11]) (by simp [results, Tryd.results22, go_sem]) rfl ⟨rfl, HB.out _ _ _ _⟩
/-- what PowMod keeps: three numbers, their boxes, the box of the result -/
structure St3 (B : Nat) (W0 : World) (v u t : Value) (a e m : Nat) (W : World) : Prop where
  n1 : D W v a
  n2 : D W u e
  n3 : D W t m
  bel : Below W0.heap.size W0 W
theorem St3.next {B : Nat} {W0 W W' : World} {v u t : Value} {a e m : Nat} (h : St3 B W0 v u t a e m W) (hb : Below W.heap.size W W') : St3 B W0 v u t a e m W' :=
  ⟨h.n1.below hb, h.n2.below hb, h.n3.below hb, h.bel.trans (hb.mono h.bel.size)⟩
theorem St3.cell {B k : Nat} {W0 W : World} {v u t x : Value} {a e m : Nat} (h : St3 B W0 v u t a e m W) (hk : k < W0.heap.size) (hc : W0.cell? ⟨k, 0, none⟩ = some x) : W.cell? ⟨k, 0, none⟩ = some x :=
  (h.bel.cell (p := ⟨k, 0, none⟩) hk).trans hc
theorem St3.frozen {B k : Nat} {W0 W : World} {v u t : Value} {a e m : Nat} (h : St3 B W0 v u t a e m W) (hk : k < W0.heap.size) (hc : W0.frozen? ⟨k, 0, none⟩ = false) : W.frozen? ⟨k, 0, none⟩ = false :=
  (h.bel.frozen (p := ⟨k, 0, none⟩) hk).trans hc
set_option maxHeartbeats 4000000 in
set_option maxRecDepth 100000 in
theorem PowMod_pos (v u t : Value) (a e m : Nat) (w : World) (hv : D w v a) (hu : D w u e) (ht : D w t m) (hm0 : 0 < m) (ha : nd 4294967296 a ≤ 1000) (he : nd 4294967296 e ≤ 1000) (hm : nd 4294967296 m ≤ 1000) :
    Calls Tryd.prog 22 #[.agg #[v], .agg #[u], .agg #[t]] w fun x w' => ∃ r, x = .returned (.tuple #[.agg #[r], .int .i64 0]) ∧ D w' r (a ^ e % m) ∧ Below w.heap.size w w' := by
  have b4 : ∀ o1 o2 o3 o4, Below w.heap.size w ((((w.alloc o1).alloc o2).alloc o3).alloc o4) := fun o1 o2 o3 o4 => ((((Below.refl _ _).alloc (Nat.le_refl _) _).alloc (by simp) _).alloc (by simp; omega) _).alloc (by simp; omega) _
  obtain ⟨W0, hW0⟩ : ∃ W0 : World, W0 = (((w.alloc (.cells #[v] 26)).alloc (.cells #[u] 26)).alloc (.cells #[t] 26)).alloc (.cells #[.slice none 0 0] 26) := ⟨_, rfl⟩
  have hz0 : W0.heap.size = w.heap.size + 4 := by rw [hW0]; simp
  have hbw : Below w.heap.size w W0 := by rw [hW0]; exact b4 _ _ _ _
  have hst0 : St3 0 W0 v u t a e m W0 := ⟨hv.below hbw, hu.below hbw, ht.below hbw, Below.refl _ _⟩
  have ca : W0.cell? ⟨w.heap.size, 0, none⟩ = some v := by
    rw [hW0]; exact (World.cell?_alloc_past _ _ _ (by simp <;> omega)).trans ((World.cell?_alloc_past _ _ _ (by simp <;> omega)).trans ((World.cell?_alloc_past _ _ _ (by simp)).trans (World.cell?_alloc_at _ _ _ _ rfl)))
  have ce : W0.cell? ⟨w.heap.size + 1, 0, none⟩ = some u := by
    rw [hW0]; exact (World.cell?_alloc_past _ _ _ (by simp <;> omega)).trans ((World.cell?_alloc_past _ _ _ (by simp)).trans (World.cell?_alloc_at _ _ _ _ (by simp)))
  have cm : W0.cell? ⟨w.heap.size + 1 + 1, 0, none⟩ = some t := by
    rw [hW0]; exact (World.cell?_alloc_past _ _ _ (by simp)).trans (World.cell?_alloc_at _ _ _ _ (by simp))
  have cr : W0.cell? ⟨w.heap.size + 1 + 1 + 1, 0, none⟩ = some (.slice none 0 0) := by rw [hW0]; exact World.cell?_alloc_at _ _ _ _ (by simp)
  have fr : W0.frozen? ⟨w.heap.size + 1 + 1 + 1, 0, none⟩ = false := by rw [hW0]; exact World.frozen?_alloc_at _ _ _ _ (by simp)
  have HCA : Hid (∀ W, St3 0 W0 v u t a e m W → W.cell? ⟨w.heap.size, 0, none⟩ = some v ∧ W.cell? ⟨w.heap.size + 1, 0, none⟩ = some u ∧ W.cell? ⟨w.heap.size + 1 + 1, 0, none⟩ = some t) := fun W h => ⟨h.cell (by omega) ca, h.cell (by omega) ce, h.cell (by omega) cm⟩
  have HCR : Hid (∀ W, St3 0 W0 v u t a e m W → W.cell? ⟨w.heap.size + 1 + 1 + 1, 0, none⟩ = some (.slice none 0 0) ∧ W.frozen? ⟨w.heap.size + 1 + 1 + 1, 0, none⟩ = false) := fun W h => ⟨h.cell (by omega) cr, h.frozen (by omega) fr⟩
  have HZ := Lib.hid (isZero_any t m W0 hst0.n3)
  rw [show decide (m = 0) = false from decide_eq_false (by omega)] at HZ
  obtain ⟨N, hN⟩ : ∃ N, N = 1000 := ⟨_, rfl⟩
  have HDV := Lib.hid (divide_long N (by omega))
  have hmN : m < 4294967296 ^ N := (nd_le (by decide)).1 (by omega)
  have haN : a < 4294967296 ^ N := (nd_le (by decide)).1 (by omega)
  have HRE : Hid (∀ W, St3 0 W0 v u t a e m W → Calls Tryd.prog 58 #[v, t] W fun x w' => ∃ o l c, x = .returned (.slice o l c) ∧ D w' (.slice o l c) (a % m) ∧ St3 0 W0 v u t a e m w') := fun W h =>
    (remainder_any HDV.out v t a m W h.n1 h.n3 hm0 haN hmN).mono fun x w' ⟨r, he, hr, hB⟩ => by
      obtain ⟨ro, rc, rfl, -⟩ := hr.shape
      exact ⟨ro, _, rc, he, hr, h.next hB⟩
  have HPW : Hid (∀ W b, St3 0 W0 v u t a e m W → D W b (a % m) → Calls Tryd.prog 53 #[b, u, .func (.func 57) #[] #[.pointer (some ⟨w.heap.size + 1 + 1, 0, none⟩)]] W fun x w' => ∃ o l c y, x = .returned (.slice o l c) ∧ (D w' (.slice o l c) y ∧ Hid (y ≤ m ∧ y % m = a ^ e % m)) ∧ St3 0 W0 v u t a e m w') := fun W b h hb =>
    (power_mod b u t a e m (w.heap.size + 1 + 1) W hb h.n2 (HCA.out W h).2.2 h.n3 hm0 he hm).mono fun x w' ⟨r, y, hx, hr, h1, h2, hB⟩ => by
      obtain ⟨ro, rc, rfl, -⟩ := hr.shape
      exact ⟨ro, _, rc, y, hx, ⟨hr, h1, h2⟩, h.next hB⟩
  have HRF : Hid (∀ W b y, St3 0 W0 v u t a e m W → D W b y → Hid (y ≤ m ∧ y % m = a ^ e % m) → Calls Tryd.prog 58 #[b, t] W fun x w' => ∃ o l c, x = .returned (.slice o l c) ∧ D w' (.slice o l c) (a ^ e % m) ∧ St3 0 W0 v u t a e m w') := fun W b y h hb hy =>
    (remainder_any HDV.out b t y m W hb h.n3 hm0 (Nat.lt_of_le_of_lt hy.out.1 hmN) hmN).mono fun x w' ⟨r, he, hr, hB⟩ => by
      obtain ⟨ro, rc, rfl, -⟩ := hr.shape
      rw [hy.out.2] at hr
      exact ⟨ro, _, rc, he, by rw [hy.out.2]; exact hr, h.next hB⟩
  have HBW := Lib.hid hbw
  obtain ⟨ao, ac, rfl, -⟩ := hv.shape
  obtain ⟨eo, ec, rfl, -⟩ := hu.shape
  obtain ⟨mo, mc, rfl, -⟩ := ht.shape
  have HW0 := Lib.hid hW0
  have HST0 := Lib.hid hst0
  clear hv hu ht b4 hz0 ca ce cm cr fr hmN haN hbw hst0 hN hW0 hm0 ha he hm
  generalize a ^ e % m = R at *
  go_enter Tryd.func22, Tryd.ntmps22
  go_wp2_with fail
  rw [← HW0.out]
  refine HZ.out.mono ?_
  rintro x w1 ⟨rfl, rfl⟩
  have hs0 := HST0.out
  have hs2 := hs0.next ((Below.refl _ W0).drew)
  have hc0 := HCA.out _ hs0
  have hc2 := HCA.out _ hs2
  go_wp2_with fail
  go_region_held3 (fun W : World => (W.cell? ⟨w.heap.size, 0, none⟩ = some (.slice ao (nd 4294967296 a) ac) ∧ W.cell? ⟨w.heap.size + 1, 0, none⟩ = some (.slice eo (nd 4294967296 e) ec) ∧ W.cell? ⟨w.heap.size + 1 + 1, 0, none⟩ = some (.slice mo (nd 4294967296 m) mc)) ∧ St3 0 W0 (.slice ao (nd 4294967296 a) ac) (.slice eo (nd 4294967296 e) ec) (.slice mo (nd 4294967296 m) mc) a e m W) (first | (refine And.intro ?_ ?_ <;> assumption)) (first
    | (go_at_call 58; with_reducible refine (HRE.out _ ?h).mono ?_; (case h => assumption); rintro x w' ⟨o1, l1, k1, rfl, hr', hs'⟩; have hc' := HCA.out _ hs')
    | (go_at_call 53; with_reducible refine (HPW.out _ _ ?h ?r).mono ?_; (case h => assumption); (case r => first | assumption | exact dchain (by assumption) (by assumption)); rintro x w' ⟨o2, l2, k2, y, rfl, hr', hs'⟩; have hc' := HCA.out _ hs'))
  all_goals
    have hD : D w' (.slice o2 l2 k2) y ∧ Hid (y ≤ m ∧ y % m = R) := by assumption
    have hT : St3 0 W0 (.slice ao (nd 4294967296 a) ac) (.slice eo (nd 4294967296 e) ec) (.slice mo (nd 4294967296 m) mc) a e m w' := by assumption
    have HR2 := Lib.hid (HRF.out _ _ _ hT hD.1 hD.2)
    have hc2 := HCA.out _ hT
    clear hD hT
    go_wp2_with fail
    refine HR2.out.mono ?_
    rintro x w5 ⟨o3, l3, k3, rfl, hr3, hs3⟩
    have hcr := HCR.out _ hs3
    obtain ⟨hcell, hfro⟩ := hcr
    have HD3 := Lib.hid (hr3.setCell hcell (by intro d h; cases h) (.slice o3 l3 k3))
    have HBE := Lib.hid ((HBW.out.trans (hs3.bel.mono HBW.out.size)).setCell (p := ⟨w.heap.size + 1 + 1 + 1, 0, none⟩) (by show w.heap.size ≤ w.heap.size + 1 + 1 + 1; omega) (.slice o3 l3 k3))
    have HCE := Lib.hid hcell
    clear hr3 hs3 hc2
    go_wp2
    have hcell := HCE.out
    refine bodyPost_ret (v := .tuple #[.agg #[.slice o3 l3 k3], .int .i64 0]) (by simp [results, Tryd.results22, go_sem, hcell]) rfl ⟨_, rfl, HD3.out, HBE.out⟩
end Go.Proofs.YtgidmlffjelpnaaDoor
namespace Go.Proofs.YtgidmlffjelpnaaDoor
open Go Go.RowKit Gu

/-- any digit of a buffer is stored anew -/
theorem Buf.at {k : IntKind} {B : Nat} {T : TypeId} {w : World} {g m V : Nat} (h : Buf k B T w g m V) (hB : 0 < B) (j : Nat) {d : Nat} (hd : d < B) :
    Buf k B T (w.setCell ⟨g, j, none⟩ (.int k d)) g m (V % B ^ j + B ^ j * (d + B * (V / B ^ (j + 1)))) := by
  have e : V = V % B ^ j + B ^ j * (dg B V j + B * (V / B ^ (j + 1))) := by
    rw [← div_succ]; exact (Nat.mod_add_div _ _).symm
  rw [e] at h
  exact Buf.set h hB (Nat.mod_lt _ (Nat.pow_pos hB)) (dg_lt hB _ _) hd
/-- .. and what the number is then -/
theorem at_val {B V j d : Nat} : V % B ^ j + B ^ j * (d + B * (V / B ^ (j + 1))) + B ^ j * dg B V j = V + B ^ j * d := by
  have e : V = V % B ^ j + B ^ j * (dg B V j + B * (V / B ^ (j + 1))) := by
    rw [← div_succ]; exact (Nat.mod_add_div _ _).symm
  have e2 : B ^ j * (d + B * (V / B ^ (j + 1))) = B ^ j * d + B ^ j * (B * (V / B ^ (j + 1))) := Nat.mul_add _ _ _
  have e3 : B ^ j * (dg B V j + B * (V / B ^ (j + 1))) = B ^ j * dg B V j + B ^ j * (B * (V / B ^ (j + 1))) := Nat.mul_add _ _ _
  omega
/-- one round of the inner loop -/
theorem mulr_round {B V c i k P a b d q : Nat} (h : V + B ^ (i + k) * c = P + B ^ i * (a * (b % B ^ k))) (hd : d + B * q = c + dg B V (i + k) + a * dg B b k) :
    (V % B ^ (i + k) + B ^ (i + k) * (d + B * (V / B ^ (i + k + 1)))) + B ^ (i + (k + 1)) * q = P + B ^ i * (a * (b % B ^ (k + 1))) := by
  have e := at_val (B := B) (V := V) (j := i + k) (d := d)
  have e1 : B ^ (i + k) * (d + B * q) = B ^ (i + k) * (c + dg B V (i + k) + a * dg B b k) := by rw [hd]
  rw [mod_succ]
  have e2 : B ^ i * (a * (b % B ^ k + B ^ k * dg B b k)) = B ^ i * (a * (b % B ^ k)) + B ^ (i + k) * (a * dg B b k) := by
    rw [Nat.mul_add a, Nat.mul_add (B ^ i), Nat.pow_add, Nat.mul_assoc (B ^ i), Nat.mul_left_comm a]
  have e3 : B ^ (i + (k + 1)) * q = B ^ (i + k) * (B * q) := by rw [← Nat.add_assoc, Nat.pow_succ, Nat.mul_assoc]
  rw [e2, e3]
  rw [Nat.mul_add, Nat.mul_add, Nat.mul_add] at e1
  omega
/-- what the outer loop keeps -/
def MulRel (a b m : Nat) (w : World) (i : Nat) (wr : World) : Prop :=
  Buf .i64 65536 3 wr w.heap.size m ((a % 65536 ^ i) * b) ∧ Below w.heap.size w wr
/-- what the inner loop keeps -/
def RowIn (a b da m : Nat) (w : World) (i k c : Nat) (wr : World) : Prop :=
  c < 65536 ∧ ∃ V, V + 65536 ^ (i + k) * c = (a % 65536 ^ i) * b + 65536 ^ i * (da * (b % 65536 ^ k)) ∧ Buf .i64 65536 3 wr w.heap.size m V ∧ Below w.heap.size w wr
theorem RowIn.next {a b da m : Nat} {w : World} {i k c q : Nat} {wr : World} {V : Nat} (h1 : V + 65536 ^ (i + k) * c = (a % 65536 ^ i) * b + 65536 ^ i * (da * (b % 65536 ^ k))) (h2 : Buf .i64 65536 3 wr w.heap.size m V) (h3 : Below w.heap.size w wr)
    (hc : c < 65536) (ha : da < 65536) (n : Nat) (ht : q = c + dg 65536 V (i + k) + da * dg 65536 b k) : RowIn a b da m w i (k + 1) (q / 65536) ((wr.drewN n).setCell ⟨w.heap.size, i + k, none⟩ (.int .i64 (q % 65536 : Nat))) := by
  have hv := dg_lt (B := 65536) (by decide) V (i + k)
  have hb := dg_lt (B := 65536) (by decide) b k
  have hm : da * dg 65536 b k ≤ 65535 * 65535 := Nat.mul_le_mul (by omega) (by omega)
  refine ⟨by omega, _, mulr_round h1 (show q % 65536 + 65536 * (q / 65536) = _ by rw [Nat.mod_add_div]; exact ht), Buf.at (w := wr.drewN n) h2 (by decide) _ (Nat.mod_lt _ (by decide)), (below_drewN h3 n).setCell (Nat.le_refl _) _⟩
/-- where the inner loop ends, and that it stays inside the row -/
theorem row_in {a b da m : Nat} {w : World} {i k c : Nat} {wr : World} (h : RowIn a b da m w i k c wr) {lb : Nat} (hb : b < 65536 ^ lb) (hda : da < 65536) (hk : lb ≤ k) (hc : 0 < c) : k = lb := by
  obtain ⟨-, V, hV, -, -⟩ := h
  rcases Nat.lt_or_ge lb k with h1 | h1
  · exfalso
    have h2 : 65536 ^ (i + k) ≤ 65536 ^ (i + k) * c := Nat.le_mul_of_pos_right _ hc
    have h3 : (a % 65536 ^ i) * b ≤ 65536 ^ i * b := Nat.mul_le_mul_right _ (Nat.le_of_lt (Nat.mod_lt _ (Nat.pow_pos (by decide))))
    have h4 : 65536 ^ i * (da * (b % 65536 ^ k)) ≤ 65536 ^ i * (65535 * b) := Nat.mul_le_mul_left _ (Nat.mul_le_mul (by omega) (Nat.mod_le _ _))
    have h5 : 65536 ^ i * (65536 * b) < 65536 ^ i * (65536 * 65536 ^ lb) := Nat.mul_lt_mul_of_pos_left (Nat.mul_lt_mul_of_pos_left hb (by decide)) (Nat.pow_pos (by decide))
    have h6 : 65536 ^ i * (65536 * 65536 ^ lb) ≤ 65536 ^ (i + k) := by
      rw [Nat.mul_comm 65536, ← Nat.pow_succ, ← Nat.pow_add]
      exact Nat.pow_le_pow_right (by decide) (by omega)
    have h7 : 65536 ^ i * (65536 * b) = 65536 ^ i * b + 65536 ^ i * (65535 * b) := by
      rw [← Nat.mul_add]; congr 1; omega
    omega
  · omega
theorem RowIn.done {a b m : Nat} {w : World} {i k : Nat} {wr : World} {lb : Nat} (h : RowIn a b (dg 65536 a i) m w i k 0 wr) (hb : b < 65536 ^ lb) (hk : lb ≤ k) : MulRel a b m w (i + 1) wr := by
  obtain ⟨-, V, hV, h1, h2⟩ := h
  have hbk : b % 65536 ^ k = b := Nat.mod_eq_of_lt (Nat.lt_of_lt_of_le hb (Nat.pow_le_pow_right (by decide) hk))
  rw [hbk, Nat.mul_zero, Nat.add_zero] at hV
  refine ⟨?_, h2⟩
  rw [mod_succ, Nat.add_mul, Nat.mul_assoc, ← hV]
  exact h1
set_option maxHeartbeats 2000000 in
set_option maxRecDepth 100000 in
theorem RMul_any (v u : Value) (a b : Nat) (w : World) (hv : R w v a) (hu : R w u b) (ha : nd 65536 a ≤ 500000) (hb : nd 65536 b ≤ 500000) :
    Calls Tryd.prog 28 #[v, u] w fun e w' => ∃ r, e = .returned r ∧ R w' r (a * b) ∧ Below w.heap.size w w' := by
  have hB : 2 ≤ 65536 := by decide
  obtain ⟨ao, ac, rfl, hcv⟩ := hv.shape
  obtain ⟨bo, bc, rfl, -⟩ := hu.shape
  have HU := Lib.hid hu
  have HC := Lib.hid hcv
  clear hv hu hcv
  have HAl := Lib.hid (nd_lt hB a)
  have HBl := Lib.hid (nd_lt hB b)
  have HNb : Hid (nd 65536 b ≤ 4611686018427387904) := by show _ ≤ _; omega
  generalize nd 65536 a = la at *
  obtain ⟨lb, hlb⟩ : ∃ lb, nd 65536 b = lb := ⟨_, rfl⟩
  rw [hlb] at hb HU HBl ⊢
  clear hlb
  have hmk := made_int (la + lb) (by omega)
  rw [show (((la + lb : Nat)) : Int) = (la : Int) + lb from by omega] at hmk
  go_enter Tryd.func28, Tryd.ntmps28
  go_wp2
  go_loopw [6] (fun t wr => ∃ i : Nat, i ≤ la ∧ t = .int .i64 i ∧ MulRel a b (la + lb) w i wr) (fun t _ => la - (intOf t).toNat)
  case atStart => exact ⟨0, Nat.zero_le _, rfl, by simpa [Nat.mod_one] using Buf.made _ _ _ _ _, (Below.refl _ _).alloc (Nat.le_refl _) _⟩
  case round =>
    obtain ⟨i, hi, rfl, hrel⟩ := hrel
    by_cases hlt : i < la
    · have hil : (i : Int) < la := by omega
      have HM := Lib.hid hrel
      clear hrel
      obtain ⟨wo, rfl⟩ : ∃ wo : World, wo = wr := ⟨_, rfl⟩
      obtain ⟨gb, go, rfl, hca⟩ := HC.out i hlt
      have hda := dg_lt (B := 65536) (by decide) a i
      have HFIN := Lib.hid (fun k wr (h : RowIn a b (dg 65536 a i) (la + lb) w i k 0 wr) (hk : lb ≤ k) => h.done HBl.out hk)
      have HCA : Hid (∀ wr, Below w.heap.size w wr → wr.cell? ⟨gb, go + i, none⟩ = some (.int .i64 (dg 65536 a i : Nat))) := fun wr hb => by
        rw [hb.cell (p := ⟨gb, go + i, none⟩) (World.block_lt_of_cell? _ _ hca)]; exact hca
      clear hca
      have HDA : Hid (dg 65536 a i < 65536) := hda
      have HSTART : Hid (RowIn a b (dg 65536 a i) (la + lb) w i 0 0 wo) := ⟨by decide, _, by simp [Nat.mod_one], HM.out.1, HM.out.2⟩
      generalize dg 65536 a i = da at *
      go_wp2
      go_loopg [7, 8] (lb + 1) (fun m c x wr => ∃ k cc : Nat, Hid (m + k = lb + 1) ∧ x = .int .i64 k ∧ c = .int .i64 cc ∧ RowIn a b da (la + lb) w i k cc wr)
      case atStart => exact ⟨0, 0, rfl, rfl, rfl, HSTART.out⟩
      case round =>
        obtain ⟨k, c, HK, rfl, rfl, hrow⟩ := hrel
        have hk1 : k ≤ lb + 1 := by have := HK.out; omega
        by_cases hcont : k < lb ∨ 0 < c
        · have hklb : k ≤ lb := by
            rcases hcont with h | h
            · omega
            · rcases Nat.lt_or_ge k lb with h' | h'
              · omega
              · exact Nat.le_of_eq (row_in hrow HBl.out HDA.out h' h)
          have hc1 := hrow.1
          obtain ⟨-, V, hV, hbuf, hbel⟩ := hrow
          have HNX := Lib.hid (fun n q hq => RowIn.next (q := q) hV hbuf hbel hc1 HDA.out n hq)
          have HA := Lib.hid (fun q => Rat_any _ b k (wr.drewN q) (HU.out.below (below_drewN hbel q)) HNb.out)
          have hca := HCA.out _ hbel
          have hcell := hbuf.cell (i := i + k) (by omega)
          have hfr := hbuf.frozen (i + k)
          have hdv := dg_lt (B := 65536) (by decide) V (i + k)
          have hdb := dg_lt (B := 65536) (by decide) b k
          clear hV hbuf hbel
          generalize dg 65536 V (i + k) = dv at *
          generalize dg 65536 b k = db at *
          have hmul : da * db ≤ 65535 * 65535 := Nat.mul_le_mul (by omega) (by omega)
          obtain ⟨q, hq⟩ : ∃ q, q = c + dv + da * db := ⟨_, rfl⟩
          have hq1 : q < 8589934592 := by omega
          have HN := Lib.hid (fun n => HNX.out n q hq)
          have HW : Hid (wrap64 (↑c + wrap64 (↑dv + wrap64 (↑da * ↑db))) = (q : Int)) := by
            show _ = _
            have e : (da : Int) * db = ((da * db : Nat) : Int) := by simp
            rw [e, hq]
            generalize da * db = p at *
            rw [IntWalk.wrap64_in (p : Int) (by omega), IntWalk.wrap64_in ((dv : Int) + p) (by omega), IntWalk.wrap64_in _ (by omega)]
            omega
          clear hq HNX hmul
          have hcond : ((k : Int) < lb) ∨ (¬ ((k : Int) < lb) ∧ (0 : Int) < c) := by omega
          have hil2 : (i : Int) + k < ((la + lb : Nat) : Int) := by omega
          rcases hcond with h1 | ⟨h0, h1⟩
          all_goals
            go_wp2
            go_quiet ((go_at_call 47; exact Calls.quiet_of_same ((HA.out _).mono fun _ _ ⟨h, h'⟩ => ⟨h, h'.symm⟩)))
            rw [HW.out]
            go_wp2
            have HN2 := HN.out nq
            rw [show ((q % 65536 : Nat) : Int) = (q : Int) % 65536 from by omega] at HN2
            go_roundg (lb - k)
            case measure => have := HK.out; omega
            case rel => exact ⟨k + 1, q / 65536, by show _ = _; omega, by go_num, by go_num, HN2⟩
        · have hk2 : lb ≤ k := by omega
          have hc0 : c = 0 := by omega
          subst hc0
          have HF := Lib.hid (HFIN.out k wr hrow hk2)
          have h0 : ¬ ((k : Int) < lb) := by omega
          clear hrow hcont
          go_wp2
          go_roundw
          case rel => exact ⟨i + 1, by omega, by go_num, HF.out⟩
          case measure => simp [intOf]; omega
    · obtain rfl : i = la := by omega
      obtain ⟨hbuf, hbel⟩ := hrel
      rw [Nat.mod_eq_of_lt HAl.out] at hbuf
      have hlt2 : a * b < 65536 ^ (i + lb) := by
        rw [Nat.pow_add]
        exact Nat.mul_lt_mul_of_lt_of_le HAl.out (Nat.le_of_lt HBl.out) (Nat.pow_pos (by decide))
      have HR := Lib.hid (hbuf.isN hB hlt2 (i + lb))
      have HT := Lib.hid (Trim_buf w.heap.size (i + lb) (i + lb) (a * b) wr hbuf hlt2 (by omega) (by omega))
      have HBel := Lib.hid hbel
      clear hlt2 hbuf hbel hlt hi
      go_wp2_with fail
      refine HT.out.mono ?_
      rintro e w' ⟨rfl, rfl⟩
      go_wp2
      go_ret
      exact ⟨_, rfl, HR.out, HBel.out⟩
end Go.Proofs.YtgidmlffjelpnaaDoor
namespace Go.Proofs.YtgidmlffjelpnaaDoor
open Go Go.RowKit Gu

set_option maxHeartbeats 400000 in
theorem NMul_any (v u : Value) (a b : Nat) (w : World) (hv : D w v a) (hu : D w u b) (ha : nd 4294967296 a ≤ 500000) (hb : nd 4294967296 b ≤ 500000) :
    Calls Tryd.prog 35 #[.agg #[v], .agg #[u]] w fun e w' => ∃ r, e = .returned (.tuple #[.agg #[r], .int .i64 (fitE (a * b))]) ∧ D w' r (fitN (a * b)) ∧ Below w.heap.size w w' := by
  have hnd := nd_mul ha hb
  have b3 : ∀ o1 o2 o3, Below w.heap.size w (((w.alloc o1).alloc o2).alloc o3) := fun o1 o2 o3 => (((Below.refl _ _).alloc (Nat.le_refl _) _).alloc (by simp) _).alloc (by simp; omega) _
  have HS := Lib.hid (fun o1 o2 o3 => product_any v u a b (((w.alloc o1).alloc o2).alloc o3) (hv.below (b3 o1 o2 o3)) (hu.below (b3 o1 o2 o3)) (by omega) (by omega))
  have HB3 := Lib.hid b3
  obtain ⟨ao, ac, rfl, -⟩ := hv.shape
  obtain ⟨bo, bc, rfl, -⟩ := hu.shape
  clear hv hu b3
  go_enter Tryd.func35, Tryd.ntmps35
  go_wp2_with fail
  refine (HS.out _ _ _).mono ?_
  rintro e w1 ⟨r, rfl, hr, hbel⟩
  have HF := Lib.hid (fitting_any r (a * b) w1 hr (by omega))
  clear hr
  obtain ⟨hc, hf⟩ := bcell hbel
  have HB1 := Lib.hid hbel
  have hz := hbel.size
  simp only [World.size_alloc] at hz
  clear hbel
  go_wp2_with fail
  refine HF.out.mono ?_
  rintro e w2 ⟨r2, rfl, hr2, hbel2⟩
  obtain ⟨hc2, hf2⟩ := bcell hbel2
  obtain ⟨ro, rc, rfl, -⟩ := hr2.shape
  have HB2 := Lib.hid hbel2
  have HR2 := Lib.hid hr2
  have hz2 := hbel2.size
  clear hbel2 hr2
  have hcell : w2.cell? ⟨w.heap.size + 1 + 1, 0, none⟩ = some (.slice none 0 0) := by
    rw [hc2 _ _ (by omega), hc _ _ (by simp)]
    exact World.cell?_alloc_at _ _ _ _ (by simp)
  have hfr : w2.frozen? ⟨w.heap.size + 1 + 1, 0, none⟩ = false := by
    rw [hf2 _ _ (by omega), hf _ _ (by simp)]
    exact World.frozen?_alloc_at _ _ _ _ (by simp)
  have HCE := Lib.hid hcell
  clear hc hf hc2 hf2
  go_wp2
  refine bodyPost_ret (v := .tuple #[.agg #[.slice ro (nd 4294967296 (fitN (a * b))) rc], .int .i64 (fitE (a * b))]) (by simp [results, Tryd.results35, go_sem, hcell]) rfl ⟨_, rfl, HR2.out.setCell HCE.out (by intro d h; cases h) _, ?_⟩
  exact (((HB3.out _ _ _).trans (HB1.out.mono (by simp; omega))).trans (HB2.out.mono (by omega))).setCell (by show w.heap.size ≤ w.heap.size + 1 + 1; omega) _
theorem nd_rmul {a b m k : Nat} (ha : nd 65536 a ≤ m) (hb : nd 65536 b ≤ k) : nd 65536 (a * b) ≤ m + k := by
  have h1 := (nd_le (by decide : 2 ≤ 65536)).1 ha
  have h2 := (nd_le (by decide : 2 ≤ 65536)).1 hb
  apply (nd_le (by decide : 2 ≤ 65536)).2
  rw [Nat.pow_add]
  exact Nat.mul_lt_mul_of_lt_of_le h1 (Nat.le_of_lt h2) (Nat.pow_pos (by decide))
end Go.Proofs.YtgidmlffjelpnaaDoor
namespace Go.Proofs.YtgidmlffjelpnaaDoor
open Go Go.RowKit Gu

/-- an append to a row of the call's own, as one step of a region that draws its order -/
theorem step_append_own {P : Program} {ops : Array Oper} {o : Oper} {a : Act} {w : World} {K : Act → World → Prop} {Q : Exit → Act → World → Prop} {E : Prop} (hg : o.guard = none) (s x : Operand) (t : TypeId)
    (ho : o.op = Op.call { callee := Callee.builtin Builtin.append, args := #[s, x], argTypes := #[t, t] })
    (base : Nat) (e : TypeId) (i : TypeInfo) (z : Value) (size bytes : Nat) (ht : P.underlying t = some (.slice e)) (hi : P.info? e = some i) (hz : i.zero = some z)
    (hsize : i.size = size) (hby : i.bytes = bytes) (hzs : z.cells.size = size) (hsz : 0 < size)
    (v : Value) (n : Nat) (xs : List Value) (hs : a.eval s = v) (hown : w.ownsRow base e size v n xs)
    (ad : Addr) (m c : Nat) (news : List Value) (hx : a.eval x = .slice (some ad) m c) (hl : news.length = m * size) (hnews : ∀ j u, news[j]? = some u → w.cell? (ad.add j) = some u) (h1 : ∀ u ∈ news, u.oneCell' = true)
    (h63 : n + m ≤ maxLen) (hbytes : (n + m) * bytes ≤ 140737488355328) (hbase : base ≤ w.heap.size)
    (hK : ∀ v' w', w'.ownsRow base e size v' (n + m) (xs ++ news) → w.grownBy w' v.ownBlock → (v' = .slice none 0 0 ↔ v = .slice none 0 0 ∧ m = 0) → K (a.put o.dst v') w') :
    if Region.wanted o (yielded ops a.tmps) = true then Oper.wp P o a w K Q else E := by
  have hw : Region.wanted o (yielded ops a.tmps) = true := by simp [Region.wanted, hg]
  rw [if_pos hw]
  exact wp_append_own w s x t ho base e i z size bytes ht hi hz hsize hby hzs hsz v n xs hs hown ad m c news hx hl hnews h1 h63 hbytes hbase hK
theorem shr_word {B p t da db : Nat} (hB : B = p * t) (hp : 0 < p) (hda : da < B) : ((da + B * db) / p) % B = da / p + db % p * t := by
  subst hB
  have ht : 0 < t := by
    rcases Nat.eq_zero_or_pos t with h | h
    · subst h; omega
    · exact h
  have e1 : (da + p * t * db) / p = da / p + t * db := by
    rw [Nat.mul_assoc, Nat.add_mul_div_left _ _ hp]
  have e2 : t * db = (db % p) * t + p * t * (db / p) := by
    have h := Nat.div_add_mod db p
    have h2 : t * (p * (db / p) + db % p) = t * db := by rw [h]
    rw [Nat.mul_add, ← Nat.mul_assoc, Nat.mul_comm t p, Nat.mul_comm t (db % p)] at h2
    omega
  rw [e1, e2, ← Nat.add_assoc, Nat.add_mul_mod_self_left]
  apply Nat.mod_eq_of_lt
  have h3 : da / p < t := by rw [Nat.div_lt_iff_lt_mul hp, Nat.mul_comm]; exact hda
  have h4 : db % p * t + t ≤ p * t := by rw [← Nat.succ_mul]; exact Nat.mul_le_mul_right _ (Nat.mod_lt _ hp)
  omega
theorem pow_dvd16 {s : Nat} (h : s ≤ 16) : 65536 = 2 ^ s * 2 ^ (16 - s) := by
  rw [← Nat.pow_add, show s + (16 - s) = 16 from by omega]
theorem pow_n {n wh s : Nat} (h : n = 16 * wh + s) : 2 ^ n = 65536 ^ wh * 2 ^ s := by
  rw [h, Nat.pow_add, Nat.pow_mul]
/-- a digit of a number divided by a power of two, as the document makes it -/
theorem shr_dg {a n wh s k : Nat} (h : n = 16 * wh + s) (hs : s < 16) : dg 65536 (a / 2 ^ n) k = dg 65536 a (wh + k) / 2 ^ s + dg 65536 a (wh + k + 1) % 2 ^ s * 2 ^ (16 - s) := by
  rw [pow_n h, shr_digit (by decide) ⟨_, pow_dvd16 (by omega)⟩, Nat.add_comm k wh, shr_word (pow_dvd16 (by omega)) (Nat.pow_pos (by decide)) (dg_lt (by decide) _ _)]
/-- what the loop of Shr keeps -/
def RShrRel (a n : Nat) (w : World) (k : Nat) (v : Value) (wr : World) : Prop :=
  Own .i64 65536 3 wr w.heap.size v k (a / 2 ^ n % 65536 ^ k) ∧ Below w.heap.size w wr
set_option maxHeartbeats 2000000 in
set_option maxRecDepth 100000 in
theorem RShr_any (v : Value) (a n : Nat) (w : World) (hv : R w v a) (ha : nd 65536 a ≤ 1048576) (hn : n ≤ 9223372036854775807) :
    Calls Tryd.prog 63 #[v, .int .i64 n] w fun e w' => ∃ r, e = .returned r ∧ R w' r (a / 2 ^ n) ∧ Below w.heap.size w w' := by
  obtain ⟨i0, hi, hz0, hz1, hz2⟩ := info_parts Tryd.infoInt
  have hB : 2 ≤ 65536 := by decide
  obtain ⟨ao, ac, rfl, hcv⟩ := hv.shape
  have HV := Lib.hid hv
  have HC := Lib.hid hcv
  clear hv hcv
  have HAl := Lib.hid (nd_lt hB a)
  generalize hna : nd 65536 a = la at *
  have HNa : Hid (nd 65536 a ≤ 4611686018427387904) := by show _ ≤ _; omega
  clear hna
  obtain ⟨wh, hwh⟩ : ∃ wh, wh = n / 16 := ⟨_, rfl⟩
  obtain ⟨s, hs⟩ : ∃ s, s = n % 16 := ⟨_, rfl⟩
  have hs16 : s < 16 := by omega
  have q1 : (n : Int) / 16 = wh := by omega
  have q2 : (n : Int) % 16 = s := by omega
  have HNW : Hid (n = 16 * wh + s) := by show _ = _; omega
  have hwl : wh ≤ 576460752303423487 := by omega
  clear hwh hs
  have hpp : 0 < 2 ^ s := Nat.pow_pos (by decide)
  have hpt : 0 < 2 ^ (16 - s) := Nat.pow_pos (by decide)
  have HPT := Lib.hid (pow_dvd16 (show s ≤ 16 by omega))
  have hpl : 2 ^ s ≤ 65536 := Nat.le_trans (Nat.pow_le_pow_right (by decide) (show s ≤ 16 by omega)) (by decide)
  have htl : 2 ^ (16 - s) ≤ 65536 := Nat.le_trans (Nat.pow_le_pow_right (by decide) (show 16 - s ≤ 16 by omega)) (by decide)
  have HP := Lib.hid (fun w => power_any s w (by omega))
  have HDG := Lib.hid (fun k => shr_dg (a := a) (k := k) HNW.out hs16)
  generalize hpe : 2 ^ s = p at *
  generalize hte : 2 ^ (16 - s) = t at *
  clear hpe hte
  have ht : (65536 : Int) / p = t := by
    have : 65536 / p = t := by rw [HPT.out, Nat.mul_div_cancel_left _ hpp]
    rw [show (65536 : Int) / p = ((65536 / p : Nat) : Int) from by simp, this]
  have HTT := Lib.hid ht
  clear ht
  go_enter Tryd.func63, Tryd.ntmps63
  go_wp2_with fail
  refine (HP.out _).mono ?_
  rintro e w' ⟨rfl, rfl⟩
  go_wp2
  go_loopg [5, 7] (la - wh) (fun m out x wr => ∃ k, Hid (wh + k + m = max la wh) ∧ x = .int .i64 ((wh + k : Nat) : Int) ∧ RShrRel a n w k out wr)
  case atStart => exact ⟨0, by show _ = _; omega, rfl, by simpa [RShrRel, Nat.mod_one] using ⟨Own.nil _ _ _ _ _, Below.refl _ _⟩⟩
  case round =>
    obtain ⟨k, HK, rfl, hown, hbel⟩ := hrel
    by_cases hlt : wh + k < la
    · have h1 : ((wh + k : Nat) : Int) < la := by omega
      obtain ⟨gb, go, rfl, hca⟩ := HC.out (wh + k) hlt
      have hgb0 : gb < w.heap.size := World.block_lt_of_cell? _ _ hca
      have hkb : k ≤ 1048576 := by omega
      have hca' : wr.cell? ⟨gb, go + (wh + k), none⟩ = some (.int .i64 (dg 65536 a (wh + k) : Nat)) := by
        rw [hbel.cell (p := ⟨gb, go + (wh + k), none⟩) (World.block_lt_of_cell? _ _ hca)]; exact hca
      have HA := Lib.hid (fun q => Rat_any _ a (wh + k + 1) (wr.drewN q) (HV.out.below (below_drewN hbel q)) HNa.out)
      have hd := HDG.out k
      have hda := dg_lt (B := 65536) (by decide) a (wh + k)
      have hdb := dg_lt (B := 65536) (by decide) a (wh + k + 1)
      have hdx := dg_lt (B := 65536) (by decide) (a / 2 ^ n) k
      have HPS : Hid (pad 65536 (k + 1) (a / 2 ^ n % 65536 ^ (k + 1)) = pad 65536 k (a / 2 ^ n % 65536 ^ k) ++ [dg 65536 (a / 2 ^ n) k]) := by
        show _ = _
        rw [mod_succ]
        exact pad_succ (by decide) (Nat.mod_lt _ (Nat.pow_pos (by decide))) hdx
      have HB := Lib.hid hbel
      have hltw := hown.lt
      have HLT := Lib.hid hltw
      have hsz := hbel.size
      unfold Own at hown
      clear hca hbel hltw
      generalize dg 65536 (a / 2 ^ n) k = dx at *
      have HDX := Lib.hid hd
      clear hd
      obtain ⟨j, hj⟩ : ∃ j, j = wh + k := ⟨_, rfl⟩
      rw [← hj] at h1 hca' HA hda hdb HDX hlt ⊢
      have HJ := Lib.hid hj
      clear hj
      generalize dg 65536 a j = da at *
      generalize dg 65536 a (j + 1) = db at *
      have hp0 : ¬ (p : Int) = 0 := by omega
      have hp1 : ¬ p = 0 := by omega
      have hdp : da / p ≤ da := Nat.div_le_self _ _
      have hmp : db % p < p := Nat.mod_lt _ hpp
      have hmul : db % p * t ≤ 65535 * 65536 := Nat.mul_le_mul (by omega) htl
      have HX : Hid (IntKind.i64.wrap (IntKind.i64.wrap ((da : Int) / p) + IntKind.i64.wrap (((db : Int).tmod p) * (IntKind.i64.wrap (Int.tdiv 65536 (p : Int))))) = (dx : Int)) := by
        show _ = _
        have hdx' := HDX.out
        rw [Int.tdiv_eq_ediv_of_nonneg (by omega), HTT.out, IntWalk.i64_in (t : Int) (by omega), Int.tmod_eq_emod_of_nonneg (by omega), show (da : Int) / p = ((da / p : Nat) : Int) from by simp, show (db : Int) % p = ((db % p : Nat) : Int) from by simp,
          show ((db % p : Nat) : Int) * (t : Int) = ((db % p * t : Nat) : Int) from by simp]
        generalize da / p = y1 at *
        generalize db % p * t = y2 at *
        rw [IntWalk.i64_in (y1 : Int) (by omega), IntWalk.i64_in (y2 : Int) (by omega), IntWalk.i64_in _ (by omega)]
        omega
      clear hdp hmp hmul
      have HONE : Hid (∀ x : Int, ∀ u ∈ [Value.int .i64 x], u.oneCell' = true) := by intro x u hu; simp at hu; subst hu; rfl
      have HML : Hid (k + 1 ≤ maxLen) := by show _ ≤ _; unfold maxLen; omega
      have HBY : Hid ((k + 1) * 8 ≤ 140737488355328) := by show _ ≤ _; omega
      have HBS : Hid (∀ o, w.heap.size ≤ (wr.drew.alloc o).heap.size) := fun o => Nat.le_trans hsz (by rw [World.size_alloc]; exact Nat.le_succ _)
      have hwj : IntKind.i64.wrap ((j : Int) + 1) = (j : Int) + 1 := IntWalk.i64_in _ (by omega)
      have hlw : (j : Int) < la := by omega
      have hlw2 : (0 : Int) ≤ (j : Int) := by omega
      have hca2 : wr.drew.cell? ⟨gb, go + (j), none⟩ = some (.int .i64 (da : Nat)) := hca'
      have HA2 : Hid (Calls Tryd.prog 47 #[.slice (some ⟨gb, go, none⟩) la ac, .int .i64 ((j : Int) + 1)] wr.drew fun e w' => e = .returned (.int .i64 (db : Nat)) ∧ wr.drew = w') := HA.out 1
      clear HA
      have hgb : gb < wr.heap.size := World.block_lt_of_cell? _ _ hca'
      have HAL : Hid (∀ o, (wr.drew.alloc o).cell? ⟨gb, go + (j), none⟩ = some (.int .i64 (da : Nat))) := fun o => (((Below.refl wr.drew.heap.size wr.drew).alloc (Nat.le_refl _) o).cell (p := ⟨gb, go + (j), none⟩) hgb).trans hca'
      go_wp2
      go_region_held3 (fun W : World => W.cell? ⟨gb, go + (j), none⟩ = some (.int .i64 (da : Nat))) (first | assumption | exact HAL.out _) (first
        | (go_at_call 47; go_must (go_fit HA2.out); rintro e w' ⟨rfl, rfl⟩)
        | (refine step_append_own rfl (.tmp 19) (.tmp 36) 30 rfl w.heap.size 3 i0 (.int .i64 0) 1 8 Tryd.underlying30 hi hz0 hz1 hz2 rfl (by decide) _ _ _ (by rfl) (hown.drew.alloc _) ⟨wr.heap.size, 0, none⟩ 1 1 [_] rfl rfl (cell_one_new _ _ _) (HONE.out _) HML.out HBY.out (HBS.out _) ?_; intro v' w4 hown4 hgrow hnil; have hca4 : w4.cell? ⟨gb, go + j, none⟩ = some (.int .i64 (da : Nat)) := hgrow.cell (HAL.out _) (fun e => Nat.not_lt_of_le (HLT.out _ e.symm).1 hgb0)) | fail)
      have HFIN : Hid (RShrRel a n w (k + 1) v' w4) := by
        refine ⟨?_, ?_⟩
        · unfold Own
          rw [HPS.out, List.map_append]
          rw [HX.out] at hown4
          exact hown4
        · refine Below.grown (HB.out.drew.alloc hsz _) hgrow (by rw [World.size_alloc]; exact Nat.le_succ_of_le hsz) ?_
          intro j hj
          exact (HLT.out _ hj).1
      clear hown4 hgrow hnil hown hca4 HX
      go_wp2
      go_roundg (la - wh - (k + 1))
      case measure => have h1 := HK.out; have h2 := HJ.out; have h3 : max la wh = la := Nat.max_eq_left (by omega); rw [h3] at h1; omega
      case rel => exact ⟨k + 1, by have h1 := HK.out; have h2 := HJ.out; have h3 : max la wh = la := Nat.max_eq_left (by omega); rw [h3] at h1; show _ = max la wh; rw [h3]; omega, by rw [HJ.out]; go_num, HFIN.out⟩
    · have hnl : ¬ ((wh + k : Nat) : Int) < la := by omega
      have hxl : a / 2 ^ n < 65536 ^ k := by
        rw [pow_n HNW.out, ← Nat.div_div_eq_div_mul]
        refine Nat.lt_of_le_of_lt (Nat.div_le_self _ _) ?_
        rw [Nat.div_lt_iff_lt_mul (Nat.pow_pos (by decide)), ← Nat.pow_add]
        exact Nat.lt_of_lt_of_le HAl.out (Nat.pow_le_pow_right (by decide) (by omega))
      rw [Nat.mod_eq_of_lt hxl] at hown
      have hkk : k ≤ 4611686018427387904 := by
        have h1 := HK.out
        rcases Nat.le_total la wh with h | h
        · rw [Nat.max_eq_right h] at h1; omega
        · rw [Nat.max_eq_left h] at h1; omega
      have HT := Lib.hid (Trim_own _ _ _ _ _ hown hxl hkk)
      have HB := Lib.hid hbel
      clear hown hbel hxl hlt
      go_wp2_with fail
      refine HT.out.mono ?_
      rintro e w5 ⟨r, rfl, hr, rfl⟩
      obtain ⟨ro, rc, rfl, -⟩ := hr.shape
      have HR := Lib.hid hr
      clear hr
      go_wp2
      go_ret
      exact ⟨_, rfl, HR.out, HB.out⟩
theorem pad_wh {wh k X d : Nat} (hX : X < 65536 ^ k) (hd : d < 65536) : pad 65536 (wh + k + 1) (65536 ^ wh * (X + 65536 ^ k * d)) = pad 65536 (wh + k) (65536 ^ wh * X) ++ [d] := by
  rw [Nat.mul_add, ← Nat.mul_assoc, ← Nat.pow_add]
  refine pad_succ (by decide) ?_ hd
  rw [Nat.pow_add]
  exact Nat.mul_lt_mul_of_pos_left hX (Nat.pow_pos (by decide))
/-- what the loop of Shl keeps -/
def RShlRel (a s wh : Nat) (w : World) (k X c : Nat) (v : Value) (wr : World) : Prop :=
  c < 2 ^ s ∧ X < 65536 ^ k ∧ X + 65536 ^ k * c = (a % 65536 ^ k) * 2 ^ s ∧ Own .i64 65536 3 wr w.heap.size v (wh + k) (65536 ^ wh * X) ∧ Below w.heap.size w wr
theorem own_zeros {w : World} (wh : Nat) (hwh : wh ≤ 1048576) : Own .i64 65536 3 (w.alloc (.cells (madeCells #[.int .i64 0] wh) 3)) w.heap.size (.slice (some ⟨w.heap.size, 0, none⟩) wh wh) wh 0 := by
  unfold Own
  refine ⟨by simp [pad], .inr ⟨w.heap.size, wh, _, rfl, Nat.le_refl _, heap_alloc_new w _, Nat.le_refl _, by unfold maxLen; omega, by rw [size_madeCells, Nat.mul_one], ?_⟩⟩
  rw [pad_zero, Nat.mul_one]
  simp only [madeCells, Array.toList_map, Array.toList_range, List.size_toArray]
  rw [List.take_of_length_le (by simp)]
  apply List.ext_getElem (by simp)
  intro i h1 h2
  simp [Nat.mod_one]
set_option maxHeartbeats 2000000 in
set_option maxRecDepth 100000 in
theorem RShl_any (v : Value) (a n : Nat) (w : World) (hv : R w v a) (ha : nd 65536 a ≤ 500000) (hn : n ≤ 8000000) :
    Calls Tryd.prog 65 #[v, .int .i64 n] w fun e w' => ∃ r, e = .returned r ∧ R w' r (a * 2 ^ n) ∧ Below w.heap.size w w' := by
  obtain ⟨i0, hi, hz0, hz1, hz2⟩ := info_parts Tryd.infoInt
  have hB : 2 ≤ 65536 := by decide
  obtain ⟨ao, ac, rfl, hcv⟩ := hv.shape
  have HC := Lib.hid hcv
  clear hv hcv
  have HAl := Lib.hid (nd_lt hB a)
  generalize hna : nd 65536 a = la at *
  clear hna
  obtain ⟨wh, hwh⟩ : ∃ wh, wh = n / 16 := ⟨_, rfl⟩
  obtain ⟨s, hs⟩ : ∃ s, s = n % 16 := ⟨_, rfl⟩
  have hs16 : s < 16 := by omega
  have q1 : (n : Int) / 16 = wh := by omega
  have q2 : (n : Int) % 16 = s := by omega
  have HNW : Hid (n = 16 * wh + s) := by show _ = _; omega
  have hwl : wh ≤ 500000 := by omega
  clear hwh hs
  have hpp : 0 < 2 ^ s := Nat.pow_pos (by decide)
  have hpl : 2 ^ s ≤ 65536 := Nat.le_trans (Nat.pow_le_pow_right (by decide) (show s ≤ 16 by omega)) (by decide)
  have HP := Lib.hid (fun w => power_any s w (by omega))
  obtain ⟨p, hpe⟩ : ∃ p, p = 2 ^ s := ⟨_, rfl⟩
  have HPE := Lib.hid hpe
  rw [← hpe] at HP hpp hpl
  clear hpe
  have hmk := made_int wh (by omega)
  go_enter Tryd.func65, Tryd.ntmps65
  go_wp2_with fail
  refine (HP.out _).mono ?_
  rintro e w' ⟨rfl, rfl⟩
  have HPD : Hid (∀ c d : Nat, c < p → d < 65536 → c + d * p < 8589934592) := by
    intro c d h1 h2
    have h3 : d * p ≤ 65535 * 65536 := Nat.mul_le_mul (by omega) hpl
    omega
  go_wp2
  go_loopg [5, 6, 8] la (fun m out c x wr => ∃ k X cc : Nat, Hid (k + m = la) ∧ x = .int .i64 k ∧ c = .int .i64 cc ∧ RShlRel a s wh w k X cc out wr)
  case atStart => exact ⟨0, 0, 0, by show _ = _; omega, rfl, rfl, by rw [← HPE.out]; exact hpp, by simp, by simp [Nat.mod_one], by simpa using own_zeros wh (by omega), (Below.refl _ _).alloc (Nat.le_refl _) _⟩
  case round =>
    obtain ⟨k, X, c, HK, rfl, rfl, hc1, hX, hsum, hown, hbel⟩ := hrel
    have hkl : k ≤ la := by have := HK.out; omega
    rw [← HPE.out] at hc1 hsum
    by_cases hlt : k < la
    · have hlt' : (k : Int) < la := by omega
      obtain ⟨gb, go, rfl, hca⟩ := HC.out k hlt
      have hca' : wr.cell? ⟨gb, go + k, none⟩ = some (.int .i64 (dg 65536 a k : Nat)) := by
        rw [hbel.cell (p := ⟨gb, go + k, none⟩) (World.block_lt_of_cell? _ _ hca)]; exact hca
      have hda := dg_lt (B := 65536) (by decide) a k
      have hq := HPD.out c _ hc1 hda
      obtain ⟨q, hqe⟩ : ∃ q, q = c + dg 65536 a k * p := ⟨_, rfl⟩
      have hX2 : X + 65536 ^ k * (q % 65536) < 65536 ^ (k + 1) := snoc_lt hX (Nat.mod_lt _ (by decide))
      have hsum2 : (X + 65536 ^ k * (q % 65536)) + 65536 ^ (k + 1) * (q / 65536) = a % 65536 ^ (k + 1) * p := by rw [hqe]; exact shl_round hsum
      have hc2 : q / 65536 < p := by rw [hqe]; exact shl_carry hc1 hda
      have HPS := Lib.hid (pad_wh (wh := wh) hX (show q % 65536 < 65536 from Nat.mod_lt _ (by decide)))
      have HE : Hid (wrap64 ((c : Int) + wrap64 ((dg 65536 a k : Nat) * (p : Int))) = (q : Int)) := by
        show _ = _
        have hq2 := hqe
        have hq3 := hq
        rw [show ((dg 65536 a k : Nat) : Int) * (p : Int) = ((dg 65536 a k * p : Nat) : Int) from by simp]
        generalize dg 65536 a k * p = y at hq2 hq3 ⊢
        rw [IntWalk.wrap64_in (y : Int) (by omega), IntWalk.wrap64_in _ (by omega)]
        omega
      rw [← hqe] at hq
      have HS2 := Lib.hid (And.intro hc2 (And.intro hX2 hsum2))
      have HB := Lib.hid hbel
      have hltw := hown.lt
      have HLT := Lib.hid hltw
      have hsz := hbel.size
      unfold Own at hown
      have HONE : Hid (∀ x : Int, ∀ u ∈ [Value.int .i64 x], u.oneCell' = true) := by intro x u hu; simp at hu; subst hu; rfl
      clear hca hbel hltw hX hsum hqe hc2 hX2 hsum2
      generalize dg 65536 a k = da at *
      go_wp2_with (at_builtin; go_must (refine wpList_append_own _ rfl _ _ 30 rfl w.heap.size 3 i0 (.int .i64 0) 1 8 Tryd.underlying30 hi hz0 hz1 hz2 rfl (by decide) _ _ _ rfl (hown.alloc _) ⟨wr.heap.size, 0, none⟩ 1 1 [_] rfl rfl (cell_one_new _ _ _) (HONE.out _) ?c3 ?c4 ?c5 ?_))
      case c3 => unfold maxLen; omega
      case c4 => omega
      case c5 => simp; omega
      intro v' w4 hown4 hgrow hnil
      have hq0 : (q : Int).tmod 65536 = ((q % 65536 : Nat) : Int) := by rw [Int.tmod_eq_emod_of_nonneg (by omega)]; omega
      have hq4 : (q : Int).tdiv 65536 = ((q / 65536 : Nat) : Int) := by rw [Int.tdiv_eq_ediv_of_nonneg (by omega)]; omega
      have HFIN : Hid (RShlRel a s wh w (k + 1) (X + 65536 ^ k * (q % 65536)) (q / 65536) v' w4) := by
        rw [HE.out, hq0] at hown4
        refine ⟨by rw [← HPE.out]; exact HS2.out.1, HS2.out.2.1, by rw [← HPE.out]; exact HS2.out.2.2, ?_, ?_⟩
        · unfold Own
          rw [← Nat.add_assoc, HPS.out, List.map_append]
          exact hown4
        · refine Below.grown (HB.out.alloc (by omega) _) hgrow (by simp; omega) ?_
          intro j hj
          exact (HLT.out _ hj).1
      have HQ4 := Lib.hid hq4
      clear hown4 hgrow hnil hown hq0 hq4
      go_wp2
      rw [HE.out, HQ4.out]
      go_roundg (la - (k + 1))
      case measure => have := HK.out; omega
      case rel => exact ⟨k + 1, _, q / 65536, by have := HK.out; show _ = _; omega, by go_num, by first | rfl | (rw [IntWalk.wrap64_in _ (by omega)]) | go_num, HFIN.out⟩
    · obtain rfl : k = la := by omega
      have hnl : ¬ ((k : Int) < k) := by omega
      rw [Nat.mod_eq_of_lt HAl.out] at hsum
      have hval : 65536 ^ wh * (X + 65536 ^ k * c) = a * 2 ^ n := by
        rw [hsum, HPE.out, pow_n HNW.out, Nat.mul_left_comm]
      have hxl : a * 2 ^ n < 65536 ^ (wh + k + 1) := by
        rw [← hval, Nat.add_assoc, Nat.pow_add 65536 wh]
        exact Nat.mul_lt_mul_of_pos_left (snoc_lt hX (by omega)) (Nat.pow_pos (by decide))
      have HPS := Lib.hid (pad_wh (wh := wh) (d := c) hX (by omega))
      rw [hval] at HPS
      have HT := Lib.hid (fun v' w4 (h : Own .i64 65536 3 w4 w.heap.size v' (wh + k + 1) (a * 2 ^ n)) => Trim_own _ _ _ _ _ h hxl (by omega))
      have HB := Lib.hid hbel
      have hltw := hown.lt
      have HLT := Lib.hid hltw
      have hsz := hbel.size
      have HONE : Hid (∀ x : Int, ∀ u ∈ [Value.int .i64 x], u.oneCell' = true) := by intro x u hu; simp at hu; subst hu; rfl
      unfold Own at hown
      clear hbel hltw hX hsum hval hxl hlt
      go_wp2_with (at_builtin; go_must (refine wpList_append_own _ rfl _ _ 30 rfl w.heap.size 3 i0 (.int .i64 0) 1 8 Tryd.underlying30 hi hz0 hz1 hz2 rfl (by decide) _ _ _ rfl (hown.alloc _) ⟨wr.heap.size, 0, none⟩ 1 1 [_] rfl rfl (cell_one_new _ _ _) (HONE.out _) ?d3 ?d4 ?d5 ?_))
      case d3 => unfold maxLen; omega
      case d4 => omega
      case d5 => first | omega | (simp; omega)
      intro v' w4 hown4 hgrow hnil
      have HT2 : Hid (Below w.heap.size w w4) := by
        refine Below.grown (HB.out.alloc (by omega) _) hgrow (by simp; omega) ?_
        intro j hj
        exact (HLT.out _ hj).1
      have HO4 : Hid (Own .i64 65536 3 w4 w.heap.size v' (wh + k + 1) (a * 2 ^ n)) := by
        show Own _ _ _ _ _ _ _ _
        unfold Own
        rw [HPS.out, List.map_append]
        exact hown4
      clear hown4 hgrow hnil hown
      go_wp2_with fail
      refine (HT.out _ _ HO4.out).mono ?_
      rintro e w5 ⟨r, rfl, hr, rfl⟩
      obtain ⟨ro, rc, rfl, -⟩ := hr.shape
      have HR := Lib.hid hr
      clear hr
      go_wp2
      go_ret
      exact ⟨_, rfl, HR.out, HT2.out⟩
end Go.Proofs.YtgidmlffjelpnaaDoor
