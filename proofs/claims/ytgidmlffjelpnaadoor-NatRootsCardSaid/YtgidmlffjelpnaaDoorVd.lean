/- The contract of Sqrt. -/
import Derived.Test.YtgidmlffjelpnaaDoorVa
namespace Go.Proofs.YtgidmlffjelpnaaDoor
open Go Go.RowKit Gu

theorem am_gm {r t m : Nat} (h : r + t ≤ 2 * m) : r * t ≤ m * m := by
  rcases Nat.le_total r m with h1 | h1
  · obtain ⟨d, rfl⟩ := Nat.exists_eq_add_of_le h1
    have e1 : r * t ≤ r * (r + 2 * d) := Nat.mul_le_mul_left _ (by omega)
    have e2 : r * (r + 2 * d) = r * r + 2 * (r * d) := by rw [Nat.mul_add, Nat.mul_left_comm]
    have e3 : (r + d) * (r + d) = r * r + r * d + (r * d + d * d) := by rw [Nat.add_mul, Nat.mul_add, Nat.mul_add, Nat.mul_comm d r]
    omega
  · obtain ⟨d, rfl⟩ := Nat.exists_eq_add_of_le h1
    obtain ⟨x, rfl⟩ : ∃ x, m = t + x := ⟨m - t, by omega⟩
    have e1 : (t + x + d) * t = t * t + t * x + t * d := by rw [Nat.add_mul, Nat.add_mul, Nat.mul_comm x t, Nat.mul_comm d t]
    have e2 : (t + x) * (t + x) = t * t + t * x + (t * x + x * x) := by rw [Nat.add_mul, Nat.mul_add, Nat.mul_add, Nat.mul_comm x t]
    have e3 : t * d ≤ t * x := Nat.mul_le_mul_left _ (by omega)
    omega
theorem newton {a r : Nat} (hr : 0 < r) (ha : 0 < a) : 0 < (r + a / r) / 2 ∧ a < ((r + a / r) / 2 + 1) * ((r + a / r) / 2 + 1) ∧ (r ≤ (r + a / r) / 2 → r * r ≤ a) := by
  have h1 : a < r * (a / r + 1) := Nat.lt_mul_div_succ a hr
  have h2 : r * (a / r) ≤ a := Nat.mul_div_le a r
  have h3 : r = 1 → a / r = a := fun h => by rw [h, Nat.div_one]
  generalize a / r = q at *
  refine ⟨?_, ?_, fun h => ?_⟩
  · rcases Nat.lt_or_ge 1 r with h | h
    · omega
    · have := h3 (by omega); omega
  · exact Nat.lt_of_lt_of_le h1 (am_gm (by omega))
  · exact Nat.le_trans (Nat.mul_le_mul_left _ (by omega)) h2
theorem sqrt_start {a : Nat} (_ha : 0 < a) : a < (1 * 2 ^ ((nd 2 a + 1) / 2) + 1) * (1 * 2 ^ ((nd 2 a + 1) / 2) + 1) := by
  have h := nd_lt (B := 2) (by decide) a
  rw [Nat.one_mul]
  have h1 : 2 ^ nd 2 a ≤ 2 ^ ((nd 2 a + 1) / 2) * 2 ^ ((nd 2 a + 1) / 2) := by rw [← Nat.pow_add]; exact Nat.pow_le_pow_right (by decide) (by omega)
  have h2 : 2 ^ ((nd 2 a + 1) / 2) * 2 ^ ((nd 2 a + 1) / 2) ≤ (2 ^ ((nd 2 a + 1) / 2) + 1) * (2 ^ ((nd 2 a + 1) / 2) + 1) := Nat.mul_le_mul (by omega) (by omega)
  omega
theorem sqrt_room {a : Nat} (ha : 0 < a) : 1 * 2 ^ ((nd 2 a + 1) / 2) < 4294967296 ^ (nd 4294967296 a + 1) := by
  have h1 := nd_pow_le (B := 2) (by decide) ha
  have h0 := nd_pos (B := 2) (by decide) ha
  have h2 := nd_lt (B := 4294967296) (by decide) a
  have h3 : 2 ^ ((nd 2 a + 1) / 2) ≤ 2 ^ (nd 2 a - 1 + 1) := Nat.pow_le_pow_right (by decide) (by omega)
  rw [Nat.pow_succ] at h3
  rw [Nat.pow_succ, Nat.one_mul]
  omega
/-- what a region keeps whose calls make memory: a number, and all that lay there when it began -/
structure St1 (W0 : World) (v : Value) (a : Nat) (W : World) : Prop where
  num : D W v a
  bel : Below W0.heap.size W0 W
theorem St1.next {W0 W W' : World} {v : Value} {a : Nat} (h : St1 W0 v a W) (hb : Below W.heap.size W W') : St1 W0 v a W' :=
  ⟨h.num.below hb, h.bel.trans (hb.mono h.bel.size)⟩
theorem St1.cell {W0 W : World} {v : Value} {a k : Nat} {x : Value} (h : St1 W0 v a W) (hk : k < W0.heap.size) (hc : W0.cell? ⟨k, 0, none⟩ = some x) : W.cell? ⟨k, 0, none⟩ = some x :=
  (h.bel.cell (p := ⟨k, 0, none⟩) hk).trans hc
theorem St1.frozen {W0 W : World} {v : Value} {a k : Nat} (h : St1 W0 v a W) (hk : k < W0.heap.size) (hc : W0.frozen? ⟨k, 0, none⟩ = false) : W.frozen? ⟨k, 0, none⟩ = false :=
  (h.bel.frozen (p := ⟨k, 0, none⟩) hk).trans hc
set_option maxHeartbeats 2000000 in
set_option maxRecDepth 100000 in
theorem Sqrt_any (v : Value) (a : Nat) (w : World) (hv : D w v a) (ha : nd 4294967296 a ≤ 200000) :
    Calls Tryd.prog 29 #[.agg #[v]] w fun e w' => ∃ r s, e = .returned (.agg #[r]) ∧ D w' r s ∧ s * s ≤ a ∧ a < (s + 1) * (s + 1) ∧ Below w.heap.size w w' := by
  have b2 : ∀ o1 o2, Below w.heap.size w ((w.alloc o1).alloc o2) := fun o1 o2 => ((Below.refl _ _).alloc (Nat.le_refl _) _).alloc (by simp) _
  have HB2 := Lib.hid b2
  have HV := Lib.hid (fun o1 o2 => hv.below (b2 o1 o2))
  have HZ := Lib.hid (fun o1 o2 => isZero_any v a ((w.alloc o1).alloc o2) (hv.below (b2 o1 o2)))
  by_cases h0 : a = 0
  · subst h0
    rw [show decide ((0 : Nat) = 0) = true from rfl] at HZ
    obtain ⟨ao, ac, rfl, -⟩ := hv.shape
    clear hv b2
    go_enter Tryd.func29, Tryd.ntmps29
    go_wp2_with fail
    refine (HZ.out _ _).mono ?_
    rintro e w1 ⟨rfl, rfl⟩
    go_wp2
    refine bodyPost_ret (v := .agg #[.slice none 0 0]) (by simp [results, Tryd.results29, go_sem]) rfl ⟨.slice none 0 0, 0, rfl, IsN.zero _ _ _ _ _, by decide, by decide, HB2.out _ _⟩
  · rw [show decide (a = 0) = false from by simp [h0]] at HZ
    have ha0 : 0 < a := Nat.pos_of_ne_zero h0
    obtain ⟨M, hM⟩ : ∃ M, M = 4294967296 ^ (nd 4294967296 a + 1) := ⟨_, rfl⟩
    have HDV := Lib.hid (divide_long (nd 4294967296 a + 1) (by omega))
    rw [← hM] at HDV
    have HST := Lib.hid (sqrt_start ha0)
    have hroom := sqrt_room ha0
    rw [← hM] at hroom
    have HRM := Lib.hid hroom
    have HR0 : Hid (0 < 1 * 2 ^ ((nd 2 a + 1) / 2)) := by
      show 0 < _
      rw [Nat.one_mul]; exact Nat.pow_pos (by decide)
    have haM : a < M := by rw [hM, Nat.pow_succ]; have := nd_lt (B := 4294967296) (by decide) a; omega
    have HNM : Hid (∀ x, x < M → nd 4294967296 x ≤ 200001) := fun x hx => by
      rw [hM] at hx
      have := (nd_le (B := 4294967296) (by decide)).2 hx
      omega
    have HAM := Lib.hid haM
    have HBL := Lib.hid (fun W (h : D W v a) => bitLen_any v a W h (by omega))
    have hb2 := nd_two_le ha
    have HSL := Lib.hid (fun dv W (h : D W dv 1) => shiftLeft_any dv 1 ((nd 2 a + 1) / 2) W h (by rw [nd_small (by decide : 1 < 4294967296) |> Nat.le_antisymm <| nd_pos (by decide) (by decide)]; decide) (by omega))
    obtain ⟨ao, ac, rfl, -⟩ := hv.shape
    clear hv b2 h0 hM hroom haM
    go_enter Tryd.func29, Tryd.ntmps29
    go_wp2_with fail
    refine (HZ.out _ _).mono ?_
    rintro e w1 ⟨rfl, rfl⟩
    obtain ⟨W0, hW0⟩ : ∃ W0 : World, W0 = (w.alloc (.cells #[.slice ao (nd 4294967296 a) ac] 26)).alloc (.cells #[.slice none 0 0] 26) := ⟨_, rfl⟩
    have hz0 : W0.heap.size = w.heap.size + 2 := by rw [hW0]; simp
    have c0 : W0.cell? ⟨w.heap.size, 0, none⟩ = some (.slice ao (nd 4294967296 a) ac) := by rw [hW0]; exact (World.cell?_alloc_past _ _ _ (by simp)).trans (World.cell?_alloc_at _ _ _ _ rfl)
    have c1 : W0.cell? ⟨w.heap.size + 1, 0, none⟩ = some (.slice none 0 0) := by rw [hW0]; exact World.cell?_alloc_at _ _ _ _ (by simp)
    have f1 : W0.frozen? ⟨w.heap.size + 1, 0, none⟩ = false := by rw [hW0]; exact World.frozen?_alloc_at _ _ _ _ (by simp)
    have hst0 : St1 W0 (.slice ao (nd 4294967296 a) ac) a W0 := by rw [hW0]; exact ⟨HV.out _ _, Below.refl _ _⟩
    have hbw : Below w.heap.size w W0 := by rw [hW0]; exact HB2.out _ _
    have HCA : Hid (∀ W, St1 W0 (.slice ao (nd 4294967296 a) ac) a W → W.cell? ⟨w.heap.size, 0, none⟩ = some (.slice ao (nd 4294967296 a) ac)) := fun W h => h.cell (by omega) c0
    have HC1 : Hid (∀ W, St1 W0 (.slice ao (nd 4294967296 a) ac) a W → W.cell? ⟨w.heap.size + 1, 0, none⟩ = some (.slice none 0 0)) := fun W h => h.cell (by omega) c1
    have HF1 : Hid (∀ W, St1 W0 (.slice ao (nd 4294967296 a) ac) a W → W.frozen? ⟨w.heap.size + 1, 0, none⟩ = false) := fun W h => h.frozen (by omega) f1
    have HBW := Lib.hid hbw
    have HSZ : Hid (W0.heap.size = w.heap.size + 2) := hz0
    have HD1 : Hid (∀ W, St1 W0 (.slice ao (nd 4294967296 a) ac) a W → Calls Tryd.prog 54 #[.int .u64 1] W fun e w' => ∃ o l c, e = .returned (.slice o l c) ∧ D w' (.slice o l c) 1 ∧ St1 W0 (.slice ao (nd 4294967296 a) ac) a w') := fun W h =>
      (digitsOf_any 1 W (by decide)).mono fun e w' ⟨r, he, hr, hB⟩ => by
        obtain ⟨ro, rc, rfl, -⟩ := hr.shape
        exact ⟨ro, _, rc, he, hr, h.next hB⟩
    have HB1 : Hid (∀ W, St1 W0 (.slice ao (nd 4294967296 a) ac) a W → Calls Tryd.prog 51 #[.slice ao (nd 4294967296 a) ac] W fun e w' => e = .returned (.int .i64 (nd 2 a)) ∧ St1 W0 (.slice ao (nd 4294967296 a) ac) a w') := fun W h =>
      (HBL.out W h.num).mono fun e w' ⟨he, hw⟩ => ⟨he, hw ▸ h⟩
    rw [← hW0]
    have hs2 := hst0.next ((Below.refl _ W0).drew)
    have hca := HCA.out _ hs2
    have hcz := HCA.out _ hst0
    clear hW0 hz0 c0 c1 f1 hbw
    generalize nd 2 a = bl at *
    have HSL2 : Hid (∀ dv W, St1 W0 (.slice ao (nd 4294967296 a) ac) a W → D W dv 1 → Calls Tryd.prog 72 #[dv, .int .i64 (IntKind.i64.wrap ((IntKind.i64.wrap ((bl : Int) + 1)).tdiv 2))] W fun e w' => ∃ o l c, e = .returned (.slice o l c) ∧ D w' (.slice o l c) (1 * 2 ^ ((bl + 1) / 2)) ∧ St1 W0 (.slice ao (nd 4294967296 a) ac) a w') := fun dv W h hd => by
      have h1 := HSL.out dv W hd
      rw [show (((bl + 1) / 2 : Nat) : Int) = IntKind.i64.wrap ((IntKind.i64.wrap ((bl : Int) + 1)).tdiv 2) from by rw [IntWalk.i64_in ((bl : Int) + 1) (by omega), Int.tdiv_eq_ediv_of_nonneg (by omega), IntWalk.i64_in _ (by omega)]; omega] at h1
      exact h1.mono fun e w' ⟨r, he, hr, hB⟩ => by
        obtain ⟨ro, rc, rfl, -⟩ := hr.shape
        exact ⟨ro, _, rc, he, hr, h.next hB⟩
    clear HSL
    generalize 1 * 2 ^ ((bl + 1) / 2) = r0 at *
    go_wp2_with fail
    go_region_held3 (fun W : World => W.cell? ⟨w.heap.size, 0, none⟩ = some (.slice ao (nd 4294967296 a) ac) ∧ St1 W0 (.slice ao (nd 4294967296 a) ac) a W) (first | (refine And.intro ?_ ?_ <;> assumption)) (first
      | (go_at_call 54; with_reducible refine (HD1.out _ ?h).mono ?_; (case h => assumption); rintro e w' ⟨o1, l1, k1, rfl, hr', hs'⟩; have hc' := HCA.out _ hs')
      | (go_at_call 51; with_reducible refine (HBL.out _ ?h).mono ?_; (case h => exact St1.num (by assumption)); rintro e w' ⟨rfl, rfl⟩)
      | (go_at_call 72; with_reducible refine (HSL2.out _ _ ?h ?r).mono ?_; (case h => assumption); (case r => first | assumption | exact dchain (by assumption) (by assumption)); rintro e w' ⟨o2, l2, k2, rfl, hr', hs'⟩; have hc' := HCA.out _ hs'))
    all_goals
      have hroot : D w' (.slice o2 l2 k2) r0 := by assumption
      have hst : St1 W0 (.slice ao (nd 4294967296 a) ac) a w' := by assumption
      have HRT := Lib.hid hroot; have HSS := Lib.hid hst
      clear hroot hst
      go_wp2
      go_loopg [3] r0 (fun n x wr => 0 < n ∧ n < M ∧ Hid (a < (n + 1) * (n + 1)) ∧ D wr x n ∧ St1 W0 (.slice ao (nd 4294967296 a) ac) a wr)
      case atStart => exact ⟨HR0.out, HRM.out, HST.out, HRT.out, HSS.out⟩
      case round =>
        obtain ⟨hn, hnM, HA, hx, hst⟩ := hrel
        obtain ⟨xo, xc, rfl, -⟩ := hx.shape
        have HX := Lib.hid hx
        have hca := HCA.out _ hst
        have HS := Lib.hid hst
        have HQ := Lib.hid (quotient_any HDV.out _ _ a gk wr hst.num hx hn HAM.out hnM)
        have HNW := Lib.hid (newton hn ha0)
        have hng := HNM.out _ hnM
        have hnq : nd 4294967296 (a / gk) ≤ 200000 := Nat.le_trans (nd_mono (by decide) (Nat.div_le_self _ _)) ha
        have HNN := Lib.hid (HNM.out)
        clear hx hst
        generalize a / gk = q at *
        have hsum := nd_add hng (Nat.le_trans hnq (by decide))
        go_wp2_with fail
        refine HQ.out.mono ?_
        rintro e w2 ⟨qv, rfl, hq, hb⟩
        have HS2 := Lib.hid (HS.out.next hb)
        have HX2 := Lib.hid (HX.out.below hb)
        have HSUM := Lib.hid (sum_any _ qv gk q w2 HX2.out hq (by omega) (by omega))
        clear hq hb hca
        go_wp2_with fail
        refine HSUM.out.mono ?_
        rintro e w3 ⟨sv, rfl, hs3, hb⟩
        have HS3 := Lib.hid (HS2.out.next hb)
        have HX3 := Lib.hid (HX2.out.below hb)
        have HSH := Lib.hid (shiftRight_any sv (gk + q) 1 w3 hs3 (by omega) (by decide))
        rw [Nat.pow_one] at HSH
        clear hs3 hb
        go_wp2_with fail
        refine HSH.out.mono ?_
        rintro e w4 ⟨nv, rfl, hn4, hb⟩
        have HS4 := Lib.hid (HS3.out.next hb)
        have HX4 := Lib.hid (HX3.out.below hb)
        have HN4 := Lib.hid hn4
        have hnh : nd 4294967296 ((gk + q) / 2) ≤ 1048576 := Nat.le_trans (nd_mono (by decide) (Nat.div_le_self _ _)) (by omega)
        have HCM := Lib.hid (compare_any nv _ ((gk + q) / 2) gk w4 hn4 HX4.out hnh (by omega))
        clear hn4 hb hnh hsum
        generalize (gk + q) / 2 = nx at *
        by_cases hle : gk ≤ nx
        · have hcm : (0 : Int) ≤ cmpN ((nx : Nat) : Int) ((gk : Nat) : Int) := by
            rcases Nat.lt_or_eq_of_le hle with h | h
            · rw [cmpN_gt (by omega)]; decide
            · rw [cmpN_eq (by omega)]; decide
          have HSQ : Hid (gk * gk ≤ a) := HNW.out.2.2 hle
          clear hle
          generalize cmpN ((nx : Nat) : Int) ((gk : Nat) : Int) = cc at *
          go_wp2_with fail
          refine HCM.out.mono ?_
          rintro e w5 ⟨rfl, k, rfl⟩
          have hs5 := HS4.out.next (below_drewN (Below.refl _ w4) k)
          have hcell := HC1.out _ hs5
          have hfr := HF1.out _ hs5
          have HX5 := Lib.hid (HX4.out.below (below_drewN (Below.refl _ w4) k))
          have HCE := Lib.hid hcell
          have HBE := Lib.hid (HBW.out.trans (hs5.bel.mono HBW.out.size))
          clear hs5
          go_wp2
          refine bodyPost_ret (v := .agg #[.slice xo (nd 4294967296 gk) xc]) (by simp [results, Tryd.results29, go_sem, hcell]) rfl ⟨_, gk, rfl, HX5.out.setCell HCE.out (by intro d h; cases h) _, HSQ.out, HA.out, HBE.out.setCell (by show w.heap.size ≤ w.heap.size + 1; omega) _⟩
        · have hcm : cmpN ((nx : Nat) : Int) ((gk : Nat) : Int) < (0 : Int) := by rw [cmpN_lt (by omega)]; decide
          have HLT : Hid (nx < gk) := by show _ < _; omega
          clear hle
          generalize cmpN ((nx : Nat) : Int) ((gk : Nat) : Int) = cc at *
          go_wp2_with fail
          refine HCM.out.mono ?_
          rintro e w5 ⟨rfl, k, rfl⟩
          have HS5 := Lib.hid (HS4.out.next (below_drewN (Below.refl _ w4) k))
          have HN5 := Lib.hid (HN4.out.below (below_drewN (Below.refl _ w4) k))
          go_wp2
          go_roundg nx
          case measure => exact HLT.out
          case rel => exact ⟨HNW.out.1, by have := HLT.out; omega, HNW.out.2.1, HN5.out, HS5.out⟩
end Go.Proofs.YtgidmlffjelpnaaDoor
