/- Contracts and lemmas (several texts merged into one). -/
import Derived.Test.YtgidmlffjelpnaaDoorBVop4
import Derived.Test.YtgidmlffjelpnaaDoorBVop3
import Derived.Deep.RegionHeld3
import Derived.Deep.RegionLaw
import Derived.Deep.DeepMust
import Derived.Deep.DeepFit
namespace Go.Proofs.YtgidmlffjelpnaaDoor
open Go Go.RowKit Gu

theorem am_gm {r t m : Nat} (h : r + t ≤ 2 * m) : r * t ≤ m * m := by
  rcases Nat.le_total r m with h1 | h1
  · obtain ⟨d, rfl⟩ := Nat.exists_eq_add_of_le h1
    have e1 : r * t ≤ r * (r + 2 * d) := Nat.mul_le_mul_left _ (by omega)
    have e2 : r * (r + 2 * d) = r * r + 2 * (r * d) := by rw [Nat.mul_add, Nat.mul_left_comm]
    have e3 : (r + d) * (r + d) = r * r + r * d + (r * d + d * d) := by rw [Nat.add_mul, Nat.mul_add, Nat.mul_add, Nat.mul_comm d r]
    omega
  · obtain ⟨d, rfl⟩ := Nat.exists_eq_add_of_le h1
    obtain ⟨x, rfl⟩ : ∃ x, m = t + x := ⟨m - t, by omega⟩
    have e1 : (t + x + d) * t = t * t + t * x + t * d := by rw [Nat.add_mul, Nat.add_mul, Nat.mul_comm x t, Nat.mul_comm d t]
    have e2 : (t + x) * (t + x) = t * t + t * x + (t * x + x * x) := by rw [Nat.add_mul, Nat.mul_add, Nat.mul_add, Nat.mul_comm x t]
    have e3 : t * d ≤ t * x := Nat.mul_le_mul_left _ (by omega)
    omega
theorem newton {a r : Nat} (hr : 0 < r) (ha : 0 < a) : 0 < (r + a / r) / 2 ∧ a < ((r + a / r) / 2 + 1) * ((r + a / r) / 2 + 1) ∧ (r ≤ (r + a / r) / 2 → r * r ≤ a) := by
  have h1 : a < r * (a / r + 1) := Nat.lt_mul_div_succ a hr
  have h2 : r * (a / r) ≤ a := Nat.mul_div_le a r
  have h3 : r = 1 → a / r = a := fun h => by rw [h, Nat.div_one]
  generalize a / r = q at *
  refine ⟨?_, ?_, fun h => ?_⟩
  · rcases Nat.lt_or_ge 1 r with h | h
    · omega
    · have := h3 (by omega); omega
  · exact Nat.lt_of_lt_of_le h1 (am_gm (by omega))
  · exact Nat.le_trans (Nat.mul_le_mul_left _ (by omega)) h2
theorem sqrt_start {a : Nat} (_ha : 0 < a) : a < (1 * 2 ^ ((nd 2 a + 1) / 2) + 1) * (1 * 2 ^ ((nd 2 a + 1) / 2) + 1) := by
  have h := nd_lt (B := 2) (by decide) a
  rw [Nat.one_mul]
  have h1 : 2 ^ nd 2 a ≤ 2 ^ ((nd 2 a + 1) / 2) * 2 ^ ((nd 2 a + 1) / 2) := by rw [← Nat.pow_add]; exact Nat.pow_le_pow_right (by decide) (by omega)
  have h2 : 2 ^ ((nd 2 a + 1) / 2) * 2 ^ ((nd 2 a + 1) / 2) ≤ (2 ^ ((nd 2 a + 1) / 2) + 1) * (2 ^ ((nd 2 a + 1) / 2) + 1) := Nat.mul_le_mul (by omega) (by omega)
  omega
theorem sqrt_room {a : Nat} (ha : 0 < a) : 1 * 2 ^ ((nd 2 a + 1) / 2) < 4294967296 ^ (nd 4294967296 a + 1) := by
  have h1 := nd_pow_le (B := 2) (by decide) ha
  have h0 := nd_pos (B := 2) (by decide) ha
  have h2 := nd_lt (B := 4294967296) (by decide) a
  have h3 : 2 ^ ((nd 2 a + 1) / 2) ≤ 2 ^ (nd 2 a - 1 + 1) := Nat.pow_le_pow_right (by decide) (by omega)
  rw [Nat.pow_succ] at h3
  rw [Nat.pow_succ, Nat.one_mul]
  omega
/-- what a region keeps whose calls make memory: a number, and all that lay there when it began -/
structure St1 (W0 : World) (v : Value) (a : Nat) (W : World) : Prop where
  num : D W v a
  bel : Below W0.heap.size W0 W
theorem St1.next {W0 W W' : World} {v : Value} {a : Nat} (h : St1 W0 v a W) (hb : Below W.heap.size W W') : St1 W0 v a W' :=
  ⟨h.num.below hb, h.bel.trans (hb.mono h.bel.size)⟩
theorem St1.cell {W0 W : World} {v : Value} {a k : Nat} {x : Value} (h : St1 W0 v a W) (hk : k < W0.heap.size) (hc : W0.cell? ⟨k, 0, none⟩ = some x) : W.cell? ⟨k, 0, none⟩ = some x :=
  (h.bel.cell (p := ⟨k, 0, none⟩) hk).trans hc
theorem St1.frozen {W0 W : World} {v : Value} {a k : Nat} (h : St1 W0 v a W) (hk : k < W0.heap.size) (hc : W0.frozen? ⟨k, 0, none⟩ = false) : W.frozen? ⟨k, 0, none⟩ = false :=
  (h.bel.frozen (p := ⟨k, 0, none⟩) hk).trans hc
set_option maxHeartbeats 2000000 in
set_option maxRecDepth 100000 in
theorem Sqrt_any (v : Value) (a : Nat) (w : World) (hv : D w v a) (ha : nd 4294967296 a ≤ 200000) :
    Calls Tryd.prog 29 #[.agg #[v]] w fun e w' => ∃ r s, e = .returned (.agg #[r]) ∧ D w' r s ∧ s * s ≤ a ∧ a < (s + 1) * (s + 1) ∧ Below w.heap.size w w' := by
  have b2 : ∀ o1 o2, Below w.heap.size w ((w.alloc o1).alloc o2) := fun o1 o2 => ((Below.refl _ _).alloc (Nat.le_refl _) _).alloc (by simp) _
  have HB2 := Lib.hid b2
  have HV := Lib.hid (fun o1 o2 => hv.below (b2 o1 o2))
  have HZ := Lib.hid (fun o1 o2 => isZero_any v a ((w.alloc o1).alloc o2) (hv.below (b2 o1 o2)))
  by_cases h0 : a = 0
  · subst h0
    rw [show decide ((0 : Nat) = 0) = true from rfl] at HZ
    obtain ⟨ao, ac, rfl, -⟩ := hv.shape
    clear hv b2
    go_enter Tryd.func29, Tryd.ntmps29
    go_wp2_with fail
    refine (HZ.out _ _).mono ?_
    rintro e w1 ⟨rfl, rfl⟩
    go_wp2
    refine bodyPost_ret (v := .agg #[.slice none 0 0]) (by simp [results, Tryd.results29, go_sem]) rfl ⟨.slice none 0 0, 0, rfl, IsN.zero _ _ _ _ _, by decide, by decide, HB2.out _ _⟩
  · rw [show decide (a = 0) = false from by simp [h0]] at HZ
    have ha0 : 0 < a := Nat.pos_of_ne_zero h0
    obtain ⟨M, hM⟩ : ∃ M, M = 4294967296 ^ (nd 4294967296 a + 1) := ⟨_, rfl⟩
    have HDV := Lib.hid (divide_long (nd 4294967296 a + 1) (by omega))
    rw [← hM] at HDV
    have HST := Lib.hid (sqrt_start ha0)
    have hroom := sqrt_room ha0
    rw [← hM] at hroom
    have HRM := Lib.hid hroom
    have HR0 : Hid (0 < 1 * 2 ^ ((nd 2 a + 1) / 2)) := by
      show 0 < _
      rw [Nat.one_mul]; exact Nat.pow_pos (by decide)
    have haM : a < M := by rw [hM, Nat.pow_succ]; have := nd_lt (B := 4294967296) (by decide) a; omega
    have HNM : Hid (∀ x, x < M → nd 4294967296 x ≤ 200001) := fun x hx => by
      rw [hM] at hx
      have := (nd_le (B := 4294967296) (by decide)).2 hx
      omega
    have HAM := Lib.hid haM
    have HBL := Lib.hid (fun W (h : D W v a) => bitLen_any v a W h (by omega))
    have hb2 := nd_two_le ha
    have HSL := Lib.hid (fun dv W (h : D W dv 1) => shiftLeft_any dv 1 ((nd 2 a + 1) / 2) W h (by rw [nd_small (by decide : 1 < 4294967296) |> Nat.le_antisymm <| nd_pos (by decide) (by decide)]; decide) (by omega))
    obtain ⟨ao, ac, rfl, -⟩ := hv.shape
    clear hv b2 h0 hM hroom haM
    go_enter Tryd.func29, Tryd.ntmps29
    go_wp2_with fail
    refine (HZ.out _ _).mono ?_
    rintro e w1 ⟨rfl, rfl⟩
    obtain ⟨W0, hW0⟩ : ∃ W0 : World, W0 = (w.alloc (.cells #[.slice ao (nd 4294967296 a) ac] 26)).alloc (.cells #[.slice none 0 0] 26) := ⟨_, rfl⟩
    have hz0 : W0.heap.size = w.heap.size + 2 := by rw [hW0]; simp
    have c0 : W0.cell? ⟨w.heap.size, 0, none⟩ = some (.slice ao (nd 4294967296 a) ac) := by rw [hW0]; exact (World.cell?_alloc_past _ _ _ (by simp)).trans (World.cell?_alloc_at _ _ _ _ rfl)
    have c1 : W0.cell? ⟨w.heap.size + 1, 0, none⟩ = some (.slice none 0 0) := by rw [hW0]; exact World.cell?_alloc_at _ _ _ _ (by simp)
    have f1 : W0.frozen? ⟨w.heap.size + 1, 0, none⟩ = false := by rw [hW0]; exact World.frozen?_alloc_at _ _ _ _ (by simp)
    have hst0 : St1 W0 (.slice ao (nd 4294967296 a) ac) a W0 := by rw [hW0]; exact ⟨HV.out _ _, Below.refl _ _⟩
    have hbw : Below w.heap.size w W0 := by rw [hW0]; exact HB2.out _ _
    have HCA : Hid (∀ W, St1 W0 (.slice ao (nd 4294967296 a) ac) a W → W.cell? ⟨w.heap.size, 0, none⟩ = some (.slice ao (nd 4294967296 a) ac)) := fun W h => h.cell (by omega) c0
    have HC1 : Hid (∀ W, St1 W0 (.slice ao (nd 4294967296 a) ac) a W → W.cell? ⟨w.heap.size + 1, 0, none⟩ = some (.slice none 0 0)) := fun W h => h.cell (by omega) c1
    have HF1 : Hid (∀ W, St1 W0 (.slice ao (nd 4294967296 a) ac) a W → W.frozen? ⟨w.heap.size + 1, 0, none⟩ = false) := fun W h => h.frozen (by omega) f1
    have HBW := Lib.hid hbw
    have HSZ : Hid (W0.heap.size = w.heap.size + 2) := hz0
    have HD1 : Hid (∀ W, St1 W0 (.slice ao (nd 4294967296 a) ac) a W → Calls Tryd.prog 54 #[.int .u64 1] W fun e w' => ∃ o l c, e = .returned (.slice o l c) ∧ D w' (.slice o l c) 1 ∧ St1 W0 (.slice ao (nd 4294967296 a) ac) a w') := fun W h =>
      (digitsOf_any 1 W (by decide)).mono fun e w' ⟨r, he, hr, hB⟩ => by
        obtain ⟨ro, rc, rfl, -⟩ := hr.shape
        exact ⟨ro, _, rc, he, hr, h.next hB⟩
    have HB1 : Hid (∀ W, St1 W0 (.slice ao (nd 4294967296 a) ac) a W → Calls Tryd.prog 51 #[.slice ao (nd 4294967296 a) ac] W fun e w' => e = .returned (.int .i64 (nd 2 a)) ∧ St1 W0 (.slice ao (nd 4294967296 a) ac) a w') := fun W h =>
      (HBL.out W h.num).mono fun e w' ⟨he, hw⟩ => ⟨he, hw ▸ h⟩
    rw [← hW0]
    have hs2 := hst0.next ((Below.refl _ W0).drew)
    have hca := HCA.out _ hs2
    have hcz := HCA.out _ hst0
    clear hW0 hz0 c0 c1 f1 hbw
    generalize nd 2 a = bl at *
    have HSL2 : Hid (∀ dv W, St1 W0 (.slice ao (nd 4294967296 a) ac) a W → D W dv 1 → Calls Tryd.prog 72 #[dv, .int .i64 (IntKind.i64.wrap ((IntKind.i64.wrap ((bl : Int) + 1)).tdiv 2))] W fun e w' => ∃ o l c, e = .returned (.slice o l c) ∧ D w' (.slice o l c) (1 * 2 ^ ((bl + 1) / 2)) ∧ St1 W0 (.slice ao (nd 4294967296 a) ac) a w') := fun dv W h hd => by
      have h1 := HSL.out dv W hd
      rw [show (((bl + 1) / 2 : Nat) : Int) = IntKind.i64.wrap ((IntKind.i64.wrap ((bl : Int) + 1)).tdiv 2) from by rw [IntWalk.i64_in ((bl : Int) + 1) (by omega), Int.tdiv_eq_ediv_of_nonneg (by omega), IntWalk.i64_in _ (by omega)]; omega] at h1
      exact h1.mono fun e w' ⟨r, he, hr, hB⟩ => by
        obtain ⟨ro, rc, rfl, -⟩ := hr.shape
        exact ⟨ro, _, rc, he, hr, h.next hB⟩
    clear HSL
    generalize 1 * 2 ^ ((bl + 1) / 2) = r0 at *
    go_wp2_with fail
    go_region_held3 (fun W : World => W.cell? ⟨w.heap.size, 0, none⟩ = some (.slice ao (nd 4294967296 a) ac) ∧ St1 W0 (.slice ao (nd 4294967296 a) ac) a W) (first | (refine And.intro ?_ ?_ <;> assumption)) (first
      | (go_at_call 54; with_reducible refine (HD1.out _ ?h).mono ?_; (case h => assumption); rintro e w' ⟨o1, l1, k1, rfl, hr', hs'⟩; have hc' := HCA.out _ hs')
      | (go_at_call 51; with_reducible refine (HBL.out _ ?h).mono ?_; (case h => exact St1.num (by assumption)); rintro e w' ⟨rfl, rfl⟩)
      | (go_at_call 72; with_reducible refine (HSL2.out _ _ ?h ?r).mono ?_; (case h => assumption); (case r => first | assumption | exact dchain (by assumption) (by assumption)); rintro e w' ⟨o2, l2, k2, rfl, hr', hs'⟩; have hc' := HCA.out _ hs'))
    all_goals
      have hroot : D w' (.slice o2 l2 k2) r0 := by assumption
      have hst : St1 W0 (.slice ao (nd 4294967296 a) ac) a w' := by assumption
      have HRT := Lib.hid hroot; have HSS := Lib.hid hst
      clear hroot hst
      go_wp2
      go_loopg [3] r0 (fun n x wr => 0 < n ∧ n < M ∧ Hid (a < (n + 1) * (n + 1)) ∧ D wr x n ∧ St1 W0 (.slice ao (nd 4294967296 a) ac) a wr)
      case atStart => exact ⟨HR0.out, HRM.out, HST.out, HRT.out, HSS.out⟩
      case round =>
        obtain ⟨hn, hnM, HA, hx, hst⟩ := hrel
        obtain ⟨xo, xc, rfl, -⟩ := hx.shape
        have HX := Lib.hid hx
        have hca := HCA.out _ hst
        have HS := Lib.hid hst
        have HQ := Lib.hid (quotient_any HDV.out _ _ a gk wr hst.num hx hn HAM.out hnM)
        have HNW := Lib.hid (newton hn ha0)
        have hng := HNM.out _ hnM
        have hnq : nd 4294967296 (a / gk) ≤ 200000 := Nat.le_trans (nd_mono (by decide) (Nat.div_le_self _ _)) ha
        have HNN := Lib.hid (HNM.out)
        clear hx hst
        generalize a / gk = q at *
        have hsum := nd_add hng (Nat.le_trans hnq (by decide))
        go_wp2_with fail
        refine HQ.out.mono ?_
        rintro e w2 ⟨qv, rfl, hq, hb⟩
        have HS2 := Lib.hid (HS.out.next hb)
        have HX2 := Lib.hid (HX.out.below hb)
        have HSUM := Lib.hid (sum_any _ qv gk q w2 HX2.out hq (by omega) (by omega))
        clear hq hb hca
        go_wp2_with fail
        refine HSUM.out.mono ?_
        rintro e w3 ⟨sv, rfl, hs3, hb⟩
        have HS3 := Lib.hid (HS2.out.next hb)
        have HX3 := Lib.hid (HX2.out.below hb)
        have HSH := Lib.hid (shiftRight_any sv (gk + q) 1 w3 hs3 (by omega) (by decide))
        rw [Nat.pow_one] at HSH
        clear hs3 hb
        go_wp2_with fail
        refine HSH.out.mono ?_
        rintro e w4 ⟨nv, rfl, hn4, hb⟩
        have HS4 := Lib.hid (HS3.out.next hb)
        have HX4 := Lib.hid (HX3.out.below hb)
        have HN4 := Lib.hid hn4
        have hnh : nd 4294967296 ((gk + q) / 2) ≤ 1048576 := Nat.le_trans (nd_mono (by decide) (Nat.div_le_self _ _)) (by omega)
        have HCM := Lib.hid (compare_any nv _ ((gk + q) / 2) gk w4 hn4 HX4.out hnh (by omega))
        clear hn4 hb hnh hsum
        generalize (gk + q) / 2 = nx at *
        by_cases hle : gk ≤ nx
        · have hcm : (0 : Int) ≤ cmpN ((nx : Nat) : Int) ((gk : Nat) : Int) := by
            rcases Nat.lt_or_eq_of_le hle with h | h
            · rw [cmpN_gt (by omega)]; decide
            · rw [cmpN_eq (by omega)]; decide
          have HSQ : Hid (gk * gk ≤ a) := HNW.out.2.2 hle
          clear hle
          generalize cmpN ((nx : Nat) : Int) ((gk : Nat) : Int) = cc at *
          go_wp2_with fail
          refine HCM.out.mono ?_
          rintro e w5 ⟨rfl, k, rfl⟩
          have hs5 := HS4.out.next (below_drewN (Below.refl _ w4) k)
          have hcell := HC1.out _ hs5
          have hfr := HF1.out _ hs5
          have HX5 := Lib.hid (HX4.out.below (below_drewN (Below.refl _ w4) k))
          have HCE := Lib.hid hcell
          have HBE := Lib.hid (HBW.out.trans (hs5.bel.mono HBW.out.size))
          clear hs5
          go_wp2
          refine bodyPost_ret (v := .agg #[.slice xo (nd 4294967296 gk) xc]) (by simp [results, Tryd.results29, go_sem, hcell]) rfl ⟨_, gk, rfl, HX5.out.setCell HCE.out (by intro d h; cases h) _, HSQ.out, HA.out, HBE.out.setCell (by show w.heap.size ≤ w.heap.size + 1; omega) _⟩
        · have hcm : cmpN ((nx : Nat) : Int) ((gk : Nat) : Int) < (0 : Int) := by rw [cmpN_lt (by omega)]; decide
          have HLT : Hid (nx < gk) := by show _ < _; omega
          clear hle
          generalize cmpN ((nx : Nat) : Int) ((gk : Nat) : Int) = cc at *
          go_wp2_with fail
          refine HCM.out.mono ?_
          rintro e w5 ⟨rfl, k, rfl⟩
          have HS5 := Lib.hid (HS4.out.next (below_drewN (Below.refl _ w4) k))
          have HN5 := Lib.hid (HN4.out.below (below_drewN (Below.refl _ w4) k))
          go_wp2
          go_roundg nx
          case measure => exact HLT.out
          case rel => exact ⟨HNW.out.1, by have := HLT.out; omega, HNW.out.2.1, HN5.out, HS5.out⟩
end Go.Proofs.YtgidmlffjelpnaaDoor
namespace Go.Proofs.YtgidmlffjelpnaaDoor
open Go Go.RowKit Gu

/-- what euclid keeps: l and r, and the factors with which a yields them modulo m; their signs -/
structure Euc (a m l r p q : Nat) (b : Bool) : Prop where
  sum : l * q + r * p = m
  gcd : Nat.gcd l r = Nat.gcd a m
  le : p ≤ q
  lt : r < l
  cong : ∃ x y : Int, (if b then (l : Int) + p * a else (l : Int) - p * a) = m * x ∧ (if b then (r : Int) - q * a else (r : Int) + q * a) = m * y
theorem Euc.start {a m : Nat} (hm : 0 < m) : Euc a m m (a % m) 0 1 true := by
  refine ⟨by omega, ?_, by decide, Nat.mod_lt _ hm, 1, -((a / m : Nat) : Int), ?_, ?_⟩
  · rw [Nat.gcd_comm a m, Nat.gcd_rec m a, Nat.gcd_comm]
  · simp
  · have h : (a : Int) = m * ((a / m : Nat) : Int) + ((a % m : Nat) : Int) := by exact_mod_cast (Nat.div_add_mod a m).symm
    rw [if_pos rfl, Int.mul_neg]
    generalize (m : Int) * ((a / m : Nat) : Int) = z at *
    generalize ((a % m : Nat) : Int) = y at *
    simp
    omega
theorem Euc.next {a m l r p q : Nat} {b : Bool} (h : Euc a m l r p q b) (h0 : 0 < r) : Euc a m r (l % r) q (p + l / r * q) (!b) := by
  have hd := Nat.div_add_mod l r
  have hw : 1 ≤ l / r := (Nat.le_div_iff_mul_le h0).2 (by have := h.lt; omega)
  refine ⟨?_, ?_, ?_, Nat.mod_lt _ h0, ?_⟩
  · have e1 : r * (p + l / r * q) = r * p + r * (l / r) * q := by rw [Nat.mul_add, Nat.mul_assoc]
    have e2 : l * q = r * (l / r) * q + l % r * q := by rw [← Nat.add_mul, hd]
    have := h.sum
    omega
  · rw [← h.gcd, Nat.gcd_comm l r, Nat.gcd_rec r l, Nat.gcd_comm]
  · have : 1 * q ≤ l / r * q := Nat.mul_le_mul_right _ hw
    omega
  · obtain ⟨x, y, h1, h2⟩ := h.cong
    have hl : (l : Int) = (r : Int) * ((l / r : Nat) : Int) + ((l % r : Nat) : Int) := by exact_mod_cast hd.symm
    have e0 : (((p + l / r * q : Nat)) : Int) * a = (p : Int) * a + ((l / r : Nat) : Int) * ((q : Int) * a) := by
      rw [Int.natCast_add, Int.natCast_mul, Int.add_mul, Int.mul_assoc]
    generalize ((l / r : Nat) : Int) = wh at *
    generalize ((l % r : Nat) : Int) = rest at *
    cases b with
    | true =>
      rw [if_pos rfl] at h1 h2
      refine ⟨y, x - wh * y, ?_, ?_⟩
      · exact h2
      · show rest + ((p + l / r * q : Nat) : Int) * a = _
        have e1 : wh * ((r : Int) - q * a) = wh * (m * y) := by rw [h2]
        have e2 : (m : Int) * (x - wh * y) = m * x - wh * (m * y) := by rw [Int.mul_sub, Int.mul_left_comm]
        rw [e0, e2, ← e1, ← h1, Int.mul_sub, hl, Int.mul_comm wh (r : Int)]
        omega
    | false =>
      rw [if_neg (by decide)] at h1 h2
      refine ⟨y, x - wh * y, ?_, ?_⟩
      · exact h2
      · show rest - ((p + l / r * q : Nat) : Int) * a = _
        have e1 : wh * ((r : Int) + q * a) = wh * (m * y) := by rw [h2]
        have e2 : (m : Int) * (x - wh * y) = m * x - wh * (m * y) := by rw [Int.mul_sub, Int.mul_left_comm]
        rw [e0, e2, ← e1, ← h1, Int.mul_add, hl, Int.mul_comm wh (r : Int)]
        omega
theorem Euc.bounds {a m l r p q : Nat} {b : Bool} (h : Euc a m l r p q b) : q ≤ m ∧ p ≤ m ∧ l ≤ m := by
  have h1 := h.sum
  have h2 := h.le
  have h3 := h.lt
  have h4 : 1 * q ≤ l * q := Nat.mul_le_mul_right _ (by omega)
  refine ⟨by omega, by omega, ?_⟩
  rcases Nat.eq_zero_or_pos q with h5 | h5
  · subst h5
    have : p = 0 := by omega
    subst this
    simp at h1
    obtain ⟨x, y, e1, e2⟩ := h.cong
    subst h1
    cases b <;> simp at e1 <;> omega
  · have h6 : l * 1 ≤ l * q := Nat.mul_le_mul_left _ h5
    omega
/-- what follows where the greatest common divisor is 1 -/
theorem Euc.inv {a m p q : Nat} {b : Bool} (h : Euc a m 1 0 p q b) (hm : 2 ≤ m) : p ≤ m ∧ (if b then m - p else p) < m ∧ a * (if b then m - p else p) % m = 1 % m := by
  have hp := h.bounds.2.1
  obtain ⟨x, y, h1, -⟩ := h.cong
  have nod : ∀ z : Int, ¬ ((m : Int) * z = 1) := fun z e => by
    have hz : 0 < z := by
      rcases Int.lt_or_le 0 z with h | h
      · exact h
      · have : (m : Int) * z ≤ 0 := Int.mul_nonpos_of_nonneg_of_nonpos (by omega) h
        omega
    have : (m : Int) * 1 ≤ (m : Int) * z := Int.mul_le_mul_of_nonneg_left (by omega) (by omega)
    omega
  have step : ∀ (c : Nat) (z : Int), (a : Int) * c = m * z + 1 → a * c % m = 1 % m := fun c z e => by
    have e1 : ((a * c : Nat) : Int) = m * z + 1 := by rw [Int.natCast_mul]; exact e
    have e2 : ((a * c : Nat) : Int) % m = 1 % m := by rw [e1, Int.add_comm, Int.add_mul_emod_self_left]
    exact_mod_cast e2
  cases b with
  | true =>
    rw [if_pos rfl] at h1 ⊢
    have hp0 : p ≠ 0 := fun e => by subst e; exact nod x (by rw [← h1]; simp)
    refine ⟨hp, by omega, step (m - p) (a - x) ?_⟩
    have e3 : (((m - p : Nat)) : Int) = (m : Int) - p := by omega
    rw [e3, Int.mul_sub, Int.mul_sub, ← h1, Int.mul_comm (a : Int) m, Int.mul_comm (a : Int) p]
    omega
  | false =>
    rw [if_neg (by decide)] at h1 ⊢
    have hpm : p ≠ m := fun e => by
      subst e
      exact nod (x + a) (by rw [Int.mul_add, ← h1]; omega)
    refine ⟨hp, by show p < m; omega, step p (-x) ?_⟩
    rw [Int.mul_neg, ← h1, Int.mul_comm (a : Int) p]
    omega
set_option maxHeartbeats 4000000 in
set_option maxRecDepth 100000 in
theorem euclid_any (v u : Value) (a m : Nat) (w : World) (hv : D w v a) (hu : D w u m) (hm0 : 0 < m) (ha : nd 4294967296 a ≤ 1000) (hm : nd 4294967296 m ≤ 1000) :
    Calls Tryd.prog 61 #[v, u] w fun e w' => ∃ r1 r2 b l p q, e = .returned (.tuple #[r1, r2, .bool b]) ∧ D w' r1 l ∧ D w' r2 p ∧ Euc a m l 0 p q b ∧ Below w.heap.size w w' := by
  obtain ⟨N, hN⟩ : ∃ N, N = 1000 := ⟨_, rfl⟩
  have HDV := Lib.hid (divide_long N (by omega))
  have hmN : m < 4294967296 ^ N := (nd_le (by decide)).1 (by omega)
  have haN : a < 4294967296 ^ N := (nd_le (by decide)).1 (by omega)
  have HRE := Lib.hid (remainder_any HDV.out v u a m w hv hu hm0 haN hmN)
  have HMN := Lib.hid hmN
  have HND : Hid (∀ x, x ≤ m → nd 4294967296 x ≤ 1000) := fun x h => Nat.le_trans (nd_mono (by decide) h) hm
  have HE0 := Lib.hid (Euc.start (a := a) hm0)
  have HU := Lib.hid hu
  obtain ⟨ao, ac, rfl, -⟩ := hv.shape
  obtain ⟨mo, mc, rfl, -⟩ := hu.shape
  clear hv hu haN hmN hN ha hm
  go_enter Tryd.func61, Tryd.ntmps61
  go_wp2_with fail
  refine HRE.out.mono ?_
  rintro e w1 ⟨rv, rfl, hr, hb⟩
  have HR := Lib.hid hr; have HB1 := Lib.hid hb
  have HU1 := Lib.hid (HU.out.below hb)
  clear hr hb
  go_wp2_with fail
  refine (digitsOf_any 1 _ (by decide)).mono ?_
  rintro e w2 ⟨dv, rfl, hd, hb⟩
  have HD := Lib.hid hd
  have HR2 := Lib.hid (HR.out.below hb)
  have HU2 := Lib.hid (HU1.out.below hb)
  have HB2 := Lib.hid (HB1.out.trans (hb.mono HB1.out.size))
  clear hd hb
  go_wp2
  generalize nd 4294967296 m = lm at *
  go_loopg [7, 8, 9, 10, 11] (a % m) (fun n l r p q ng wr => ∃ (lN pN qN : Nat) (b : Bool), ng = .bool b ∧ D wr l lN ∧ D wr r n ∧ D wr p pN ∧ D wr q qN ∧ Hid (Euc a m lN n pN qN b) ∧ Below w.heap.size w wr)
  case atStart => exact ⟨m, 0, 1, true, rfl, HU2.out, HR2.out, IsN.zero _ _ _ _ _, HD.out, HE0, HB2.out⟩
  case round =>
    obtain ⟨lN, pN, qN, b, rfl, hl, hr, hp, hq, HE, hbel⟩ := hrel
    obtain ⟨lo, lc, rfl, -⟩ := hl.shape
    obtain ⟨ro, rc, rfl, -⟩ := hr.shape
    obtain ⟨po, pc, rfl, -⟩ := hp.shape
    obtain ⟨qo, qc, rfl, -⟩ := hq.shape
    have HL := Lib.hid hl; have HRR := Lib.hid hr; have HP := Lib.hid hp; have HQ := Lib.hid hq; have HBE := Lib.hid hbel
    have HZ := Lib.hid (isZero_any _ _ _ hr)
    clear hl hr hp hq hbel
    by_cases h0 : gk = 0
    · subst h0
      rw [show decide ((0 : Nat) = 0) = true from rfl] at HZ
      go_wp2_with fail
      refine HZ.out.mono ?_
      rintro e w3 ⟨rfl, rfl⟩
      go_wp2
      refine bodyPost_ret (v := .tuple #[.slice lo (nd 4294967296 lN) lc, .slice po (nd 4294967296 pN) pc, .bool b]) (by simp [results, Tryd.results61, go_sem]) rfl ⟨_, _, b, lN, pN, qN, rfl, HL.out, HP.out, HE.out, HBE.out⟩
    · rw [show decide (gk = 0) = false from by simp [h0]] at HZ
      have hg0 : 0 < gk := Nat.pos_of_ne_zero h0
      have hbd := HE.out.bounds
      have HNX := Lib.hid (HE.out.next hg0)
      have hbd2 := HNX.out.bounds
      have hnq := HND.out _ hbd.1
      have hnp := HND.out _ hbd.2.1
      have hnw : nd 4294967296 (lN / gk) ≤ 1000 := HND.out _ (Nat.le_trans (Nat.div_le_self _ _) hbd.2.2)
      have HDI := Lib.hid (HDV.out _ _ lN gk wr HL.out HRR.out hg0 (Nat.lt_of_le_of_lt hbd.2.2 HMN.out) (Nat.lt_trans HE.out.lt (Nat.lt_of_le_of_lt hbd.2.2 HMN.out)))
      have HLT : Hid (lN % gk < gk) := Nat.mod_lt _ hg0
      have hmul := nd_mul hnw hnq
      have hpm : nd 4294967296 (lN / gk * qN) ≤ 100000 := by omega
      clear h0 hbd hbd2 hmul
      generalize lN / gk = wh at *
      generalize lN % gk = rest at *
      go_wp2_with fail
      refine HZ.out.mono ?_
      rintro e w3 ⟨rfl, rfl⟩
      go_wp2_with fail
      refine HDI.out.mono ?_
      rintro e w3 ⟨wv, sv, rfl, hw, hs, hb⟩
      have HW3 := Lib.hid hw; have HS3 := Lib.hid hs
      have HB3 := Lib.hid (HBE.out.trans (hb.mono HBE.out.size))
      have HRR3 := Lib.hid (HRR.out.below hb); have HP3 := Lib.hid (HP.out.below hb); have HQ3 := Lib.hid (HQ.out.below hb)
      clear hw hs hb
      have HPR := Lib.hid (product_any wv _ wh qN w3 HW3.out HQ3.out (by omega) (by omega))
      go_wp2_with fail
      refine HPR.out.mono ?_
      rintro e w4 ⟨tv, rfl, ht, hb⟩
      have HS4 := Lib.hid (HS3.out.below hb)
      have HB4 := Lib.hid (HB3.out.trans (hb.mono HB3.out.size))
      have HRR4 := Lib.hid (HRR3.out.below hb); have HQ4 := Lib.hid (HQ3.out.below hb)
      have HSU := Lib.hid (sum_any _ tv pN (wh * qN) w4 (HP3.out.below hb) ht (by omega) (by omega))
      clear ht hb
      go_wp2_with fail
      refine HSU.out.mono ?_
      rintro e w5 ⟨xv, rfl, hx, hb⟩
      have HX5 := Lib.hid hx
      have HS5 := Lib.hid (HS4.out.below hb)
      have HB5 := Lib.hid (HB4.out.trans (hb.mono HB4.out.size))
      have HRR5 := Lib.hid (HRR4.out.below hb); have HQ5 := Lib.hid (HQ4.out.below hb)
      clear hx hb
      go_wp2
      go_roundg rest
      case measure => exact HLT.out
      case rel => exact ⟨gk, qN, pN + wh * qN, !b, rfl, HRR5.out, HS5.out, HQ5.out, HX5.out, HNX, HB5.out⟩
/-- what Inverse's boxes keep -/
structure St4 (W0 : World) (v u : Value) (a m : Nat) (W : World) : Prop where
  n1 : D W v a
  n2 : D W u m
  bel : Below W0.heap.size W0 W
theorem St4.next {W0 W W' : World} {v u : Value} {a m : Nat} (h : St4 W0 v u a m W) (hb : Below W.heap.size W W') : St4 W0 v u a m W' :=
  ⟨h.n1.below hb, h.n2.below hb, h.bel.trans (hb.mono h.bel.size)⟩
theorem St4.cell {W0 W : World} {v u x : Value} {a m k : Nat} (h : St4 W0 v u a m W) (hk : k < W0.heap.size) (hc : W0.cell? ⟨k, 0, none⟩ = some x) : W.cell? ⟨k, 0, none⟩ = some x :=
  (h.bel.cell (p := ⟨k, 0, none⟩) hk).trans hc
theorem St4.frozen {W0 W : World} {v u : Value} {a m k : Nat} (h : St4 W0 v u a m W) (hk : k < W0.heap.size) (hc : W0.frozen? ⟨k, 0, none⟩ = false) : W.frozen? ⟨k, 0, none⟩ = false :=
  (h.bel.frozen (p := ⟨k, 0, none⟩) hk).trans hc
set_option maxHeartbeats 4000000 in
set_option maxRecDepth 100000 in
theorem Inverse_zero (v u : Value) (a : Nat) (w : World) (hv : D w v a) (hu : D w u 0) :
    Calls Tryd.prog 24 #[.agg #[v], .agg #[u]] w fun e w' => e = .returned (.tuple #[.agg #[.slice none 0 0], .int .i64 11]) ∧ Below w.heap.size w w' := by
  have b3 : ∀ o1 o2 o3, Below w.heap.size w (((w.alloc o1).alloc o2).alloc o3) := fun o1 o2 o3 => (((Below.refl _ _).alloc (Nat.le_refl _) _).alloc (by simp) _).alloc (by simp; omega) _
  have HZ := Lib.hid (fun o1 o2 o3 => isZero_any u 0 (((w.alloc o1).alloc o2).alloc o3) (hu.below (b3 o1 o2 o3)))
  rw [show decide ((0 : Nat) = 0) = true from rfl] at HZ
  have HB := Lib.hid b3
  obtain ⟨ao, ac, rfl, -⟩ := hv.shape
  obtain ⟨mo, mc, rfl, -⟩ := hu.shape
  clear hv hu b3
  go_enter Tryd.func24, Tryd.ntmps24
  go_wp2_with fail
  refine (HZ.out _ _ _).mono ?_
  rintro e w1 ⟨rfl, rfl⟩
  go_wp2
  refine bodyPost_ret (v := .tuple #[.agg #[.slice none 0 0], .int .i64 11]) (by simp [results, Tryd.results24, go_sem]) rfl ⟨rfl, HB.out _ _ _⟩
/-- the number that Inverse returns -/
def InvN (a m : Nat) (e : Int) (x : Nat) : Prop := if Nat.gcd a m = 1 then e = 0 ∧ x < m ∧ a * x % m = 1 % m else e = 12 ∧ x = 0
set_option maxHeartbeats 4000000 in
set_option maxRecDepth 100000 in
theorem Inverse_pos (v u : Value) (a m : Nat) (w : World) (hv : D w v a) (hu : D w u m) (hm0 : 0 < m) (ha : nd 4294967296 a ≤ 1000) (hm : nd 4294967296 m ≤ 1000) :
    Calls Tryd.prog 24 #[.agg #[v], .agg #[u]] w fun e w' => ∃ r i x, e = .returned (.tuple #[.agg #[r], .int .i64 i]) ∧ D w' r x ∧ InvN a m i x ∧ Below w.heap.size w w' := by
  have b3 : ∀ o1 o2 o3, Below w.heap.size w (((w.alloc o1).alloc o2).alloc o3) := fun o1 o2 o3 => (((Below.refl _ _).alloc (Nat.le_refl _) _).alloc (by simp) _).alloc (by simp; omega) _
  obtain ⟨W0, hW0⟩ : ∃ W0 : World, W0 = ((w.alloc (.cells #[v] 26)).alloc (.cells #[u] 26)).alloc (.cells #[.slice none 0 0] 26) := ⟨_, rfl⟩
  have hz0 : W0.heap.size = w.heap.size + 3 := by rw [hW0]; simp
  have hbw : Below w.heap.size w W0 := by rw [hW0]; exact b3 _ _ _
  have hst0 : St4 W0 v u a m W0 := ⟨hv.below hbw, hu.below hbw, Below.refl _ _⟩
  have ca : W0.cell? ⟨w.heap.size, 0, none⟩ = some v := by
    rw [hW0]; exact (World.cell?_alloc_past _ _ _ (by simp <;> omega)).trans ((World.cell?_alloc_past _ _ _ (by simp)).trans (World.cell?_alloc_at _ _ _ _ rfl))
  have cm : W0.cell? ⟨w.heap.size + 1, 0, none⟩ = some u := by
    rw [hW0]; exact (World.cell?_alloc_past _ _ _ (by simp)).trans (World.cell?_alloc_at _ _ _ _ (by simp))
  have cr : W0.cell? ⟨w.heap.size + 1 + 1, 0, none⟩ = some (.slice none 0 0) := by rw [hW0]; exact World.cell?_alloc_at _ _ _ _ (by simp)
  have fr : W0.frozen? ⟨w.heap.size + 1 + 1, 0, none⟩ = false := by rw [hW0]; exact World.frozen?_alloc_at _ _ _ _ (by simp)
  have HCA : Hid (∀ W, St4 W0 v u a m W → W.cell? ⟨w.heap.size, 0, none⟩ = some v ∧ W.cell? ⟨w.heap.size + 1, 0, none⟩ = some u) := fun W h => ⟨h.cell (by omega) ca, h.cell (by omega) cm⟩
  have HCR : Hid (∀ W, St4 W0 v u a m W → W.cell? ⟨w.heap.size + 1 + 1, 0, none⟩ = some (.slice none 0 0) ∧ W.frozen? ⟨w.heap.size + 1 + 1, 0, none⟩ = false) := fun W h => ⟨h.cell (by omega) cr, h.frozen (by omega) fr⟩
  have HZ := Lib.hid (isZero_any u m W0 hst0.n2)
  rw [show decide (m = 0) = false from decide_eq_false (by omega)] at HZ
  have HO := Lib.hid (isOne_any u m W0 hst0.n2)
  have HEU := Lib.hid (euclid_any v u a m W0 hst0.n1 hst0.n2 hm0 ha hm)
  have HBW := Lib.hid hbw
  have HW0 := Lib.hid hW0
  have HST0 := Lib.hid hst0
  have HFIN : Hid (∀ W x o l c, St4 W0 v u a m W → D W (.slice o l c) x → D (W.setCell ⟨w.heap.size + 1 + 1, 0, none⟩ (.slice o l c)) (.slice o l c) x ∧ Below w.heap.size w (W.setCell ⟨w.heap.size + 1 + 1, 0, none⟩ (.slice o l c)) ∧ (W.setCell ⟨w.heap.size + 1 + 1, 0, none⟩ (.slice o l c)).cell? ⟨w.heap.size + 1 + 1, 0, none⟩ = some (.slice o l c)) := fun W x o l c h hx =>
    ⟨hx.setCell (HCR.out W h).1 (by intro d h; cases h) _, (HBW.out.trans (h.bel.mono HBW.out.size)).setCell (by show w.heap.size ≤ w.heap.size + 1 + 1; omega) _, World.cell?_setCell_same _ _ _ (HCR.out W h).1⟩
  obtain ⟨ao, ac, rfl, -⟩ := hv.shape
  obtain ⟨mo, mc, rfl, -⟩ := hu.shape
  have hc0 := HCA.out _ hst0
  have hr0 := HCR.out _ hst0
  by_cases h1 : m = 1
  · have HIN : Hid (InvN a m 0 0) := by
      show InvN _ _ _ _
      unfold InvN
      rw [if_pos (by rw [h1, Nat.gcd_one_right])]
      exact ⟨rfl, by omega, by rw [h1, Nat.mod_one, Nat.mod_one]⟩
    rw [show decide (m = 1) = true from decide_eq_true h1] at HO
    clear hv hu b3 hz0 ca cm cr fr hbw hst0 hW0 h1
    go_enter Tryd.func24, Tryd.ntmps24
    go_wp2_with fail
    rw [← HW0.out]
    refine HZ.out.mono ?_
    rintro e w1 ⟨rfl, rfl⟩
    go_wp2_with fail
    refine HO.out.mono ?_
    rintro e w1 ⟨rfl, rfl⟩
    have hfin := HFIN.out W0 0 none 0 0 HST0.out (IsN.zero _ _ _ _ _)
    have HF := Lib.hid hfin
    clear hfin
    go_wp2
    have hcell := HF.out.2.2
    refine bodyPost_ret (v := .tuple #[.agg #[.slice none 0 0], .int .i64 0]) (by simp [results, Tryd.results24, go_sem, hcell]) rfl ⟨_, _, 0, rfl, HF.out.1, HIN.out, HF.out.2.1⟩
  · have hm2 : 2 ≤ m := by omega
    have HM2 := Lib.hid hm2
    rw [show decide (m = 1) = false from decide_eq_false h1] at HO
    have HNM := Lib.hid hm
    clear hv hu b3 hz0 ca cm cr fr hbw hst0 hW0 h1 hm2
    go_enter Tryd.func24, Tryd.ntmps24
    go_wp2_with fail
    rw [← HW0.out]
    refine HZ.out.mono ?_
    rintro e w1 ⟨rfl, rfl⟩
    go_wp2_with fail
    refine HO.out.mono ?_
    rintro e w1 ⟨rfl, rfl⟩
    go_wp2_with fail
    refine HEU.out.mono ?_
    rintro e w2 ⟨gv, fv, b, l, p, q, rfl, hg, hf, heu, hb⟩
    obtain ⟨fo, fc, rfl, -⟩ := hf.shape
    have HS2 := Lib.hid (HST0.out.next hb)
    have HF2 := Lib.hid hf
    have HE2 := Lib.hid heu
    have hca := HCA.out _ HS2.out
    have hcr := HCR.out _ HS2.out
    have HO2 := Lib.hid (isOne_any gv l w2 hg)
    have hgl : Nat.gcd a m = l := by rw [← heu.gcd, Nat.gcd_zero_right]
    clear hg hf heu hb hc0 hr0
    by_cases hl : l = 1
    · subst hl
      rw [show decide (1 = 1) = true from rfl] at HO2
      have HIV := Lib.hid (HE2.out.inv HM2.out)
      have HG1 := Lib.hid hgl
      clear hgl
      cases b with
      | true =>
        have HDF := Lib.hid (difference_any _ _ m p w2 HS2.out.n2 HF2.out (by have := HNM.out; omega) (Nat.le_trans (nd_mono (by decide) HIV.out.1) (by have := HNM.out; omega)) HIV.out.1)
        have HIN : Hid (InvN a m 0 (m - p)) := by
          show InvN _ _ _ _
          unfold InvN
          rw [if_pos HG1.out]
          exact ⟨rfl, HIV.out.2⟩
        go_wp2_with fail
        refine HO2.out.mono ?_
        rintro e w3 ⟨rfl, rfl⟩
        go_wp2_with fail
        refine HDF.out.mono ?_
        rintro e w3 ⟨xv, rfl, hx, hb⟩
        obtain ⟨xo, xc, rfl, -⟩ := hx.shape
        have hs3 := HS2.out.next hb
        have hcr3 := HCR.out _ hs3
        have HF := Lib.hid (HFIN.out w3 _ _ _ _ hs3 hx)
        clear hx hb hs3 hca hcr
        go_wp2
        have hcell := HF.out.2.2
        refine bodyPost_ret (v := .tuple #[.agg #[.slice xo (nd 4294967296 (m - p)) xc], .int .i64 0]) (by simp [results, Tryd.results24, go_sem, hcell]) rfl ⟨_, _, m - p, rfl, HF.out.1, HIN.out, HF.out.2.1⟩
      | false =>
        have HIN : Hid (InvN a m 0 p) := by
          show InvN _ _ _ _
          unfold InvN
          rw [if_pos HG1.out]
          exact ⟨rfl, HIV.out.2⟩
        have HF := Lib.hid (HFIN.out w2 _ _ _ _ HS2.out HF2.out)
        go_wp2_with fail
        refine HO2.out.mono ?_
        rintro e w3 ⟨rfl, rfl⟩
        go_wp2
        have hcell := HF.out.2.2
        refine bodyPost_ret (v := .tuple #[.agg #[.slice fo (nd 4294967296 p) fc], .int .i64 0]) (by simp [results, Tryd.results24, go_sem, hcell]) rfl ⟨_, _, p, rfl, HF.out.1, HIN.out, HF.out.2.1⟩
    · rw [show decide (l = 1) = false from decide_eq_false hl] at HO2
      have HIN : Hid (InvN a m 12 0) := by
        show InvN _ _ _ _
        unfold InvN
        rw [if_neg (by rw [hgl]; exact hl)]
        exact ⟨rfl, rfl⟩
      have HF := Lib.hid (HFIN.out w2 0 none 0 0 HS2.out (IsN.zero _ _ _ _ _))
      clear hgl hl
      go_wp2_with fail
      refine HO2.out.mono ?_
      rintro e w3 ⟨rfl, rfl⟩
      go_wp2
      have hcell := HF.out.2.2
      refine bodyPost_ret (v := .tuple #[.agg #[.slice none 0 0], .int .i64 12]) (by simp [results, Tryd.results24, go_sem, hcell]) rfl ⟨_, _, 0, rfl, HF.out.1, HIN.out, HF.out.2.1⟩
end Go.Proofs.YtgidmlffjelpnaaDoor
namespace Go.Proofs.YtgidmlffjelpnaaDoor
open Go Go.RowKit Gu

/-- what the inner loop of Parse keeps: k digits of ten times the number, and one decimal digit more -/
def TenRel (N la : Nat) (w : World) (d k X c : Nat) (v : Value) (wr : World) : Prop :=
  c ≤ 10 ∧ k ≤ la + 1 ∧ X < 65536 ^ k ∧ X + 65536 ^ k * c = 10 * (N % 65536 ^ k) + d ∧ (k = la + 1 → c = 0 ∧ 65536 ^ la ≤ X) ∧ Own .i64 65536 3 wr w.heap.size v k X ∧ Below w.heap.size w wr
theorem ten_next {N la d k X c q : Nat} (hN : N < 65536 ^ la) (hk : k ≤ la) (hX : X < 65536 ^ k) (hc : c ≤ 10) (hsum : X + 65536 ^ k * c = 10 * (N % 65536 ^ k) + d) (hq : q = c + 10 * dg 65536 N k) (hcont : k < la ∨ 0 < c) :
    q / 65536 ≤ 10 ∧ X + 65536 ^ k * (q % 65536) < 65536 ^ (k + 1) ∧ (X + 65536 ^ k * (q % 65536)) + 65536 ^ (k + 1) * (q / 65536) = 10 * (N % 65536 ^ (k + 1)) + d ∧ (k + 1 = la + 1 → q / 65536 = 0 ∧ 65536 ^ la ≤ X + 65536 ^ k * (q % 65536)) := by
  have hd := dg_lt (B := 65536) (by decide) N k
  have e := Nat.mod_add_div q 65536
  have hs : (X + 65536 ^ k * (q % 65536)) + 65536 ^ (k + 1) * (q / 65536) = 10 * (N % 65536 ^ (k + 1)) + d := by
    have e1 : 65536 ^ (k + 1) * (q / 65536) = 65536 ^ k * (65536 * (q / 65536)) := by rw [Nat.pow_succ, Nat.mul_assoc]
    have e2 : 65536 ^ k * (q % 65536) + 65536 ^ k * (65536 * (q / 65536)) = 65536 ^ k * q := by rw [← Nat.mul_add, e]
    have e3 : 65536 ^ k * q = 65536 ^ k * c + 10 * (65536 ^ k * dg 65536 N k) := by rw [hq, Nat.mul_add, Nat.mul_left_comm]
    rw [e1, mod_succ, Nat.mul_add]
    omega
  refine ⟨by omega, snoc_lt hX (Nat.mod_lt _ (by decide)), hs, fun h => ?_⟩
  obtain rfl : k = la := by omega
  have hz : dg 65536 N k = 0 := dg_high (by decide) hN (Nat.le_refl _)
  rw [hz] at hq
  have h1 : q = c := by omega
  have hc0 : 0 < c := by omega
  rw [h1]
  refine ⟨by omega, ?_⟩
  rw [Nat.mod_eq_of_lt (show c < 65536 by omega)]
  have : 65536 ^ k * 1 ≤ 65536 ^ k * c := Nat.mul_le_mul_left _ hc0
  omega
theorem ten_len {N la X k : Nat} (hla : nd 65536 N = la) (hX : X < 65536 ^ k) (hle : N ≤ X) (hk : la ≤ k) (h1 : k = la + 1 → 65536 ^ la ≤ X) (hk2 : k ≤ la + 1) : nd 65536 X = k := by
  have h2 : nd 65536 X ≤ k := (nd_le (by decide)).2 hX
  have h3 := nd_mono (B := 65536) (by decide) hle
  rcases Nat.eq_or_lt_of_le hk with h | h
  · omega
  · have hk3 : k = la + 1 := by omega
    have h4 := h1 hk3
    rcases Nat.lt_or_ge (nd 65536 X) k with h5 | h5
    · have h6 : X < 65536 ^ la := (nd_le (by decide)).1 (by omega)
      omega
    · omega
end Go.Proofs.YtgidmlffjelpnaaDoor
namespace Go.Proofs.YtgidmlffjelpnaaDoor
open Go Go.RowKit Gu

set_option maxHeartbeats 400000 in
theorem RNumeral_any (s : ByteArray) (w : World) (hs : s.size ≤ 1048576) :
    Calls Tryd.prog 46 #[.string s] w fun e w' => e = .returned (.bool (isNum s.data.toList)) ∧ w = w' := by
  rcases Nat.eq_zero_or_pos s.size with h0 | h0
  · obtain rfl : s = ⟨#[]⟩ := by
      rcases s with ⟨⟨l⟩⟩
      cases l with
      | nil => rfl
      | cons a l => simp [ByteArray.size] at h0
    go_enter Tryd.func46, Tryd.ntmps46
    go_wp2
    go_ret
    exact ⟨rfl, rfl⟩
  · have hn0 : ((s.size : Int) == 0) = false := beq_eq_false_iff_ne.2 (by omega)
    have hn1 : ¬ s = ByteArray.empty := by rintro rfl; exact absurd h0 (by decide)
    by_cases hz : s[0].toNat = 48
    · by_cases h1 : 1 < s.size
      · have HE := Lib.hid (isNum_zero s h1 hz)
        have hb : ((s[0].toNat : Int) == 48) = true := by simp; omega
        clear hz
        go_enter Tryd.func46, Tryd.ntmps46
        go_wp2
        all_goals (go_ret; exact ⟨by rw [HE.out]; rfl, rfl⟩)
      · obtain rfl : s = ⟨#[48]⟩ := by
          have := one_byte s (by omega)
          have he : s[0] = 48 := UInt8.toNat_inj.1 (by rw [hz]; rfl)
          rw [this]; rw [he]
        clear hn0 hn1 hz h1 h0 hs
        go_enter Tryd.func46, Tryd.ntmps46
        go_wp2
        refine wp_loop_rounds 2 ?_
        repeat any_goals (rw [rounds_succ]; go_wp2)
        go_ret
        exact ⟨rfl, rfl⟩
    · have HE := Lib.hid (isNum_lead s h0 hz)
      have hb : ((s[0].toNat : Int) == 48) = false := by simp; omega
      clear hz
      rcases (show (1 : Int) < s.size ∨ ¬ (1 : Int) < s.size from Decidable.em _) with h1 | h1
      all_goals
       go_enter Tryd.func46, Tryd.ntmps46
       go_wp2
       go_loop [3] (fun t => ∃ k : Nat, k ≤ s.size ∧ t = .int .i64 k ∧ Hid ((s.data.toList.take k).all isDigit = true)) (fun t => s.size - (intOf t).toNat)
       case atStart => exact ⟨0, Nat.zero_le _, rfl, rfl⟩
       case round =>
         obtain ⟨k, hk, rfl, hall⟩ := hrel
         by_cases hlt : k < s.size
         · by_cases hd : isDigit s[k] = true
           · obtain ⟨d1, d2⟩ := (digit_iff _).1 hd
             have HN : Hid ((s.data.toList.take (k + 1)).all isDigit = true) := all_take s k hlt hall.out hd
             clear hd
             go_wp2
             go_round
             case rel => exact ⟨k + 1, by omega, by go_num, HN⟩
             case measure => simp [intOf]; omega
           · have HF := Lib.hid (all_false s k hlt hd)
             have hd' : s[k].toNat < 48 ∨ 57 < s[k].toNat := by
               have := mt (digit_iff s[k]).2 hd
               omega
             clear hd
             rcases hd' with h | h
             · have h' : (s[k].toNat : Int) < 48 := by omega
               go_wp2
               go_ret
               exact ⟨by rw [HE.out, HF.out]; rfl, rfl⟩
             · have h' : (57 : Int) < s[k].toNat := by omega
               go_wp2
               go_ret
               exact ⟨by rw [HE.out, HF.out]; rfl, rfl⟩
         · obtain rfl : k = s.size := by omega
           have HT : Hid (s.data.toList.all isDigit = true) := by
             have := hall.out
             rw [List.take_of_length_le (by rw [len_data]; exact Nat.le_refl _)] at this
             exact this
           go_wp2
           go_ret
           exact ⟨by rw [HE.out, HT.out]; rfl, rfl⟩
end Go.Proofs.YtgidmlffjelpnaaDoor
namespace Go.Proofs.YtgidmlffjelpnaaDoor
open Go Go.RowKit Gu

theorem nd_sval16 {l : List UInt8} (h : l.all isDigit = true) : nd 65536 (sval l) ≤ l.length :=
  (nd_le (by decide)).2 (Nat.lt_of_lt_of_le (sval_lt l h) (Nat.pow_le_pow_left (by decide) _))
set_option maxHeartbeats 400000 in
theorem RParse_no (s : ByteArray) (w : World) (hs : s.size ≤ 1048576) (hd : isNum s.data.toList = false) :
    Calls Tryd.prog 13 #[.string s] w fun e w' => e = .returned (.tuple #[.slice none 0 0, .int .i64 4]) ∧ w = w' := by
  have HI := Lib.hid (RNumeral_any s w hs)
  rw [hd] at HI
  clear hd
  go_enter Tryd.func13, Tryd.ntmps13
  go_wp2_with fail
  refine HI.out.mono ?_
  rintro e w' ⟨rfl, rfl⟩
  go_wp2
  go_ret2
  exact ⟨rfl, rfl⟩
set_option maxHeartbeats 400000 in
theorem RParse_long (s : ByteArray) (w : World) (hs : s.size ≤ 1048576) (hl : 5000 < s.size) (hd : isNum s.data.toList = true) :
    Calls Tryd.prog 13 #[.string s] w fun e w' => e = .returned (.tuple #[.slice none 0 0, .int .i64 3]) ∧ w = w' := by
  have HI := Lib.hid (RNumeral_any s w hs)
  rw [hd] at HI
  have hl' : (5000 : Int) < s.size := by omega
  clear hd
  go_enter Tryd.func13, Tryd.ntmps13
  go_wp2_with fail
  refine HI.out.mono ?_
  rintro e w' ⟨rfl, rfl⟩
  go_wp2
  go_ret2
  exact ⟨rfl, rfl⟩
set_option maxHeartbeats 2000000 in
set_option maxRecDepth 100000 in
theorem RParse_yes (s : ByteArray) (w : World) (hs : s.size ≤ 5000) (hd : isNum s.data.toList = true) :
    Calls Tryd.prog 13 #[.string s] w fun e w' => ∃ r, e = .returned (.tuple #[r, .int .i64 (fitE (sval s.data.toList))]) ∧ R w' r (fitN (sval s.data.toList)) ∧ Below w.heap.size w w' := by
  obtain ⟨i0, hi, hz0, hz1, hz2⟩ := info_parts Tryd.infoInt
  have hB : 2 ≤ 65536 := by decide
  have HI := Lib.hid (RNumeral_any s w (by omega))
  rw [hd] at HI
  have HALL := Lib.hid (isNum_digits hd)
  have HDG : Hid (∀ k (h : k < s.size), isDigit s[k] = true) := fun k h => by
    rw [← byte_at s k h]
    exact List.all_eq_true.1 HALL.out _ (List.getElem_mem _)
  have HND : Hid (∀ i, nd 65536 (sval (s.data.toList.take i)) ≤ 5000) := fun i => by
    have h1 := all_sub HALL.out 0 i
    rw [List.drop_zero] at h1
    have h2 := nd_sval16 h1
    have h3 : (s.data.toList.take i).length ≤ s.data.toList.length := List.length_take_le' _ _
    rw [len_data] at h3
    omega
  clear hd
  go_enter Tryd.func13, Tryd.ntmps13
  go_wp2_with fail
  refine HI.out.mono ?_
  rintro e w' ⟨rfl, rfl⟩
  go_wp2
  go_loopw [4, 5] (fun v t wr => ∃ i : Nat, i ≤ s.size ∧ t = .int .i64 i ∧ R wr v (sval (s.data.toList.take i)) ∧ Below w.heap.size w wr) (fun _ t _ => s.size - (intOf t).toNat)
  case atStart => exact ⟨0, Nat.zero_le _, rfl, by rw [List.take_zero]; exact IsN.zero _ _ _ _ _, Below.refl _ _⟩
  case round =>
    obtain ⟨i, hil, rfl, hv, hb⟩ := hrel
    by_cases hlt : i < s.size
    · obtain ⟨wo, rfl⟩ : ∃ wo : World, wo = wr := ⟨_, rfl⟩
      obtain ⟨vo, vc, rfl, -⟩ := hv.shape
      obtain ⟨d1, d2⟩ := (digit_iff _).1 (HDG.out i hlt)
      have HS : Hid (sval (s.data.toList.take (i + 1)) = sval (s.data.toList.take i) * 10 + (s[i].toNat - 48)) := by
        show _ = _
        rw [take_byte s i hlt, sval_snoc]
      have hn := HND.out i
      have HNl := Lib.hid (nd_lt (B := 65536) (by decide) (sval (s.data.toList.take i)))
      have HV := Lib.hid hv; have HB := Lib.hid hb
      clear hv hb
      generalize sval (s.data.toList.take i) = N at *
      obtain ⟨la, hla⟩ : ∃ la, nd 65536 N = la := ⟨_, rfl⟩
      have HLA := Lib.hid hla
      rw [hla] at hn HNl HV ⊢
      clear hla
      have HNa : Hid (nd 65536 N ≤ 4611686018427387904) := by show _ ≤ _; rw [HLA.out]; omega
      have hdig : s[i].toNat - 48 ≤ 9 := by omega
      have HDI : Hid (((s[i].toNat - 48 : Nat) : Int) = (s[i].toNat : Int) - 48) := by show _ = _; omega
      have HST : Hid (TenRel N la wo (s[i].toNat - 48) 0 0 (s[i].toNat - 48) (.slice none 0 0) wo) :=
        ⟨by omega, by omega, by simp, by simp [Nat.mod_one], fun h => by omega, Own.nil _ _ _ _ _, Below.refl _ _⟩
      generalize hdd : s[i].toNat - 48 = d at *
      have HDD := Lib.hid hdd
      clear hdd
      go_wp2
      go_loopg [6, 7, 8] (la + 1) (fun m c out x wr => ∃ k X cc : Nat, Hid (m + k = la + 1) ∧ x = .int .i64 k ∧ c = .int .i64 cc ∧ TenRel N la wo d k X cc out wr)
      case atStart => exact ⟨0, 0, d, rfl, rfl, by rw [HDI.out], HST.out⟩
      case round =>
        obtain ⟨k, X, c, HK, rfl, rfl, hrel⟩ := hrel
        have hc1 : c ≤ 10 := hrel.1
        have hk1 : k ≤ la + 1 := hrel.2.1
        by_cases hcont : k < la ∨ 0 < c
        · obtain ⟨-, -, hX, hsum, hend, hown, hbel⟩ := hrel
          have hkM : k ≤ la := by
            rcases Nat.lt_or_ge la k with h | h
            · have := (hend (by omega)).1; omega
            · exact h
          have hA := Lib.hid (Rat_any _ N k wr (HV.out.below hbel) HNa.out)
          have hda := dg_lt (B := 65536) (by decide) N k
          have HTN := Lib.hid (ten_next HNl.out hkM hX hc1 hsum rfl hcont)
          have HPS := Lib.hid (fun dd (h : dd < 65536) => pad_succ (B := 65536) (by decide) hX h)
          have HB2 := Lib.hid hbel
          have hltw := hown.lt
          have HLT := Lib.hid hltw
          have hsz := hbel.size
          unfold Own at hown
          clear hbel hltw hsum hX hend
          generalize dg 65536 N k = da at *
          obtain ⟨q, hq⟩ : ∃ q, c + 10 * da = q := ⟨_, rfl⟩
          have hq1 : q ≤ 655360 := by omega
          have HQ : Hid ((c : Int) + 10 * (da : Int) = (q : Int)) := by show _ = _; omega
          have hqm : q % 65536 < 65536 := Nat.mod_lt _ (by decide)
          rw [hq] at HTN
          have HPS2 := Lib.hid (HPS.out _ hqm)
          have hcond : (k : Int) < la ∨ (¬ (k : Int) < la ∧ (0 : Int) < c) := by omega
          clear hcont hq HPS
          have HE : Hid (((q % 65536 : Nat) : Int) = (c + 10 * da : Int) % 65536) := by show _ = _; rw [HQ.out]; omega
          have HE2 : Hid (((q / 65536 : Nat) : Int) = (c + 10 * da : Int) / 65536) := by show _ = _; rw [HQ.out]; omega
          rcases hcond with hcond | ⟨hcond0, hcond⟩
          all_goals
            go_wp2_with fail
            refine hA.out.mono ?_
            rintro e w' ⟨rfl, rfl⟩
            go_wp2_with (at_builtin; refine wpList_append_own _ rfl _ _ 30 rfl wo.heap.size 3 i0 (.int .i64 0) 1 8 Tryd.underlying30 hi hz0 hz1 hz2 rfl (by decide) _ _ _ rfl (hown.alloc _) ⟨wr.heap.size, 0, none⟩ 1 1 [.int .i64 ((c + 10 * da : Int) % 65536)] rfl rfl ?c1 ?c2 ?c3 ?c4 ?c5 ?_)
            case c1 => exact cell_one_new _ _ _
            case c2 => intro u hu; simp at hu; subst hu; rfl
            case c3 => unfold maxLen; omega
            case c4 => omega
            case c5 => simp; omega
            intro v' w4 hown4 hgrow hnil
            have HFIN : Hid (TenRel N la wo d (k + 1) (X + 65536 ^ k * (q % 65536)) (q / 65536) v' w4) := by
              obtain ⟨t1, t2, t3, t4⟩ := HTN.out
              refine ⟨t1, by omega, t2, t3, t4, ?_, ?_⟩
              · unfold Own
                rw [HPS2.out, List.map_append]
                show w4.ownsRow _ _ _ _ _ (_ ++ [Value.int .i64 ((q % 65536 : Nat) : Int)])
                rw [HE.out]
                exact hown4
              · refine Below.grown (HB2.out.alloc (by omega) _) hgrow (by simp; omega) ?_
                intro j hj
                exact (HLT.out _ hj).1
            clear hown4 hgrow hnil
            go_wp2
            go_roundg (la + 1 - (k + 1))
            case measure => have := HK.out; omega
            case rel => exact ⟨k + 1, _, _, by show _ = _; omega, by go_num, congrArg _ HE2.out.symm, HFIN.out⟩
        · have hk2 : la ≤ k := by omega
          have hc0 : c = 0 := by omega
          subst hc0
          obtain ⟨-, -, hX, hsum, hend, hown, hbel⟩ := hrel
          have h1 : N < 65536 ^ k := Nat.lt_of_lt_of_le HNl.out (Nat.pow_le_pow_right (by decide) hk2)
          rw [Nat.mod_eq_of_lt h1, Nat.mul_zero, Nat.add_zero] at hsum
          have hnd : nd 65536 X = k := ten_len HLA.out hX (by omega) hk2 (fun h => (hend h).2) hk1
          have HR := Lib.hid (hown.isN hB hnd)
          have HXE : Hid (X = sval (s.data.toList.take (i + 1))) := by
            show _ = _
            rw [HS.out, hsum]; omega
          have HB2 := Lib.hid (HB.out.trans (hbel.mono HB.out.size))
          have h0 : ¬ ((k : Int) < la) := by omega
          clear hX hsum hend hown hbel hnd hcont h1
          go_wp2
          go_roundw
          case rel => exact ⟨i + 1, by omega, by go_num, by rw [← HXE.out]; exact HR.out, HB2.out⟩
          case measure => simp [intOf]; omega
    · obtain rfl : i = s.size := by omega
      rw [List.take_of_length_le (by rw [len_data]; exact Nat.le_refl _)] at hv
      have hn := HND.out s.size
      rw [List.take_of_length_le (by rw [len_data]; exact Nat.le_refl _)] at hn
      have HV := Lib.hid hv; have HB := Lib.hid hb
      have HBL := Lib.hid (RBitLen_any _ _ _ hv (by omega))
      clear hv hb hn
      obtain ⟨N, hN⟩ : ∃ N, N = sval s.data.toList := ⟨_, rfl⟩
      have HN := Lib.hid hN
      rw [← hN] at HV HBL
      clear hN
      by_cases hfit : nd 2 N ≤ 16384
      · have HE : Hid (fitE N = 0 ∧ fitN N = N) := ⟨if_pos hfit, if_pos hfit⟩
        have hf : ¬ ((16384 : Int) < ((nd 2 N : Nat) : Int)) := by omega
        generalize hbl : nd 2 N = bl at hf HBL
        clear hbl hfit
        go_wp2_with fail
        refine HBL.out.mono ?_
        rintro e w5 ⟨rfl, rfl⟩
        go_wp2
        go_ret2
        exact ⟨_, by rw [← HN.out, HE.out.1]; rfl, by rw [← HN.out, HE.out.2]; exact HV.out, HB.out⟩
      · have HE : Hid (fitE N = 3 ∧ fitN N = 0) := ⟨if_neg hfit, if_neg hfit⟩
        have hf : ((16384 : Int) < ((nd 2 N : Nat) : Int)) := by omega
        generalize hbl : nd 2 N = bl at hf HBL
        clear hbl hfit
        go_wp2_with fail
        refine HBL.out.mono ?_
        rintro e w5 ⟨rfl, rfl⟩
        go_wp2
        go_ret2
        exact ⟨.slice none 0 0, by rw [← HN.out, HE.out.1]; rfl, by rw [← HN.out, HE.out.2]; exact IsN.zero _ _ _ _ _, HB.out⟩
end Go.Proofs.YtgidmlffjelpnaaDoor
namespace Go.Proofs.YtgidmlffjelpnaaDoor
open Go Go.RowKit Gu

/-- any digit of a buffer is stored anew -/
theorem Buf.at {k : IntKind} {B : Nat} {T : TypeId} {w : World} {g m V : Nat} (h : Buf k B T w g m V) (hB : 0 < B) (j : Nat) {d : Nat} (hd : d < B) :
    Buf k B T (w.setCell ⟨g, j, none⟩ (.int k d)) g m (V % B ^ j + B ^ j * (d + B * (V / B ^ (j + 1)))) := by
  have e : V = V % B ^ j + B ^ j * (dg B V j + B * (V / B ^ (j + 1))) := by
    rw [← div_succ]; exact (Nat.mod_add_div _ _).symm
  rw [e] at h
  exact Buf.set h hB (Nat.mod_lt _ (Nat.pow_pos hB)) (dg_lt hB _ _) hd
/-- .. and what the number is then -/
theorem at_val {B V j d : Nat} : V % B ^ j + B ^ j * (d + B * (V / B ^ (j + 1))) + B ^ j * dg B V j = V + B ^ j * d := by
  have e : V = V % B ^ j + B ^ j * (dg B V j + B * (V / B ^ (j + 1))) := by
    rw [← div_succ]; exact (Nat.mod_add_div _ _).symm
  have e2 : B ^ j * (d + B * (V / B ^ (j + 1))) = B ^ j * d + B ^ j * (B * (V / B ^ (j + 1))) := Nat.mul_add _ _ _
  have e3 : B ^ j * (dg B V j + B * (V / B ^ (j + 1))) = B ^ j * dg B V j + B ^ j * (B * (V / B ^ (j + 1))) := Nat.mul_add _ _ _
  omega
/-- one round of the inner loop -/
theorem mulr_round {B V c i k P a b d q : Nat} (h : V + B ^ (i + k) * c = P + B ^ i * (a * (b % B ^ k))) (hd : d + B * q = c + dg B V (i + k) + a * dg B b k) :
    (V % B ^ (i + k) + B ^ (i + k) * (d + B * (V / B ^ (i + k + 1)))) + B ^ (i + (k + 1)) * q = P + B ^ i * (a * (b % B ^ (k + 1))) := by
  have e := at_val (B := B) (V := V) (j := i + k) (d := d)
  have e1 : B ^ (i + k) * (d + B * q) = B ^ (i + k) * (c + dg B V (i + k) + a * dg B b k) := by rw [hd]
  rw [mod_succ]
  have e2 : B ^ i * (a * (b % B ^ k + B ^ k * dg B b k)) = B ^ i * (a * (b % B ^ k)) + B ^ (i + k) * (a * dg B b k) := by
    rw [Nat.mul_add a, Nat.mul_add (B ^ i), Nat.pow_add, Nat.mul_assoc (B ^ i), Nat.mul_left_comm a]
  have e3 : B ^ (i + (k + 1)) * q = B ^ (i + k) * (B * q) := by rw [← Nat.add_assoc, Nat.pow_succ, Nat.mul_assoc]
  rw [e2, e3]
  rw [Nat.mul_add, Nat.mul_add, Nat.mul_add] at e1
  omega
/-- what the outer loop keeps -/
def MulRel (a b m : Nat) (w : World) (i : Nat) (wr : World) : Prop :=
  Buf .i64 65536 3 wr w.heap.size m ((a % 65536 ^ i) * b) ∧ Below w.heap.size w wr
/-- what the inner loop keeps -/
def RowIn (a b da m : Nat) (w : World) (i k c : Nat) (wr : World) : Prop :=
  c < 65536 ∧ ∃ V, V + 65536 ^ (i + k) * c = (a % 65536 ^ i) * b + 65536 ^ i * (da * (b % 65536 ^ k)) ∧ Buf .i64 65536 3 wr w.heap.size m V ∧ Below w.heap.size w wr
theorem RowIn.next {a b da m : Nat} {w : World} {i k c q : Nat} {wr : World} {V : Nat} (h1 : V + 65536 ^ (i + k) * c = (a % 65536 ^ i) * b + 65536 ^ i * (da * (b % 65536 ^ k))) (h2 : Buf .i64 65536 3 wr w.heap.size m V) (h3 : Below w.heap.size w wr)
    (hc : c < 65536) (ha : da < 65536) (n : Nat) (ht : q = c + dg 65536 V (i + k) + da * dg 65536 b k) : RowIn a b da m w i (k + 1) (q / 65536) ((wr.drewN n).setCell ⟨w.heap.size, i + k, none⟩ (.int .i64 (q % 65536 : Nat))) := by
  have hv := dg_lt (B := 65536) (by decide) V (i + k)
  have hb := dg_lt (B := 65536) (by decide) b k
  have hm : da * dg 65536 b k ≤ 65535 * 65535 := Nat.mul_le_mul (by omega) (by omega)
  refine ⟨by omega, _, mulr_round h1 (show q % 65536 + 65536 * (q / 65536) = _ by rw [Nat.mod_add_div]; exact ht), Buf.at (w := wr.drewN n) h2 (by decide) _ (Nat.mod_lt _ (by decide)), (below_drewN h3 n).setCell (Nat.le_refl _) _⟩
/-- where the inner loop ends, and that it stays inside the row -/
theorem row_in {a b da m : Nat} {w : World} {i k c : Nat} {wr : World} (h : RowIn a b da m w i k c wr) {lb : Nat} (hb : b < 65536 ^ lb) (hda : da < 65536) (hk : lb ≤ k) (hc : 0 < c) : k = lb := by
  obtain ⟨-, V, hV, -, -⟩ := h
  rcases Nat.lt_or_ge lb k with h1 | h1
  · exfalso
    have h2 : 65536 ^ (i + k) ≤ 65536 ^ (i + k) * c := Nat.le_mul_of_pos_right _ hc
    have h3 : (a % 65536 ^ i) * b ≤ 65536 ^ i * b := Nat.mul_le_mul_right _ (Nat.le_of_lt (Nat.mod_lt _ (Nat.pow_pos (by decide))))
    have h4 : 65536 ^ i * (da * (b % 65536 ^ k)) ≤ 65536 ^ i * (65535 * b) := Nat.mul_le_mul_left _ (Nat.mul_le_mul (by omega) (Nat.mod_le _ _))
    have h5 : 65536 ^ i * (65536 * b) < 65536 ^ i * (65536 * 65536 ^ lb) := Nat.mul_lt_mul_of_pos_left (Nat.mul_lt_mul_of_pos_left hb (by decide)) (Nat.pow_pos (by decide))
    have h6 : 65536 ^ i * (65536 * 65536 ^ lb) ≤ 65536 ^ (i + k) := by
      rw [Nat.mul_comm 65536, ← Nat.pow_succ, ← Nat.pow_add]
      exact Nat.pow_le_pow_right (by decide) (by omega)
    have h7 : 65536 ^ i * (65536 * b) = 65536 ^ i * b + 65536 ^ i * (65535 * b) := by
      rw [← Nat.mul_add]; congr 1; omega
    omega
  · omega
theorem RowIn.done {a b m : Nat} {w : World} {i k : Nat} {wr : World} {lb : Nat} (h : RowIn a b (dg 65536 a i) m w i k 0 wr) (hb : b < 65536 ^ lb) (hk : lb ≤ k) : MulRel a b m w (i + 1) wr := by
  obtain ⟨-, V, hV, h1, h2⟩ := h
  have hbk : b % 65536 ^ k = b := Nat.mod_eq_of_lt (Nat.lt_of_lt_of_le hb (Nat.pow_le_pow_right (by decide) hk))
  rw [hbk, Nat.mul_zero, Nat.add_zero] at hV
  refine ⟨?_, h2⟩
  rw [mod_succ, Nat.add_mul, Nat.mul_assoc, ← hV]
  exact h1
set_option maxHeartbeats 2000000 in
set_option maxRecDepth 100000 in
theorem RMul_any (v u : Value) (a b : Nat) (w : World) (hv : R w v a) (hu : R w u b) (ha : nd 65536 a ≤ 500000) (hb : nd 65536 b ≤ 500000) :
    Calls Tryd.prog 28 #[v, u] w fun e w' => ∃ r, e = .returned r ∧ R w' r (a * b) ∧ Below w.heap.size w w' := by
  have hB : 2 ≤ 65536 := by decide
  obtain ⟨ao, ac, rfl, hcv⟩ := hv.shape
  obtain ⟨bo, bc, rfl, -⟩ := hu.shape
  have HU := Lib.hid hu
  have HC := Lib.hid hcv
  clear hv hu hcv
  have HAl := Lib.hid (nd_lt hB a)
  have HBl := Lib.hid (nd_lt hB b)
  have HNb : Hid (nd 65536 b ≤ 4611686018427387904) := by show _ ≤ _; omega
  generalize nd 65536 a = la at *
  obtain ⟨lb, hlb⟩ : ∃ lb, nd 65536 b = lb := ⟨_, rfl⟩
  rw [hlb] at hb HU HBl ⊢
  clear hlb
  have hmk := made_int (la + lb) (by omega)
  rw [show (((la + lb : Nat)) : Int) = (la : Int) + lb from by omega] at hmk
  go_enter Tryd.func28, Tryd.ntmps28
  go_wp2
  go_loopw [6] (fun t wr => ∃ i : Nat, i ≤ la ∧ t = .int .i64 i ∧ MulRel a b (la + lb) w i wr) (fun t _ => la - (intOf t).toNat)
  case atStart => exact ⟨0, Nat.zero_le _, rfl, by simpa [Nat.mod_one] using Buf.made _ _ _ _ _, (Below.refl _ _).alloc (Nat.le_refl _) _⟩
  case round =>
    obtain ⟨i, hi, rfl, hrel⟩ := hrel
    by_cases hlt : i < la
    · have hil : (i : Int) < la := by omega
      have HM := Lib.hid hrel
      clear hrel
      obtain ⟨wo, rfl⟩ : ∃ wo : World, wo = wr := ⟨_, rfl⟩
      obtain ⟨gb, go, rfl, hca⟩ := HC.out i hlt
      have hda := dg_lt (B := 65536) (by decide) a i
      have HFIN := Lib.hid (fun k wr (h : RowIn a b (dg 65536 a i) (la + lb) w i k 0 wr) (hk : lb ≤ k) => h.done HBl.out hk)
      have HCA : Hid (∀ wr, Below w.heap.size w wr → wr.cell? ⟨gb, go + i, none⟩ = some (.int .i64 (dg 65536 a i : Nat))) := fun wr hb => by
        rw [hb.cell (p := ⟨gb, go + i, none⟩) (World.block_lt_of_cell? _ _ hca)]; exact hca
      clear hca
      have HDA : Hid (dg 65536 a i < 65536) := hda
      have HSTART : Hid (RowIn a b (dg 65536 a i) (la + lb) w i 0 0 wo) := ⟨by decide, _, by simp [Nat.mod_one], HM.out.1, HM.out.2⟩
      generalize dg 65536 a i = da at *
      go_wp2
      go_loopg [7, 8] (lb + 1) (fun m c x wr => ∃ k cc : Nat, Hid (m + k = lb + 1) ∧ x = .int .i64 k ∧ c = .int .i64 cc ∧ RowIn a b da (la + lb) w i k cc wr)
      case atStart => exact ⟨0, 0, rfl, rfl, rfl, HSTART.out⟩
      case round =>
        obtain ⟨k, c, HK, rfl, rfl, hrow⟩ := hrel
        have hk1 : k ≤ lb + 1 := by have := HK.out; omega
        by_cases hcont : k < lb ∨ 0 < c
        · have hklb : k ≤ lb := by
            rcases hcont with h | h
            · omega
            · rcases Nat.lt_or_ge k lb with h' | h'
              · omega
              · exact Nat.le_of_eq (row_in hrow HBl.out HDA.out h' h)
          have hc1 := hrow.1
          obtain ⟨-, V, hV, hbuf, hbel⟩ := hrow
          have HNX := Lib.hid (fun n q hq => RowIn.next (q := q) hV hbuf hbel hc1 HDA.out n hq)
          have HA := Lib.hid (fun q => Rat_any _ b k (wr.drewN q) (HU.out.below (below_drewN hbel q)) HNb.out)
          have hca := HCA.out _ hbel
          have hcell := hbuf.cell (i := i + k) (by omega)
          have hfr := hbuf.frozen (i + k)
          have hdv := dg_lt (B := 65536) (by decide) V (i + k)
          have hdb := dg_lt (B := 65536) (by decide) b k
          clear hV hbuf hbel
          generalize dg 65536 V (i + k) = dv at *
          generalize dg 65536 b k = db at *
          have hmul : da * db ≤ 65535 * 65535 := Nat.mul_le_mul (by omega) (by omega)
          obtain ⟨q, hq⟩ : ∃ q, q = c + dv + da * db := ⟨_, rfl⟩
          have hq1 : q < 8589934592 := by omega
          have HN := Lib.hid (fun n => HNX.out n q hq)
          have HW : Hid (wrap64 (↑c + wrap64 (↑dv + wrap64 (↑da * ↑db))) = (q : Int)) := by
            show _ = _
            have e : (da : Int) * db = ((da * db : Nat) : Int) := by simp
            rw [e, hq]
            generalize da * db = p at *
            rw [IntWalk.wrap64_in (p : Int) (by omega), IntWalk.wrap64_in ((dv : Int) + p) (by omega), IntWalk.wrap64_in _ (by omega)]
            omega
          clear hq HNX hmul
          have hcond : ((k : Int) < lb) ∨ (¬ ((k : Int) < lb) ∧ (0 : Int) < c) := by omega
          have hil2 : (i : Int) + k < ((la + lb : Nat) : Int) := by omega
          rcases hcond with h1 | ⟨h0, h1⟩
          all_goals
            go_wp2
            go_quiet ((go_at_call 47; exact Calls.quiet_of_same ((HA.out _).mono fun _ _ ⟨h, h'⟩ => ⟨h, h'.symm⟩)))
            rw [HW.out]
            go_wp2
            have HN2 := HN.out nq
            rw [show ((q % 65536 : Nat) : Int) = (q : Int) % 65536 from by omega] at HN2
            go_roundg (lb - k)
            case measure => have := HK.out; omega
            case rel => exact ⟨k + 1, q / 65536, by show _ = _; omega, by go_num, by go_num, HN2⟩
        · have hk2 : lb ≤ k := by omega
          have hc0 : c = 0 := by omega
          subst hc0
          have HF := Lib.hid (HFIN.out k wr hrow hk2)
          have h0 : ¬ ((k : Int) < lb) := by omega
          clear hrow hcont
          go_wp2
          go_roundw
          case rel => exact ⟨i + 1, by omega, by go_num, HF.out⟩
          case measure => simp [intOf]; omega
    · obtain rfl : i = la := by omega
      obtain ⟨hbuf, hbel⟩ := hrel
      rw [Nat.mod_eq_of_lt HAl.out] at hbuf
      have hlt2 : a * b < 65536 ^ (i + lb) := by
        rw [Nat.pow_add]
        exact Nat.mul_lt_mul_of_lt_of_le HAl.out (Nat.le_of_lt HBl.out) (Nat.pow_pos (by decide))
      have HR := Lib.hid (hbuf.isN hB hlt2 (i + lb))
      have HT := Lib.hid (Trim_buf w.heap.size (i + lb) (i + lb) (a * b) wr hbuf hlt2 (by omega) (by omega))
      have HBel := Lib.hid hbel
      clear hlt2 hbuf hbel hlt hi
      go_wp2_with fail
      refine HT.out.mono ?_
      rintro e w' ⟨rfl, rfl⟩
      go_wp2
      go_ret
      exact ⟨_, rfl, HR.out, HBel.out⟩
end Go.Proofs.YtgidmlffjelpnaaDoor
namespace Go.Proofs.YtgidmlffjelpnaaDoor
open Go Go.RowKit Gu

/-- an append to a row of the call's own, as one step of a region that draws its order -/
theorem step_append_own {P : Program} {ops : Array Oper} {o : Oper} {a : Act} {w : World} {K : Act → World → Prop} {Q : Exit → Act → World → Prop} {E : Prop} (hg : o.guard = none) (s x : Operand) (t : TypeId)
    (ho : o.op = Op.call { callee := Callee.builtin Builtin.append, args := #[s, x], argTypes := #[t, t] })
    (base : Nat) (e : TypeId) (i : TypeInfo) (z : Value) (size bytes : Nat) (ht : P.underlying t = some (.slice e)) (hi : P.info? e = some i) (hz : i.zero = some z)
    (hsize : i.size = size) (hby : i.bytes = bytes) (hzs : z.cells.size = size) (hsz : 0 < size)
    (v : Value) (n : Nat) (xs : List Value) (hs : a.eval s = v) (hown : w.ownsRow base e size v n xs)
    (ad : Addr) (m c : Nat) (news : List Value) (hx : a.eval x = .slice (some ad) m c) (hl : news.length = m * size) (hnews : ∀ j u, news[j]? = some u → w.cell? (ad.add j) = some u) (h1 : ∀ u ∈ news, u.oneCell' = true)
    (h63 : n + m ≤ maxLen) (hbytes : (n + m) * bytes ≤ 140737488355328) (hbase : base ≤ w.heap.size)
    (hK : ∀ v' w', w'.ownsRow base e size v' (n + m) (xs ++ news) → w.grownBy w' v.ownBlock → (v' = .slice none 0 0 ↔ v = .slice none 0 0 ∧ m = 0) → K (a.put o.dst v') w') :
    if Region.wanted o (yielded ops a.tmps) = true then Oper.wp P o a w K Q else E := by
  have hw : Region.wanted o (yielded ops a.tmps) = true := by simp [Region.wanted, hg]
  rw [if_pos hw]
  exact wp_append_own w s x t ho base e i z size bytes ht hi hz hsize hby hzs hsz v n xs hs hown ad m c news hx hl hnews h1 h63 hbytes hbase hK
theorem shr_word {B p t da db : Nat} (hB : B = p * t) (hp : 0 < p) (hda : da < B) : ((da + B * db) / p) % B = da / p + db % p * t := by
  subst hB
  have ht : 0 < t := by
    rcases Nat.eq_zero_or_pos t with h | h
    · subst h; omega
    · exact h
  have e1 : (da + p * t * db) / p = da / p + t * db := by
    rw [Nat.mul_assoc, Nat.add_mul_div_left _ _ hp]
  have e2 : t * db = (db % p) * t + p * t * (db / p) := by
    have h := Nat.div_add_mod db p
    have h2 : t * (p * (db / p) + db % p) = t * db := by rw [h]
    rw [Nat.mul_add, ← Nat.mul_assoc, Nat.mul_comm t p, Nat.mul_comm t (db % p)] at h2
    omega
  rw [e1, e2, ← Nat.add_assoc, Nat.add_mul_mod_self_left]
  apply Nat.mod_eq_of_lt
  have h3 : da / p < t := by rw [Nat.div_lt_iff_lt_mul hp, Nat.mul_comm]; exact hda
  have h4 : db % p * t + t ≤ p * t := by rw [← Nat.succ_mul]; exact Nat.mul_le_mul_right _ (Nat.mod_lt _ hp)
  omega
theorem pow_dvd16 {s : Nat} (h : s ≤ 16) : 65536 = 2 ^ s * 2 ^ (16 - s) := by
  rw [← Nat.pow_add, show s + (16 - s) = 16 from by omega]
theorem pow_n {n wh s : Nat} (h : n = 16 * wh + s) : 2 ^ n = 65536 ^ wh * 2 ^ s := by
  rw [h, Nat.pow_add, Nat.pow_mul]
/-- a digit of a number divided by a power of two, as the document makes it -/
theorem shr_dg {a n wh s k : Nat} (h : n = 16 * wh + s) (hs : s < 16) : dg 65536 (a / 2 ^ n) k = dg 65536 a (wh + k) / 2 ^ s + dg 65536 a (wh + k + 1) % 2 ^ s * 2 ^ (16 - s) := by
  rw [pow_n h, shr_digit (by decide) ⟨_, pow_dvd16 (by omega)⟩, Nat.add_comm k wh, shr_word (pow_dvd16 (by omega)) (Nat.pow_pos (by decide)) (dg_lt (by decide) _ _)]
/-- what the loop of Shr keeps -/
def RShrRel (a n : Nat) (w : World) (k : Nat) (v : Value) (wr : World) : Prop :=
  Own .i64 65536 3 wr w.heap.size v k (a / 2 ^ n % 65536 ^ k) ∧ Below w.heap.size w wr
set_option maxHeartbeats 2000000 in
set_option maxRecDepth 100000 in
theorem RShr_any (v : Value) (a n : Nat) (w : World) (hv : R w v a) (ha : nd 65536 a ≤ 1048576) (hn : n ≤ 9223372036854775807) :
    Calls Tryd.prog 63 #[v, .int .i64 n] w fun e w' => ∃ r, e = .returned r ∧ R w' r (a / 2 ^ n) ∧ Below w.heap.size w w' := by
  obtain ⟨i0, hi, hz0, hz1, hz2⟩ := info_parts Tryd.infoInt
  have hB : 2 ≤ 65536 := by decide
  obtain ⟨ao, ac, rfl, hcv⟩ := hv.shape
  have HV := Lib.hid hv
  have HC := Lib.hid hcv
  clear hv hcv
  have HAl := Lib.hid (nd_lt hB a)
  generalize hna : nd 65536 a = la at *
  have HNa : Hid (nd 65536 a ≤ 4611686018427387904) := by show _ ≤ _; omega
  clear hna
  obtain ⟨wh, hwh⟩ : ∃ wh, wh = n / 16 := ⟨_, rfl⟩
  obtain ⟨s, hs⟩ : ∃ s, s = n % 16 := ⟨_, rfl⟩
  have hs16 : s < 16 := by omega
  have q1 : (n : Int) / 16 = wh := by omega
  have q2 : (n : Int) % 16 = s := by omega
  have HNW : Hid (n = 16 * wh + s) := by show _ = _; omega
  have hwl : wh ≤ 576460752303423487 := by omega
  clear hwh hs
  have hpp : 0 < 2 ^ s := Nat.pow_pos (by decide)
  have hpt : 0 < 2 ^ (16 - s) := Nat.pow_pos (by decide)
  have HPT := Lib.hid (pow_dvd16 (show s ≤ 16 by omega))
  have hpl : 2 ^ s ≤ 65536 := Nat.le_trans (Nat.pow_le_pow_right (by decide) (show s ≤ 16 by omega)) (by decide)
  have htl : 2 ^ (16 - s) ≤ 65536 := Nat.le_trans (Nat.pow_le_pow_right (by decide) (show 16 - s ≤ 16 by omega)) (by decide)
  have HP := Lib.hid (fun w => power_any s w (by omega))
  have HDG := Lib.hid (fun k => shr_dg (a := a) (k := k) HNW.out hs16)
  generalize hpe : 2 ^ s = p at *
  generalize hte : 2 ^ (16 - s) = t at *
  clear hpe hte
  have ht : (65536 : Int) / p = t := by
    have : 65536 / p = t := by rw [HPT.out, Nat.mul_div_cancel_left _ hpp]
    rw [show (65536 : Int) / p = ((65536 / p : Nat) : Int) from by simp, this]
  have HTT := Lib.hid ht
  clear ht
  go_enter Tryd.func63, Tryd.ntmps63
  go_wp2_with fail
  refine (HP.out _).mono ?_
  rintro e w' ⟨rfl, rfl⟩
  go_wp2
  go_loopg [5, 7] (la - wh) (fun m out x wr => ∃ k, Hid (wh + k + m = max la wh) ∧ x = .int .i64 ((wh + k : Nat) : Int) ∧ RShrRel a n w k out wr)
  case atStart => exact ⟨0, by show _ = _; omega, rfl, by simpa [RShrRel, Nat.mod_one] using ⟨Own.nil _ _ _ _ _, Below.refl _ _⟩⟩
  case round =>
    obtain ⟨k, HK, rfl, hown, hbel⟩ := hrel
    by_cases hlt : wh + k < la
    · have h1 : ((wh + k : Nat) : Int) < la := by omega
      obtain ⟨gb, go, rfl, hca⟩ := HC.out (wh + k) hlt
      have hgb0 : gb < w.heap.size := World.block_lt_of_cell? _ _ hca
      have hkb : k ≤ 1048576 := by omega
      have hca' : wr.cell? ⟨gb, go + (wh + k), none⟩ = some (.int .i64 (dg 65536 a (wh + k) : Nat)) := by
        rw [hbel.cell (p := ⟨gb, go + (wh + k), none⟩) (World.block_lt_of_cell? _ _ hca)]; exact hca
      have HA := Lib.hid (fun q => Rat_any _ a (wh + k + 1) (wr.drewN q) (HV.out.below (below_drewN hbel q)) HNa.out)
      have hd := HDG.out k
      have hda := dg_lt (B := 65536) (by decide) a (wh + k)
      have hdb := dg_lt (B := 65536) (by decide) a (wh + k + 1)
      have hdx := dg_lt (B := 65536) (by decide) (a / 2 ^ n) k
      have HPS : Hid (pad 65536 (k + 1) (a / 2 ^ n % 65536 ^ (k + 1)) = pad 65536 k (a / 2 ^ n % 65536 ^ k) ++ [dg 65536 (a / 2 ^ n) k]) := by
        show _ = _
        rw [mod_succ]
        exact pad_succ (by decide) (Nat.mod_lt _ (Nat.pow_pos (by decide))) hdx
      have HB := Lib.hid hbel
      have hltw := hown.lt
      have HLT := Lib.hid hltw
      have hsz := hbel.size
      unfold Own at hown
      clear hca hbel hltw
      generalize dg 65536 (a / 2 ^ n) k = dx at *
      have HDX := Lib.hid hd
      clear hd
      obtain ⟨j, hj⟩ : ∃ j, j = wh + k := ⟨_, rfl⟩
      rw [← hj] at h1 hca' HA hda hdb HDX hlt ⊢
      have HJ := Lib.hid hj
      clear hj
      generalize dg 65536 a j = da at *
      generalize dg 65536 a (j + 1) = db at *
      have hp0 : ¬ (p : Int) = 0 := by omega
      have hp1 : ¬ p = 0 := by omega
      have hdp : da / p ≤ da := Nat.div_le_self _ _
      have hmp : db % p < p := Nat.mod_lt _ hpp
      have hmul : db % p * t ≤ 65535 * 65536 := Nat.mul_le_mul (by omega) htl
      have HX : Hid (IntKind.i64.wrap (IntKind.i64.wrap ((da : Int) / p) + IntKind.i64.wrap (((db : Int).tmod p) * (IntKind.i64.wrap (Int.tdiv 65536 (p : Int))))) = (dx : Int)) := by
        show _ = _
        have hdx' := HDX.out
        rw [Int.tdiv_eq_ediv_of_nonneg (by omega), HTT.out, IntWalk.i64_in (t : Int) (by omega), Int.tmod_eq_emod_of_nonneg (by omega), show (da : Int) / p = ((da / p : Nat) : Int) from by simp, show (db : Int) % p = ((db % p : Nat) : Int) from by simp,
          show ((db % p : Nat) : Int) * (t : Int) = ((db % p * t : Nat) : Int) from by simp]
        generalize da / p = y1 at *
        generalize db % p * t = y2 at *
        rw [IntWalk.i64_in (y1 : Int) (by omega), IntWalk.i64_in (y2 : Int) (by omega), IntWalk.i64_in _ (by omega)]
        omega
      clear hdp hmp hmul
      have HONE : Hid (∀ x : Int, ∀ u ∈ [Value.int .i64 x], u.oneCell' = true) := by intro x u hu; simp at hu; subst hu; rfl
      have HML : Hid (k + 1 ≤ maxLen) := by show _ ≤ _; unfold maxLen; omega
      have HBY : Hid ((k + 1) * 8 ≤ 140737488355328) := by show _ ≤ _; omega
      have HBS : Hid (∀ o, w.heap.size ≤ (wr.drew.alloc o).heap.size) := fun o => Nat.le_trans hsz (by rw [World.size_alloc]; exact Nat.le_succ _)
      have hwj : IntKind.i64.wrap ((j : Int) + 1) = (j : Int) + 1 := IntWalk.i64_in _ (by omega)
      have hlw : (j : Int) < la := by omega
      have hlw2 : (0 : Int) ≤ (j : Int) := by omega
      have hca2 : wr.drew.cell? ⟨gb, go + (j), none⟩ = some (.int .i64 (da : Nat)) := hca'
      have HA2 : Hid (Calls Tryd.prog 47 #[.slice (some ⟨gb, go, none⟩) la ac, .int .i64 ((j : Int) + 1)] wr.drew fun e w' => e = .returned (.int .i64 (db : Nat)) ∧ wr.drew = w') := HA.out 1
      clear HA
      have hgb : gb < wr.heap.size := World.block_lt_of_cell? _ _ hca'
      have HAL : Hid (∀ o, (wr.drew.alloc o).cell? ⟨gb, go + (j), none⟩ = some (.int .i64 (da : Nat))) := fun o => (((Below.refl wr.drew.heap.size wr.drew).alloc (Nat.le_refl _) o).cell (p := ⟨gb, go + (j), none⟩) hgb).trans hca'
      go_wp2
      go_region_held3 (fun W : World => W.cell? ⟨gb, go + (j), none⟩ = some (.int .i64 (da : Nat))) (first | assumption | exact HAL.out _) (first
        | (go_at_call 47; go_must (go_fit HA2.out); rintro e w' ⟨rfl, rfl⟩)
        | (refine step_append_own rfl (.tmp 19) (.tmp 36) 30 rfl w.heap.size 3 i0 (.int .i64 0) 1 8 Tryd.underlying30 hi hz0 hz1 hz2 rfl (by decide) _ _ _ (by rfl) (hown.drew.alloc _) ⟨wr.heap.size, 0, none⟩ 1 1 [_] rfl rfl (cell_one_new _ _ _) (HONE.out _) HML.out HBY.out (HBS.out _) ?_; intro v' w4 hown4 hgrow hnil; have hca4 : w4.cell? ⟨gb, go + j, none⟩ = some (.int .i64 (da : Nat)) := hgrow.cell (HAL.out _) (fun e => Nat.not_lt_of_le (HLT.out _ e.symm).1 hgb0)) | fail)
      have HFIN : Hid (RShrRel a n w (k + 1) v' w4) := by
        refine ⟨?_, ?_⟩
        · unfold Own
          rw [HPS.out, List.map_append]
          rw [HX.out] at hown4
          exact hown4
        · refine Below.grown (HB.out.drew.alloc hsz _) hgrow (by rw [World.size_alloc]; exact Nat.le_succ_of_le hsz) ?_
          intro j hj
          exact (HLT.out _ hj).1
      clear hown4 hgrow hnil hown hca4 HX
      go_wp2
      go_roundg (la - wh - (k + 1))
      case measure => have h1 := HK.out; have h2 := HJ.out; have h3 : max la wh = la := Nat.max_eq_left (by omega); rw [h3] at h1; omega
      case rel => exact ⟨k + 1, by have h1 := HK.out; have h2 := HJ.out; have h3 : max la wh = la := Nat.max_eq_left (by omega); rw [h3] at h1; show _ = max la wh; rw [h3]; omega, by rw [HJ.out]; go_num, HFIN.out⟩
    · have hnl : ¬ ((wh + k : Nat) : Int) < la := by omega
      have hxl : a / 2 ^ n < 65536 ^ k := by
        rw [pow_n HNW.out, ← Nat.div_div_eq_div_mul]
        refine Nat.lt_of_le_of_lt (Nat.div_le_self _ _) ?_
        rw [Nat.div_lt_iff_lt_mul (Nat.pow_pos (by decide)), ← Nat.pow_add]
        exact Nat.lt_of_lt_of_le HAl.out (Nat.pow_le_pow_right (by decide) (by omega))
      rw [Nat.mod_eq_of_lt hxl] at hown
      have hkk : k ≤ 4611686018427387904 := by
        have h1 := HK.out
        rcases Nat.le_total la wh with h | h
        · rw [Nat.max_eq_right h] at h1; omega
        · rw [Nat.max_eq_left h] at h1; omega
      have HT := Lib.hid (Trim_own _ _ _ _ _ hown hxl hkk)
      have HB := Lib.hid hbel
      clear hown hbel hxl hlt
      go_wp2_with fail
      refine HT.out.mono ?_
      rintro e w5 ⟨r, rfl, hr, rfl⟩
      obtain ⟨ro, rc, rfl, -⟩ := hr.shape
      have HR := Lib.hid hr
      clear hr
      go_wp2
      go_ret
      exact ⟨_, rfl, HR.out, HB.out⟩
theorem pad_wh {wh k X d : Nat} (hX : X < 65536 ^ k) (hd : d < 65536) : pad 65536 (wh + k + 1) (65536 ^ wh * (X + 65536 ^ k * d)) = pad 65536 (wh + k) (65536 ^ wh * X) ++ [d] := by
  rw [Nat.mul_add, ← Nat.mul_assoc, ← Nat.pow_add]
  refine pad_succ (by decide) ?_ hd
  rw [Nat.pow_add]
  exact Nat.mul_lt_mul_of_pos_left hX (Nat.pow_pos (by decide))
/-- what the loop of Shl keeps -/
def RShlRel (a s wh : Nat) (w : World) (k X c : Nat) (v : Value) (wr : World) : Prop :=
  c < 2 ^ s ∧ X < 65536 ^ k ∧ X + 65536 ^ k * c = (a % 65536 ^ k) * 2 ^ s ∧ Own .i64 65536 3 wr w.heap.size v (wh + k) (65536 ^ wh * X) ∧ Below w.heap.size w wr
theorem own_zeros {w : World} (wh : Nat) (hwh : wh ≤ 1048576) : Own .i64 65536 3 (w.alloc (.cells (madeCells #[.int .i64 0] wh) 3)) w.heap.size (.slice (some ⟨w.heap.size, 0, none⟩) wh wh) wh 0 := by
  unfold Own
  refine ⟨by simp [pad], .inr ⟨w.heap.size, wh, _, rfl, Nat.le_refl _, heap_alloc_new w _, Nat.le_refl _, by unfold maxLen; omega, by rw [size_madeCells, Nat.mul_one], ?_⟩⟩
  rw [pad_zero, Nat.mul_one]
  simp only [madeCells, Array.toList_map, Array.toList_range, List.size_toArray]
  rw [List.take_of_length_le (by simp)]
  apply List.ext_getElem (by simp)
  intro i h1 h2
  simp [Nat.mod_one]
set_option maxHeartbeats 2000000 in
set_option maxRecDepth 100000 in
theorem RShl_any (v : Value) (a n : Nat) (w : World) (hv : R w v a) (ha : nd 65536 a ≤ 500000) (hn : n ≤ 8000000) :
    Calls Tryd.prog 65 #[v, .int .i64 n] w fun e w' => ∃ r, e = .returned r ∧ R w' r (a * 2 ^ n) ∧ Below w.heap.size w w' := by
  obtain ⟨i0, hi, hz0, hz1, hz2⟩ := info_parts Tryd.infoInt
  have hB : 2 ≤ 65536 := by decide
  obtain ⟨ao, ac, rfl, hcv⟩ := hv.shape
  have HC := Lib.hid hcv
  clear hv hcv
  have HAl := Lib.hid (nd_lt hB a)
  generalize hna : nd 65536 a = la at *
  clear hna
  obtain ⟨wh, hwh⟩ : ∃ wh, wh = n / 16 := ⟨_, rfl⟩
  obtain ⟨s, hs⟩ : ∃ s, s = n % 16 := ⟨_, rfl⟩
  have hs16 : s < 16 := by omega
  have q1 : (n : Int) / 16 = wh := by omega
  have q2 : (n : Int) % 16 = s := by omega
  have HNW : Hid (n = 16 * wh + s) := by show _ = _; omega
  have hwl : wh ≤ 500000 := by omega
  clear hwh hs
  have hpp : 0 < 2 ^ s := Nat.pow_pos (by decide)
  have hpl : 2 ^ s ≤ 65536 := Nat.le_trans (Nat.pow_le_pow_right (by decide) (show s ≤ 16 by omega)) (by decide)
  have HP := Lib.hid (fun w => power_any s w (by omega))
  obtain ⟨p, hpe⟩ : ∃ p, p = 2 ^ s := ⟨_, rfl⟩
  have HPE := Lib.hid hpe
  rw [← hpe] at HP hpp hpl
  clear hpe
  have hmk := made_int wh (by omega)
  go_enter Tryd.func65, Tryd.ntmps65
  go_wp2_with fail
  refine (HP.out _).mono ?_
  rintro e w' ⟨rfl, rfl⟩
  have HPD : Hid (∀ c d : Nat, c < p → d < 65536 → c + d * p < 8589934592) := by
    intro c d h1 h2
    have h3 : d * p ≤ 65535 * 65536 := Nat.mul_le_mul (by omega) hpl
    omega
  go_wp2
  go_loopg [5, 6, 8] la (fun m out c x wr => ∃ k X cc : Nat, Hid (k + m = la) ∧ x = .int .i64 k ∧ c = .int .i64 cc ∧ RShlRel a s wh w k X cc out wr)
  case atStart => exact ⟨0, 0, 0, by show _ = _; omega, rfl, rfl, by rw [← HPE.out]; exact hpp, by simp, by simp [Nat.mod_one], by simpa using own_zeros wh (by omega), (Below.refl _ _).alloc (Nat.le_refl _) _⟩
  case round =>
    obtain ⟨k, X, c, HK, rfl, rfl, hc1, hX, hsum, hown, hbel⟩ := hrel
    have hkl : k ≤ la := by have := HK.out; omega
    rw [← HPE.out] at hc1 hsum
    by_cases hlt : k < la
    · have hlt' : (k : Int) < la := by omega
      obtain ⟨gb, go, rfl, hca⟩ := HC.out k hlt
      have hca' : wr.cell? ⟨gb, go + k, none⟩ = some (.int .i64 (dg 65536 a k : Nat)) := by
        rw [hbel.cell (p := ⟨gb, go + k, none⟩) (World.block_lt_of_cell? _ _ hca)]; exact hca
      have hda := dg_lt (B := 65536) (by decide) a k
      have hq := HPD.out c _ hc1 hda
      obtain ⟨q, hqe⟩ : ∃ q, q = c + dg 65536 a k * p := ⟨_, rfl⟩
      have hX2 : X + 65536 ^ k * (q % 65536) < 65536 ^ (k + 1) := snoc_lt hX (Nat.mod_lt _ (by decide))
      have hsum2 : (X + 65536 ^ k * (q % 65536)) + 65536 ^ (k + 1) * (q / 65536) = a % 65536 ^ (k + 1) * p := by rw [hqe]; exact shl_round hsum
      have hc2 : q / 65536 < p := by rw [hqe]; exact shl_carry hc1 hda
      have HPS := Lib.hid (pad_wh (wh := wh) hX (show q % 65536 < 65536 from Nat.mod_lt _ (by decide)))
      have HE : Hid (wrap64 ((c : Int) + wrap64 ((dg 65536 a k : Nat) * (p : Int))) = (q : Int)) := by
        show _ = _
        have hq2 := hqe
        have hq3 := hq
        rw [show ((dg 65536 a k : Nat) : Int) * (p : Int) = ((dg 65536 a k * p : Nat) : Int) from by simp]
        generalize dg 65536 a k * p = y at hq2 hq3 ⊢
        rw [IntWalk.wrap64_in (y : Int) (by omega), IntWalk.wrap64_in _ (by omega)]
        omega
      rw [← hqe] at hq
      have HS2 := Lib.hid (And.intro hc2 (And.intro hX2 hsum2))
      have HB := Lib.hid hbel
      have hltw := hown.lt
      have HLT := Lib.hid hltw
      have hsz := hbel.size
      unfold Own at hown
      have HONE : Hid (∀ x : Int, ∀ u ∈ [Value.int .i64 x], u.oneCell' = true) := by intro x u hu; simp at hu; subst hu; rfl
      clear hca hbel hltw hX hsum hqe hc2 hX2 hsum2
      generalize dg 65536 a k = da at *
      go_wp2_with (at_builtin; go_must (refine wpList_append_own _ rfl _ _ 30 rfl w.heap.size 3 i0 (.int .i64 0) 1 8 Tryd.underlying30 hi hz0 hz1 hz2 rfl (by decide) _ _ _ rfl (hown.alloc _) ⟨wr.heap.size, 0, none⟩ 1 1 [_] rfl rfl (cell_one_new _ _ _) (HONE.out _) ?c3 ?c4 ?c5 ?_))
      case c3 => unfold maxLen; omega
      case c4 => omega
      case c5 => simp; omega
      intro v' w4 hown4 hgrow hnil
      have hq0 : (q : Int).tmod 65536 = ((q % 65536 : Nat) : Int) := by rw [Int.tmod_eq_emod_of_nonneg (by omega)]; omega
      have hq4 : (q : Int).tdiv 65536 = ((q / 65536 : Nat) : Int) := by rw [Int.tdiv_eq_ediv_of_nonneg (by omega)]; omega
      have HFIN : Hid (RShlRel a s wh w (k + 1) (X + 65536 ^ k * (q % 65536)) (q / 65536) v' w4) := by
        rw [HE.out, hq0] at hown4
        refine ⟨by rw [← HPE.out]; exact HS2.out.1, HS2.out.2.1, by rw [← HPE.out]; exact HS2.out.2.2, ?_, ?_⟩
        · unfold Own
          rw [← Nat.add_assoc, HPS.out, List.map_append]
          exact hown4
        · refine Below.grown (HB.out.alloc (by omega) _) hgrow (by simp; omega) ?_
          intro j hj
          exact (HLT.out _ hj).1
      have HQ4 := Lib.hid hq4
      clear hown4 hgrow hnil hown hq0 hq4
      go_wp2
      rw [HE.out, HQ4.out]
      go_roundg (la - (k + 1))
      case measure => have := HK.out; omega
      case rel => exact ⟨k + 1, _, q / 65536, by have := HK.out; show _ = _; omega, by go_num, by first | rfl | (rw [IntWalk.wrap64_in _ (by omega)]) | go_num, HFIN.out⟩
    · obtain rfl : k = la := by omega
      have hnl : ¬ ((k : Int) < k) := by omega
      rw [Nat.mod_eq_of_lt HAl.out] at hsum
      have hval : 65536 ^ wh * (X + 65536 ^ k * c) = a * 2 ^ n := by
        rw [hsum, HPE.out, pow_n HNW.out, Nat.mul_left_comm]
      have hxl : a * 2 ^ n < 65536 ^ (wh + k + 1) := by
        rw [← hval, Nat.add_assoc, Nat.pow_add 65536 wh]
        exact Nat.mul_lt_mul_of_pos_left (snoc_lt hX (by omega)) (Nat.pow_pos (by decide))
      have HPS := Lib.hid (pad_wh (wh := wh) (d := c) hX (by omega))
      rw [hval] at HPS
      have HT := Lib.hid (fun v' w4 (h : Own .i64 65536 3 w4 w.heap.size v' (wh + k + 1) (a * 2 ^ n)) => Trim_own _ _ _ _ _ h hxl (by omega))
      have HB := Lib.hid hbel
      have hltw := hown.lt
      have HLT := Lib.hid hltw
      have hsz := hbel.size
      have HONE : Hid (∀ x : Int, ∀ u ∈ [Value.int .i64 x], u.oneCell' = true) := by intro x u hu; simp at hu; subst hu; rfl
      unfold Own at hown
      clear hbel hltw hX hsum hval hxl hlt
      go_wp2_with (at_builtin; go_must (refine wpList_append_own _ rfl _ _ 30 rfl w.heap.size 3 i0 (.int .i64 0) 1 8 Tryd.underlying30 hi hz0 hz1 hz2 rfl (by decide) _ _ _ rfl (hown.alloc _) ⟨wr.heap.size, 0, none⟩ 1 1 [_] rfl rfl (cell_one_new _ _ _) (HONE.out _) ?d3 ?d4 ?d5 ?_))
      case d3 => unfold maxLen; omega
      case d4 => omega
      case d5 => first | omega | (simp; omega)
      intro v' w4 hown4 hgrow hnil
      have HT2 : Hid (Below w.heap.size w w4) := by
        refine Below.grown (HB.out.alloc (by omega) _) hgrow (by simp; omega) ?_
        intro j hj
        exact (HLT.out _ hj).1
      have HO4 : Hid (Own .i64 65536 3 w4 w.heap.size v' (wh + k + 1) (a * 2 ^ n)) := by
        show Own _ _ _ _ _ _ _ _
        unfold Own
        rw [HPS.out, List.map_append]
        exact hown4
      clear hown4 hgrow hnil hown
      go_wp2_with fail
      refine (HT.out _ _ HO4.out).mono ?_
      rintro e w5 ⟨r, rfl, hr, rfl⟩
      obtain ⟨ro, rc, rfl, -⟩ := hr.shape
      have HR := Lib.hid hr
      clear hr
      go_wp2
      go_ret
      exact ⟨_, rfl, HR.out, HT2.out⟩
end Go.Proofs.YtgidmlffjelpnaaDoor
