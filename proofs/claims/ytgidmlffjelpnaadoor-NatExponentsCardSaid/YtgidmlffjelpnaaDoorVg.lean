/- The contract of PowMod. -/
import Derived.Test.YtgidmlffjelpnaaDoorVf
namespace Go.Proofs.YtgidmlffjelpnaaDoor
open Go Go.RowKit Gu

theorem pm_sq {a j m x : Nat} (h : x % m = a ^ j % m) : x * x % m % m = a ^ (2 * j) % m := by
  rw [Nat.mod_mod, Nat.mul_mod, h, ← Nat.mul_mod, ← Nat.pow_add]; congr 2; omega
theorem pm_su {a j m x : Nat} (h : x % m = a ^ j % m) : x * (a % m) % m % m = a ^ (j + 1) % m := by
  rw [Nat.mod_mod, Nat.mul_mod, h, Nat.mod_mod, ← Nat.mul_mod, Nat.pow_succ]
set_option maxHeartbeats 2000000 in
theorem PM1_any (x y t : Value) (X Y m p : Nat) (W : World) (hx : D W x X) (hy : D W y Y) (hc : W.cell? ⟨p, 0, none⟩ = some t) (ht : D W t m) (hm0 : 0 < m) (h1 : nd 4294967296 X ≤ 1000) (h2 : nd 4294967296 Y ≤ 1000) (h3 : nd 4294967296 m ≤ 1000) :
    Calls Tryd.prog 57 #[x, y, .pointer (some ⟨p, 0, none⟩)] W fun e w' => ∃ r, e = .returned r ∧ D w' r (X * Y % m) ∧ Below W.heap.size W w' := by
  have hlt := World.block_lt_of_cell? _ _ hc
  have hnd := nd_mul h1 h2
  obtain ⟨N, hN⟩ : ∃ N, N = 2000 := ⟨_, rfl⟩
  have HDV := Lib.hid (divide_long N (by omega))
  have hmN : m < 4294967296 ^ N := (nd_le (by decide)).1 (by omega)
  have hpN : X * Y < 4294967296 ^ N := (nd_le (by decide)).1 (by omega)
  have hst0 : St1 W t m W := ⟨ht, Below.refl _ _⟩
  have HPR : Hid (∀ W', St1 W t m W' → Calls Tryd.prog 55 #[x, y] W' fun e w' => ∃ o l c, e = .returned (.slice o l c) ∧ D w' (.slice o l c) (X * Y) ∧ St1 W t m w') := fun W' h =>
    (product_any x y X Y W' (hx.below h.bel) (hy.below h.bel) (by omega) (by omega)).mono fun e w' ⟨r, he, hr, hB⟩ => by
      obtain ⟨ro, rc, rfl, -⟩ := hr.shape
      exact ⟨ro, _, rc, he, hr, h.next hB⟩
  have HRE : Hid (∀ W' v, St1 W t m W' → D W' v (X * Y) → Calls Tryd.prog 58 #[v, t] W' fun e w' => ∃ r, e = .returned r ∧ D w' r (X * Y % m) ∧ St1 W t m w') := fun W' v h hv =>
    (remainder_any HDV.out v t (X * Y) m W' hv h.num hm0 hpN hmN).mono fun e w' ⟨r, he, hr, hB⟩ => ⟨r, he, hr, h.next hB⟩
  have HCA : Hid (∀ W', St1 W t m W' → W'.cell? ⟨p, 0, none⟩ = some t) := fun W' h => h.cell hlt hc
  obtain ⟨xo, xc, rfl, -⟩ := hx.shape
  obtain ⟨yo, yc, rfl, -⟩ := hy.shape
  have hs2 := hst0.next ((Below.refl _ W).drew)
  have hca := HCA.out _ hs2
  clear hx hy ht hnd h1 h2 h3 hpN hmN hN hm0
  generalize X * Y = XY at *
  go_enter Tryd.func57, Tryd.ntmps57
  go_wp2_with fail
  go_region_held3 (fun W' : World => W'.cell? ⟨p, 0, none⟩ = some t ∧ St1 W t m W') (first | (refine And.intro ?_ ?_ <;> assumption)) (first
    | (go_at_call 55; with_reducible refine (HPR.out _ ?h).mono ?_; (case h => assumption); rintro e w' ⟨o1, l1, k1, rfl, hr', hs'⟩; have hc' := HCA.out _ hs')
    | (go_at_call 58; with_reducible refine (HRE.out _ _ ?h ?r).mono ?_; (case h => assumption); (case r => first | assumption | exact dchain (by assumption) (by assumption)); rintro e w' ⟨o2, rfl, hr', hs'⟩; have hc' := HCA.out _ hs'))
  all_goals
    have hD : D w' o2 (XY % m) := by assumption
    have hT : St1 W t m w' := by assumption
    have HDD := Lib.hid hD; have HTT := Lib.hid hT
    clear hD hT
    go_wp2
    go_ret
    exact ⟨_, rfl, HDD.out, HTT.out.bel⟩
theorem pm1_enters : ∀ args w, (callFunc 57 args).run Tryd.prog w = .ok (.enter 57 args) w := enters_of Tryd.func57 (by kernel_rfl) rfl
theorem power_mod (bv ev t : Value) (a e m p : Nat) (w : World) (hb : D w bv (a % m)) (he : D w ev e) (hc : w.cell? ⟨p, 0, none⟩ = some t) (ht : D w t m) (hm0 : 0 < m) (hn : nd 4294967296 e ≤ 1000) (hm : nd 4294967296 m ≤ 1000) :
    Calls Tryd.prog 53 #[bv, ev, .func (.func 57) #[] #[.pointer (some ⟨p, 0, none⟩)]] w fun x w' => ∃ r y, x = .returned r ∧ D w' r y ∧ y ≤ m ∧ y % m = a ^ e % m ∧ Below w.heap.size w w' := by
  have hlt := World.block_lt_of_cell? _ _ hc
  have hle : ∀ y, y ≤ m → nd 4294967296 y ≤ 1000 := fun y h => Nat.le_trans (nd_mono (by decide) h) hm
  refine (npower_any 57 #[.pointer (some ⟨p, 0, none⟩)] (fun j y => y ≤ m ∧ y % m = a ^ j % m) bv ev (a % m) e w hb he (by omega) ⟨hm0, by rw [Nat.pow_zero]⟩ pm1_enters ?_ ?_).mono ?_
  · rintro W v x j hB hv ⟨h1, h2⟩ -
    exact (PM1_any v v t x x m p W hv hv ((hB.cell (p := ⟨p, 0, none⟩) hlt).trans hc) (ht.below hB) hm0 (hle x h1) (hle x h1) hm).mono fun e' w' ⟨r, he', hr, hB'⟩ =>
      ⟨r, _, he', hr, ⟨Nat.le_of_lt (Nat.mod_lt _ hm0), pm_sq h2⟩, hB'⟩
  · rintro W v u x j hB hv hu ⟨h1, h2⟩ -
    exact (PM1_any v u t x (a % m) m p W hv hu ((hB.cell (p := ⟨p, 0, none⟩) hlt).trans hc) (ht.below hB) hm0 (hle x h1) (hle _ (Nat.le_of_lt (Nat.mod_lt _ hm0))) hm).mono fun e' w' ⟨r, he', hr, hB'⟩ =>
      ⟨r, _, he', hr, ⟨Nat.le_of_lt (Nat.mod_lt _ hm0), pm_su h2⟩, hB'⟩
  · rintro x w' ⟨r, y, hx, hr, ⟨h1, h2⟩, hB⟩
    exact ⟨r, y, hx, hr, h1, h2, hB⟩
set_option maxHeartbeats 1000000 in
theorem PowMod_zero (v u t : Value) (a e : Nat) (w : World) (hv : D w v a) (hu : D w u e) (ht : D w t 0) :
    Calls Tryd.prog 22 #[.agg #[v], .agg #[u], .agg #[t]] w fun x w' => x = .returned (.tuple #[.agg #[.slice none 0 0], .int .i64 11]) ∧ Below w.heap.size w w' := by
  have b4 : ∀ o1 o2 o3 o4, Below w.heap.size w ((((w.alloc o1).alloc o2).alloc o3).alloc o4) := fun o1 o2 o3 o4 => ((((Below.refl _ _).alloc (Nat.le_refl _) _).alloc (by simp) _).alloc (by simp; omega) _).alloc (by simp; omega) _
  have HZ := Lib.hid (fun o1 o2 o3 o4 => isZero_any t 0 ((((w.alloc o1).alloc o2).alloc o3).alloc o4) (ht.below (b4 o1 o2 o3 o4)))
  rw [show decide ((0 : Nat) = 0) = true from rfl] at HZ
  have HB := Lib.hid b4
  obtain ⟨ao, ac, rfl, -⟩ := hv.shape
  obtain ⟨eo, ec, rfl, -⟩ := hu.shape
  obtain ⟨mo, mc, rfl, -⟩ := ht.shape
  clear hv hu ht b4
  go_enter Tryd.func22, Tryd.ntmps22
  go_wp2_with fail
  refine (HZ.out _ _ _ _).mono ?_
  rintro x w1 ⟨rfl, rfl⟩
  go_wp2
  refine bodyPost_ret (v := .tuple #[.agg #[.slice none 0 0], .int .i64 11]) (by simp [results, Tryd.results22, go_sem]) rfl ⟨rfl, HB.out _ _ _ _⟩
/-- what PowMod keeps: three numbers, their boxes, the box of the result -/
structure St3 (B : Nat) (W0 : World) (v u t : Value) (a e m : Nat) (W : World) : Prop where
  n1 : D W v a
  n2 : D W u e
  n3 : D W t m
  bel : Below W0.heap.size W0 W
theorem St3.next {B : Nat} {W0 W W' : World} {v u t : Value} {a e m : Nat} (h : St3 B W0 v u t a e m W) (hb : Below W.heap.size W W') : St3 B W0 v u t a e m W' :=
  ⟨h.n1.below hb, h.n2.below hb, h.n3.below hb, h.bel.trans (hb.mono h.bel.size)⟩
theorem St3.cell {B k : Nat} {W0 W : World} {v u t x : Value} {a e m : Nat} (h : St3 B W0 v u t a e m W) (hk : k < W0.heap.size) (hc : W0.cell? ⟨k, 0, none⟩ = some x) : W.cell? ⟨k, 0, none⟩ = some x :=
  (h.bel.cell (p := ⟨k, 0, none⟩) hk).trans hc
theorem St3.frozen {B k : Nat} {W0 W : World} {v u t : Value} {a e m : Nat} (h : St3 B W0 v u t a e m W) (hk : k < W0.heap.size) (hc : W0.frozen? ⟨k, 0, none⟩ = false) : W.frozen? ⟨k, 0, none⟩ = false :=
  (h.bel.frozen (p := ⟨k, 0, none⟩) hk).trans hc
set_option maxHeartbeats 4000000 in
set_option maxRecDepth 100000 in
theorem PowMod_pos (v u t : Value) (a e m : Nat) (w : World) (hv : D w v a) (hu : D w u e) (ht : D w t m) (hm0 : 0 < m) (ha : nd 4294967296 a ≤ 1000) (he : nd 4294967296 e ≤ 1000) (hm : nd 4294967296 m ≤ 1000) :
    Calls Tryd.prog 22 #[.agg #[v], .agg #[u], .agg #[t]] w fun x w' => ∃ r, x = .returned (.tuple #[.agg #[r], .int .i64 0]) ∧ D w' r (a ^ e % m) ∧ Below w.heap.size w w' := by
  have b4 : ∀ o1 o2 o3 o4, Below w.heap.size w ((((w.alloc o1).alloc o2).alloc o3).alloc o4) := fun o1 o2 o3 o4 => ((((Below.refl _ _).alloc (Nat.le_refl _) _).alloc (by simp) _).alloc (by simp; omega) _).alloc (by simp; omega) _
  obtain ⟨W0, hW0⟩ : ∃ W0 : World, W0 = (((w.alloc (.cells #[v] 26)).alloc (.cells #[u] 26)).alloc (.cells #[t] 26)).alloc (.cells #[.slice none 0 0] 26) := ⟨_, rfl⟩
  have hz0 : W0.heap.size = w.heap.size + 4 := by rw [hW0]; simp
  have hbw : Below w.heap.size w W0 := by rw [hW0]; exact b4 _ _ _ _
  have hst0 : St3 0 W0 v u t a e m W0 := ⟨hv.below hbw, hu.below hbw, ht.below hbw, Below.refl _ _⟩
  have ca : W0.cell? ⟨w.heap.size, 0, none⟩ = some v := by
    rw [hW0]; exact (World.cell?_alloc_past _ _ _ (by simp <;> omega)).trans ((World.cell?_alloc_past _ _ _ (by simp <;> omega)).trans ((World.cell?_alloc_past _ _ _ (by simp)).trans (World.cell?_alloc_at _ _ _ _ rfl)))
  have ce : W0.cell? ⟨w.heap.size + 1, 0, none⟩ = some u := by
    rw [hW0]; exact (World.cell?_alloc_past _ _ _ (by simp <;> omega)).trans ((World.cell?_alloc_past _ _ _ (by simp)).trans (World.cell?_alloc_at _ _ _ _ (by simp)))
  have cm : W0.cell? ⟨w.heap.size + 1 + 1, 0, none⟩ = some t := by
    rw [hW0]; exact (World.cell?_alloc_past _ _ _ (by simp)).trans (World.cell?_alloc_at _ _ _ _ (by simp))
  have cr : W0.cell? ⟨w.heap.size + 1 + 1 + 1, 0, none⟩ = some (.slice none 0 0) := by rw [hW0]; exact World.cell?_alloc_at _ _ _ _ (by simp)
  have fr : W0.frozen? ⟨w.heap.size + 1 + 1 + 1, 0, none⟩ = false := by rw [hW0]; exact World.frozen?_alloc_at _ _ _ _ (by simp)
  have HCA : Hid (∀ W, St3 0 W0 v u t a e m W → W.cell? ⟨w.heap.size, 0, none⟩ = some v ∧ W.cell? ⟨w.heap.size + 1, 0, none⟩ = some u ∧ W.cell? ⟨w.heap.size + 1 + 1, 0, none⟩ = some t) := fun W h => ⟨h.cell (by omega) ca, h.cell (by omega) ce, h.cell (by omega) cm⟩
  have HCR : Hid (∀ W, St3 0 W0 v u t a e m W → W.cell? ⟨w.heap.size + 1 + 1 + 1, 0, none⟩ = some (.slice none 0 0) ∧ W.frozen? ⟨w.heap.size + 1 + 1 + 1, 0, none⟩ = false) := fun W h => ⟨h.cell (by omega) cr, h.frozen (by omega) fr⟩
  have HZ := Lib.hid (isZero_any t m W0 hst0.n3)
  rw [show decide (m = 0) = false from decide_eq_false (by omega)] at HZ
  obtain ⟨N, hN⟩ : ∃ N, N = 1000 := ⟨_, rfl⟩
  have HDV := Lib.hid (divide_long N (by omega))
  have hmN : m < 4294967296 ^ N := (nd_le (by decide)).1 (by omega)
  have haN : a < 4294967296 ^ N := (nd_le (by decide)).1 (by omega)
  have HRE : Hid (∀ W, St3 0 W0 v u t a e m W → Calls Tryd.prog 58 #[v, t] W fun x w' => ∃ o l c, x = .returned (.slice o l c) ∧ D w' (.slice o l c) (a % m) ∧ St3 0 W0 v u t a e m w') := fun W h =>
    (remainder_any HDV.out v t a m W h.n1 h.n3 hm0 haN hmN).mono fun x w' ⟨r, he, hr, hB⟩ => by
      obtain ⟨ro, rc, rfl, -⟩ := hr.shape
      exact ⟨ro, _, rc, he, hr, h.next hB⟩
  have HPW : Hid (∀ W b, St3 0 W0 v u t a e m W → D W b (a % m) → Calls Tryd.prog 53 #[b, u, .func (.func 57) #[] #[.pointer (some ⟨w.heap.size + 1 + 1, 0, none⟩)]] W fun x w' => ∃ o l c y, x = .returned (.slice o l c) ∧ (D w' (.slice o l c) y ∧ Hid (y ≤ m ∧ y % m = a ^ e % m)) ∧ St3 0 W0 v u t a e m w') := fun W b h hb =>
    (power_mod b u t a e m (w.heap.size + 1 + 1) W hb h.n2 (HCA.out W h).2.2 h.n3 hm0 he hm).mono fun x w' ⟨r, y, hx, hr, h1, h2, hB⟩ => by
      obtain ⟨ro, rc, rfl, -⟩ := hr.shape
      exact ⟨ro, _, rc, y, hx, ⟨hr, h1, h2⟩, h.next hB⟩
  have HRF : Hid (∀ W b y, St3 0 W0 v u t a e m W → D W b y → Hid (y ≤ m ∧ y % m = a ^ e % m) → Calls Tryd.prog 58 #[b, t] W fun x w' => ∃ o l c, x = .returned (.slice o l c) ∧ D w' (.slice o l c) (a ^ e % m) ∧ St3 0 W0 v u t a e m w') := fun W b y h hb hy =>
    (remainder_any HDV.out b t y m W hb h.n3 hm0 (Nat.lt_of_le_of_lt hy.out.1 hmN) hmN).mono fun x w' ⟨r, he, hr, hB⟩ => by
      obtain ⟨ro, rc, rfl, -⟩ := hr.shape
      rw [hy.out.2] at hr
      exact ⟨ro, _, rc, he, by rw [hy.out.2]; exact hr, h.next hB⟩
  have HBW := Lib.hid hbw
  obtain ⟨ao, ac, rfl, -⟩ := hv.shape
  obtain ⟨eo, ec, rfl, -⟩ := hu.shape
  obtain ⟨mo, mc, rfl, -⟩ := ht.shape
  have HW0 := Lib.hid hW0
  have HST0 := Lib.hid hst0
  clear hv hu ht b4 hz0 ca ce cm cr fr hmN haN hbw hst0 hN hW0 hm0 ha he hm
  generalize a ^ e % m = R at *
  go_enter Tryd.func22, Tryd.ntmps22
  go_wp2_with fail
  rw [← HW0.out]
  refine HZ.out.mono ?_
  rintro x w1 ⟨rfl, rfl⟩
  have hs0 := HST0.out
  have hs2 := hs0.next ((Below.refl _ W0).drew)
  have hc0 := HCA.out _ hs0
  have hc2 := HCA.out _ hs2
  go_wp2_with fail
  go_region_held3 (fun W : World => (W.cell? ⟨w.heap.size, 0, none⟩ = some (.slice ao (nd 4294967296 a) ac) ∧ W.cell? ⟨w.heap.size + 1, 0, none⟩ = some (.slice eo (nd 4294967296 e) ec) ∧ W.cell? ⟨w.heap.size + 1 + 1, 0, none⟩ = some (.slice mo (nd 4294967296 m) mc)) ∧ St3 0 W0 (.slice ao (nd 4294967296 a) ac) (.slice eo (nd 4294967296 e) ec) (.slice mo (nd 4294967296 m) mc) a e m W) (first | (refine And.intro ?_ ?_ <;> assumption)) (first
    | (go_at_call 58; with_reducible refine (HRE.out _ ?h).mono ?_; (case h => assumption); rintro x w' ⟨o1, l1, k1, rfl, hr', hs'⟩; have hc' := HCA.out _ hs')
    | (go_at_call 53; with_reducible refine (HPW.out _ _ ?h ?r).mono ?_; (case h => assumption); (case r => first | assumption | exact dchain (by assumption) (by assumption)); rintro x w' ⟨o2, l2, k2, y, rfl, hr', hs'⟩; have hc' := HCA.out _ hs'))
  all_goals
    have hD : D w' (.slice o2 l2 k2) y ∧ Hid (y ≤ m ∧ y % m = R) := by assumption
    have hT : St3 0 W0 (.slice ao (nd 4294967296 a) ac) (.slice eo (nd 4294967296 e) ec) (.slice mo (nd 4294967296 m) mc) a e m w' := by assumption
    have HR2 := Lib.hid (HRF.out _ _ _ hT hD.1 hD.2)
    have hc2 := HCA.out _ hT
    clear hD hT
    go_wp2_with fail
    refine HR2.out.mono ?_
    rintro x w5 ⟨o3, l3, k3, rfl, hr3, hs3⟩
    have hcr := HCR.out _ hs3
    obtain ⟨hcell, hfro⟩ := hcr
    have HD3 := Lib.hid (hr3.setCell hcell (by intro d h; cases h) (.slice o3 l3 k3))
    have HBE := Lib.hid ((HBW.out.trans (hs3.bel.mono HBW.out.size)).setCell (p := ⟨w.heap.size + 1 + 1 + 1, 0, none⟩) (by show w.heap.size ≤ w.heap.size + 1 + 1 + 1; omega) (.slice o3 l3 k3))
    have HCE := Lib.hid hcell
    clear hr3 hs3 hc2
    go_wp2
    have hcell := HCE.out
    refine bodyPost_ret (v := .tuple #[.agg #[.slice o3 l3 k3], .int .i64 0]) (by simp [results, Tryd.results22, go_sem, hcell]) rfl ⟨_, rfl, HD3.out, HBE.out⟩
end Go.Proofs.YtgidmlffjelpnaaDoor
