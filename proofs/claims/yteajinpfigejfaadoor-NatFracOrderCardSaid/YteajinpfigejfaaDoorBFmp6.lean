/- Contracts and lemmas (several texts merged into one). -/
import Derived.Test.YteajinpfigejfaaDoorBFmp5
import Derived.Test.YteajinpfigejfaaDoorBFmp4
namespace Go.Proofs.YteajinpfigejfaaDoor
open Go Go.RowKit Gu

def divE (b : Nat) : Int := if b = 0 then 11 else 0
def modN (a b : Nat) : Nat := if b = 0 then 0 else a % b
set_option maxHeartbeats 1000000 in
theorem NDivMod_any (v u : Value) (a b : Nat) (w : World) (hv : D w v a) (hu : D w u b) (ha : nd 4294967296 a ≤ 400000) (hb : nd 4294967296 b ≤ 400000) :
    Calls Tryd.prog 16 #[.agg #[v], .agg #[u]] w fun e w' => ∃ q r, e = .returned (.tuple #[.agg #[q], .agg #[r], .int .i64 (divE b)]) ∧ D w' q (a / b) ∧ D w' r (modN a b) ∧ Below w.heap.size w w' := by
  by_cases h0 : b = 0
  · subst h0
    have HZ := Lib.hid (fun W (h : D W u 0) => isZero_any u 0 W h)
    rw [show decide ((0 : Nat) = 0) = true from rfl] at HZ
    have b2 : ∀ o1 o2 o3 o4, Below w.heap.size w ((((w.alloc o1).alloc o2).alloc o3).alloc o4) := fun o1 o2 o3 o4 => ((((Below.refl _ _).alloc (Nat.le_refl _) _).alloc (by simp) _).alloc (by simp; omega) _).alloc (by simp; omega) _
    have HU := Lib.hid (fun o1 o2 o3 o4 => hu.below (b2 o1 o2 o3 o4))
    have HB2 := Lib.hid b2
    obtain ⟨ao, ac, rfl, -⟩ := hv.shape
    obtain ⟨bo, bc, rfl, -⟩ := hu.shape
    clear hv hu b2
    go_enter Tryd.func16, Tryd.ntmps16
    go_wp2_with fail
    refine (HZ.out _ (HU.out _ _ _ _)).mono ?_
    rintro e w1 ⟨rfl, rfl⟩
    go_wp2
    refine bodyPost_ret (v := .tuple #[.agg #[.slice none 0 0], .agg #[.slice none 0 0], .int .i64 11]) (by simp [results, Tryd.results16, go_sem]) rfl ⟨.slice none 0 0, .slice none 0 0, rfl, by rw [Nat.div_zero]; exact IsN.zero _ _ _ _ _, by rw [show modN a 0 = 0 from if_pos rfl]; exact IsN.zero _ _ _ _ _, HB2.out _ _ _ _⟩
  · have HZ := Lib.hid (fun W (h : D W u b) => isZero_any u b W h)
    rw [show decide (b = 0) = false from by simp [h0]] at HZ
    have HE : Hid (divE b = 0 ∧ modN a b = a % b) := ⟨if_neg h0, if_neg h0⟩
    have HD := Lib.hid (fun W (h1 : D W v a) (h2 : D W u b) => divide_long (max (nd 4294967296 a) (nd 4294967296 b)) (by omega) v u a b W h1 h2 (by omega) ((nd_le (by decide)).1 (Nat.le_max_left _ _)) ((nd_le (by decide)).1 (Nat.le_max_right _ _)))
    have b2 : ∀ o1 o2 o3 o4, Below w.heap.size w ((((w.alloc o1).alloc o2).alloc o3).alloc o4) := fun o1 o2 o3 o4 => ((((Below.refl _ _).alloc (Nat.le_refl _) _).alloc (by simp) _).alloc (by simp; omega) _).alloc (by simp; omega) _
    have HV := Lib.hid (fun o1 o2 o3 o4 => hv.below (b2 o1 o2 o3 o4))
    have HU := Lib.hid (fun o1 o2 o3 o4 => hu.below (b2 o1 o2 o3 o4))
    have HB2 := Lib.hid b2
    obtain ⟨ao, ac, rfl, -⟩ := hv.shape
    obtain ⟨bo, bc, rfl, -⟩ := hu.shape
    clear hv hu b2
    go_enter Tryd.func16, Tryd.ntmps16
    go_wp2_with fail
    refine (HZ.out _ (HU.out _ _ _ _)).mono ?_
    rintro e w1 ⟨rfl, rfl⟩
    go_wp2_with fail
    refine (HD.out _ (HV.out _ _ _ _) (HU.out _ _ _ _)).mono ?_
    rintro e w2 ⟨qv, rv, rfl, hq, hr, hbel⟩
    obtain ⟨qo, qc, rfl, -⟩ := hq.shape
    obtain ⟨ro, rc, rfl, -⟩ := hr.shape
    have hcell : ∀ k, (k = w.heap.size + 1 + 1 ∨ k = w.heap.size + 1 + 1 + 1) → w2.cell? ⟨k, 0, none⟩ = some (.slice none 0 0) ∧ w2.frozen? ⟨k, 0, none⟩ = false := by
      intro k hk
      have hl : k < ((((w.alloc (.cells #[.slice ao (nd 4294967296 a) ac] 39)).alloc (.cells #[.slice bo (nd 4294967296 b) bc] 39)).alloc (.cells #[.slice none 0 0] 39)).alloc (.cells #[.slice none 0 0] 39)).heap.size := by simp; omega
      refine ⟨(hbel.cell (p := ⟨k, 0, none⟩) hl).trans ?_, (hbel.frozen (p := ⟨k, 0, none⟩) hl).trans ?_⟩
      · rcases hk with rfl | rfl
        · exact (World.cell?_alloc_past _ _ _ (by simp)).trans (World.cell?_alloc_at _ _ _ _ (by simp))
        · exact World.cell?_alloc_at _ _ _ _ (by simp)
      · rcases hk with rfl | rfl
        · refine (((Below.refl _ _).alloc (Nat.le_refl _) _).frozen (p := ⟨w.heap.size + 1 + 1, 0, none⟩) (by simp)).trans (World.frozen?_alloc_at _ _ _ _ (by simp))
        · exact World.frozen?_alloc_at _ _ _ _ (by simp)
    obtain ⟨c1, f1⟩ := hcell _ (.inl rfl)
    obtain ⟨c2, f2⟩ := hcell _ (.inr rfl)
    have hne : (⟨w.heap.size + 1 + 1, 0, none⟩ : Addr) ≠ ⟨w.heap.size + 1 + 1 + 1, 0, none⟩ := by intro e; injection e with e1; omega
    have q0 : ∀ u u', ((w2.setCell ⟨w.heap.size + 1 + 1, 0, none⟩ u).setCell ⟨w.heap.size + 1 + 1 + 1, 0, none⟩ u').cell? ⟨w.heap.size + 1 + 1, 0, none⟩ = some u := fun u u' => (World.cell?_setCell_other _ _ _ _ (fun e => hne e.symm)).trans (World.cell?_setCell_same _ _ _ c1)
    have d2 : ∀ u, (w2.setCell ⟨w.heap.size + 1 + 1, 0, none⟩ u).cell? ⟨w.heap.size + 1 + 1 + 1, 0, none⟩ = some (.slice none 0 0) := fun u => (World.cell?_setCell_other _ _ _ _ hne).trans c2
    have q1 : ∀ u u', ((w2.setCell ⟨w.heap.size + 1 + 1, 0, none⟩ u).setCell ⟨w.heap.size + 1 + 1 + 1, 0, none⟩ u').cell? ⟨w.heap.size + 1 + 1 + 1, 0, none⟩ = some u' := fun u u' => World.cell?_setCell_same _ _ _ (d2 u)
    have Q0 := Lib.hid q0; have Q1 := Lib.hid q1
    have HQ : Hid (∀ u u', D ((w2.setCell ⟨w.heap.size + 1 + 1, 0, none⟩ u).setCell ⟨w.heap.size + 1 + 1 + 1, 0, none⟩ u') (.slice qo (nd 4294967296 (a / b)) qc) (a / b)) := fun u u' => (hq.setCell c1 (by intro d h; cases h) u).setCell (d2 u) (by intro d h; cases h) u'
    have HR : Hid (∀ u u', D ((w2.setCell ⟨w.heap.size + 1 + 1, 0, none⟩ u).setCell ⟨w.heap.size + 1 + 1 + 1, 0, none⟩ u') (.slice ro (nd 4294967296 (a % b)) rc) (a % b)) := fun u u' => (hr.setCell c1 (by intro d h; cases h) u).setCell (d2 u) (by intro d h; cases h) u'
    have HB := Lib.hid (fun u u' => ((((HB2.out _ _ _ _).trans (hbel.mono (HB2.out _ _ _ _).size)).setCell (p := ⟨w.heap.size + 1 + 1, 0, none⟩) (by show w.heap.size ≤ w.heap.size + 1 + 1; omega) u).setCell (p := ⟨w.heap.size + 1 + 1 + 1, 0, none⟩) (by show w.heap.size ≤ w.heap.size + 1 + 1 + 1; omega) u'))
    clear hq hr hbel hcell q0 q1
    go_wp2
    have q0 := Q0.out; have q1 := Q1.out
    refine bodyPost_ret (v := .tuple #[.agg #[.slice qo (nd 4294967296 (a / b)) qc], .agg #[.slice ro (nd 4294967296 (a % b)) rc], .int .i64 0]) (by simp [results, Tryd.results16, go_sem, q0, q1]) rfl ⟨_, _, by rw [HE.out.1], HQ.out _ _, by rw [HE.out.2]; exact HR.out _ _, HB.out _ _⟩
set_option maxHeartbeats 1000000 in
theorem NGcd_any (v u : Value) (a b : Nat) (w : World) (hv : D w v a) (hu : D w u b) (ha : nd 4294967296 a ≤ 400000) (hb : nd 4294967296 b ≤ 400000) :
    Calls Tryd.prog 20 #[.agg #[v], .agg #[u]] w fun e w' => ∃ r, e = .returned (.agg #[r]) ∧ D w' r (Nat.gcd a b) ∧ Below w.heap.size w w' := by
  have hg : nd 4294967296 (Nat.gcd a b) ≤ 400000 := by
    rcases Nat.eq_zero_or_pos a with h | h
    · subst h; rw [Nat.gcd_zero_left]; exact hb
    · exact Nat.le_trans (nd_mono (by decide) (Nat.gcd_le_left _ h)) ha
  have b3 : ∀ o1 o2 o3, Below w.heap.size w (((w.alloc o1).alloc o2).alloc o3) := fun o1 o2 o3 => (((Below.refl _ _).alloc (Nat.le_refl _) _).alloc (by simp) _).alloc (by simp; omega) _
  have HG := Lib.hid (fun o1 o2 o3 => gcd_any (divide_long (max (nd 4294967296 a) (nd 4294967296 b)) (by omega)) v u a b (((w.alloc o1).alloc o2).alloc o3) (hv.below (b3 o1 o2 o3)) (hu.below (b3 o1 o2 o3)) ((nd_le (by decide)).1 (Nat.le_max_left _ _)) ((nd_le (by decide)).1 (Nat.le_max_right _ _)))
  have HC := Lib.hid (fun v W (h : D W v (Nat.gcd a b)) => clone_any v _ W h (by omega))
  have HB3 := Lib.hid b3
  obtain ⟨ao, ac, rfl, -⟩ := hv.shape
  obtain ⟨bo, bc, rfl, -⟩ := hu.shape
  clear hv hu b3
  generalize Nat.gcd a b = g at *
  go_enter Tryd.func20, Tryd.ntmps20
  go_wp2_with fail
  refine (HG.out _ _ _).mono ?_
  rintro e w1 ⟨gv, rfl, hgv, hbel⟩
  obtain ⟨go, gc, rfl, -⟩ := hgv.shape
  obtain ⟨hc, hf⟩ := bcell hbel
  have HG1 := Lib.hid hgv
  have HB1 := Lib.hid hbel
  have hz := hbel.size
  simp only [World.size_alloc] at hz
  clear hbel hgv
  go_wp2_with fail
  refine (HC.out _ _ HG1.out).mono ?_
  rintro e w2 ⟨r, rfl, hr, hbel2⟩
  obtain ⟨ro, rc, rfl, -⟩ := hr.shape
  obtain ⟨hc2, hf2⟩ := bcell hbel2
  have hcell : w2.cell? ⟨w.heap.size + 1 + 1, 0, none⟩ = some (.slice none 0 0) := by
    rw [hc2 _ _ (by omega), hc _ _ (by simp)]
    exact World.cell?_alloc_at _ _ _ _ (by simp)
  have hfr : w2.frozen? ⟨w.heap.size + 1 + 1, 0, none⟩ = false := by
    rw [hf2 _ _ (by omega), hf _ _ (by simp)]
    exact World.frozen?_alloc_at _ _ _ _ (by simp)
  have HR := Lib.hid hr
  have HCE := Lib.hid hcell
  have HBE := Lib.hid (((HB3.out _ _ _).trans (HB1.out.mono (by simp; omega))).trans (hbel2.mono (by omega)))
  clear hr hbel2 hc hf hc2 hf2
  go_wp2
  refine bodyPost_ret (v := .agg #[.slice ro (nd 4294967296 g) rc]) (by simp [results, Tryd.results20, go_sem, hcell]) rfl ⟨_, rfl, HR.out.setCell HCE.out (by intro d h; cases h) _, HBE.out.setCell (by show w.heap.size ≤ w.heap.size + 1 + 1; omega) _⟩
end Go.Proofs.YteajinpfigejfaaDoor
namespace Go.Proofs.YteajinpfigejfaaDoor
open Go Go.RowKit Gu

theorem am_gm {r t m : Nat} (h : r + t ≤ 2 * m) : r * t ≤ m * m := by
  rcases Nat.le_total r m with h1 | h1
  · obtain ⟨d, rfl⟩ := Nat.exists_eq_add_of_le h1
    have e1 : r * t ≤ r * (r + 2 * d) := Nat.mul_le_mul_left _ (by omega)
    have e2 : r * (r + 2 * d) = r * r + 2 * (r * d) := by rw [Nat.mul_add, Nat.mul_left_comm]
    have e3 : (r + d) * (r + d) = r * r + r * d + (r * d + d * d) := by rw [Nat.add_mul, Nat.mul_add, Nat.mul_add, Nat.mul_comm d r]
    omega
  · obtain ⟨d, rfl⟩ := Nat.exists_eq_add_of_le h1
    obtain ⟨x, rfl⟩ : ∃ x, m = t + x := ⟨m - t, by omega⟩
    have e1 : (t + x + d) * t = t * t + t * x + t * d := by rw [Nat.add_mul, Nat.add_mul, Nat.mul_comm x t, Nat.mul_comm d t]
    have e2 : (t + x) * (t + x) = t * t + t * x + (t * x + x * x) := by rw [Nat.add_mul, Nat.mul_add, Nat.mul_add, Nat.mul_comm x t]
    have e3 : t * d ≤ t * x := Nat.mul_le_mul_left _ (by omega)
    omega
theorem newton {a r : Nat} (hr : 0 < r) (ha : 0 < a) : 0 < (r + a / r) / 2 ∧ a < ((r + a / r) / 2 + 1) * ((r + a / r) / 2 + 1) ∧ (r ≤ (r + a / r) / 2 → r * r ≤ a) := by
  have h1 : a < r * (a / r + 1) := Nat.lt_mul_div_succ a hr
  have h2 : r * (a / r) ≤ a := Nat.mul_div_le a r
  have h3 : r = 1 → a / r = a := fun h => by rw [h, Nat.div_one]
  generalize a / r = q at *
  refine ⟨?_, ?_, fun h => ?_⟩
  · rcases Nat.lt_or_ge 1 r with h | h
    · omega
    · have := h3 (by omega); omega
  · exact Nat.lt_of_lt_of_le h1 (am_gm (by omega))
  · exact Nat.le_trans (Nat.mul_le_mul_left _ (by omega)) h2
theorem sqrt_start {a : Nat} (_ha : 0 < a) : a < (1 * 2 ^ ((nd 2 a + 1) / 2) + 1) * (1 * 2 ^ ((nd 2 a + 1) / 2) + 1) := by
  have h := nd_lt (B := 2) (by decide) a
  rw [Nat.one_mul]
  have h1 : 2 ^ nd 2 a ≤ 2 ^ ((nd 2 a + 1) / 2) * 2 ^ ((nd 2 a + 1) / 2) := by rw [← Nat.pow_add]; exact Nat.pow_le_pow_right (by decide) (by omega)
  have h2 : 2 ^ ((nd 2 a + 1) / 2) * 2 ^ ((nd 2 a + 1) / 2) ≤ (2 ^ ((nd 2 a + 1) / 2) + 1) * (2 ^ ((nd 2 a + 1) / 2) + 1) := Nat.mul_le_mul (by omega) (by omega)
  omega
theorem sqrt_room {a : Nat} (ha : 0 < a) : 1 * 2 ^ ((nd 2 a + 1) / 2) < 4294967296 ^ (nd 4294967296 a + 1) := by
  have h1 := nd_pow_le (B := 2) (by decide) ha
  have h0 := nd_pos (B := 2) (by decide) ha
  have h2 := nd_lt (B := 4294967296) (by decide) a
  have h3 : 2 ^ ((nd 2 a + 1) / 2) ≤ 2 ^ (nd 2 a - 1 + 1) := Nat.pow_le_pow_right (by decide) (by omega)
  rw [Nat.pow_succ] at h3
  rw [Nat.pow_succ, Nat.one_mul]
  omega
/-- what a region keeps whose calls make memory: a number, and all that lay there when it began -/
structure St1 (W0 : World) (v : Value) (a : Nat) (W : World) : Prop where
  num : D W v a
  bel : Below W0.heap.size W0 W
theorem St1.next {W0 W W' : World} {v : Value} {a : Nat} (h : St1 W0 v a W) (hb : Below W.heap.size W W') : St1 W0 v a W' :=
  ⟨h.num.below hb, h.bel.trans (hb.mono h.bel.size)⟩
theorem St1.cell {W0 W : World} {v : Value} {a k : Nat} {x : Value} (h : St1 W0 v a W) (hk : k < W0.heap.size) (hc : W0.cell? ⟨k, 0, none⟩ = some x) : W.cell? ⟨k, 0, none⟩ = some x :=
  (h.bel.cell (p := ⟨k, 0, none⟩) hk).trans hc
theorem St1.frozen {W0 W : World} {v : Value} {a k : Nat} (h : St1 W0 v a W) (hk : k < W0.heap.size) (hc : W0.frozen? ⟨k, 0, none⟩ = false) : W.frozen? ⟨k, 0, none⟩ = false :=
  (h.bel.frozen (p := ⟨k, 0, none⟩) hk).trans hc
set_option maxHeartbeats 2000000 in
set_option maxRecDepth 100000 in
theorem Sqrt_any (v : Value) (a : Nat) (w : World) (hv : D w v a) (ha : nd 4294967296 a ≤ 200000) :
    Calls Tryd.prog 19 #[.agg #[v]] w fun e w' => ∃ r s, e = .returned (.agg #[r]) ∧ D w' r s ∧ s * s ≤ a ∧ a < (s + 1) * (s + 1) ∧ Below w.heap.size w w' := by
  have b2 : ∀ o1 o2, Below w.heap.size w ((w.alloc o1).alloc o2) := fun o1 o2 => ((Below.refl _ _).alloc (Nat.le_refl _) _).alloc (by simp) _
  have HB2 := Lib.hid b2
  have HV := Lib.hid (fun o1 o2 => hv.below (b2 o1 o2))
  have HZ := Lib.hid (fun o1 o2 => isZero_any v a ((w.alloc o1).alloc o2) (hv.below (b2 o1 o2)))
  by_cases h0 : a = 0
  · subst h0
    rw [show decide ((0 : Nat) = 0) = true from rfl] at HZ
    obtain ⟨ao, ac, rfl, -⟩ := hv.shape
    clear hv b2
    go_enter Tryd.func19, Tryd.ntmps19
    go_wp2_with fail
    refine (HZ.out _ _).mono ?_
    rintro e w1 ⟨rfl, rfl⟩
    go_wp2
    refine bodyPost_ret (v := .agg #[.slice none 0 0]) (by simp [results, Tryd.results19, go_sem]) rfl ⟨.slice none 0 0, 0, rfl, IsN.zero _ _ _ _ _, by decide, by decide, HB2.out _ _⟩
  · rw [show decide (a = 0) = false from by simp [h0]] at HZ
    have ha0 : 0 < a := Nat.pos_of_ne_zero h0
    obtain ⟨M, hM⟩ : ∃ M, M = 4294967296 ^ (nd 4294967296 a + 1) := ⟨_, rfl⟩
    have HDV := Lib.hid (divide_long (nd 4294967296 a + 1) (by omega))
    rw [← hM] at HDV
    have HST := Lib.hid (sqrt_start ha0)
    have hroom := sqrt_room ha0
    rw [← hM] at hroom
    have HRM := Lib.hid hroom
    have HR0 : Hid (0 < 1 * 2 ^ ((nd 2 a + 1) / 2)) := by
      show 0 < _
      rw [Nat.one_mul]; exact Nat.pow_pos (by decide)
    have haM : a < M := by rw [hM, Nat.pow_succ]; have := nd_lt (B := 4294967296) (by decide) a; omega
    have HNM : Hid (∀ x, x < M → nd 4294967296 x ≤ 200001) := fun x hx => by
      rw [hM] at hx
      have := (nd_le (B := 4294967296) (by decide)).2 hx
      omega
    have HAM := Lib.hid haM
    have HBL := Lib.hid (fun W (h : D W v a) => bitLen_any v a W h (by omega))
    have hb2 := nd_two_le ha
    have HSL := Lib.hid (fun dv W (h : D W dv 1) => shiftLeft_any dv 1 ((nd 2 a + 1) / 2) W h (by rw [nd_small (by decide : 1 < 4294967296) |> Nat.le_antisymm <| nd_pos (by decide) (by decide)]; decide) (by omega))
    obtain ⟨ao, ac, rfl, -⟩ := hv.shape
    clear hv b2 h0 hM hroom haM
    go_enter Tryd.func19, Tryd.ntmps19
    go_wp2_with fail
    refine (HZ.out _ _).mono ?_
    rintro e w1 ⟨rfl, rfl⟩
    obtain ⟨W0, hW0⟩ : ∃ W0 : World, W0 = (w.alloc (.cells #[.slice ao (nd 4294967296 a) ac] 39)).alloc (.cells #[.slice none 0 0] 39) := ⟨_, rfl⟩
    have hz0 : W0.heap.size = w.heap.size + 2 := by rw [hW0]; simp
    have c0 : W0.cell? ⟨w.heap.size, 0, none⟩ = some (.slice ao (nd 4294967296 a) ac) := by rw [hW0]; exact (World.cell?_alloc_past _ _ _ (by simp)).trans (World.cell?_alloc_at _ _ _ _ rfl)
    have c1 : W0.cell? ⟨w.heap.size + 1, 0, none⟩ = some (.slice none 0 0) := by rw [hW0]; exact World.cell?_alloc_at _ _ _ _ (by simp)
    have f1 : W0.frozen? ⟨w.heap.size + 1, 0, none⟩ = false := by rw [hW0]; exact World.frozen?_alloc_at _ _ _ _ (by simp)
    have hst0 : St1 W0 (.slice ao (nd 4294967296 a) ac) a W0 := by rw [hW0]; exact ⟨HV.out _ _, Below.refl _ _⟩
    have hbw : Below w.heap.size w W0 := by rw [hW0]; exact HB2.out _ _
    have HCA : Hid (∀ W, St1 W0 (.slice ao (nd 4294967296 a) ac) a W → W.cell? ⟨w.heap.size, 0, none⟩ = some (.slice ao (nd 4294967296 a) ac)) := fun W h => h.cell (by omega) c0
    have HC1 : Hid (∀ W, St1 W0 (.slice ao (nd 4294967296 a) ac) a W → W.cell? ⟨w.heap.size + 1, 0, none⟩ = some (.slice none 0 0)) := fun W h => h.cell (by omega) c1
    have HF1 : Hid (∀ W, St1 W0 (.slice ao (nd 4294967296 a) ac) a W → W.frozen? ⟨w.heap.size + 1, 0, none⟩ = false) := fun W h => h.frozen (by omega) f1
    have HBW := Lib.hid hbw
    have HSZ : Hid (W0.heap.size = w.heap.size + 2) := hz0
    have HD1 : Hid (∀ W, St1 W0 (.slice ao (nd 4294967296 a) ac) a W → Calls Tryd.prog 58 #[.int .u64 1] W fun e w' => ∃ o l c, e = .returned (.slice o l c) ∧ D w' (.slice o l c) 1 ∧ St1 W0 (.slice ao (nd 4294967296 a) ac) a w') := fun W h =>
      (digitsOf_any 1 W (by decide)).mono fun e w' ⟨r, he, hr, hB⟩ => by
        obtain ⟨ro, rc, rfl, -⟩ := hr.shape
        exact ⟨ro, _, rc, he, hr, h.next hB⟩
    have HB1 : Hid (∀ W, St1 W0 (.slice ao (nd 4294967296 a) ac) a W → Calls Tryd.prog 55 #[.slice ao (nd 4294967296 a) ac] W fun e w' => e = .returned (.int .i64 (nd 2 a)) ∧ St1 W0 (.slice ao (nd 4294967296 a) ac) a w') := fun W h =>
      (HBL.out W h.num).mono fun e w' ⟨he, hw⟩ => ⟨he, hw ▸ h⟩
    rw [← hW0]
    have hs2 := hst0.next ((Below.refl _ W0).drew)
    have hca := HCA.out _ hs2
    have hcz := HCA.out _ hst0
    clear hW0 hz0 c0 c1 f1 hbw
    generalize nd 2 a = bl at *
    have HSL2 : Hid (∀ dv W, St1 W0 (.slice ao (nd 4294967296 a) ac) a W → D W dv 1 → Calls Tryd.prog 56 #[dv, .int .i64 (IntKind.i64.wrap ((IntKind.i64.wrap ((bl : Int) + 1)).tdiv 2))] W fun e w' => ∃ o l c, e = .returned (.slice o l c) ∧ D w' (.slice o l c) (1 * 2 ^ ((bl + 1) / 2)) ∧ St1 W0 (.slice ao (nd 4294967296 a) ac) a w') := fun dv W h hd => by
      have h1 := HSL.out dv W hd
      rw [show (((bl + 1) / 2 : Nat) : Int) = IntKind.i64.wrap ((IntKind.i64.wrap ((bl : Int) + 1)).tdiv 2) from by rw [IntWalk.i64_in ((bl : Int) + 1) (by omega), Int.tdiv_eq_ediv_of_nonneg (by omega), IntWalk.i64_in _ (by omega)]; omega] at h1
      exact h1.mono fun e w' ⟨r, he, hr, hB⟩ => by
        obtain ⟨ro, rc, rfl, -⟩ := hr.shape
        exact ⟨ro, _, rc, he, hr, h.next hB⟩
    clear HSL
    generalize 1 * 2 ^ ((bl + 1) / 2) = r0 at *
    go_wp2_with fail
    go_region_held3 (fun W : World => W.cell? ⟨w.heap.size, 0, none⟩ = some (.slice ao (nd 4294967296 a) ac) ∧ St1 W0 (.slice ao (nd 4294967296 a) ac) a W) (first | (refine And.intro ?_ ?_ <;> assumption)) (first
      | (go_at_call 58; with_reducible refine (HD1.out _ ?h).mono ?_; (case h => assumption); rintro e w' ⟨o1, l1, k1, rfl, hr', hs'⟩; have hc' := HCA.out _ hs')
      | (go_at_call 55; with_reducible refine (HBL.out _ ?h).mono ?_; (case h => exact St1.num (by assumption)); rintro e w' ⟨rfl, rfl⟩)
      | (go_at_call 56; with_reducible refine (HSL2.out _ _ ?h ?r).mono ?_; (case h => assumption); (case r => first | assumption | exact dchain (by assumption) (by assumption)); rintro e w' ⟨o2, l2, k2, rfl, hr', hs'⟩; have hc' := HCA.out _ hs'))
    all_goals
      have hroot : D w' (.slice o2 l2 k2) r0 := by assumption
      have hst : St1 W0 (.slice ao (nd 4294967296 a) ac) a w' := by assumption
      have HRT := Lib.hid hroot; have HSS := Lib.hid hst
      clear hroot hst
      go_wp2
      go_loopg [3] r0 (fun n x wr => 0 < n ∧ n < M ∧ Hid (a < (n + 1) * (n + 1)) ∧ D wr x n ∧ St1 W0 (.slice ao (nd 4294967296 a) ac) a wr)
      case atStart => exact ⟨HR0.out, HRM.out, HST.out, HRT.out, HSS.out⟩
      case round =>
        obtain ⟨hn, hnM, HA, hx, hst⟩ := hrel
        obtain ⟨xo, xc, rfl, -⟩ := hx.shape
        have HX := Lib.hid hx
        have hca := HCA.out _ hst
        have HS := Lib.hid hst
        have HQ := Lib.hid (quotient_any HDV.out _ _ a gk wr hst.num hx hn HAM.out hnM)
        have HNW := Lib.hid (newton hn ha0)
        have hng := HNM.out _ hnM
        have hnq : nd 4294967296 (a / gk) ≤ 200000 := Nat.le_trans (nd_mono (by decide) (Nat.div_le_self _ _)) ha
        have HNN := Lib.hid (HNM.out)
        clear hx hst
        generalize a / gk = q at *
        have hsum := nd_add hng (Nat.le_trans hnq (by decide))
        go_wp2_with fail
        refine HQ.out.mono ?_
        rintro e w2 ⟨qv, rfl, hq, hb⟩
        have HS2 := Lib.hid (HS.out.next hb)
        have HX2 := Lib.hid (HX.out.below hb)
        have HSUM := Lib.hid (sum_any _ qv gk q w2 HX2.out hq (by omega) (by omega))
        clear hq hb hca
        go_wp2_with fail
        refine HSUM.out.mono ?_
        rintro e w3 ⟨sv, rfl, hs3, hb⟩
        have HS3 := Lib.hid (HS2.out.next hb)
        have HX3 := Lib.hid (HX2.out.below hb)
        have HSH := Lib.hid (shiftRight_any sv (gk + q) 1 w3 hs3 (by omega) (by decide))
        rw [Nat.pow_one] at HSH
        clear hs3 hb
        go_wp2_with fail
        refine HSH.out.mono ?_
        rintro e w4 ⟨nv, rfl, hn4, hb⟩
        have HS4 := Lib.hid (HS3.out.next hb)
        have HX4 := Lib.hid (HX3.out.below hb)
        have HN4 := Lib.hid hn4
        have hnh : nd 4294967296 ((gk + q) / 2) ≤ 1048576 := Nat.le_trans (nd_mono (by decide) (Nat.div_le_self _ _)) (by omega)
        have HCM := Lib.hid (compare_any nv _ ((gk + q) / 2) gk w4 hn4 HX4.out hnh (by omega))
        clear hn4 hb hnh hsum
        generalize (gk + q) / 2 = nx at *
        by_cases hle : gk ≤ nx
        · have hcm : (0 : Int) ≤ cmpN ((nx : Nat) : Int) ((gk : Nat) : Int) := by
            rcases Nat.lt_or_eq_of_le hle with h | h
            · rw [cmpN_gt (by omega)]; decide
            · rw [cmpN_eq (by omega)]; decide
          have HSQ : Hid (gk * gk ≤ a) := HNW.out.2.2 hle
          clear hle
          generalize cmpN ((nx : Nat) : Int) ((gk : Nat) : Int) = cc at *
          go_wp2_with fail
          refine HCM.out.mono ?_
          rintro e w5 ⟨rfl, k, rfl⟩
          have hs5 := HS4.out.next (below_drewN (Below.refl _ w4) k)
          have hcell := HC1.out _ hs5
          have hfr := HF1.out _ hs5
          have HX5 := Lib.hid (HX4.out.below (below_drewN (Below.refl _ w4) k))
          have HCE := Lib.hid hcell
          have HBE := Lib.hid (HBW.out.trans (hs5.bel.mono HBW.out.size))
          clear hs5
          go_wp2
          refine bodyPost_ret (v := .agg #[.slice xo (nd 4294967296 gk) xc]) (by simp [results, Tryd.results19, go_sem, hcell]) rfl ⟨_, gk, rfl, HX5.out.setCell HCE.out (by intro d h; cases h) _, HSQ.out, HA.out, HBE.out.setCell (by show w.heap.size ≤ w.heap.size + 1; omega) _⟩
        · have hcm : cmpN ((nx : Nat) : Int) ((gk : Nat) : Int) < (0 : Int) := by rw [cmpN_lt (by omega)]; decide
          have HLT : Hid (nx < gk) := by show _ < _; omega
          clear hle
          generalize cmpN ((nx : Nat) : Int) ((gk : Nat) : Int) = cc at *
          go_wp2_with fail
          refine HCM.out.mono ?_
          rintro e w5 ⟨rfl, k, rfl⟩
          have HS5 := Lib.hid (HS4.out.next (below_drewN (Below.refl _ w4) k))
          have HN5 := Lib.hid (HN4.out.below (below_drewN (Below.refl _ w4) k))
          go_wp2
          go_roundg nx
          case measure => exact HLT.out
          case rel => exact ⟨HNW.out.1, by have := HLT.out; omega, HNW.out.2.1, HN5.out, HS5.out⟩
end Go.Proofs.YteajinpfigejfaaDoor
namespace Go.Proofs.YteajinpfigejfaaDoor
open Go Go.RowKit Gu

/-- the denominator that b stands for -/
def dn (b : Nat) : Nat := if b = 0 then 1 else b
theorem dn_pos (b : Nat) : 0 < dn b := by unfold dn; split <;> omega
theorem dn_of {b : Nat} (h : 0 < b) : dn b = b := if_neg (by omega)
theorem dn_nd {b m : Nat} (h : nd 4294967296 b ≤ m) (hm : 1 ≤ m) : nd 4294967296 (dn b) ≤ m := by
  unfold dn
  split
  · exact Nat.le_trans (nd_small (by decide)) hm
  · exact h
set_option maxHeartbeats 1000000 in
theorem terms_zero (v u : Value) (a : Nat) (w : World) (hv : D w v a) (hu : D w u 0) :
    Calls Tryd.prog 62 #[.agg #[v, u]] w fun e w' => ∃ r, e = .returned (.tuple #[v, r]) ∧ D w' r 1 ∧ Below w.heap.size w w' := by
  have b1 : ∀ o, Below w.heap.size w (w.alloc o) := fun o => (Below.refl _ _).alloc (Nat.le_refl _) _
  obtain ⟨W0, hW0⟩ : ∃ W0 : World, W0 = w.alloc (.cells #[v, u] 26) := ⟨_, rfl⟩
  have hz0 : W0.heap.size = w.heap.size + 1 := by rw [hW0]; simp
  have hbw : Below w.heap.size w W0 := by rw [hW0]; exact b1 _
  have hst0 : St1 W0 v a W0 := ⟨hv.below hbw, Below.refl _ _⟩
  have c0 : W0.cell? ⟨w.heap.size, 0, none⟩ = some v := by rw [hW0]; exact World.cell?_alloc_at _ _ _ _ rfl
  have HCA : Hid (∀ W, St1 W0 v a W → W.cell? ⟨w.heap.size, 0, none⟩ = some v) := fun W h => h.cell (by omega) c0
  have HZ := Lib.hid (isZero_any u 0 W0 (hu.below hbw))
  rw [show decide ((0 : Nat) = 0) = true from rfl] at HZ
  have HD1 : Hid (∀ W, St1 W0 v a W → Calls Tryd.prog 58 #[.int .u64 1] W fun e w' => ∃ r, e = .returned r ∧ D w' r 1 ∧ St1 W0 v a w') := fun W h =>
    (digitsOf_any 1 W (by decide)).mono fun e w' ⟨r, he, hr, hB⟩ => ⟨r, he, hr, h.next hB⟩
  have HBW := Lib.hid hbw
  have HW0 := Lib.hid hW0
  obtain ⟨ao, ac, rfl, -⟩ := hv.shape
  obtain ⟨bo, bc, rfl, -⟩ := hu.shape
  have hs2 := hst0.next ((Below.refl _ W0).drew)
  have hc2 := HCA.out _ hs2
  have hc0 := HCA.out _ hst0
  clear hv hu b1 hz0 hbw c0 hW0
  go_enter Tryd.func62, Tryd.ntmps62
  go_wp2_with fail
  rw [← HW0.out]
  refine HZ.out.mono ?_
  rintro e w1 ⟨rfl, rfl⟩
  go_wp2_with fail
  go_region_held3 (fun W : World => W.cell? ⟨w.heap.size, 0, none⟩ = some (.slice ao (nd 4294967296 a) ac) ∧ St1 W0 (.slice ao (nd 4294967296 a) ac) a W) (first | (refine And.intro ?_ ?_ <;> assumption)) (first
    | (go_at_call 58; with_reducible refine (HD1.out _ ?h).mono ?_; (case h => assumption); rintro e w' ⟨o1, rfl, hr', hs'⟩; have hc' := HCA.out _ hs'))
  all_goals
    have hD : D w' o1 1 := by assumption
    have hT : St1 W0 (.slice ao (nd 4294967296 a) ac) a w' := by assumption
    have HDD := Lib.hid hD
    have HBE := Lib.hid (HBW.out.trans (hT.bel.mono HBW.out.size))
    clear hD hT
    go_wp2
    go_ret2
    exact ⟨_, rfl, HDD.out, HBE.out⟩
theorem terms_any (v u : Value) (a b : Nat) (w : World) (hv : D w v a) (hu : D w u b) :
    Calls Tryd.prog 62 #[.agg #[v, u]] w fun e w' => ∃ r, e = .returned (.tuple #[v, r]) ∧ D w' r (dn b) ∧ Below w.heap.size w w' := by
  rcases Nat.eq_zero_or_pos b with h | h
  · subst h
    rw [show dn 0 = 1 from rfl]
    exact terms_zero v u a w hv hu
  · rw [dn_of h]
    exact (terms_pos v u a b w hv hu h).mono fun e w' ⟨he, hB⟩ => ⟨u, he, hu.below hB, hB⟩
/-- the text of a fraction -/
def fracText (a b : Nat) : List UInt8 := if b = 1 then Lib.decDigits a else Lib.decDigits a ++ 47 :: Lib.decDigits b
set_option maxHeartbeats 1000000 in
theorem FracString_one (v u : Value) (a b : Nat) (w : World) (hv : D w v a) (hu : D w u b) (hb : dn b = 1) (ha : nd 4294967296 a ≤ 100000) (he : Env w) :
    Calls Tryd.prog 27 #[.agg #[v, u]] w fun e w' => e = .returned (.string ⟨(Lib.decDigits a).toArray⟩) ∧ Below w.heap.size w w' := by
  have b1 : ∀ o, Below w.heap.size w (w.alloc o) := fun o => (Below.refl _ _).alloc (Nat.le_refl _) _
  have HT := Lib.hid (fun o => terms_any v u a b (w.alloc o) (hv.below (b1 o)) (hu.below (b1 o)))
  rw [hb] at HT
  have HO := Lib.hid (fun r w' (h : D w' r 1) => isOne_any r 1 w' h)
  rw [show decide ((1 : Nat) = 1) = true from rfl] at HO
  have HSA := Lib.hid (fun o w' (h : Below (w.alloc o).heap.size (w.alloc o) w') => String_any v a w' ((hv.below (b1 o)).below h) ha ((he.below (b1 o)).below h))
  have HB1 := Lib.hid b1
  obtain ⟨Sa, hSa⟩ : ∃ Sa : ByteArray, Sa = ⟨(Lib.decDigits a).toArray⟩ := ⟨_, rfl⟩
  rw [← hSa] at HSA ⊢
  obtain ⟨ao, ac, rfl, -⟩ := hv.shape
  obtain ⟨bo, bc, rfl, -⟩ := hu.shape
  clear hv hu b1 he hSa hb
  go_enter Tryd.func27, Tryd.ntmps27
  go_wp2_with fail
  refine (HT.out _).mono ?_
  rintro e w1 ⟨r, rfl, hr, hb1⟩
  have HB2 := Lib.hid hb1; have HR := Lib.hid hr; clear hb1 hr
  go_wp2_with fail
  refine (HO.out _ _ HR.out).mono ?_
  rintro e w2 ⟨rfl, rfl⟩
  go_wp2_with fail
  refine (HSA.out _ _ HB2.out).mono ?_
  rintro e w2 ⟨rfl, hb2⟩
  have HB3 := Lib.hid ((HB1.out _).trans ((HB2.out.trans (hb2.mono HB2.out.size)).mono (by simp))); clear hb2
  go_wp2
  go_ret
  exact ⟨rfl, HB3.out⟩
theorem FracString_any (v u : Value) (a b : Nat) (w : World) (hv : D w v a) (hu : D w u b) (ha : nd 4294967296 a ≤ 100000) (hb2 : nd 4294967296 b ≤ 100000) (he : Env w) :
    Calls Tryd.prog 27 #[.agg #[v, u]] w fun e w' => e = .returned (.string ⟨(fracText a (dn b)).toArray⟩) ∧ Below w.heap.size w w' := by
  unfold fracText
  by_cases h : dn b = 1
  · rw [if_pos h]
    exact FracString_one v u a b w hv hu h ha he
  · rw [if_neg h]
    have h1 : 1 < b := by
      unfold dn at h
      split at h <;> omega
    rw [dn_of (by omega)]
    exact FracString_two v u a b w hv hu h1 ha hb2 he
set_option maxHeartbeats 1000000 in
theorem FNum_any (v u : Value) (a b : Nat) (w : World) (hv : D w v a) (hu : D w u b) (ha : nd 4294967296 a ≤ 1048576) :
    Calls Tryd.prog 22 #[.agg #[v, u]] w fun e w' => ∃ r, e = .returned (.agg #[r]) ∧ D w' r a ∧ Below w.heap.size w w' := by
  have b2 : ∀ o1 o2, Below w.heap.size w ((w.alloc o1).alloc o2) := fun o1 o2 => ((Below.refl _ _).alloc (Nat.le_refl _) _).alloc (by simp) _
  have HT := Lib.hid (fun o1 o2 => terms_any v u a b ((w.alloc o1).alloc o2) (hv.below (b2 o1 o2)) (hu.below (b2 o1 o2)))
  have HC := Lib.hid (fun o1 o2 w' (h : Below ((w.alloc o1).alloc o2).heap.size ((w.alloc o1).alloc o2) w') => clone_any v a w' ((hv.below (b2 o1 o2)).below h) ha)
  have HB := Lib.hid b2
  obtain ⟨ao, ac, rfl, -⟩ := hv.shape
  obtain ⟨bo, bc, rfl, -⟩ := hu.shape
  clear hv hu b2
  go_enter Tryd.func22, Tryd.ntmps22
  go_wp2_with fail
  refine (HT.out _ _).mono ?_
  rintro e w1 ⟨r, rfl, -, hb1⟩
  have HB1 := Lib.hid hb1
  go_wp2_with fail
  refine (HC.out _ _ _ HB1.out).mono ?_
  rintro e w2 ⟨x, rfl, hx, hb2⟩
  obtain ⟨xo, xc, rfl, -⟩ := hx.shape
  have hb3 := HB1.out.trans (hb2.mono HB1.out.size)
  have hcell : w2.cell? ⟨w.heap.size + 1, 0, none⟩ = some (.slice none 0 0) := (hb3.cell (p := ⟨w.heap.size + 1, 0, none⟩) (by simp)).trans (World.cell?_alloc_at _ _ _ _ (by simp))
  have hfr : w2.frozen? ⟨w.heap.size + 1, 0, none⟩ = false := (hb3.frozen (p := ⟨w.heap.size + 1, 0, none⟩) (by simp)).trans (World.frozen?_alloc_at _ _ _ _ (by simp))
  have HX := Lib.hid hx; have HCE := Lib.hid hcell
  have HBE := Lib.hid ((HB.out _ _).trans (hb3.mono (HB.out _ _).size))
  clear hx hb1 hb2 hb3
  go_wp2
  refine bodyPost_ret (v := .agg #[.slice xo (nd 4294967296 a) xc]) (by simp [results, Tryd.results22, go_sem, hcell]) rfl ⟨_, rfl, HX.out.setCell HCE.out (by intro d h; cases h) _, HBE.out.setCell (by show w.heap.size ≤ w.heap.size + 1; omega) _⟩
end Go.Proofs.YteajinpfigejfaaDoor
namespace Go.Proofs.YteajinpfigejfaaDoor
open Go Go.RowKit Gu

def ffE (P Q : Nat) : Int := if nd 2 P ≤ 16384 ∧ nd 2 Q ≤ 16384 then 0 else 3
def ffN (P Q x : Nat) : Nat := if nd 2 P ≤ 16384 ∧ nd 2 Q ≤ 16384 then x else 0
/-- in lowest terms -/
def lowP (a b : Nat) : Nat := a / Nat.gcd a b
def lowQ (a b : Nat) : Nat := b / Nat.gcd a b
set_option maxHeartbeats 1000000 in
theorem crossed_any (v u x y : Value) (a b c d : Nat) (w : World) (hv : D w v a) (hu : D w u b) (hx : D w x c) (hy : D w y d) (ha : nd 4294967296 a ≤ 100000) (hb : nd 4294967296 b ≤ 100000) (hc : nd 4294967296 c ≤ 100000) (hd : nd 4294967296 d ≤ 100000) :
    Calls Tryd.prog 63 #[.agg #[v, u], .agg #[x, y]] w fun e w' => ∃ r1 r2 r3, e = .returned (.tuple #[r1, r2, r3]) ∧ D w' r1 (a * dn d) ∧ D w' r2 (c * dn b) ∧ D w' r3 (dn b * dn d) ∧ Below w.heap.size w w' := by
  have b2 : ∀ o1 o2, Below w.heap.size w ((w.alloc o1).alloc o2) := fun o1 o2 => ((Below.refl _ _).alloc (Nat.le_refl _) _).alloc (by simp) _
  have hdb := dn_nd hb (by decide)
  have hdd := dn_nd hd (by decide)
  have HT1 := Lib.hid (fun o1 o2 => terms_any v u a b ((w.alloc o1).alloc o2) (hv.below (b2 o1 o2)) (hu.below (b2 o1 o2)))
  have HT2 := Lib.hid (fun o1 o2 w' (h : Below ((w.alloc o1).alloc o2).heap.size ((w.alloc o1).alloc o2) w') => terms_any x y c d w' ((hx.below (b2 o1 o2)).below h) ((hy.below (b2 o1 o2)).below h))
  have HA := Lib.hid (fun o1 o2 => hv.below (b2 o1 o2))
  have HC := Lib.hid (fun o1 o2 => hx.below (b2 o1 o2))
  have HB := Lib.hid b2
  obtain ⟨ao, ac, rfl, -⟩ := hv.shape
  obtain ⟨bo, bc, rfl, -⟩ := hu.shape
  obtain ⟨co, cc, rfl, -⟩ := hx.shape
  obtain ⟨eo, ec, rfl, -⟩ := hy.shape
  clear hv hu hx hy b2
  generalize dn b = B at *
  generalize dn d = E at *
  go_enter Tryd.func63, Tryd.ntmps63
  go_wp2_with fail
  refine (HT1.out _ _).mono ?_
  rintro e w1 ⟨r, rfl, hr, hb1⟩
  obtain ⟨ro, rc, rfl, -⟩ := hr.shape
  have HB1 := Lib.hid hb1; have HR := Lib.hid hr
  have e0 : w1.cell? ⟨w.heap.size + 1, 0, none⟩ = some (.slice co (nd 4294967296 c) cc) := (hb1.cell (p := ⟨w.heap.size + 1, 0, none⟩) (by simp)).trans (World.cell?_alloc_at _ _ _ _ (by simp))
  have e1 : w1.cell? ⟨w.heap.size + 1, 1, none⟩ = some (.slice eo (nd 4294967296 d) ec) := (hb1.cell (p := ⟨w.heap.size + 1, 1, none⟩) (by simp)).trans (World.cell?_alloc_at _ _ _ _ (by simp))
  clear hr hb1
  go_wp2_with fail
  refine (HT2.out _ _ _ HB1.out).mono ?_
  rintro e w2 ⟨s, rfl, hs, hb2⟩
  obtain ⟨so, sc, rfl, -⟩ := hs.shape
  have HB2 := Lib.hid (HB1.out.trans (hb2.mono HB1.out.size)); have HS := Lib.hid hs; have HR2 := Lib.hid (HR.out.below hb2)
  clear hs hb2 HR e0 e1
  have HA2 := Lib.hid ((HA.out _ _).below HB2.out)
  have HC2 := Lib.hid ((HC.out _ _).below HB2.out)
  have HP1 := Lib.hid (product_any _ _ a E w2 HA2.out HS.out (by omega) (by omega))
  go_wp2_with fail
  refine HP1.out.mono ?_
  rintro e w3 ⟨p1, rfl, hp1, hb3⟩
  have HB3 := Lib.hid (HB2.out.trans (hb3.mono HB2.out.size)); have HQ1 := Lib.hid hp1; have HR3 := Lib.hid (HR2.out.below hb3); have HS3 := Lib.hid (HS.out.below hb3); have HC3 := Lib.hid (HC2.out.below hb3)
  clear hp1 hb3
  have HP2 := Lib.hid (product_any _ _ c B w3 HC3.out HR3.out (by omega) (by omega))
  go_wp2_with fail
  refine HP2.out.mono ?_
  rintro e w4 ⟨p2, rfl, hp2, hb4⟩
  have HB4 := Lib.hid (HB3.out.trans (hb4.mono HB3.out.size)); have HQ2 := Lib.hid hp2; have HQ1' := Lib.hid (HQ1.out.below hb4); have HR4 := Lib.hid (HR3.out.below hb4); have HS4 := Lib.hid (HS3.out.below hb4)
  clear hp2 hb4
  have HP3 := Lib.hid (product_any _ _ B E w4 HR4.out HS4.out (by omega) (by omega))
  go_wp2_with fail
  refine HP3.out.mono ?_
  rintro e w5 ⟨p3, rfl, hp3, hb5⟩
  have HB5 := Lib.hid ((HB.out _ _).trans ((HB4.out.trans (hb5.mono HB4.out.size)).mono (HB.out _ _).size)); have HQ3 := Lib.hid hp3; have HX1 := Lib.hid (HQ1'.out.below hb5); have HX2 := Lib.hid (HQ2.out.below hb5)
  clear hp3 hb5
  go_wp2
  refine bodyPost_ret (v := .tuple #[p1, p2, p3]) (by simp [results, Tryd.results63, go_sem]) rfl ⟨_, _, _, rfl, HX1.out, HX2.out, HQ3.out, HB5.out⟩
set_option maxHeartbeats 1000000 in
theorem FCmp_any (v u x y : Value) (a b c d : Nat) (w : World) (hv : D w v a) (hu : D w u b) (hx : D w x c) (hy : D w y d) (ha : nd 4294967296 a ≤ 100000) (hb : nd 4294967296 b ≤ 100000) (hc : nd 4294967296 c ≤ 100000) (hd : nd 4294967296 d ≤ 100000) :
    Calls Tryd.prog 26 #[.agg #[v, u], .agg #[x, y]] w fun e w' => e = .returned (.int .i64 (cmpN (a * dn d : Nat) (c * dn b : Nat))) ∧ Below w.heap.size w w' := by
  have b2 : ∀ o1 o2, Below w.heap.size w ((w.alloc o1).alloc o2) := fun o1 o2 => ((Below.refl _ _).alloc (Nat.le_refl _) _).alloc (by simp) _
  have HT1 := Lib.hid (fun o1 o2 => crossed_any v u x y a b c d ((w.alloc o1).alloc o2) (hv.below (b2 o1 o2)) (hu.below (b2 o1 o2)) (hx.below (b2 o1 o2)) (hy.below (b2 o1 o2)) ha hb hc hd)
  have h1 := nd_mul ha (dn_nd hd (by decide))
  have h2 := nd_mul hc (dn_nd hb (by decide))
  have HB := Lib.hid b2
  obtain ⟨ao, ac, rfl, -⟩ := hv.shape
  obtain ⟨bo, bc, rfl, -⟩ := hu.shape
  obtain ⟨co, cc, rfl, -⟩ := hx.shape
  obtain ⟨eo, ec, rfl, -⟩ := hy.shape
  clear hv hu hx hy b2
  generalize a * dn d = P at *
  generalize c * dn b = Q at *
  go_enter Tryd.func26, Tryd.ntmps26
  go_wp2_with fail
  refine (HT1.out _ _).mono ?_
  rintro e w1 ⟨r1, r2, r3, rfl, hr1, hr2, -, hb1⟩
  have HB1 := Lib.hid ((HB.out _ _).trans (hb1.mono (HB.out _ _).size))
  have HCM := Lib.hid (compare_any r1 r2 P Q w1 hr1 hr2 (by omega) (by omega))
  clear hr1 hr2 hb1
  go_wp2_with fail
  refine HCM.out.mono ?_
  rintro e w2 ⟨rfl, k, rfl⟩
  go_wp2
  go_ret
  exact ⟨rfl, below_drewN HB1.out k⟩
/-- what the end of a function with a result of two cells reads, where a box was made before -/
theorem fit_end {w w1 : World} {B : Nat} (d0 : w1.cell? ⟨B, 0, none⟩ = some (.slice none 0 0)) (d1 : w1.cell? ⟨B, 1, none⟩ = some (.slice none 0 0)) (hb : Below w.heap.size w w1) (hB : w.heap.size ≤ B) (hlt : B < w1.heap.size) (x y : Value) (o : Obj) :
    (((w1.setCell ⟨B, 0, none⟩ x).setCell ⟨B, 1, none⟩ y).alloc o).cell? ⟨B, 0, none⟩ = some x ∧ (((w1.setCell ⟨B, 0, none⟩ x).setCell ⟨B, 1, none⟩ y).alloc o).cell? ⟨B, 1, none⟩ = some y ∧ Below w.heap.size w (((w1.setCell ⟨B, 0, none⟩ x).setCell ⟨B, 1, none⟩ y).alloc o) := by
  obtain ⟨t0, t1⟩ := read_two d0 d1 x y
  have hl : B < ((w1.setCell ⟨B, 0, none⟩ x).setCell ⟨B, 1, none⟩ y).heap.size := by rw [World.size_setCell, World.size_setCell]; exact hlt
  exact ⟨(World.cell?_alloc_past _ _ _ hl).trans t0, (World.cell?_alloc_past _ _ _ hl).trans t1, ((hb.setCell hB _).setCell hB _).alloc (Nat.le_of_lt (Nat.lt_of_le_of_lt hB hl)) _⟩
set_option maxHeartbeats 2000000 in
theorem fittingFrac_any (v u : Value) (a b : Nat) (w : World) (hv : D w v a) (hu : D w u b) (hb : 0 < b) (ha : nd 4294967296 a ≤ 300000) (hbn : nd 4294967296 b ≤ 300000) :
    Calls Tryd.prog 64 #[v, u] w fun e w' => ∃ r s, e = .returned (.tuple #[.agg #[r, s], .int .i64 (ffE (lowP a b) (lowQ a b))]) ∧ D w' r (ffN (lowP a b) (lowQ a b) (lowP a b)) ∧ D w' s (ffN (lowP a b) (lowQ a b) (lowQ a b)) ∧ Below w.heap.size w w' := by
  have b1 : ∀ o, Below w.heap.size w (w.alloc o) := fun o => (Below.refl _ _).alloc (Nat.le_refl _) _
  obtain ⟨N, hN⟩ : ∃ N, N = 300000 := ⟨_, rfl⟩
  have HDV := Lib.hid (divide_long N (by omega))
  have HL := Lib.hid (fun o => lowest_any HDV.out v u a b (w.alloc o) (hv.below (b1 o)) (hu.below (b1 o)) hb ((nd_le (by decide)).1 (by omega)) ((nd_le (by decide)).1 (by omega)))
  have hP : nd 4294967296 (lowP a b) ≤ 1048576 := Nat.le_trans (nd_mono (by decide) (Nat.div_le_self _ _)) (by omega)
  have hQ : nd 4294967296 (lowQ a b) ≤ 1048576 := Nat.le_trans (nd_mono (by decide) (Nat.div_le_self _ _)) (by omega)
  rw [show a / Nat.gcd a b = lowP a b from rfl, show b / Nat.gcd a b = lowQ a b from rfl] at HL
  have HB := Lib.hid b1
  obtain ⟨ao, ac, rfl, -⟩ := hv.shape
  obtain ⟨bo, bc, rfl, -⟩ := hu.shape
  clear hv hu b1 hN HDV hb ha hbn
  generalize lowP a b = P at *
  generalize lowQ a b = Q at *
  have hcase : (nd 2 P ≤ 16384 ∧ nd 2 Q ≤ 16384 ∧ ffE P Q = 0 ∧ (∀ x, ffN P Q x = x)) ∨ (16384 < nd 2 P ∧ ffE P Q = 3 ∧ (∀ x, ffN P Q x = 0)) ∨ (nd 2 P ≤ 16384 ∧ 16384 < nd 2 Q ∧ ffE P Q = 3 ∧ (∀ x, ffN P Q x = 0)) := by
    by_cases h1 : nd 2 P ≤ 16384
    · by_cases h2 : nd 2 Q ≤ 16384
      · exact .inl ⟨h1, h2, if_pos ⟨h1, h2⟩, fun x => if_pos ⟨h1, h2⟩⟩
      · exact .inr (.inr ⟨h1, by omega, if_neg (fun h => h2 h.2), fun x => if_neg (fun h => h2 h.2)⟩)
    · exact .inr (.inl ⟨by omega, if_neg (fun h => h1 h.1), fun x => if_neg (fun h => h1 h.1)⟩)
  have hres : Hid ((∃ x y, x = ffN P Q P ∧ y = ffN P Q Q)) := ⟨_, _, rfl, rfl⟩
  go_enter Tryd.func64, Tryd.ntmps64
  go_wp2_with fail
  refine (HL.out _).mono ?_
  rintro e w1 ⟨r, s, rfl, hr, hs, hb1⟩
  obtain ⟨ro, rc, rfl, -⟩ := hr.shape
  obtain ⟨so, sc, rfl, -⟩ := hs.shape
  have hz := hb1.size
  simp only [World.size_alloc] at hz
  have hlt : w.heap.size < w1.heap.size := by omega
  have HLT := Lib.hid hlt
  have d0 : w1.cell? ⟨w.heap.size, 0, none⟩ = some (.slice none 0 0) := (hb1.cell (p := ⟨w.heap.size, 0, none⟩) (by simp)).trans (World.cell?_alloc_at _ _ _ _ rfl)
  have d1 : w1.cell? ⟨w.heap.size, 1, none⟩ = some (.slice none 0 0) := (hb1.cell (p := ⟨w.heap.size, 1, none⟩) (by simp)).trans (World.cell?_alloc_at _ _ _ _ rfl)
  have g0 : w1.frozen? ⟨w.heap.size, 0, none⟩ = false := (hb1.frozen (p := ⟨w.heap.size, 0, none⟩) (by simp)).trans (World.frozen?_alloc_at _ _ _ _ rfl)
  have g1 : w1.frozen? ⟨w.heap.size, 1, none⟩ = false := (hb1.frozen (p := ⟨w.heap.size, 1, none⟩) (by simp)).trans (World.frozen?_alloc_at _ _ _ _ rfl)
  have HR := Lib.hid hr; have HS := Lib.hid hs
  have HBW := Lib.hid ((HB.out (.cells #[.slice none 0 0, .slice none 0 0] 26)).trans (hb1.mono (by simp)))
  have HD0 := Lib.hid d0; have HD1 := Lib.hid d1
  have ba : ∀ o, Below w1.heap.size w1 (w1.alloc o) := fun o => (Below.refl _ _).alloc (Nat.le_refl _) _
  have HBP := Lib.hid (fun o => bitLen_any _ P (w1.alloc o) (hr.below (ba o)) hP)
  have HBQ := Lib.hid (fun o => bitLen_any _ Q (w1.alloc o) (hs.below (ba o)) hQ)
  have HC := Lib.hid hcase
  clear hr hs hb1 ba hcase hP hQ
  rcases HC.out with ⟨q1, q2, q3, q4⟩ | ⟨q1, q3, q4⟩ | ⟨q1, q2, q3, q4⟩
  · have Q3 := Lib.hid q3; have Q4 := Lib.hid q4
    clear q3 q4
    generalize nd 2 P = bp at *
    generalize nd 2 Q = bq at *
    go_wp2_with fail
    refine (HBP.out _).mono ?_
    rintro e w2 ⟨rfl, rfl⟩
    go_wp2_with fail
    refine (HBQ.out _).mono ?_
    rintro e w2 ⟨rfl, rfl⟩
    go_wp2
    obtain ⟨t0, t1⟩ := fit_end (w := w) (B := w.heap.size) HD0.out HD1.out HBW.out (Nat.le_refl _) HLT.out (.slice ro (nd 4294967296 P) rc) (.slice so (nd 4294967296 Q) sc) (.cells #[.slice ro (nd 4294967296 P) rc, .slice so (nd 4294967296 Q) sc] 26)
    refine bodyPost_ret (v := .tuple #[.agg #[.slice ro (nd 4294967296 P) rc, .slice so (nd 4294967296 Q) sc], .int .i64 0]) (by simp [results, Tryd.results64, go_sem, t0, t1.1]) rfl
      ⟨_, _, by rw [Q3.out], by rw [Q4.out]; exact ((IsN_setTwo HR.out HD0.out HD1.out (by intro d h; cases h) (by intro d h; cases h) _ _).below ((Below.refl _ _).alloc (Nat.le_refl _) _)), by rw [Q4.out]; exact ((IsN_setTwo HS.out HD0.out HD1.out (by intro d h; cases h) (by intro d h; cases h) _ _).below ((Below.refl _ _).alloc (Nat.le_refl _) _)), t1.2⟩
  · have Q3 := Lib.hid q3; have Q4 := Lib.hid q4
    clear q3 q4
    generalize nd 2 P = bp at *
    go_wp2_with fail
    refine (HBP.out _).mono ?_
    rintro e w2 ⟨rfl, rfl⟩
    go_wp2
    obtain ⟨t0, t1⟩ := fit_end (w := w) (B := w.heap.size) HD0.out HD1.out HBW.out (Nat.le_refl _) HLT.out (.slice none 0 0) (.slice none 0 0) (.cells #[.slice ro (nd 4294967296 P) rc, .slice so (nd 4294967296 Q) sc] 26)
    refine bodyPost_ret (v := .tuple #[.agg #[.slice none 0 0, .slice none 0 0], .int .i64 3]) (by simp [results, Tryd.results64, go_sem, t0, t1.1]) rfl
      ⟨_, _, by rw [Q3.out], by rw [Q4.out]; exact IsN.zero _ _ _ _ _, by rw [Q4.out]; exact IsN.zero _ _ _ _ _, t1.2⟩
  · have Q3 := Lib.hid q3; have Q4 := Lib.hid q4
    clear q3 q4
    generalize nd 2 P = bp at *
    generalize nd 2 Q = bq at *
    go_wp2_with fail
    refine (HBP.out _).mono ?_
    rintro e w2 ⟨rfl, rfl⟩
    go_wp2_with fail
    refine (HBQ.out _).mono ?_
    rintro e w2 ⟨rfl, rfl⟩
    go_wp2
    obtain ⟨t0, t1⟩ := fit_end (w := w) (B := w.heap.size) HD0.out HD1.out HBW.out (Nat.le_refl _) HLT.out (.slice none 0 0) (.slice none 0 0) (.cells #[.slice ro (nd 4294967296 P) rc, .slice so (nd 4294967296 Q) sc] 26)
    refine bodyPost_ret (v := .tuple #[.agg #[.slice none 0 0, .slice none 0 0], .int .i64 3]) (by simp [results, Tryd.results64, go_sem, t0, t1.1]) rfl
      ⟨_, _, by rw [Q3.out], by rw [Q4.out]; exact IsN.zero _ _ _ _ _, by rw [Q4.out]; exact IsN.zero _ _ _ _ _, t1.2⟩
/-- a function's result of two cells in the block B, filled by what a call gave -/
theorem two_store {w W' : World} {B P Q : Nat} {ro so : Option Addr} {rc sc : Nat} (hr : D W' (.slice ro (nd 4294967296 P) rc) P) (hs : D W' (.slice so (nd 4294967296 Q) sc) Q)
    (d0 : W'.cell? ⟨B, 0, none⟩ = some (.slice none 0 0)) (d1 : W'.cell? ⟨B, 1, none⟩ = some (.slice none 0 0)) (hb : Below w.heap.size w W') (hB : w.heap.size ≤ B) :
    let W2 := (W'.setCell ⟨B, 0, none⟩ (.slice ro (nd 4294967296 P) rc)).setCell ⟨B, 1, none⟩ (.slice so (nd 4294967296 Q) sc)
    D W2 (.slice ro (nd 4294967296 P) rc) P ∧ D W2 (.slice so (nd 4294967296 Q) sc) Q ∧ W2.cell? ⟨B, 0, none⟩ = some (.slice ro (nd 4294967296 P) rc) ∧ W2.cell? ⟨B, 1, none⟩ = some (.slice so (nd 4294967296 Q) sc) ∧ Below w.heap.size w W2 := by
  obtain ⟨t0, t1⟩ := read_two d0 d1 (.slice ro (nd 4294967296 P) rc) (.slice so (nd 4294967296 Q) sc)
  exact ⟨IsN_setTwo hr d0 d1 (by intro d h; cases h) (by intro d h; cases h) _ _, IsN_setTwo hs d0 d1 (by intro d h; cases h) (by intro d h; cases h) _ _, t0, t1, (hb.setCell hB _).setCell hB _⟩
end Go.Proofs.YteajinpfigejfaaDoor
namespace Go.Proofs.YteajinpfigejfaaDoor
open Go Go.RowKit Gu

set_option maxHeartbeats 1000000 in
theorem RLow_any (v u : Value) (a b : Nat) (w : World) (hv : R w v a) (hu : R w u b) (hb0 : 0 < b) (ha : nd 65536 a ≤ 1000) (hb : nd 65536 b ≤ 1000) :
    Calls Tryd.prog 66 #[v, u] w fun e w' => ∃ r s, e = .returned (.agg #[r, s]) ∧ R w' r (lowP a b) ∧ R w' s (lowQ a b) ∧ Below w.heap.size w w' := by
  have b1 : ∀ o, Below w.heap.size w (w.alloc o) := fun o => (Below.refl _ _).alloc (Nat.le_refl _) _
  by_cases h0 : a = 0
  · subst h0
    have e1 : lowP 0 b = 0 := by unfold lowP; rw [Nat.zero_div]
    have e2 : lowQ 0 b = 1 := by unfold lowQ; rw [Nat.gcd_zero_left, Nat.div_self hb0]
    rw [e1, e2]
    obtain ⟨ao, ac, rfl, -⟩ := hv.shape
    rw [nd_zero]
    have HB := Lib.hid b1
    clear hv hu b1
    go_enter Tryd.func66, Tryd.ntmps66
    go_wp2_with fail
    refine (Of_any 1 _ (by decide)).mono ?_
    rintro e w1 ⟨r, rfl, hr, hb1⟩
    obtain ⟨ro, rc, rfl, -⟩ := hr.shape
    have d0 : w1.cell? ⟨w.heap.size, 0, none⟩ = some (.slice none 0 0) := (hb1.cell (p := ⟨w.heap.size, 0, none⟩) (by simp)).trans (World.cell?_alloc_at _ _ _ _ rfl)
    have d1 : w1.cell? ⟨w.heap.size, 1, none⟩ = some (.slice none 0 0) := (hb1.cell (p := ⟨w.heap.size, 1, none⟩) (by simp)).trans (World.cell?_alloc_at _ _ _ _ rfl)
    have g0 : w1.frozen? ⟨w.heap.size, 0, none⟩ = false := (hb1.frozen (p := ⟨w.heap.size, 0, none⟩) (by simp)).trans (World.frozen?_alloc_at _ _ _ _ rfl)
    have g1 : w1.frozen? ⟨w.heap.size, 1, none⟩ = false := (hb1.frozen (p := ⟨w.heap.size, 1, none⟩) (by simp)).trans (World.frozen?_alloc_at _ _ _ _ rfl)
    obtain ⟨t0, t1⟩ := read_two d0 d1 (.slice none 0 0) (.slice ro (nd 65536 1) rc)
    have HX : Hid (R ((w1.setCell ⟨w.heap.size, 0, none⟩ (.slice none 0 0)).setCell ⟨w.heap.size, 1, none⟩ (.slice ro (nd 65536 1) rc)) (.slice ro (nd 65536 1) rc) 1) := IsN_setTwo hr d0 d1 (by intro d h; cases h) (by intro d h; cases h) _ _
    have HBE := Lib.hid ((((HB.out _).trans (hb1.mono (by simp))).setCell (p := ⟨w.heap.size, 0, none⟩) (Nat.le_refl _) (.slice none 0 0)).setCell (p := ⟨w.heap.size, 1, none⟩) (Nat.le_refl _) (.slice ro (nd 65536 1) rc))
    have T0 := Lib.hid t0; have T1 := Lib.hid t1
    clear hr hb1 t0 t1
    go_wp2
    have t0 := T0.out; have t1 := T1.out
    refine bodyPost_ret (v := .agg #[.slice none 0 0, .slice ro (nd 65536 1) rc]) (by simp [results, Tryd.results66, go_sem, t0, t1]) rfl ⟨_, _, rfl, IsN.zero _ _ _ _ _, HX.out, HBE.out⟩
  · have ha0 : 0 < a := Nat.pos_of_ne_zero h0
    have hg0 : 0 < Nat.gcd a b := Nat.gcd_pos_of_pos_left _ ha0
    have hg16 : nd 65536 (Nat.gcd a b) ≤ 1000 := Nat.le_trans (nd_mono (by decide) (Nat.gcd_le_left _ ha0)) ha
    have hl := nd_pos (B := 65536) (by decide) ha0
    have hq : ((((nd 65536 a : Nat)) : Int) == 0) = false := beq_eq_false_iff_ne.2 (by omega)
    have HG := Lib.hid (fun o => RGcd_any v u a b (w.alloc o) (hv.below (b1 o)) (hu.below (b1 o)) ha hb)
    have HD1 := Lib.hid (fun g W (h : Below w.heap.size w W) (h' : R W g (Nat.gcd a b)) => RDivMod_any v g a (Nat.gcd a b) W (hv.below h) h' hg0 (by omega) (by omega))
    have HD2 := Lib.hid (fun g W (h : Below w.heap.size w W) (h' : R W g (Nat.gcd a b)) => RDivMod_any u g b (Nat.gcd a b) W (hu.below h) h' hg0 (by omega) (by omega))
    rw [show a / Nat.gcd a b = lowP a b from rfl] at HD1
    rw [show b / Nat.gcd a b = lowQ a b from rfl] at HD2
    have HB := Lib.hid b1
    obtain ⟨ao, ac, rfl, -⟩ := hv.shape
    obtain ⟨bo, bc, rfl, -⟩ := hu.shape
    clear hv hu b1 h0 hg0 hg16 hl
    generalize lowP a b = P at *
    generalize lowQ a b = Q at *
    generalize a % Nat.gcd a b = m1 at *
    generalize b % Nat.gcd a b = m2 at *
    generalize Nat.gcd a b = G at *
    go_enter Tryd.func66, Tryd.ntmps66
    go_wp2_with fail
    refine (HG.out _).mono ?_
    rintro e w1 ⟨g, rfl, hg, hb1⟩
    obtain ⟨go, gc, rfl, -⟩ := hg.shape
    have HB1 := Lib.hid hb1; have HGG := Lib.hid hg
    have HW1 := Lib.hid ((HB.out _).trans (hb1.mono (by simp)))
    clear hg hb1
    go_wp2_with fail
    refine (HD1.out _ _ HW1.out HGG.out).mono ?_
    rintro e w2 ⟨p, m, rfl, hp, -, hb2⟩
    obtain ⟨po, pc, rfl, -⟩ := hp.shape
    have HB2 := Lib.hid (HB1.out.trans (hb2.mono HB1.out.size)); have HP := Lib.hid hp
    have HW2 := Lib.hid (HW1.out.trans (hb2.mono HW1.out.size)); have HG2 := Lib.hid (HGG.out.below hb2)
    clear hp hb2
    go_wp2_with fail
    refine (HD2.out _ _ HW2.out HG2.out).mono ?_
    rintro e w3 ⟨q, m', rfl, hq', -, hb3⟩
    obtain ⟨qo, qc, rfl, -⟩ := hq'.shape
    have hb := HB2.out.trans (hb3.mono HB2.out.size)
    have d0 : w3.cell? ⟨w.heap.size, 0, none⟩ = some (.slice none 0 0) := (hb.cell (p := ⟨w.heap.size, 0, none⟩) (by simp)).trans (World.cell?_alloc_at _ _ _ _ rfl)
    have d1 : w3.cell? ⟨w.heap.size, 1, none⟩ = some (.slice none 0 0) := (hb.cell (p := ⟨w.heap.size, 1, none⟩) (by simp)).trans (World.cell?_alloc_at _ _ _ _ rfl)
    have g0 : w3.frozen? ⟨w.heap.size, 0, none⟩ = false := (hb.frozen (p := ⟨w.heap.size, 0, none⟩) (by simp)).trans (World.frozen?_alloc_at _ _ _ _ rfl)
    have g1 : w3.frozen? ⟨w.heap.size, 1, none⟩ = false := (hb.frozen (p := ⟨w.heap.size, 1, none⟩) (by simp)).trans (World.frozen?_alloc_at _ _ _ _ rfl)
    obtain ⟨t0, t1⟩ := read_two d0 d1 (.slice po (nd 65536 P) pc) (.slice qo (nd 65536 Q) qc)
    have HX := Lib.hid (IsN_setTwo (HP.out.below hb3) d0 d1 (by intro d h; cases h) (by intro d h; cases h) (.slice po (nd 65536 P) pc) (.slice qo (nd 65536 Q) qc))
    have HY := Lib.hid (IsN_setTwo hq' d0 d1 (by intro d h; cases h) (by intro d h; cases h) (.slice po (nd 65536 P) pc) (.slice qo (nd 65536 Q) qc))
    have HBE := Lib.hid ((((HB.out _).trans (hb.mono (by simp))).setCell (p := ⟨w.heap.size, 0, none⟩) (Nat.le_refl _) (.slice po (nd 65536 P) pc)).setCell (p := ⟨w.heap.size, 1, none⟩) (Nat.le_refl _) (.slice qo (nd 65536 Q) qc))
    have T0 := Lib.hid t0; have T1 := Lib.hid t1
    clear hq' hb hb3 t0 t1
    go_wp2
    have t0 := T0.out; have t1 := T1.out
    refine bodyPost_ret (v := .agg #[.slice po (nd 65536 P) pc, .slice qo (nd 65536 Q) qc]) (by simp [results, Tryd.results66, go_sem, t0, t1]) rfl ⟨_, _, rfl, HX.out, HY.out, HBE.out⟩
/-- what a region over a fraction of the document keeps -/
structure StR (W0 : World) (v u : Value) (a b : Nat) (W : World) : Prop where
  n1 : R W v a
  n2 : R W u b
  bel : Below W0.heap.size W0 W
theorem StR.next {W0 W W' : World} {v u : Value} {a b : Nat} (h : StR W0 v u a b W) (hb : Below W.heap.size W W') : StR W0 v u a b W' :=
  ⟨h.n1.below hb, h.n2.below hb, h.bel.trans (hb.mono h.bel.size)⟩
theorem StR.cell {W0 W : World} {v u x : Value} {a b k o : Nat} (h : StR W0 v u a b W) (hk : k < W0.heap.size) (hc : W0.cell? ⟨k, o, none⟩ = some x) : W.cell? ⟨k, o, none⟩ = some x :=
  (h.bel.cell (p := ⟨k, o, none⟩) hk).trans hc
set_option maxHeartbeats 2000000 in
set_option maxRecDepth 100000 in
theorem RFText_any (v u : Value) (a b : Nat) (w : World) (hv : R w v a) (hu : R w u b) (ha : nd 65536 a ≤ 5000) (hb : nd 65536 b ≤ 5000) :
    Calls Tryd.prog 40 #[.agg #[v, u]] w fun e w' => e = .returned (.string ⟨(fracText a b).toArray⟩) ∧ Below w.heap.size w w' := by
  obtain ⟨W0, hW0⟩ : ∃ W0 : World, W0 = w.alloc (.cells #[v, u] 32) := ⟨_, rfl⟩
  have hz0 : W0.heap.size = w.heap.size + 1 := by rw [hW0]; simp
  have hbw : Below w.heap.size w W0 := by rw [hW0]; exact (Below.refl _ _).alloc (Nat.le_refl _) _
  have hst0 : StR W0 v u a b W0 := ⟨hv.below hbw, hu.below hbw, Below.refl _ _⟩
  have c0 : W0.cell? ⟨w.heap.size, 0, none⟩ = some v := by rw [hW0]; exact World.cell?_alloc_at _ _ _ _ rfl
  have c1 : W0.cell? ⟨w.heap.size, 1, none⟩ = some u := by rw [hW0]; exact World.cell?_alloc_at _ _ _ _ rfl
  have HCA : Hid (∀ W, StR W0 v u a b W → W.cell? ⟨w.heap.size, 0, none⟩ = some v ∧ W.cell? ⟨w.heap.size, 1, none⟩ = some u) := fun W h => ⟨h.cell (by omega) c0, h.cell (by omega) c1⟩
  have HOF : Hid (∀ W, StR W0 v u a b W → Calls Tryd.prog 36 #[.int .i64 1] W fun e w' => ∃ o l c, e = .returned (.slice o l c) ∧ R w' (.slice o l c) 1 ∧ StR W0 v u a b w') := fun W h =>
    (Of_any 1 W (by decide)).mono fun e w' ⟨r, he, hr, hB⟩ => by
      obtain ⟨ro, rc, rfl, -⟩ := hr.shape
      exact ⟨ro, _, rc, he, hr, h.next hB⟩
  have HCM : Hid (∀ W x, StR W0 v u a b W → R W x 1 → Calls Tryd.prog 38 #[u, x] W fun e w' => e = .returned (.int .i64 (cmpN ((b : Nat) : Int) ((1 : Nat) : Int))) ∧ StR W0 v u a b w') := fun W x h hx =>
    (RCmp_any u x b 1 W h.n2 hx (by omega) (by have := nd_le_self16 (n := 1) (by decide); omega)).mono fun e w' ⟨he, k, hw⟩ => ⟨he, by rw [hw]; exact h.next (below_drewN (Below.refl _ _) k)⟩
  obtain ⟨Sa, hSa⟩ : ∃ Sa : ByteArray, Sa = ⟨(Lib.decDigits a).toArray⟩ := ⟨_, rfl⟩
  obtain ⟨Sb, hSb⟩ : ∃ Sb : ByteArray, Sb = ⟨(Lib.decDigits b).toArray⟩ := ⟨_, rfl⟩
  have HTA : Hid (∀ W, StR W0 v u a b W → Calls Tryd.prog 74 #[v] W fun e w' => e = .returned (.string Sa) ∧ StR W0 v u a b w') := fun W h => by
    rw [hSa]; exact (Text_any v a W h.n1 (by omega)).mono fun e w' ⟨he, hB⟩ => ⟨he, h.next hB⟩
  have HTB : Hid (∀ W, StR W0 v u a b W → Calls Tryd.prog 74 #[u] W fun e w' => e = .returned (.string Sb) ∧ StR W0 v u a b w') := fun W h => by
    rw [hSb]; exact (Text_any u b W h.n2 (by omega)).mono fun e w' ⟨he, hB⟩ => ⟨he, h.next hB⟩
  have hla : Sa.size ≤ 1000000 := by rw [hSa, ← len_data]; exact dec_bound (m := 5000) (Nat.le_trans (nd_32 ha) (by decide)) (by decide) |> fun h => Nat.le_trans h (by decide)
  have hlb : Sb.size ≤ 1000000 := by rw [hSb, ← len_data]; exact dec_bound (m := 5000) (Nat.le_trans (nd_32 hb) (by decide)) (by decide) |> fun h => Nat.le_trans h (by decide)
  have HSA := Lib.hid hSa; have HSB := Lib.hid hSb
  have HBW := Lib.hid hbw; have HW0 := Lib.hid hW0
  have hs2 := hst0.next ((Below.refl _ W0).drew)
  have hc0 := HCA.out _ hst0
  have hc2 := HCA.out _ hs2
  obtain ⟨ao, ac, rfl, -⟩ := hv.shape
  obtain ⟨bo, bc, rfl, -⟩ := hu.shape
  clear hv hu hz0 hbw c0 c1 hW0 hSa hSb ha hb
  have hcase : (b = 1 ∧ cmpN ((b : Nat) : Int) ((1 : Nat) : Int) = 0) ∨ (b ≠ 1 ∧ ((cmpN ((b : Nat) : Int) ((1 : Nat) : Int)) == 0) = false) := by
    by_cases h : b = 1
    · exact .inl ⟨h, cmpN_eq (by omega)⟩
    · refine .inr ⟨h, beq_eq_false_iff_ne.2 ?_⟩
      rcases Nat.lt_or_gt_of_ne h with h' | h'
      · rw [cmpN_lt (by omega)]; decide
      · rw [cmpN_gt (by omega)]; decide
  have HK := Lib.hid hcase
  clear hcase
  generalize cmpN ((b : Nat) : Int) ((1 : Nat) : Int) = kk at *
  generalize nd 65536 a = la at *
  rcases HK.out with ⟨hb1, rfl⟩ | ⟨hb1, hk⟩
  · have HT : Hid (ByteArray.mk (fracText a b).toArray = Sa) := by show _ = _; unfold fracText; rw [if_pos hb1, HSA.out]
    rw [HT.out]
    clear hb1
    generalize nd 65536 b = lb at *
    go_enter Tryd.func40, Tryd.ntmps40
    go_wp2_with fail
    rw [← HW0.out]
    go_region_held3 (fun W : World => (W.cell? ⟨w.heap.size, 0, none⟩ = some (.slice ao la ac) ∧ W.cell? ⟨w.heap.size, 1, none⟩ = some (.slice bo lb bc)) ∧ StR W0 (.slice ao la ac) (.slice bo lb bc) a b W) (first | (refine And.intro ?_ ?_ <;> assumption)) (first
      | (go_at_call 36; with_reducible refine (HOF.out _ ?h).mono ?_; (case h => assumption); rintro e w' ⟨o1, l1, k1, rfl, hr', hs'⟩; have hc' := HCA.out _ hs')
      | (go_at_call 38; with_reducible refine (HCM.out _ _ ?h ?r).mono ?_; (case h => assumption); (case r => first | assumption | exact rchain (by assumption) (by assumption)); rintro e w' ⟨rfl, hs'⟩; have hc' := HCA.out _ hs'))
    all_goals
      have hT : StR W0 (.slice ao la ac) (.slice bo lb bc) a b w' := by assumption
      have hcx := HCA.out _ hT
      have HTT := Lib.hid hT
      clear hT
      go_wp2_with fail
      refine (HTA.out _ HTT.out).mono ?_
      rintro e w5 ⟨rfl, hs5⟩
      have HBE := Lib.hid (HBW.out.trans (hs5.bel.mono HBW.out.size))
      clear hs5
      go_wp2
      go_ret
      exact ⟨rfl, HBE.out⟩
  · have HT : Hid (ByteArray.mk (fracText a b).toArray = Sa ++ ⟨#[47]⟩ ++ Sb) := by
      show _ = _; unfold fracText; rw [if_neg hb1, HSA.out, HSB.out]; exact (slash _ _).symm
    rw [HT.out]
    have hadd1 : ∀ W : World, (Op.stringOp .add Sa ⟨#[47]⟩).run Tryd.prog W = .ok (.string (Sa ++ ⟨#[47]⟩)) W := fun W => run_string_add_sum W _ _ (by
      have e : (⟨#[47]⟩ : ByteArray).size = 1 := rfl
      rw [e]; omega)
    have hadd2 : ∀ W : World, (Op.stringOp .add (Sa ++ ⟨#[47]⟩) Sb).run Tryd.prog W = .ok (.string (Sa ++ ⟨#[47]⟩ ++ Sb)) W := fun W => run_string_add_sum W _ _ (by
      have e : (⟨#[47]⟩ : ByteArray).size = 1 := rfl
      rw [ByteArray.size_append, e]; omega)
    clear hb1
    generalize nd 65536 b = lb at *
    go_enter Tryd.func40, Tryd.ntmps40
    go_wp2_with fail
    rw [← HW0.out]
    go_region_held3 (fun W : World => (W.cell? ⟨w.heap.size, 0, none⟩ = some (.slice ao la ac) ∧ W.cell? ⟨w.heap.size, 1, none⟩ = some (.slice bo lb bc)) ∧ StR W0 (.slice ao la ac) (.slice bo lb bc) a b W) (first | (refine And.intro ?_ ?_ <;> assumption)) (first
      | (go_at_call 36; with_reducible refine (HOF.out _ ?h).mono ?_; (case h => assumption); rintro e w' ⟨o1, l1, k1, rfl, hr', hs'⟩; have hc' := HCA.out _ hs')
      | (go_at_call 38; with_reducible refine (HCM.out _ _ ?h ?r).mono ?_; (case h => assumption); (case r => first | assumption | exact rchain (by assumption) (by assumption)); rintro e w' ⟨rfl, hs'⟩; have hc' := HCA.out _ hs'))
    all_goals
      have hT : StR W0 (.slice ao la ac) (.slice bo lb bc) a b w' := by assumption
      have hcx := HCA.out _ hT
      have hs3 := hT.next ((Below.refl _ _).drew)
      have hcy := HCA.out _ hs3
      go_wp2_with fail
      go_region_held3 (fun W : World => (W.cell? ⟨w.heap.size, 0, none⟩ = some (.slice ao la ac) ∧ W.cell? ⟨w.heap.size, 1, none⟩ = some (.slice bo lb bc)) ∧ StR W0 (.slice ao la ac) (.slice bo lb bc) a b W) (first | (refine And.intro ?_ ?_ <;> assumption)) (first
        | (go_at_call 74; with_reducible refine (HTA.out _ ?h).mono ?_; (case h => assumption); rintro e w' ⟨rfl, hs'⟩; have hc' := HCA.out _ hs')
        | (go_at_call 74; with_reducible refine (HTB.out _ ?h).mono ?_; (case h => assumption); rintro e w' ⟨rfl, hs'⟩; have hc' := HCA.out _ hs'))
      all_goals
        have hT5 : StR W0 (.slice ao la ac) (.slice bo lb bc) a b w' := by assumption
        have HBE := Lib.hid (HBW.out.trans (hT5.bel.mono HBW.out.size))
        clear hT5
        go_wp2
        go_ret
        exact ⟨rfl, HBE.out⟩
end Go.Proofs.YteajinpfigejfaaDoor
namespace Go.Proofs.YteajinpfigejfaaDoor
open Go Go.RowKit Gu

/-- boxes (block, offset, value), the program's numbers, the document's numbers -/
structure Kq (cs : List (Nat × Nat × Value)) (ns rs : List (Value × Nat)) (w W : World) : Prop where
  num : ∀ p ∈ ns, D W p.1 p.2
  dig : ∀ p ∈ rs, R W p.1 p.2
  box : ∀ p ∈ cs, p.1 < W.heap.size ∧ W.cell? ⟨p.1, p.2.1, none⟩ = some p.2.2
  env : Env W
  bel : Below w.heap.size w W
section
variable {cs : List (Nat × Nat × Value)} {ns rs : List (Value × Nat)} {w W W' : World}
theorem Kq.start (he : Env w) : Kq [] [] [] w w := ⟨fun _ h => by simp at h, fun _ h => by simp at h, fun _ h => by simp at h, he, Below.refl _ _⟩
theorem Kq.next (h : Kq cs ns rs w W) (hb : Below W.heap.size W W') : Kq cs ns rs w W' :=
  ⟨fun p hp => (h.num p hp).below hb, fun p hp => (h.dig p hp).below hb, fun p hp => ⟨Nat.lt_of_lt_of_le (h.box p hp).1 hb.size, (hb.cell (p := ⟨p.1, p.2.1, none⟩) (h.box p hp).1).trans (h.box p hp).2⟩, h.env.below hb, h.bel.trans (hb.mono h.bel.size)⟩
theorem Kq.drewN (h : Kq cs ns rs w W) (q : Nat) : Kq cs ns rs w (W.drewN q) := h.next (below_drewN (Below.refl _ _) q)
theorem Kq.drew (h : Kq cs ns rs w W) : Kq cs ns rs w W.drew := h.next (Below.refl _ _).drew
theorem Kq.addNum (h : Kq cs ns rs w W) {v : Value} {n : Nat} (hv : D W v n) : Kq cs ((v, n) :: ns) rs w W :=
  ⟨fun p hp => by
    rcases List.mem_cons.1 hp with rfl | hp
    · exact hv
    · exact h.num p hp, h.dig, h.box, h.env, h.bel⟩
theorem Kq.addDig (h : Kq cs ns rs w W) {v : Value} {n : Nat} (hv : R W v n) : Kq cs ns ((v, n) :: rs) w W :=
  ⟨h.num, fun p hp => by
    rcases List.mem_cons.1 hp with rfl | hp
    · exact hv
    · exact h.dig p hp, h.box, h.env, h.bel⟩
theorem Kq.alloc (h : Kq cs ns rs w W) (o : Obj) : Kq cs ns rs w (W.alloc o) := h.next ((Below.refl _ _).alloc (Nat.le_refl _) _)
theorem Kq.addBox (h : Kq cs ns rs w W) {b o : Nat} {v : Value} (h1 : b < W.heap.size) (h2 : W.cell? ⟨b, o, none⟩ = some v) : Kq ((b, o, v) :: cs) ns rs w W :=
  ⟨h.num, h.dig, fun p hp => by
    rcases List.mem_cons.1 hp with rfl | hp
    · exact ⟨h1, h2⟩
    · exact h.box p hp, h.env, h.bel⟩
/-- a variable gets its box -/
theorem Kq.boxed (h : Kq cs ns rs w W) (v : Value) (T : TypeId) : Kq ((W.heap.size, 0, v) :: cs) ns rs w (W.alloc (.cells #[v] T)) :=
  (h.alloc _).addBox (by simp) (World.cell?_alloc_at _ _ _ _ rfl)
theorem Kq.boxed2 (h : Kq cs ns rs w W) (v u : Value) (T : TypeId) : Kq ((W.heap.size, 1, u) :: (W.heap.size, 0, v) :: cs) ns rs w (W.alloc (.cells #[v, u] T)) :=
  ((h.alloc _).addBox (by simp) (World.cell?_alloc_at _ _ _ _ rfl)).addBox (by simp) (World.cell?_alloc_at _ _ _ _ rfl)
theorem Kq.cell (h : Kq cs ns rs w W) {g o : Nat} {v : Value} (hm : (g, o, v) ∈ cs) : W.cell? ⟨g, o, none⟩ = some v := (h.box _ hm).2
theorem RCmp_Q {v u : Value} {a b : Nat} (h : Kq cs ns rs w W) (h1 : (v, a) ∈ rs) (h2 : (u, b) ∈ rs) (ha : nd 65536 a ≤ 1048576) (hb : nd 65536 b ≤ 1048576) :
    Calls Tryd.prog 38 #[v, u] W fun e w' => e = .returned (.int .i64 (cmpN a b)) ∧ Kq cs ns rs w w' :=
  (RCmp_any _ _ a b W (h.dig _ h1) (h.dig _ h2) ha hb).mono fun _ _ ⟨he, k, hw⟩ => ⟨he, by rw [hw]; exact h.drewN k⟩
theorem awake_Q (h : Kq cs ns rs w W) : Calls Tryd.prog 6 #[] W fun e w' => e = .returned (.bool true) ∧ Kq cs ns rs w w' :=
  (awake_any W h.env).mono fun _ _ ⟨he, hB⟩ => ⟨he, h.next hB⟩
end
end Go.Proofs.YteajinpfigejfaaDoor
namespace Go.Proofs.YteajinpfigejfaaDoor
open Go Go.RowKit Gu

/-- what same keeps: both fractions -/
structure StS (w : World) (v u r s : Value) (P Q : Nat) (W : World) : Prop where
  n1 : D W v P
  n2 : D W u Q
  d1 : R W r P
  d2 : R W s Q
  env : Env W
  bel : Below w.heap.size w W
theorem StS.next {w W W' : World} {v u r s : Value} {P Q : Nat} (h : StS w v u r s P Q W) (hb : Below W.heap.size W W') : StS w v u r s P Q W' :=
  ⟨h.n1.below hb, h.n2.below hb, h.d1.below hb, h.d2.below hb, h.env.below hb, h.bel.trans (hb.mono h.bel.size)⟩
theorem fracText_zero : (⟨(fracText 0 1).toArray⟩ : ByteArray) = ⟨#[48]⟩ := by
  unfold fracText
  rw [if_pos rfl, decDigits_small (by decide)]
  rfl
set_option maxHeartbeats 1000000 in
theorem same_err (v u r s : Value) (n : Int) (w : World) (hv : D w v 0) (hu : D w u 0) (hn : n ≠ 0) (hr : ∃ a, R w r a) (hs : ∃ b, R w s b) (he : Env w) :
    Calls Tryd.prog 9 #[.agg #[v, u], .int .i64 n, .agg #[r, s], .int .i64 n] w fun e w' => e = .returned (.bool true) ∧ Below w.heap.size w w' := by
  have b2 : ∀ o1 o2, Below w.heap.size w ((w.alloc o1).alloc o2) := fun o1 o2 => ((Below.refl _ _).alloc (Nat.le_refl _) _).alloc (by simp) _
  have HST := Lib.hid (fun o1 o2 => FracString_any v u 0 0 ((w.alloc o1).alloc o2) (hv.below (b2 o1 o2)) (hu.below (b2 o1 o2)) (by rw [nd_zero]; omega) (by rw [nd_zero]; omega) (he.below (b2 o1 o2)))
  rw [show dn 0 = 1 from rfl, fracText_zero] at HST
  have HB := Lib.hid b2
  have hq : (n == 0) = false := beq_eq_false_iff_ne.2 hn
  obtain ⟨ao, ac, rfl, -⟩ := hv.shape
  obtain ⟨bo, bc, rfl, -⟩ := hu.shape
  obtain ⟨ra, hr⟩ := hr
  obtain ⟨sa, hs⟩ := hs
  obtain ⟨ro, rc, rfl, -⟩ := hr.shape
  obtain ⟨so, sc, rfl, -⟩ := hs.shape
  clear hv hu hr hs b2 hn
  generalize nd 65536 ra = la at *
  generalize nd 65536 sa = lb at *
  go_enter Tryd.func9, Tryd.ntmps9
  go_wp2_with fail
  refine (HST.out _ _).mono ?_
  rintro e w1 ⟨rfl, hb⟩
  have HBE := Lib.hid ((HB.out _ _).trans (hb.mono (HB.out _ _).size))
  clear hb
  go_wp2
  go_ret
  exact ⟨by simp, HBE.out⟩
set_option maxHeartbeats 2000000 in
set_option maxRecDepth 100000 in
theorem same_ok (v u r s : Value) (P Q : Nat) (w : World) (hv : D w v P) (hu : D w u Q) (hr : R w r P) (hs : R w s Q) (hQ : 0 < Q) (h1 : nd 65536 P ≤ 5000) (h2 : nd 65536 Q ≤ 5000) (he : Env w) :
    Calls Tryd.prog 9 #[.agg #[v, u], .int .i64 0, .agg #[r, s], .int .i64 0] w fun e w' => e = .returned (.bool true) ∧ Below w.heap.size w w' := by
  have k1 := nd_32 h1
  have k2 := nd_32 h2
  obtain ⟨W0, hW0⟩ : ∃ W0 : World, W0 = (w.alloc (.cells #[v, u] 26)).alloc (.cells #[r, s] 32) := ⟨_, rfl⟩
  have hz0 : W0.heap.size = w.heap.size + 2 := by rw [hW0]; simp
  have hbw : Below w.heap.size w W0 := by rw [hW0]; exact ((Below.refl _ _).alloc (Nat.le_refl _) _).alloc (by simp) _
  have hst0 : StS W0 v u r s P Q W0 := ⟨hv.below hbw, hu.below hbw, hr.below hbw, hs.below hbw, he.below hbw, Below.refl _ _⟩
  have ca : ∀ W, Below W0.heap.size W0 W → W.cell? ⟨w.heap.size, 0, none⟩ = some v ∧ W.cell? ⟨w.heap.size, 1, none⟩ = some u ∧ W.cell? ⟨w.heap.size + 1, 0, none⟩ = some r ∧ W.cell? ⟨w.heap.size + 1, 1, none⟩ = some s := fun W hb => by
    have e0 : W0.cell? ⟨w.heap.size, 0, none⟩ = some v := by rw [hW0]; exact (World.cell?_alloc_past _ _ _ (by simp)).trans (World.cell?_alloc_at _ _ _ _ rfl)
    have e1 : W0.cell? ⟨w.heap.size, 1, none⟩ = some u := by rw [hW0]; exact (World.cell?_alloc_past _ _ _ (by simp)).trans (World.cell?_alloc_at _ _ _ _ rfl)
    have e2 : W0.cell? ⟨w.heap.size + 1, 0, none⟩ = some r := by rw [hW0]; exact World.cell?_alloc_at _ _ _ _ (by simp)
    have e3 : W0.cell? ⟨w.heap.size + 1, 1, none⟩ = some s := by rw [hW0]; exact World.cell?_alloc_at _ _ _ _ (by simp)
    exact ⟨(hb.cell (p := ⟨w.heap.size, 0, none⟩) (by show w.heap.size < _; omega)).trans e0, (hb.cell (p := ⟨w.heap.size, 1, none⟩) (by show w.heap.size < _; omega)).trans e1, (hb.cell (p := ⟨w.heap.size + 1, 0, none⟩) (by show w.heap.size + 1 < _; omega)).trans e2, (hb.cell (p := ⟨w.heap.size + 1, 1, none⟩) (by show w.heap.size + 1 < _; omega)).trans e3⟩
  have HCA : Hid (∀ W, StS W0 v u r s P Q W → W.cell? ⟨w.heap.size, 0, none⟩ = some v ∧ W.cell? ⟨w.heap.size, 1, none⟩ = some u ∧ W.cell? ⟨w.heap.size + 1, 0, none⟩ = some r ∧ W.cell? ⟨w.heap.size + 1, 1, none⟩ = some s) := fun W h => ca W h.bel
  obtain ⟨S, hS⟩ : ∃ S : ByteArray, S = ⟨(fracText P Q).toArray⟩ := ⟨_, rfl⟩
  have HSA : Hid (∀ W, StS W0 v u r s P Q W → Calls Tryd.prog 27 #[.agg #[v, u]] W fun e w' => e = .returned (.string S) ∧ StS W0 v u r s P Q w') := fun W h => by
    have h3 := FracString_any v u P Q W h.n1 h.n2 (by omega) (by omega) h.env
    rw [dn_of hQ, ← hS] at h3
    exact h3.mono fun e w' ⟨he, hB⟩ => ⟨he, h.next hB⟩
  have HSB : Hid (∀ W, StS W0 v u r s P Q W → Calls Tryd.prog 40 #[.agg #[r, s]] W fun e w' => e = .returned (.string S) ∧ StS W0 v u r s P Q w') := fun W h => by
    rw [hS]
    exact (RFText_any r s P Q W h.d1 h.d2 (by omega) (by omega)).mono fun e w' ⟨he, hB⟩ => ⟨he, h.next hB⟩
  have HBW := Lib.hid hbw; have HW0 := Lib.hid hW0
  have hs2 := hst0.next ((Below.refl _ W0).drew)
  have hc0 := HCA.out _ hst0
  have hc2 := HCA.out _ hs2
  obtain ⟨ao, ac, rfl, -⟩ := hv.shape
  obtain ⟨bo, bc, rfl, -⟩ := hu.shape
  obtain ⟨ro, rc, rfl, -⟩ := hr.shape
  obtain ⟨so, sc, rfl, -⟩ := hs.shape
  clear hv hu hr hs hz0 hbw hW0 hS ca he k1 k2 h1 h2 hQ
  generalize nd 4294967296 P = la at *
  generalize nd 4294967296 Q = lb at *
  generalize nd 65536 P = lc at *
  generalize nd 65536 Q = ld at *
  go_enter Tryd.func9, Tryd.ntmps9
  go_wp2_with fail
  rw [← HW0.out]
  go_region_held3 (fun W : World => (W.cell? ⟨w.heap.size, 0, none⟩ = some (.slice ao la ac) ∧ W.cell? ⟨w.heap.size, 1, none⟩ = some (.slice bo lb bc) ∧ W.cell? ⟨w.heap.size + 1, 0, none⟩ = some (.slice ro lc rc) ∧ W.cell? ⟨w.heap.size + 1, 1, none⟩ = some (.slice so ld sc)) ∧ StS W0 (.slice ao la ac) (.slice bo lb bc) (.slice ro lc rc) (.slice so ld sc) P Q W) (first | (refine And.intro ?_ ?_ <;> assumption)) (first
    | (go_at_call 27; with_reducible refine (HSA.out _ ?h).mono ?_; (case h => assumption); rintro e w' ⟨rfl, hs'⟩; have hc' := HCA.out _ hs')
    | (go_at_call 40; with_reducible refine (HSB.out _ ?h).mono ?_; (case h => assumption); rintro e w' ⟨rfl, hs'⟩; have hc' := HCA.out _ hs'))
  all_goals
    have hT : StS W0 (.slice ao la ac) (.slice bo lb bc) (.slice ro lc rc) (.slice so ld sc) P Q w' := by assumption
    have HBE := Lib.hid (HBW.out.trans (hT.bel.mono HBW.out.size))
    clear hT
    go_wp2
    go_ret
    exact ⟨by simp, HBE.out⟩
end Go.Proofs.YteajinpfigejfaaDoor
