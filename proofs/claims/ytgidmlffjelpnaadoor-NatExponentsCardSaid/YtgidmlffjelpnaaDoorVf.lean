/- The contract of Pow. -/
import Derived.Test.YtgidmlffjelpnaaDoorVe
import Derived.Test.YtgidmlffjelpnaaDoorVd
namespace Go.Proofs.YtgidmlffjelpnaaDoor
open Go Go.RowKit Gu

/-- what a region keeps that stores its result into the block B, the last one that lay there when it began -/
structure St2 (B : Nat) (W0 : World) (v : Value) (a : Nat) (W : World) : Prop where
  num : D W v a
  bel : Below B W0 W
  lt : B < W.heap.size
  res : ∃ o l c, W.cell? ⟨B, 0, none⟩ = some (.slice o l c)
  fro : W.frozen? ⟨B, 0, none⟩ = false
theorem St2.next {B : Nat} {W0 W W' : World} {v : Value} {a : Nat} (h : St2 B W0 v a W) (hb : Below W.heap.size W W') : St2 B W0 v a W' :=
  ⟨h.num.below hb, h.bel.trans (hb.mono (Nat.le_of_lt h.lt)), Nat.lt_of_lt_of_le h.lt hb.size, by
    obtain ⟨o, l, c, hc⟩ := h.res
    exact ⟨o, l, c, (hb.cell (p := ⟨B, 0, none⟩) h.lt).trans hc⟩, (hb.frozen (p := ⟨B, 0, none⟩) h.lt).trans h.fro⟩
theorem St2.setCell {B : Nat} {W0 W : World} {v : Value} {a : Nat} (h : St2 B W0 v a W) (o : Option Addr) (l c : Nat) : St2 B W0 v a (W.setCell ⟨B, 0, none⟩ (.slice o l c)) := by
  obtain ⟨o', l', c', hc⟩ := h.res
  exact ⟨h.num.setCell hc (by intro d e; cases e) _, h.bel.setCell (Nat.le_refl _) _, by rw [World.size_setCell]; exact h.lt, ⟨o, l, c, World.cell?_setCell_same _ _ _ hc⟩, by simpa using h.fro⟩
theorem St2.cell {B k : Nat} {W0 W : World} {v : Value} {a : Nat} {x : Value} (h : St2 B W0 v a W) (hk : k < B) (hc : W0.cell? ⟨k, 0, none⟩ = some x) : W.cell? ⟨k, 0, none⟩ = some x :=
  (h.bel.cell (p := ⟨k, 0, none⟩) hk).trans hc
theorem pow_far {a n : Nat} (ha : 1 < nd 2 a) (hn : 16384 / (nd 2 a - 1) < n) : 16384 < nd 2 (a ^ n) := by
  have h0 : 0 < a := by
    rcases Nat.eq_zero_or_pos a with h | h
    · rw [h, nd_zero] at ha; omega
    · exact h
  have h1 := nd_pow_le (B := 2) (by decide) h0
  have h2 : 2 ^ ((nd 2 a - 1) * n) ≤ a ^ n := by rw [Nat.pow_mul]; exact Nat.pow_le_pow_left h1 n
  have h3 : 16384 < (nd 2 a - 1) * n := by
    have := (Nat.div_lt_iff_lt_mul (by omega)).1 hn
    rw [Nat.mul_comm]; exact this
  rcases Nat.lt_or_ge 16384 (nd 2 (a ^ n)) with h | h
  · exact h
  · have h4 := (nd_le (B := 2) (by decide)).1 (show nd 2 (a ^ n) ≤ (nd 2 a - 1) * n by omega)
    omega
theorem nd_two_up' {a m : Nat} (ha : nd 2 a ≤ m) : nd 4294967296 a ≤ m := by
  have h1 := (nd_le (by decide : 2 ≤ 2)).1 ha
  exact (nd_le (by decide : 2 ≤ 4294967296)).2 (Nat.lt_of_lt_of_le h1 (Nat.pow_le_pow_left (by decide) _))
theorem nd_one2 : nd 2 1 = 1 := nd_eq (k := 0) (by decide) (by decide) (by decide)
theorem pow_near {a n : Nat} (h : nd 2 a ≤ 1 ∨ n ≤ 16384 / (nd 2 a - 1)) (j : Nat) (hj : j ≤ n) : nd 2 (a ^ j) ≤ 32769 := by
  rcases Nat.lt_or_ge 1 (nd 2 a) with hb | hb
  · have h1 : n ≤ 16384 / (nd 2 a - 1) := by omega
    have h2 := (Nat.le_div_iff_mul_le (by omega)).1 h1
    have h3 : a ^ j ≤ 2 ^ (nd 2 a * j) := by rw [Nat.pow_mul]; exact Nat.pow_le_pow_left (Nat.le_of_lt (nd_lt (by decide) a)) j
    have h4 : a ^ j < 2 ^ (nd 2 a * j + 1) := Nat.lt_of_le_of_lt h3 (Nat.pow_lt_pow_right (by decide) (Nat.lt_succ_self _))
    have h5 := (nd_le (B := 2) (by decide)).2 h4
    obtain ⟨c, hc⟩ : ∃ c, nd 2 a = c + 1 := ⟨nd 2 a - 1, by omega⟩
    have h6 : nd 2 a * j = c * j + j := by rw [hc, Nat.add_mul, Nat.one_mul]
    rw [hc, Nat.add_sub_cancel] at h2
    have h7 : c * j ≤ n * c := by rw [Nat.mul_comm n c]; exact Nat.mul_le_mul_left _ hj
    have h8 : n * 1 ≤ n * c := Nat.mul_le_mul_left _ (by omega)
    omega
  · have h1 : a < 2 := by have := (nd_le (B := 2) (k := 1) (by decide)).1 hb; simpa using this
    have h2 : a ^ j ≤ 1 := by have := Nat.pow_le_pow_left (show a ≤ 1 by omega) j; rwa [Nat.one_pow] at this
    have h3 := nd_mono (B := 2) (by decide) h2
    rw [nd_one2] at h3
    omega
theorem product_enters : ∀ args w, (callFunc 55 args).run Tryd.prog w = .ok (.enter 55 args) w := enters_of Tryd.func55 (by kernel_rfl) rfl
theorem power_product (K : Nat) (hK : K ≤ 40000) (bv ev : Value) (b e : Nat) (w : World) (hb : D w bv b) (he : D w ev e) (hn : nd 4294967296 e ≤ 100000) (hj : ∀ j, j ≤ e → nd 2 (b ^ j) ≤ K) (hb2 : nd 2 b ≤ K) :
    Calls Tryd.prog 53 #[bv, ev, .func (.func 55) #[] #[]] w fun x w' => ∃ r, x = .returned r ∧ D w' r (b ^ e) ∧ Below w.heap.size w w' := by
  have hu : ∀ {x}, nd 2 x ≤ K → nd 4294967296 x ≤ 524288 := fun {x} h => by
    have := nd_two_up' h
    omega
  refine (npower_any 55 #[] (fun j x => x = b ^ j ∧ j ≤ e) bv ev b e w hb he hn ⟨rfl, Nat.zero_le _⟩ product_enters ?_ ?_).mono ?_
  · rintro W v x j hB hv ⟨rfl, hje⟩ h2
    refine (product_any v v _ _ W hv hv (hu (hj j hje)) (hu (hj j hje))).mono ?_
    rintro e' w' ⟨r, he', hr, hB'⟩
    exact ⟨r, _, he', hr, ⟨by rw [← Nat.pow_add]; congr 1; omega, h2⟩, hB'⟩
  · rintro W v u x j hB hv hu' ⟨rfl, hje⟩ h2
    refine (product_any v u _ _ W hv hu' (hu (hj j hje)) (hu hb2)).mono ?_
    rintro e' w' ⟨r, he', hr, hB'⟩
    exact ⟨r, _, he', hr, ⟨(Nat.pow_succ _ _).symm, h2⟩, hB'⟩
  · rintro x w' ⟨r, y, hx, hr, ⟨rfl, -⟩, hB⟩
    exact ⟨r, hx, hr, hB⟩
set_option maxHeartbeats 1000000 in
theorem Pow_neg (v : Value) (a : Nat) (n : Int) (w : World) (hv : D w v a) (hn : n < 0) :
    Calls Tryd.prog 17 #[.agg #[v], .int .i64 n] w fun e w' => e = .returned (.tuple #[.agg #[.slice none 0 0], .int .i64 2]) ∧ Below w.heap.size w w' := by
  have b2 : ∀ o1 o2, Below w.heap.size w ((w.alloc o1).alloc o2) := fun o1 o2 => ((Below.refl _ _).alloc (Nat.le_refl _) _).alloc (by simp) _
  have HB2 := Lib.hid b2
  obtain ⟨ao, ac, rfl, -⟩ := hv.shape
  clear hv b2
  go_enter Tryd.func17, Tryd.ntmps17
  go_wp2
  refine bodyPost_ret (v := .tuple #[.agg #[.slice none 0 0], .int .i64 2]) (by simp [results, Tryd.results17, go_sem]) rfl ⟨rfl, HB2.out _ _⟩
set_option maxHeartbeats 2000000 in
set_option maxRecDepth 100000 in
theorem Pow_any (v : Value) (a n : Nat) (w : World) (hv : D w v a) (ha : nd 2 a ≤ 30000) (hn : n ≤ 9223372036854775807) :
    Calls Tryd.prog 17 #[.agg #[v], .int .i64 n] w fun e w' => ∃ r, e = .returned (.tuple #[.agg #[r], .int .i64 (fitE (a ^ n))]) ∧ D w' r (fitN (a ^ n)) ∧ Below w.heap.size w w' := by
  have b2 : ∀ o1 o2, Below w.heap.size w ((w.alloc o1).alloc o2) := fun o1 o2 => ((Below.refl _ _).alloc (Nat.le_refl _) _).alloc (by simp) _
  have HB2 := Lib.hid b2
  have ha32 : nd 4294967296 a ≤ 30000 := nd_two_up' ha
  have HV := Lib.hid (fun o1 o2 => hv.below (b2 o1 o2))
  have HBL := Lib.hid (fun W (h : D W v a) => bitLen_any v a W h (by omega))
  have hn0 : ¬ ((n : Int) < 0) := by omega
  by_cases hfar : 1 < nd 2 a ∧ 16384 / (nd 2 a - 1) < n
  · have HP := pow_far hfar.1 hfar.2
    have HE : Hid (fitE (a ^ n) = 3 ∧ fitN (a ^ n) = 0) := ⟨if_neg (by omega), if_neg (by omega)⟩
    obtain ⟨h1, h2⟩ := hfar
    have h3 : (1 : Int) < (nd 2 a : Nat) := by omega
    have h4 : (16384 : Int) / (((nd 2 a : Nat) : Int) - 1) < n := by
      have e : (((nd 2 a : Nat) : Int) - 1) = ((nd 2 a - 1 : Nat) : Int) := by omega
      rw [e]
      exact_mod_cast h2
    obtain ⟨ao, ac, rfl, -⟩ := hv.shape
    clear hv b2 HP h2
    generalize fitE (a ^ n) = fe at *
    generalize fitN (a ^ n) = fn at *
    go_enter Tryd.func17, Tryd.ntmps17
    go_wp2_with fail
    refine (HBL.out _ (HV.out _ _)).mono ?_
    rintro e w1 ⟨rfl, rfl⟩
    go_wp2
    refine bodyPost_ret (v := .tuple #[.agg #[.slice none 0 0], .int .i64 3]) (by simp [results, Tryd.results17, go_sem]) rfl ⟨.slice none 0 0, by rw [HE.out.1], by rw [HE.out.2]; exact IsN.zero _ _ _ _ _, HB2.out _ _⟩
  · have hnear : nd 2 a ≤ 1 ∨ n ≤ 16384 / (nd 2 a - 1) := by omega
    have HNR := Lib.hid (pow_near hnear)
    have HNP := Lib.hid (pow_near hnear n (Nat.le_refl _))
    obtain ⟨W0, hW0⟩ : ∃ W0 : World, W0 = (w.alloc (.cells #[v] 26)).alloc (.cells #[.slice none 0 0] 26) := ⟨_, rfl⟩
    have hz0 : W0.heap.size = w.heap.size + 2 := by rw [hW0]; simp
    have c0 : W0.cell? ⟨w.heap.size, 0, none⟩ = some v := by rw [hW0]; exact (World.cell?_alloc_past _ _ _ (by simp)).trans (World.cell?_alloc_at _ _ _ _ rfl)
    have c1 : W0.cell? ⟨w.heap.size + 1, 0, none⟩ = some (.slice none 0 0) := by rw [hW0]; exact World.cell?_alloc_at _ _ _ _ (by simp)
    have f1 : W0.frozen? ⟨w.heap.size + 1, 0, none⟩ = false := by rw [hW0]; exact World.frozen?_alloc_at _ _ _ _ (by simp)
    have hst0 : St2 (w.heap.size + 1) W0 v a W0 := by
      refine ⟨?_, Below.refl _ _, by omega, ⟨_, _, _, c1⟩, f1⟩
      rw [hW0]; exact HV.out _ _
    have hbw : Below w.heap.size w W0 := by rw [hW0]; exact HB2.out _ _
    have HCA : Hid (∀ W, St2 (w.heap.size + 1) W0 v a W → W.cell? ⟨w.heap.size, 0, none⟩ = some v) := fun W h => h.cell (by omega) c0
    have HBW := Lib.hid hbw
    have HSZ : Hid (W0.heap.size = w.heap.size + 2) := hz0
    have HD1 : Hid (∀ W, St2 (w.heap.size + 1) W0 v a W → Calls Tryd.prog 54 #[.int .u64 (IntKind.u64.wrap (n : Int))] W fun e w' => ∃ o l c, e = .returned (.slice o l c) ∧ D w' (.slice o l c) n ∧ St2 (w.heap.size + 1) W0 v a w') := fun W h => by
      rw [IntWalk.u64_in _ (by omega)]
      exact (digitsOf_any n W (by omega)).mono fun e w' ⟨r, he, hr, hB⟩ => by
        obtain ⟨ro, rc, rfl, -⟩ := hr.shape
        exact ⟨ro, _, rc, he, hr, h.next hB⟩
    have HPW : Hid (∀ W u, St2 (w.heap.size + 1) W0 v a W → D W u n → Calls Tryd.prog 53 #[v, u, .func (.func 55) #[] #[]] W fun e w' => ∃ o l c, e = .returned (.slice o l c) ∧ D w' (.slice o l c) (a ^ n) ∧ St2 (w.heap.size + 1) W0 v a w') := fun W u h hu =>
      (power_product 32769 (by decide) v u a n W h.num hu (by have : nd 4294967296 n ≤ 2 := (nd_le (by decide)).2 (by omega); omega) HNR.out (by omega)).mono fun e w' ⟨r, he, hr, hB⟩ => by
        obtain ⟨ro, rc, rfl, -⟩ := hr.shape
        exact ⟨ro, _, rc, he, hr, h.next hB⟩
    have HFT : Hid (∀ W u, St2 (w.heap.size + 1) W0 v a W → D W u (a ^ n) → Calls Tryd.prog 52 #[u] W fun e w' => ∃ o l c, e = .returned (.tuple #[.agg #[.slice o l c], .int .i64 (fitE (a ^ n))]) ∧ D w' (.slice o l c) (fitN (a ^ n)) ∧ St2 (w.heap.size + 1) W0 v a w') := fun W u h hu =>
      (fitting_any u (a ^ n) W hu (by have := nd_two_up' HNP.out; omega)).mono fun e w' ⟨r, he, hr, hB⟩ => by
        obtain ⟨ro, rc, rfl, -⟩ := hr.shape
        exact ⟨ro, _, rc, he, hr, h.next hB⟩
    have HSET : Hid (∀ W o l c, St2 (w.heap.size + 1) W0 v a W → (W.setCell ⟨w.heap.size + 1, 0, none⟩ (.slice o l c)).cell? ⟨w.heap.size, 0, none⟩ = some v ∧ St2 (w.heap.size + 1) W0 v a (W.setCell ⟨w.heap.size + 1, 0, none⟩ (.slice o l c))) := fun W o l c h => ⟨HCA.out _ (h.setCell o l c), h.setCell o l c⟩
    obtain ⟨ao, ac, rfl, -⟩ := hv.shape
    have hs2 := hst0.next ((Below.refl _ W0).drew)
    have hca := HCA.out _ hs2
    have hcz := HCA.out _ hst0
    have h3 : (((nd 2 a : Nat) : Int) ≤ 1) ∨ ((1 : Int) < (nd 2 a : Nat) ∧ ¬ ((16384 : Int) / (((nd 2 a : Nat) : Int) - 1) < n)) := by
      rcases Nat.lt_or_ge 1 (nd 2 a) with h | h
      · refine .inr ⟨by omega, ?_⟩
        have e : (((nd 2 a : Nat) : Int) - 1) = ((nd 2 a - 1 : Nat) : Int) := by omega
        rw [e]
        have h2 : ¬ 16384 / (nd 2 a - 1) < n := by omega
        exact_mod_cast h2
      · exact .inl (by omega)
    have HW0 := Lib.hid hW0
    clear hz0 c0 c1 f1 hbw hv b2 hfar hnear HNR HNP hW0
    generalize fitE (a ^ n) = fe at *
    generalize fitN (a ^ n) = fn at *
    generalize a ^ n = an at *
    generalize nd 2 a = bl at *
    rcases h3 with h3 | ⟨h3, h4⟩
    all_goals
      go_enter Tryd.func17, Tryd.ntmps17
      go_wp2_with fail
      rw [← HW0.out]
      refine (HBL.out _ hst0.num).mono ?_
      rintro e w1 ⟨rfl, rfl⟩
      go_wp2_with fail
      go_region_held3 (fun W : World => W.cell? ⟨w.heap.size, 0, none⟩ = some (.slice ao (nd 4294967296 a) ac) ∧ St2 (w.heap.size + 1) W0 (.slice ao (nd 4294967296 a) ac) a W) (first | (refine And.intro ?_ ?_ <;> assumption) | exact HSET.out _ _ _ _ (by assumption)) (first
        | (go_at_call 54; with_reducible refine (HD1.out _ ?h).mono ?_; (case h => assumption); rintro e w' ⟨o1, l1, k1, rfl, hr', hs'⟩; have hc' := HCA.out _ hs')
        | (go_at_call 53; with_reducible refine (HPW.out _ _ ?h ?r).mono ?_; (case h => assumption); (case r => first | assumption | exact dchain (by assumption) (by assumption)); rintro e w' ⟨o1, l1, k1, rfl, hr', hs'⟩; have hc' := HCA.out _ hs')
        | (go_at_call 52; with_reducible refine (HFT.out _ _ ?h ?r).mono ?_; (case h => assumption); (case r => first | assumption | exact dchain (by assumption) (by assumption)); rintro e w' ⟨o1, l1, k1, rfl, hr', hs'⟩; have hc' := HCA.out _ hs'; obtain ⟨zo, zl, zc, hz'⟩ := hs'.res; have hf' := hs'.fro))
      all_goals
        have hD : D w' (.slice o1 l1 k1) fn := by assumption
        have hT : St2 (w.heap.size + 1) W0 (.slice ao (nd 4294967296 a) ac) a w' := by assumption
        obtain ⟨yo, yl, yc, hzc⟩ := hT.res
        have hcell : (w'.setCell ⟨w.heap.size + 1, 0, none⟩ (.slice o1 l1 k1)).cell? ⟨w.heap.size + 1, 0, none⟩ = some (.slice o1 l1 k1) := World.cell?_setCell_same _ _ _ hzc
        have HDD := Lib.hid (hD.setCell hzc (by intro d h; cases h) (.slice o1 l1 k1))
        have HBE := Lib.hid ((HBW.out.trans (hT.bel.mono (by omega))).setCell (p := ⟨w.heap.size + 1, 0, none⟩) (by show w.heap.size ≤ w.heap.size + 1; omega) (.slice o1 l1 k1))
        have HCE := Lib.hid hcell
        clear hD hT hzc hcell
        go_wp2
        have hcell := HCE.out
        refine bodyPost_ret (v := .tuple #[.agg #[.slice o1 l1 k1], .int .i64 fe]) (by simp [results, Tryd.results17, go_sem, hcell]) rfl ⟨_, rfl, HDD.out, HBE.out⟩
end Go.Proofs.YtgidmlffjelpnaaDoor
