/- The contract of divideWindow. -/
import Derived.Test.YtgidmlffjelpnaaDoorTc
import Derived.Deep.RegionHeld3
namespace Go.Proofs.YtgidmlffjelpnaaDoor
open Go Go.RowKit Gu

/-- the two highest digits of a number, and what is below -/
theorem top_two {B d n : Nat} (hn : 2 ≤ n) (hd : d < B ^ n) : d / B ^ (n - 2) = dg B d (n - 1) * B + dg B d (n - 2) := by
  have e1 := div_succ B d (n - 2)
  rw [show n - 2 + 1 = n - 1 from by omega] at e1
  have e2 := div_succ B d (n - 1)
  rw [show n - 1 + 1 = n from by omega, Nat.div_eq_of_lt hd, Nat.mul_zero, Nat.add_zero] at e2
  rw [e1, e2, Nat.mul_comm B]; omega
/-- the three highest digits of a window -/
theorem top_three {B W n : Nat} (hn : 2 ≤ n) : W / B ^ (n - 2) = (W / B ^ n * B + dg B W (n - 1)) * B + dg B W (n - 2) := by
  have e1 := div_succ B W (n - 2)
  rw [show n - 2 + 1 = n - 1 from by omega] at e1
  have e2 := div_succ B W (n - 1)
  rw [show n - 1 + 1 = n from by omega] at e2
  rw [e1, e2, Nat.mul_comm B (dg B W (n - 1) + B * (W / B ^ n)), Nat.mul_comm B (W / B ^ n), Nat.add_comm (dg B W (n - 1))]; omega
/-- the estimate is the quotient, or one more -/
theorem win_est {B W d n : Nat} (hB : 1 < B) (hn : 2 ≤ n) (hd : d < B ^ n) (ht : 0 < dg B d (n - 1)) (hW : W < d * B) :
    ∃ e, e = est B ((W / B ^ n * B + dg B W (n - 1)) * B + dg B W (n - 2)) (dg B d (n - 1) * B + dg B d (n - 2)) ∧ (e = W / d ∨ e = W / d + 1) := by
  have hP : 0 < B ^ (n - 2) := Nat.pow_pos (by omega)
  have hv : B ≤ dg B d (n - 1) * B + dg B d (n - 2) := by
    have : B ≤ dg B d (n - 1) * B := Nat.le_mul_of_pos_left _ ht
    omega
  have eW : W = B ^ (n - 2) * ((W / B ^ n * B + dg B W (n - 1)) * B + dg B W (n - 2)) + W % B ^ (n - 2) := by
    rw [← top_three hn]; exact (Nat.div_add_mod _ _).symm
  have ed : d = B ^ (n - 2) * (dg B d (n - 1) * B + dg B d (n - 2)) + d % B ^ (n - 2) := by
    rw [← top_two hn hd]; exact (Nat.div_add_mod _ _).symm
  have h1 := Nat.mod_lt W hP
  have h2 := Nat.mod_lt d hP
  generalize (W / B ^ n * B + dg B W (n - 1)) * B + dg B W (n - 2) = u at *
  generalize dg B d (n - 1) * B + dg B d (n - 2) = v at *
  generalize W % B ^ (n - 2) = wl at *
  generalize d % B ^ (n - 2) = dl at *
  generalize B ^ (n - 2) = P at *
  have hlt : P * u + wl < (P * v + dl) * B := by rw [← eW, ← ed]; exact hW
  have hq : W / d = (P * u + wl) / (P * v + dl) := by rw [← eW, ← ed]
  have g1 := est_ge (by omega) (by omega) h1 hlt hq
  have g2 := est_le hP hv (by omega) h2 hlt hq
  exact ⟨_, rfl, by omega⟩
theorem win_top {B W d n : Nat} (hB : 0 < B) (hn : 1 ≤ n) (hd : d < B ^ n) (hW : W < d * B) : W / B ^ n ≤ dg B d (n - 1) := by
  have e2 := div_succ B d (n - 1)
  rw [show n - 1 + 1 = n from by omega, Nat.div_eq_of_lt hd, Nat.mul_zero, Nat.add_zero] at e2
  rw [← e2]
  have h : W / B ^ n ≤ d * B / B ^ n := Nat.div_le_div_right (Nat.le_of_lt hW)
  have e3 : d * B / B ^ n = d / B ^ (n - 1) := by
    have : B ^ n = B ^ (n - 1 + 1) := by rw [show n - 1 + 1 = n from by omega]
    rw [this, Nat.pow_succ, Nat.mul_div_mul_right _ _ hB]
  rw [e3] at h
  exact h
/-- the cells of a window -/
theorem buf_win {g M o n L W H i : Nat} {T : TypeId} {w : World} (h : Buf .u32 4294967296 T w g M (L + 4294967296 ^ o * (W + 4294967296 ^ (n + 1) * H))) (hL : L < 4294967296 ^ o) (hM : o + n + 1 ≤ M) (hi : i < n + 1) :
    w.cell? ⟨g, o + i, none⟩ = some (.int .u32 (dg 4294967296 W i : Nat)) := by
  rw [h.cell (by omega), dg_up (by decide) hL, dg_low (by decide) hi]
theorem dg_topw {B W n : Nat} (hW : W < B ^ (n + 1)) : dg B W n = W / B ^ n := by
  have e := div_succ B W n
  rw [Nat.div_eq_of_lt hW, Nat.mul_zero, Nat.add_zero] at e
  exact e.symm
theorem win_shape {B L W H o n : Nat} : L + B ^ o * (W + B ^ (n + 1) * H) = L + B ^ o * (W % B ^ n + B ^ n * (W / B ^ n + B * H)) := by
  have e : W + B ^ (n + 1) * H = W % B ^ n + B ^ n * (W / B ^ n + B * H) := by
    have := Nat.mod_add_div W (B ^ n)
    rw [Nat.mul_add, Nat.pow_succ, Nat.mul_assoc]
    omega
  rw [e]
theorem buf_top {g M o n L X wn H : Nat} {T : TypeId} {w : World} (h : Buf .u32 4294967296 T w g M (L + 4294967296 ^ o * (X + 4294967296 ^ n * (wn + 4294967296 * H)))) (hL : L < 4294967296 ^ o) (hX : X < 4294967296 ^ n) (hw : wn < 4294967296) (hM : o + n + 1 ≤ M) :
    w.cell? ⟨g, o + n, none⟩ = some (.int .u32 (wn : Nat)) := by
  rw [h.cell (by omega), dg_up (by decide) hL]
  have := dg_up (B := 4294967296) (i := 0) (y := wn + 4294967296 * H) (by decide) hX
  rw [Nat.add_zero] at this
  rw [this]; simp [dg, Nat.add_mul_mod_self_left, Nat.mod_eq_of_lt hw]
set_option maxHeartbeats 2000000 in
set_option maxRecDepth 100000 in
theorem divideWindow_any (g M o n cap L W H d : Nat) (v : Value) (w : World) (hb : Buf .u32 4294967296 85 w g M (L + 4294967296 ^ o * (W + 4294967296 ^ (n + 1) * H))) (hL : L < 4294967296 ^ o) (hW : W < d * 4294967296) (hM : o + n + 1 ≤ M) (hn2 : 2 ≤ n) (hn : n ≤ 1048576) (hcap : n + 1 ≤ cap)
    (hr : D w v d) (hrn : nd 4294967296 d = n) (hne : ∀ b o c l, v = .slice (some ⟨b, o, none⟩) l c → 0 < d → b ≠ g) :
    Calls Tryd.prog 107 #[.slice (some ⟨g, o, none⟩) (n + 1) cap, v] w fun e w' => e = .returned (.int .u32 (W / d : Nat)) ∧ W / d < 4294967296 ∧
      Buf .u32 4294967296 85 w' g M (L + 4294967296 ^ o * (W % d + 4294967296 ^ n * (W / 4294967296 ^ n + 4294967296 * H))) ∧ w.grownBy w' (some g) := by
  have hB : 2 ≤ 4294967296 := by decide
  have hd0 : 0 < d := by omega
  have hdn : d < 4294967296 ^ n := by rw [← hrn]; exact nd_lt hB d
  have htop : 0 < dg 4294967296 d (n - 1) := by rw [← hrn]; exact dg_top hB hd0
  obtain ⟨E, hE, hEq⟩ := win_est (B := 4294967296) (by decide) hn2 hdn htop hW
  have hq : W / d < 4294967296 := by rw [Nat.div_lt_iff_lt_mul hd0, Nat.mul_comm]; exact hW
  have hWn : W < 4294967296 ^ (n + 1) := by
    rw [Nat.pow_succ]
    exact Nat.lt_of_lt_of_le hW (Nat.mul_le_mul_right _ (Nat.le_of_lt hdn))
  have htw := win_top (B := 4294967296) (by decide) (by omega) hdn hW
  have hdtl := dg_lt (B := 4294967296) (by decide) d (n - 1)
  have hE1 : E < 4294967296 := by rw [hE]; exact Nat.lt_of_le_of_lt (Nat.min_le_left _ _) (by decide)
  have c1 := buf_win hb hL hM (i := n) (by omega)
  rw [dg_topw hWn] at c1
  have c2 := buf_win hb hL hM (i := n - 1) (by omega)
  have c3 := buf_win hb hL hM (i := n - 2) (by omega)
  obtain ⟨ao, ac, rfl, hcv⟩ := hr.shape
  rw [hrn] at hcv hr hne ⊢
  obtain ⟨bb, bo, rfl, d1⟩ := hcv (n - 1) (by omega)
  obtain ⟨bb', bo', hbb, d2⟩ := hcv (n - 2) (by omega)
  simp only [Option.some.injEq, Addr.mk.injEq, and_true] at hbb
  obtain ⟨rfl, rfl⟩ := hbb
  have HEST := Lib.hid (fun q => estimate_any g o n cap bb bo ac _ _ _ _ _ (w.drewN q) hn2 hn c1 c2 c3 d1 d2 htop hdtl (dg_lt (by decide) _ _) htw (dg_lt (by decide) _ _) (dg_lt (by decide) _ _))
  rw [← hE] at HEST
  rw [win_shape] at hb
  have hwn : W / 4294967296 ^ n < 4294967296 := by omega
  have hWl : W % 4294967296 ^ n < 4294967296 ^ n := Nat.mod_lt _ (Nat.pow_pos (by decide))
  have HWD : Hid (W = W % 4294967296 ^ n + 4294967296 ^ n * (W / 4294967296 ^ n)) := (Nat.mod_add_div _ _).symm
  have HEQ := Lib.hid hEq
  have HDN := Lib.hid hdn
  have HNE := Lib.hid hne
  have HR := Lib.hid hr
  have HQ := Lib.hid hq
  have hnd : nd 4294967296 d = n := hrn
  have HND := Lib.hid hnd
  have HSUB := Lib.hid (fun q => subtractRow_any g M o n n L (W % 4294967296 ^ n) (W / 4294967296 ^ n + 4294967296 * H) d E (.slice (some ⟨bb, bo, none⟩) n ac) (w.drewN q).drew hb hL hWl (by omega) hn ((IsN.drewN hr q).below (Below.refl _ _).drew) hnd hne hE1)
  have HTOP := Lib.hid (fun W1 X (h : Buf .u32 4294967296 85 W1 g M (L + 4294967296 ^ o * (X + 4294967296 ^ n * (W / 4294967296 ^ n + 4294967296 * H)))) (h2 : X < 4294967296 ^ n) => buf_top h hL h2 hwn (by omega))
  have HDG := Lib.hid (fun q W1 (h : (w.drewN q).drew.grownBy W1 (some g)) => IsN.grown (IsN.below (IsN.drewN hr q) (Below.refl _ _).drew) h (fun b o c l he h0 => hne b o c l he h0))
  have HADD := Lib.hid (fun X W1 (h1 : Buf .u32 4294967296 85 W1 g M (L + 4294967296 ^ o * (X + 4294967296 ^ n * (W / 4294967296 ^ n + 4294967296 * H)))) (h2 : X < 4294967296 ^ n) (h3 : D W1 (.slice (some ⟨bb, bo, none⟩) n ac) d) => addRow_any g M o n n L X (W / 4294967296 ^ n + 4294967296 * H) d 1 (.slice (some ⟨bb, bo, none⟩) n ac) W1 h1 hL h2 (by omega) hn h3 hnd hne (by decide))
  clear hb hWl hE hEq hdn htop hW hWn htw hdtl c2 c3 d1 d2 hcv hr hne hrn hq hnd hL
  have HDP := Lib.hid hd0
  clear hd0
  generalize W / 4294967296 ^ n = wn at *
  generalize W % 4294967296 ^ n = Wl at *
  go_enter Tryd.func107, Tryd.ntmps107
  go_wp2
  go_quiet ((go_at_call 113; exact Calls.quiet_of (HEST.out _)))
  go_wp2
  have c1' : (w.drewN nq).drew.cell? ⟨g, o + n, none⟩ = some (.int .u32 (wn : Nat)) := c1
  have HS1 := Lib.hid (HSUB.out nq)
  have hi1 : (0 : Int) ≤ n := by omega
  have hi2 : (n : Int) < ((n + 1 : Nat) : Int) := by omega
  have hi3 : (n : Int) < (n : Int) + 1 := by omega
  clear HSUB c1
  go_region_held3 (fun W : World => W.cell? ⟨g, o + n, none⟩ = some (.int .u32 (wn : Nat))) (assumption) (first | (go_at_call 114; refine HS1.out.mono ?_; rintro e w' ⟨X, c, rfl, hc, hX, hsum, hbf, hgr⟩; have hc2 := HTOP.out _ _ hbf hX))
  have HG1 : Hid (w.grownBy w' (some g)) := grownBy_trans (grownBy_drewN (grownBy_drewN (grownBy_refl _ _) nq) 1) hgr
  by_cases hcw : wn < c
  · have hE0 : 0 < E := by
      rcases Nat.eq_zero_or_pos E with h | h
      · subst h
        have h1 : 4294967296 ^ n * 1 ≤ 4294967296 ^ n * c := Nat.mul_le_mul_left _ (by omega)
        omega
      · exact h
    have HA := Lib.hid (HADD.out X w' hbf hX (HDG.out nq w' hgr))
    have HB1 : Hid (∀ Y k, Y < 4294967296 ^ n → Y + 4294967296 ^ n * k = X + 1 * d → E = W / d + 1 ∧ Y = W % d) := fun Y k hY hback => window_back hX HDN.out HWD.out hsum HEQ.out HDP.out hcw hY hback
    clear hsum hbf hgr hX hc2 HADD HS1
    go_wp2_with fail
    refine HA.out.mono ?_
    rintro e w2 ⟨Y, k, rfl, hk, hY, hback, hbf2, hgr2⟩
    have HB2 := Lib.hid (HB1.out Y k hY hback)
    have HBF := Lib.hid hbf2
    have HG2 := Lib.hid (grownBy_trans HG1.out hgr2)
    clear hback hbf2 hgr2 hY
    go_wp2
    go_ret
    exact ⟨ret_int' (by have := HB2.out.1; omega), HQ.out, by rw [← HB2.out.2]; exact HBF.out, HG2.out⟩
  · have HB2 := Lib.hid (window_ok HDN.out HWD.out hsum HEQ.out HDP.out (by omega))
    have HBF := Lib.hid hbf
    clear hsum hbf hgr hX hc2 HADD HS1
    go_wp2
    go_ret
    exact ⟨ret_int' (by have := HB2.out.1; omega), HQ.out, by rw [← HB2.out.2]; exact HBF.out, HG1.out⟩
end Go.Proofs.YtgidmlffjelpnaaDoor
