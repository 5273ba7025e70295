/- The contract of awake. -/
import Derived.Test.YtgidmlffjelpnaaDoorWt
namespace Go.Proofs.YtgidmlffjelpnaaDoor
open Go Go.RowKit Gu

theorem fit_small {n : Nat} (h : n < 2 ^ 64) : fitE n = 0 ∧ fitN n = n := by
  have : nd 2 n ≤ 16384 := Nat.le_trans ((nd_le (by decide : 2 ≤ 2)).2 h) (by decide)
  exact ⟨if_pos this, if_pos this⟩
theorem nd_small {n : Nat} (h : n < 4294967296) : nd 4294967296 n ≤ 1 := (nd_le (by decide)).2 (by simpa using h)
theorem parse10 (w : World) : Calls Tryd.prog 12 #[.string ⟨#[49, 48]⟩] w fun e w' => ∃ r, e = .returned (.tuple #[.agg #[r], .int .i64 0]) ∧ D w' r 10 ∧ Below w.heap.size w w' := by
  have h := Parse_num ⟨#[49, 48]⟩ w (by decide) (by decide)
  have e : sval (⟨#[49, 48]⟩ : ByteArray).data.toList = 10 := by decide
  rw [e, (fit_small (by decide : 10 < 2 ^ 64)).1, (fit_small (by decide : 10 < 2 ^ 64)).2] at h
  exact h
theorem add17 (v u : Value) (w : World) (hv : D w v 7) (hu : D w u 10) : Calls Tryd.prog 34 #[.agg #[v], .agg #[u]] w fun e w' => ∃ r, e = .returned (.tuple #[.agg #[r], .int .i64 0]) ∧ D w' r 17 ∧ Below w.heap.size w w' := by
  have h := Add_any v u 7 10 w hv hu (Nat.le_trans (nd_small (by decide)) (by decide)) (Nat.le_trans (nd_small (by decide)) (by decide))
  rw [(fit_small (by decide : 7 + 10 < 2 ^ 64)).1, (fit_small (by decide : 7 + 10 < 2 ^ 64)).2] at h
  exact h
theorem frac710 (v u : Value) (w : World) (hv : D w v 7) (hu : D w u 10) : Calls Tryd.prog 42 #[.agg #[v], .agg #[u]] w fun e w' => ∃ r s, e = .returned (.tuple #[.agg #[r, s], .int .i64 0]) ∧ D w' r 7 ∧ D w' s 10 ∧ Below w.heap.size w w' := by
  have h := NewFrac_any divide_small v u 7 10 w hv hu (by decide) (by decide) (by decide)
  have e : Nat.gcd 7 10 = 1 := by decide
  rw [e] at h
  exact h
theorem str17 (v : Value) (w : World) (hv : D w v 17) (he : Env w) : Calls Tryd.prog 26 #[.agg #[v]] w fun e w' => e = .returned (.string ⟨#[49, 55]⟩) ∧ Below w.heap.size w w' := by
  have h := String_any v 17 w hv (Nat.le_trans (nd_small (by decide)) (by decide)) he
  have e : Lib.decDigits 17 = [49, 55] := by
    rw [decDigits_big (by decide), decDigits_small (by decide)]; rfl
  rw [e] at h
  exact h
theorem fstr710 (v u : Value) (w : World) (hv : D w v 7) (hu : D w u 10) (he : Env w) : Calls Tryd.prog 43 #[.agg #[v, u]] w fun e w' => e = .returned (.string ⟨#[55, 47, 49, 48]⟩) ∧ Below w.heap.size w w' := by
  have h := FracString_two v u 7 10 w hv hu (by decide) (Nat.le_trans (nd_small (by decide)) (by decide)) (Nat.le_trans (nd_small (by decide)) (by decide)) he
  have e : Lib.decDigits 7 ++ 47 :: Lib.decDigits 10 = [55, 47, 49, 48] := by
    rw [decDigits_big (u := 10) (by decide), decDigits_small (u := 7) (by decide), decDigits_small (by decide)]; rfl
  rw [e] at h
  exact h
set_option maxHeartbeats 1000000 in
set_option maxRecDepth 100000 in
theorem awake_any (w : World) (he : Env w) :
    Calls Tryd.prog 11 #[] w fun e w' => e = .returned (.bool true) ∧ Below w.heap.size w w' := by
  have H7 := Lib.hid (New_any 7 w (by decide))
  have HE := Lib.hid he
  clear he
  go_enter Tryd.func11, Tryd.ntmps11
  go_wp2_with fail
  refine H7.out.mono ?_
  rintro e w1 ⟨va, rfl, hva, hb1⟩
  obtain ⟨ao, ac, rfl, -⟩ := hva.shape
  have HVA := Lib.hid hva; have HB1 := Lib.hid hb1
  clear hva hb1
  go_wp2_with fail
  refine (parse10 _).mono ?_
  rintro e w2 ⟨vb, rfl, hvb, hb2⟩
  obtain ⟨bo, bc, rfl, -⟩ := hvb.shape
  have hz2 := hb2.size
  simp only [World.size_alloc] at hz2
  have hl2 : w1.heap.size < w2.heap.size := by omega
  have HVA2 : Hid (D w2 (.slice ao (nd 4294967296 7) ac) 7) := (HVA.out.below ((Below.refl _ _).alloc (Nat.le_refl _) _)).below hb2
  have HB2 : Hid (Below w.heap.size w w2) := (HB1.out.alloc HB1.out.size _).trans (hb2.mono (by simp; have := HB1.out.size; omega))
  have cA : w2.cell? ⟨w1.heap.size, 0, none⟩ = some (.slice ao (nd 4294967296 7) ac) := (hb2.cell (p := ⟨w1.heap.size, 0, none⟩) (by simp)).trans (World.cell?_alloc_at _ _ _ _ rfl)
  have HVB := Lib.hid hvb
  clear hvb hb2
  go_wp2_with fail
  refine (add17 _ _ _ (HVA2.out.below ((Below.refl _ _).alloc (Nat.le_refl _) _)) (HVB.out.below ((Below.refl _ _).alloc (Nat.le_refl _) _))).mono ?_
  rintro e w3 ⟨vc, rfl, hvc, hb3⟩
  obtain ⟨co, cc, rfl, -⟩ := hvc.shape
  have hz3 := hb3.size
  simp only [World.size_alloc] at hz3
  have hl3 : w2.heap.size < w3.heap.size := by omega
  have HVA3 : Hid (D w3 (.slice ao (nd 4294967296 7) ac) 7) := (HVA2.out.below ((Below.refl _ _).alloc (Nat.le_refl _) _)).below hb3
  have HVB3 : Hid (D w3 (.slice bo (nd 4294967296 10) bc) 10) := (HVB.out.below ((Below.refl _ _).alloc (Nat.le_refl _) _)).below hb3
  have HB3 : Hid (Below w.heap.size w w3) := (HB2.out.alloc HB2.out.size _).trans (hb3.mono (by simp; have := HB2.out.size; omega))
  have cA3 : w3.cell? ⟨w1.heap.size, 0, none⟩ = some (.slice ao (nd 4294967296 7) ac) := ((hb3.cell (p := ⟨w1.heap.size, 0, none⟩) (by simp; omega)).trans (World.cell?_alloc_past _ _ _ (by omega))).trans cA
  have hl13 : w1.heap.size < w3.heap.size := by omega
  have cB3 : w3.cell? ⟨w2.heap.size, 0, none⟩ = some (.slice bo (nd 4294967296 10) bc) := (hb3.cell (p := ⟨w2.heap.size, 0, none⟩) (by simp)).trans (World.cell?_alloc_at _ _ _ _ rfl)
  have HVC := Lib.hid hvc
  clear hvc hb3 cA
  go_wp2_with fail
  refine (frac710 _ _ _ (HVA3.out.below ((Below.refl _ _).alloc (Nat.le_refl _) _)) (HVB3.out.below ((Below.refl _ _).alloc (Nat.le_refl _) _))).mono ?_
  rintro e w4 ⟨vd, ve, rfl, hvd, hve, hb4⟩
  obtain ⟨d_o, dc, rfl, -⟩ := hvd.shape
  obtain ⟨eo, ec, rfl, -⟩ := hve.shape
  have hz4 := hb4.size
  simp only [World.size_alloc] at hz4
  have hl4 : w3.heap.size < w4.heap.size := by omega
  have HVC4 : Hid (D w4 (.slice co (nd 4294967296 17) cc) 17) := (HVC.out.below ((Below.refl _ _).alloc (Nat.le_refl _) _)).below hb4
  have HB4 : Hid (Below w.heap.size w w4) := (HB3.out.alloc HB3.out.size _).trans (hb4.mono (by simp; have := HB3.out.size; omega))
  have cC4 : w4.cell? ⟨w3.heap.size, 0, none⟩ = some (.slice co (nd 4294967296 17) cc) := (hb4.cell (p := ⟨w3.heap.size, 0, none⟩) (by simp)).trans (World.cell?_alloc_at _ _ _ _ rfl)
  have HVD := Lib.hid hvd; have HVE := Lib.hid hve
  clear hvd hve hb4 cA3 cB3
  go_wp2_with fail
  refine (str17 _ _ (HVC4.out.below ((Below.refl _ _).alloc (Nat.le_refl _) _)) ((HE.out.below HB4.out).below ((Below.refl _ _).alloc (Nat.le_refl _) _))).mono ?_
  rintro e w5 ⟨rfl, hb5⟩
  have hz5 := hb5.size
  simp only [World.size_alloc] at hz5
  have hl5 : w4.heap.size < w5.heap.size := by omega
  have HVD5 : Hid (D w5 (.slice d_o (nd 4294967296 7) dc) 7) := (HVD.out.below ((Below.refl _ _).alloc (Nat.le_refl _) _)).below hb5
  have HVE5 : Hid (D w5 (.slice eo (nd 4294967296 10) ec) 10) := (HVE.out.below ((Below.refl _ _).alloc (Nat.le_refl _) _)).below hb5
  have HB5 : Hid (Below w.heap.size w w5) := (HB4.out.alloc HB4.out.size _).trans (hb5.mono (by simp; have := HB4.out.size; omega))
  have cD5 : w5.cell? ⟨w4.heap.size, 0, none⟩ = some (.slice d_o (nd 4294967296 7) dc) := (hb5.cell (p := ⟨w4.heap.size, 0, none⟩) (by simp)).trans (World.cell?_alloc_at _ _ _ _ rfl)
  have cE5 : w5.cell? ⟨w4.heap.size, 1, none⟩ = some (.slice eo (nd 4294967296 10) ec) := (hb5.cell (p := ⟨w4.heap.size, 1, none⟩) (by simp)).trans (World.cell?_alloc_at _ _ _ _ rfl)
  clear hb5 cC4
  go_wp2_with fail
  refine (fstr710 _ _ _ HVD5.out HVE5.out (HE.out.below HB5.out)).mono ?_
  rintro e w6 ⟨rfl, hb6⟩
  have HB6 := Lib.hid (HB5.out.trans (hb6.mono HB5.out.size))
  clear hb6
  go_wp2
  go_ret
  exact ⟨rfl, HB6.out⟩
end Go.Proofs.YtgidmlffjelpnaaDoor
