/- Contracts and lemmas (several texts merged into one). -/
import Derived.Test.YteajinpfigejfaaGreatDoorBGep4
namespace Go.Proofs.YteajinpfigejfaaGreatDoor
open Go Go.RowKit Gu

/-- the denominator that b stands for -/
def dn (b : Nat) : Nat := if b = 0 then 1 else b
theorem dn_pos (b : Nat) : 0 < dn b := by unfold dn; split <;> omega
theorem dn_of {b : Nat} (h : 0 < b) : dn b = b := if_neg (by omega)
theorem dn_nd {b m : Nat} (h : nd 4294967296 b ≤ m) (hm : 1 ≤ m) : nd 4294967296 (dn b) ≤ m := by
  unfold dn
  split
  · exact Nat.le_trans (nd_small (by decide)) hm
  · exact h
set_option maxHeartbeats 1000000 in
theorem terms_zero (v u : Value) (a : Nat) (w : World) (hv : D w v a) (hu : D w u 0) :
    Calls Tryz.prog 34 #[.agg #[v, u]] w fun e w' => ∃ r, e = .returned (.tuple #[v, r]) ∧ D w' r 1 ∧ Below w.heap.size w w' := by
  have b1 : ∀ o, Below w.heap.size w (w.alloc o) := fun o => (Below.refl _ _).alloc (Nat.le_refl _) _
  obtain ⟨W0, hW0⟩ : ∃ W0 : World, W0 = w.alloc (.cells #[v, u] 26) := ⟨_, rfl⟩
  have hz0 : W0.heap.size = w.heap.size + 1 := by rw [hW0]; simp
  have hbw : Below w.heap.size w W0 := by rw [hW0]; exact b1 _
  have hst0 : St1 W0 v a W0 := ⟨hv.below hbw, Below.refl _ _⟩
  have c0 : W0.cell? ⟨w.heap.size, 0, none⟩ = some v := by rw [hW0]; exact World.cell?_alloc_at _ _ _ _ rfl
  have HCA : Hid (∀ W, St1 W0 v a W → W.cell? ⟨w.heap.size, 0, none⟩ = some v) := fun W h => h.cell (by omega) c0
  have HZ := Lib.hid (isZero_any u 0 W0 (hu.below hbw))
  rw [show decide ((0 : Nat) = 0) = true from rfl] at HZ
  have HD1 : Hid (∀ W, St1 W0 v a W → Calls Tryz.prog 35 #[.int .u64 1] W fun e w' => ∃ r, e = .returned r ∧ D w' r 1 ∧ St1 W0 v a w') := fun W h =>
    (digitsOf_any 1 W (by decide)).mono fun e w' ⟨r, he, hr, hB⟩ => ⟨r, he, hr, h.next hB⟩
  have HBW := Lib.hid hbw
  have HW0 := Lib.hid hW0
  obtain ⟨ao, ac, rfl, -⟩ := hv.shape
  obtain ⟨bo, bc, rfl, -⟩ := hu.shape
  have hs2 := hst0.next ((Below.refl _ W0).drew)
  have hc2 := HCA.out _ hs2
  have hc0 := HCA.out _ hst0
  clear hv hu b1 hz0 hbw c0 hW0
  go_enter Tryz.func34, Tryz.ntmps34
  go_wp2_with fail
  rw [← HW0.out]
  refine HZ.out.mono ?_
  rintro e w1 ⟨rfl, rfl⟩
  go_wp2_with fail
  go_region_held3 (fun W : World => W.cell? ⟨w.heap.size, 0, none⟩ = some (.slice ao (nd 4294967296 a) ac) ∧ St1 W0 (.slice ao (nd 4294967296 a) ac) a W) (first | (refine And.intro ?_ ?_ <;> assumption)) (first
    | (go_at_call 35; with_reducible refine (HD1.out _ ?h).mono ?_; (case h => assumption); rintro e w' ⟨o1, rfl, hr', hs'⟩; have hc' := HCA.out _ hs'))
  all_goals
    have hD : D w' o1 1 := by assumption
    have hT : St1 W0 (.slice ao (nd 4294967296 a) ac) a w' := by assumption
    have HDD := Lib.hid hD
    have HBE := Lib.hid (HBW.out.trans (hT.bel.mono HBW.out.size))
    clear hD hT
    go_wp2
    go_ret2
    exact ⟨_, rfl, HDD.out, HBE.out⟩
theorem terms_any (v u : Value) (a b : Nat) (w : World) (hv : D w v a) (hu : D w u b) :
    Calls Tryz.prog 34 #[.agg #[v, u]] w fun e w' => ∃ r, e = .returned (.tuple #[v, r]) ∧ D w' r (dn b) ∧ Below w.heap.size w w' := by
  rcases Nat.eq_zero_or_pos b with h | h
  · subst h
    rw [show dn 0 = 1 from rfl]
    exact terms_zero v u a w hv hu
  · rw [dn_of h]
    exact (terms_pos v u a b w hv hu h).mono fun e w' ⟨he, hB⟩ => ⟨u, he, hu.below hB, hB⟩
/-- the text of a fraction -/
def fracText (a b : Nat) : List UInt8 := if b = 1 then Lib.decDigits a else Lib.decDigits a ++ 47 :: Lib.decDigits b
set_option maxHeartbeats 1000000 in
theorem FracString_one (v u : Value) (a b : Nat) (w : World) (hv : D w v a) (hu : D w u b) (hb : dn b = 1) (ha : nd 4294967296 a ≤ 100000) (he : Env w) :
    Calls Tryz.prog 23 #[.agg #[v, u]] w fun e w' => e = .returned (.string ⟨(Lib.decDigits a).toArray⟩) ∧ Below w.heap.size w w' := by
  have b1 : ∀ o, Below w.heap.size w (w.alloc o) := fun o => (Below.refl _ _).alloc (Nat.le_refl _) _
  have HT := Lib.hid (fun o => terms_any v u a b (w.alloc o) (hv.below (b1 o)) (hu.below (b1 o)))
  rw [hb] at HT
  have HO := Lib.hid (fun r w' (h : D w' r 1) => isOne_any r 1 w' h)
  rw [show decide ((1 : Nat) = 1) = true from rfl] at HO
  have HSA := Lib.hid (fun o w' (h : Below (w.alloc o).heap.size (w.alloc o) w') => String_any v a w' ((hv.below (b1 o)).below h) ha ((he.below (b1 o)).below h))
  have HB1 := Lib.hid b1
  obtain ⟨Sa, hSa⟩ : ∃ Sa : ByteArray, Sa = ⟨(Lib.decDigits a).toArray⟩ := ⟨_, rfl⟩
  rw [← hSa] at HSA ⊢
  obtain ⟨ao, ac, rfl, -⟩ := hv.shape
  obtain ⟨bo, bc, rfl, -⟩ := hu.shape
  clear hv hu b1 he hSa hb
  go_enter Tryz.func23, Tryz.ntmps23
  go_wp2_with fail
  refine (HT.out _).mono ?_
  rintro e w1 ⟨r, rfl, hr, hb1⟩
  have HB2 := Lib.hid hb1; have HR := Lib.hid hr; clear hb1 hr
  go_wp2_with fail
  refine (HO.out _ _ HR.out).mono ?_
  rintro e w2 ⟨rfl, rfl⟩
  go_wp2_with fail
  refine (HSA.out _ _ HB2.out).mono ?_
  rintro e w2 ⟨rfl, hb2⟩
  have HB3 := Lib.hid ((HB1.out _).trans ((HB2.out.trans (hb2.mono HB2.out.size)).mono (by simp))); clear hb2
  go_wp2
  go_ret
  exact ⟨rfl, HB3.out⟩
theorem FracString_any (v u : Value) (a b : Nat) (w : World) (hv : D w v a) (hu : D w u b) (ha : nd 4294967296 a ≤ 100000) (hb2 : nd 4294967296 b ≤ 100000) (he : Env w) :
    Calls Tryz.prog 23 #[.agg #[v, u]] w fun e w' => e = .returned (.string ⟨(fracText a (dn b)).toArray⟩) ∧ Below w.heap.size w w' := by
  unfold fracText
  by_cases h : dn b = 1
  · rw [if_pos h]
    exact FracString_one v u a b w hv hu h ha he
  · rw [if_neg h]
    have h1 : 1 < b := by
      unfold dn at h
      split at h <;> omega
    rw [dn_of (by omega)]
    exact FracString_two v u a b w hv hu h1 ha hb2 he
set_option maxHeartbeats 1000000 in
theorem FNum_any (v u : Value) (a b : Nat) (w : World) (hv : D w v a) (hu : D w u b) (ha : nd 4294967296 a ≤ 1048576) :
    Calls Tryz.prog 25 #[.agg #[v, u]] w fun e w' => ∃ r, e = .returned (.agg #[r]) ∧ D w' r a ∧ Below w.heap.size w w' := by
  have b2 : ∀ o1 o2, Below w.heap.size w ((w.alloc o1).alloc o2) := fun o1 o2 => ((Below.refl _ _).alloc (Nat.le_refl _) _).alloc (by simp) _
  have HT := Lib.hid (fun o1 o2 => terms_any v u a b ((w.alloc o1).alloc o2) (hv.below (b2 o1 o2)) (hu.below (b2 o1 o2)))
  have HC := Lib.hid (fun o1 o2 w' (h : Below ((w.alloc o1).alloc o2).heap.size ((w.alloc o1).alloc o2) w') => clone_any v a w' ((hv.below (b2 o1 o2)).below h) ha)
  have HB := Lib.hid b2
  obtain ⟨ao, ac, rfl, -⟩ := hv.shape
  obtain ⟨bo, bc, rfl, -⟩ := hu.shape
  clear hv hu b2
  go_enter Tryz.func25, Tryz.ntmps25
  go_wp2_with fail
  refine (HT.out _ _).mono ?_
  rintro e w1 ⟨r, rfl, -, hb1⟩
  have HB1 := Lib.hid hb1
  go_wp2_with fail
  refine (HC.out _ _ _ HB1.out).mono ?_
  rintro e w2 ⟨x, rfl, hx, hb2⟩
  obtain ⟨xo, xc, rfl, -⟩ := hx.shape
  have hb3 := HB1.out.trans (hb2.mono HB1.out.size)
  have hcell : w2.cell? ⟨w.heap.size + 1, 0, none⟩ = some (.slice none 0 0) := (hb3.cell (p := ⟨w.heap.size + 1, 0, none⟩) (by simp)).trans (World.cell?_alloc_at _ _ _ _ (by simp))
  have hfr : w2.frozen? ⟨w.heap.size + 1, 0, none⟩ = false := (hb3.frozen (p := ⟨w.heap.size + 1, 0, none⟩) (by simp)).trans (World.frozen?_alloc_at _ _ _ _ (by simp))
  have HX := Lib.hid hx; have HCE := Lib.hid hcell
  have HBE := Lib.hid ((HB.out _ _).trans (hb3.mono (HB.out _ _).size))
  clear hx hb1 hb2 hb3
  go_wp2
  refine bodyPost_ret (v := .agg #[.slice xo (nd 4294967296 a) xc]) (by simp [results, Tryz.results25, go_sem, hcell]) rfl ⟨_, rfl, HX.out.setCell HCE.out (by intro d h; cases h) _, HBE.out.setCell (by show w.heap.size ≤ w.heap.size + 1; omega) _⟩
set_option maxHeartbeats 1000000 in
theorem FDen_any (v u : Value) (a b : Nat) (w : World) (hv : D w v a) (hu : D w u b) (hb : nd 4294967296 (dn b) ≤ 1048576) :
    Calls Tryz.prog 15 #[.agg #[v, u]] w fun e w' => ∃ r, e = .returned (.agg #[r]) ∧ D w' r (dn b) ∧ Below w.heap.size w w' := by
  have b2 : ∀ o1 o2, Below w.heap.size w ((w.alloc o1).alloc o2) := fun o1 o2 => ((Below.refl _ _).alloc (Nat.le_refl _) _).alloc (by simp) _
  have HT := Lib.hid (fun o1 o2 => terms_any v u a b ((w.alloc o1).alloc o2) (hv.below (b2 o1 o2)) (hu.below (b2 o1 o2)))
  have HC := Lib.hid (fun r w' (h : D w' r (dn b)) => clone_any r (dn b) w' h hb)
  have HB := Lib.hid b2
  obtain ⟨ao, ac, rfl, -⟩ := hv.shape
  obtain ⟨bo, bc, rfl, -⟩ := hu.shape
  clear hv hu b2
  generalize dn b = db at *
  go_enter Tryz.func15, Tryz.ntmps15
  go_wp2_with fail
  refine (HT.out _ _).mono ?_
  rintro e w1 ⟨r, rfl, hr, hb1⟩
  have HB1 := Lib.hid hb1; have HR := Lib.hid hr
  clear hr
  go_wp2_with fail
  refine (HC.out _ _ HR.out).mono ?_
  rintro e w2 ⟨x, rfl, hx, hb2⟩
  obtain ⟨xo, xc, rfl, -⟩ := hx.shape
  have hb3 := HB1.out.trans (hb2.mono HB1.out.size)
  have hcell : w2.cell? ⟨w.heap.size + 1, 0, none⟩ = some (.slice none 0 0) := (hb3.cell (p := ⟨w.heap.size + 1, 0, none⟩) (by simp)).trans (World.cell?_alloc_at _ _ _ _ (by simp))
  have hfr : w2.frozen? ⟨w.heap.size + 1, 0, none⟩ = false := (hb3.frozen (p := ⟨w.heap.size + 1, 0, none⟩) (by simp)).trans (World.frozen?_alloc_at _ _ _ _ (by simp))
  have HX := Lib.hid hx; have HCE := Lib.hid hcell
  have HBE := Lib.hid ((HB.out _ _).trans (hb3.mono (HB.out _ _).size))
  clear hx hb1 hb2 hb3
  go_wp2
  refine bodyPost_ret (v := .agg #[.slice xo (nd 4294967296 db) xc]) (by simp [results, Tryz.results15, go_sem, hcell]) rfl ⟨_, rfl, HX.out.setCell HCE.out (by intro d h; cases h) _, HBE.out.setCell (by show w.heap.size ≤ w.heap.size + 1; omega) _⟩
end Go.Proofs.YteajinpfigejfaaGreatDoor
namespace Go.Proofs.YteajinpfigejfaaGreatDoor
open Go Go.RowKit Gu

def ffE (P Q : Nat) : Int := if nd 2 P ≤ 16384 ∧ nd 2 Q ≤ 16384 then 0 else 3
def ffN (P Q x : Nat) : Nat := if nd 2 P ≤ 16384 ∧ nd 2 Q ≤ 16384 then x else 0
/-- in lowest terms -/
def lowP (a b : Nat) : Nat := a / Nat.gcd a b
def lowQ (a b : Nat) : Nat := b / Nat.gcd a b
set_option maxHeartbeats 1000000 in
theorem crossed_any (v u x y : Value) (a b c d : Nat) (w : World) (hv : D w v a) (hu : D w u b) (hx : D w x c) (hy : D w y d) (ha : nd 4294967296 a ≤ 100000) (hb : nd 4294967296 b ≤ 100000) (hc : nd 4294967296 c ≤ 100000) (hd : nd 4294967296 d ≤ 100000) :
    Calls Tryz.prog 48 #[.agg #[v, u], .agg #[x, y]] w fun e w' => ∃ r1 r2 r3, e = .returned (.tuple #[r1, r2, r3]) ∧ D w' r1 (a * dn d) ∧ D w' r2 (c * dn b) ∧ D w' r3 (dn b * dn d) ∧ Below w.heap.size w w' := by
  have b2 : ∀ o1 o2, Below w.heap.size w ((w.alloc o1).alloc o2) := fun o1 o2 => ((Below.refl _ _).alloc (Nat.le_refl _) _).alloc (by simp) _
  have hdb := dn_nd hb (by decide)
  have hdd := dn_nd hd (by decide)
  have HT1 := Lib.hid (fun o1 o2 => terms_any v u a b ((w.alloc o1).alloc o2) (hv.below (b2 o1 o2)) (hu.below (b2 o1 o2)))
  have HT2 := Lib.hid (fun o1 o2 w' (h : Below ((w.alloc o1).alloc o2).heap.size ((w.alloc o1).alloc o2) w') => terms_any x y c d w' ((hx.below (b2 o1 o2)).below h) ((hy.below (b2 o1 o2)).below h))
  have HA := Lib.hid (fun o1 o2 => hv.below (b2 o1 o2))
  have HC := Lib.hid (fun o1 o2 => hx.below (b2 o1 o2))
  have HB := Lib.hid b2
  obtain ⟨ao, ac, rfl, -⟩ := hv.shape
  obtain ⟨bo, bc, rfl, -⟩ := hu.shape
  obtain ⟨co, cc, rfl, -⟩ := hx.shape
  obtain ⟨eo, ec, rfl, -⟩ := hy.shape
  clear hv hu hx hy b2
  generalize dn b = B at *
  generalize dn d = E at *
  go_enter Tryz.func48, Tryz.ntmps48
  go_wp2_with fail
  refine (HT1.out _ _).mono ?_
  rintro e w1 ⟨r, rfl, hr, hb1⟩
  obtain ⟨ro, rc, rfl, -⟩ := hr.shape
  have HB1 := Lib.hid hb1; have HR := Lib.hid hr
  have e0 : w1.cell? ⟨w.heap.size + 1, 0, none⟩ = some (.slice co (nd 4294967296 c) cc) := (hb1.cell (p := ⟨w.heap.size + 1, 0, none⟩) (by simp)).trans (World.cell?_alloc_at _ _ _ _ (by simp))
  have e1 : w1.cell? ⟨w.heap.size + 1, 1, none⟩ = some (.slice eo (nd 4294967296 d) ec) := (hb1.cell (p := ⟨w.heap.size + 1, 1, none⟩) (by simp)).trans (World.cell?_alloc_at _ _ _ _ (by simp))
  clear hr hb1
  go_wp2_with fail
  refine (HT2.out _ _ _ HB1.out).mono ?_
  rintro e w2 ⟨s, rfl, hs, hb2⟩
  obtain ⟨so, sc, rfl, -⟩ := hs.shape
  have HB2 := Lib.hid (HB1.out.trans (hb2.mono HB1.out.size)); have HS := Lib.hid hs; have HR2 := Lib.hid (HR.out.below hb2)
  clear hs hb2 HR e0 e1
  have HA2 := Lib.hid ((HA.out _ _).below HB2.out)
  have HC2 := Lib.hid ((HC.out _ _).below HB2.out)
  have HP1 := Lib.hid (product_any _ _ a E w2 HA2.out HS.out (by omega) (by omega))
  go_wp2_with fail
  refine HP1.out.mono ?_
  rintro e w3 ⟨p1, rfl, hp1, hb3⟩
  have HB3 := Lib.hid (HB2.out.trans (hb3.mono HB2.out.size)); have HQ1 := Lib.hid hp1; have HR3 := Lib.hid (HR2.out.below hb3); have HS3 := Lib.hid (HS.out.below hb3); have HC3 := Lib.hid (HC2.out.below hb3)
  clear hp1 hb3
  have HP2 := Lib.hid (product_any _ _ c B w3 HC3.out HR3.out (by omega) (by omega))
  go_wp2_with fail
  refine HP2.out.mono ?_
  rintro e w4 ⟨p2, rfl, hp2, hb4⟩
  have HB4 := Lib.hid (HB3.out.trans (hb4.mono HB3.out.size)); have HQ2 := Lib.hid hp2; have HQ1' := Lib.hid (HQ1.out.below hb4); have HR4 := Lib.hid (HR3.out.below hb4); have HS4 := Lib.hid (HS3.out.below hb4)
  clear hp2 hb4
  have HP3 := Lib.hid (product_any _ _ B E w4 HR4.out HS4.out (by omega) (by omega))
  go_wp2_with fail
  refine HP3.out.mono ?_
  rintro e w5 ⟨p3, rfl, hp3, hb5⟩
  have HB5 := Lib.hid ((HB.out _ _).trans ((HB4.out.trans (hb5.mono HB4.out.size)).mono (HB.out _ _).size)); have HQ3 := Lib.hid hp3; have HX1 := Lib.hid (HQ1'.out.below hb5); have HX2 := Lib.hid (HQ2.out.below hb5)
  clear hp3 hb5
  go_wp2
  refine bodyPost_ret (v := .tuple #[p1, p2, p3]) (by simp [results, Tryz.results48, go_sem]) rfl ⟨_, _, _, rfl, HX1.out, HX2.out, HQ3.out, HB5.out⟩
set_option maxHeartbeats 1000000 in
theorem FCmp_any (v u x y : Value) (a b c d : Nat) (w : World) (hv : D w v a) (hu : D w u b) (hx : D w x c) (hy : D w y d) (ha : nd 4294967296 a ≤ 100000) (hb : nd 4294967296 b ≤ 100000) (hc : nd 4294967296 c ≤ 100000) (hd : nd 4294967296 d ≤ 100000) :
    Calls Tryz.prog 18 #[.agg #[v, u], .agg #[x, y]] w fun e w' => e = .returned (.int .i64 (cmpN (a * dn d : Nat) (c * dn b : Nat))) ∧ Below w.heap.size w w' := by
  have b2 : ∀ o1 o2, Below w.heap.size w ((w.alloc o1).alloc o2) := fun o1 o2 => ((Below.refl _ _).alloc (Nat.le_refl _) _).alloc (by simp) _
  have HT1 := Lib.hid (fun o1 o2 => crossed_any v u x y a b c d ((w.alloc o1).alloc o2) (hv.below (b2 o1 o2)) (hu.below (b2 o1 o2)) (hx.below (b2 o1 o2)) (hy.below (b2 o1 o2)) ha hb hc hd)
  have h1 := nd_mul ha (dn_nd hd (by decide))
  have h2 := nd_mul hc (dn_nd hb (by decide))
  have HB := Lib.hid b2
  obtain ⟨ao, ac, rfl, -⟩ := hv.shape
  obtain ⟨bo, bc, rfl, -⟩ := hu.shape
  obtain ⟨co, cc, rfl, -⟩ := hx.shape
  obtain ⟨eo, ec, rfl, -⟩ := hy.shape
  clear hv hu hx hy b2
  generalize a * dn d = P at *
  generalize c * dn b = Q at *
  go_enter Tryz.func18, Tryz.ntmps18
  go_wp2_with fail
  refine (HT1.out _ _).mono ?_
  rintro e w1 ⟨r1, r2, r3, rfl, hr1, hr2, -, hb1⟩
  have HB1 := Lib.hid ((HB.out _ _).trans (hb1.mono (HB.out _ _).size))
  have HCM := Lib.hid (compare_any r1 r2 P Q w1 hr1 hr2 (by omega) (by omega))
  clear hr1 hr2 hb1
  go_wp2_with fail
  refine HCM.out.mono ?_
  rintro e w2 ⟨rfl, k, rfl⟩
  go_wp2
  go_ret
  exact ⟨rfl, below_drewN HB1.out k⟩
/-- what the end of a function with a result of two cells reads, where a box was made before -/
theorem fit_end {w w1 : World} {B : Nat} (d0 : w1.cell? ⟨B, 0, none⟩ = some (.slice none 0 0)) (d1 : w1.cell? ⟨B, 1, none⟩ = some (.slice none 0 0)) (hb : Below w.heap.size w w1) (hB : w.heap.size ≤ B) (hlt : B < w1.heap.size) (x y : Value) (o : Obj) :
    (((w1.setCell ⟨B, 0, none⟩ x).setCell ⟨B, 1, none⟩ y).alloc o).cell? ⟨B, 0, none⟩ = some x ∧ (((w1.setCell ⟨B, 0, none⟩ x).setCell ⟨B, 1, none⟩ y).alloc o).cell? ⟨B, 1, none⟩ = some y ∧ Below w.heap.size w (((w1.setCell ⟨B, 0, none⟩ x).setCell ⟨B, 1, none⟩ y).alloc o) := by
  obtain ⟨t0, t1⟩ := read_two d0 d1 x y
  have hl : B < ((w1.setCell ⟨B, 0, none⟩ x).setCell ⟨B, 1, none⟩ y).heap.size := by rw [World.size_setCell, World.size_setCell]; exact hlt
  exact ⟨(World.cell?_alloc_past _ _ _ hl).trans t0, (World.cell?_alloc_past _ _ _ hl).trans t1, ((hb.setCell hB _).setCell hB _).alloc (Nat.le_of_lt (Nat.lt_of_le_of_lt hB hl)) _⟩
set_option maxHeartbeats 2000000 in
theorem fittingFrac_any (v u : Value) (a b : Nat) (w : World) (hv : D w v a) (hu : D w u b) (hb : 0 < b) (ha : nd 4294967296 a ≤ 300000) (hbn : nd 4294967296 b ≤ 300000) :
    Calls Tryz.prog 49 #[v, u] w fun e w' => ∃ r s, e = .returned (.tuple #[.agg #[r, s], .int .i64 (ffE (lowP a b) (lowQ a b))]) ∧ D w' r (ffN (lowP a b) (lowQ a b) (lowP a b)) ∧ D w' s (ffN (lowP a b) (lowQ a b) (lowQ a b)) ∧ Below w.heap.size w w' := by
  have b1 : ∀ o, Below w.heap.size w (w.alloc o) := fun o => (Below.refl _ _).alloc (Nat.le_refl _) _
  obtain ⟨N, hN⟩ : ∃ N, N = 300000 := ⟨_, rfl⟩
  have HDV := Lib.hid (divide_long N (by omega))
  have HL := Lib.hid (fun o => lowest_any HDV.out v u a b (w.alloc o) (hv.below (b1 o)) (hu.below (b1 o)) hb ((nd_le (by decide)).1 (by omega)) ((nd_le (by decide)).1 (by omega)))
  have hP : nd 4294967296 (lowP a b) ≤ 1048576 := Nat.le_trans (nd_mono (by decide) (Nat.div_le_self _ _)) (by omega)
  have hQ : nd 4294967296 (lowQ a b) ≤ 1048576 := Nat.le_trans (nd_mono (by decide) (Nat.div_le_self _ _)) (by omega)
  rw [show a / Nat.gcd a b = lowP a b from rfl, show b / Nat.gcd a b = lowQ a b from rfl] at HL
  have HB := Lib.hid b1
  obtain ⟨ao, ac, rfl, -⟩ := hv.shape
  obtain ⟨bo, bc, rfl, -⟩ := hu.shape
  clear hv hu b1 hN HDV hb ha hbn
  generalize lowP a b = P at *
  generalize lowQ a b = Q at *
  have hcase : (nd 2 P ≤ 16384 ∧ nd 2 Q ≤ 16384 ∧ ffE P Q = 0 ∧ (∀ x, ffN P Q x = x)) ∨ (16384 < nd 2 P ∧ ffE P Q = 3 ∧ (∀ x, ffN P Q x = 0)) ∨ (nd 2 P ≤ 16384 ∧ 16384 < nd 2 Q ∧ ffE P Q = 3 ∧ (∀ x, ffN P Q x = 0)) := by
    by_cases h1 : nd 2 P ≤ 16384
    · by_cases h2 : nd 2 Q ≤ 16384
      · exact .inl ⟨h1, h2, if_pos ⟨h1, h2⟩, fun x => if_pos ⟨h1, h2⟩⟩
      · exact .inr (.inr ⟨h1, by omega, if_neg (fun h => h2 h.2), fun x => if_neg (fun h => h2 h.2)⟩)
    · exact .inr (.inl ⟨by omega, if_neg (fun h => h1 h.1), fun x => if_neg (fun h => h1 h.1)⟩)
  have hres : Hid ((∃ x y, x = ffN P Q P ∧ y = ffN P Q Q)) := ⟨_, _, rfl, rfl⟩
  go_enter Tryz.func49, Tryz.ntmps49
  go_wp2_with fail
  refine (HL.out _).mono ?_
  rintro e w1 ⟨r, s, rfl, hr, hs, hb1⟩
  obtain ⟨ro, rc, rfl, -⟩ := hr.shape
  obtain ⟨so, sc, rfl, -⟩ := hs.shape
  have hz := hb1.size
  simp only [World.size_alloc] at hz
  have hlt : w.heap.size < w1.heap.size := by omega
  have HLT := Lib.hid hlt
  have d0 : w1.cell? ⟨w.heap.size, 0, none⟩ = some (.slice none 0 0) := (hb1.cell (p := ⟨w.heap.size, 0, none⟩) (by simp)).trans (World.cell?_alloc_at _ _ _ _ rfl)
  have d1 : w1.cell? ⟨w.heap.size, 1, none⟩ = some (.slice none 0 0) := (hb1.cell (p := ⟨w.heap.size, 1, none⟩) (by simp)).trans (World.cell?_alloc_at _ _ _ _ rfl)
  have g0 : w1.frozen? ⟨w.heap.size, 0, none⟩ = false := (hb1.frozen (p := ⟨w.heap.size, 0, none⟩) (by simp)).trans (World.frozen?_alloc_at _ _ _ _ rfl)
  have g1 : w1.frozen? ⟨w.heap.size, 1, none⟩ = false := (hb1.frozen (p := ⟨w.heap.size, 1, none⟩) (by simp)).trans (World.frozen?_alloc_at _ _ _ _ rfl)
  have HR := Lib.hid hr; have HS := Lib.hid hs
  have HBW := Lib.hid ((HB.out (.cells #[.slice none 0 0, .slice none 0 0] 26)).trans (hb1.mono (by simp)))
  have HD0 := Lib.hid d0; have HD1 := Lib.hid d1
  have ba : ∀ o, Below w1.heap.size w1 (w1.alloc o) := fun o => (Below.refl _ _).alloc (Nat.le_refl _) _
  have HBP := Lib.hid (fun o => bitLen_any _ P (w1.alloc o) (hr.below (ba o)) hP)
  have HBQ := Lib.hid (fun o => bitLen_any _ Q (w1.alloc o) (hs.below (ba o)) hQ)
  have HC := Lib.hid hcase
  clear hr hs hb1 ba hcase hP hQ
  rcases HC.out with ⟨q1, q2, q3, q4⟩ | ⟨q1, q3, q4⟩ | ⟨q1, q2, q3, q4⟩
  · have Q3 := Lib.hid q3; have Q4 := Lib.hid q4
    clear q3 q4
    generalize nd 2 P = bp at *
    generalize nd 2 Q = bq at *
    go_wp2_with fail
    refine (HBP.out _).mono ?_
    rintro e w2 ⟨rfl, rfl⟩
    go_wp2_with fail
    refine (HBQ.out _).mono ?_
    rintro e w2 ⟨rfl, rfl⟩
    go_wp2
    obtain ⟨t0, t1⟩ := fit_end (w := w) (B := w.heap.size) HD0.out HD1.out HBW.out (Nat.le_refl _) HLT.out (.slice ro (nd 4294967296 P) rc) (.slice so (nd 4294967296 Q) sc) (.cells #[.slice ro (nd 4294967296 P) rc, .slice so (nd 4294967296 Q) sc] 26)
    refine bodyPost_ret (v := .tuple #[.agg #[.slice ro (nd 4294967296 P) rc, .slice so (nd 4294967296 Q) sc], .int .i64 0]) (by simp [results, Tryz.results49, go_sem, t0, t1.1]) rfl
      ⟨_, _, by rw [Q3.out], by rw [Q4.out]; exact ((IsN_setTwo HR.out HD0.out HD1.out (by intro d h; cases h) (by intro d h; cases h) _ _).below ((Below.refl _ _).alloc (Nat.le_refl _) _)), by rw [Q4.out]; exact ((IsN_setTwo HS.out HD0.out HD1.out (by intro d h; cases h) (by intro d h; cases h) _ _).below ((Below.refl _ _).alloc (Nat.le_refl _) _)), t1.2⟩
  · have Q3 := Lib.hid q3; have Q4 := Lib.hid q4
    clear q3 q4
    generalize nd 2 P = bp at *
    go_wp2_with fail
    refine (HBP.out _).mono ?_
    rintro e w2 ⟨rfl, rfl⟩
    go_wp2
    obtain ⟨t0, t1⟩ := fit_end (w := w) (B := w.heap.size) HD0.out HD1.out HBW.out (Nat.le_refl _) HLT.out (.slice none 0 0) (.slice none 0 0) (.cells #[.slice ro (nd 4294967296 P) rc, .slice so (nd 4294967296 Q) sc] 26)
    refine bodyPost_ret (v := .tuple #[.agg #[.slice none 0 0, .slice none 0 0], .int .i64 3]) (by simp [results, Tryz.results49, go_sem, t0, t1.1]) rfl
      ⟨_, _, by rw [Q3.out], by rw [Q4.out]; exact IsN.zero _ _ _ _ _, by rw [Q4.out]; exact IsN.zero _ _ _ _ _, t1.2⟩
  · have Q3 := Lib.hid q3; have Q4 := Lib.hid q4
    clear q3 q4
    generalize nd 2 P = bp at *
    generalize nd 2 Q = bq at *
    go_wp2_with fail
    refine (HBP.out _).mono ?_
    rintro e w2 ⟨rfl, rfl⟩
    go_wp2_with fail
    refine (HBQ.out _).mono ?_
    rintro e w2 ⟨rfl, rfl⟩
    go_wp2
    obtain ⟨t0, t1⟩ := fit_end (w := w) (B := w.heap.size) HD0.out HD1.out HBW.out (Nat.le_refl _) HLT.out (.slice none 0 0) (.slice none 0 0) (.cells #[.slice ro (nd 4294967296 P) rc, .slice so (nd 4294967296 Q) sc] 26)
    refine bodyPost_ret (v := .tuple #[.agg #[.slice none 0 0, .slice none 0 0], .int .i64 3]) (by simp [results, Tryz.results49, go_sem, t0, t1.1]) rfl
      ⟨_, _, by rw [Q3.out], by rw [Q4.out]; exact IsN.zero _ _ _ _ _, by rw [Q4.out]; exact IsN.zero _ _ _ _ _, t1.2⟩
/-- a function's result of two cells in the block B, filled by what a call gave -/
theorem two_store {w W' : World} {B P Q : Nat} {ro so : Option Addr} {rc sc : Nat} (hr : D W' (.slice ro (nd 4294967296 P) rc) P) (hs : D W' (.slice so (nd 4294967296 Q) sc) Q)
    (d0 : W'.cell? ⟨B, 0, none⟩ = some (.slice none 0 0)) (d1 : W'.cell? ⟨B, 1, none⟩ = some (.slice none 0 0)) (hb : Below w.heap.size w W') (hB : w.heap.size ≤ B) :
    let W2 := (W'.setCell ⟨B, 0, none⟩ (.slice ro (nd 4294967296 P) rc)).setCell ⟨B, 1, none⟩ (.slice so (nd 4294967296 Q) sc)
    D W2 (.slice ro (nd 4294967296 P) rc) P ∧ D W2 (.slice so (nd 4294967296 Q) sc) Q ∧ W2.cell? ⟨B, 0, none⟩ = some (.slice ro (nd 4294967296 P) rc) ∧ W2.cell? ⟨B, 1, none⟩ = some (.slice so (nd 4294967296 Q) sc) ∧ Below w.heap.size w W2 := by
  obtain ⟨t0, t1⟩ := read_two d0 d1 (.slice ro (nd 4294967296 P) rc) (.slice so (nd 4294967296 Q) sc)
  exact ⟨IsN_setTwo hr d0 d1 (by intro d h; cases h) (by intro d h; cases h) _ _, IsN_setTwo hs d0 d1 (by intro d h; cases h) (by intro d h; cases h) _ _, t0, t1, (hb.setCell hB _).setCell hB _⟩
end Go.Proofs.YteajinpfigejfaaGreatDoor
namespace Go.Proofs.YteajinpfigejfaaGreatDoor
open Go Go.RowKit Gu

/-- boxes (block, offset, value), the program's numbers, the document's numbers -/
structure Kq (cs : List (Nat × Nat × Value)) (ns rs : List (Value × Nat)) (w W : World) : Prop where
  num : ∀ p ∈ ns, D W p.1 p.2
  dig : ∀ p ∈ rs, R W p.1 p.2
  box : ∀ p ∈ cs, p.1 < W.heap.size ∧ W.cell? ⟨p.1, p.2.1, none⟩ = some p.2.2
  env : Env W
  bel : Below w.heap.size w W
section
variable {cs : List (Nat × Nat × Value)} {ns rs : List (Value × Nat)} {w W W' : World}
theorem Kq.start (he : Env w) : Kq [] [] [] w w := ⟨fun _ h => by simp at h, fun _ h => by simp at h, fun _ h => by simp at h, he, Below.refl _ _⟩
theorem Kq.next (h : Kq cs ns rs w W) (hb : Below W.heap.size W W') : Kq cs ns rs w W' :=
  ⟨fun p hp => (h.num p hp).below hb, fun p hp => (h.dig p hp).below hb, fun p hp => ⟨Nat.lt_of_lt_of_le (h.box p hp).1 hb.size, (hb.cell (p := ⟨p.1, p.2.1, none⟩) (h.box p hp).1).trans (h.box p hp).2⟩, h.env.below hb, h.bel.trans (hb.mono h.bel.size)⟩
theorem Kq.drewN (h : Kq cs ns rs w W) (q : Nat) : Kq cs ns rs w (W.drewN q) := h.next (below_drewN (Below.refl _ _) q)
theorem Kq.drew (h : Kq cs ns rs w W) : Kq cs ns rs w W.drew := h.next (Below.refl _ _).drew
theorem Kq.addNum (h : Kq cs ns rs w W) {v : Value} {n : Nat} (hv : D W v n) : Kq cs ((v, n) :: ns) rs w W :=
  ⟨fun p hp => by
    rcases List.mem_cons.1 hp with rfl | hp
    · exact hv
    · exact h.num p hp, h.dig, h.box, h.env, h.bel⟩
theorem Kq.addDig (h : Kq cs ns rs w W) {v : Value} {n : Nat} (hv : R W v n) : Kq cs ns ((v, n) :: rs) w W :=
  ⟨h.num, fun p hp => by
    rcases List.mem_cons.1 hp with rfl | hp
    · exact hv
    · exact h.dig p hp, h.box, h.env, h.bel⟩
theorem Kq.alloc (h : Kq cs ns rs w W) (o : Obj) : Kq cs ns rs w (W.alloc o) := h.next ((Below.refl _ _).alloc (Nat.le_refl _) _)
theorem Kq.addBox (h : Kq cs ns rs w W) {b o : Nat} {v : Value} (h1 : b < W.heap.size) (h2 : W.cell? ⟨b, o, none⟩ = some v) : Kq ((b, o, v) :: cs) ns rs w W :=
  ⟨h.num, h.dig, fun p hp => by
    rcases List.mem_cons.1 hp with rfl | hp
    · exact ⟨h1, h2⟩
    · exact h.box p hp, h.env, h.bel⟩
/-- a variable gets its box -/
theorem Kq.boxed (h : Kq cs ns rs w W) (v : Value) (T : TypeId) : Kq ((W.heap.size, 0, v) :: cs) ns rs w (W.alloc (.cells #[v] T)) :=
  (h.alloc _).addBox (by simp) (World.cell?_alloc_at _ _ _ _ rfl)
theorem Kq.boxed2 (h : Kq cs ns rs w W) (v u : Value) (T : TypeId) : Kq ((W.heap.size, 1, u) :: (W.heap.size, 0, v) :: cs) ns rs w (W.alloc (.cells #[v, u] T)) :=
  ((h.alloc _).addBox (by simp) (World.cell?_alloc_at _ _ _ _ rfl)).addBox (by simp) (World.cell?_alloc_at _ _ _ _ rfl)
theorem Kq.cell (h : Kq cs ns rs w W) {g o : Nat} {v : Value} (hm : (g, o, v) ∈ cs) : W.cell? ⟨g, o, none⟩ = some v := (h.box _ hm).2
theorem NCmp_Q {v u : Value} {a b : Nat} (h : Kq cs ns rs w W) (h1 : (v, a) ∈ ns) (h2 : (u, b) ∈ ns) (ha : nd 4294967296 a ≤ 1048576) (hb : nd 4294967296 b ≤ 1048576) :
    Calls Tryz.prog 19 #[.agg #[v], .agg #[u]] W fun e w' => e = .returned (.int .i64 (cmpN a b)) ∧ Kq cs ns rs w w' :=
  (NCmp_any _ _ a b W (h.num _ h1) (h.num _ h2) ha hb).mono fun _ _ ⟨he, hB⟩ => ⟨he, h.next hB⟩
theorem RCmp_Q {v u : Value} {a b : Nat} (h : Kq cs ns rs w W) (h1 : (v, a) ∈ rs) (h2 : (u, b) ∈ rs) (ha : nd 65536 a ≤ 1048576) (hb : nd 65536 b ≤ 1048576) :
    Calls Tryz.prog 10 #[v, u] W fun e w' => e = .returned (.int .i64 (cmpN a b)) ∧ Kq cs ns rs w w' :=
  (RCmp_any _ _ a b W (h.dig _ h1) (h.dig _ h2) ha hb).mono fun _ _ ⟨he, k, hw⟩ => ⟨he, by rw [hw]; exact h.drewN k⟩
theorem awake_Q (h : Kq cs ns rs w W) : Calls Tryz.prog 7 #[] W fun e w' => e = .returned (.bool true) ∧ Kq cs ns rs w w' :=
  (awake_any W h.env).mono fun _ _ ⟨he, hB⟩ => ⟨he, h.next hB⟩
end
end Go.Proofs.YteajinpfigejfaaGreatDoor
namespace Go.Proofs.YteajinpfigejfaaGreatDoor
open Go Go.RowKit Gu

theorem isNum_one : isNum [49] = true := by decide
theorem isNum_nil0 : isNum [48] = true := by decide
set_option maxHeartbeats 1000000 in
theorem PF_nA1 (s A B : ByteArray) (w : World) (he : Env w) (hcut : ∀ W, Calls Tryz.prog 52 #[.string s, .string ⟨#[47]⟩] W fun e w' => e = .returned (.tuple #[.string A, .string B, .bool false]) ∧ Below W.heap.size W w') (hA : A.size ≤ 5463) (_hB : B.size ≤ 5463) (nA : isNum A.data.toList = false) :
    Calls Tryz.prog 22 #[.string s] w fun e w' => e = .returned (.tuple #[.agg #[.slice none 0 0, .slice none 0 0], .int .i64 4]) ∧ Below w.heap.size w w' := by
  have HS0 := Lib.hid ((Kq.start he).boxed2 (.slice none 0 0) (.slice none 0 0) 26)
  have HCUT := Lib.hid hcut
  have HIA := Lib.hid (fun W => isNumeral_any A W (by omega))
  rw [nA] at HIA
  clear he hcut nA
  go_enter Tryz.func22, Tryz.ntmps22
  go_wp2_with fail
  refine (HCUT.out _).mono ?_
  rintro e w1 ⟨rfl, hb⟩
  have hs := HS0.out.next hb
  have HX1 := Lib.hid hb
  have d0 : (w1).cell? ⟨w.heap.size, 0, none⟩ = some (.slice none 0 0) := (HX1.out.cell (p := ⟨w.heap.size, 0, none⟩) (by simp)).trans (World.cell?_alloc_at _ _ _ _ rfl)
  have g0 : (w1).frozen? ⟨w.heap.size, 0, none⟩ = false := (HX1.out.frozen (p := ⟨w.heap.size, 0, none⟩) (by simp)).trans (World.frozen?_alloc_at _ _ _ _ rfl)
  have d1 : (w1).cell? ⟨w.heap.size, 1, none⟩ = some (.slice none 0 0) := (HX1.out.cell (p := ⟨w.heap.size, 1, none⟩) (by simp)).trans (World.cell?_alloc_at _ _ _ _ rfl)
  have g1 : (w1).frozen? ⟨w.heap.size, 1, none⟩ = false := (HX1.out.frozen (p := ⟨w.heap.size, 1, none⟩) (by simp)).trans (World.frozen?_alloc_at _ _ _ _ rfl)
  have HS1 := Lib.hid hs
  clear hs hb
  go_wp2_with fail
  refine (HIA.out _).mono ?_
  rintro e w2 ⟨rfl, rfl⟩
  obtain ⟨t0, t1⟩ := read_two d0 d1 (.slice none 0 0) (.slice none 0 0)
  have T0 := Lib.hid t0; have T1 := Lib.hid t1
  clear t0 t1
  go_wp2
  have t0 := T0.out; have t1 := T1.out
  refine bodyPost_ret (v := .tuple #[.agg #[.slice none 0 0, .slice none 0 0], .int .i64 4]) (by simp [results, Tryz.results22, go_sem, t0, t1]) rfl ⟨rfl, (HS1.out.bel.setCell (Nat.le_refl _) _).setCell (Nat.le_refl _) _⟩
set_option maxHeartbeats 1000000 in
theorem PF_nA2 (s A B : ByteArray) (w : World) (he : Env w) (hcut : ∀ W, Calls Tryz.prog 52 #[.string s, .string ⟨#[47]⟩] W fun e w' => e = .returned (.tuple #[.string A, .string B, .bool true]) ∧ Below W.heap.size W w') (hA : A.size ≤ 5463) (_hB : B.size ≤ 5463) (nA : isNum A.data.toList = false) :
    Calls Tryz.prog 22 #[.string s] w fun e w' => e = .returned (.tuple #[.agg #[.slice none 0 0, .slice none 0 0], .int .i64 4]) ∧ Below w.heap.size w w' := by
  have HS0 := Lib.hid ((Kq.start he).boxed2 (.slice none 0 0) (.slice none 0 0) 26)
  have HCUT := Lib.hid hcut
  have HIA := Lib.hid (fun W => isNumeral_any A W (by omega))
  rw [nA] at HIA
  clear he hcut nA
  go_enter Tryz.func22, Tryz.ntmps22
  go_wp2_with fail
  refine (HCUT.out _).mono ?_
  rintro e w1 ⟨rfl, hb⟩
  have hs := HS0.out.next hb
  have HX1 := Lib.hid hb
  have d0 : (w1).cell? ⟨w.heap.size, 0, none⟩ = some (.slice none 0 0) := (HX1.out.cell (p := ⟨w.heap.size, 0, none⟩) (by simp)).trans (World.cell?_alloc_at _ _ _ _ rfl)
  have g0 : (w1).frozen? ⟨w.heap.size, 0, none⟩ = false := (HX1.out.frozen (p := ⟨w.heap.size, 0, none⟩) (by simp)).trans (World.frozen?_alloc_at _ _ _ _ rfl)
  have d1 : (w1).cell? ⟨w.heap.size, 1, none⟩ = some (.slice none 0 0) := (HX1.out.cell (p := ⟨w.heap.size, 1, none⟩) (by simp)).trans (World.cell?_alloc_at _ _ _ _ rfl)
  have g1 : (w1).frozen? ⟨w.heap.size, 1, none⟩ = false := (HX1.out.frozen (p := ⟨w.heap.size, 1, none⟩) (by simp)).trans (World.frozen?_alloc_at _ _ _ _ rfl)
  have HS1 := Lib.hid hs
  clear hs hb
  go_wp2_with fail
  refine (HIA.out _).mono ?_
  rintro e w2 ⟨rfl, rfl⟩
  obtain ⟨t0, t1⟩ := read_two d0 d1 (.slice none 0 0) (.slice none 0 0)
  have T0 := Lib.hid t0; have T1 := Lib.hid t1
  clear t0 t1
  go_wp2
  have t0 := T0.out; have t1 := T1.out
  refine bodyPost_ret (v := .tuple #[.agg #[.slice none 0 0, .slice none 0 0], .int .i64 4]) (by simp [results, Tryz.results22, go_sem, t0, t1]) rfl ⟨rfl, (HS1.out.bel.setCell (Nat.le_refl _) _).setCell (Nat.le_refl _) _⟩
set_option maxHeartbeats 1000000 in
theorem PF_nB (s A B : ByteArray) (w : World) (he : Env w) (hcut : ∀ W, Calls Tryz.prog 52 #[.string s, .string ⟨#[47]⟩] W fun e w' => e = .returned (.tuple #[.string A, .string B, .bool true]) ∧ Below W.heap.size W w') (hA : A.size ≤ 5463) (_hB : B.size ≤ 5463) (nA : isNum A.data.toList = true) (nB : isNum B.data.toList = false) :
    Calls Tryz.prog 22 #[.string s] w fun e w' => e = .returned (.tuple #[.agg #[.slice none 0 0, .slice none 0 0], .int .i64 4]) ∧ Below w.heap.size w w' := by
  have HS0 := Lib.hid ((Kq.start he).boxed2 (.slice none 0 0) (.slice none 0 0) 26)
  have HCUT := Lib.hid hcut
  have HIA := Lib.hid (fun W => isNumeral_any A W (by omega))
  rw [nA] at HIA
  have HIB := Lib.hid (fun W => isNumeral_any B W (by omega))
  rw [nB] at HIB
  clear he hcut nA nB
  go_enter Tryz.func22, Tryz.ntmps22
  go_wp2_with fail
  refine (HCUT.out _).mono ?_
  rintro e w1 ⟨rfl, hb⟩
  have hs := HS0.out.next hb
  have HX1 := Lib.hid hb
  have d0 : (w1).cell? ⟨w.heap.size, 0, none⟩ = some (.slice none 0 0) := (HX1.out.cell (p := ⟨w.heap.size, 0, none⟩) (by simp)).trans (World.cell?_alloc_at _ _ _ _ rfl)
  have g0 : (w1).frozen? ⟨w.heap.size, 0, none⟩ = false := (HX1.out.frozen (p := ⟨w.heap.size, 0, none⟩) (by simp)).trans (World.frozen?_alloc_at _ _ _ _ rfl)
  have d1 : (w1).cell? ⟨w.heap.size, 1, none⟩ = some (.slice none 0 0) := (HX1.out.cell (p := ⟨w.heap.size, 1, none⟩) (by simp)).trans (World.cell?_alloc_at _ _ _ _ rfl)
  have g1 : (w1).frozen? ⟨w.heap.size, 1, none⟩ = false := (HX1.out.frozen (p := ⟨w.heap.size, 1, none⟩) (by simp)).trans (World.frozen?_alloc_at _ _ _ _ rfl)
  have HS1 := Lib.hid hs
  clear hs hb
  go_wp2_with fail
  refine (HIA.out _).mono ?_
  rintro e w2 ⟨rfl, rfl⟩
  go_wp2_with fail
  refine (HIB.out _).mono ?_
  rintro e w2 ⟨rfl, rfl⟩
  obtain ⟨t0, t1⟩ := read_two d0 d1 (.slice none 0 0) (.slice none 0 0)
  have T0 := Lib.hid t0; have T1 := Lib.hid t1
  clear t0 t1
  go_wp2
  have t0 := T0.out; have t1 := T1.out
  refine bodyPost_ret (v := .tuple #[.agg #[.slice none 0 0, .slice none 0 0], .int .i64 4]) (by simp [results, Tryz.results22, go_sem, t0, t1]) rfl ⟨rfl, (HS1.out.bel.setCell (Nat.le_refl _) _).setCell (Nat.le_refl _) _⟩
set_option maxHeartbeats 1000000 in
theorem PF_b0 (s A : ByteArray) (w : World) (he : Env w) (hcut : ∀ W, Calls Tryz.prog 52 #[.string s, .string ⟨#[47]⟩] W fun e w' => e = .returned (.tuple #[.string A, .string ⟨#[48]⟩, .bool true]) ∧ Below W.heap.size W w') (hA : A.size ≤ 5463) (nA : isNum A.data.toList = true) :
    Calls Tryz.prog 22 #[.string s] w fun e w' => e = .returned (.tuple #[.agg #[.slice none 0 0, .slice none 0 0], .int .i64 4]) ∧ Below w.heap.size w w' := by
  have HS0 := Lib.hid ((Kq.start he).boxed2 (.slice none 0 0) (.slice none 0 0) 26)
  have HCUT := Lib.hid hcut
  have HIA := Lib.hid (fun W => isNumeral_any A W (by omega))
  rw [nA] at HIA
  have HIB := Lib.hid (fun W => isNumeral_any (⟨#[48]⟩ : ByteArray) W (by decide))
  rw [show isNum (⟨#[48]⟩ : ByteArray).data.toList = true from by decide] at HIB
  clear he hcut nA
  go_enter Tryz.func22, Tryz.ntmps22
  go_wp2_with fail
  refine (HCUT.out _).mono ?_
  rintro e w1 ⟨rfl, hb⟩
  have hs := HS0.out.next hb
  have HX1 := Lib.hid hb
  have d0 : (w1).cell? ⟨w.heap.size, 0, none⟩ = some (.slice none 0 0) := (HX1.out.cell (p := ⟨w.heap.size, 0, none⟩) (by simp)).trans (World.cell?_alloc_at _ _ _ _ rfl)
  have g0 : (w1).frozen? ⟨w.heap.size, 0, none⟩ = false := (HX1.out.frozen (p := ⟨w.heap.size, 0, none⟩) (by simp)).trans (World.frozen?_alloc_at _ _ _ _ rfl)
  have d1 : (w1).cell? ⟨w.heap.size, 1, none⟩ = some (.slice none 0 0) := (HX1.out.cell (p := ⟨w.heap.size, 1, none⟩) (by simp)).trans (World.cell?_alloc_at _ _ _ _ rfl)
  have g1 : (w1).frozen? ⟨w.heap.size, 1, none⟩ = false := (HX1.out.frozen (p := ⟨w.heap.size, 1, none⟩) (by simp)).trans (World.frozen?_alloc_at _ _ _ _ rfl)
  have HS1 := Lib.hid hs
  clear hs hb
  go_wp2_with fail
  refine (HIA.out _).mono ?_
  rintro e w2 ⟨rfl, rfl⟩
  go_wp2_with fail
  refine (HIB.out _).mono ?_
  rintro e w2 ⟨rfl, rfl⟩
  obtain ⟨t0, t1⟩ := read_two d0 d1 (.slice none 0 0) (.slice none 0 0)
  have T0 := Lib.hid t0; have T1 := Lib.hid t1
  clear t0 t1
  go_wp2
  have t0 := T0.out; have t1 := T1.out
  refine bodyPost_ret (v := .tuple #[.agg #[.slice none 0 0, .slice none 0 0], .int .i64 4]) (by simp [results, Tryz.results22, go_sem, t0, t1]) rfl ⟨rfl, (HS1.out.bel.setCell (Nat.le_refl _) _).setCell (Nat.le_refl _) _⟩
set_option maxHeartbeats 1000000 in
theorem PF_b1 (s A : ByteArray) (w : World) (he : Env w) (hcut : ∀ W, Calls Tryz.prog 52 #[.string s, .string ⟨#[47]⟩] W fun e w' => e = .returned (.tuple #[.string A, .string ⟨#[49]⟩, .bool true]) ∧ Below W.heap.size W w') (hA : A.size ≤ 5463) (nA : isNum A.data.toList = true) :
    Calls Tryz.prog 22 #[.string s] w fun e w' => e = .returned (.tuple #[.agg #[.slice none 0 0, .slice none 0 0], .int .i64 4]) ∧ Below w.heap.size w w' := by
  have HS0 := Lib.hid ((Kq.start he).boxed2 (.slice none 0 0) (.slice none 0 0) 26)
  have HCUT := Lib.hid hcut
  have HIA := Lib.hid (fun W => isNumeral_any A W (by omega))
  rw [nA] at HIA
  have HIB := Lib.hid (fun W => isNumeral_any (⟨#[49]⟩ : ByteArray) W (by decide))
  rw [show isNum (⟨#[49]⟩ : ByteArray).data.toList = true from by decide] at HIB
  clear he hcut nA
  go_enter Tryz.func22, Tryz.ntmps22
  go_wp2_with fail
  refine (HCUT.out _).mono ?_
  rintro e w1 ⟨rfl, hb⟩
  have hs := HS0.out.next hb
  have HX1 := Lib.hid hb
  have d0 : (w1).cell? ⟨w.heap.size, 0, none⟩ = some (.slice none 0 0) := (HX1.out.cell (p := ⟨w.heap.size, 0, none⟩) (by simp)).trans (World.cell?_alloc_at _ _ _ _ rfl)
  have g0 : (w1).frozen? ⟨w.heap.size, 0, none⟩ = false := (HX1.out.frozen (p := ⟨w.heap.size, 0, none⟩) (by simp)).trans (World.frozen?_alloc_at _ _ _ _ rfl)
  have d1 : (w1).cell? ⟨w.heap.size, 1, none⟩ = some (.slice none 0 0) := (HX1.out.cell (p := ⟨w.heap.size, 1, none⟩) (by simp)).trans (World.cell?_alloc_at _ _ _ _ rfl)
  have g1 : (w1).frozen? ⟨w.heap.size, 1, none⟩ = false := (HX1.out.frozen (p := ⟨w.heap.size, 1, none⟩) (by simp)).trans (World.frozen?_alloc_at _ _ _ _ rfl)
  have HS1 := Lib.hid hs
  clear hs hb
  go_wp2_with fail
  refine (HIA.out _).mono ?_
  rintro e w2 ⟨rfl, rfl⟩
  go_wp2_with fail
  refine (HIB.out _).mono ?_
  rintro e w2 ⟨rfl, rfl⟩
  obtain ⟨t0, t1⟩ := read_two d0 d1 (.slice none 0 0) (.slice none 0 0)
  have T0 := Lib.hid t0; have T1 := Lib.hid t1
  clear t0 t1
  go_wp2
  have t0 := T0.out; have t1 := T1.out
  refine bodyPost_ret (v := .tuple #[.agg #[.slice none 0 0, .slice none 0 0], .int .i64 4]) (by simp [results, Tryz.results22, go_sem, t0, t1]) rfl ⟨rfl, (HS1.out.bel.setCell (Nat.le_refl _) _).setCell (Nat.le_refl _) _⟩
set_option maxHeartbeats 1000000 in
theorem PF_fA1 (s A B : ByteArray) (w : World) (he : Env w) (hcut : ∀ W, Calls Tryz.prog 52 #[.string s, .string ⟨#[47]⟩] W fun e w' => e = .returned (.tuple #[.string A, .string B, .bool false]) ∧ Below W.heap.size W w') (hA : A.size ≤ 5463) (_hB : B.size ≤ 5463) (nA : isNum A.data.toList = true) (fA : ¬ nd 2 (sval A.data.toList) ≤ 16384) :
    Calls Tryz.prog 22 #[.string s] w fun e w' => e = .returned (.tuple #[.agg #[.slice none 0 0, .slice none 0 0], .int .i64 3]) ∧ Below w.heap.size w w' := by
  have HS0 := Lib.hid ((Kq.start he).boxed2 (.slice none 0 0) (.slice none 0 0) 26)
  have HCUT := Lib.hid hcut
  have HIA := Lib.hid (fun W => isNumeral_any A W (by omega))
  rw [nA] at HIA
  have HRA := Lib.hid (fun W => readNumeral_any A W (by have := isNum_pos nA; rw [len_data] at this; exact this) hA (isNum_digits nA))
  have hnA : nd 4294967296 (sval A.data.toList) ≤ 5463 := Nat.le_trans (nd_sval (isNum_digits nA)) (by rw [len_data]; exact hA)
  rw [show fitE (sval A.data.toList) = 3 from if_neg fA, show fitN (sval A.data.toList) = 0 from if_neg fA] at HRA
  generalize sval A.data.toList = a at *
  clear he hcut nA fA hnA
  go_enter Tryz.func22, Tryz.ntmps22
  go_wp2_with fail
  refine (HCUT.out _).mono ?_
  rintro e w1 ⟨rfl, hb⟩
  have hs := HS0.out.next hb
  have HX1 := Lib.hid hb
  have d0 : (w1).cell? ⟨w.heap.size, 0, none⟩ = some (.slice none 0 0) := (HX1.out.cell (p := ⟨w.heap.size, 0, none⟩) (by simp)).trans (World.cell?_alloc_at _ _ _ _ rfl)
  have g0 : (w1).frozen? ⟨w.heap.size, 0, none⟩ = false := (HX1.out.frozen (p := ⟨w.heap.size, 0, none⟩) (by simp)).trans (World.frozen?_alloc_at _ _ _ _ rfl)
  have d1 : (w1).cell? ⟨w.heap.size, 1, none⟩ = some (.slice none 0 0) := (HX1.out.cell (p := ⟨w.heap.size, 1, none⟩) (by simp)).trans (World.cell?_alloc_at _ _ _ _ rfl)
  have g1 : (w1).frozen? ⟨w.heap.size, 1, none⟩ = false := (HX1.out.frozen (p := ⟨w.heap.size, 1, none⟩) (by simp)).trans (World.frozen?_alloc_at _ _ _ _ rfl)
  have HS1 := Lib.hid hs
  clear hs hb
  go_wp2_with fail
  refine (HIA.out _).mono ?_
  rintro e w2 ⟨rfl, rfl⟩
  go_wp2_with fail
  refine (HRA.out _).mono ?_
  rintro e w2 ⟨va, rfl, ha, hb⟩
  obtain ⟨ao, ac, rfl, -⟩ := ha.shape
  have hs := ((HS1.out.next hb).addNum ha).boxed (.slice ao (nd 4294967296 0) ac) 42
  clear d0 d1 g0 g1
  have HX2 := Lib.hid ((HX1.out.trans (hb.mono HX1.out.size)).alloc (Nat.le_trans HX1.out.size hb.size) (.cells #[.slice ao (nd 4294967296 0) ac] 42))
  have d0 : (w2.alloc (.cells #[.slice ao (nd 4294967296 0) ac] 42)).cell? ⟨w.heap.size, 0, none⟩ = some (.slice none 0 0) := (HX2.out.cell (p := ⟨w.heap.size, 0, none⟩) (by simp)).trans (World.cell?_alloc_at _ _ _ _ rfl)
  have g0 : (w2.alloc (.cells #[.slice ao (nd 4294967296 0) ac] 42)).frozen? ⟨w.heap.size, 0, none⟩ = false := (HX2.out.frozen (p := ⟨w.heap.size, 0, none⟩) (by simp)).trans (World.frozen?_alloc_at _ _ _ _ rfl)
  have d1 : (w2.alloc (.cells #[.slice ao (nd 4294967296 0) ac] 42)).cell? ⟨w.heap.size, 1, none⟩ = some (.slice none 0 0) := (HX2.out.cell (p := ⟨w.heap.size, 1, none⟩) (by simp)).trans (World.cell?_alloc_at _ _ _ _ rfl)
  have g1 : (w2.alloc (.cells #[.slice ao (nd 4294967296 0) ac] 42)).frozen? ⟨w.heap.size, 1, none⟩ = false := (HX2.out.frozen (p := ⟨w.heap.size, 1, none⟩) (by simp)).trans (World.frozen?_alloc_at _ _ _ _ rfl)
  have HS2 := Lib.hid hs
  clear hs hb ha
  obtain ⟨t0, t1⟩ := read_two d0 d1 (.slice none 0 0) (.slice none 0 0)
  have T0 := Lib.hid t0; have T1 := Lib.hid t1
  clear t0 t1
  go_wp2
  have t0 := T0.out; have t1 := T1.out
  refine bodyPost_ret (v := .tuple #[.agg #[.slice none 0 0, .slice none 0 0], .int .i64 3]) (by simp [results, Tryz.results22, go_sem, t0, t1]) rfl ⟨rfl, (HS2.out.bel.setCell (Nat.le_refl _) _).setCell (Nat.le_refl _) _⟩
set_option maxHeartbeats 1000000 in
theorem PF_ok1 (s A B : ByteArray) (w : World) (he : Env w) (hcut : ∀ W, Calls Tryz.prog 52 #[.string s, .string ⟨#[47]⟩] W fun e w' => e = .returned (.tuple #[.string A, .string B, .bool false]) ∧ Below W.heap.size W w') (hA : A.size ≤ 5463) (_hB : B.size ≤ 5463) (nA : isNum A.data.toList = true) (fA : nd 2 (sval A.data.toList) ≤ 16384) :
    Calls Tryz.prog 22 #[.string s] w fun e w' => ∃ r t, e = .returned (.tuple #[.agg #[r, t], .int .i64 0]) ∧ D w' r (sval A.data.toList) ∧ D w' t (1) ∧ Below w.heap.size w w' := by
  have HS0 := Lib.hid ((Kq.start he).boxed2 (.slice none 0 0) (.slice none 0 0) 26)
  have HCUT := Lib.hid hcut
  have HIA := Lib.hid (fun W => isNumeral_any A W (by omega))
  rw [nA] at HIA
  have HRA := Lib.hid (fun W => readNumeral_any A W (by have := isNum_pos nA; rw [len_data] at this; exact this) hA (isNum_digits nA))
  have hnA : nd 4294967296 (sval A.data.toList) ≤ 5463 := Nat.le_trans (nd_sval (isNum_digits nA)) (by rw [len_data]; exact hA)
  rw [show fitE (sval A.data.toList) = 0 from if_pos fA, show fitN (sval A.data.toList) = sval A.data.toList from if_pos fA] at HRA
  have HRB := Lib.hid (fun W => readNumeral_any ⟨#[49]⟩ W (by decide) (by decide) (by decide))
  rw [show sval (⟨#[49]⟩ : ByteArray).data.toList = 1 from by decide, show fitE 1 = 0 from if_pos (fit_ok (nd_le_self16 (by decide) |> fun h => Nat.le_trans h (by decide))), show fitN 1 = 1 from if_pos (fit_ok (nd_le_self16 (by decide) |> fun h => Nat.le_trans h (by decide)))] at HRB
  obtain ⟨N, hN⟩ : ∃ N, N = 6000 := ⟨_, rfl⟩
  have HDV := Lib.hid (divide_long N (by omega))
  have HG := Lib.hid (fun v u W (h1 : D W v (sval A.data.toList)) (h2 : D W u (1)) => gcd_any HDV.out v u _ _ W h1 h2 ((nd_le (by decide)).1 (by omega)) ((nd_le (by decide)).1 (by have := nd_small (n := 1) (by decide); omega)))
  have HO := Lib.hid (fun v W (h : D W v (Nat.gcd (sval A.data.toList) (1))) => isOne_any v _ W h)
  rw [Nat.gcd_one_right] at HG HO
  rw [show decide ((1 : Nat) = 1) = true from rfl] at HO
  generalize sval A.data.toList = a at *
  clear he hcut nA fA hnA hN HDV
  go_enter Tryz.func22, Tryz.ntmps22
  go_wp2_with fail
  refine (HCUT.out _).mono ?_
  rintro e w1 ⟨rfl, hb⟩
  have hs := HS0.out.next hb
  have HX1 := Lib.hid hb
  have d0 : (w1).cell? ⟨w.heap.size, 0, none⟩ = some (.slice none 0 0) := (HX1.out.cell (p := ⟨w.heap.size, 0, none⟩) (by simp)).trans (World.cell?_alloc_at _ _ _ _ rfl)
  have g0 : (w1).frozen? ⟨w.heap.size, 0, none⟩ = false := (HX1.out.frozen (p := ⟨w.heap.size, 0, none⟩) (by simp)).trans (World.frozen?_alloc_at _ _ _ _ rfl)
  have d1 : (w1).cell? ⟨w.heap.size, 1, none⟩ = some (.slice none 0 0) := (HX1.out.cell (p := ⟨w.heap.size, 1, none⟩) (by simp)).trans (World.cell?_alloc_at _ _ _ _ rfl)
  have g1 : (w1).frozen? ⟨w.heap.size, 1, none⟩ = false := (HX1.out.frozen (p := ⟨w.heap.size, 1, none⟩) (by simp)).trans (World.frozen?_alloc_at _ _ _ _ rfl)
  have HS1 := Lib.hid hs
  clear hs hb
  go_wp2_with fail
  refine (HIA.out _).mono ?_
  rintro e w2 ⟨rfl, rfl⟩
  go_wp2_with fail
  refine (HRA.out _).mono ?_
  rintro e w2 ⟨va, rfl, ha, hb⟩
  obtain ⟨ao, ac, rfl, -⟩ := ha.shape
  have hs := ((HS1.out.next hb).addNum ha).boxed (.slice ao (nd 4294967296 a) ac) 42
  clear d0 d1 g0 g1
  have HX2 := Lib.hid ((HX1.out.trans (hb.mono HX1.out.size)).alloc (Nat.le_trans HX1.out.size hb.size) (.cells #[.slice ao (nd 4294967296 a) ac] 42))
  have d0 : (w2.alloc (.cells #[.slice ao (nd 4294967296 a) ac] 42)).cell? ⟨w.heap.size, 0, none⟩ = some (.slice none 0 0) := (HX2.out.cell (p := ⟨w.heap.size, 0, none⟩) (by simp)).trans (World.cell?_alloc_at _ _ _ _ rfl)
  have g0 : (w2.alloc (.cells #[.slice ao (nd 4294967296 a) ac] 42)).frozen? ⟨w.heap.size, 0, none⟩ = false := (HX2.out.frozen (p := ⟨w.heap.size, 0, none⟩) (by simp)).trans (World.frozen?_alloc_at _ _ _ _ rfl)
  have d1 : (w2.alloc (.cells #[.slice ao (nd 4294967296 a) ac] 42)).cell? ⟨w.heap.size, 1, none⟩ = some (.slice none 0 0) := (HX2.out.cell (p := ⟨w.heap.size, 1, none⟩) (by simp)).trans (World.cell?_alloc_at _ _ _ _ rfl)
  have g1 : (w2.alloc (.cells #[.slice ao (nd 4294967296 a) ac] 42)).frozen? ⟨w.heap.size, 1, none⟩ = false := (HX2.out.frozen (p := ⟨w.heap.size, 1, none⟩) (by simp)).trans (World.frozen?_alloc_at _ _ _ _ rfl)
  have HS2 := Lib.hid hs
  clear hs hb ha
  clear d0 d1 g0 g1
  go_wp2_with fail
  refine (HRB.out _).mono ?_
  rintro e w3 ⟨vb, rfl, hbv, hb⟩
  obtain ⟨bo, bc, rfl, -⟩ := hbv.shape
  have hs := ((HS2.out.next hb).addNum hbv).boxed (.slice bo (nd 4294967296 1) bc) 42
  have HX3 := Lib.hid ((HX2.out.trans (hb.mono HX2.out.size)).alloc (Nat.le_trans HX2.out.size hb.size) (.cells #[.slice bo (nd 4294967296 1) bc] 42))
  have d0 : (w3.alloc (.cells #[.slice bo (nd 4294967296 1) bc] 42)).cell? ⟨w.heap.size, 0, none⟩ = some (.slice none 0 0) := (HX3.out.cell (p := ⟨w.heap.size, 0, none⟩) (by simp)).trans (World.cell?_alloc_at _ _ _ _ rfl)
  have g0 : (w3.alloc (.cells #[.slice bo (nd 4294967296 1) bc] 42)).frozen? ⟨w.heap.size, 0, none⟩ = false := (HX3.out.frozen (p := ⟨w.heap.size, 0, none⟩) (by simp)).trans (World.frozen?_alloc_at _ _ _ _ rfl)
  have d1 : (w3.alloc (.cells #[.slice bo (nd 4294967296 1) bc] 42)).cell? ⟨w.heap.size, 1, none⟩ = some (.slice none 0 0) := (HX3.out.cell (p := ⟨w.heap.size, 1, none⟩) (by simp)).trans (World.cell?_alloc_at _ _ _ _ rfl)
  have g1 : (w3.alloc (.cells #[.slice bo (nd 4294967296 1) bc] 42)).frozen? ⟨w.heap.size, 1, none⟩ = false := (HX3.out.frozen (p := ⟨w.heap.size, 1, none⟩) (by simp)).trans (World.frozen?_alloc_at _ _ _ _ rfl)
  have x0 := hs.cell (g := w2.heap.size) (o := 0) (.tail _ (.head _))
  have x1 := hs.cell (g := w3.heap.size) (o := 0) (.head _)
  have HS3 := Lib.hid hs
  clear hs hb hbv
  go_wp2_with fail
  refine (HG.out _ _ _ (HS3.out.num _ (.tail _ (.head _))) (HS3.out.num _ (.head _))).mono ?_
  rintro e w4 ⟨vg, rfl, hg, hb⟩
  have hs := HS3.out.next hb
  clear d0 d1 g0 g1 x0 x1
  have HX4 := Lib.hid (HX3.out.trans (hb.mono HX3.out.size))
  have d0 : (w4).cell? ⟨w.heap.size, 0, none⟩ = some (.slice none 0 0) := (HX4.out.cell (p := ⟨w.heap.size, 0, none⟩) (by simp)).trans (World.cell?_alloc_at _ _ _ _ rfl)
  have g0 : (w4).frozen? ⟨w.heap.size, 0, none⟩ = false := (HX4.out.frozen (p := ⟨w.heap.size, 0, none⟩) (by simp)).trans (World.frozen?_alloc_at _ _ _ _ rfl)
  have d1 : (w4).cell? ⟨w.heap.size, 1, none⟩ = some (.slice none 0 0) := (HX4.out.cell (p := ⟨w.heap.size, 1, none⟩) (by simp)).trans (World.cell?_alloc_at _ _ _ _ rfl)
  have g1 : (w4).frozen? ⟨w.heap.size, 1, none⟩ = false := (HX4.out.frozen (p := ⟨w.heap.size, 1, none⟩) (by simp)).trans (World.frozen?_alloc_at _ _ _ _ rfl)
  have x0 := hs.cell (g := w2.heap.size) (o := 0) (.tail _ (.head _))
  have x1 := hs.cell (g := w3.heap.size) (o := 0) (.head _)
  have HS4 := Lib.hid hs
  have HGG := Lib.hid hg
  clear hs hb hg
  go_wp2_with fail
  refine (HO.out _ _ HGG.out).mono ?_
  rintro e w5 ⟨rfl, rfl⟩
  obtain ⟨e1, e2, t0, t1, e3⟩ := two_store (w := w) (B := w.heap.size) (HS4.out.num _ (.tail _ (.head _))) (HS4.out.num _ (.head _)) d0 d1 HS4.out.bel (Nat.le_refl _)
  have E1 := Lib.hid e1; have E2 := Lib.hid e2; have E3 := Lib.hid e3; have T0 := Lib.hid t0; have T1 := Lib.hid t1
  clear e1 e2 e3 t0 t1
  go_wp2
  have t0 := T0.out; have t1 := T1.out
  refine bodyPost_ret (v := .tuple #[.agg #[.slice ao (nd 4294967296 a) ac, .slice bo (nd 4294967296 1) bc], .int .i64 0]) (by simp [results, Tryz.results22, go_sem, t0, t1]) rfl ⟨_, _, rfl, E1.out, E2.out, E3.out⟩
set_option maxHeartbeats 1000000 in
theorem PF_fA2 (s A B : ByteArray) (w : World) (he : Env w) (hcut : ∀ W, Calls Tryz.prog 52 #[.string s, .string ⟨#[47]⟩] W fun e w' => e = .returned (.tuple #[.string A, .string B, .bool true]) ∧ Below W.heap.size W w') (hA : A.size ≤ 5463) (_hB : B.size ≤ 5463) (nA : isNum A.data.toList = true) (nB : isNum B.data.toList = true) (b0 : B ≠ ⟨#[48]⟩) (b1 : B ≠ ⟨#[49]⟩) (fA : ¬ nd 2 (sval A.data.toList) ≤ 16384) :
    Calls Tryz.prog 22 #[.string s] w fun e w' => e = .returned (.tuple #[.agg #[.slice none 0 0, .slice none 0 0], .int .i64 3]) ∧ Below w.heap.size w w' := by
  have HS0 := Lib.hid ((Kq.start he).boxed2 (.slice none 0 0) (.slice none 0 0) 26)
  have HCUT := Lib.hid hcut
  have HIA := Lib.hid (fun W => isNumeral_any A W (by omega))
  rw [nA] at HIA
  have HIB := Lib.hid (fun W => isNumeral_any B W (by omega))
  rw [nB] at HIB
  have HRA := Lib.hid (fun W => readNumeral_any A W (by have := isNum_pos nA; rw [len_data] at this; exact this) hA (isNum_digits nA))
  have hnA : nd 4294967296 (sval A.data.toList) ≤ 5463 := Nat.le_trans (nd_sval (isNum_digits nA)) (by rw [len_data]; exact hA)
  rw [show fitE (sval A.data.toList) = 3 from if_neg fA, show fitN (sval A.data.toList) = 0 from if_neg fA] at HRA
  have n0 : (B.toList == [48]) = false := by rw [← toList_one]; exact toList_ne b0
  have n1 : (B.toList == [49]) = false := by rw [← toList_one]; exact toList_ne b1
  generalize sval A.data.toList = a at *
  clear he hcut nA nB fA b0 b1 hnA
  go_enter Tryz.func22, Tryz.ntmps22
  go_wp2_with fail
  refine (HCUT.out _).mono ?_
  rintro e w1 ⟨rfl, hb⟩
  have hs := HS0.out.next hb
  have HX1 := Lib.hid hb
  have d0 : (w1).cell? ⟨w.heap.size, 0, none⟩ = some (.slice none 0 0) := (HX1.out.cell (p := ⟨w.heap.size, 0, none⟩) (by simp)).trans (World.cell?_alloc_at _ _ _ _ rfl)
  have g0 : (w1).frozen? ⟨w.heap.size, 0, none⟩ = false := (HX1.out.frozen (p := ⟨w.heap.size, 0, none⟩) (by simp)).trans (World.frozen?_alloc_at _ _ _ _ rfl)
  have d1 : (w1).cell? ⟨w.heap.size, 1, none⟩ = some (.slice none 0 0) := (HX1.out.cell (p := ⟨w.heap.size, 1, none⟩) (by simp)).trans (World.cell?_alloc_at _ _ _ _ rfl)
  have g1 : (w1).frozen? ⟨w.heap.size, 1, none⟩ = false := (HX1.out.frozen (p := ⟨w.heap.size, 1, none⟩) (by simp)).trans (World.frozen?_alloc_at _ _ _ _ rfl)
  have HS1 := Lib.hid hs
  clear hs hb
  go_wp2_with fail
  refine (HIA.out _).mono ?_
  rintro e w2 ⟨rfl, rfl⟩
  go_wp2_with fail
  refine (HIB.out _).mono ?_
  rintro e w2 ⟨rfl, rfl⟩
  go_wp2_with fail
  refine (HRA.out _).mono ?_
  rintro e w2 ⟨va, rfl, ha, hb⟩
  obtain ⟨ao, ac, rfl, -⟩ := ha.shape
  have hs := ((HS1.out.next hb).addNum ha).boxed (.slice ao (nd 4294967296 0) ac) 42
  clear d0 d1 g0 g1
  have HX2 := Lib.hid ((HX1.out.trans (hb.mono HX1.out.size)).alloc (Nat.le_trans HX1.out.size hb.size) (.cells #[.slice ao (nd 4294967296 0) ac] 42))
  have d0 : (w2.alloc (.cells #[.slice ao (nd 4294967296 0) ac] 42)).cell? ⟨w.heap.size, 0, none⟩ = some (.slice none 0 0) := (HX2.out.cell (p := ⟨w.heap.size, 0, none⟩) (by simp)).trans (World.cell?_alloc_at _ _ _ _ rfl)
  have g0 : (w2.alloc (.cells #[.slice ao (nd 4294967296 0) ac] 42)).frozen? ⟨w.heap.size, 0, none⟩ = false := (HX2.out.frozen (p := ⟨w.heap.size, 0, none⟩) (by simp)).trans (World.frozen?_alloc_at _ _ _ _ rfl)
  have d1 : (w2.alloc (.cells #[.slice ao (nd 4294967296 0) ac] 42)).cell? ⟨w.heap.size, 1, none⟩ = some (.slice none 0 0) := (HX2.out.cell (p := ⟨w.heap.size, 1, none⟩) (by simp)).trans (World.cell?_alloc_at _ _ _ _ rfl)
  have g1 : (w2.alloc (.cells #[.slice ao (nd 4294967296 0) ac] 42)).frozen? ⟨w.heap.size, 1, none⟩ = false := (HX2.out.frozen (p := ⟨w.heap.size, 1, none⟩) (by simp)).trans (World.frozen?_alloc_at _ _ _ _ rfl)
  have HS2 := Lib.hid hs
  clear hs hb ha
  obtain ⟨t0, t1⟩ := read_two d0 d1 (.slice none 0 0) (.slice none 0 0)
  have T0 := Lib.hid t0; have T1 := Lib.hid t1
  clear t0 t1
  go_wp2
  have t0 := T0.out; have t1 := T1.out
  refine bodyPost_ret (v := .tuple #[.agg #[.slice none 0 0, .slice none 0 0], .int .i64 3]) (by simp [results, Tryz.results22, go_sem, t0, t1]) rfl ⟨rfl, (HS2.out.bel.setCell (Nat.le_refl _) _).setCell (Nat.le_refl _) _⟩
set_option maxHeartbeats 1000000 in
theorem PF_fB (s A B : ByteArray) (w : World) (he : Env w) (hcut : ∀ W, Calls Tryz.prog 52 #[.string s, .string ⟨#[47]⟩] W fun e w' => e = .returned (.tuple #[.string A, .string B, .bool true]) ∧ Below W.heap.size W w') (hA : A.size ≤ 5463) (_hB : B.size ≤ 5463) (nA : isNum A.data.toList = true) (nB : isNum B.data.toList = true) (b0 : B ≠ ⟨#[48]⟩) (b1 : B ≠ ⟨#[49]⟩) (fA : nd 2 (sval A.data.toList) ≤ 16384) (fB : ¬ nd 2 (sval B.data.toList) ≤ 16384) :
    Calls Tryz.prog 22 #[.string s] w fun e w' => e = .returned (.tuple #[.agg #[.slice none 0 0, .slice none 0 0], .int .i64 3]) ∧ Below w.heap.size w w' := by
  have HS0 := Lib.hid ((Kq.start he).boxed2 (.slice none 0 0) (.slice none 0 0) 26)
  have HCUT := Lib.hid hcut
  have HIA := Lib.hid (fun W => isNumeral_any A W (by omega))
  rw [nA] at HIA
  have HIB := Lib.hid (fun W => isNumeral_any B W (by omega))
  rw [nB] at HIB
  have HRA := Lib.hid (fun W => readNumeral_any A W (by have := isNum_pos nA; rw [len_data] at this; exact this) hA (isNum_digits nA))
  have hnA : nd 4294967296 (sval A.data.toList) ≤ 5463 := Nat.le_trans (nd_sval (isNum_digits nA)) (by rw [len_data]; exact hA)
  rw [show fitE (sval A.data.toList) = 0 from if_pos fA, show fitN (sval A.data.toList) = sval A.data.toList from if_pos fA] at HRA
  have HRB := Lib.hid (fun W => readNumeral_any B W (by have := isNum_pos nB; rw [len_data] at this; exact this) _hB (isNum_digits nB))
  have hnB : nd 4294967296 (sval B.data.toList) ≤ 5463 := Nat.le_trans (nd_sval (isNum_digits nB)) (by rw [len_data]; exact _hB)
  rw [show fitE (sval B.data.toList) = 3 from if_neg fB, show fitN (sval B.data.toList) = 0 from if_neg fB] at HRB
  have n0 : (B.toList == [48]) = false := by rw [← toList_one]; exact toList_ne b0
  have n1 : (B.toList == [49]) = false := by rw [← toList_one]; exact toList_ne b1
  generalize sval A.data.toList = a at *
  generalize sval B.data.toList = b at *
  clear he hcut nA nB fA fB b0 b1 hnA hnB
  go_enter Tryz.func22, Tryz.ntmps22
  go_wp2_with fail
  refine (HCUT.out _).mono ?_
  rintro e w1 ⟨rfl, hb⟩
  have hs := HS0.out.next hb
  have HX1 := Lib.hid hb
  have d0 : (w1).cell? ⟨w.heap.size, 0, none⟩ = some (.slice none 0 0) := (HX1.out.cell (p := ⟨w.heap.size, 0, none⟩) (by simp)).trans (World.cell?_alloc_at _ _ _ _ rfl)
  have g0 : (w1).frozen? ⟨w.heap.size, 0, none⟩ = false := (HX1.out.frozen (p := ⟨w.heap.size, 0, none⟩) (by simp)).trans (World.frozen?_alloc_at _ _ _ _ rfl)
  have d1 : (w1).cell? ⟨w.heap.size, 1, none⟩ = some (.slice none 0 0) := (HX1.out.cell (p := ⟨w.heap.size, 1, none⟩) (by simp)).trans (World.cell?_alloc_at _ _ _ _ rfl)
  have g1 : (w1).frozen? ⟨w.heap.size, 1, none⟩ = false := (HX1.out.frozen (p := ⟨w.heap.size, 1, none⟩) (by simp)).trans (World.frozen?_alloc_at _ _ _ _ rfl)
  have HS1 := Lib.hid hs
  clear hs hb
  go_wp2_with fail
  refine (HIA.out _).mono ?_
  rintro e w2 ⟨rfl, rfl⟩
  go_wp2_with fail
  refine (HIB.out _).mono ?_
  rintro e w2 ⟨rfl, rfl⟩
  go_wp2_with fail
  refine (HRA.out _).mono ?_
  rintro e w2 ⟨va, rfl, ha, hb⟩
  obtain ⟨ao, ac, rfl, -⟩ := ha.shape
  have hs := ((HS1.out.next hb).addNum ha).boxed (.slice ao (nd 4294967296 a) ac) 42
  clear d0 d1 g0 g1
  have HX2 := Lib.hid ((HX1.out.trans (hb.mono HX1.out.size)).alloc (Nat.le_trans HX1.out.size hb.size) (.cells #[.slice ao (nd 4294967296 a) ac] 42))
  have d0 : (w2.alloc (.cells #[.slice ao (nd 4294967296 a) ac] 42)).cell? ⟨w.heap.size, 0, none⟩ = some (.slice none 0 0) := (HX2.out.cell (p := ⟨w.heap.size, 0, none⟩) (by simp)).trans (World.cell?_alloc_at _ _ _ _ rfl)
  have g0 : (w2.alloc (.cells #[.slice ao (nd 4294967296 a) ac] 42)).frozen? ⟨w.heap.size, 0, none⟩ = false := (HX2.out.frozen (p := ⟨w.heap.size, 0, none⟩) (by simp)).trans (World.frozen?_alloc_at _ _ _ _ rfl)
  have d1 : (w2.alloc (.cells #[.slice ao (nd 4294967296 a) ac] 42)).cell? ⟨w.heap.size, 1, none⟩ = some (.slice none 0 0) := (HX2.out.cell (p := ⟨w.heap.size, 1, none⟩) (by simp)).trans (World.cell?_alloc_at _ _ _ _ rfl)
  have g1 : (w2.alloc (.cells #[.slice ao (nd 4294967296 a) ac] 42)).frozen? ⟨w.heap.size, 1, none⟩ = false := (HX2.out.frozen (p := ⟨w.heap.size, 1, none⟩) (by simp)).trans (World.frozen?_alloc_at _ _ _ _ rfl)
  have HS2 := Lib.hid hs
  clear hs hb ha
  clear d0 d1 g0 g1
  go_wp2_with fail
  refine (HRB.out _).mono ?_
  rintro e w3 ⟨vb, rfl, hbv, hb⟩
  obtain ⟨bo, bc, rfl, -⟩ := hbv.shape
  have hs := ((HS2.out.next hb).addNum hbv).boxed (.slice bo (nd 4294967296 0) bc) 42
  have HX3 := Lib.hid ((HX2.out.trans (hb.mono HX2.out.size)).alloc (Nat.le_trans HX2.out.size hb.size) (.cells #[.slice bo (nd 4294967296 0) bc] 42))
  have d0 : (w3.alloc (.cells #[.slice bo (nd 4294967296 0) bc] 42)).cell? ⟨w.heap.size, 0, none⟩ = some (.slice none 0 0) := (HX3.out.cell (p := ⟨w.heap.size, 0, none⟩) (by simp)).trans (World.cell?_alloc_at _ _ _ _ rfl)
  have g0 : (w3.alloc (.cells #[.slice bo (nd 4294967296 0) bc] 42)).frozen? ⟨w.heap.size, 0, none⟩ = false := (HX3.out.frozen (p := ⟨w.heap.size, 0, none⟩) (by simp)).trans (World.frozen?_alloc_at _ _ _ _ rfl)
  have d1 : (w3.alloc (.cells #[.slice bo (nd 4294967296 0) bc] 42)).cell? ⟨w.heap.size, 1, none⟩ = some (.slice none 0 0) := (HX3.out.cell (p := ⟨w.heap.size, 1, none⟩) (by simp)).trans (World.cell?_alloc_at _ _ _ _ rfl)
  have g1 : (w3.alloc (.cells #[.slice bo (nd 4294967296 0) bc] 42)).frozen? ⟨w.heap.size, 1, none⟩ = false := (HX3.out.frozen (p := ⟨w.heap.size, 1, none⟩) (by simp)).trans (World.frozen?_alloc_at _ _ _ _ rfl)
  have x0 := hs.cell (g := w2.heap.size) (o := 0) (.tail _ (.head _))
  have x1 := hs.cell (g := w3.heap.size) (o := 0) (.head _)
  have HS3 := Lib.hid hs
  clear hs hb hbv
  obtain ⟨t0, t1⟩ := read_two d0 d1 (.slice none 0 0) (.slice none 0 0)
  have T0 := Lib.hid t0; have T1 := Lib.hid t1
  clear t0 t1
  go_wp2
  have t0 := T0.out; have t1 := T1.out
  refine bodyPost_ret (v := .tuple #[.agg #[.slice none 0 0, .slice none 0 0], .int .i64 3]) (by simp [results, Tryz.results22, go_sem, t0, t1]) rfl ⟨rfl, (HS3.out.bel.setCell (Nat.le_refl _) _).setCell (Nat.le_refl _) _⟩
set_option maxHeartbeats 1000000 in
theorem PF_g (s A B : ByteArray) (w : World) (he : Env w) (hcut : ∀ W, Calls Tryz.prog 52 #[.string s, .string ⟨#[47]⟩] W fun e w' => e = .returned (.tuple #[.string A, .string B, .bool true]) ∧ Below W.heap.size W w') (hA : A.size ≤ 5463) (_hB : B.size ≤ 5463) (nA : isNum A.data.toList = true) (nB : isNum B.data.toList = true) (b0 : B ≠ ⟨#[48]⟩) (b1 : B ≠ ⟨#[49]⟩) (fA : nd 2 (sval A.data.toList) ≤ 16384) (fB : nd 2 (sval B.data.toList) ≤ 16384) (gg : Nat.gcd (sval A.data.toList) (sval B.data.toList) ≠ 1) :
    Calls Tryz.prog 22 #[.string s] w fun e w' => e = .returned (.tuple #[.agg #[.slice none 0 0, .slice none 0 0], .int .i64 4]) ∧ Below w.heap.size w w' := by
  have HS0 := Lib.hid ((Kq.start he).boxed2 (.slice none 0 0) (.slice none 0 0) 26)
  have HCUT := Lib.hid hcut
  have HIA := Lib.hid (fun W => isNumeral_any A W (by omega))
  rw [nA] at HIA
  have HIB := Lib.hid (fun W => isNumeral_any B W (by omega))
  rw [nB] at HIB
  have HRA := Lib.hid (fun W => readNumeral_any A W (by have := isNum_pos nA; rw [len_data] at this; exact this) hA (isNum_digits nA))
  have hnA : nd 4294967296 (sval A.data.toList) ≤ 5463 := Nat.le_trans (nd_sval (isNum_digits nA)) (by rw [len_data]; exact hA)
  rw [show fitE (sval A.data.toList) = 0 from if_pos fA, show fitN (sval A.data.toList) = sval A.data.toList from if_pos fA] at HRA
  have HRB := Lib.hid (fun W => readNumeral_any B W (by have := isNum_pos nB; rw [len_data] at this; exact this) _hB (isNum_digits nB))
  have hnB : nd 4294967296 (sval B.data.toList) ≤ 5463 := Nat.le_trans (nd_sval (isNum_digits nB)) (by rw [len_data]; exact _hB)
  rw [show fitE (sval B.data.toList) = 0 from if_pos fB, show fitN (sval B.data.toList) = sval B.data.toList from if_pos fB] at HRB
  have n0 : (B.toList == [48]) = false := by rw [← toList_one]; exact toList_ne b0
  have n1 : (B.toList == [49]) = false := by rw [← toList_one]; exact toList_ne b1
  obtain ⟨N, hN⟩ : ∃ N, N = 6000 := ⟨_, rfl⟩
  have HDV := Lib.hid (divide_long N (by omega))
  have HG := Lib.hid (fun v u W (h1 : D W v (sval A.data.toList)) (h2 : D W u (sval B.data.toList)) => gcd_any HDV.out v u _ _ W h1 h2 ((nd_le (by decide)).1 (by omega)) ((nd_le (by decide)).1 (by omega)))
  have HO := Lib.hid (fun v W (h : D W v (Nat.gcd (sval A.data.toList) (sval B.data.toList))) => isOne_any v _ W h)
  rw [decide_eq_false gg] at HO
  generalize Nat.gcd (sval A.data.toList) (sval B.data.toList) = G at *
  generalize sval A.data.toList = a at *
  generalize sval B.data.toList = b at *
  clear he hcut nA nB fA fB gg b0 b1 hnA hnB hN HDV
  go_enter Tryz.func22, Tryz.ntmps22
  go_wp2_with fail
  refine (HCUT.out _).mono ?_
  rintro e w1 ⟨rfl, hb⟩
  have hs := HS0.out.next hb
  have HX1 := Lib.hid hb
  have d0 : (w1).cell? ⟨w.heap.size, 0, none⟩ = some (.slice none 0 0) := (HX1.out.cell (p := ⟨w.heap.size, 0, none⟩) (by simp)).trans (World.cell?_alloc_at _ _ _ _ rfl)
  have g0 : (w1).frozen? ⟨w.heap.size, 0, none⟩ = false := (HX1.out.frozen (p := ⟨w.heap.size, 0, none⟩) (by simp)).trans (World.frozen?_alloc_at _ _ _ _ rfl)
  have d1 : (w1).cell? ⟨w.heap.size, 1, none⟩ = some (.slice none 0 0) := (HX1.out.cell (p := ⟨w.heap.size, 1, none⟩) (by simp)).trans (World.cell?_alloc_at _ _ _ _ rfl)
  have g1 : (w1).frozen? ⟨w.heap.size, 1, none⟩ = false := (HX1.out.frozen (p := ⟨w.heap.size, 1, none⟩) (by simp)).trans (World.frozen?_alloc_at _ _ _ _ rfl)
  have HS1 := Lib.hid hs
  clear hs hb
  go_wp2_with fail
  refine (HIA.out _).mono ?_
  rintro e w2 ⟨rfl, rfl⟩
  go_wp2_with fail
  refine (HIB.out _).mono ?_
  rintro e w2 ⟨rfl, rfl⟩
  go_wp2_with fail
  refine (HRA.out _).mono ?_
  rintro e w2 ⟨va, rfl, ha, hb⟩
  obtain ⟨ao, ac, rfl, -⟩ := ha.shape
  have hs := ((HS1.out.next hb).addNum ha).boxed (.slice ao (nd 4294967296 a) ac) 42
  clear d0 d1 g0 g1
  have HX2 := Lib.hid ((HX1.out.trans (hb.mono HX1.out.size)).alloc (Nat.le_trans HX1.out.size hb.size) (.cells #[.slice ao (nd 4294967296 a) ac] 42))
  have d0 : (w2.alloc (.cells #[.slice ao (nd 4294967296 a) ac] 42)).cell? ⟨w.heap.size, 0, none⟩ = some (.slice none 0 0) := (HX2.out.cell (p := ⟨w.heap.size, 0, none⟩) (by simp)).trans (World.cell?_alloc_at _ _ _ _ rfl)
  have g0 : (w2.alloc (.cells #[.slice ao (nd 4294967296 a) ac] 42)).frozen? ⟨w.heap.size, 0, none⟩ = false := (HX2.out.frozen (p := ⟨w.heap.size, 0, none⟩) (by simp)).trans (World.frozen?_alloc_at _ _ _ _ rfl)
  have d1 : (w2.alloc (.cells #[.slice ao (nd 4294967296 a) ac] 42)).cell? ⟨w.heap.size, 1, none⟩ = some (.slice none 0 0) := (HX2.out.cell (p := ⟨w.heap.size, 1, none⟩) (by simp)).trans (World.cell?_alloc_at _ _ _ _ rfl)
  have g1 : (w2.alloc (.cells #[.slice ao (nd 4294967296 a) ac] 42)).frozen? ⟨w.heap.size, 1, none⟩ = false := (HX2.out.frozen (p := ⟨w.heap.size, 1, none⟩) (by simp)).trans (World.frozen?_alloc_at _ _ _ _ rfl)
  have HS2 := Lib.hid hs
  clear hs hb ha
  clear d0 d1 g0 g1
  go_wp2_with fail
  refine (HRB.out _).mono ?_
  rintro e w3 ⟨vb, rfl, hbv, hb⟩
  obtain ⟨bo, bc, rfl, -⟩ := hbv.shape
  have hs := ((HS2.out.next hb).addNum hbv).boxed (.slice bo (nd 4294967296 b) bc) 42
  have HX3 := Lib.hid ((HX2.out.trans (hb.mono HX2.out.size)).alloc (Nat.le_trans HX2.out.size hb.size) (.cells #[.slice bo (nd 4294967296 b) bc] 42))
  have d0 : (w3.alloc (.cells #[.slice bo (nd 4294967296 b) bc] 42)).cell? ⟨w.heap.size, 0, none⟩ = some (.slice none 0 0) := (HX3.out.cell (p := ⟨w.heap.size, 0, none⟩) (by simp)).trans (World.cell?_alloc_at _ _ _ _ rfl)
  have g0 : (w3.alloc (.cells #[.slice bo (nd 4294967296 b) bc] 42)).frozen? ⟨w.heap.size, 0, none⟩ = false := (HX3.out.frozen (p := ⟨w.heap.size, 0, none⟩) (by simp)).trans (World.frozen?_alloc_at _ _ _ _ rfl)
  have d1 : (w3.alloc (.cells #[.slice bo (nd 4294967296 b) bc] 42)).cell? ⟨w.heap.size, 1, none⟩ = some (.slice none 0 0) := (HX3.out.cell (p := ⟨w.heap.size, 1, none⟩) (by simp)).trans (World.cell?_alloc_at _ _ _ _ rfl)
  have g1 : (w3.alloc (.cells #[.slice bo (nd 4294967296 b) bc] 42)).frozen? ⟨w.heap.size, 1, none⟩ = false := (HX3.out.frozen (p := ⟨w.heap.size, 1, none⟩) (by simp)).trans (World.frozen?_alloc_at _ _ _ _ rfl)
  have x0 := hs.cell (g := w2.heap.size) (o := 0) (.tail _ (.head _))
  have x1 := hs.cell (g := w3.heap.size) (o := 0) (.head _)
  have HS3 := Lib.hid hs
  clear hs hb hbv
  go_wp2_with fail
  refine (HG.out _ _ _ (HS3.out.num _ (.tail _ (.head _))) (HS3.out.num _ (.head _))).mono ?_
  rintro e w4 ⟨vg, rfl, hg, hb⟩
  have hs := HS3.out.next hb
  clear d0 d1 g0 g1 x0 x1
  have HX4 := Lib.hid (HX3.out.trans (hb.mono HX3.out.size))
  have d0 : (w4).cell? ⟨w.heap.size, 0, none⟩ = some (.slice none 0 0) := (HX4.out.cell (p := ⟨w.heap.size, 0, none⟩) (by simp)).trans (World.cell?_alloc_at _ _ _ _ rfl)
  have g0 : (w4).frozen? ⟨w.heap.size, 0, none⟩ = false := (HX4.out.frozen (p := ⟨w.heap.size, 0, none⟩) (by simp)).trans (World.frozen?_alloc_at _ _ _ _ rfl)
  have d1 : (w4).cell? ⟨w.heap.size, 1, none⟩ = some (.slice none 0 0) := (HX4.out.cell (p := ⟨w.heap.size, 1, none⟩) (by simp)).trans (World.cell?_alloc_at _ _ _ _ rfl)
  have g1 : (w4).frozen? ⟨w.heap.size, 1, none⟩ = false := (HX4.out.frozen (p := ⟨w.heap.size, 1, none⟩) (by simp)).trans (World.frozen?_alloc_at _ _ _ _ rfl)
  have x0 := hs.cell (g := w2.heap.size) (o := 0) (.tail _ (.head _))
  have x1 := hs.cell (g := w3.heap.size) (o := 0) (.head _)
  have HS4 := Lib.hid hs
  have HGG := Lib.hid hg
  clear hs hb hg
  go_wp2_with fail
  refine (HO.out _ _ HGG.out).mono ?_
  rintro e w5 ⟨rfl, rfl⟩
  obtain ⟨t0, t1⟩ := read_two d0 d1 (.slice none 0 0) (.slice none 0 0)
  have T0 := Lib.hid t0; have T1 := Lib.hid t1
  clear t0 t1
  go_wp2
  have t0 := T0.out; have t1 := T1.out
  refine bodyPost_ret (v := .tuple #[.agg #[.slice none 0 0, .slice none 0 0], .int .i64 4]) (by simp [results, Tryz.results22, go_sem, t0, t1]) rfl ⟨rfl, (HS4.out.bel.setCell (Nat.le_refl _) _).setCell (Nat.le_refl _) _⟩
set_option maxHeartbeats 1000000 in
theorem PF_ok2 (s A B : ByteArray) (w : World) (he : Env w) (hcut : ∀ W, Calls Tryz.prog 52 #[.string s, .string ⟨#[47]⟩] W fun e w' => e = .returned (.tuple #[.string A, .string B, .bool true]) ∧ Below W.heap.size W w') (hA : A.size ≤ 5463) (_hB : B.size ≤ 5463) (nA : isNum A.data.toList = true) (nB : isNum B.data.toList = true) (b0 : B ≠ ⟨#[48]⟩) (b1 : B ≠ ⟨#[49]⟩) (fA : nd 2 (sval A.data.toList) ≤ 16384) (fB : nd 2 (sval B.data.toList) ≤ 16384) (gg : Nat.gcd (sval A.data.toList) (sval B.data.toList) = 1) :
    Calls Tryz.prog 22 #[.string s] w fun e w' => ∃ r t, e = .returned (.tuple #[.agg #[r, t], .int .i64 0]) ∧ D w' r (sval A.data.toList) ∧ D w' t (sval B.data.toList) ∧ Below w.heap.size w w' := by
  have HS0 := Lib.hid ((Kq.start he).boxed2 (.slice none 0 0) (.slice none 0 0) 26)
  have HCUT := Lib.hid hcut
  have HIA := Lib.hid (fun W => isNumeral_any A W (by omega))
  rw [nA] at HIA
  have HIB := Lib.hid (fun W => isNumeral_any B W (by omega))
  rw [nB] at HIB
  have HRA := Lib.hid (fun W => readNumeral_any A W (by have := isNum_pos nA; rw [len_data] at this; exact this) hA (isNum_digits nA))
  have hnA : nd 4294967296 (sval A.data.toList) ≤ 5463 := Nat.le_trans (nd_sval (isNum_digits nA)) (by rw [len_data]; exact hA)
  rw [show fitE (sval A.data.toList) = 0 from if_pos fA, show fitN (sval A.data.toList) = sval A.data.toList from if_pos fA] at HRA
  have HRB := Lib.hid (fun W => readNumeral_any B W (by have := isNum_pos nB; rw [len_data] at this; exact this) _hB (isNum_digits nB))
  have hnB : nd 4294967296 (sval B.data.toList) ≤ 5463 := Nat.le_trans (nd_sval (isNum_digits nB)) (by rw [len_data]; exact _hB)
  rw [show fitE (sval B.data.toList) = 0 from if_pos fB, show fitN (sval B.data.toList) = sval B.data.toList from if_pos fB] at HRB
  have n0 : (B.toList == [48]) = false := by rw [← toList_one]; exact toList_ne b0
  have n1 : (B.toList == [49]) = false := by rw [← toList_one]; exact toList_ne b1
  obtain ⟨N, hN⟩ : ∃ N, N = 6000 := ⟨_, rfl⟩
  have HDV := Lib.hid (divide_long N (by omega))
  have HG := Lib.hid (fun v u W (h1 : D W v (sval A.data.toList)) (h2 : D W u (sval B.data.toList)) => gcd_any HDV.out v u _ _ W h1 h2 ((nd_le (by decide)).1 (by omega)) ((nd_le (by decide)).1 (by omega)))
  have HO := Lib.hid (fun v W (h : D W v (Nat.gcd (sval A.data.toList) (sval B.data.toList))) => isOne_any v _ W h)
  rw [gg] at HG HO
  rw [show decide ((1 : Nat) = 1) = true from rfl] at HO
  generalize sval A.data.toList = a at *
  generalize sval B.data.toList = b at *
  clear he hcut nA nB fA fB gg b0 b1 hnA hnB hN HDV
  go_enter Tryz.func22, Tryz.ntmps22
  go_wp2_with fail
  refine (HCUT.out _).mono ?_
  rintro e w1 ⟨rfl, hb⟩
  have hs := HS0.out.next hb
  have HX1 := Lib.hid hb
  have d0 : (w1).cell? ⟨w.heap.size, 0, none⟩ = some (.slice none 0 0) := (HX1.out.cell (p := ⟨w.heap.size, 0, none⟩) (by simp)).trans (World.cell?_alloc_at _ _ _ _ rfl)
  have g0 : (w1).frozen? ⟨w.heap.size, 0, none⟩ = false := (HX1.out.frozen (p := ⟨w.heap.size, 0, none⟩) (by simp)).trans (World.frozen?_alloc_at _ _ _ _ rfl)
  have d1 : (w1).cell? ⟨w.heap.size, 1, none⟩ = some (.slice none 0 0) := (HX1.out.cell (p := ⟨w.heap.size, 1, none⟩) (by simp)).trans (World.cell?_alloc_at _ _ _ _ rfl)
  have g1 : (w1).frozen? ⟨w.heap.size, 1, none⟩ = false := (HX1.out.frozen (p := ⟨w.heap.size, 1, none⟩) (by simp)).trans (World.frozen?_alloc_at _ _ _ _ rfl)
  have HS1 := Lib.hid hs
  clear hs hb
  go_wp2_with fail
  refine (HIA.out _).mono ?_
  rintro e w2 ⟨rfl, rfl⟩
  go_wp2_with fail
  refine (HIB.out _).mono ?_
  rintro e w2 ⟨rfl, rfl⟩
  go_wp2_with fail
  refine (HRA.out _).mono ?_
  rintro e w2 ⟨va, rfl, ha, hb⟩
  obtain ⟨ao, ac, rfl, -⟩ := ha.shape
  have hs := ((HS1.out.next hb).addNum ha).boxed (.slice ao (nd 4294967296 a) ac) 42
  clear d0 d1 g0 g1
  have HX2 := Lib.hid ((HX1.out.trans (hb.mono HX1.out.size)).alloc (Nat.le_trans HX1.out.size hb.size) (.cells #[.slice ao (nd 4294967296 a) ac] 42))
  have d0 : (w2.alloc (.cells #[.slice ao (nd 4294967296 a) ac] 42)).cell? ⟨w.heap.size, 0, none⟩ = some (.slice none 0 0) := (HX2.out.cell (p := ⟨w.heap.size, 0, none⟩) (by simp)).trans (World.cell?_alloc_at _ _ _ _ rfl)
  have g0 : (w2.alloc (.cells #[.slice ao (nd 4294967296 a) ac] 42)).frozen? ⟨w.heap.size, 0, none⟩ = false := (HX2.out.frozen (p := ⟨w.heap.size, 0, none⟩) (by simp)).trans (World.frozen?_alloc_at _ _ _ _ rfl)
  have d1 : (w2.alloc (.cells #[.slice ao (nd 4294967296 a) ac] 42)).cell? ⟨w.heap.size, 1, none⟩ = some (.slice none 0 0) := (HX2.out.cell (p := ⟨w.heap.size, 1, none⟩) (by simp)).trans (World.cell?_alloc_at _ _ _ _ rfl)
  have g1 : (w2.alloc (.cells #[.slice ao (nd 4294967296 a) ac] 42)).frozen? ⟨w.heap.size, 1, none⟩ = false := (HX2.out.frozen (p := ⟨w.heap.size, 1, none⟩) (by simp)).trans (World.frozen?_alloc_at _ _ _ _ rfl)
  have HS2 := Lib.hid hs
  clear hs hb ha
  clear d0 d1 g0 g1
  go_wp2_with fail
  refine (HRB.out _).mono ?_
  rintro e w3 ⟨vb, rfl, hbv, hb⟩
  obtain ⟨bo, bc, rfl, -⟩ := hbv.shape
  have hs := ((HS2.out.next hb).addNum hbv).boxed (.slice bo (nd 4294967296 b) bc) 42
  have HX3 := Lib.hid ((HX2.out.trans (hb.mono HX2.out.size)).alloc (Nat.le_trans HX2.out.size hb.size) (.cells #[.slice bo (nd 4294967296 b) bc] 42))
  have d0 : (w3.alloc (.cells #[.slice bo (nd 4294967296 b) bc] 42)).cell? ⟨w.heap.size, 0, none⟩ = some (.slice none 0 0) := (HX3.out.cell (p := ⟨w.heap.size, 0, none⟩) (by simp)).trans (World.cell?_alloc_at _ _ _ _ rfl)
  have g0 : (w3.alloc (.cells #[.slice bo (nd 4294967296 b) bc] 42)).frozen? ⟨w.heap.size, 0, none⟩ = false := (HX3.out.frozen (p := ⟨w.heap.size, 0, none⟩) (by simp)).trans (World.frozen?_alloc_at _ _ _ _ rfl)
  have d1 : (w3.alloc (.cells #[.slice bo (nd 4294967296 b) bc] 42)).cell? ⟨w.heap.size, 1, none⟩ = some (.slice none 0 0) := (HX3.out.cell (p := ⟨w.heap.size, 1, none⟩) (by simp)).trans (World.cell?_alloc_at _ _ _ _ rfl)
  have g1 : (w3.alloc (.cells #[.slice bo (nd 4294967296 b) bc] 42)).frozen? ⟨w.heap.size, 1, none⟩ = false := (HX3.out.frozen (p := ⟨w.heap.size, 1, none⟩) (by simp)).trans (World.frozen?_alloc_at _ _ _ _ rfl)
  have x0 := hs.cell (g := w2.heap.size) (o := 0) (.tail _ (.head _))
  have x1 := hs.cell (g := w3.heap.size) (o := 0) (.head _)
  have HS3 := Lib.hid hs
  clear hs hb hbv
  go_wp2_with fail
  refine (HG.out _ _ _ (HS3.out.num _ (.tail _ (.head _))) (HS3.out.num _ (.head _))).mono ?_
  rintro e w4 ⟨vg, rfl, hg, hb⟩
  have hs := HS3.out.next hb
  clear d0 d1 g0 g1 x0 x1
  have HX4 := Lib.hid (HX3.out.trans (hb.mono HX3.out.size))
  have d0 : (w4).cell? ⟨w.heap.size, 0, none⟩ = some (.slice none 0 0) := (HX4.out.cell (p := ⟨w.heap.size, 0, none⟩) (by simp)).trans (World.cell?_alloc_at _ _ _ _ rfl)
  have g0 : (w4).frozen? ⟨w.heap.size, 0, none⟩ = false := (HX4.out.frozen (p := ⟨w.heap.size, 0, none⟩) (by simp)).trans (World.frozen?_alloc_at _ _ _ _ rfl)
  have d1 : (w4).cell? ⟨w.heap.size, 1, none⟩ = some (.slice none 0 0) := (HX4.out.cell (p := ⟨w.heap.size, 1, none⟩) (by simp)).trans (World.cell?_alloc_at _ _ _ _ rfl)
  have g1 : (w4).frozen? ⟨w.heap.size, 1, none⟩ = false := (HX4.out.frozen (p := ⟨w.heap.size, 1, none⟩) (by simp)).trans (World.frozen?_alloc_at _ _ _ _ rfl)
  have x0 := hs.cell (g := w2.heap.size) (o := 0) (.tail _ (.head _))
  have x1 := hs.cell (g := w3.heap.size) (o := 0) (.head _)
  have HS4 := Lib.hid hs
  have HGG := Lib.hid hg
  clear hs hb hg
  go_wp2_with fail
  refine (HO.out _ _ HGG.out).mono ?_
  rintro e w5 ⟨rfl, rfl⟩
  obtain ⟨e1, e2, t0, t1, e3⟩ := two_store (w := w) (B := w.heap.size) (HS4.out.num _ (.tail _ (.head _))) (HS4.out.num _ (.head _)) d0 d1 HS4.out.bel (Nat.le_refl _)
  have E1 := Lib.hid e1; have E2 := Lib.hid e2; have E3 := Lib.hid e3; have T0 := Lib.hid t0; have T1 := Lib.hid t1
  clear e1 e2 e3 t0 t1
  go_wp2
  have t0 := T0.out; have t1 := T1.out
  refine bodyPost_ret (v := .tuple #[.agg #[.slice ao (nd 4294967296 a) ac, .slice bo (nd 4294967296 b) bc], .int .i64 0]) (by simp [results, Tryz.results22, go_sem, t0, t1]) rfl ⟨_, _, rfl, E1.out, E2.out, E3.out⟩
end Go.Proofs.YteajinpfigejfaaGreatDoor
namespace Go.Proofs.YteajinpfigejfaaGreatDoor
open Go Go.RowKit Gu

theorem cmp_neg (a b : Nat) : cmpN ((b : Nat) : Int) ((a : Nat) : Int) = - cmpN ((a : Nat) : Int) ((b : Nat) : Int) := by
  rcases Nat.lt_trichotomy a b with h | h | h
  · rw [cmpN_gt (by omega), cmpN_lt (by omega)]; decide
  · rw [cmpN_eq (by omega), cmpN_eq (by omega)]; decide
  · rw [cmpN_lt (by omega), cmpN_gt (by omega)]
theorem cmp_le {a b : Nat} : cmpN ((a : Nat) : Int) ((b : Nat) : Int) ≤ 0 ↔ a ≤ b := by
  rcases Nat.lt_trichotomy a b with h | h | h
  · rw [cmpN_lt (by omega)]; simp; omega
  · rw [cmpN_eq (by omega)]; simp; omega
  · rw [cmpN_gt (by omega)]; simp; omega
theorem cmp_zero {a b : Nat} : cmpN ((a : Nat) : Int) ((b : Nat) : Int) = 0 ↔ a = b := by
  rcases Nat.lt_trichotomy a b with h | h | h
  · rw [cmpN_lt (by omega)]; simp; omega
  · rw [cmpN_eq (by omega)]; simp; omega
  · rw [cmpN_gt (by omega)]; simp; omega
theorem cmp_three (a b : Nat) : cmpN ((a : Nat) : Int) ((b : Nat) : Int) = -1 ∨ cmpN ((a : Nat) : Int) ((b : Nat) : Int) = 0 ∨ cmpN ((a : Nat) : Int) ((b : Nat) : Int) = 1 := by
  rcases Nat.lt_trichotomy a b with h | h | h
  · exact .inl (cmpN_lt (by omega))
  · exact .inr (.inl (cmpN_eq (by omega)))
  · exact .inr (.inr (cmpN_gt (by omega)))
/-- a comparison depends on the order alone -/
theorem cmp_same {a b c d : Nat} (h1 : a < b ↔ c < d) (h2 : b < a ↔ d < c) : cmpN ((a : Nat) : Int) ((b : Nat) : Int) = cmpN ((c : Nat) : Int) ((d : Nat) : Int) := by
  rcases Nat.lt_trichotomy a b with h | h | h
  · rw [cmpN_lt (by omega), cmpN_lt (by have := h1.1 h; omega)]
  · have h3 : ¬ a < b := by omega
    have h4 : ¬ b < a := by omega
    rw [h1] at h3; rw [h2] at h4
    rw [cmpN_eq (by omega), cmpN_eq (by omega)]
  · rw [cmpN_gt (by omega), cmpN_gt (by have := h2.1 h; omega)]
theorem cmp_scale {a b k : Nat} (hk : 0 < k) : cmpN ((a * k : Nat) : Int) ((b * k : Nat) : Int) = cmpN ((a : Nat) : Int) ((b : Nat) : Int) :=
  cmp_same (Nat.mul_lt_mul_right hk) (Nat.mul_lt_mul_right hk)
/-- of three fractions -/
theorem frac_trans {P1 Q1 P2 Q2 P3 Q3 : Nat} (h2 : 0 < Q2) (hx : P1 * Q2 ≤ P2 * Q1) (hy : P2 * Q3 ≤ P3 * Q2) : P1 * Q3 ≤ P3 * Q1 := by
  have e1 : P1 * Q2 * Q3 ≤ P2 * Q1 * Q3 := Nat.mul_le_mul_right _ hx
  have e2 : P2 * Q3 * Q1 ≤ P3 * Q2 * Q1 := Nat.mul_le_mul_right _ hy
  have e3 : P2 * Q1 * Q3 = P2 * Q3 * Q1 := Nat.mul_right_comm _ _ _
  have e4 : P1 * Q3 * Q2 ≤ P3 * Q1 * Q2 := by
    rw [Nat.mul_right_comm P1 Q3 Q2, Nat.mul_right_comm P3 Q1 Q2]
    omega
  exact Nat.le_of_mul_le_mul_right e4 h2
theorem low_mul {L M : Nat} : lowP L M * Nat.gcd L M = L ∧ lowQ L M * Nat.gcd L M = M := ⟨Nat.div_mul_cancel (Nat.gcd_dvd_left _ _), Nat.div_mul_cancel (Nat.gcd_dvd_right _ _)⟩
/-- fractions in lowest terms compare as what they were made of -/
theorem cmp_low {L M L' M' : Nat} (hM : 0 < M) (hM' : 0 < M') : cmpN ((lowP L M * lowQ L' M' : Nat) : Int) ((lowP L' M' * lowQ L M : Nat) : Int) = cmpN ((L * M' : Nat) : Int) ((L' * M : Nat) : Int) := by
  obtain ⟨e1, e2⟩ := low_mul (L := L) (M := M)
  obtain ⟨e3, e4⟩ := low_mul (L := L') (M := M')
  have hg : 0 < Nat.gcd L M * Nat.gcd L' M' := Nat.mul_pos (Nat.gcd_pos_of_pos_right _ hM) (Nat.gcd_pos_of_pos_right _ hM')
  rw [← cmp_scale (k := Nat.gcd L M * Nat.gcd L' M') hg]
  have a1 : lowP L M * lowQ L' M' * (Nat.gcd L M * Nat.gcd L' M') = L * M' := by
    rw [Nat.mul_mul_mul_comm, e1, e4]
  have a2 : lowP L' M' * lowQ L M * (Nat.gcd L M * Nat.gcd L' M') = L' * M := by
    rw [Nat.mul_comm (Nat.gcd L M), Nat.mul_mul_mul_comm, e3, e2]
  rw [a1, a2]
/-- a sum with one and the same fraction keeps the order -/
theorem cmp_plus {P1 Q1 P2 Q2 P3 Q3 : Nat} (h3 : 0 < Q3) :
    cmpN (((P1 * Q3 + P3 * Q1) * (Q2 * Q3) : Nat) : Int) (((P2 * Q3 + P3 * Q2) * (Q1 * Q3) : Nat) : Int) = cmpN ((P1 * Q2 : Nat) : Int) ((P2 * Q1 : Nat) : Int) := by
  have hk : 0 < Q3 * Q3 := Nat.mul_pos h3 h3
  rw [← cmp_scale (a := P1 * Q2) (b := P2 * Q1) hk]
  have a1 : (P1 * Q3 + P3 * Q1) * (Q2 * Q3) = P1 * Q2 * (Q3 * Q3) + P3 * Q1 * (Q2 * Q3) := by
    rw [Nat.add_mul, Nat.mul_mul_mul_comm]
  have a2 : (P2 * Q3 + P3 * Q2) * (Q1 * Q3) = P2 * Q1 * (Q3 * Q3) + P3 * Q1 * (Q2 * Q3) := by
    rw [Nat.add_mul, Nat.mul_mul_mul_comm, Nat.mul_mul_mul_comm P3 Q2, Nat.mul_mul_mul_comm P3 Q1]
  rw [a1, a2]
  exact cmp_same (by omega) (by omega)
theorem low_coprime {L M : Nat} (hM : 0 < M) : Nat.gcd (lowP L M) (lowQ L M) = 1 := by
  obtain ⟨e1, e2⟩ := low_mul (L := L) (M := M)
  have h := Nat.gcd_mul_right (lowP L M) (Nat.gcd L M) (lowQ L M)
  rw [e1, e2] at h
  exact Nat.eq_of_mul_eq_mul_right (Nat.gcd_pos_of_pos_right L hM) (by rw [Nat.one_mul]; exact h.symm)
/-- lowest terms are unique -/
theorem low_unique {P Q P' Q' : Nat} (h : Nat.gcd P Q = 1) (h' : Nat.gcd P' Q' = 1) (hQ : 0 < Q) (hQ' : 0 < Q') (he : P * Q' = P' * Q) : P = P' ∧ Q = Q' := by
  have d1 : Q ∣ Q' := by
    have : Q ∣ P * Q' := ⟨P', by rw [he, Nat.mul_comm]⟩
    exact (Nat.Coprime.symm h).dvd_of_dvd_mul_left this
  have d2 : Q' ∣ Q := by
    have : Q' ∣ P' * Q := ⟨P, by rw [← he, Nat.mul_comm]⟩
    exact (Nat.Coprime.symm h').dvd_of_dvd_mul_left this
  have e : Q = Q' := Nat.dvd_antisymm d1 d2
  subst e
  exact ⟨Nat.eq_of_mul_eq_mul_right hQ he, rfl⟩
theorem dec_no_slash (n : Nat) : (47 : UInt8) ∉ Lib.decDigits n := fun h => by
  have := List.all_eq_true.1 (dec_digits n) _ h
  exact absurd this (by decide)
theorem split_slash {a b c d : List UInt8} (ha : (47 : UInt8) ∉ a) (hc : (47 : UInt8) ∉ c) (h : a ++ 47 :: b = c ++ 47 :: d) : a = c ∧ b = d := by
  induction a generalizing c with
  | nil =>
    cases c with
    | nil => simpa using h
    | cons x c => simp at h; exact absurd h.1.symm (by intro e; exact hc (by rw [e]; exact List.mem_cons_self))
  | cons y a ih =>
    cases c with
    | nil => simp at h; exact absurd h.1 (by intro e; exact ha (by rw [← e]; exact List.mem_cons_self))
    | cons x c =>
      simp only [List.cons_append, List.cons.injEq] at h
      obtain ⟨h1, h2⟩ := ih (fun m => ha (List.mem_cons_of_mem _ m)) (fun m => hc (List.mem_cons_of_mem _ m)) h.2
      exact ⟨by rw [h.1, h1], h2⟩
theorem fracText_inj {P Q P' Q' : Nat} (h : fracText P Q = fracText P' Q') : P = P' ∧ Q = Q' := by
  unfold fracText at h
  have no : ∀ {n a b : Nat}, Lib.decDigits n ≠ Lib.decDigits a ++ 47 :: Lib.decDigits b := fun e => dec_no_slash _ (by rw [e]; exact List.mem_append_right _ List.mem_cons_self)
  split at h <;> split at h
  · exact ⟨dec_inj h, by omega⟩
  · exact absurd h no
  · exact absurd h.symm no
  · obtain ⟨h1, h2⟩ := split_slash (dec_no_slash _) (dec_no_slash _) h
    exact ⟨dec_inj h1, dec_inj h2⟩
theorem frac_text_cmp {P Q P' Q' : Nat} (h : Nat.gcd P Q = 1) (h' : Nat.gcd P' Q' = 1) (hQ : 0 < Q) (hQ' : 0 < Q') : (⟨(fracText P Q).toArray⟩ : ByteArray) = ⟨(fracText P' Q').toArray⟩ ↔ cmpN ((P * Q' : Nat) : Int) ((P' * Q : Nat) : Int) = 0 := by
  rw [cmp_zero]
  constructor
  · intro e
    have e1 : (fracText P Q).toArray = (fracText P' Q').toArray := congrArg ByteArray.data e
    have e2 : fracText P Q = fracText P' Q' := by simpa using congrArg Array.toList e1
    obtain ⟨rfl, rfl⟩ := fracText_inj e2
    rfl
  · intro e
    obtain ⟨rfl, rfl⟩ := low_unique h h' hQ hQ' e
    rfl
end Go.Proofs.YteajinpfigejfaaGreatDoor
