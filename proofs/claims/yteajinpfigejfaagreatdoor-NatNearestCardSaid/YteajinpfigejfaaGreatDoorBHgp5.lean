/- Contracts and lemmas (several texts merged into one). -/
import Derived.Test.YteajinpfigejfaaGreatDoorBHgp4
import Derived.Test.YteajinpfigejfaaGreatDoorBHgp3
namespace Go.Proofs.YteajinpfigejfaaGreatDoor
open Go Go.RowKit Gu

/-- the denominator that b stands for -/
def dn (b : Nat) : Nat := if b = 0 then 1 else b
theorem dn_pos (b : Nat) : 0 < dn b := by unfold dn; split <;> omega
theorem dn_of {b : Nat} (h : 0 < b) : dn b = b := if_neg (by omega)
theorem dn_nd {b m : Nat} (h : nd 4294967296 b ≤ m) (hm : 1 ≤ m) : nd 4294967296 (dn b) ≤ m := by
  unfold dn
  split
  · exact Nat.le_trans (nd_small (by decide)) hm
  · exact h
set_option maxHeartbeats 1000000 in
theorem terms_zero (v u : Value) (a : Nat) (w : World) (hv : D w v a) (hu : D w u 0) :
    Calls Tryz.prog 34 #[.agg #[v, u]] w fun e w' => ∃ r, e = .returned (.tuple #[v, r]) ∧ D w' r 1 ∧ Below w.heap.size w w' := by
  have b1 : ∀ o, Below w.heap.size w (w.alloc o) := fun o => (Below.refl _ _).alloc (Nat.le_refl _) _
  obtain ⟨W0, hW0⟩ : ∃ W0 : World, W0 = w.alloc (.cells #[v, u] 26) := ⟨_, rfl⟩
  have hz0 : W0.heap.size = w.heap.size + 1 := by rw [hW0]; simp
  have hbw : Below w.heap.size w W0 := by rw [hW0]; exact b1 _
  have hst0 : St1 W0 v a W0 := ⟨hv.below hbw, Below.refl _ _⟩
  have c0 : W0.cell? ⟨w.heap.size, 0, none⟩ = some v := by rw [hW0]; exact World.cell?_alloc_at _ _ _ _ rfl
  have HCA : Hid (∀ W, St1 W0 v a W → W.cell? ⟨w.heap.size, 0, none⟩ = some v) := fun W h => h.cell (by omega) c0
  have HZ := Lib.hid (isZero_any u 0 W0 (hu.below hbw))
  rw [show decide ((0 : Nat) = 0) = true from rfl] at HZ
  have HD1 : Hid (∀ W, St1 W0 v a W → Calls Tryz.prog 35 #[.int .u64 1] W fun e w' => ∃ r, e = .returned r ∧ D w' r 1 ∧ St1 W0 v a w') := fun W h =>
    (digitsOf_any 1 W (by decide)).mono fun e w' ⟨r, he, hr, hB⟩ => ⟨r, he, hr, h.next hB⟩
  have HBW := Lib.hid hbw
  have HW0 := Lib.hid hW0
  obtain ⟨ao, ac, rfl, -⟩ := hv.shape
  obtain ⟨bo, bc, rfl, -⟩ := hu.shape
  have hs2 := hst0.next ((Below.refl _ W0).drew)
  have hc2 := HCA.out _ hs2
  have hc0 := HCA.out _ hst0
  clear hv hu b1 hz0 hbw c0 hW0
  go_enter Tryz.func34, Tryz.ntmps34
  go_wp2_with fail
  rw [← HW0.out]
  refine HZ.out.mono ?_
  rintro e w1 ⟨rfl, rfl⟩
  go_wp2_with fail
  go_region_held3 (fun W : World => W.cell? ⟨w.heap.size, 0, none⟩ = some (.slice ao (nd 4294967296 a) ac) ∧ St1 W0 (.slice ao (nd 4294967296 a) ac) a W) (first | (refine And.intro ?_ ?_ <;> assumption)) (first
    | (go_at_call 35; with_reducible refine (HD1.out _ ?h).mono ?_; (case h => assumption); rintro e w' ⟨o1, rfl, hr', hs'⟩; have hc' := HCA.out _ hs'))
  all_goals
    have hD : D w' o1 1 := by assumption
    have hT : St1 W0 (.slice ao (nd 4294967296 a) ac) a w' := by assumption
    have HDD := Lib.hid hD
    have HBE := Lib.hid (HBW.out.trans (hT.bel.mono HBW.out.size))
    clear hD hT
    go_wp2
    go_ret2
    exact ⟨_, rfl, HDD.out, HBE.out⟩
theorem terms_any (v u : Value) (a b : Nat) (w : World) (hv : D w v a) (hu : D w u b) :
    Calls Tryz.prog 34 #[.agg #[v, u]] w fun e w' => ∃ r, e = .returned (.tuple #[v, r]) ∧ D w' r (dn b) ∧ Below w.heap.size w w' := by
  rcases Nat.eq_zero_or_pos b with h | h
  · subst h
    rw [show dn 0 = 1 from rfl]
    exact terms_zero v u a w hv hu
  · rw [dn_of h]
    exact (terms_pos v u a b w hv hu h).mono fun e w' ⟨he, hB⟩ => ⟨u, he, hu.below hB, hB⟩
/-- the text of a fraction -/
def fracText (a b : Nat) : List UInt8 := if b = 1 then Lib.decDigits a else Lib.decDigits a ++ 47 :: Lib.decDigits b
set_option maxHeartbeats 1000000 in
theorem FracString_one (v u : Value) (a b : Nat) (w : World) (hv : D w v a) (hu : D w u b) (hb : dn b = 1) (ha : nd 4294967296 a ≤ 100000) (he : Env w) :
    Calls Tryz.prog 23 #[.agg #[v, u]] w fun e w' => e = .returned (.string ⟨(Lib.decDigits a).toArray⟩) ∧ Below w.heap.size w w' := by
  have b1 : ∀ o, Below w.heap.size w (w.alloc o) := fun o => (Below.refl _ _).alloc (Nat.le_refl _) _
  have HT := Lib.hid (fun o => terms_any v u a b (w.alloc o) (hv.below (b1 o)) (hu.below (b1 o)))
  rw [hb] at HT
  have HO := Lib.hid (fun r w' (h : D w' r 1) => isOne_any r 1 w' h)
  rw [show decide ((1 : Nat) = 1) = true from rfl] at HO
  have HSA := Lib.hid (fun o w' (h : Below (w.alloc o).heap.size (w.alloc o) w') => String_any v a w' ((hv.below (b1 o)).below h) ha ((he.below (b1 o)).below h))
  have HB1 := Lib.hid b1
  obtain ⟨Sa, hSa⟩ : ∃ Sa : ByteArray, Sa = ⟨(Lib.decDigits a).toArray⟩ := ⟨_, rfl⟩
  rw [← hSa] at HSA ⊢
  obtain ⟨ao, ac, rfl, -⟩ := hv.shape
  obtain ⟨bo, bc, rfl, -⟩ := hu.shape
  clear hv hu b1 he hSa hb
  go_enter Tryz.func23, Tryz.ntmps23
  go_wp2_with fail
  refine (HT.out _).mono ?_
  rintro e w1 ⟨r, rfl, hr, hb1⟩
  have HB2 := Lib.hid hb1; have HR := Lib.hid hr; clear hb1 hr
  go_wp2_with fail
  refine (HO.out _ _ HR.out).mono ?_
  rintro e w2 ⟨rfl, rfl⟩
  go_wp2_with fail
  refine (HSA.out _ _ HB2.out).mono ?_
  rintro e w2 ⟨rfl, hb2⟩
  have HB3 := Lib.hid ((HB1.out _).trans ((HB2.out.trans (hb2.mono HB2.out.size)).mono (by simp))); clear hb2
  go_wp2
  go_ret
  exact ⟨rfl, HB3.out⟩
theorem FracString_any (v u : Value) (a b : Nat) (w : World) (hv : D w v a) (hu : D w u b) (ha : nd 4294967296 a ≤ 100000) (hb2 : nd 4294967296 b ≤ 100000) (he : Env w) :
    Calls Tryz.prog 23 #[.agg #[v, u]] w fun e w' => e = .returned (.string ⟨(fracText a (dn b)).toArray⟩) ∧ Below w.heap.size w w' := by
  unfold fracText
  by_cases h : dn b = 1
  · rw [if_pos h]
    exact FracString_one v u a b w hv hu h ha he
  · rw [if_neg h]
    have h1 : 1 < b := by
      unfold dn at h
      split at h <;> omega
    rw [dn_of (by omega)]
    exact FracString_two v u a b w hv hu h1 ha hb2 he
set_option maxHeartbeats 1000000 in
theorem FNum_any (v u : Value) (a b : Nat) (w : World) (hv : D w v a) (hu : D w u b) (ha : nd 4294967296 a ≤ 1048576) :
    Calls Tryz.prog 25 #[.agg #[v, u]] w fun e w' => ∃ r, e = .returned (.agg #[r]) ∧ D w' r a ∧ Below w.heap.size w w' := by
  have b2 : ∀ o1 o2, Below w.heap.size w ((w.alloc o1).alloc o2) := fun o1 o2 => ((Below.refl _ _).alloc (Nat.le_refl _) _).alloc (by simp) _
  have HT := Lib.hid (fun o1 o2 => terms_any v u a b ((w.alloc o1).alloc o2) (hv.below (b2 o1 o2)) (hu.below (b2 o1 o2)))
  have HC := Lib.hid (fun o1 o2 w' (h : Below ((w.alloc o1).alloc o2).heap.size ((w.alloc o1).alloc o2) w') => clone_any v a w' ((hv.below (b2 o1 o2)).below h) ha)
  have HB := Lib.hid b2
  obtain ⟨ao, ac, rfl, -⟩ := hv.shape
  obtain ⟨bo, bc, rfl, -⟩ := hu.shape
  clear hv hu b2
  go_enter Tryz.func25, Tryz.ntmps25
  go_wp2_with fail
  refine (HT.out _ _).mono ?_
  rintro e w1 ⟨r, rfl, -, hb1⟩
  have HB1 := Lib.hid hb1
  go_wp2_with fail
  refine (HC.out _ _ _ HB1.out).mono ?_
  rintro e w2 ⟨x, rfl, hx, hb2⟩
  obtain ⟨xo, xc, rfl, -⟩ := hx.shape
  have hb3 := HB1.out.trans (hb2.mono HB1.out.size)
  have hcell : w2.cell? ⟨w.heap.size + 1, 0, none⟩ = some (.slice none 0 0) := (hb3.cell (p := ⟨w.heap.size + 1, 0, none⟩) (by simp)).trans (World.cell?_alloc_at _ _ _ _ (by simp))
  have hfr : w2.frozen? ⟨w.heap.size + 1, 0, none⟩ = false := (hb3.frozen (p := ⟨w.heap.size + 1, 0, none⟩) (by simp)).trans (World.frozen?_alloc_at _ _ _ _ (by simp))
  have HX := Lib.hid hx; have HCE := Lib.hid hcell
  have HBE := Lib.hid ((HB.out _ _).trans (hb3.mono (HB.out _ _).size))
  clear hx hb1 hb2 hb3
  go_wp2
  refine bodyPost_ret (v := .agg #[.slice xo (nd 4294967296 a) xc]) (by simp [results, Tryz.results25, go_sem, hcell]) rfl ⟨_, rfl, HX.out.setCell HCE.out (by intro d h; cases h) _, HBE.out.setCell (by show w.heap.size ≤ w.heap.size + 1; omega) _⟩
set_option maxHeartbeats 1000000 in
theorem FDen_any (v u : Value) (a b : Nat) (w : World) (hv : D w v a) (hu : D w u b) (hb : nd 4294967296 (dn b) ≤ 1048576) :
    Calls Tryz.prog 15 #[.agg #[v, u]] w fun e w' => ∃ r, e = .returned (.agg #[r]) ∧ D w' r (dn b) ∧ Below w.heap.size w w' := by
  have b2 : ∀ o1 o2, Below w.heap.size w ((w.alloc o1).alloc o2) := fun o1 o2 => ((Below.refl _ _).alloc (Nat.le_refl _) _).alloc (by simp) _
  have HT := Lib.hid (fun o1 o2 => terms_any v u a b ((w.alloc o1).alloc o2) (hv.below (b2 o1 o2)) (hu.below (b2 o1 o2)))
  have HC := Lib.hid (fun r w' (h : D w' r (dn b)) => clone_any r (dn b) w' h hb)
  have HB := Lib.hid b2
  obtain ⟨ao, ac, rfl, -⟩ := hv.shape
  obtain ⟨bo, bc, rfl, -⟩ := hu.shape
  clear hv hu b2
  generalize dn b = db at *
  go_enter Tryz.func15, Tryz.ntmps15
  go_wp2_with fail
  refine (HT.out _ _).mono ?_
  rintro e w1 ⟨r, rfl, hr, hb1⟩
  have HB1 := Lib.hid hb1; have HR := Lib.hid hr
  clear hr
  go_wp2_with fail
  refine (HC.out _ _ HR.out).mono ?_
  rintro e w2 ⟨x, rfl, hx, hb2⟩
  obtain ⟨xo, xc, rfl, -⟩ := hx.shape
  have hb3 := HB1.out.trans (hb2.mono HB1.out.size)
  have hcell : w2.cell? ⟨w.heap.size + 1, 0, none⟩ = some (.slice none 0 0) := (hb3.cell (p := ⟨w.heap.size + 1, 0, none⟩) (by simp)).trans (World.cell?_alloc_at _ _ _ _ (by simp))
  have hfr : w2.frozen? ⟨w.heap.size + 1, 0, none⟩ = false := (hb3.frozen (p := ⟨w.heap.size + 1, 0, none⟩) (by simp)).trans (World.frozen?_alloc_at _ _ _ _ (by simp))
  have HX := Lib.hid hx; have HCE := Lib.hid hcell
  have HBE := Lib.hid ((HB.out _ _).trans (hb3.mono (HB.out _ _).size))
  clear hx hb1 hb2 hb3
  go_wp2
  refine bodyPost_ret (v := .agg #[.slice xo (nd 4294967296 db) xc]) (by simp [results, Tryz.results15, go_sem, hcell]) rfl ⟨_, rfl, HX.out.setCell HCE.out (by intro d h; cases h) _, HBE.out.setCell (by show w.heap.size ≤ w.heap.size + 1; omega) _⟩
end Go.Proofs.YteajinpfigejfaaGreatDoor
namespace Go.Proofs.YteajinpfigejfaaGreatDoor
open Go Go.RowKit Gu

def ffE (P Q : Nat) : Int := if nd 2 P ≤ 16384 ∧ nd 2 Q ≤ 16384 then 0 else 3
def ffN (P Q x : Nat) : Nat := if nd 2 P ≤ 16384 ∧ nd 2 Q ≤ 16384 then x else 0
/-- in lowest terms -/
def lowP (a b : Nat) : Nat := a / Nat.gcd a b
def lowQ (a b : Nat) : Nat := b / Nat.gcd a b
set_option maxHeartbeats 1000000 in
theorem crossed_any (v u x y : Value) (a b c d : Nat) (w : World) (hv : D w v a) (hu : D w u b) (hx : D w x c) (hy : D w y d) (ha : nd 4294967296 a ≤ 100000) (hb : nd 4294967296 b ≤ 100000) (hc : nd 4294967296 c ≤ 100000) (hd : nd 4294967296 d ≤ 100000) :
    Calls Tryz.prog 48 #[.agg #[v, u], .agg #[x, y]] w fun e w' => ∃ r1 r2 r3, e = .returned (.tuple #[r1, r2, r3]) ∧ D w' r1 (a * dn d) ∧ D w' r2 (c * dn b) ∧ D w' r3 (dn b * dn d) ∧ Below w.heap.size w w' := by
  have b2 : ∀ o1 o2, Below w.heap.size w ((w.alloc o1).alloc o2) := fun o1 o2 => ((Below.refl _ _).alloc (Nat.le_refl _) _).alloc (by simp) _
  have hdb := dn_nd hb (by decide)
  have hdd := dn_nd hd (by decide)
  have HT1 := Lib.hid (fun o1 o2 => terms_any v u a b ((w.alloc o1).alloc o2) (hv.below (b2 o1 o2)) (hu.below (b2 o1 o2)))
  have HT2 := Lib.hid (fun o1 o2 w' (h : Below ((w.alloc o1).alloc o2).heap.size ((w.alloc o1).alloc o2) w') => terms_any x y c d w' ((hx.below (b2 o1 o2)).below h) ((hy.below (b2 o1 o2)).below h))
  have HA := Lib.hid (fun o1 o2 => hv.below (b2 o1 o2))
  have HC := Lib.hid (fun o1 o2 => hx.below (b2 o1 o2))
  have HB := Lib.hid b2
  obtain ⟨ao, ac, rfl, -⟩ := hv.shape
  obtain ⟨bo, bc, rfl, -⟩ := hu.shape
  obtain ⟨co, cc, rfl, -⟩ := hx.shape
  obtain ⟨eo, ec, rfl, -⟩ := hy.shape
  clear hv hu hx hy b2
  generalize dn b = B at *
  generalize dn d = E at *
  go_enter Tryz.func48, Tryz.ntmps48
  go_wp2_with fail
  refine (HT1.out _ _).mono ?_
  rintro e w1 ⟨r, rfl, hr, hb1⟩
  obtain ⟨ro, rc, rfl, -⟩ := hr.shape
  have HB1 := Lib.hid hb1; have HR := Lib.hid hr
  have e0 : w1.cell? ⟨w.heap.size + 1, 0, none⟩ = some (.slice co (nd 4294967296 c) cc) := (hb1.cell (p := ⟨w.heap.size + 1, 0, none⟩) (by simp)).trans (World.cell?_alloc_at _ _ _ _ (by simp))
  have e1 : w1.cell? ⟨w.heap.size + 1, 1, none⟩ = some (.slice eo (nd 4294967296 d) ec) := (hb1.cell (p := ⟨w.heap.size + 1, 1, none⟩) (by simp)).trans (World.cell?_alloc_at _ _ _ _ (by simp))
  clear hr hb1
  go_wp2_with fail
  refine (HT2.out _ _ _ HB1.out).mono ?_
  rintro e w2 ⟨s, rfl, hs, hb2⟩
  obtain ⟨so, sc, rfl, -⟩ := hs.shape
  have HB2 := Lib.hid (HB1.out.trans (hb2.mono HB1.out.size)); have HS := Lib.hid hs; have HR2 := Lib.hid (HR.out.below hb2)
  clear hs hb2 HR e0 e1
  have HA2 := Lib.hid ((HA.out _ _).below HB2.out)
  have HC2 := Lib.hid ((HC.out _ _).below HB2.out)
  have HP1 := Lib.hid (product_any _ _ a E w2 HA2.out HS.out (by omega) (by omega))
  go_wp2_with fail
  refine HP1.out.mono ?_
  rintro e w3 ⟨p1, rfl, hp1, hb3⟩
  have HB3 := Lib.hid (HB2.out.trans (hb3.mono HB2.out.size)); have HQ1 := Lib.hid hp1; have HR3 := Lib.hid (HR2.out.below hb3); have HS3 := Lib.hid (HS.out.below hb3); have HC3 := Lib.hid (HC2.out.below hb3)
  clear hp1 hb3
  have HP2 := Lib.hid (product_any _ _ c B w3 HC3.out HR3.out (by omega) (by omega))
  go_wp2_with fail
  refine HP2.out.mono ?_
  rintro e w4 ⟨p2, rfl, hp2, hb4⟩
  have HB4 := Lib.hid (HB3.out.trans (hb4.mono HB3.out.size)); have HQ2 := Lib.hid hp2; have HQ1' := Lib.hid (HQ1.out.below hb4); have HR4 := Lib.hid (HR3.out.below hb4); have HS4 := Lib.hid (HS3.out.below hb4)
  clear hp2 hb4
  have HP3 := Lib.hid (product_any _ _ B E w4 HR4.out HS4.out (by omega) (by omega))
  go_wp2_with fail
  refine HP3.out.mono ?_
  rintro e w5 ⟨p3, rfl, hp3, hb5⟩
  have HB5 := Lib.hid ((HB.out _ _).trans ((HB4.out.trans (hb5.mono HB4.out.size)).mono (HB.out _ _).size)); have HQ3 := Lib.hid hp3; have HX1 := Lib.hid (HQ1'.out.below hb5); have HX2 := Lib.hid (HQ2.out.below hb5)
  clear hp3 hb5
  go_wp2
  refine bodyPost_ret (v := .tuple #[p1, p2, p3]) (by simp [results, Tryz.results48, go_sem]) rfl ⟨_, _, _, rfl, HX1.out, HX2.out, HQ3.out, HB5.out⟩
set_option maxHeartbeats 1000000 in
theorem FCmp_any (v u x y : Value) (a b c d : Nat) (w : World) (hv : D w v a) (hu : D w u b) (hx : D w x c) (hy : D w y d) (ha : nd 4294967296 a ≤ 100000) (hb : nd 4294967296 b ≤ 100000) (hc : nd 4294967296 c ≤ 100000) (hd : nd 4294967296 d ≤ 100000) :
    Calls Tryz.prog 18 #[.agg #[v, u], .agg #[x, y]] w fun e w' => e = .returned (.int .i64 (cmpN (a * dn d : Nat) (c * dn b : Nat))) ∧ Below w.heap.size w w' := by
  have b2 : ∀ o1 o2, Below w.heap.size w ((w.alloc o1).alloc o2) := fun o1 o2 => ((Below.refl _ _).alloc (Nat.le_refl _) _).alloc (by simp) _
  have HT1 := Lib.hid (fun o1 o2 => crossed_any v u x y a b c d ((w.alloc o1).alloc o2) (hv.below (b2 o1 o2)) (hu.below (b2 o1 o2)) (hx.below (b2 o1 o2)) (hy.below (b2 o1 o2)) ha hb hc hd)
  have h1 := nd_mul ha (dn_nd hd (by decide))
  have h2 := nd_mul hc (dn_nd hb (by decide))
  have HB := Lib.hid b2
  obtain ⟨ao, ac, rfl, -⟩ := hv.shape
  obtain ⟨bo, bc, rfl, -⟩ := hu.shape
  obtain ⟨co, cc, rfl, -⟩ := hx.shape
  obtain ⟨eo, ec, rfl, -⟩ := hy.shape
  clear hv hu hx hy b2
  generalize a * dn d = P at *
  generalize c * dn b = Q at *
  go_enter Tryz.func18, Tryz.ntmps18
  go_wp2_with fail
  refine (HT1.out _ _).mono ?_
  rintro e w1 ⟨r1, r2, r3, rfl, hr1, hr2, -, hb1⟩
  have HB1 := Lib.hid ((HB.out _ _).trans (hb1.mono (HB.out _ _).size))
  have HCM := Lib.hid (compare_any r1 r2 P Q w1 hr1 hr2 (by omega) (by omega))
  clear hr1 hr2 hb1
  go_wp2_with fail
  refine HCM.out.mono ?_
  rintro e w2 ⟨rfl, k, rfl⟩
  go_wp2
  go_ret
  exact ⟨rfl, below_drewN HB1.out k⟩
/-- what the end of a function with a result of two cells reads, where a box was made before -/
theorem fit_end {w w1 : World} {B : Nat} (d0 : w1.cell? ⟨B, 0, none⟩ = some (.slice none 0 0)) (d1 : w1.cell? ⟨B, 1, none⟩ = some (.slice none 0 0)) (hb : Below w.heap.size w w1) (hB : w.heap.size ≤ B) (hlt : B < w1.heap.size) (x y : Value) (o : Obj) :
    (((w1.setCell ⟨B, 0, none⟩ x).setCell ⟨B, 1, none⟩ y).alloc o).cell? ⟨B, 0, none⟩ = some x ∧ (((w1.setCell ⟨B, 0, none⟩ x).setCell ⟨B, 1, none⟩ y).alloc o).cell? ⟨B, 1, none⟩ = some y ∧ Below w.heap.size w (((w1.setCell ⟨B, 0, none⟩ x).setCell ⟨B, 1, none⟩ y).alloc o) := by
  obtain ⟨t0, t1⟩ := read_two d0 d1 x y
  have hl : B < ((w1.setCell ⟨B, 0, none⟩ x).setCell ⟨B, 1, none⟩ y).heap.size := by rw [World.size_setCell, World.size_setCell]; exact hlt
  exact ⟨(World.cell?_alloc_past _ _ _ hl).trans t0, (World.cell?_alloc_past _ _ _ hl).trans t1, ((hb.setCell hB _).setCell hB _).alloc (Nat.le_of_lt (Nat.lt_of_le_of_lt hB hl)) _⟩
set_option maxHeartbeats 2000000 in
theorem fittingFrac_any (v u : Value) (a b : Nat) (w : World) (hv : D w v a) (hu : D w u b) (hb : 0 < b) (ha : nd 4294967296 a ≤ 300000) (hbn : nd 4294967296 b ≤ 300000) :
    Calls Tryz.prog 49 #[v, u] w fun e w' => ∃ r s, e = .returned (.tuple #[.agg #[r, s], .int .i64 (ffE (lowP a b) (lowQ a b))]) ∧ D w' r (ffN (lowP a b) (lowQ a b) (lowP a b)) ∧ D w' s (ffN (lowP a b) (lowQ a b) (lowQ a b)) ∧ Below w.heap.size w w' := by
  have b1 : ∀ o, Below w.heap.size w (w.alloc o) := fun o => (Below.refl _ _).alloc (Nat.le_refl _) _
  obtain ⟨N, hN⟩ : ∃ N, N = 300000 := ⟨_, rfl⟩
  have HDV := Lib.hid (divide_long N (by omega))
  have HL := Lib.hid (fun o => lowest_any HDV.out v u a b (w.alloc o) (hv.below (b1 o)) (hu.below (b1 o)) hb ((nd_le (by decide)).1 (by omega)) ((nd_le (by decide)).1 (by omega)))
  have hP : nd 4294967296 (lowP a b) ≤ 1048576 := Nat.le_trans (nd_mono (by decide) (Nat.div_le_self _ _)) (by omega)
  have hQ : nd 4294967296 (lowQ a b) ≤ 1048576 := Nat.le_trans (nd_mono (by decide) (Nat.div_le_self _ _)) (by omega)
  rw [show a / Nat.gcd a b = lowP a b from rfl, show b / Nat.gcd a b = lowQ a b from rfl] at HL
  have HB := Lib.hid b1
  obtain ⟨ao, ac, rfl, -⟩ := hv.shape
  obtain ⟨bo, bc, rfl, -⟩ := hu.shape
  clear hv hu b1 hN HDV hb ha hbn
  generalize lowP a b = P at *
  generalize lowQ a b = Q at *
  have hcase : (nd 2 P ≤ 16384 ∧ nd 2 Q ≤ 16384 ∧ ffE P Q = 0 ∧ (∀ x, ffN P Q x = x)) ∨ (16384 < nd 2 P ∧ ffE P Q = 3 ∧ (∀ x, ffN P Q x = 0)) ∨ (nd 2 P ≤ 16384 ∧ 16384 < nd 2 Q ∧ ffE P Q = 3 ∧ (∀ x, ffN P Q x = 0)) := by
    by_cases h1 : nd 2 P ≤ 16384
    · by_cases h2 : nd 2 Q ≤ 16384
      · exact .inl ⟨h1, h2, if_pos ⟨h1, h2⟩, fun x => if_pos ⟨h1, h2⟩⟩
      · exact .inr (.inr ⟨h1, by omega, if_neg (fun h => h2 h.2), fun x => if_neg (fun h => h2 h.2)⟩)
    · exact .inr (.inl ⟨by omega, if_neg (fun h => h1 h.1), fun x => if_neg (fun h => h1 h.1)⟩)
  have hres : Hid ((∃ x y, x = ffN P Q P ∧ y = ffN P Q Q)) := ⟨_, _, rfl, rfl⟩
  go_enter Tryz.func49, Tryz.ntmps49
  go_wp2_with fail
  refine (HL.out _).mono ?_
  rintro e w1 ⟨r, s, rfl, hr, hs, hb1⟩
  obtain ⟨ro, rc, rfl, -⟩ := hr.shape
  obtain ⟨so, sc, rfl, -⟩ := hs.shape
  have hz := hb1.size
  simp only [World.size_alloc] at hz
  have hlt : w.heap.size < w1.heap.size := by omega
  have HLT := Lib.hid hlt
  have d0 : w1.cell? ⟨w.heap.size, 0, none⟩ = some (.slice none 0 0) := (hb1.cell (p := ⟨w.heap.size, 0, none⟩) (by simp)).trans (World.cell?_alloc_at _ _ _ _ rfl)
  have d1 : w1.cell? ⟨w.heap.size, 1, none⟩ = some (.slice none 0 0) := (hb1.cell (p := ⟨w.heap.size, 1, none⟩) (by simp)).trans (World.cell?_alloc_at _ _ _ _ rfl)
  have g0 : w1.frozen? ⟨w.heap.size, 0, none⟩ = false := (hb1.frozen (p := ⟨w.heap.size, 0, none⟩) (by simp)).trans (World.frozen?_alloc_at _ _ _ _ rfl)
  have g1 : w1.frozen? ⟨w.heap.size, 1, none⟩ = false := (hb1.frozen (p := ⟨w.heap.size, 1, none⟩) (by simp)).trans (World.frozen?_alloc_at _ _ _ _ rfl)
  have HR := Lib.hid hr; have HS := Lib.hid hs
  have HBW := Lib.hid ((HB.out (.cells #[.slice none 0 0, .slice none 0 0] 26)).trans (hb1.mono (by simp)))
  have HD0 := Lib.hid d0; have HD1 := Lib.hid d1
  have ba : ∀ o, Below w1.heap.size w1 (w1.alloc o) := fun o => (Below.refl _ _).alloc (Nat.le_refl _) _
  have HBP := Lib.hid (fun o => bitLen_any _ P (w1.alloc o) (hr.below (ba o)) hP)
  have HBQ := Lib.hid (fun o => bitLen_any _ Q (w1.alloc o) (hs.below (ba o)) hQ)
  have HC := Lib.hid hcase
  clear hr hs hb1 ba hcase hP hQ
  rcases HC.out with ⟨q1, q2, q3, q4⟩ | ⟨q1, q3, q4⟩ | ⟨q1, q2, q3, q4⟩
  · have Q3 := Lib.hid q3; have Q4 := Lib.hid q4
    clear q3 q4
    generalize nd 2 P = bp at *
    generalize nd 2 Q = bq at *
    go_wp2_with fail
    refine (HBP.out _).mono ?_
    rintro e w2 ⟨rfl, rfl⟩
    go_wp2_with fail
    refine (HBQ.out _).mono ?_
    rintro e w2 ⟨rfl, rfl⟩
    go_wp2
    obtain ⟨t0, t1⟩ := fit_end (w := w) (B := w.heap.size) HD0.out HD1.out HBW.out (Nat.le_refl _) HLT.out (.slice ro (nd 4294967296 P) rc) (.slice so (nd 4294967296 Q) sc) (.cells #[.slice ro (nd 4294967296 P) rc, .slice so (nd 4294967296 Q) sc] 26)
    refine bodyPost_ret (v := .tuple #[.agg #[.slice ro (nd 4294967296 P) rc, .slice so (nd 4294967296 Q) sc], .int .i64 0]) (by simp [results, Tryz.results49, go_sem, t0, t1.1]) rfl
      ⟨_, _, by rw [Q3.out], by rw [Q4.out]; exact ((IsN_setTwo HR.out HD0.out HD1.out (by intro d h; cases h) (by intro d h; cases h) _ _).below ((Below.refl _ _).alloc (Nat.le_refl _) _)), by rw [Q4.out]; exact ((IsN_setTwo HS.out HD0.out HD1.out (by intro d h; cases h) (by intro d h; cases h) _ _).below ((Below.refl _ _).alloc (Nat.le_refl _) _)), t1.2⟩
  · have Q3 := Lib.hid q3; have Q4 := Lib.hid q4
    clear q3 q4
    generalize nd 2 P = bp at *
    go_wp2_with fail
    refine (HBP.out _).mono ?_
    rintro e w2 ⟨rfl, rfl⟩
    go_wp2
    obtain ⟨t0, t1⟩ := fit_end (w := w) (B := w.heap.size) HD0.out HD1.out HBW.out (Nat.le_refl _) HLT.out (.slice none 0 0) (.slice none 0 0) (.cells #[.slice ro (nd 4294967296 P) rc, .slice so (nd 4294967296 Q) sc] 26)
    refine bodyPost_ret (v := .tuple #[.agg #[.slice none 0 0, .slice none 0 0], .int .i64 3]) (by simp [results, Tryz.results49, go_sem, t0, t1.1]) rfl
      ⟨_, _, by rw [Q3.out], by rw [Q4.out]; exact IsN.zero _ _ _ _ _, by rw [Q4.out]; exact IsN.zero _ _ _ _ _, t1.2⟩
  · have Q3 := Lib.hid q3; have Q4 := Lib.hid q4
    clear q3 q4
    generalize nd 2 P = bp at *
    generalize nd 2 Q = bq at *
    go_wp2_with fail
    refine (HBP.out _).mono ?_
    rintro e w2 ⟨rfl, rfl⟩
    go_wp2_with fail
    refine (HBQ.out _).mono ?_
    rintro e w2 ⟨rfl, rfl⟩
    go_wp2
    obtain ⟨t0, t1⟩ := fit_end (w := w) (B := w.heap.size) HD0.out HD1.out HBW.out (Nat.le_refl _) HLT.out (.slice none 0 0) (.slice none 0 0) (.cells #[.slice ro (nd 4294967296 P) rc, .slice so (nd 4294967296 Q) sc] 26)
    refine bodyPost_ret (v := .tuple #[.agg #[.slice none 0 0, .slice none 0 0], .int .i64 3]) (by simp [results, Tryz.results49, go_sem, t0, t1.1]) rfl
      ⟨_, _, by rw [Q3.out], by rw [Q4.out]; exact IsN.zero _ _ _ _ _, by rw [Q4.out]; exact IsN.zero _ _ _ _ _, t1.2⟩
/-- a function's result of two cells in the block B, filled by what a call gave -/
theorem two_store {w W' : World} {B P Q : Nat} {ro so : Option Addr} {rc sc : Nat} (hr : D W' (.slice ro (nd 4294967296 P) rc) P) (hs : D W' (.slice so (nd 4294967296 Q) sc) Q)
    (d0 : W'.cell? ⟨B, 0, none⟩ = some (.slice none 0 0)) (d1 : W'.cell? ⟨B, 1, none⟩ = some (.slice none 0 0)) (hb : Below w.heap.size w W') (hB : w.heap.size ≤ B) :
    let W2 := (W'.setCell ⟨B, 0, none⟩ (.slice ro (nd 4294967296 P) rc)).setCell ⟨B, 1, none⟩ (.slice so (nd 4294967296 Q) sc)
    D W2 (.slice ro (nd 4294967296 P) rc) P ∧ D W2 (.slice so (nd 4294967296 Q) sc) Q ∧ W2.cell? ⟨B, 0, none⟩ = some (.slice ro (nd 4294967296 P) rc) ∧ W2.cell? ⟨B, 1, none⟩ = some (.slice so (nd 4294967296 Q) sc) ∧ Below w.heap.size w W2 := by
  obtain ⟨t0, t1⟩ := read_two d0 d1 (.slice ro (nd 4294967296 P) rc) (.slice so (nd 4294967296 Q) sc)
  exact ⟨IsN_setTwo hr d0 d1 (by intro d h; cases h) (by intro d h; cases h) _ _, IsN_setTwo hs d0 d1 (by intro d h; cases h) (by intro d h; cases h) _ _, t0, t1, (hb.setCell hB _).setCell hB _⟩
end Go.Proofs.YteajinpfigejfaaGreatDoor
namespace Go.Proofs.YteajinpfigejfaaGreatDoor
open Go Go.RowKit Gu

theorem cmp_neg (a b : Nat) : cmpN ((b : Nat) : Int) ((a : Nat) : Int) = - cmpN ((a : Nat) : Int) ((b : Nat) : Int) := by
  rcases Nat.lt_trichotomy a b with h | h | h
  · rw [cmpN_gt (by omega), cmpN_lt (by omega)]; decide
  · rw [cmpN_eq (by omega), cmpN_eq (by omega)]; decide
  · rw [cmpN_lt (by omega), cmpN_gt (by omega)]
theorem cmp_le {a b : Nat} : cmpN ((a : Nat) : Int) ((b : Nat) : Int) ≤ 0 ↔ a ≤ b := by
  rcases Nat.lt_trichotomy a b with h | h | h
  · rw [cmpN_lt (by omega)]; simp; omega
  · rw [cmpN_eq (by omega)]; simp; omega
  · rw [cmpN_gt (by omega)]; simp; omega
theorem cmp_zero {a b : Nat} : cmpN ((a : Nat) : Int) ((b : Nat) : Int) = 0 ↔ a = b := by
  rcases Nat.lt_trichotomy a b with h | h | h
  · rw [cmpN_lt (by omega)]; simp; omega
  · rw [cmpN_eq (by omega)]; simp; omega
  · rw [cmpN_gt (by omega)]; simp; omega
theorem cmp_three (a b : Nat) : cmpN ((a : Nat) : Int) ((b : Nat) : Int) = -1 ∨ cmpN ((a : Nat) : Int) ((b : Nat) : Int) = 0 ∨ cmpN ((a : Nat) : Int) ((b : Nat) : Int) = 1 := by
  rcases Nat.lt_trichotomy a b with h | h | h
  · exact .inl (cmpN_lt (by omega))
  · exact .inr (.inl (cmpN_eq (by omega)))
  · exact .inr (.inr (cmpN_gt (by omega)))
/-- a comparison depends on the order alone -/
theorem cmp_same {a b c d : Nat} (h1 : a < b ↔ c < d) (h2 : b < a ↔ d < c) : cmpN ((a : Nat) : Int) ((b : Nat) : Int) = cmpN ((c : Nat) : Int) ((d : Nat) : Int) := by
  rcases Nat.lt_trichotomy a b with h | h | h
  · rw [cmpN_lt (by omega), cmpN_lt (by have := h1.1 h; omega)]
  · have h3 : ¬ a < b := by omega
    have h4 : ¬ b < a := by omega
    rw [h1] at h3; rw [h2] at h4
    rw [cmpN_eq (by omega), cmpN_eq (by omega)]
  · rw [cmpN_gt (by omega), cmpN_gt (by have := h2.1 h; omega)]
theorem cmp_scale {a b k : Nat} (hk : 0 < k) : cmpN ((a * k : Nat) : Int) ((b * k : Nat) : Int) = cmpN ((a : Nat) : Int) ((b : Nat) : Int) :=
  cmp_same (Nat.mul_lt_mul_right hk) (Nat.mul_lt_mul_right hk)
/-- of three fractions -/
theorem frac_trans {P1 Q1 P2 Q2 P3 Q3 : Nat} (h2 : 0 < Q2) (hx : P1 * Q2 ≤ P2 * Q1) (hy : P2 * Q3 ≤ P3 * Q2) : P1 * Q3 ≤ P3 * Q1 := by
  have e1 : P1 * Q2 * Q3 ≤ P2 * Q1 * Q3 := Nat.mul_le_mul_right _ hx
  have e2 : P2 * Q3 * Q1 ≤ P3 * Q2 * Q1 := Nat.mul_le_mul_right _ hy
  have e3 : P2 * Q1 * Q3 = P2 * Q3 * Q1 := Nat.mul_right_comm _ _ _
  have e4 : P1 * Q3 * Q2 ≤ P3 * Q1 * Q2 := by
    rw [Nat.mul_right_comm P1 Q3 Q2, Nat.mul_right_comm P3 Q1 Q2]
    omega
  exact Nat.le_of_mul_le_mul_right e4 h2
theorem low_mul {L M : Nat} : lowP L M * Nat.gcd L M = L ∧ lowQ L M * Nat.gcd L M = M := ⟨Nat.div_mul_cancel (Nat.gcd_dvd_left _ _), Nat.div_mul_cancel (Nat.gcd_dvd_right _ _)⟩
/-- fractions in lowest terms compare as what they were made of -/
theorem cmp_low {L M L' M' : Nat} (hM : 0 < M) (hM' : 0 < M') : cmpN ((lowP L M * lowQ L' M' : Nat) : Int) ((lowP L' M' * lowQ L M : Nat) : Int) = cmpN ((L * M' : Nat) : Int) ((L' * M : Nat) : Int) := by
  obtain ⟨e1, e2⟩ := low_mul (L := L) (M := M)
  obtain ⟨e3, e4⟩ := low_mul (L := L') (M := M')
  have hg : 0 < Nat.gcd L M * Nat.gcd L' M' := Nat.mul_pos (Nat.gcd_pos_of_pos_right _ hM) (Nat.gcd_pos_of_pos_right _ hM')
  rw [← cmp_scale (k := Nat.gcd L M * Nat.gcd L' M') hg]
  have a1 : lowP L M * lowQ L' M' * (Nat.gcd L M * Nat.gcd L' M') = L * M' := by
    rw [Nat.mul_mul_mul_comm, e1, e4]
  have a2 : lowP L' M' * lowQ L M * (Nat.gcd L M * Nat.gcd L' M') = L' * M := by
    rw [Nat.mul_comm (Nat.gcd L M), Nat.mul_mul_mul_comm, e3, e2]
  rw [a1, a2]
/-- a sum with one and the same fraction keeps the order -/
theorem cmp_plus {P1 Q1 P2 Q2 P3 Q3 : Nat} (h3 : 0 < Q3) :
    cmpN (((P1 * Q3 + P3 * Q1) * (Q2 * Q3) : Nat) : Int) (((P2 * Q3 + P3 * Q2) * (Q1 * Q3) : Nat) : Int) = cmpN ((P1 * Q2 : Nat) : Int) ((P2 * Q1 : Nat) : Int) := by
  have hk : 0 < Q3 * Q3 := Nat.mul_pos h3 h3
  rw [← cmp_scale (a := P1 * Q2) (b := P2 * Q1) hk]
  have a1 : (P1 * Q3 + P3 * Q1) * (Q2 * Q3) = P1 * Q2 * (Q3 * Q3) + P3 * Q1 * (Q2 * Q3) := by
    rw [Nat.add_mul, Nat.mul_mul_mul_comm]
  have a2 : (P2 * Q3 + P3 * Q2) * (Q1 * Q3) = P2 * Q1 * (Q3 * Q3) + P3 * Q1 * (Q2 * Q3) := by
    rw [Nat.add_mul, Nat.mul_mul_mul_comm, Nat.mul_mul_mul_comm P3 Q2, Nat.mul_mul_mul_comm P3 Q1]
  rw [a1, a2]
  exact cmp_same (by omega) (by omega)
theorem low_coprime {L M : Nat} (hM : 0 < M) : Nat.gcd (lowP L M) (lowQ L M) = 1 := by
  obtain ⟨e1, e2⟩ := low_mul (L := L) (M := M)
  have h := Nat.gcd_mul_right (lowP L M) (Nat.gcd L M) (lowQ L M)
  rw [e1, e2] at h
  exact Nat.eq_of_mul_eq_mul_right (Nat.gcd_pos_of_pos_right L hM) (by rw [Nat.one_mul]; exact h.symm)
/-- lowest terms are unique -/
theorem low_unique {P Q P' Q' : Nat} (h : Nat.gcd P Q = 1) (h' : Nat.gcd P' Q' = 1) (hQ : 0 < Q) (hQ' : 0 < Q') (he : P * Q' = P' * Q) : P = P' ∧ Q = Q' := by
  have d1 : Q ∣ Q' := by
    have : Q ∣ P * Q' := ⟨P', by rw [he, Nat.mul_comm]⟩
    exact (Nat.Coprime.symm h).dvd_of_dvd_mul_left this
  have d2 : Q' ∣ Q := by
    have : Q' ∣ P' * Q := ⟨P, by rw [← he, Nat.mul_comm]⟩
    exact (Nat.Coprime.symm h').dvd_of_dvd_mul_left this
  have e : Q = Q' := Nat.dvd_antisymm d1 d2
  subst e
  exact ⟨Nat.eq_of_mul_eq_mul_right hQ he, rfl⟩
theorem dec_no_slash (n : Nat) : (47 : UInt8) ∉ Lib.decDigits n := fun h => by
  have := List.all_eq_true.1 (dec_digits n) _ h
  exact absurd this (by decide)
theorem split_slash {a b c d : List UInt8} (ha : (47 : UInt8) ∉ a) (hc : (47 : UInt8) ∉ c) (h : a ++ 47 :: b = c ++ 47 :: d) : a = c ∧ b = d := by
  induction a generalizing c with
  | nil =>
    cases c with
    | nil => simpa using h
    | cons x c => simp at h; exact absurd h.1.symm (by intro e; exact hc (by rw [e]; exact List.mem_cons_self))
  | cons y a ih =>
    cases c with
    | nil => simp at h; exact absurd h.1 (by intro e; exact ha (by rw [← e]; exact List.mem_cons_self))
    | cons x c =>
      simp only [List.cons_append, List.cons.injEq] at h
      obtain ⟨h1, h2⟩ := ih (fun m => ha (List.mem_cons_of_mem _ m)) (fun m => hc (List.mem_cons_of_mem _ m)) h.2
      exact ⟨by rw [h.1, h1], h2⟩
theorem fracText_inj {P Q P' Q' : Nat} (h : fracText P Q = fracText P' Q') : P = P' ∧ Q = Q' := by
  unfold fracText at h
  have no : ∀ {n a b : Nat}, Lib.decDigits n ≠ Lib.decDigits a ++ 47 :: Lib.decDigits b := fun e => dec_no_slash _ (by rw [e]; exact List.mem_append_right _ List.mem_cons_self)
  split at h <;> split at h
  · exact ⟨dec_inj h, by omega⟩
  · exact absurd h no
  · exact absurd h.symm no
  · obtain ⟨h1, h2⟩ := split_slash (dec_no_slash _) (dec_no_slash _) h
    exact ⟨dec_inj h1, dec_inj h2⟩
theorem frac_text_cmp {P Q P' Q' : Nat} (h : Nat.gcd P Q = 1) (h' : Nat.gcd P' Q' = 1) (hQ : 0 < Q) (hQ' : 0 < Q') : (⟨(fracText P Q).toArray⟩ : ByteArray) = ⟨(fracText P' Q').toArray⟩ ↔ cmpN ((P * Q' : Nat) : Int) ((P' * Q : Nat) : Int) = 0 := by
  rw [cmp_zero]
  constructor
  · intro e
    have e1 : (fracText P Q).toArray = (fracText P' Q').toArray := congrArg ByteArray.data e
    have e2 : fracText P Q = fracText P' Q' := by simpa using congrArg Array.toList e1
    obtain ⟨rfl, rfl⟩ := fracText_inj e2
    rfl
  · intro e
    obtain ⟨rfl, rfl⟩ := low_unique h h' hQ hQ' e
    rfl
end Go.Proofs.YteajinpfigejfaaGreatDoor
namespace Go.Proofs.YteajinpfigejfaaGreatDoor
open Go Go.RowKit Gu

/-- the distance of x/y from p/q, times the product of their denominators -/
def gapN (p q x y : Nat) : Nat := if p * y < x * q then x * q - p * y else p * y - x * q
/-- x/y is the best approximation of p/q with a denominator of at most L -/
def IsBest (p q L x y : Nat) : Prop := 0 < y ∧ y ≤ L ∧ Nat.gcd x y = 1 ∧ ∀ c d, 0 < d → d ≤ L → gapN p q x y * d ≤ gapN p q c d * y ∧ (gapN p q x y * d = gapN p q c d * y → y < d ∨ (y = d ∧ x ≤ c))
/-- there is only one -/
theorem IsBest.unique {p q L x y x' y' : Nat} (h : IsBest p q L x y) (h' : IsBest p q L x' y') : x = x' ∧ y = y' := by
  obtain ⟨a1, a2, a3, a4⟩ := h
  obtain ⟨b1, b2, b3, b4⟩ := h'
  obtain ⟨c1, c2⟩ := a4 x' y' b1 b2
  obtain ⟨d1, d2⟩ := b4 x y a1 a2
  have e : gapN p q x y * y' = gapN p q x' y' * y := by omega
  have e1 := c2 e
  have e2 := d2 e.symm
  omega
/-- what the loop of nearest keeps -/
structure NInv (p q L bn bd ln ld l r : Nat) : Prop where
  e1 : p = ln * l + bn * r
  e2 : q = ld * l + bd * r
  det : ln * bd = bn * ld + 1 ∨ bn * ld = ln * bd + 1
  rp : 0 < r
  st : (ld = 0 ∧ bd = 1 ∧ bn = 0) ∨ (0 < ld ∧ r < l)
  lb : bd ≤ L
  ll : ld ≤ L
theorem NInv.start {p q L : Nat} (hq : L < q) (hL : 1 ≤ L) : NInv p q L 0 1 1 0 p q := ⟨by omega, by omega, .inl (by omega), by omega, .inl ⟨rfl, rfl, rfl⟩, hL, by omega⟩
theorem NInv.whole {p q L bn bd ln ld l r : Nat} (_h : NInv p q L bn bd ln ld l r) : l = l / r * r + l % r := by
  have := Nat.div_add_mod l r
  rw [Nat.mul_comm] at this
  exact this.symm
theorem NInv.sums {p q L bn bd ln ld l r : Nat} (h : NInv p q L bn bd ln ld l r) : p = (bn + l / r * ln) * r + ln * (l % r) ∧ q = (bd + l / r * ld) * r + ld * (l % r) := by
  have hw := h.whole
  have e1 := h.e1
  have e2 := h.e2
  generalize l / r = w at *
  generalize l % r = t at *
  subst hw
  constructor
  · rw [e1]; grind
  · rw [e2]; grind
theorem NInv.bound {p q L bn bd ln ld l r : Nat} (h : NInv p q L bn bd ln ld l r) : bn + l / r * ln ≤ p ∧ bd + l / r * ld ≤ q := by
  obtain ⟨h1, h2⟩ := h.sums
  have hr := h.rp
  refine ⟨?_, ?_⟩
  · exact Nat.le_trans (Nat.le_mul_of_pos_right _ hr) (by omega)
  · exact Nat.le_trans (Nat.le_mul_of_pos_right _ hr) (by omega)
theorem NInv.next {p q L bn bd ln ld l r : Nat} (h : NInv p q L bn bd ln ld l r) (hg : Nat.gcd p q = 1) (hLq : L < q) (hn : bd + l / r * ld ≤ L) : NInv p q L ln ld (bn + l / r * ln) (bd + l / r * ld) r (l % r) := by
  obtain ⟨h1, h2⟩ := h.sums
  have hr := h.rp
  have hlt := Nat.mod_lt l hr
  have hdet := h.det
  have hst := h.st
  have hll := h.ll
  have hw0 : 0 < ld → 0 < l / r := fun h0 => Nat.div_pos (by rcases hst with h3 | h3 <;> omega) hr
  refine ⟨h1, h2, ?_, ?_, .inr ⟨?_, hlt⟩, hll, hn⟩
  · generalize l / r = w at *
    rcases hdet with h3 | h3
    · right; rw [Nat.mul_add, Nat.add_mul]; grind
    · left; rw [Nat.mul_add, Nat.add_mul]; grind
  · rcases Nat.eq_zero_or_pos (l % r) with h0 | h0
    · exfalso
      rw [h0] at h1 h2
      have d1 : r ∣ p := ⟨bn + l / r * ln, by rw [h1]; grind⟩
      have d2 : r ∣ q := ⟨bd + l / r * ld, by rw [h2]; grind⟩
      have d3 : r ∣ 1 := hg ▸ Nat.dvd_gcd d1 d2
      have d4 : r = 1 := Nat.dvd_one.1 d3
      rw [d4] at h2 hn
      rw [Nat.mul_zero, Nat.add_zero, Nat.mul_one] at h2
      omega
    · exact h0
  · rcases hst with ⟨h3, h4, h5⟩ | ⟨h3, h4⟩
    · omega
    · have := hw0 h3
      have : 1 * ld ≤ l / r * ld := Nat.mul_le_mul_right _ this
      omega
/-- a fraction strictly between two neighbors has a denominator of at least the sum of theirs -/
theorem between {on od ln ld c d : Nat} (hdet : ln * od = on * ld + 1) (h1 : on * d < c * od) (h2 : c * ld < ln * d) : od + ld ≤ d := by
  obtain ⟨x, hx⟩ : ∃ x, c * od = on * d + 1 + x := ⟨c * od - (on * d + 1), by omega⟩
  obtain ⟨y, hy⟩ : ∃ y, ln * d = c * ld + 1 + y := ⟨ln * d - (c * ld + 1), by omega⟩
  have e1 : od * (ln * d) = od * (c * ld) + od + od * y := by rw [hy]; grind
  have e2 : ld * (c * od) = ld * (on * d) + ld + ld * x := by rw [hx]; grind
  have e3 : od * (ln * d) = (ln * od) * d := by grind
  have e4 : ld * (on * d) = (on * ld) * d := by grind
  have e5 : ld * (c * od) = od * (c * ld) := by grind
  rw [hdet] at e3
  have e6 : (on * ld + 1) * d = on * ld * d + d := by grind
  omega
/-- what is on the far side of a neighbor is no nearer, and as near only if it is the neighbor -/
theorem beyond {p q x y g c d : Nat} (hx : x * q = p * y + g) (hy : 0 < y) (h : x * d ≤ c * y) : g * d ≤ gapN p q c d * y ∧ (g * d = gapN p q c d * y → 0 < q → x * d = c * y) := by
  -- (c q - p d) y = c y q - p y d ≥ x d q - p y d = d g
  have e1 : x * d * q ≤ c * y * q := Nat.mul_le_mul_right _ h
  have e2 : x * d * q = p * y * d + g * d := by
    have : x * d * q = x * q * d := by grind
    rw [this, hx]; grind
  have hpd : p * d ≤ c * q := by
    apply Nat.le_of_mul_le_mul_right (c := y) _ hy
    have e3 : p * d * y = p * y * d := by grind
    have e4 : c * q * y = c * y * q := by grind
    rw [e3, e4]; omega
  have hgap : gapN p q c d = c * q - p * d := by
    unfold gapN
    split
    · rfl
    · omega
  rw [hgap, Nat.sub_mul]
  have e3 : p * d * y = p * y * d := by grind
  have e4 : c * q * y = c * y * q := by grind
  rw [e3, e4]
  refine ⟨by omega, fun he hq => ?_⟩
  have : x * d * q = c * y * q := by omega
  exact Nat.eq_of_mul_eq_mul_right hq this
theorem beneath {p q x y g c d : Nat} (hx : p * y = x * q + g) (hy : 0 < y) (h : c * y ≤ x * d) : g * d ≤ gapN p q c d * y ∧ (g * d = gapN p q c d * y → 0 < q → x * d = c * y) := by
  have e1 : c * y * q ≤ x * d * q := Nat.mul_le_mul_right _ h
  have e2 : p * y * d = x * d * q + g * d := by
    rw [hx]; grind
  have hpd : c * q ≤ p * d := by
    apply Nat.le_of_mul_le_mul_right (c := y) _ hy
    have e3 : p * d * y = p * y * d := by grind
    have e4 : c * q * y = c * y * q := by grind
    rw [e3, e4]; omega
  have hgap : gapN p q c d = p * d - c * q := by
    unfold gapN
    split
    · omega
    · rfl
  rw [hgap, Nat.sub_mul]
  have e3 : p * d * y = p * y * d := by grind
  have e4 : c * q * y = c * y * q := by grind
  rw [e3, e4]
  refine ⟨by omega, fun he hq => ?_⟩
  have : x * d * q = c * y * q := by omega
  exact Nat.eq_of_mul_eq_mul_right hq this
theorem gap_up {p q x y g : Nat} (h : x * q = p * y + g) : gapN p q x y = g := by unfold gapN; split <;> omega
theorem gap_dn {p q x y g : Nat} (h : p * y = x * q + g) : gapN p q x y = g := by unfold gapN; split <;> omega
theorem same_frac {x y c d : Nat} (hg : Nat.gcd x y = 1) (hy : 0 < y) (hd : 0 < d) (h : x * d = c * y) : y ≤ d ∧ (y = d → x = c) := by
  have h1 : y ∣ x * d := ⟨c, by rw [h, Nat.mul_comm]⟩
  have h2 : y ∣ d := (Nat.Coprime.symm hg).dvd_of_dvd_mul_left h1
  refine ⟨Nat.le_of_dvd hd h2, fun e => ?_⟩
  subst e
  exact Nat.eq_of_mul_eq_mul_right hy h
theorem det_gcd {a b c d : Nat} (h : a * d = c * b + 1) : Nat.gcd a b = 1 ∧ Nat.gcd c d = 1 := by
  refine ⟨?_, ?_⟩
  · apply Nat.dvd_one.1
    have h1 : Nat.gcd a b ∣ a * d := Nat.dvd_trans (Nat.gcd_dvd_left a b) (Nat.dvd_mul_right a d)
    have h2 : Nat.gcd a b ∣ c * b := Nat.dvd_trans (Nat.gcd_dvd_right a b) (Nat.dvd_mul_left b c)
    rw [h] at h1
    exact (Nat.dvd_add_right h2).1 h1
  · apply Nat.dvd_one.1
    have h1 : Nat.gcd c d ∣ a * d := Nat.dvd_trans (Nat.gcd_dvd_right c d) (Nat.dvd_mul_left d a)
    have h2 : Nat.gcd c d ∣ c * b := Nat.dvd_trans (Nat.gcd_dvd_left c d) (Nat.dvd_mul_right c b)
    rw [h] at h1
    exact (Nat.dvd_add_right h2).1 h1
/-- the two neighbors of p/q among the fractions with a denominator of at most L: the lower one, and the upper one; the nearer one is the best, if a tie is decided rightly -/
theorem best_of_two {p q L x y g u v k : Nat} (hq : 0 < q) (hy : 0 < y) (hv : 0 < v) (hyL : y ≤ L) (hvL : v ≤ L) (hsum : L < y + v) (lo : p * y = x * q + g) (hi : u * q = p * v + k) (hdet : u * y = x * v + 1) :
    (g * v < k * y → IsBest p q L x y) ∧ (k * y < g * v → IsBest p q L u v) ∧ (g * v = k * y → y ≤ v → IsBest p q L x y) ∧ (g * v = k * y → v < y → IsBest p q L u v) := by
  obtain ⟨gu, gx⟩ := det_gcd hdet
  have ex : gapN p q x y = g := gap_dn lo
  have eu : gapN p q u v = k := gap_up hi
  have side : ∀ c d, 0 < d → d ≤ L → c * y ≤ x * d ∨ u * d ≤ c * v := fun c d hd hdL => by
    rcases Nat.lt_or_ge (x * d) (c * y) with h1 | h1
    · rcases Nat.lt_or_ge (c * v) (u * d) with h2 | h2
      · have := between hdet h1 h2; omega
      · exact .inr h2
    · exact .inl h1
  have scale : ∀ {a b c d e f : Nat}, 0 < e → a * e ≤ b * f → b * c ≤ d * e → a * c ≤ d * f := by
    intro a b c d e f he h1 h2
    apply Nat.le_of_mul_le_mul_right (c := e) _ he
    have h3 : a * e * c ≤ b * f * c := Nat.mul_le_mul_right _ h1
    have h4 : b * c * f ≤ d * e * f := Nat.mul_le_mul_right _ h2
    have e1 : a * c * e = a * e * c := by grind
    have e2 : b * f * c = b * c * f := by grind
    have e3 : d * f * e = d * e * f := by grind
    omega
  have scale_lt : ∀ {a b c d e f : Nat}, 0 < e → 0 < c → a * e < b * f → b * c ≤ d * e → a * c < d * f := by
    intro a b c d e f he hc h1 h2
    apply Nat.lt_of_mul_lt_mul_right (a := e)
    have h3 : a * e * c < b * f * c := Nat.mul_lt_mul_of_pos_right h1 hc
    have h4 : b * c * f ≤ d * e * f := Nat.mul_le_mul_right _ h2
    have e1 : a * c * e = a * e * c := by grind
    have e2 : b * f * c = b * c * f := by grind
    have e3 : d * f * e = d * e * f := by grind
    omega
  have low : (g * v < k * y ∨ (g * v = k * y ∧ y ≤ v)) → IsBest p q L x y := fun hc => by
    refine ⟨hy, hyL, gx, fun c d hd hdL => ?_⟩
    rw [ex]
    rcases side c d hd hdL with h | h
    · obtain ⟨h1, h2⟩ := beneath lo hy h
      refine ⟨h1, fun he => ?_⟩
      obtain ⟨h3, h4⟩ := same_frac gx hy hd (h2 he hq)
      rcases Nat.lt_or_ge y d with h5 | h5
      · exact .inl h5
      · exact .inr ⟨by omega, Nat.le_of_eq (h4 (by omega))⟩
    · obtain ⟨h1, h2⟩ := beyond hi hv h
      rcases hc with hc | ⟨hc, hyv⟩
      · have h5 := scale_lt hv hd hc h1
        exact ⟨Nat.le_of_lt h5, fun he => by omega⟩
      · have h5 := scale hv (Nat.le_of_eq hc) h1
        refine ⟨h5, fun he => ?_⟩
        -- equal: c/d is the upper neighbor
        have h6 : k * d = gapN p q c d * v := by
          apply Nat.eq_of_mul_eq_mul_right hy
          have e1 : k * d * y = (k * y) * d := by grind
          have e2 : gapN p q c d * v * y = (gapN p q c d * y) * v := by grind
          rw [e1, e2, ← hc, ← he]; grind
        obtain ⟨h7, h8⟩ := same_frac gu hv hd (h2 h6 hq)
        rcases Nat.lt_or_ge y d with h9 | h9
        · exact .inl h9
        · have hyd : y = d := by omega
          have hvd : v = d := by omega
          refine .inr ⟨hyd, ?_⟩
          have h10 := h8 hvd
          have h11 : x * v < u * y := by omega
          rw [hvd, hyd] at h11
          have := Nat.lt_of_mul_lt_mul_right h11
          omega
  have upp : (k * y < g * v ∨ (g * v = k * y ∧ v < y)) → IsBest p q L u v := fun hc => by
    refine ⟨hv, hvL, gu, fun c d hd hdL => ?_⟩
    rw [eu]
    rcases side c d hd hdL with h | h
    · obtain ⟨h1, h2⟩ := beneath lo hy h
      rcases hc with hc | ⟨hc, hyv⟩
      · have h5 := scale_lt hy hd hc h1
        exact ⟨Nat.le_of_lt h5, fun he => by omega⟩
      · have h5 := scale hy (Nat.le_of_eq hc.symm) h1
        refine ⟨h5, fun he => ?_⟩
        have h6 : g * d = gapN p q c d * y := by
          apply Nat.eq_of_mul_eq_mul_right hv
          have e1 : g * d * v = (g * v) * d := by grind
          have e2 : gapN p q c d * y * v = (gapN p q c d * v) * y := by grind
          rw [e1, e2, hc, ← he]; grind
        obtain ⟨h7, h8⟩ := same_frac gx hy hd (h2 h6 hq)
        exact .inl (by omega)
    · obtain ⟨h1, h2⟩ := beyond hi hv h
      refine ⟨h1, fun he => ?_⟩
      obtain ⟨h3, h4⟩ := same_frac gu hv hd (h2 he hq)
      rcases Nat.lt_or_ge v d with h5 | h5
      · exact .inl h5
      · exact .inr ⟨by omega, Nat.le_of_eq (h4 (by omega))⟩
  exact ⟨fun h => low (.inl h), fun h => upp (.inl h), fun h h' => low (.inr ⟨h, h'⟩), fun h h' => upp (.inr ⟨h, h'⟩)⟩
/-- where the loop ends: the last convergent and the one on the other side; what is chosen is the best -/
theorem NInv.best {p q L bn bd ln ld l r : Nat} (h : NInv p q L bn bd ln ld l r) (hL : 1 ≤ L) (hb : L < bd + l / r * ld) :
    0 < ld ∧ bd ≤ L ∧ IsBest p q L (if gapN p q (bn + (L - bd) / ld * ln) (bd + (L - bd) / ld * ld) * ld < gapN p q ln ld * (bd + (L - bd) / ld * ld) then bn + (L - bd) / ld * ln else ln)
      (if gapN p q (bn + (L - bd) / ld * ln) (bd + (L - bd) / ld * ld) * ld < gapN p q ln ld * (bd + (L - bd) / ld * ld) then bd + (L - bd) / ld * ld else ld) := by
  have hld : 0 < ld ∧ r < l := by
    rcases h.st with ⟨h1, h2, h3⟩ | h1
    · rw [h1, h2] at hb; omega
    · exact h1
  obtain ⟨hld, hrl⟩ := hld
  have hlb := h.lb
  have hll := h.ll
  have hr := h.rp
  refine ⟨hld, hlb, ?_⟩
  have hs1 : (L - bd) / ld * ld ≤ L - bd := Nat.div_mul_le_self _ _
  have hs2 : L - bd < (L - bd) / ld * ld + ld := by
    have := Nat.lt_div_mul_add (a := L - bd) hld
    omega
  have hsw : (L - bd) / ld < l / r := by
    rcases Nat.lt_or_ge ((L - bd) / ld) (l / r) with h1 | h1
    · exact h1
    · have := Nat.mul_le_mul_right ld h1
      omega
  generalize (L - bd) / ld = t at *
  have hR : t * r + r ≤ l := by
    have h1 : (t + 1) * r ≤ l / r * r := Nat.mul_le_mul_right _ hsw
    have h2 := Nat.div_mul_le_self l r
    have h3 : (t + 1) * r = t * r + r := by grind
    omega
  obtain ⟨R, hRe⟩ : ∃ R, l = t * r + R := ⟨l - t * r, by omega⟩
  have hRr : r ≤ R := by omega
  have e1 := h.e1
  have e2 := h.e2
  have hq : 0 < q := by
    rw [e2]
    have : 0 < ld * l := Nat.mul_pos hld (by omega)
    omega
  have od0 : 0 < bd + t * ld := by omega
  have odL : bd + t * ld ≤ L := by omega
  have hsum : L < bd + t * ld + ld := by omega
  rcases h.det with hd | hd
  · -- the last one is above, the other one below
    have hi : ln * q = p * ld + r := by
      rw [e1, e2]
      have : ln * (ld * l + bd * r) = ln * ld * l + (ln * bd) * r := by grind
      rw [this, hd]; grind
    have lo : p * (bd + t * ld) = (bn + t * ln) * q + R := by
      rw [e1, e2, hRe]
      have a1 : (ln * (t * r + R) + bn * r) * (bd + t * ld) = (ln * bd) * (t * r + R) + bn * bd * r + t * (ln * ld * (t * r + R) + bn * ld * r) := by grind
      have a2 : (bn + t * ln) * (ld * (t * r + R) + bd * r) + R = (bn * ld) * (t * r + R) + bn * bd * r + t * (ln * ld * (t * r + R) + (ln * bd) * r) + R := by grind
      rw [a1, a2, hd]; grind
    have hdet : ln * (bd + t * ld) = (bn + t * ln) * ld + 1 := by
      have : ln * (bd + t * ld) = ln * bd + t * ln * ld := by grind
      rw [this, hd]; grind
    obtain ⟨b1, b2, b3, b4⟩ := best_of_two hq od0 hld odL hll hsum lo hi hdet
    rw [gap_dn lo, gap_up hi]
    split
    · next hc => exact b1 hc
    · next hc =>
      rcases Nat.lt_or_ge (r * (bd + t * ld)) (R * ld) with h1 | h1
      · exact b2 h1
      · have he : R * ld = r * (bd + t * ld) := by omega
        rcases Nat.lt_or_ge ld (bd + t * ld) with h2 | h2
        · exact b4 he h2
        · exfalso
          -- ld = bd + t ld, as R ≥ r
          have h3 : r * ld ≤ R * ld := Nat.mul_le_mul_right _ hRr
          have h4 : bd + t * ld = ld := by
            have : r * ld ≤ r * (bd + t * ld) := by omega
            have := Nat.le_of_mul_le_mul_left this hr
            omega
          rw [h4] at he
          have h5 : R = r := Nat.eq_of_mul_eq_mul_right hld he
          have ht : 0 < t := by
            rcases Nat.eq_zero_or_pos t with h6 | h6
            · subst h6; omega
            · exact h6
          have h6 : 1 * ld ≤ t * ld := Nat.mul_le_mul_right _ ht
          have h7 : bd = 0 := by omega
          rw [h7] at hd
          omega
  · have lo : p * ld = ln * q + r := by
      rw [e1, e2]
      have a1 : (ln * l + bn * r) * ld = ln * ld * l + (bn * ld) * r := by grind
      rw [a1, hd]; grind
    have hi : (bn + t * ln) * q = p * (bd + t * ld) + R := by
      rw [e1, e2, hRe]
      have a1 : (ln * (t * r + R) + bn * r) * (bd + t * ld) + R = (ln * bd) * (t * r + R) + bn * bd * r + t * (ln * ld * (t * r + R) + (bn * ld) * r) + R := by grind
      have a2 : (bn + t * ln) * (ld * (t * r + R) + bd * r) = (bn * ld) * (t * r + R) + bn * bd * r + t * (ln * ld * (t * r + R) + (ln * bd) * r) := by grind
      rw [a1, a2, hd]; grind
    have hdet : (bn + t * ln) * ld = ln * (bd + t * ld) + 1 := by
      have : (bn + t * ln) * ld = bn * ld + t * ln * ld := by grind
      rw [this, hd]; grind
    obtain ⟨b1, b2, b3, b4⟩ := best_of_two hq hld od0 hll odL (by omega) lo hi hdet
    rw [gap_up hi, gap_dn lo]
    split
    · next hc => exact b2 hc
    · next hc =>
      rcases Nat.lt_or_ge (r * (bd + t * ld)) (R * ld) with h1 | h1
      · exact b1 h1
      · have he : r * (bd + t * ld) = R * ld := by omega
        have h3 : r * ld ≤ R * ld := Nat.mul_le_mul_right _ hRr
        refine b3 he ?_
        have : r * ld ≤ r * (bd + t * ld) := by omega
        exact Nat.le_of_mul_le_mul_left this hr
end Go.Proofs.YteajinpfigejfaaGreatDoor
namespace Go.Proofs.YteajinpfigejfaaGreatDoor
open Go Go.RowKit Gu

/-- boxes (block, offset, value), the program's numbers, the document's numbers -/
structure Kq (cs : List (Nat × Nat × Value)) (ns rs : List (Value × Nat)) (w W : World) : Prop where
  num : ∀ p ∈ ns, D W p.1 p.2
  dig : ∀ p ∈ rs, R W p.1 p.2
  box : ∀ p ∈ cs, p.1 < W.heap.size ∧ W.cell? ⟨p.1, p.2.1, none⟩ = some p.2.2
  env : Env W
  bel : Below w.heap.size w W
section
variable {cs : List (Nat × Nat × Value)} {ns rs : List (Value × Nat)} {w W W' : World}
theorem Kq.start (he : Env w) : Kq [] [] [] w w := ⟨fun _ h => by simp at h, fun _ h => by simp at h, fun _ h => by simp at h, he, Below.refl _ _⟩
theorem Kq.next (h : Kq cs ns rs w W) (hb : Below W.heap.size W W') : Kq cs ns rs w W' :=
  ⟨fun p hp => (h.num p hp).below hb, fun p hp => (h.dig p hp).below hb, fun p hp => ⟨Nat.lt_of_lt_of_le (h.box p hp).1 hb.size, (hb.cell (p := ⟨p.1, p.2.1, none⟩) (h.box p hp).1).trans (h.box p hp).2⟩, h.env.below hb, h.bel.trans (hb.mono h.bel.size)⟩
theorem Kq.drewN (h : Kq cs ns rs w W) (q : Nat) : Kq cs ns rs w (W.drewN q) := h.next (below_drewN (Below.refl _ _) q)
theorem Kq.drew (h : Kq cs ns rs w W) : Kq cs ns rs w W.drew := h.next (Below.refl _ _).drew
theorem Kq.addNum (h : Kq cs ns rs w W) {v : Value} {n : Nat} (hv : D W v n) : Kq cs ((v, n) :: ns) rs w W :=
  ⟨fun p hp => by
    rcases List.mem_cons.1 hp with rfl | hp
    · exact hv
    · exact h.num p hp, h.dig, h.box, h.env, h.bel⟩
theorem Kq.addDig (h : Kq cs ns rs w W) {v : Value} {n : Nat} (hv : R W v n) : Kq cs ns ((v, n) :: rs) w W :=
  ⟨h.num, fun p hp => by
    rcases List.mem_cons.1 hp with rfl | hp
    · exact hv
    · exact h.dig p hp, h.box, h.env, h.bel⟩
theorem Kq.alloc (h : Kq cs ns rs w W) (o : Obj) : Kq cs ns rs w (W.alloc o) := h.next ((Below.refl _ _).alloc (Nat.le_refl _) _)
theorem Kq.addBox (h : Kq cs ns rs w W) {b o : Nat} {v : Value} (h1 : b < W.heap.size) (h2 : W.cell? ⟨b, o, none⟩ = some v) : Kq ((b, o, v) :: cs) ns rs w W :=
  ⟨h.num, h.dig, fun p hp => by
    rcases List.mem_cons.1 hp with rfl | hp
    · exact ⟨h1, h2⟩
    · exact h.box p hp, h.env, h.bel⟩
/-- a variable gets its box -/
theorem Kq.boxed (h : Kq cs ns rs w W) (v : Value) (T : TypeId) : Kq ((W.heap.size, 0, v) :: cs) ns rs w (W.alloc (.cells #[v] T)) :=
  (h.alloc _).addBox (by simp) (World.cell?_alloc_at _ _ _ _ rfl)
theorem Kq.boxed2 (h : Kq cs ns rs w W) (v u : Value) (T : TypeId) : Kq ((W.heap.size, 1, u) :: (W.heap.size, 0, v) :: cs) ns rs w (W.alloc (.cells #[v, u] T)) :=
  ((h.alloc _).addBox (by simp) (World.cell?_alloc_at _ _ _ _ rfl)).addBox (by simp) (World.cell?_alloc_at _ _ _ _ rfl)
theorem Kq.cell (h : Kq cs ns rs w W) {g o : Nat} {v : Value} (hm : (g, o, v) ∈ cs) : W.cell? ⟨g, o, none⟩ = some v := (h.box _ hm).2
theorem NCmp_Q {v u : Value} {a b : Nat} (h : Kq cs ns rs w W) (h1 : (v, a) ∈ ns) (h2 : (u, b) ∈ ns) (ha : nd 4294967296 a ≤ 1048576) (hb : nd 4294967296 b ≤ 1048576) :
    Calls Tryz.prog 19 #[.agg #[v], .agg #[u]] W fun e w' => e = .returned (.int .i64 (cmpN a b)) ∧ Kq cs ns rs w w' :=
  (NCmp_any _ _ a b W (h.num _ h1) (h.num _ h2) ha hb).mono fun _ _ ⟨he, hB⟩ => ⟨he, h.next hB⟩
theorem RCmp_Q {v u : Value} {a b : Nat} (h : Kq cs ns rs w W) (h1 : (v, a) ∈ rs) (h2 : (u, b) ∈ rs) (ha : nd 65536 a ≤ 1048576) (hb : nd 65536 b ≤ 1048576) :
    Calls Tryz.prog 10 #[v, u] W fun e w' => e = .returned (.int .i64 (cmpN a b)) ∧ Kq cs ns rs w w' :=
  (RCmp_any _ _ a b W (h.dig _ h1) (h.dig _ h2) ha hb).mono fun _ _ ⟨he, k, hw⟩ => ⟨he, by rw [hw]; exact h.drewN k⟩
theorem awake_Q (h : Kq cs ns rs w W) : Calls Tryz.prog 7 #[] W fun e w' => e = .returned (.bool true) ∧ Kq cs ns rs w w' :=
  (awake_any W h.env).mono fun _ _ ⟨he, hB⟩ => ⟨he, h.next hB⟩
end
end Go.Proofs.YteajinpfigejfaaGreatDoor
namespace Go.Proofs.YteajinpfigejfaaGreatDoor
open Go Go.RowKit Gu

/-- what a region keeps: numbers, and all that is older than W0 -/
structure Bx (W0 : World) (ns : List (Value × Nat)) (W : World) : Prop where
  n : ∀ p ∈ ns, D W p.1 p.2
  bel : Below W0.heap.size W0 W
theorem Bx.next {W0 W W' : World} {ns : List (Value × Nat)} (h : Bx W0 ns W) (hb : Below W.heap.size W W') : Bx W0 ns W' := ⟨fun p hp => (h.n p hp).below hb, h.bel.trans (hb.mono h.bel.size)⟩
theorem Bx.cell {W0 W : World} {ns : List (Value × Nat)} {k o : Nat} {x : Value} (h : Bx W0 ns W) (hk : k < W0.heap.size) (hc : W0.cell? ⟨k, o, none⟩ = some x) : W.cell? ⟨k, o, none⟩ = some x := (h.bel.cell (p := ⟨k, o, none⟩) hk).trans hc
/-- and a box of two cells for the result, right behind W0 -/
structure Px (W0 : World) (ns : List (Value × Nat)) (W : World) : Prop where
  b : Bx W0 ns W
  lt : W0.heap.size < W.heap.size
  r0 : ∃ o l k, W.cell? ⟨W0.heap.size, 0, none⟩ = some (.slice o l k)
  r1 : ∃ o l k, W.cell? ⟨W0.heap.size, 1, none⟩ = some (.slice o l k)
  z0 : W.frozen? ⟨W0.heap.size, 0, none⟩ = false
  z1 : W.frozen? ⟨W0.heap.size, 1, none⟩ = false
theorem Px.start {W0 : World} {ns : List (Value × Nat)} (h : Bx W0 ns W0) (T : TypeId) : Px W0 ns (W0.alloc (.cells #[.slice none 0 0, .slice none 0 0] T)) :=
  ⟨h.next ((Below.refl _ _).alloc (Nat.le_refl _) _), by simp, ⟨none, 0, 0, World.cell?_alloc_at _ _ _ _ rfl⟩, ⟨none, 0, 0, World.cell?_alloc_at _ _ _ _ rfl⟩, World.frozen?_alloc_at _ _ _ _ rfl, World.frozen?_alloc_at _ _ _ _ rfl⟩
theorem Px.next {W0 W W' : World} {ns : List (Value × Nat)} (h : Px W0 ns W) (hb : Below W.heap.size W W') : Px W0 ns W' := by
  obtain ⟨o0, l0, k0, e0⟩ := h.r0
  obtain ⟨o1, l1, k1, e1⟩ := h.r1
  exact ⟨h.b.next hb, Nat.lt_of_lt_of_le h.lt hb.size, ⟨o0, l0, k0, (hb.cell (p := ⟨W0.heap.size, 0, none⟩) h.lt).trans e0⟩, ⟨o1, l1, k1, (hb.cell (p := ⟨W0.heap.size, 1, none⟩) h.lt).trans e1⟩,
    (hb.frozen (p := ⟨W0.heap.size, 0, none⟩) h.lt).trans h.z0, (hb.frozen (p := ⟨W0.heap.size, 1, none⟩) h.lt).trans h.z1⟩
theorem Px.num {W0 W : World} {ns : List (Value × Nat)} (h : Px W0 ns W) {z : Value} {n : Nat} (hz : D W z n) (ro so : Option Addr) (rl rc sl sc : Nat) : D ((W.setCell ⟨W0.heap.size, 0, none⟩ (.slice ro rl rc)).setCell ⟨W0.heap.size, 1, none⟩ (.slice so sl sc)) z n := by
  obtain ⟨o0, l0, k0, d0⟩ := h.r0
  obtain ⟨o1, l1, k1, d1⟩ := h.r1
  exact IsN_setTwo hz d0 d1 (by intro d e; cases e) (by intro d e; cases e) _ _
theorem Px.set {W0 W : World} {ns : List (Value × Nat)} (h : Px W0 ns W) (ro so : Option Addr) (rl rc sl sc : Nat) : Px W0 ns ((W.setCell ⟨W0.heap.size, 0, none⟩ (.slice ro rl rc)).setCell ⟨W0.heap.size, 1, none⟩ (.slice so sl sc)) := by
  obtain ⟨o0, l0, k0, d0⟩ := h.r0
  obtain ⟨o1, l1, k1, d1⟩ := h.r1
  obtain ⟨t0, t1⟩ := read_two d0 d1 (.slice ro rl rc) (.slice so sl sc)
  refine ⟨⟨fun p hp => h.num (h.b.n p hp) _ _ _ _ _ _, (h.b.bel.setCell (Nat.le_refl _) _).setCell (Nat.le_refl _) _⟩, by rw [World.size_setCell, World.size_setCell]; exact h.lt, ⟨_, _, _, t0⟩, ⟨_, _, _, t1⟩, ?_, ?_⟩
  · have := h.z0; simpa using this
  · have := h.z1; simpa using this
theorem Px.done {W0 W : World} {ns : List (Value × Nat)} (h : Px W0 ns W) {ro so : Option Addr} {rl rc sl sc P Q : Nat} (h1 : D W (.slice ro rl rc) P) (h2 : D W (.slice so sl sc) Q) :
    let W2 := (W.setCell ⟨W0.heap.size, 0, none⟩ (.slice ro rl rc)).setCell ⟨W0.heap.size, 1, none⟩ (.slice so sl sc)
    D W2 (.slice ro rl rc) P ∧ D W2 (.slice so sl sc) Q ∧ W2.cell? ⟨W0.heap.size, 0, none⟩ = some (.slice ro rl rc) ∧ W2.cell? ⟨W0.heap.size, 1, none⟩ = some (.slice so sl sc) ∧ Below W0.heap.size W0 W2 := by
  obtain ⟨o0, l0, k0, d0⟩ := h.r0
  obtain ⟨o1, l1, k1, d1⟩ := h.r1
  obtain ⟨t0, t1⟩ := read_two d0 d1 (.slice ro rl rc) (.slice so sl sc)
  exact ⟨h.num h1 _ _ _ _ _ _, h.num h2 _ _ _ _ _ _, t0, t1, (h.b.bel.setCell (Nat.le_refl _) _).setCell (Nat.le_refl _) _⟩
set_option maxHeartbeats 4000000 in
set_option maxRecDepth 100000 in
theorem gap_any (v u x y : Value) (a b c d : Nat) (w : World) (hv : D w v a) (hu : D w u b) (hx : D w x c) (hy : D w y d) (bv : nd 4294967296 a ≤ 100000) (bu : nd 4294967296 b ≤ 100000) (bx : nd 4294967296 c ≤ 100000) (bY : nd 4294967296 d ≤ 100000) :
    Calls Tryz.prog 95 #[.agg #[v, u], .agg #[x, y]] w fun e w' => ∃ r, e = .returned r ∧ D w' r (gapN a b c d) ∧ Below w.heap.size w w' := by
  obtain ⟨W0, hW0⟩ : ∃ W0 : World, W0 = ((w.alloc (.cells #[v, u] 67)).alloc (.cells #[x, y] 67)) := ⟨_, rfl⟩
  have hz0 : W0.heap.size = w.heap.size + 1 + 1 := by rw [hW0]; simp
  have hbw : Below w.heap.size w W0 := by rw [hW0]; exact ((Below.refl _ _).alloc (Nat.le_refl _) _).alloc (by simp) _
  obtain ⟨ns, hns⟩ : ∃ ns : List (Value × Nat), ns = [(v, a), (u, b), (x, c), (y, d)] := ⟨_, rfl⟩
  have hbx : Bx W0 ns W0 := ⟨fun p hp => by
    rw [hns] at hp
    simp only [List.mem_cons, List.not_mem_nil, or_false] at hp
    rcases hp with rfl | rfl | rfl | rfl
    · exact hv.below hbw
    · exact hu.below hbw
    · exact hx.below hbw
    · exact hy.below hbw, Below.refl _ _⟩
  have mv : (v, a) ∈ ns := by rw [hns]; simp
  have mu : (u, b) ∈ ns := by rw [hns]; simp
  have mx : (x, c) ∈ ns := by rw [hns]; simp
  have my : (y, d) ∈ ns := by rw [hns]; simp
  have c00 : W0.cell? ⟨w.heap.size, 0, none⟩ = some v := by rw [hW0]; exact (World.cell?_alloc_past _ _ _ (by simp <;> omega)).trans (World.cell?_alloc_at _ _ _ _ (by simp))
  have c01 : W0.cell? ⟨w.heap.size, 1, none⟩ = some u := by rw [hW0]; exact (World.cell?_alloc_past _ _ _ (by simp <;> omega)).trans (World.cell?_alloc_at _ _ _ _ (by simp))
  have c10 : W0.cell? ⟨w.heap.size + 1, 0, none⟩ = some x := by rw [hW0]; exact World.cell?_alloc_at _ _ _ _ (by simp)
  have c11 : W0.cell? ⟨w.heap.size + 1, 1, none⟩ = some y := by rw [hW0]; exact World.cell?_alloc_at _ _ _ _ (by simp)
  have g1 := nd_mul bv bY
  have g2 := nd_mul bx bu
  have HM0 : Hid (∀ W, Bx W0 ns W → Calls Tryz.prog 51 #[v, y] W fun e w' => ∃ o l k, e = .returned (.slice o l k) ∧ D w' (.slice o l k) (a * d) ∧ Below W.heap.size W w' ∧ Bx W0 ns w') := fun W h =>
    (product_any v y a d W (h.n _ mv) (h.n _ my) (by omega) (by omega)).mono fun e w' ⟨r, he, hr, hB⟩ => by
      obtain ⟨ro, rc, rfl, -⟩ := hr.shape
      exact ⟨ro, _, rc, he, hr, hB, h.next hB⟩
  have HM1 : Hid (∀ W, Bx W0 ns W → Calls Tryz.prog 51 #[x, u] W fun e w' => ∃ o l k, e = .returned (.slice o l k) ∧ D w' (.slice o l k) (c * b) ∧ Below W.heap.size W w' ∧ Bx W0 ns w') := fun W h =>
    (product_any x u c b W (h.n _ mx) (h.n _ mu) (by omega) (by omega)).mono fun e w' ⟨r, he, hr, hB⟩ => by
      obtain ⟨ro, rc, rfl, -⟩ := hr.shape
      exact ⟨ro, _, rc, he, hr, hB, h.next hB⟩
  have HCC : Hid (∀ W, Bx W0 ns W → W.cell? ⟨w.heap.size, 0, none⟩ = some v ∧ W.cell? ⟨w.heap.size, 1, none⟩ = some u ∧ W.cell? ⟨w.heap.size + 1, 0, none⟩ = some x ∧ W.cell? ⟨w.heap.size + 1, 1, none⟩ = some y) := fun W h => ⟨h.cell (by omega) c00, h.cell (by omega) c01, h.cell (by omega) c10, h.cell (by omega) c11⟩
  have HDF := Lib.hid (fun W p q M N (h1 : D W p M) (h2 : D W q N) (h3 : nd 4294967296 M ≤ 1048576) (h4 : nd 4294967296 N ≤ 1048576) (h5 : N ≤ M) => difference_any p q M N W h1 h2 h3 h4 h5)
  have HBW := Lib.hid hbw; have HW0 := Lib.hid hW0
  obtain ⟨vo, vc, rfl, -⟩ := hv.shape
  obtain ⟨uo, uc, rfl, -⟩ := hu.shape
  obtain ⟨xo, xc, rfl, -⟩ := hx.shape
  obtain ⟨yo, yc, rfl, -⟩ := hy.shape
  have hs2 := hbx.next ((Below.refl _ _).drew)
  have hc0 := HCC.out _ hbx
  have hc2 := HCC.out _ hs2
  clear hv hu hx hy hns hz0 hbw hW0 mv mu mx my c00 c01 c10 c11
  unfold gapN
  generalize a * d = P at *
  generalize c * b = Q at *
  generalize nd 4294967296 a = la at *
  generalize nd 4294967296 b = lb at *
  generalize nd 4294967296 c = lc at *
  generalize nd 4294967296 d = ld at *
  go_enter Tryz.func95, Tryz.ntmps95
  go_wp2_with fail
  rw [← HW0.out]
  go_region_held3 (fun W : World => (W.cell? ⟨w.heap.size, 0, none⟩ = some (.slice vo la vc) ∧ W.cell? ⟨w.heap.size, 1, none⟩ = some (.slice uo lb uc) ∧ W.cell? ⟨w.heap.size + 1, 0, none⟩ = some (.slice xo lc xc) ∧ W.cell? ⟨w.heap.size + 1, 1, none⟩ = some (.slice yo ld yc)) ∧ Bx W0 ns W) (first | (refine And.intro ?_ ?_ <;> assumption) | fail) (first
    | (go_at_call 51; with_reducible refine (HM0.out _ ?h).mono ?_; (case h => assumption); rintro e w' ⟨o1, l1, k1, rfl, hr', hB', hs'⟩; have hc' := HCC.out _ hs')
    | (go_at_call 51; with_reducible refine (HM1.out _ ?h).mono ?_; (case h => assumption); rintro e w' ⟨o2, l2, k2, rfl, hr', hB', hs'⟩; have hc' := HCC.out _ hs') | fail)
  all_goals
    have h1 : D w' (.slice o1 l1 k1) P := by first | assumption | exact dchain (by assumption) (by assumption) | exact dchain (by assumption) (dchain (by assumption) (by assumption)) | exact dchain (by assumption) (dchain (by assumption) (dchain (by assumption) (by assumption))) | fail
    have h2 : D w' (.slice o2 l2 k2) Q := by first | assumption | exact dchain (by assumption) (by assumption) | exact dchain (by assumption) (dchain (by assumption) (by assumption)) | exact dchain (by assumption) (dchain (by assumption) (dchain (by assumption) (by assumption))) | fail
    have hT : Bx W0 ns w' := by assumption
    have HB := Lib.hid (HBW.out.trans (hT.bel.mono HBW.out.size))
    have HCM := Lib.hid (compare_any _ _ P Q w' h1 h2 (by omega) (by omega))
    have H1 := Lib.hid h1; have H2 := Lib.hid h2
    clear h1 h2 hT
    rcases Nat.lt_or_ge P Q with hc | hc
    · rw [cmpN_lt (by omega)] at HCM
      have HIF : Hid ((if P < Q then Q - P else P - Q) = Q - P) := if_pos hc
      go_wp2_with fail
      refine HCM.out.mono ?_
      rintro e w2 ⟨rfl, q, rfl⟩
      go_wp2_with fail
      refine (HDF.out _ _ _ Q P (IsN.drewN H2.out q) (IsN.drewN H1.out q) (by omega) (by omega) (by omega)).mono ?_
      rintro e w3 ⟨r, rfl, hr, hb⟩
      have HR := Lib.hid hr
      have HE := Lib.hid ((below_drewN HB.out q).trans (hb.mono (below_drewN HB.out q).size))
      clear hr hb
      go_wp2
      go_ret
      exact ⟨_, rfl, by first | exact HR.out | (rw [HIF.out]; exact HR.out), HE.out⟩
    · have HIF : Hid ((if P < Q then Q - P else P - Q) = P - Q) := if_neg (by omega)
      have hk : ¬ cmpN ((P : Nat) : Int) ((Q : Nat) : Int) < 0 := by
        rcases Nat.eq_or_lt_of_le hc with h | h
        · rw [cmpN_eq (by omega)]; decide
        · rw [cmpN_gt (by omega)]; decide
      generalize cmpN ((P : Nat) : Int) ((Q : Nat) : Int) = kk at *
      go_wp2_with fail
      refine HCM.out.mono ?_
      rintro e w2 ⟨rfl, q, rfl⟩
      go_wp2_with fail
      refine (HDF.out _ _ _ P Q (IsN.drewN H1.out q) (IsN.drewN H2.out q) (by omega) (by omega) (by omega)).mono ?_
      rintro e w3 ⟨r, rfl, hr, hb⟩
      have HR := Lib.hid hr
      have HE := Lib.hid ((below_drewN HB.out q).trans (hb.mono (below_drewN HB.out q).size))
      clear hr hb
      go_wp2
      go_ret
      exact ⟨_, rfl, by first | exact HR.out | (rw [HIF.out]; exact HR.out), HE.out⟩
set_option maxHeartbeats 4000000 in
set_option maxRecDepth 100000 in
theorem plus_any (v u x y z : Value) (a b c d m : Nat) (w : World) (hv : D w v a) (hu : D w u b) (hx : D w x c) (hy : D w y d) (hz : D w z m) (bv : nd 4294967296 a ≤ 100000) (bu : nd 4294967296 b ≤ 100000) (bx : nd 4294967296 c ≤ 100000) (bY : nd 4294967296 d ≤ 100000) (bz : nd 4294967296 m ≤ 100000) :
    Calls Tryz.prog 72 #[.agg #[v, u], z, .agg #[x, y]] w fun e w' => ∃ r s, e = .returned (.agg #[r, s]) ∧ D w' r (a + m * c) ∧ D w' s (b + m * d) ∧ Below w.heap.size w w' := by
  obtain ⟨W0, hW0⟩ : ∃ W0 : World, W0 = ((w.alloc (.cells #[v, u] 67)).alloc (.cells #[x, y] 67)) := ⟨_, rfl⟩
  have hz0 : W0.heap.size = w.heap.size + 1 + 1 := by rw [hW0]; simp
  have hbw : Below w.heap.size w W0 := by rw [hW0]; exact ((Below.refl _ _).alloc (Nat.le_refl _) _).alloc (by simp) _
  obtain ⟨ns, hns⟩ : ∃ ns : List (Value × Nat), ns = [(v, a), (u, b), (x, c), (y, d), (z, m)] := ⟨_, rfl⟩
  have hbx : Bx W0 ns W0 := ⟨fun p hp => by
    rw [hns] at hp
    simp only [List.mem_cons, List.not_mem_nil, or_false] at hp
    rcases hp with rfl | rfl | rfl | rfl | rfl
    · exact hv.below hbw
    · exact hu.below hbw
    · exact hx.below hbw
    · exact hy.below hbw
    · exact hz.below hbw, Below.refl _ _⟩
  have mv : (v, a) ∈ ns := by rw [hns]; simp
  have mu : (u, b) ∈ ns := by rw [hns]; simp
  have mx : (x, c) ∈ ns := by rw [hns]; simp
  have my : (y, d) ∈ ns := by rw [hns]; simp
  have mz : (z, m) ∈ ns := by rw [hns]; simp
  have c00 : W0.cell? ⟨w.heap.size, 0, none⟩ = some v := by rw [hW0]; exact (World.cell?_alloc_past _ _ _ (by simp <;> omega)).trans (World.cell?_alloc_at _ _ _ _ (by simp))
  have c01 : W0.cell? ⟨w.heap.size, 1, none⟩ = some u := by rw [hW0]; exact (World.cell?_alloc_past _ _ _ (by simp <;> omega)).trans (World.cell?_alloc_at _ _ _ _ (by simp))
  have c10 : W0.cell? ⟨w.heap.size + 1, 0, none⟩ = some x := by rw [hW0]; exact World.cell?_alloc_at _ _ _ _ (by simp)
  have c11 : W0.cell? ⟨w.heap.size + 1, 1, none⟩ = some y := by rw [hW0]; exact World.cell?_alloc_at _ _ _ _ (by simp)
  have g1 := nd_mul bz bx
  have g2 := nd_mul bz bY
  have hpx := Px.start hbx 67
  have HM0 : Hid (∀ W, Px W0 ns W → Calls Tryz.prog 51 #[z, x] W fun e w' => ∃ o l k, e = .returned (.slice o l k) ∧ D w' (.slice o l k) (m * c) ∧ Below W.heap.size W w' ∧ Px W0 ns w') := fun W h =>
    (product_any z x m c W (h.b.n _ mz) (h.b.n _ mx) (by omega) (by omega)).mono fun e w' ⟨r, he, hr, hB⟩ => by
      obtain ⟨ro, rc, rfl, -⟩ := hr.shape
      exact ⟨ro, _, rc, he, hr, hB, h.next hB⟩
  have HM1 : Hid (∀ W, Px W0 ns W → Calls Tryz.prog 51 #[z, y] W fun e w' => ∃ o l k, e = .returned (.slice o l k) ∧ D w' (.slice o l k) (m * d) ∧ Below W.heap.size W w' ∧ Px W0 ns w') := fun W h =>
    (product_any z y m d W (h.b.n _ mz) (h.b.n _ my) (by omega) (by omega)).mono fun e w' ⟨r, he, hr, hB⟩ => by
      obtain ⟨ro, rc, rfl, -⟩ := hr.shape
      exact ⟨ro, _, rc, he, hr, hB, h.next hB⟩
  have HS0 : Hid (∀ W p, Px W0 ns W → D W p (m * c) → Calls Tryz.prog 50 #[v, p] W fun e w' => ∃ o l k, e = .returned (.slice o l k) ∧ D w' (.slice o l k) (a + m * c) ∧ Below W.heap.size W w' ∧ Px W0 ns w') := fun W p h hp =>
    (sum_any v p a _ W (h.b.n _ mv) hp (by omega) (by omega)).mono fun e w' ⟨r, he, hr, hB⟩ => by
      obtain ⟨ro, rc, rfl, -⟩ := hr.shape
      exact ⟨ro, _, rc, he, hr, hB, h.next hB⟩
  have HS1 : Hid (∀ W p, Px W0 ns W → D W p (m * d) → Calls Tryz.prog 50 #[u, p] W fun e w' => ∃ o l k, e = .returned (.slice o l k) ∧ D w' (.slice o l k) (b + m * d) ∧ Below W.heap.size W w' ∧ Px W0 ns w') := fun W p h hp =>
    (sum_any u p b _ W (h.b.n _ mu) hp (by omega) (by omega)).mono fun e w' ⟨r, he, hr, hB⟩ => by
      obtain ⟨ro, rc, rfl, -⟩ := hr.shape
      exact ⟨ro, _, rc, he, hr, hB, h.next hB⟩
  have HCC : Hid (∀ W, Px W0 ns W → W.cell? ⟨w.heap.size, 0, none⟩ = some v ∧ W.cell? ⟨w.heap.size, 1, none⟩ = some u ∧ W.cell? ⟨w.heap.size + 1, 0, none⟩ = some x ∧ W.cell? ⟨w.heap.size + 1, 1, none⟩ = some y) := fun W h => ⟨h.b.cell (by omega) c00, h.b.cell (by omega) c01, h.b.cell (by omega) c10, h.b.cell (by omega) c11⟩
  have HSET : Hid (∀ W o l k o2 l2 k2, Px W0 ns W → (((W.setCell ⟨W0.heap.size, 0, none⟩ (.slice o l k)).setCell ⟨W0.heap.size, 1, none⟩ (.slice o2 l2 k2)).cell? ⟨w.heap.size, 0, none⟩ = some v ∧ ((W.setCell ⟨W0.heap.size, 0, none⟩ (.slice o l k)).setCell ⟨W0.heap.size, 1, none⟩ (.slice o2 l2 k2)).cell? ⟨w.heap.size, 1, none⟩ = some u ∧ ((W.setCell ⟨W0.heap.size, 0, none⟩ (.slice o l k)).setCell ⟨W0.heap.size, 1, none⟩ (.slice o2 l2 k2)).cell? ⟨w.heap.size + 1, 0, none⟩ = some x ∧ ((W.setCell ⟨W0.heap.size, 0, none⟩ (.slice o l k)).setCell ⟨W0.heap.size, 1, none⟩ (.slice o2 l2 k2)).cell? ⟨w.heap.size + 1, 1, none⟩ = some y) ∧ Px W0 ns ((W.setCell ⟨W0.heap.size, 0, none⟩ (.slice o l k)).setCell ⟨W0.heap.size, 1, none⟩ (.slice o2 l2 k2))) := fun W o l k o2 l2 k2 h => ⟨HCC.out _ (h.set o o2 l k l2 k2), h.set o o2 l k l2 k2⟩
  have HRR : Hid (∀ W, Px W0 ns W → (∃ o l k, W.cell? ⟨W0.heap.size, 0, none⟩ = some (.slice o l k)) ∧ (∃ o l k, W.cell? ⟨W0.heap.size, 1, none⟩ = some (.slice o l k)) ∧ W.frozen? ⟨W0.heap.size, 0, none⟩ = false ∧ W.frozen? ⟨W0.heap.size, 1, none⟩ = false) := fun W h => ⟨h.r0, h.r1, h.z0, h.z1⟩
  have HDN : Hid (∀ W ro so rl rc sl sc P Q, Px W0 ns W → D W (.slice ro rl rc) P → D W (.slice so sl sc) Q → D ((W.setCell ⟨W0.heap.size, 0, none⟩ (.slice ro rl rc)).setCell ⟨W0.heap.size, 1, none⟩ (.slice so sl sc)) (.slice ro rl rc) P ∧ D ((W.setCell ⟨W0.heap.size, 0, none⟩ (.slice ro rl rc)).setCell ⟨W0.heap.size, 1, none⟩ (.slice so sl sc)) (.slice so sl sc) Q ∧ ((W.setCell ⟨W0.heap.size, 0, none⟩ (.slice ro rl rc)).setCell ⟨W0.heap.size, 1, none⟩ (.slice so sl sc)).cell? ⟨W0.heap.size, 0, none⟩ = some (.slice ro rl rc) ∧ ((W.setCell ⟨W0.heap.size, 0, none⟩ (.slice ro rl rc)).setCell ⟨W0.heap.size, 1, none⟩ (.slice so sl sc)).cell? ⟨W0.heap.size, 1, none⟩ = some (.slice so sl sc) ∧ Below W0.heap.size W0 ((W.setCell ⟨W0.heap.size, 0, none⟩ (.slice ro rl rc)).setCell ⟨W0.heap.size, 1, none⟩ (.slice so sl sc))) := fun W ro so rl rc sl sc P Q h h1 h2 => h.done h1 h2
  have HBW := Lib.hid hbw; have HW0 := Lib.hid hW0
  obtain ⟨vo, vc, rfl, -⟩ := hv.shape
  obtain ⟨uo, uc, rfl, -⟩ := hu.shape
  obtain ⟨xo, xc, rfl, -⟩ := hx.shape
  obtain ⟨yo, yc, rfl, -⟩ := hy.shape
  obtain ⟨zo, zc, rfl, -⟩ := hz.shape
  have hs2 := hpx.next ((Below.refl _ _).drew)
  have hc0 := HCC.out _ hpx
  have hc2 := HCC.out _ hs2
  clear hv hu hx hy hz hns hbw hbx hW0 mv mu mx my mz c00 c01 c10 c11
  generalize m * c = N0 at *
  generalize m * d = N1 at *
  generalize a + N0 = N2 at *
  generalize b + N1 = N3 at *
  generalize nd 4294967296 a = la at *
  generalize nd 4294967296 b = lb at *
  generalize nd 4294967296 c = lc at *
  generalize nd 4294967296 d = ld at *
  generalize nd 4294967296 m = lk at *
  rw [hz0] at HSET HRR HDN
  have HZ0 := Lib.hid hz0
  clear hz0
  go_enter Tryz.func72, Tryz.ntmps72
  go_wp2_with fail
  rw [← HW0.out]
  go_region_held3 (fun W : World => (W.cell? ⟨w.heap.size, 0, none⟩ = some (.slice vo la vc) ∧ W.cell? ⟨w.heap.size, 1, none⟩ = some (.slice uo lb uc) ∧ W.cell? ⟨w.heap.size + 1, 0, none⟩ = some (.slice xo lc xc) ∧ W.cell? ⟨w.heap.size + 1, 1, none⟩ = some (.slice yo ld yc)) ∧ Px W0 ns W) (first | (refine And.intro ?_ ?_ <;> assumption) | (refine HSET.out _ _ _ _ _ _ _ ?_; assumption) | fail) (first
    | (go_at_call 51; with_reducible refine (HM0.out _ ?h).mono ?_; (case h => assumption); rintro e w' ⟨o1, l1, k1, rfl, hr', hB', hs'⟩; have hc' := HCC.out _ hs')
    | (go_at_call 50; with_reducible refine (HS0.out _ _ ?h ?r).mono ?_; (case h => assumption); (case r => first | assumption | exact dchain (by assumption) (by assumption) | exact dchain (by assumption) (dchain (by assumption) (by assumption)) | exact dchain (by assumption) (dchain (by assumption) (dchain (by assumption) (by assumption))) | fail); rintro e w' ⟨o2, l2, k2, rfl, hr', hB', hs'⟩; have hc' := HCC.out _ hs')
    | (go_at_call 51; with_reducible refine (HM1.out _ ?h).mono ?_; (case h => assumption); rintro e w' ⟨o3, l3, k3, rfl, hr', hB', hs'⟩; have hc' := HCC.out _ hs')
    | (go_at_call 50; with_reducible refine (HS1.out _ _ ?h ?r).mono ?_; (case h => assumption); (case r => first | assumption | exact dchain (by assumption) (by assumption) | exact dchain (by assumption) (dchain (by assumption) (by assumption)) | exact dchain (by assumption) (dchain (by assumption) (dchain (by assumption) (by assumption))) | fail); rintro e w' ⟨o4, l4, k4, rfl, hr', hB', hs'⟩; have hc' := HCC.out _ hs'; obtain ⟨⟨p0, p1, p2, y0⟩, ⟨q0, q1, q2, y1⟩, y2, y3⟩ := HRR.out _ hs') | fail)
  all_goals
    have h1 : D w' (.slice o2 l2 k2) N2 := by first | assumption | exact dchain (by assumption) (by assumption) | exact dchain (by assumption) (dchain (by assumption) (by assumption)) | exact dchain (by assumption) (dchain (by assumption) (dchain (by assumption) (by assumption))) | fail
    have h2 : D w' (.slice o4 l4 k4) N3 := by first | assumption | exact dchain (by assumption) (by assumption) | exact dchain (by assumption) (dchain (by assumption) (by assumption)) | exact dchain (by assumption) (dchain (by assumption) (dchain (by assumption) (by assumption))) | fail
    have hT : Px W0 ns w' := by assumption
    have HD := Lib.hid (HDN.out _ _ _ _ _ _ _ _ _ hT h1 h2)
    clear hT h1 h2
    go_wp2
    obtain ⟨t1, t2, t3, t4, t5⟩ := HD.out

    refine bodyPost_ret (v := .agg #[.slice o2 l2 k2, .slice o4 l4 k4]) (by simp [results, Tryz.results72, go_sem, t3, t4]) rfl ⟨_, _, rfl, t1, t2, HBW.out.trans (t5.mono (by omega))⟩
end Go.Proofs.YteajinpfigejfaaGreatDoor
namespace Go.Proofs.YteajinpfigejfaaGreatDoor
open Go Go.RowKit Gu

set_option maxHeartbeats 4000000 in
set_option maxRecDepth 100000 in
theorem isNearer_any (v u x y z t : Value) (a b c d e f : Nat) (w : World) (hv : D w v a) (hu : D w u b) (hx : D w x c) (hy : D w y d) (hz : D w z e) (ht : D w t f) (bv : nd 4294967296 a ≤ 100000) (bu : nd 4294967296 b ≤ 100000) (bx : nd 4294967296 c ≤ 100000) (bY : nd 4294967296 d ≤ 100000) (bz : nd 4294967296 e ≤ 100000) (bt : nd 4294967296 f ≤ 100000) :
    Calls Tryz.prog 74 #[.agg #[v, u], .agg #[x, y], .agg #[z, t]] w fun e' w' => e' = .returned (.bool (decide (gapN a b c d * f < gapN a b e f * d))) ∧ Below w.heap.size w w' := by
  obtain ⟨W0, hW0⟩ : ∃ W0 : World, W0 = (((w.alloc (.cells #[v, u] 67)).alloc (.cells #[x, y] 67)).alloc (.cells #[z, t] 67)) := ⟨_, rfl⟩
  have hz0 : W0.heap.size = w.heap.size + 1 + 1 + 1 := by rw [hW0]; simp
  have hbw : Below w.heap.size w W0 := by rw [hW0]; exact (((Below.refl _ _).alloc (Nat.le_refl _) _).alloc (by simp) _).alloc (by simp; omega) _
  obtain ⟨ns, hns⟩ : ∃ ns : List (Value × Nat), ns = [(v, a), (u, b), (x, c), (y, d), (z, e), (t, f)] := ⟨_, rfl⟩
  have hbx : Bx W0 ns W0 := ⟨fun p hp => by
    rw [hns] at hp
    simp only [List.mem_cons, List.not_mem_nil, or_false] at hp
    rcases hp with rfl | rfl | rfl | rfl | rfl | rfl
    · exact hv.below hbw
    · exact hu.below hbw
    · exact hx.below hbw
    · exact hy.below hbw
    · exact hz.below hbw
    · exact ht.below hbw, Below.refl _ _⟩
  have mv : (v, a) ∈ ns := by rw [hns]; simp
  have mu : (u, b) ∈ ns := by rw [hns]; simp
  have mx : (x, c) ∈ ns := by rw [hns]; simp
  have my : (y, d) ∈ ns := by rw [hns]; simp
  have mz : (z, e) ∈ ns := by rw [hns]; simp
  have mt : (t, f) ∈ ns := by rw [hns]; simp
  have past : ∀ (W : World) (o : Obj) (k j : Nat) (q : Value), k < W.heap.size → W.cell? ⟨k, j, none⟩ = some q → (W.alloc o).cell? ⟨k, j, none⟩ = some q := fun W o k j q h1 h2 => (World.cell?_alloc_past _ _ _ h1).trans h2
  have c00 : W0.cell? ⟨w.heap.size, 0, none⟩ = some v := by rw [hW0]; exact past _ _ _ _ _ (by simp <;> omega) (past _ _ _ _ _ (by simp) (World.cell?_alloc_at _ _ _ _ rfl))
  have c01 : W0.cell? ⟨w.heap.size, 1, none⟩ = some u := by rw [hW0]; exact past _ _ _ _ _ (by simp <;> omega) (past _ _ _ _ _ (by simp) (World.cell?_alloc_at _ _ _ _ rfl))
  have c10 : W0.cell? ⟨w.heap.size + 1, 0, none⟩ = some x := by rw [hW0]; exact past _ _ _ _ _ (by simp) (World.cell?_alloc_at _ _ _ _ (by simp))
  have c11 : W0.cell? ⟨w.heap.size + 1, 1, none⟩ = some y := by rw [hW0]; exact past _ _ _ _ _ (by simp) (World.cell?_alloc_at _ _ _ _ (by simp))
  have c20 : W0.cell? ⟨w.heap.size + 1 + 1, 0, none⟩ = some z := by rw [hW0]; exact World.cell?_alloc_at _ _ _ _ (by simp)
  have c21 : W0.cell? ⟨w.heap.size + 1 + 1, 1, none⟩ = some t := by rw [hW0]; exact World.cell?_alloc_at _ _ _ _ (by simp)
  have gb : ∀ {a b c d : Nat}, nd 4294967296 a ≤ 100000 → nd 4294967296 b ≤ 100000 → nd 4294967296 c ≤ 100000 → nd 4294967296 d ≤ 100000 → nd 4294967296 (gapN a b c d) ≤ 200000 := fun {a b c d} h1 h2 h3 h4 => by
    have e1 := nd_mul h1 h4
    have e2 := nd_mul h3 h2
    unfold gapN
    split
    · exact Nat.le_trans (nd_mono (by decide) (Nat.sub_le _ _)) e2
    · exact Nat.le_trans (nd_mono (by decide) (Nat.sub_le _ _)) e1
  have g1 := gb bv bu bx bY
  have g2 := gb bv bu bz bt
  have g3 := nd_mul g1 bt
  have g4 := nd_mul g2 bY
  have HG0 : Hid (∀ W, Bx W0 ns W → Calls Tryz.prog 95 #[.agg #[v, u], .agg #[x, y]] W fun e w' => ∃ o l k, e = .returned (.slice o l k) ∧ D w' (.slice o l k) (gapN a b c d) ∧ Below W.heap.size W w' ∧ Bx W0 ns w') := fun W h =>
    (gap_any v u x y a b c d W (h.n _ mv) (h.n _ mu) (h.n _ mx) (h.n _ my) bv bu bx bY).mono fun e w' ⟨r, he, hr, hB⟩ => by
      obtain ⟨ro, rc, rfl, -⟩ := hr.shape
      exact ⟨ro, _, rc, he, hr, hB, h.next hB⟩
  have HG1 : Hid (∀ W, Bx W0 ns W → Calls Tryz.prog 95 #[.agg #[v, u], .agg #[z, t]] W fun e' w' => ∃ o l k, e' = .returned (.slice o l k) ∧ D w' (.slice o l k) (gapN a b e f) ∧ Below W.heap.size W w' ∧ Bx W0 ns w') := fun W h =>
    (gap_any v u z t a b e f W (h.n _ mv) (h.n _ mu) (h.n _ mz) (h.n _ mt) bv bu bz bt).mono fun e w' ⟨r, he, hr, hB⟩ => by
      obtain ⟨ro, rc, rfl, -⟩ := hr.shape
      exact ⟨ro, _, rc, he, hr, hB, h.next hB⟩
  have HP0 : Hid (∀ W p, Bx W0 ns W → D W p (gapN a b c d) → Calls Tryz.prog 51 #[p, t] W fun e w' => ∃ o l k, e = .returned (.slice o l k) ∧ D w' (.slice o l k) (gapN a b c d * f) ∧ Below W.heap.size W w' ∧ Bx W0 ns w') := fun W p h hp =>
    (product_any p t _ f W hp (h.n _ mt) (by omega) (by omega)).mono fun e w' ⟨r, he, hr, hB⟩ => by
      obtain ⟨ro, rc, rfl, -⟩ := hr.shape
      exact ⟨ro, _, rc, he, hr, hB, h.next hB⟩
  have HP1 : Hid (∀ W p, Bx W0 ns W → D W p (gapN a b e f) → Calls Tryz.prog 51 #[p, y] W fun e' w' => ∃ o l k, e' = .returned (.slice o l k) ∧ D w' (.slice o l k) (gapN a b e f * d) ∧ Below W.heap.size W w' ∧ Bx W0 ns w') := fun W p h hp =>
    (product_any p y _ d W hp (h.n _ my) (by omega) (by omega)).mono fun e w' ⟨r, he, hr, hB⟩ => by
      obtain ⟨ro, rc, rfl, -⟩ := hr.shape
      exact ⟨ro, _, rc, he, hr, hB, h.next hB⟩
  obtain ⟨kk, hkk⟩ : ∃ kk, kk = cmpN ((gapN a b c d * f : Nat) : Int) ((gapN a b e f * d : Nat) : Int) := ⟨_, rfl⟩
  have hdec : decide (kk < 0) = decide (gapN a b c d * f < gapN a b e f * d) := by
    rw [hkk]
    rcases Nat.lt_trichotomy (gapN a b c d * f) (gapN a b e f * d) with h | h | h
    · rw [cmpN_lt (by omega)]; simp [h]
    · rw [cmpN_eq (by omega)]; simp; omega
    · rw [cmpN_gt (by omega)]; simp; omega
  have HDE := Lib.hid hdec
  have HCM : Hid (∀ W p q, Bx W0 ns W → D W p (gapN a b c d * f) → D W q (gapN a b e f * d) → Calls Tryz.prog 36 #[p, q] W fun e w' => e = .returned (.int .i64 kk) ∧ Bx W0 ns w') := fun W p q h hp hq => by
    rw [hkk]
    exact (compare_any p q _ _ W hp hq (by omega) (by omega)).mono fun e w' ⟨he, k, hw⟩ => ⟨he, by rw [hw]; exact h.next (below_drewN (Below.refl _ _) k)⟩
  have HCC : Hid (∀ W, Bx W0 ns W → W.cell? ⟨w.heap.size, 0, none⟩ = some v ∧ W.cell? ⟨w.heap.size, 1, none⟩ = some u ∧ W.cell? ⟨w.heap.size + 1, 0, none⟩ = some x ∧ W.cell? ⟨w.heap.size + 1, 1, none⟩ = some y ∧ W.cell? ⟨w.heap.size + 1 + 1, 0, none⟩ = some z ∧ W.cell? ⟨w.heap.size + 1 + 1, 1, none⟩ = some t) := fun W h => ⟨h.cell (by omega) c00, h.cell (by omega) c01, h.cell (by omega) c10, h.cell (by omega) c11, h.cell (by omega) c20, h.cell (by omega) c21⟩
  have HBW := Lib.hid hbw; have HW0 := Lib.hid hW0
  obtain ⟨vo, vc, rfl, -⟩ := hv.shape
  obtain ⟨uo, uc, rfl, -⟩ := hu.shape
  obtain ⟨xo, xc, rfl, -⟩ := hx.shape
  obtain ⟨yo, yc, rfl, -⟩ := hy.shape
  obtain ⟨zo, zc, rfl, -⟩ := hz.shape
  obtain ⟨to', tc, rfl, -⟩ := ht.shape
  have hs2 := hbx.next ((Below.refl _ _).drew)
  have hc0 := HCC.out _ hbx
  have hc2 := HCC.out _ hs2
  clear hv hu hx hy hz ht hns hz0 hbw hW0 mv mu mx my mz mt c00 c01 c10 c11 c20 c21 gb g1 g2 g3 g4 past hkk hdec
  generalize gapN a b c d * f = N2 at *
  generalize gapN a b e f * d = N3 at *
  generalize gapN a b c d = N0 at *
  generalize gapN a b e f = N1 at *
  generalize nd 4294967296 a = la at *
  generalize nd 4294967296 b = lb at *
  generalize nd 4294967296 c = lc at *
  generalize nd 4294967296 d = ld at *
  generalize nd 4294967296 e = le at *
  generalize nd 4294967296 f = lf at *
  go_enter Tryz.func74, Tryz.ntmps74
  go_wp2_with fail
  rw [← HW0.out]
  go_region_held3 (fun W : World => (W.cell? ⟨w.heap.size, 0, none⟩ = some (.slice vo la vc) ∧ W.cell? ⟨w.heap.size, 1, none⟩ = some (.slice uo lb uc) ∧ W.cell? ⟨w.heap.size + 1, 0, none⟩ = some (.slice xo lc xc) ∧ W.cell? ⟨w.heap.size + 1, 1, none⟩ = some (.slice yo ld yc) ∧ W.cell? ⟨w.heap.size + 1 + 1, 0, none⟩ = some (.slice zo le zc) ∧ W.cell? ⟨w.heap.size + 1 + 1, 1, none⟩ = some (.slice to' lf tc)) ∧ Bx W0 ns W) (first | (refine And.intro ?_ ?_ <;> assumption) | fail) (first
    | (go_at_call 95; with_reducible refine (HG0.out _ ?h).mono ?_; (case h => assumption); rintro e w' ⟨o1, l1, k1, rfl, hr', hB', hs'⟩; have hc' := HCC.out _ hs')
    | (go_at_call 95; with_reducible refine (HG1.out _ ?h).mono ?_; (case h => assumption); rintro e w' ⟨o2, l2, k2, rfl, hr', hB', hs'⟩; have hc' := HCC.out _ hs')
    | (go_at_call 51; with_reducible refine (HP0.out _ _ ?h ?r).mono ?_; (case h => assumption); (case r => first | assumption | exact dchain (by assumption) (by assumption) | fail); rintro e w' ⟨o3, l3, k3, rfl, hr', hB', hs'⟩; have hc' := HCC.out _ hs')
    | (go_at_call 51; with_reducible refine (HP1.out _ _ ?h ?r).mono ?_; (case h => assumption); (case r => first | assumption | exact dchain (by assumption) (by assumption) | fail); rintro e w' ⟨o4, l4, k4, rfl, hr', hB', hs'⟩; have hc' := HCC.out _ hs')
    | (go_at_call 36; with_reducible refine (HCM.out _ _ _ ?h ?r ?r2).mono ?_; (case h => assumption); (case r => first | assumption | exact dchain (by assumption) (by assumption) | exact dchain (by assumption) (dchain (by assumption) (by assumption)) | fail); (case r2 => first | assumption | exact dchain (by assumption) (by assumption) | fail); rintro e w' ⟨rfl, hs'⟩; have hc' := HCC.out _ hs') | fail)
  all_goals
    have hT : Bx W0 ns w' := by assumption
    have HB := Lib.hid (HBW.out.trans (hT.bel.mono HBW.out.size))
    clear hT
    go_wp2
    go_ret
    exact ⟨by rw [← HDE.out]; rfl, HB.out⟩
end Go.Proofs.YteajinpfigejfaaGreatDoor
