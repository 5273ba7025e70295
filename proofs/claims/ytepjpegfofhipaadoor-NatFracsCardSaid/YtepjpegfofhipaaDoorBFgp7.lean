/- WHAT IS PROVED: for any two slices of 16-bit digits (of which the first 24 count), NewFrac returns the quotient in lowest terms, with the document's text, numerator, denominator and floor, or ErrZero and the fraction 0 if the second number is 0; and the few plain results of awake hold. Conditions: the listed tables of the library hold what the program's text lays (the card ties them). -/
import Derived.Test.YtepjpegfofhipaaDoorBFgp6
import Derived.Test.YtepjpegfofhipaaDoorBFgp2
import Derived.Test.YtepjpegfofhipaaDoorRows
import Derived.ProofKit
import Derived.LaidMore
import Derived.LaidSub
import Derived.Lay
import Derived.OpenShut
import Derived.Lib.LaidTab
import Derived.Stop.Joined
import Derived.Test.YtepjpegfofhipaaDoorBFgp3
import Derived.Carry
import Derived.Test.YtepjpegfofhipaaDoorCards
import Derived.Test.YtepjpegfofhipaaDoorTie
namespace Go.Proofs.YtepjpegfofhipaaDoor
open Go Go.RowKit Gu

set_option maxHeartbeats 1000000 in
theorem NewFrac_zero (v u : Value) (a : Nat) (w : World) (hv : D w v a) (hu : D w u 0) :
    Calls Tryd.prog 10 #[.agg #[v], .agg #[u]] w fun e w' => e = .returned (.tuple #[.agg #[.slice none 0 0, .slice none 0 0], .int .i64 11]) ∧ Below w.heap.size w w' := by
  have b3 : ∀ o1 o2 o3, Below w.heap.size w (((w.alloc o1).alloc o2).alloc o3) := fun o1 o2 o3 => (((Below.refl _ _).alloc (Nat.le_refl _) _).alloc (by simp) _).alloc (by simp; omega) _
  have HZ := Lib.hid (fun o1 o2 o3 => isZero_any u 0 (((w.alloc o1).alloc o2).alloc o3) (hu.below (b3 o1 o2 o3)))
  rw [show decide ((0 : Nat) = 0) = true from rfl] at HZ
  have HB := Lib.hid b3
  obtain ⟨ao, ac, rfl, -⟩ := hv.shape
  obtain ⟨bo, bc, rfl, -⟩ := hu.shape
  clear hv hu b3
  go_enter Tryd.func10, Tryd.ntmps10
  go_wp2_with fail
  refine (HZ.out _ _ _).mono ?_
  rintro e w1 ⟨rfl, rfl⟩
  go_wp2
  refine bodyPost_ret (v := .tuple #[.agg #[.slice none 0 0, .slice none 0 0], .int .i64 11]) (by simp [results, Tryd.results10, go_sem]) rfl ⟨rfl, HB.out _ _ _⟩
set_option maxHeartbeats 4000000 in
set_option maxRecDepth 100000 in
theorem natFracs_pos (u0 u1 : Value) (xs0 xs1 : List Nat) (w : World) (hu0 : IsRaw w u0 xs0) (hu1 : IsRaw w u1 xs1) (hl0 : xs0.length ≤ maxLen) (hl1 : xs1.length ≤ maxLen) (hb0 : 0 < rawN xs1 24) (he : Env w) :
    Calls Tryd.prog 3 #[u0, u1] w fun e w' => e = .returned (.bool true) ∧ Below w.heap.size w w' := by
  have HR0 := Lib.hid (fun W (h : IsRaw W u0 xs0) => Raw_any u0 xs0 24 W h hl0 (by decide))
  have hna := rawN_nd hu0.1 24
  generalize rawN xs0 24 = a at *
  have HU0 := Lib.hid hu0
  have h32a := nd_32 hna
  have HR1 := Lib.hid (fun W (h : IsRaw W u1 xs1) => Raw_any u1 xs1 24 W h hl1 (by decide))
  have hnb := rawN_nd hu1.1 24
  generalize rawN xs1 24 = b at *
  have HU1 := Lib.hid hu1
  have h32b := nd_32 hnb
  have HS0 := Lib.hid (Kq.start he)
  obtain ⟨uo0, uc0, rfl, -⟩ := hu0.shape
  obtain ⟨uo1, uc1, rfl, -⟩ := hu1.shape
  clear he hu0 hl0 hu1 hl1
  have hl0 := nd_pos (B := 65536) (by decide) hb0
  have hq : ((((nd 65536 b : Nat)) : Int) == 0) = false := beq_eq_false_iff_ne.2 (by omega)
  have HNF := Lib.hid (fun W v u (h1 : D W v a) (h2 : D W u b) => NewFrac_any (divide_long (max (nd 4294967296 a) (nd 4294967296 b)) (by omega)) v u a b W h1 h2 hb0 ((nd_le (by decide)).1 (Nat.le_max_left _ _)) ((nd_le (by decide)).1 (Nat.le_max_right _ _)))
  rw [show a / Nat.gcd a b = lowP a b from rfl, show b / Nat.gcd a b = lowQ a b from rfl] at HNF
  have HRL := Lib.hid (fun W v u (h1 : R W v a) (h2 : R W u b) => RLow_any v u a b W h1 h2 hb0 (by omega) (by omega))
  have hP16 : nd 65536 (lowP a b) ≤ 24 := Nat.le_trans (nd_mono (by decide) (Nat.div_le_self _ _)) hna
  have hQ16 : nd 65536 (lowQ a b) ≤ 24 := Nat.le_trans (nd_mono (by decide) (Nat.div_le_self _ _)) hnb
  have hP32 := nd_32 hP16
  have hQ32 := nd_32 hQ16
  have hQ0 : 0 < lowQ a b := Nat.div_pos (Nat.gcd_le_right _ hb0) (Nat.gcd_pos_of_pos_right _ hb0)
  generalize lowP a b = P at *
  generalize lowQ a b = Q at *
  go_enter Tryd.func3, Tryd.ntmps3
  go_wp2_with fail
  refine (HR0.out _ (IsRaw.below HU0.out HS0.out.bel)).mono ?_
  rintro e w1 ⟨cv, rfl, hc, hb⟩
  obtain ⟨co, cc, rfl, -⟩ := hc.shape
  have HS1 := Lib.hid ((HS0.out.next hb).addDig hc)
  clear hc hb HS0 HU0 HR0
  go_wp2_with fail
  refine (HR1.out _ (IsRaw.below HU1.out HS1.out.bel)).mono ?_
  rintro e w2 ⟨lv, rfl, hl, hb⟩
  obtain ⟨lo, lc, rfl, -⟩ := hl.shape
  have HS2 := Lib.hid ((HS1.out.next hb).addDig hl)
  clear hl hb HS1 HU1 HR1
  go_wp2_with fail
  refine (two_any _ _ a b _ (HS2.out.dig _ (.tail _ (.head _))) (HS2.out.dig _ (.head _)) (by omega) (by omega)).mono ?_
  rintro e w3 ⟨vx, vy, rfl, hx, hy, hb⟩
  obtain ⟨xo, xc, rfl, -⟩ := hx.shape
  obtain ⟨yo, yc, rfl, -⟩ := hy.shape
  have hs := ((((HS2.out.next hb).addNum hx).addNum hy).boxed (.slice xo (nd 4294967296 (a)) xc) 28).boxed (.slice yo (nd 4294967296 (b)) yc) 28
  simp only [World.size_alloc] at hs
  have HS3 := Lib.hid hs
  clear hs hb hx hy HS2
  have cx := HS3.out.cell (.tail _ (.head _))
  have cy := HS3.out.cell (.head _)
  go_wp2_with fail
  refine (HNF.out _ _ _ (HS3.out.num _ (.tail _ (.head _))) (HS3.out.num _ (.head _))).mono ?_
  rintro e w4 ⟨vf1, vf2, rfl, hf1, hf2, hb⟩
  obtain ⟨f1o, f1c, rfl, -⟩ := hf1.shape
  obtain ⟨f2o, f2c, rfl, -⟩ := hf2.shape
  have hs := (((HS3.out.next hb).addNum hf1).addNum hf2).boxed2 (.slice f1o (nd 4294967296 (P)) f1c) (.slice f2o (nd 4294967296 (Q)) f2c) 32
  have HS4 := Lib.hid hs
  clear hs hb hf1 hf2 HS3
  clear cx cy
  go_wp2_with fail
  refine (HRL.out _ _ _ (HS4.out.dig _ (.tail _ (.head _))) (HS4.out.dig _ (.head _))).mono ?_
  rintro e w5 ⟨vg1, vg2, rfl, hg1, hg2, hb⟩
  obtain ⟨g1o, g1c, rfl, -⟩ := hg1.shape
  obtain ⟨g2o, g2c, rfl, -⟩ := hg2.shape
  have hs := (((HS4.out.next hb).addDig hg1).addDig hg2).boxed2 (.slice g1o (nd 65536 (P)) g1c) (.slice g2o (nd 65536 (Q)) g2c) 39
  have HS5 := Lib.hid hs
  clear hs hb hg1 hg2 HS4
  have hs := HS5.out
  obtain ⟨cs, hcs⟩ : ∃ cs : List (Nat × Nat × Value), cs = [(w5.heap.size, 1, .slice g2o (nd 65536 (Q)) g2c), (w5.heap.size, 0, .slice g1o (nd 65536 (P)) g1c), (w4.heap.size, 1, .slice f2o (nd 4294967296 (Q)) f2c), (w4.heap.size, 0, .slice f1o (nd 4294967296 (P)) f1c), (w3.heap.size + 1, 0, .slice yo (nd 4294967296 (b)) yc), (w3.heap.size, 0, .slice xo (nd 4294967296 (a)) xc)] := ⟨_, rfl⟩
  obtain ⟨ns, hns⟩ : ∃ ns : List (Value × Nat), ns = [(.slice f2o (nd 4294967296 (Q)) f2c, Q), (.slice f1o (nd 4294967296 (P)) f1c, P), (.slice yo (nd 4294967296 (b)) yc, b), (.slice xo (nd 4294967296 (a)) xc, a)] := ⟨_, rfl⟩
  obtain ⟨rs, hrs⟩ : ∃ rs : List (Value × Nat), rs = [(.slice g2o (nd 65536 (Q)) g2c, Q), (.slice g1o (nd 65536 (P)) g1c, P), (.slice lo (nd 65536 (b)) lc, b), (.slice co (nd 65536 (a)) cc, a)] := ⟨_, rfl⟩
  rw [← hcs, ← hns, ← hrs] at hs
  have HCL : Hid (∀ W', Kq cs ns rs w W' → W'.cell? ⟨w4.heap.size, 0, none⟩ = some (.slice f1o (nd 4294967296 (P)) f1c) ∧ W'.cell? ⟨w4.heap.size, 1, none⟩ = some (.slice f2o (nd 4294967296 (Q)) f2c) ∧ W'.cell? ⟨w5.heap.size, 0, none⟩ = some (.slice g1o (nd 65536 (P)) g1c) ∧ W'.cell? ⟨w5.heap.size, 1, none⟩ = some (.slice g2o (nd 65536 (Q)) g2c)) := fun W' h => by
    rw [hcs] at h
    exact ⟨h.cell (.tail _ (.tail _ (.tail _ (.head _)))), h.cell (.tail _ (.tail _ (.head _))), h.cell (.tail _ (.head _)), h.cell (.head _)⟩
  have HM_f1 : Hid (((.slice f1o (nd 4294967296 (P)) f1c, P) : Value × Nat) ∈ ns) := by show _ ∈ _; rw [hns]; exact (.tail _ (.head _))
  have HM_f2 : Hid (((.slice f2o (nd 4294967296 (Q)) f2c, Q) : Value × Nat) ∈ ns) := by show _ ∈ _; rw [hns]; exact (.head _)
  have HD_g1 : Hid (((.slice g1o (nd 65536 (P)) g1c, P) : Value × Nat) ∈ rs) := by show _ ∈ _; rw [hrs]; exact (.tail _ (.head _))
  have HD_g2 : Hid (((.slice g2o (nd 65536 (Q)) g2c, Q) : Value × Nat) ∈ rs) := by show _ ∈ _; rw [hrs]; exact (.head _)
  have hs2 := hs.drew
  have hcl := HCL.out _ hs2
  have hc0 := HCL.out _ hs
  have HAK := Lib.hid (fun W' (h : Kq cs ns rs w W') => awake_Q h)
  clear hcs hns hrs HS5
  have HSM : Hid (∀ W', Kq cs ns rs w W' → Calls Tryd.prog 14 #[.agg #[.slice f1o (nd 4294967296 (P)) f1c, .slice f2o (nd 4294967296 (Q)) f2c], .int .i64 0, .agg #[.slice g1o (nd 65536 (P)) g1c, .slice g2o (nd 65536 (Q)) g2c], .int .i64 0] W' fun e w' => e = .returned (.bool true) ∧ Kq cs ns rs w w') := fun W' h =>
    (same_ok _ _ _ _ P Q W' (h.num _ HM_f1.out) (h.num _ HM_f2.out) (h.dig _ HD_g1.out) (h.dig _ HD_g2.out) hQ0 (by omega) (by omega) h.env).mono fun e w' ⟨he, hB⟩ => ⟨he, h.next hB⟩
  have HNU : Hid (∀ W', Kq cs ns rs w W' → Calls Tryd.prog 16 #[.agg #[.slice f1o (nd 4294967296 (P)) f1c, .slice f2o (nd 4294967296 (Q)) f2c]] W' fun e w' => ∃ o l c, e = .returned (.agg #[.slice o l c]) ∧ D w' (.slice o l c) P ∧ Kq cs ns rs w w') := fun W' h =>
    (FNum_any _ _ P Q W' (h.num _ HM_f1.out) (h.num _ HM_f2.out) (by omega)).mono fun e w' ⟨r, he, hr, hB⟩ => by
      obtain ⟨ro, rc, rfl, -⟩ := hr.shape
      exact ⟨ro, _, rc, he, hr, h.next hB⟩
  have HDE : Hid (∀ W', Kq cs ns rs w W' → Calls Tryd.prog 17 #[.agg #[.slice f1o (nd 4294967296 (P)) f1c, .slice f2o (nd 4294967296 (Q)) f2c]] W' fun e w' => ∃ o l c, e = .returned (.agg #[.slice o l c]) ∧ D w' (.slice o l c) Q ∧ Kq cs ns rs w w') := fun W' h => by
    have h1 := FDen_any _ _ P Q W' (h.num _ HM_f1.out) (h.num _ HM_f2.out) (by rw [dn_of hQ0]; omega)
    rw [dn_of hQ0] at h1
    exact h1.mono fun e w' ⟨r, he, hr, hB⟩ => by
      obtain ⟨ro, rc, rfl, -⟩ := hr.shape
      exact ⟨ro, _, rc, he, hr, h.next hB⟩
  have HFL : Hid (∀ W', Kq cs ns rs w W' → Calls Tryd.prog 18 #[.agg #[.slice f1o (nd 4294967296 (P)) f1c, .slice f2o (nd 4294967296 (Q)) f2c]] W' fun e w' => ∃ o l c, e = .returned (.agg #[.slice o l c]) ∧ D w' (.slice o l c) (P / Q) ∧ Below W'.heap.size W' w' ∧ Kq cs ns rs w w') := fun W' h => by
    have h1 := FFloor_any _ _ P Q W' (h.num _ HM_f1.out) (h.num _ HM_f2.out) (by omega) (by rw [dn_of hQ0]; omega)
    rw [dn_of hQ0] at h1
    exact h1.mono fun e w' ⟨r, he, hr, hB⟩ => by
      obtain ⟨ro, rc, rfl, -⟩ := hr.shape
      exact ⟨ro, _, rc, he, hr, hB, h.next hB⟩
  have HRF : Hid (∀ W', Kq cs ns rs w W' → Calls Tryd.prog 19 #[.agg #[.slice g1o (nd 65536 (P)) g1c, .slice g2o (nd 65536 (Q)) g2c]] W' fun e w' => ∃ o l c, e = .returned (.slice o l c) ∧ R w' (.slice o l c) (P / Q) ∧ Below W'.heap.size W' w' ∧ Kq cs ns rs w w') := fun W' h =>
    (RFloor_any _ _ P Q W' (h.dig _ HD_g1.out) (h.dig _ HD_g2.out) hQ0 (by omega) (by omega)).mono fun e w' ⟨r, he, hr, hB⟩ => by
      obtain ⟨ro, rc, rfl, -⟩ := hr.shape
      exact ⟨ro, _, rc, he, hr, hB, h.next hB⟩
  have hF16 : nd 65536 (P / Q) ≤ 24 := Nat.le_trans (nd_mono (by decide) (Nat.div_le_self _ _)) hP16
  have hF32 := nd_32 hF16
  have HIP : Hid (∀ W' x, Kq cs ns rs w W' → D W' x P → Calls Tryd.prog 15 #[.agg #[x], .slice g1o (nd 65536 (P)) g1c] W' fun e w' => e = .returned (.bool true) ∧ Kq cs ns rs w w') := fun W' x h hx =>
    (is_any _ _ P W' hx (h.dig _ HD_g1.out) (by omega) (by omega) h.env).mono fun e w' ⟨he, hB⟩ => ⟨he, h.next hB⟩
  have HIQ : Hid (∀ W' x, Kq cs ns rs w W' → D W' x Q → Calls Tryd.prog 15 #[.agg #[x], .slice g2o (nd 65536 (Q)) g2c] W' fun e w' => e = .returned (.bool true) ∧ Kq cs ns rs w w') := fun W' x h hx =>
    (is_any _ _ Q W' hx (h.dig _ HD_g2.out) (by omega) (by omega) h.env).mono fun e w' ⟨he, hB⟩ => ⟨he, h.next hB⟩
  have HIF : Hid (∀ W' x y, Kq cs ns rs w W' → D W' x (P / Q) → R W' y (P / Q) → Calls Tryd.prog 15 #[.agg #[x], y] W' fun e w' => e = .returned (.bool true) ∧ Kq cs ns rs w w') := fun W' x y h hx hy =>
    (is_any _ _ (P / Q) W' hx hy (by omega) (by omega) h.env).mono fun e w' ⟨he, hB⟩ => ⟨he, h.next hB⟩
  generalize P / Q = FL at *
  clear HNF HRL
  go_wp2_with fail
  go_region_held3 (fun W' : World => (W'.cell? ⟨w4.heap.size, 0, none⟩ = some (.slice f1o (nd 4294967296 (P)) f1c) ∧ W'.cell? ⟨w4.heap.size, 1, none⟩ = some (.slice f2o (nd 4294967296 (Q)) f2c) ∧ W'.cell? ⟨w5.heap.size, 0, none⟩ = some (.slice g1o (nd 65536 (P)) g1c) ∧ W'.cell? ⟨w5.heap.size, 1, none⟩ = some (.slice g2o (nd 65536 (Q)) g2c)) ∧ Kq cs ns rs w W') (first | (refine And.intro ?_ ?_ <;> assumption)) (first
    | (go_at_call 14; with_reducible refine (HSM.out _ ?h).mono ?_; (case h => assumption); rintro e w' ⟨rfl, hs'⟩; have hc' := HCL.out _ hs')
    | (go_at_call 16; with_reducible refine (HNU.out _ ?h).mono ?_; (case h => assumption); rintro e w' ⟨o1, l1, k1, rfl, hr', hs'⟩; have hc' := HCL.out _ hs')
    | (go_at_call 17; with_reducible refine (HDE.out _ ?h).mono ?_; (case h => assumption); rintro e w' ⟨o1, l1, k1, rfl, hr', hs'⟩; have hc' := HCL.out _ hs')
    | (go_at_call 18; with_reducible refine (HFL.out _ ?h).mono ?_; (case h => assumption); rintro e w' ⟨o1, l1, k1, rfl, hr', hB', hs'⟩; have hc' := HCL.out _ hs')
    | (go_at_call 19; with_reducible refine (HRF.out _ ?h).mono ?_; (case h => assumption); rintro e w' ⟨o1, l1, k1, rfl, hr', hB', hs'⟩; have hc' := HCL.out _ hs')
    | (go_at_call 15; with_reducible refine (HIP.out _ _ ?h ?r).mono ?_; (case h => assumption); (case r => first | assumption | exact rchain (by assumption) (by assumption) | exact dchain (by assumption) (by assumption)); rintro e w' ⟨rfl, hs'⟩; have hc' := HCL.out _ hs')
    | (go_at_call 15; with_reducible refine (HIQ.out _ _ ?h ?r).mono ?_; (case h => assumption); (case r => first | assumption | exact rchain (by assumption) (by assumption) | exact dchain (by assumption) (by assumption)); rintro e w' ⟨rfl, hs'⟩; have hc' := HCL.out _ hs')
    | (go_at_call 15; with_reducible refine (HIF.out _ _ _ ?h ?r ?r2).mono ?_; (case h => assumption); (case r => first | assumption | exact rchain (by assumption) (by assumption) | exact dchain (by assumption) (by assumption)); (case r2 => first | assumption | exact rchain (by assumption) (by assumption) | exact dchain (by assumption) (by assumption)); rintro e w' ⟨rfl, hs'⟩; have hc' := HCL.out _ hs')
    | (go_at_call 12; with_reducible refine (HAK.out _ ?h).mono ?_; (case h => assumption); rintro e w' ⟨rfl, hs'⟩; have hc' := HCL.out _ hs'))
  all_goals go_wp2
  all_goals go_ret
  all_goals exact ⟨by simp, (by assumption : Kq cs ns rs w _).bel⟩
set_option maxHeartbeats 4000000 in
set_option maxRecDepth 100000 in
theorem natFracs_zero (u0 u1 : Value) (xs0 xs1 : List Nat) (w : World) (hu0 : IsRaw w u0 xs0) (hu1 : IsRaw w u1 xs1) (hl0 : xs0.length ≤ maxLen) (hl1 : xs1.length ≤ maxLen) (hb0 : rawN xs1 24 = 0) (he : Env w) :
    Calls Tryd.prog 3 #[u0, u1] w fun e w' => e = .returned (.bool true) ∧ Below w.heap.size w w' := by
  have HR0 := Lib.hid (fun W (h : IsRaw W u0 xs0) => Raw_any u0 xs0 24 W h hl0 (by decide))
  have hna := rawN_nd hu0.1 24
  generalize rawN xs0 24 = a at *
  have HU0 := Lib.hid hu0
  have h32a := nd_32 hna
  have HR1 := Lib.hid (fun W (h : IsRaw W u1 xs1) => Raw_any u1 xs1 24 W h hl1 (by decide))
  have hnb := rawN_nd hu1.1 24
  generalize rawN xs1 24 = b at *
  have HU1 := Lib.hid hu1
  have h32b := nd_32 hnb
  have HS0 := Lib.hid (Kq.start he)
  obtain ⟨uo0, uc0, rfl, -⟩ := hu0.shape
  obtain ⟨uo1, uc1, rfl, -⟩ := hu1.shape
  clear he hu0 hl0 hu1 hl1
  have HNF := Lib.hid (fun W v u (h1 : D W v a) (h3 : D W u b) => NewFrac_zero v u a W h1 (hb0 ▸ h3))
  have hl0 : nd 65536 b = 0 := by rw [hb0, nd_zero]
  have hq : ((((nd 65536 b : Nat)) : Int) == 0) = true := by rw [hl0]; rfl
  clear hb0 hl0
  go_enter Tryd.func3, Tryd.ntmps3
  go_wp2_with fail
  refine (HR0.out _ (IsRaw.below HU0.out HS0.out.bel)).mono ?_
  rintro e w1 ⟨cv, rfl, hc, hb⟩
  obtain ⟨co, cc, rfl, -⟩ := hc.shape
  have HS1 := Lib.hid ((HS0.out.next hb).addDig hc)
  clear hc hb HS0 HU0 HR0
  go_wp2_with fail
  refine (HR1.out _ (IsRaw.below HU1.out HS1.out.bel)).mono ?_
  rintro e w2 ⟨lv, rfl, hl, hb⟩
  obtain ⟨lo, lc, rfl, -⟩ := hl.shape
  have HS2 := Lib.hid ((HS1.out.next hb).addDig hl)
  clear hl hb HS1 HU1 HR1
  go_wp2_with fail
  refine (two_any _ _ a b _ (HS2.out.dig _ (.tail _ (.head _))) (HS2.out.dig _ (.head _)) (by omega) (by omega)).mono ?_
  rintro e w3 ⟨vx, vy, rfl, hx, hy, hb⟩
  obtain ⟨xo, xc, rfl, -⟩ := hx.shape
  obtain ⟨yo, yc, rfl, -⟩ := hy.shape
  have hs := ((((HS2.out.next hb).addNum hx).addNum hy).boxed (.slice xo (nd 4294967296 (a)) xc) 28).boxed (.slice yo (nd 4294967296 (b)) yc) 28
  simp only [World.size_alloc] at hs
  have HS3 := Lib.hid hs
  clear hs hb hx hy HS2
  have cx := HS3.out.cell (.tail _ (.head _))
  have cy := HS3.out.cell (.head _)
  go_wp2_with fail
  refine (HNF.out _ _ _ (HS3.out.num _ (.tail _ (.head _))) (HS3.out.num _ (.head _))).mono ?_
  rintro e w4 ⟨rfl, hb⟩
  have hs := (((HS3.out.next hb).addNum (n := 0) (IsN.zero _ _ _ none 0)).boxed2 (.slice none 0 0) (.slice none 0 0) 32)
  have HS4 := Lib.hid hs
  clear hs hb HS3
  clear cx cy
  have hto := FracString_any _ _ 0 0 _ (HS4.out.num _ (.head _)) (HS4.out.num _ (.head _)) (by rw [nd_zero]; omega) (by rw [nd_zero]; omega) HS4.out.env
  rw [show dn 0 = 1 from rfl, fracText_zero] at hto
  have HTO := Lib.hid (hto.mono fun e w' h => And.intro h.1 (HS4.out.next h.2))
  clear hto
  have cf1 := HS4.out.cell (.tail _ (.head _))
  have cf2 := HS4.out.cell (.head _)
  go_wp2_with fail
  refine (HTO.out).mono ?_
  rintro e w5 ⟨rfl, hs⟩
  have HS5 := Lib.hid hs
  clear hs HS4
  clear cf1 cf2 HTO
  go_wp2_with fail
  refine (awake_Q HS5.out).mono ?_
  rintro e w6 ⟨rfl, hs⟩
  have HS6 := Lib.hid hs
  clear hs HS5
  go_wp2
  go_ret
  exact ⟨by simp, HS6.out.bel⟩
theorem natFracs_walk (u0 u1 : Value) (xs0 xs1 : List Nat) (w : World) (hu0 : IsRaw w u0 xs0) (hu1 : IsRaw w u1 xs1) (hl0 : xs0.length ≤ maxLen) (hl1 : xs1.length ≤ maxLen) (he : Env w) :
    Calls Tryd.prog 3 #[u0, u1] w fun e w' => e = .returned (.bool true) ∧ Below w.heap.size w w' := by
  rcases Nat.eq_zero_or_pos (rawN xs1 24) with h | h
  · exact natFracs_zero u0 u1 xs0 xs1 w hu0 hu1 hl0 hl1 h he
  · exact natFracs_pos u0 u1 xs0 xs1 w hu0 hu1 hl0 hl1 h he
end Go.Proofs.YtepjpegfofhipaaDoor
namespace Go.Proofs.YtepjpegfofhipaaDoor
open Go Go.RowKit Gu

theorem own : ownKnob Tryd.prog.godebug = none := by kernel_rfl
theorem env_of_laid {W : World} {l : List (String × DataW Unit)}
    (hl : l.filter (fun x => x.1 == "internal/strconv.uint64pow10") = [("internal/strconv.uint64pow10", Rows.laid_internal_strconv_uint64pow10)]) (h : laidMetH Tryd.prog l W) : Env W := by
  have h1 := h.filter (fun x => x.1 == "internal/strconv.uint64pow10")
  rw [hl, MakeChecks.laidMetH_plain _ _ _ (by kernel_rfl)] at h1
  exact Lib.tabIs_of_head (g := 1) (by kernel_rfl) (by kernel_rfl) Tryd.underlying152 Tryd.underlying88 (by kernel_rfl) (by kernel_rfl) h1
end Go.Proofs.YtepjpegfofhipaaDoor
namespace Go.Proofs.YtepjpegfofhipaaDoor
open Go Go.ChangeShapes Go.WideShapes Go.ChangeAt Go.RowKit Gu

theorem laidOut' : laidOutB Tryd.prog = true := by kernel_rfl
theorem u16_of_wf {n : Int} (h : (Lit.int .u16 n).wf = true) : 0 ≤ n ∧ n ≤ 65535 := by
  simpa [Lit.wf, IntKind.min, IntKind.max, IntKind.signed, IntKind.bits] using h
theorem raw_of {H : Type} {enc : TypeId × Value → H} {W : World} {d : DataW H} {p : List MemPlace} {a0 : Option Addr} {len cap : Nat}
    (h : DataW.Trod enc Tryd.prog W 0 (fun _ => true) true 22 (.slice a0 len cap) d p) : ∃ xs, IsRaw W (.slice a0 len cap) xs ∧ xs.length ≤ maxLen := by
  obtain ⟨fuel, hf⟩ := h
  have c16 : Tryd.prog.cellsOf 67 = 1 := by kernel_rfl
  rcases open_ints Tryd.underlying22 Tryd.underlying67 c16 hf with ⟨hcs, hx⟩ | ⟨a, len', cap', zs, hcs, _, hl, hm, hz, hx, hcell, hwz⟩
  · simp [Value.cells] at hcs
    obtain ⟨rfl, rfl, rfl⟩ := hcs
    exact ⟨[], ⟨Dig.nil _, .inl ⟨rfl, _, _, rfl⟩⟩, by simp⟩
  · simp [Value.cells] at hcs
    obtain ⟨rfl, rfl, rfl⟩ := hcs
    simp only [if_true] at hz
    rcases Nat.eq_zero_or_pos len with h0 | h0
    · subst h0
      exact ⟨[], ⟨Dig.nil _, .inl ⟨rfl, _, _, rfl⟩⟩, by simp⟩
    · obtain ⟨b, o, s⟩ := a
      obtain rfl : s = none := by
        have h1 := hcell 0 (by omega)
        cases s with
        | none => rfl
        | some _ =>
          exfalso
          unfold World.cell? Addr.add at h1
          simp only [if_true] at h1
          split at h1 <;> simp at h1
      have hl' : ((zs.take len).map Int.toNat).length = len := by rw [List.length_map, List.length_take]; omega
      have hget : ∀ i (h : i < ((zs.take len).map Int.toNat).length), ∃ hi : i < zs.length, ((zs.take len).map Int.toNat)[i] = zs[i].toNat := fun i h => ⟨by omega, by simp⟩
      refine ⟨(zs.take len).map Int.toNat, ⟨fun i hi => ?_, .inr ⟨b, o, cap, by rw [hl'], fun i hi => ?_⟩⟩, by omega⟩
      · obtain ⟨hi2, e⟩ := hget i hi
        have := u16_of_wf (hwz _ (List.getElem_mem hi2))
        rw [e]; omega
      · obtain ⟨hi2, e⟩ := hget i hi
        have := u16_of_wf (hwz _ (List.getElem_mem hi2))
        have h1 := hcell i hi2
        rw [add_plain] at h1
        rw [h1, e, List.getD, List.getElem?_eq_getElem hi2, Option.getD_some, Int.toNat_of_nonneg this.1]
end Go.Proofs.YtepjpegfofhipaaDoor
namespace Go.Proofs.YtepjpegfofhipaaDoor
open Go Go.ChangeShapes Go.WideShapes Go.ChangeAt Go.RowKit Gu

set_option maxRecDepth 100000 in
theorem natFracs_lifted (os : Os) (started : os.Started) (H : Type) (enc : TypeId × Value → H) :
    ReturnsInHanded {} Tryd.checked os 3 .any (fun w args => (Rows.natFracsSpec.pre enc Tryd.prog Tryd.f3 [] false w args ∧ laidMetH Tryd.prog Rows.natFracsRow.laid w) ∧ sizedMet enc Tryd.prog Tryd.f3 (OpenSpec.ofChange Rows.natFracsSpec) false w args)
      (Rows.natFracsSpec.post enc Tryd.prog Tryd.f3 false true false false) := by
  refine returnsInHanded_of_change_and (C := Tryd.checked) (X := fun w _ => laidMetH Tryd.prog Rows.natFracsRow.laid w) (fun _ _ _ hh h => h.of_heap hh) own started (by kernel_rfl) Tryd.func3
    (ChangeSpec.witness_shaped (enc := enc) (C := Tryd.checked) (os := os) (X := fun w _ => laidMetH Tryd.prog Rows.natFracsRow.laid w) false (World.laidAll Tryd.prog os Rows.natFracsRow.laid) #[.slice none 0 0, .slice none 0 0] 8 (World.laidAll_os _ _ _)
      (World.shaped_of_ZipB (by kernel_rfl) (by kernel_rfl)) (by kernel_rfl) (by kernel_rfl) (by kernel_rfl)
      (by rw [MakeChecks.laidMetH_plain _ _ _ (by kernel_rfl)]; exact laidMet_laidAll _ (by kernel_rfl) (by kernel_rfl))) ?_
  intro W base args ds gs before hval0 hW _ _ hL _
  have hval : ∀ (j : Nat) t v, Tryd.f3.params[j]? = some t → args[j]? = some v → Value.okWide Tryd.prog W .any base t v := hval0
  have hW' := hW
  obtain ⟨p, q, hA0, hV, rfl, hfz, hnd⟩ := hW
  have hA : DataW.TrodAll enc Tryd.prog W 0 (fun _ => true) true Tryd.f3.params.toList args.toList ds p := hA0
  rw [Tryd.params3] at hA hval
  obtain ⟨v0, v1, d0, d1, p0, p1, rfl, rfl, rfl, h0, h1⟩ := trodAll_two hA
  obtain ⟨rfl, rfl⟩ := trodVars_none hV
  obtain ⟨a0, len0, cap0, rfl⟩ := okWide_slice Tryd.underlying22 (hval 0 22 v0 rfl rfl)
  obtain ⟨a1, len1, cap1, rfl⟩ := okWide_slice Tryd.underlying22 (hval 1 22 v1 rfl rfl)
  obtain ⟨xs0, hraw0, hlen0⟩ := raw_of h0
  obtain ⟨xs1, hraw1, hlen1⟩ := raw_of h1
  clear hA0 hval0
  simp only [List.append_nil] at hW'
  have hlt0 : ∀ x ∈ p0, x.block < W.heap.size := fun x hx => hW'.lt x (by simp [hx])
  have hlt1 : ∀ x ∈ p1, x.block < W.heap.size := fun x hx => hW'.lt x (by simp [hx])
  refine (natFracs_walk _ _ xs0 xs1 W hraw0 hraw1 hlen0 hlen1 (env_of_laid (by rfl) hL)).mono fun e W' ⟨he, hb⟩ => ?_
  subst he
  exact ⟨_, rfl, _, _, _, [], _, [], hW', trodAll_mk1 (shut_bool Tryd.underlying4 _),
    trodAll_mk2 (Below.trod laidOut' (by kernel_rfl) (of_decide_eq_true (by kernel_rfl)) h0 hb hlt0) (Below.trod laidOut' (by kernel_rfl) (of_decide_eq_true (by kernel_rfl)) h1 hb hlt1), rfl, hb.frame _, fun h => by cases h⟩
theorem natFracs_holds : Rows.NatFracsSaid :=
  OpenClaim.holds_of_wide 3 Tryd.f3 rfl rfl rfl rfl rfl rfl rfl ⟨rfl, rfl, rfl, rfl, rfl⟩ rfl rfl rfl rfl rfl (by kernel_rfl) Tryd.func3 (by kernel_rfl)
    (of_decide_eq_true (by kernel_rfl)) (by unfold Func.isWrapper; first | (rw [if_pos (by decide +kernel)]; kernel_rfl) | (rw [if_neg (by decide +kernel)]; exact ⟨rfl, rfl⟩))
    (fun os started H enc _ => natFracs_lifted os started H enc)
theorem natFracs_card_holds : Rows.NatFracsCardSaid :=
  Claim7.holds_tied_plain_at .later [] [.data, .data, .data] true _ false
    natFracs_holds (fun _ h => by cases h) (by kernel_rfl) (fun _ h => by cases h) natFracs_row_tie rfl ⟨rfl, rfl⟩ (by kernel_rfl) rfl
    (fun f fn hf hfn => by
      obtain rfl : f = 3 := Option.some.inj ((show Tryd.prog.funcNamed "guilloche/guillochelaw01.NatFracs" = some 3 by kernel_rfl).symm.trans hf) |>.symm
      obtain rfl : fn = Tryd.f3 := (Option.some.inj (Tryd.func3.symm.trans hfn)).symm
      exact ⟨by kernel_rfl, fun j t ht => by
        rw [Tryd.params3] at ht
        have hm : t ∈ [22, 22] := by simpa using Array.mem_of_getElem? ht
        have hall : ([22, 22].all fun u => !Tryd.prog.wantsStandIn u) = true := by kernel_rfl
        exact (show Tryd.prog.wantsStandIn t = false by simpa using List.all_eq_true.1 hall t hm)⟩)
    (by kernel_rfl)
#print axioms natFracs_card_holds
end Go.Proofs.YtepjpegfofhipaaDoor
