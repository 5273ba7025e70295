/- Contracts and lemmas (several texts merged into one). -/
import Derived.Test.YthafnhjnlfpifaaDoorBKdp5
import Derived.Test.YthafnhjnlfpifaaDoorBKdp4
import Derived.Test.YthafnhjnlfpifaaDoorBKdp2
import Derived.Deep.RegionHeld3
import Derived.Deep.RegionLaw
import Derived.Deep.DeepMust
import Derived.Deep.DeepFit
namespace Go.Proofs.YthafnhjnlfpifaaDoor
open Go Go.RowKit Gu

theorem box_facts {w w' : World} {v u : Value} {T T' : TypeId} (h : Below ((w.alloc (.cells #[v, u] T)).alloc (.cells #[.slice none 0 0, .slice none 0 0] T')).heap.size ((w.alloc (.cells #[v, u] T)).alloc (.cells #[.slice none 0 0, .slice none 0 0] T')) w') :
    w'.cell? ⟨w.heap.size + 1, 0, none⟩ = some (.slice none 0 0) ∧ w'.cell? ⟨w.heap.size + 1, 1, none⟩ = some (.slice none 0 0) ∧ w'.frozen? ⟨w.heap.size + 1, 0, none⟩ = false ∧ w'.frozen? ⟨w.heap.size + 1, 1, none⟩ = false ∧ Below w.heap.size w w' :=
  ⟨(h.cell (p := ⟨w.heap.size + 1, 0, none⟩) (by simp)).trans (World.cell?_alloc_at _ _ _ _ (by simp)), (h.cell (p := ⟨w.heap.size + 1, 1, none⟩) (by simp)).trans (World.cell?_alloc_at _ _ _ _ (by simp)), (h.frozen (p := ⟨w.heap.size + 1, 0, none⟩) (by simp)).trans (World.frozen?_alloc_at _ _ _ _ (by simp)), (h.frozen (p := ⟨w.heap.size + 1, 1, none⟩) (by simp)).trans (World.frozen?_alloc_at _ _ _ _ (by simp)),
    (((Below.refl w.heap.size w).alloc (Nat.le_refl _) (.cells #[v, u] T)).alloc (by simp) (.cells #[.slice none 0 0, .slice none 0 0] T')).trans (h.mono (by simp <;> omega))⟩
set_option maxHeartbeats 1000000 in
theorem Best_low (v u : Value) (n : Int) (a b : Nat) (w : World) (hv : D w v a) (hu : D w u b) (hn : n < 1) :
    Calls Tryd.prog 18 #[.agg #[v, u], .int .i64 n] w fun e w' => e = .returned (.tuple #[.agg #[.slice none 0 0, .slice none 0 0], .int .i64 2]) ∧ Below w.heap.size w w' := by
  have HB : Hid (∀ o1 o2, Below w.heap.size w ((w.alloc o1).alloc o2)) := fun o1 o2 => ((Below.refl _ _).alloc (Nat.le_refl _) _).alloc (by simp) _
  obtain ⟨vo, vc, rfl, -⟩ := hv.shape
  obtain ⟨uo, uc, rfl, -⟩ := hu.shape
  clear hv hu
  go_enter Tryd.func18, Tryd.ntmps18
  go_wp2
  refine bodyPost_ret (v := .tuple #[.agg #[.slice none 0 0, .slice none 0 0], .int .i64 2]) (by simp [results, Tryd.results18, go_sem]) rfl ⟨rfl, HB.out _ _⟩
set_option maxHeartbeats 2000000 in
theorem Best_copy (v u : Value) (n a b : Nat) (w : World) (hv : D w v a) (hu : D w u b) (hn1 : 1 ≤ n) (hn2 : n ≤ 9223372036854775807) (hle : dn b ≤ n) (ha : nd 4294967296 a ≤ 100000) :
    Calls Tryd.prog 18 #[.agg #[v, u], .int .i64 n] w fun e w' => ∃ r s, e = .returned (.tuple #[.agg #[r, s], .int .i64 0]) ∧ D w' r a ∧ D w' s (dn b) ∧ Below w.heap.size w w' := by
  have b2 : ∀ o1 o2, Below w.heap.size w ((w.alloc o1).alloc o2) := fun o1 o2 => ((Below.refl _ _).alloc (Nat.le_refl _) _).alloc (by simp) _
  have hd := nd_le_self16 hn2
  have hd1 := nd_32 hd
  have hd2 : nd 4294967296 (dn b) ≤ 4 := Nat.le_trans (nd_mono (by decide) hle) hd1
  have HT := Lib.hid (fun o1 o2 => terms_any v u a b ((w.alloc o1).alloc o2) (hv.below (b2 o1 o2)) (hu.below (b2 o1 o2)))
  have HA := Lib.hid (fun o1 o2 => hv.below (b2 o1 o2))
  have HDO := Lib.hid (fun W => digitsOf_any n W (by omega))
  have hkk : ¬ (0 : Int) < cmpN ((dn b : Nat) : Int) ((n : Nat) : Int) := by
    rcases Nat.eq_or_lt_of_le hle with h | h
    · rw [cmpN_eq (by omega)]; decide
    · rw [cmpN_lt (by omega)]; decide
  have hk' : cmpN ((dn b : Nat) : Int) ((n : Nat) : Int) ≤ 0 := by omega
  have hnn : ¬ (n : Int) < 1 := by omega
  have hcv : IntKind.u64.wrap (n : Int) = (n : Int) := IntWalk.u64_in _ (by omega)
  obtain ⟨vo, vc, rfl, -⟩ := hv.shape
  obtain ⟨uo, uc, rfl, -⟩ := hu.shape
  have HLE := Lib.hid hle
  clear hv hu b2 hle hkk
  generalize dn b = B at *
  generalize hkd : cmpN ((B : Nat) : Int) ((n : Nat) : Int) = kk at *
  have HKD := Lib.hid hkd
  have HCV := Lib.hid hcv
  clear hkd
  go_enter Tryd.func18, Tryd.ntmps18
  go_wp2_with fail
  refine (HT.out _ _).mono ?_
  rintro e w1 ⟨r, rfl, hr, hb1⟩
  obtain ⟨ro, rc, rfl, -⟩ := hr.shape
  have HB1 := Lib.hid hb1; have HR := Lib.hid hr; have HA1 := Lib.hid ((HA.out _ _).below hb1)
  clear hr hb1
  go_wp2_with fail
  refine (HDO.out _).mono ?_
  rintro e w2 ⟨l, rfl, hl, hb⟩
  obtain ⟨lo, lc, rfl, -⟩ := hl.shape
  have hal : Below w2.heap.size w2 (w2.alloc (.cells #[.slice vo (nd 4294967296 a) vc, .slice ro (nd 4294967296 B) rc] 82)) := (Below.refl _ _).alloc (Nat.le_refl _) _
  have HB2 := Lib.hid ((HB1.out.trans (hb.mono HB1.out.size)).trans (hal.mono (Nat.le_trans HB1.out.size hb.size)))
  have HR2 := Lib.hid ((HR.out.below hb).below hal); have HA2 := Lib.hid ((HA1.out.below hb).below hal)
  have HCM := Lib.hid (compare_any _ _ B n _ HR2.out (hl.below hal) (by omega) (by omega))
  rw [HKD.out] at HCM
  clear hl hb hal HR HA1 HB1
  go_wp2_with fail
  refine HCM.out.mono ?_
  rintro e w3 ⟨rfl, q, rfl⟩
  have HB3 := Lib.hid (below_drewN HB2.out q)
  have HC1 := Lib.hid (clone_any _ a _ (IsN.drewN HA2.out q) (by omega))
  have HR3 := Lib.hid (IsN.drewN HR2.out q)
  go_wp2_with fail
  refine HC1.out.mono ?_
  rintro e w4 ⟨x, rfl, hx, hb⟩
  obtain ⟨xo, xc, rfl, -⟩ := hx.shape
  have HB4 := Lib.hid (HB3.out.trans (hb.mono HB3.out.size)); have HX := Lib.hid hx
  have HC2 := Lib.hid (clone_any _ B w4 (HR3.out.below hb) (by omega))
  clear hx hb
  go_wp2_with fail
  refine HC2.out.mono ?_
  rintro e w5 ⟨y, rfl, hy, hb⟩
  obtain ⟨yo, yc, rfl, -⟩ := hy.shape
  have hB5 := HB4.out.trans (hb.mono HB4.out.size)
  obtain ⟨d0, d1, g0, g1, hbw⟩ := box_facts hB5
  obtain ⟨e1, e2, t0, t1, e3⟩ := two_store (w := w) (B := w.heap.size + 1) (HX.out.below hb) hy d0 d1 hbw (by omega)
  have E1 := Lib.hid e1; have E2 := Lib.hid e2; have E3 := Lib.hid e3; have T0 := Lib.hid t0; have T1 := Lib.hid t1
  clear e1 e2 e3 t0 t1 hB5 hb hy hbw
  go_wp2
  have t0 := T0.out; have t1 := T1.out
  refine bodyPost_ret (v := .tuple #[.agg #[.slice xo (nd 4294967296 a) xc, .slice yo (nd 4294967296 B) yc], .int .i64 0]) (by simp [results, Tryd.results18, go_sem, t0, t1]) rfl ⟨_, _, rfl, E1.out, E2.out, E3.out⟩
set_option maxHeartbeats 2000000 in
theorem Best_near (v u : Value) (n a b : Nat) (w : World) (hv : D w v a) (hu : D w u b) (hn1 : 1 ≤ n) (hn2 : n ≤ 9223372036854775807) (hlt : n < b) (ha0 : 0 < a) (hg : Nat.gcd a b = 1) (ha : nd 4294967296 a ≤ 1000) (hb : nd 4294967296 b ≤ 1000) :
    Calls Tryd.prog 18 #[.agg #[v, u], .int .i64 n] w fun e w' => ∃ r s x y, e = .returned (.tuple #[.agg #[r, s], .int .i64 0]) ∧ D w' r x ∧ D w' s y ∧ IsBest a b n x y ∧ Below w.heap.size w w' := by
  have b2 : ∀ o1 o2, Below w.heap.size w ((w.alloc o1).alloc o2) := fun o1 o2 => ((Below.refl _ _).alloc (Nat.le_refl _) _).alloc (by simp) _
  have hd := nd_le_self16 hn2
  have hd1 := nd_32 hd
  have HT := Lib.hid (fun o1 o2 => terms_pos v u a b ((w.alloc o1).alloc o2) (hv.below (b2 o1 o2)) (hu.below (b2 o1 o2)) (by omega))
  have HA := Lib.hid (fun o1 o2 => hv.below (b2 o1 o2)); have HU := Lib.hid (fun o1 o2 => hu.below (b2 o1 o2))
  have HDO := Lib.hid (fun W => digitsOf_any n W (by omega))
  have hkk : cmpN ((b : Nat) : Int) ((n : Nat) : Int) = 1 := cmpN_gt (by omega)
  have hnn : ¬ (n : Int) < 1 := by omega
  have hcv : IntKind.u64.wrap (n : Int) = (n : Int) := IntWalk.u64_in _ (by omega)
  have HNE := Lib.hid (fun W x y z (h1 : D W x a) (h2 : D W y b) (h3 : D W z n) => nearest_any x y z a b n W h1 h2 h3 (by omega) (by omega) (by omega) ha0 hg hn1 hlt)
  obtain ⟨vo, vc, rfl, -⟩ := hv.shape
  obtain ⟨uo, uc, rfl, -⟩ := hu.shape
  have HKD := Lib.hid hkk
  clear hv hu b2 hkk hg
  go_enter Tryd.func18, Tryd.ntmps18
  go_wp2_with fail
  refine (HT.out _ _).mono ?_
  rintro e w1 ⟨rfl, hb1⟩
  have HB1 := Lib.hid hb1; have HA1 := Lib.hid ((HA.out _ _).below hb1); have HU1 := Lib.hid ((HU.out _ _).below hb1)
  clear hb1
  go_wp2_with fail
  refine (HDO.out _).mono ?_
  rintro e w2 ⟨l, rfl, hl, hb⟩
  obtain ⟨lo, lc, rfl, -⟩ := hl.shape
  obtain ⟨W2, hW2⟩ : ∃ W2 : World, W2 = w2.alloc (.cells #[.slice vo (nd 4294967296 a) vc, .slice uo (nd 4294967296 b) uc] 82) := ⟨_, rfl⟩
  have hal : Below w2.heap.size w2 W2 := by rw [hW2]; exact (Below.refl _ _).alloc (Nat.le_refl _) _
  have HB2 := Lib.hid ((HB1.out.trans (hb.mono HB1.out.size)).trans (hal.mono (Nat.le_trans HB1.out.size hb.size)))
  have HU2 := Lib.hid ((HU1.out.below hb).below hal); have HA2 := Lib.hid ((HA1.out.below hb).below hal); have HL2 := Lib.hid (hl.below hal)
  have HCM := Lib.hid (compare_any _ _ b n _ HU2.out HL2.out (by omega) (by omega))
  rw [HKD.out] at HCM
  have e0 : W2.cell? ⟨w2.heap.size, 0, none⟩ = some (.slice vo (nd 4294967296 a) vc) := by rw [hW2]; exact World.cell?_alloc_at _ _ _ _ rfl
  have e1 : W2.cell? ⟨w2.heap.size, 1, none⟩ = some (.slice uo (nd 4294967296 b) uc) := by rw [hW2]; exact World.cell?_alloc_at _ _ _ _ rfl
  have HE0 := Lib.hid e0; have HE1 := Lib.hid e1; have HW2 := Lib.hid hW2
  clear hl hb hal HA1 HU1 HB1 e0 e1 hW2
  go_wp2_with fail
  rw [← HW2.out]
  refine HCM.out.mono ?_
  rintro e w3 ⟨rfl, q, rfl⟩
  have HB3 := Lib.hid (below_drewN HB2.out q)
  have HN3 := Lib.hid (HNE.out _ _ _ _ (IsN.drewN HA2.out q) (IsN.drewN HU2.out q) (IsN.drewN HL2.out q))
  have e0 := HE0.out; have e1 := HE1.out
  go_wp2_with fail
  refine HN3.out.mono ?_
  rintro e w4 ⟨x, y, xn, yn, rfl, hx, hy, hbest, hb⟩
  obtain ⟨xo, xc, rfl, -⟩ := hx.shape
  obtain ⟨yo, yc, rfl, -⟩ := hy.shape
  have hal : Below w4.heap.size w4 (w4.alloc (.cells #[.slice xo (nd 4294967296 xn) xc, .slice yo (nd 4294967296 yn) yc] 82)) := (Below.refl _ _).alloc (Nat.le_refl _) _
  have hB4 := (HB3.out.trans (hb.mono HB3.out.size)).trans (hal.mono (Nat.le_trans HB3.out.size hb.size))
  obtain ⟨d0, d1, g0, g1, hbw⟩ := box_facts hB4
  obtain ⟨e1, e2, t0, t1, e3⟩ := two_store (w := w) (B := w.heap.size + 1) (hx.below hal) (hy.below hal) d0 d1 hbw (by omega)
  have E1 := Lib.hid e1; have E2 := Lib.hid e2; have E3 := Lib.hid e3; have T0 := Lib.hid t0; have T1 := Lib.hid t1; have HBE := Lib.hid hbest
  clear e1 e2 e3 t0 t1 hB4 hb hy hx hbw hal hbest e0
  go_wp2
  have t0 := T0.out; have t1 := T1.out
  refine bodyPost_ret (v := .tuple #[.agg #[.slice xo (nd 4294967296 xn) xc, .slice yo (nd 4294967296 yn) yc], .int .i64 0]) (by simp [results, Tryd.results18, go_sem, t0, t1]) rfl ⟨_, _, _, _, rfl, E1.out, E2.out, HBE.out, E3.out⟩
end Go.Proofs.YthafnhjnlfpifaaDoor
namespace Go.Proofs.YthafnhjnlfpifaaDoor
open Go Go.RowKit Gu

/-- what an operation on fractions gives: the quotient of L by M in lowest terms, or ErrRange -/
def FRes (L M : Nat) (w' : World) (e : Ending) (B : Nat) (w : World) : Prop :=
  ∃ r s, e = .returned (.tuple #[.agg #[r, s], .int .i64 (ffE (lowP L M) (lowQ L M))]) ∧ D w' r (ffN (lowP L M) (lowQ L M) (lowP L M)) ∧ D w' s (ffN (lowP L M) (lowQ L M) (lowQ L M)) ∧ Below B w w'
theorem nd_dmul {b d : Nat} (hb : nd 4294967296 b ≤ 100000) (hd : nd 4294967296 d ≤ 100000) : nd 4294967296 (dn b * dn d) ≤ 200000 := nd_mul (dn_nd hb (by decide)) (dn_nd hd (by decide))
set_option maxHeartbeats 2000000 in
theorem FAdd_any (v u x y : Value) (a b c d : Nat) (w : World) (hv : D w v a) (hu : D w u b) (hx : D w x c) (hy : D w y d) (ha : nd 4294967296 a ≤ 100000) (hb : nd 4294967296 b ≤ 100000) (hc : nd 4294967296 c ≤ 100000) (hd : nd 4294967296 d ≤ 100000) :
    Calls Tryd.prog 17 #[.agg #[v, u], .agg #[x, y]] w fun e w' => FRes (a * dn d + c * dn b) (dn b * dn d) w' e w.heap.size w := by
  have b3 : ∀ o1 o2 o3, Below w.heap.size w (((w.alloc o1).alloc o2).alloc o3) := fun o1 o2 o3 => (((Below.refl _ _).alloc (Nat.le_refl _) _).alloc (by simp) _).alloc (by simp; omega) _
  have HCR := Lib.hid (fun o1 o2 o3 => crossed_any v u x y a b c d (((w.alloc o1).alloc o2).alloc o3) (hv.below (b3 o1 o2 o3)) (hu.below (b3 o1 o2 o3)) (hx.below (b3 o1 o2 o3)) (hy.below (b3 o1 o2 o3)) ha hb hc hd)
  have h1 := nd_mul ha (dn_nd hd (by decide))
  have h2 := nd_mul hc (dn_nd hb (by decide))
  have h3 := nd_add h1 h2
  have h4 := nd_dmul hb hd
  have h5 : 0 < dn b * dn d := Nat.mul_pos (dn_pos b) (dn_pos d)
  have HSU := Lib.hid (fun v u W (h : D W v (a * dn d)) (h' : D W u (c * dn b)) => sum_any v u _ _ W h h' (by omega) (by omega))
  have HFF := Lib.hid (fun v u W (h : D W v (a * dn d + c * dn b)) (h' : D W u (dn b * dn d)) => fittingFrac_any v u _ _ W h h' h5 (by omega) (by omega))
  have HB := Lib.hid b3
  obtain ⟨ao, ac, rfl, -⟩ := hv.shape
  obtain ⟨bo, bc, rfl, -⟩ := hu.shape
  obtain ⟨co, cc, rfl, -⟩ := hx.shape
  obtain ⟨eo, ec, rfl, -⟩ := hy.shape
  clear hv hu hx hy b3 h1 h2 h3 h4 h5
  unfold FRes
  generalize a * dn d = L1 at *
  generalize c * dn b = L2 at *
  generalize L1 + L2 = L at *
  generalize dn b * dn d = M at *
  generalize ffE (lowP L M) (lowQ L M) = E at *
  generalize ffN (lowP L M) (lowQ L M) (lowP L M) = X at *
  generalize ffN (lowP L M) (lowQ L M) (lowQ L M) = Y at *
  go_enter Tryd.func17, Tryd.ntmps17
  go_wp2_with fail
  refine (HCR.out _ _ _).mono ?_
  rintro e w1 ⟨r1, r2, r3, rfl, hr1, hr2, hr3, hb1⟩
  have HB1 := Lib.hid hb1; have HR3 := Lib.hid hr3
  have HS1 := Lib.hid (HSU.out _ _ _ hr1 hr2)
  clear hb1 hr1 hr2 hr3
  go_wp2_with fail
  refine HS1.out.mono ?_
  rintro e w2 ⟨s1, rfl, hs1, hb2⟩
  have HB2 := Lib.hid (HB1.out.trans (hb2.mono HB1.out.size))
  have HF1 := Lib.hid (HFF.out _ _ _ hs1 (HR3.out.below hb2))
  clear hs1 hb2
  go_wp2_with fail
  refine HF1.out.mono ?_
  rintro e w3 ⟨r, s, rfl, hr, hs, hb3⟩
  have hbt := HB2.out.trans (hb3.mono HB2.out.size)
  clear hb3
  obtain ⟨ro, rc, rfl, -⟩ := hr.shape
  obtain ⟨so, sc, rfl, -⟩ := hs.shape
  have d0 : w3.cell? ⟨w.heap.size + 1 + 1, 0, none⟩ = some (.slice none 0 0) := (hbt.cell (p := ⟨w.heap.size + 1 + 1, 0, none⟩) (by simp)).trans (World.cell?_alloc_at _ _ _ _ (by simp))
  have g0 : w3.frozen? ⟨w.heap.size + 1 + 1, 0, none⟩ = false := (hbt.frozen (p := ⟨w.heap.size + 1 + 1, 0, none⟩) (by simp)).trans (World.frozen?_alloc_at _ _ _ _ (by simp))
  have d1 : w3.cell? ⟨w.heap.size + 1 + 1, 1, none⟩ = some (.slice none 0 0) := (hbt.cell (p := ⟨w.heap.size + 1 + 1, 1, none⟩) (by simp)).trans (World.cell?_alloc_at _ _ _ _ (by simp))
  have g1 : w3.frozen? ⟨w.heap.size + 1 + 1, 1, none⟩ = false := (hbt.frozen (p := ⟨w.heap.size + 1 + 1, 1, none⟩) (by simp)).trans (World.frozen?_alloc_at _ _ _ _ (by simp))
  have HTS := Lib.hid (two_store (B := w.heap.size + 1 + 1) hr hs d0 d1 ((HB.out _ _ _).trans (hbt.mono (HB.out _ _ _).size)) (by omega))
  clear hr hs hbt
  go_wp2
  obtain ⟨z1, z2, z3, z4, z5⟩ := HTS.out
  refine bodyPost_ret (v := .tuple #[.agg #[.slice ro (nd 4294967296 (X)) rc, .slice so (nd 4294967296 (Y)) sc], .int .i64 (E)]) (by simp [results, Tryd.results17, go_sem, z3, z4]) rfl ⟨_, _, rfl, z1, z2, z5⟩
end Go.Proofs.YthafnhjnlfpifaaDoor
namespace Go.Proofs.YthafnhjnlfpifaaDoor
open Go Go.RowKit Gu

/-- any digit of a buffer is stored anew -/
theorem Buf.at {k : IntKind} {B : Nat} {T : TypeId} {w : World} {g m V : Nat} (h : Buf k B T w g m V) (hB : 0 < B) (j : Nat) {d : Nat} (hd : d < B) :
    Buf k B T (w.setCell ⟨g, j, none⟩ (.int k d)) g m (V % B ^ j + B ^ j * (d + B * (V / B ^ (j + 1)))) := by
  have e : V = V % B ^ j + B ^ j * (dg B V j + B * (V / B ^ (j + 1))) := by
    rw [← div_succ]; exact (Nat.mod_add_div _ _).symm
  rw [e] at h
  exact Buf.set h hB (Nat.mod_lt _ (Nat.pow_pos hB)) (dg_lt hB _ _) hd
/-- .. and what the number is then -/
theorem at_val {B V j d : Nat} : V % B ^ j + B ^ j * (d + B * (V / B ^ (j + 1))) + B ^ j * dg B V j = V + B ^ j * d := by
  have e : V = V % B ^ j + B ^ j * (dg B V j + B * (V / B ^ (j + 1))) := by
    rw [← div_succ]; exact (Nat.mod_add_div _ _).symm
  have e2 : B ^ j * (d + B * (V / B ^ (j + 1))) = B ^ j * d + B ^ j * (B * (V / B ^ (j + 1))) := Nat.mul_add _ _ _
  have e3 : B ^ j * (dg B V j + B * (V / B ^ (j + 1))) = B ^ j * dg B V j + B ^ j * (B * (V / B ^ (j + 1))) := Nat.mul_add _ _ _
  omega
/-- one round of the inner loop -/
theorem mulr_round {B V c i k P a b d q : Nat} (h : V + B ^ (i + k) * c = P + B ^ i * (a * (b % B ^ k))) (hd : d + B * q = c + dg B V (i + k) + a * dg B b k) :
    (V % B ^ (i + k) + B ^ (i + k) * (d + B * (V / B ^ (i + k + 1)))) + B ^ (i + (k + 1)) * q = P + B ^ i * (a * (b % B ^ (k + 1))) := by
  have e := at_val (B := B) (V := V) (j := i + k) (d := d)
  have e1 : B ^ (i + k) * (d + B * q) = B ^ (i + k) * (c + dg B V (i + k) + a * dg B b k) := by rw [hd]
  rw [mod_succ]
  have e2 : B ^ i * (a * (b % B ^ k + B ^ k * dg B b k)) = B ^ i * (a * (b % B ^ k)) + B ^ (i + k) * (a * dg B b k) := by
    rw [Nat.mul_add a, Nat.mul_add (B ^ i), Nat.pow_add, Nat.mul_assoc (B ^ i), Nat.mul_left_comm a]
  have e3 : B ^ (i + (k + 1)) * q = B ^ (i + k) * (B * q) := by rw [← Nat.add_assoc, Nat.pow_succ, Nat.mul_assoc]
  rw [e2, e3]
  rw [Nat.mul_add, Nat.mul_add, Nat.mul_add] at e1
  omega
/-- what the outer loop keeps -/
def MulRel (a b m : Nat) (w : World) (i : Nat) (wr : World) : Prop :=
  Buf .i64 65536 3 wr w.heap.size m ((a % 65536 ^ i) * b) ∧ Below w.heap.size w wr
/-- what the inner loop keeps -/
def RowIn (a b da m : Nat) (w : World) (i k c : Nat) (wr : World) : Prop :=
  c < 65536 ∧ ∃ V, V + 65536 ^ (i + k) * c = (a % 65536 ^ i) * b + 65536 ^ i * (da * (b % 65536 ^ k)) ∧ Buf .i64 65536 3 wr w.heap.size m V ∧ Below w.heap.size w wr
theorem RowIn.next {a b da m : Nat} {w : World} {i k c q : Nat} {wr : World} {V : Nat} (h1 : V + 65536 ^ (i + k) * c = (a % 65536 ^ i) * b + 65536 ^ i * (da * (b % 65536 ^ k))) (h2 : Buf .i64 65536 3 wr w.heap.size m V) (h3 : Below w.heap.size w wr)
    (hc : c < 65536) (ha : da < 65536) (n : Nat) (ht : q = c + dg 65536 V (i + k) + da * dg 65536 b k) : RowIn a b da m w i (k + 1) (q / 65536) ((wr.drewN n).setCell ⟨w.heap.size, i + k, none⟩ (.int .i64 (q % 65536 : Nat))) := by
  have hv := dg_lt (B := 65536) (by decide) V (i + k)
  have hb := dg_lt (B := 65536) (by decide) b k
  have hm : da * dg 65536 b k ≤ 65535 * 65535 := Nat.mul_le_mul (by omega) (by omega)
  refine ⟨by omega, _, mulr_round h1 (show q % 65536 + 65536 * (q / 65536) = _ by rw [Nat.mod_add_div]; exact ht), Buf.at (w := wr.drewN n) h2 (by decide) _ (Nat.mod_lt _ (by decide)), (below_drewN h3 n).setCell (Nat.le_refl _) _⟩
/-- where the inner loop ends, and that it stays inside the row -/
theorem row_in {a b da m : Nat} {w : World} {i k c : Nat} {wr : World} (h : RowIn a b da m w i k c wr) {lb : Nat} (hb : b < 65536 ^ lb) (hda : da < 65536) (hk : lb ≤ k) (hc : 0 < c) : k = lb := by
  obtain ⟨-, V, hV, -, -⟩ := h
  rcases Nat.lt_or_ge lb k with h1 | h1
  · exfalso
    have h2 : 65536 ^ (i + k) ≤ 65536 ^ (i + k) * c := Nat.le_mul_of_pos_right _ hc
    have h3 : (a % 65536 ^ i) * b ≤ 65536 ^ i * b := Nat.mul_le_mul_right _ (Nat.le_of_lt (Nat.mod_lt _ (Nat.pow_pos (by decide))))
    have h4 : 65536 ^ i * (da * (b % 65536 ^ k)) ≤ 65536 ^ i * (65535 * b) := Nat.mul_le_mul_left _ (Nat.mul_le_mul (by omega) (Nat.mod_le _ _))
    have h5 : 65536 ^ i * (65536 * b) < 65536 ^ i * (65536 * 65536 ^ lb) := Nat.mul_lt_mul_of_pos_left (Nat.mul_lt_mul_of_pos_left hb (by decide)) (Nat.pow_pos (by decide))
    have h6 : 65536 ^ i * (65536 * 65536 ^ lb) ≤ 65536 ^ (i + k) := by
      rw [Nat.mul_comm 65536, ← Nat.pow_succ, ← Nat.pow_add]
      exact Nat.pow_le_pow_right (by decide) (by omega)
    have h7 : 65536 ^ i * (65536 * b) = 65536 ^ i * b + 65536 ^ i * (65535 * b) := by
      rw [← Nat.mul_add]; congr 1; omega
    omega
  · omega
theorem RowIn.done {a b m : Nat} {w : World} {i k : Nat} {wr : World} {lb : Nat} (h : RowIn a b (dg 65536 a i) m w i k 0 wr) (hb : b < 65536 ^ lb) (hk : lb ≤ k) : MulRel a b m w (i + 1) wr := by
  obtain ⟨-, V, hV, h1, h2⟩ := h
  have hbk : b % 65536 ^ k = b := Nat.mod_eq_of_lt (Nat.lt_of_lt_of_le hb (Nat.pow_le_pow_right (by decide) hk))
  rw [hbk, Nat.mul_zero, Nat.add_zero] at hV
  refine ⟨?_, h2⟩
  rw [mod_succ, Nat.add_mul, Nat.mul_assoc, ← hV]
  exact h1
end Go.Proofs.YthafnhjnlfpifaaDoor
namespace Go.Proofs.YthafnhjnlfpifaaDoor
open Go Go.RowKit Gu

set_option maxHeartbeats 400000 in
theorem NMul_any (v u : Value) (a b : Nat) (w : World) (hv : D w v a) (hu : D w u b) (ha : nd 4294967296 a ≤ 500000) (hb : nd 4294967296 b ≤ 500000) :
    Calls Tryd.prog 8 #[.agg #[v], .agg #[u]] w fun e w' => ∃ r, e = .returned (.tuple #[.agg #[r], .int .i64 (fitE (a * b))]) ∧ D w' r (fitN (a * b)) ∧ Below w.heap.size w w' := by
  have hnd := nd_mul ha hb
  have b3 : ∀ o1 o2 o3, Below w.heap.size w (((w.alloc o1).alloc o2).alloc o3) := fun o1 o2 o3 => (((Below.refl _ _).alloc (Nat.le_refl _) _).alloc (by simp) _).alloc (by simp; omega) _
  have HS := Lib.hid (fun o1 o2 o3 => product_any v u a b (((w.alloc o1).alloc o2).alloc o3) (hv.below (b3 o1 o2 o3)) (hu.below (b3 o1 o2 o3)) (by omega) (by omega))
  have HB3 := Lib.hid b3
  obtain ⟨ao, ac, rfl, -⟩ := hv.shape
  obtain ⟨bo, bc, rfl, -⟩ := hu.shape
  clear hv hu b3
  go_enter Tryd.func8, Tryd.ntmps8
  go_wp2_with fail
  refine (HS.out _ _ _).mono ?_
  rintro e w1 ⟨r, rfl, hr, hbel⟩
  have HF := Lib.hid (fitting_any r (a * b) w1 hr (by omega))
  clear hr
  obtain ⟨hc, hf⟩ := bcell hbel
  have HB1 := Lib.hid hbel
  have hz := hbel.size
  simp only [World.size_alloc] at hz
  clear hbel
  go_wp2_with fail
  refine HF.out.mono ?_
  rintro e w2 ⟨r2, rfl, hr2, hbel2⟩
  obtain ⟨hc2, hf2⟩ := bcell hbel2
  obtain ⟨ro, rc, rfl, -⟩ := hr2.shape
  have HB2 := Lib.hid hbel2
  have HR2 := Lib.hid hr2
  have hz2 := hbel2.size
  clear hbel2 hr2
  have hcell : w2.cell? ⟨w.heap.size + 1 + 1, 0, none⟩ = some (.slice none 0 0) := by
    rw [hc2 _ _ (by omega), hc _ _ (by simp)]
    exact World.cell?_alloc_at _ _ _ _ (by simp)
  have hfr : w2.frozen? ⟨w.heap.size + 1 + 1, 0, none⟩ = false := by
    rw [hf2 _ _ (by omega), hf _ _ (by simp)]
    exact World.frozen?_alloc_at _ _ _ _ (by simp)
  have HCE := Lib.hid hcell
  clear hc hf hc2 hf2
  go_wp2
  refine bodyPost_ret (v := .tuple #[.agg #[.slice ro (nd 4294967296 (fitN (a * b))) rc], .int .i64 (fitE (a * b))]) (by simp [results, Tryd.results8, go_sem, hcell]) rfl ⟨_, rfl, HR2.out.setCell HCE.out (by intro d h; cases h) _, ?_⟩
  exact (((HB3.out _ _ _).trans (HB1.out.mono (by simp; omega))).trans (HB2.out.mono (by omega))).setCell (by show w.heap.size ≤ w.heap.size + 1 + 1; omega) _
theorem nd_rmul {a b m k : Nat} (ha : nd 65536 a ≤ m) (hb : nd 65536 b ≤ k) : nd 65536 (a * b) ≤ m + k := by
  have h1 := (nd_le (by decide : 2 ≤ 65536)).1 ha
  have h2 := (nd_le (by decide : 2 ≤ 65536)).1 hb
  apply (nd_le (by decide : 2 ≤ 65536)).2
  rw [Nat.pow_add]
  exact Nat.mul_lt_mul_of_lt_of_le h1 (Nat.le_of_lt h2) (Nat.pow_pos (by decide))
end Go.Proofs.YthafnhjnlfpifaaDoor
namespace Go.Proofs.YthafnhjnlfpifaaDoor
open Go Go.RowKit Gu

/-- a fraction whose denominator is at most L is its own best approximation -/
theorem best_self {p q L : Nat} (hq : 0 < q) (hqL : q ≤ L) (hg : Nat.gcd p q = 1) : IsBest p q L p q := by
  have e0 : gapN p q p q = 0 := by unfold gapN; split <;> omega
  refine ⟨hq, hqL, hg, fun c d hd hdL => ?_⟩
  rw [e0, Nat.zero_mul]
  refine ⟨Nat.zero_le _, fun he => ?_⟩
  have h1 : gapN p q c d = 0 := by
    rcases Nat.eq_zero_or_pos (gapN p q c d) with h | h
    · exact h
    · have := Nat.mul_pos h hq; omega
  have h2 : p * d = c * q := by
    unfold gapN at h1
    split at h1 <;> omega
  obtain ⟨h3, h4⟩ := same_frac hg hq hd h2
  rcases Nat.lt_or_ge q d with h5 | h5
  · exact .inl h5
  · exact .inr ⟨by omega, Nat.le_of_eq (h4 (by omega))⟩
theorem Best_all (v u : Value) (n a b : Nat) (w : World) (hv : D w v a) (hu : D w u b) (hn1 : 1 ≤ n) (hn2 : n ≤ 9223372036854775807) (hb0 : 0 < b) (hg : Nat.gcd a b = 1) (ha : nd 4294967296 a ≤ 1000) (hb : nd 4294967296 b ≤ 1000) :
    Calls Tryd.prog 18 #[.agg #[v, u], .int .i64 n] w fun e w' => ∃ r s x y, e = .returned (.tuple #[.agg #[r, s], .int .i64 0]) ∧ D w' r x ∧ D w' s y ∧ IsBest a b n x y ∧ Below w.heap.size w w' := by
  rcases Nat.lt_or_ge n b with h | h
  · have ha0 : 0 < a := by
      rcases Nat.eq_zero_or_pos a with h0 | h0
      · subst h0; rw [Nat.gcd_zero_left] at hg; omega
      · exact h0
    exact Best_near v u n a b w hv hu hn1 hn2 h ha0 hg ha hb
  · have hc := Best_copy v u n a b w hv hu hn1 hn2 (by rw [dn_of hb0]; exact h) (by omega)
    rw [dn_of hb0] at hc
    exact hc.mono fun e w' ⟨r, s, he, hr, hs, hB⟩ => ⟨r, s, a, b, he, hr, hs, best_self hb0 h hg, hB⟩
theorem sub_fit {L M : Nat} (h1 : nd 65536 L ≤ 100) (h2 : nd 65536 M ≤ 100) : ffE (lowP L M) (lowQ L M) = 0 ∧ ffN (lowP L M) (lowQ L M) (lowP L M) = lowP L M ∧ ffN (lowP L M) (lowQ L M) (lowQ L M) = lowQ L M := by
  have e1 := fit_ok (Nat.le_trans (nd_mono (B := 65536) (by decide) (show lowP L M ≤ L from Nat.div_le_self _ _)) (Nat.le_trans h1 (by decide)))
  have e2 := fit_ok (Nat.le_trans (nd_mono (B := 65536) (by decide) (show lowQ L M ≤ M from Nat.div_le_self _ _)) (Nat.le_trans h2 (by decide)))
  exact ⟨if_pos ⟨e1, e2⟩, if_pos ⟨e1, e2⟩, if_pos ⟨e1, e2⟩⟩
end Go.Proofs.YthafnhjnlfpifaaDoor
namespace Go.Proofs.YthafnhjnlfpifaaDoor
open Go Go.RowKit Gu

theorem nd_two_up {a m : Nat} (ha : nd 2 a ≤ m) : nd 4294967296 a ≤ m := by
  have h1 := (nd_le (by decide : 2 ≤ 2)).1 ha
  exact (nd_le (by decide : 2 ≤ 4294967296)).2 (Nat.lt_of_lt_of_le h1 (Nat.pow_le_pow_left (by decide) _))
set_option maxHeartbeats 1000000 in
theorem Rsh_neg (v : Value) (a : Nat) (n : Int) (w : World) (hv : D w v a) (hn : n < 0) :
    Calls Tryd.prog 12 #[.agg #[v], .int .i64 n] w fun e w' => e = .returned (.tuple #[.agg #[.slice none 0 0], .int .i64 2]) ∧ Below w.heap.size w w' := by
  have b2 : ∀ o1 o2, Below w.heap.size w ((w.alloc o1).alloc o2) := fun o1 o2 => ((Below.refl _ _).alloc (Nat.le_refl _) _).alloc (by simp) _
  have HB2 := Lib.hid b2
  obtain ⟨ao, ac, rfl, -⟩ := hv.shape
  clear hv b2
  go_enter Tryd.func12, Tryd.ntmps12
  go_wp2
  refine bodyPost_ret (v := .tuple #[.agg #[.slice none 0 0], .int .i64 2]) (by simp [results, Tryd.results12, go_sem]) rfl ⟨rfl, HB2.out _ _⟩
set_option maxHeartbeats 1000000 in
theorem Lsh_neg (v : Value) (a : Nat) (n : Int) (w : World) (hv : D w v a) (hn : n < 0) :
    Calls Tryd.prog 11 #[.agg #[v], .int .i64 n] w fun e w' => e = .returned (.tuple #[.agg #[.slice none 0 0], .int .i64 2]) ∧ Below w.heap.size w w' := by
  have b2 : ∀ o1 o2, Below w.heap.size w ((w.alloc o1).alloc o2) := fun o1 o2 => ((Below.refl _ _).alloc (Nat.le_refl _) _).alloc (by simp) _
  have HB2 := Lib.hid b2
  obtain ⟨ao, ac, rfl, -⟩ := hv.shape
  clear hv b2
  go_enter Tryd.func11, Tryd.ntmps11
  go_wp2
  refine bodyPost_ret (v := .tuple #[.agg #[.slice none 0 0], .int .i64 2]) (by simp [results, Tryd.results11, go_sem]) rfl ⟨rfl, HB2.out _ _⟩
set_option maxHeartbeats 1000000 in
theorem Rsh_any (v : Value) (a n : Nat) (w : World) (hv : D w v a) (ha : nd 4294967296 a ≤ 400000) (hn : n ≤ 9223372036854775807) :
    Calls Tryd.prog 12 #[.agg #[v], .int .i64 n] w fun e w' => ∃ r, e = .returned (.tuple #[.agg #[r], .int .i64 0]) ∧ D w' r (a / 2 ^ n) ∧ Below w.heap.size w w' := by
  have b2 : ∀ o1 o2, Below w.heap.size w ((w.alloc o1).alloc o2) := fun o1 o2 => ((Below.refl _ _).alloc (Nat.le_refl _) _).alloc (by simp) _
  have HS := Lib.hid (fun o1 o2 => shiftRight_any v a n ((w.alloc o1).alloc o2) (hv.below (b2 o1 o2)) (by omega) hn)
  have HB2 := Lib.hid b2
  obtain ⟨ao, ac, rfl, -⟩ := hv.shape
  clear hv b2
  obtain ⟨q, hq⟩ : ∃ q, q = a / 2 ^ n := ⟨_, rfl⟩
  have HQ := Lib.hid hq
  rw [← hq] at HS
  clear hq
  have hn0 : ¬ ((n : Int) < 0) := by omega
  go_enter Tryd.func12, Tryd.ntmps12
  go_wp2_with fail
  refine (HS.out _ _).mono ?_
  rintro e w2 ⟨rv, rfl, hr, hbel⟩
  obtain ⟨ro, rc, rfl, -⟩ := hr.shape
  have hcell : w2.cell? ⟨w.heap.size + 1, 0, none⟩ = some (.slice none 0 0) := (hbel.cell (p := ⟨w.heap.size + 1, 0, none⟩) (by simp)).trans (World.cell?_alloc_at _ _ _ _ (by simp))
  have hfr : w2.frozen? ⟨w.heap.size + 1, 0, none⟩ = false := (hbel.frozen (p := ⟨w.heap.size + 1, 0, none⟩) (by simp)).trans (World.frozen?_alloc_at _ _ _ _ (by simp))
  have HR := Lib.hid hr
  have HCE := Lib.hid hcell
  have HBE := Lib.hid ((HB2.out _ _).trans (hbel.mono (HB2.out _ _).size))
  clear hr hbel
  go_wp2
  refine bodyPost_ret (v := .tuple #[.agg #[.slice ro (nd 4294967296 q) rc], .int .i64 0]) (by simp [results, Tryd.results12, go_sem, hcell]) rfl ⟨_, rfl, by rw [← HQ.out]; exact HR.out.setCell HCE.out (by intro d h; cases h) _, HBE.out.setCell (by show w.heap.size ≤ w.heap.size + 1; omega) _⟩
def lshE (a n : Nat) : Int := if a = 0 then 0 else if n + nd 2 a ≤ 16384 then 0 else 3
def lshN (a n : Nat) : Nat := if n + nd 2 a ≤ 16384 then a * 2 ^ n else 0
set_option maxHeartbeats 1000000 in
theorem Lsh_any (v : Value) (a n : Nat) (w : World) (hv : D w v a) (ha : nd 2 a ≤ 16384) (hn : n ≤ 9223372036854775807) :
    Calls Tryd.prog 11 #[.agg #[v], .int .i64 n] w fun e w' => ∃ r, e = .returned (.tuple #[.agg #[r], .int .i64 (lshE a n)]) ∧ D w' r (lshN a n) ∧ Below w.heap.size w w' := by
  have ha32 : nd 4294967296 a ≤ 16384 := by
    exact nd_two_up ha
  have b2 : ∀ o1 o2, Below w.heap.size w ((w.alloc o1).alloc o2) := fun o1 o2 => ((Below.refl _ _).alloc (Nat.le_refl _) _).alloc (by simp) _
  have HZ := Lib.hid (fun o1 o2 => isZero_any v a ((w.alloc o1).alloc o2) (hv.below (b2 o1 o2)))
  have HBL := Lib.hid (fun o1 o2 => bitLen_any v a ((w.alloc o1).alloc o2) (hv.below (b2 o1 o2)) (by omega))
  have hn0 : ¬ ((n : Int) < 0) := by omega
  by_cases h0 : a = 0
  · have HE : Hid (lshE a n = 0 ∧ lshN a n = 0) := ⟨if_pos h0, by unfold lshN; split <;> simp [h0]⟩
    rw [show decide (a = 0) = true from by simp [h0]] at HZ
    have HB2 := Lib.hid b2
    obtain ⟨ao, ac, rfl, -⟩ := hv.shape
    clear hv b2 h0 HBL ha ha32
    generalize nd 4294967296 a = la at *
    go_enter Tryd.func11, Tryd.ntmps11
    go_wp2_with fail
    refine (HZ.out _ _).mono ?_
    rintro e w1 ⟨rfl, rfl⟩
    go_wp2
    refine bodyPost_ret (v := .tuple #[.agg #[.slice none 0 0], .int .i64 0]) (by simp [results, Tryd.results11, go_sem]) rfl ⟨_, by rw [HE.out.1], by rw [HE.out.2]; exact IsN.zero _ _ _ _ _, HB2.out _ _⟩
  · rw [show decide (a = 0) = false from by simp [h0]] at HZ
    have HB2 := Lib.hid b2
    by_cases hf : n + nd 2 a ≤ 16384
    · have HE : Hid (lshE a n = 0 ∧ lshN a n = a * 2 ^ n) := ⟨by unfold lshE; rw [if_neg h0, if_pos hf], if_pos hf⟩
      have HS := Lib.hid (fun o1 o2 => shiftLeft_any v a n ((w.alloc o1).alloc o2) (hv.below (b2 o1 o2)) (by omega) (by omega))
      have hcmp : ¬ ((16384 : Int) - ((nd 2 a : Nat) : Int) < n) := by omega
      obtain ⟨ao, ac, rfl, -⟩ := hv.shape
      clear hv b2
      obtain ⟨q, hq⟩ : ∃ q, q = a * 2 ^ n := ⟨_, rfl⟩
      have HQ := Lib.hid hq
      rw [← hq] at HS
      clear hq h0
      generalize nd 2 a = bl at *
      go_enter Tryd.func11, Tryd.ntmps11
      go_wp2_with fail
      refine (HZ.out _ _).mono ?_
      rintro e w1 ⟨rfl, rfl⟩
      go_wp2_with fail
      refine (HBL.out _ _).mono ?_
      rintro e w1 ⟨rfl, rfl⟩
      go_wp2_with fail
      refine (HS.out _ _).mono ?_
      rintro e w2 ⟨rv, rfl, hr, hbel⟩
      obtain ⟨ro, rc, rfl, -⟩ := hr.shape
      have hcell : w2.cell? ⟨w.heap.size + 1, 0, none⟩ = some (.slice none 0 0) := (hbel.cell (p := ⟨w.heap.size + 1, 0, none⟩) (by simp)).trans (World.cell?_alloc_at _ _ _ _ (by simp))
      have hfr : w2.frozen? ⟨w.heap.size + 1, 0, none⟩ = false := (hbel.frozen (p := ⟨w.heap.size + 1, 0, none⟩) (by simp)).trans (World.frozen?_alloc_at _ _ _ _ (by simp))
      have HR := Lib.hid hr
      have HCE := Lib.hid hcell
      have HBE := Lib.hid ((HB2.out _ _).trans (hbel.mono (HB2.out _ _).size))
      clear hr hbel
      go_wp2
      refine bodyPost_ret (v := .tuple #[.agg #[.slice ro (nd 4294967296 q) rc], .int .i64 0]) (by simp [results, Tryd.results11, go_sem, hcell]) rfl ⟨_, by rw [HE.out.1], by rw [HE.out.2, ← HQ.out]; exact HR.out.setCell HCE.out (by intro d h; cases h) _, HBE.out.setCell (by show w.heap.size ≤ w.heap.size + 1; omega) _⟩
    · have HE : Hid (lshE a n = 3 ∧ lshN a n = 0) := ⟨by unfold lshE; rw [if_neg h0, if_neg hf], if_neg hf⟩
      have hcmp : (16384 : Int) - ((nd 2 a : Nat) : Int) < n := by omega
      obtain ⟨ao, ac, rfl, -⟩ := hv.shape
      clear hv b2 h0
      generalize nd 2 a = bl at *
      go_enter Tryd.func11, Tryd.ntmps11
      go_wp2_with fail
      refine (HZ.out _ _).mono ?_
      rintro e w1 ⟨rfl, rfl⟩
      go_wp2_with fail
      refine (HBL.out _ _).mono ?_
      rintro e w1 ⟨rfl, rfl⟩
      go_wp2
      refine bodyPost_ret (v := .tuple #[.agg #[.slice none 0 0], .int .i64 3]) (by simp [results, Tryd.results11, go_sem]) rfl ⟨_, by rw [HE.out.1], by rw [HE.out.2]; exact IsN.zero _ _ _ _ _, HB2.out _ _⟩
end Go.Proofs.YthafnhjnlfpifaaDoor
namespace Go.Proofs.YthafnhjnlfpifaaDoor
open Go Go.RowKit Gu

/-- an append to a row of the call's own, as one step of a region that draws its order -/
theorem step_append_own {P : Program} {ops : Array Oper} {o : Oper} {a : Act} {w : World} {K : Act → World → Prop} {Q : Exit → Act → World → Prop} {E : Prop} (hg : o.guard = none) (s x : Operand) (t : TypeId)
    (ho : o.op = Op.call { callee := Callee.builtin Builtin.append, args := #[s, x], argTypes := #[t, t] })
    (base : Nat) (e : TypeId) (i : TypeInfo) (z : Value) (size bytes : Nat) (ht : P.underlying t = some (.slice e)) (hi : P.info? e = some i) (hz : i.zero = some z)
    (hsize : i.size = size) (hby : i.bytes = bytes) (hzs : z.cells.size = size) (hsz : 0 < size)
    (v : Value) (n : Nat) (xs : List Value) (hs : a.eval s = v) (hown : w.ownsRow base e size v n xs)
    (ad : Addr) (m c : Nat) (news : List Value) (hx : a.eval x = .slice (some ad) m c) (hl : news.length = m * size) (hnews : ∀ j u, news[j]? = some u → w.cell? (ad.add j) = some u) (h1 : ∀ u ∈ news, u.oneCell' = true)
    (h63 : n + m ≤ maxLen) (hbytes : (n + m) * bytes ≤ 140737488355328) (hbase : base ≤ w.heap.size)
    (hK : ∀ v' w', w'.ownsRow base e size v' (n + m) (xs ++ news) → w.grownBy w' v.ownBlock → (v' = .slice none 0 0 ↔ v = .slice none 0 0 ∧ m = 0) → K (a.put o.dst v') w') :
    if Region.wanted o (yielded ops a.tmps) = true then Oper.wp P o a w K Q else E := by
  have hw : Region.wanted o (yielded ops a.tmps) = true := by simp [Region.wanted, hg]
  rw [if_pos hw]
  exact wp_append_own w s x t ho base e i z size bytes ht hi hz hsize hby hzs hsz v n xs hs hown ad m c news hx hl hnews h1 h63 hbytes hbase hK
theorem shr_word {B p t da db : Nat} (hB : B = p * t) (hp : 0 < p) (hda : da < B) : ((da + B * db) / p) % B = da / p + db % p * t := by
  subst hB
  have ht : 0 < t := by
    rcases Nat.eq_zero_or_pos t with h | h
    · subst h; omega
    · exact h
  have e1 : (da + p * t * db) / p = da / p + t * db := by
    rw [Nat.mul_assoc, Nat.add_mul_div_left _ _ hp]
  have e2 : t * db = (db % p) * t + p * t * (db / p) := by
    have h := Nat.div_add_mod db p
    have h2 : t * (p * (db / p) + db % p) = t * db := by rw [h]
    rw [Nat.mul_add, ← Nat.mul_assoc, Nat.mul_comm t p, Nat.mul_comm t (db % p)] at h2
    omega
  rw [e1, e2, ← Nat.add_assoc, Nat.add_mul_mod_self_left]
  apply Nat.mod_eq_of_lt
  have h3 : da / p < t := by rw [Nat.div_lt_iff_lt_mul hp, Nat.mul_comm]; exact hda
  have h4 : db % p * t + t ≤ p * t := by rw [← Nat.succ_mul]; exact Nat.mul_le_mul_right _ (Nat.mod_lt _ hp)
  omega
theorem pow_dvd16 {s : Nat} (h : s ≤ 16) : 65536 = 2 ^ s * 2 ^ (16 - s) := by
  rw [← Nat.pow_add, show s + (16 - s) = 16 from by omega]
theorem pow_n {n wh s : Nat} (h : n = 16 * wh + s) : 2 ^ n = 65536 ^ wh * 2 ^ s := by
  rw [h, Nat.pow_add, Nat.pow_mul]
/-- a digit of a number divided by a power of two, as the document makes it -/
theorem shr_dg {a n wh s k : Nat} (h : n = 16 * wh + s) (hs : s < 16) : dg 65536 (a / 2 ^ n) k = dg 65536 a (wh + k) / 2 ^ s + dg 65536 a (wh + k + 1) % 2 ^ s * 2 ^ (16 - s) := by
  rw [pow_n h, shr_digit (by decide) ⟨_, pow_dvd16 (by omega)⟩, Nat.add_comm k wh, shr_word (pow_dvd16 (by omega)) (Nat.pow_pos (by decide)) (dg_lt (by decide) _ _)]
/-- what the loop of Shr keeps -/
def RShrRel (a n : Nat) (w : World) (k : Nat) (v : Value) (wr : World) : Prop :=
  Own .i64 65536 3 wr w.heap.size v k (a / 2 ^ n % 65536 ^ k) ∧ Below w.heap.size w wr
theorem pad_wh {wh k X d : Nat} (hX : X < 65536 ^ k) (hd : d < 65536) : pad 65536 (wh + k + 1) (65536 ^ wh * (X + 65536 ^ k * d)) = pad 65536 (wh + k) (65536 ^ wh * X) ++ [d] := by
  rw [Nat.mul_add, ← Nat.mul_assoc, ← Nat.pow_add]
  refine pad_succ (by decide) ?_ hd
  rw [Nat.pow_add]
  exact Nat.mul_lt_mul_of_pos_left hX (Nat.pow_pos (by decide))
/-- what the loop of Shl keeps -/
def RShlRel (a s wh : Nat) (w : World) (k X c : Nat) (v : Value) (wr : World) : Prop :=
  c < 2 ^ s ∧ X < 65536 ^ k ∧ X + 65536 ^ k * c = (a % 65536 ^ k) * 2 ^ s ∧ Own .i64 65536 3 wr w.heap.size v (wh + k) (65536 ^ wh * X) ∧ Below w.heap.size w wr
theorem own_zeros {w : World} (wh : Nat) (hwh : wh ≤ 1048576) : Own .i64 65536 3 (w.alloc (.cells (madeCells #[.int .i64 0] wh) 3)) w.heap.size (.slice (some ⟨w.heap.size, 0, none⟩) wh wh) wh 0 := by
  unfold Own
  refine ⟨by simp [pad], .inr ⟨w.heap.size, wh, _, rfl, Nat.le_refl _, heap_alloc_new w _, Nat.le_refl _, by unfold maxLen; omega, by rw [size_madeCells, Nat.mul_one], ?_⟩⟩
  rw [pad_zero, Nat.mul_one]
  simp only [madeCells, Array.toList_map, Array.toList_range, List.size_toArray]
  rw [List.take_of_length_le (by simp)]
  apply List.ext_getElem (by simp)
  intro i h1 h2
  simp [Nat.mod_one]
end Go.Proofs.YthafnhjnlfpifaaDoor
namespace Go.Proofs.YthafnhjnlfpifaaDoor
open Go Go.RowKit Gu

theorem low_dg (a : Nat) : dg 65536 a 0 % 2 = a % 2 := by
  unfold dg; rw [Nat.pow_zero, Nat.div_one]; omega
theorem gcd_two {a b : Nat} (h : (Nat.gcd a b) % 2 = 1) (ha : a % 2 = 0) : Nat.gcd (a / 2) b = Nat.gcd a b := by
  have e : a = 2 * (a / 2) := by omega
  have hc : Nat.Coprime 2 b := by
    have h1 : Nat.gcd 2 b ∣ 2 := Nat.gcd_dvd_left _ _
    have h2 : Nat.gcd 2 b ∣ Nat.gcd a b := Nat.dvd_gcd (Nat.dvd_trans h1 ⟨a / 2, e⟩) (Nat.gcd_dvd_right _ _)
    have h3 : Nat.gcd 2 b ≤ 2 := Nat.le_of_dvd (by decide) h1
    have h4 : 0 < Nat.gcd 2 b := Nat.gcd_pos_of_pos_left _ (by decide)
    rcases (show Nat.gcd 2 b = 1 ∨ Nat.gcd 2 b = 2 by omega) with h5 | h5
    · exact h5
    · rw [h5] at h2
      obtain ⟨c, hc⟩ := h2
      omega
  rw [show Nat.gcd a b = Nat.gcd (2 * (a / 2)) b from by rw [← e]]
  exact (Nat.Coprime.gcd_mul_left_cancel _ hc).symm
theorem gcd_kk {kk G' G m : Nat} (h : 2 ^ kk * G' = G) (h0 : 0 < G') (hG : G < 65536 ^ m) : kk ≤ 16 * m := by
  have e : 65536 ^ m = 2 ^ (16 * m) := by rw [Nat.pow_mul]
  have h1 : 2 ^ kk * 1 ≤ 2 ^ kk * G' := Nat.mul_le_mul_left _ h0
  rcases Nat.lt_or_ge (16 * m) kk with h2 | h2
  · have h3 : 2 ^ (16 * m) ≤ 2 ^ kk := Nat.pow_le_pow_right (by decide) (Nat.le_of_lt h2)
    omega
  · exact h2
theorem gcd_sub' {a b : Nat} (h : b ≤ a) : Nat.gcd (a - b) b = Nat.gcd a b := Nat.gcd_sub_self_left h
theorem nd_halve {a m : Nat} (h : nd 65536 a ≤ m) : nd 65536 (a / 2) ≤ m := Nat.le_trans (nd_mono (by decide) (Nat.div_le_self _ _)) h
/-- what the loops of Gcd keep -/
def GR (m G : Nat) (w : World) (A B : Nat) (x y : Value) (wr : World) : Prop :=
  R wr x A ∧ R wr y B ∧ nd 65536 A ≤ m ∧ nd 65536 B ≤ m ∧ 0 < B ∧ Nat.gcd A B = G ∧ Below w.heap.size w wr
theorem GR.next {m G : Nat} {w : World} {A B : Nat} {x y : Value} {wr wr' : World} (h : GR m G w A B x y wr) (hb : Below wr.heap.size wr wr') : GR m G w A B x y wr' := by
  obtain ⟨h1, h2, h3, h4, h5, h6, h7⟩ := h
  exact ⟨h1.below hb, h2.below hb, h3, h4, h5, h6, h7.trans (hb.mono h7.size)⟩
theorem R.low {w : World} {v : Value} {n : Nat} (h : R w v n) (h0 : 0 < n) : ∃ b o c, v = .slice (some ⟨b, o, none⟩) (nd 65536 n) c ∧ w.cell? ⟨b, o, none⟩ = some (.int .i64 (dg 65536 n 0)) ∧ 0 < nd 65536 n := by
  have hn := nd_pos (B := 65536) (by decide) h0
  rcases h with ⟨h1, _⟩ | ⟨_, b, o, c, hv, hc⟩
  · omega
  · exact ⟨b, o, c, hv, hc 0 hn, hn⟩
end Go.Proofs.YthafnhjnlfpifaaDoor
namespace Go.Proofs.YthafnhjnlfpifaaDoor
open Go Go.RowKit Gu

/-- the slice lies in a block from base on, if it has a cell -/
def FR (base : Nat) (r : Value) (X : Nat) : Prop := ∀ bb o l c, r = .slice (some ⟨bb, o, none⟩) l c → 0 < X → base ≤ bb
theorem FR.mono {b b' : Nat} {r : Value} {X : Nat} (h : FR b' r X) (hb : b ≤ b') : FR b r X := fun bb o l c he h0 => Nat.le_trans hb (h bb o l c he h0)
theorem own_FR {k : IntKind} {B : Nat} {T : TypeId} {w : World} {base : Nat} {v : Value} {m x : Nat} (h : Own k B T w base v m x) (X : Nat) : FR base v X := by
  intro bb o l c he _
  rcases h.shape with ⟨rfl, _⟩ | ⟨g, cap, rfl, hb, _⟩
  · cases he
  · simp only [Value.slice.injEq, Option.some.injEq, Addr.mk.injEq, and_true] at he
    obtain ⟨⟨rfl, rfl⟩, _, _⟩ := he
    exact hb
theorem Trim_own_f (base k X : Nat) (v : Value) (w : World) (h : Own .i64 65536 3 w base v k X) (hX : X < 65536 ^ k) (hk : k ≤ 4611686018427387904) :
    Calls Tryd.prog 21 #[v] w fun e w' => ∃ r, e = .returned r ∧ R w' r X ∧ w = w' ∧ FR base r X := by
  rcases h.shape with ⟨rfl, rfl⟩ | ⟨g, cap, rfl, hb, _, hm, hc, hcell⟩
  · obtain rfl : X = 0 := by rw [Nat.pow_zero] at hX; omega
    exact (Trim_none w).mono fun e w' ⟨he, hw⟩ => ⟨_, he, IsN.zero _ _ _ _ _, hw, fun _ _ _ _ _ h0 => absurd h0 (Nat.lt_irrefl _)⟩
  · refine (Trim_any g k cap X w hcell hX hk hm).mono fun e w' ⟨he, hw⟩ => ⟨_, he, ?_, hw, ?_⟩
    · rw [← hw]
      rcases Nat.eq_zero_or_pos X with h0 | h0
      · subst h0; rw [nd_zero]; exact IsN.zero _ _ _ _ _
      · exact .inr ⟨h0, g, 0, cap, rfl, fun i hi => by rw [Nat.zero_add]; exact hcell i (Nat.lt_of_lt_of_le hi ((nd_le (by decide)).2 hX))⟩
    · intro bb o l c he _
      simp only [Value.slice.injEq, Option.some.injEq, Addr.mk.injEq, and_true] at he
      obtain ⟨⟨rfl, rfl⟩, _, _⟩ := he
      exact hb
/-- a store into another block leaves the number -/
theorem FR.setCell {r : Value} {X base g j : Nat} {w : World} {u : Value} (h : R w r X) (hf : FR base r X) (hg : g < base) : R (w.setCell ⟨g, j, none⟩ u) r X := by
  refine IsN.grown h (grownBy_setCell w g j u) (fun b o c l he h0 => ?_)
  have := hf b o l c
  have h1 := hf b o _ _ he h0
  omega
end Go.Proofs.YthafnhjnlfpifaaDoor
namespace Go.Proofs.YthafnhjnlfpifaaDoor
open Go Go.RowKit Gu

theorem bit_room {t j s : Nat} (hs : s < 16) : dg 65536 (2 ^ (16 * j + s + 1) * t) j + 2 ^ s < 65536 := by
  have e1 : (2 : Nat) ^ (16 * j + s + 1) * t = 65536 ^ j * (2 ^ (s + 1) * t) := by
    rw [Nat.add_assoc, Nat.pow_add, Nat.pow_mul, Nat.mul_assoc]
  have e2 : dg 65536 (2 ^ (16 * j + s + 1) * t) j = 2 ^ (s + 1) * (t % 2 ^ (15 - s)) := by
    unfold dg
    rw [e1, Nat.mul_div_cancel_left _ (Nat.pow_pos (by decide)), show (65536 : Nat) = 2 ^ (s + 1) * 2 ^ (15 - s) from by rw [← Nat.pow_add, show s + 1 + (15 - s) = 16 from by omega], Nat.mul_mod_mul_left]
  rw [e2]
  have h1 : t % 2 ^ (15 - s) < 2 ^ (15 - s) := Nat.mod_lt _ (Nat.pow_pos (by decide))
  have h2 : 2 ^ (s + 1) * (t % 2 ^ (15 - s)) + 2 ^ (s + 1) ≤ 2 ^ (s + 1) * 2 ^ (15 - s) := by rw [← Nat.mul_succ]; exact Nat.mul_le_mul_left _ h1
  rw [← Nat.pow_add, show s + 1 + (15 - s) = 16 from by omega] at h2
  have h3 : 2 ^ (s + 1) = 2 * 2 ^ s := by rw [Nat.pow_succ, Nat.mul_comm]
  have h4 : 0 < 2 ^ s := Nat.pow_pos (by decide)
  omega
theorem nd_twice {z b : Nat} (h : z < 2 * b) : nd 65536 z ≤ nd 65536 b + 1 := by
  have h1 := nd_lt (by decide : 2 ≤ 65536) b
  apply (nd_le (by decide)).2
  rw [Nat.pow_succ]
  omega
/-- one bit of a long division -/
theorem bit_div {a b k : Nat} (hb : 0 < b) :
    (b ≤ (a / 2 ^ (k + 1)) % b * 2 + dg 2 a k → (a / 2 ^ k) % b = (a / 2 ^ (k + 1)) % b * 2 + dg 2 a k - b ∧ 2 ^ k * ((a / 2 ^ k) / b) = 2 ^ (k + 1) * ((a / 2 ^ (k + 1)) / b) + 2 ^ k) ∧
    ((a / 2 ^ (k + 1)) % b * 2 + dg 2 a k < b → (a / 2 ^ k) % b = (a / 2 ^ (k + 1)) % b * 2 + dg 2 a k ∧ 2 ^ k * ((a / 2 ^ k) / b) = 2 ^ (k + 1) * ((a / 2 ^ (k + 1)) / b)) := by
  have e1 := div_succ 2 a k
  have hd := dg_lt (B := 2) (by decide) a k
  have e2 := Nat.div_add_mod (a / 2 ^ (k + 1)) b
  have hm := Nat.mod_lt (a / 2 ^ (k + 1)) hb
  have ep : 2 ^ (k + 1) * ((a / 2 ^ (k + 1)) / b) = 2 ^ k * (2 * ((a / 2 ^ (k + 1)) / b)) := by rw [Nat.pow_succ, Nat.mul_assoc]
  rw [ep]
  generalize a / 2 ^ (k + 1) = y at *
  generalize dg 2 a k = c at *
  have e3 : a / 2 ^ k = (y % b * 2 + c) + b * (2 * (y / b)) := by
    have : b * (2 * (y / b)) = 2 * (b * (y / b)) := Nat.mul_left_comm _ _ _
    omega
  refine ⟨fun h => ?_, fun h => ?_⟩
  · have e4 : a / 2 ^ k = (y % b * 2 + c - b) + b * (2 * (y / b) + 1) := by rw [e3, Nat.mul_add]; omega
    rw [e4, Nat.add_mul_mod_self_left, Nat.add_mul_div_left _ _ hb, Nat.mod_eq_of_lt (by omega), Nat.div_eq_of_lt (by omega), Nat.zero_add, Nat.mul_add, Nat.mul_one]
    exact ⟨rfl, rfl⟩
  · rw [e3, Nat.add_mul_mod_self_left, Nat.add_mul_div_left _ _ hb, Nat.mod_eq_of_lt h, Nat.div_eq_of_lt h, Nat.zero_add]
    exact ⟨rfl, rfl⟩
/-- what the loop of DivMod keeps -/
def DMRel (a b la : Nat) (w : World) (k : Nat) (rv : Value) (wr : World) : Prop :=
  R wr rv ((a / 2 ^ k) % b) ∧ Buf .i64 65536 3 wr w.heap.size la (2 ^ k * ((a / 2 ^ k) / b)) ∧ Below w.heap.size w wr ∧ FR (w.heap.size + 1) rv ((a / 2 ^ k) % b)
end Go.Proofs.YthafnhjnlfpifaaDoor
namespace Go.Proofs.YthafnhjnlfpifaaDoor
open Go Go.RowKit Gu

/-- what a region over a fraction of the document keeps -/
structure StR (W0 : World) (v u : Value) (a b : Nat) (W : World) : Prop where
  n1 : R W v a
  n2 : R W u b
  bel : Below W0.heap.size W0 W
theorem StR.next {W0 W W' : World} {v u : Value} {a b : Nat} (h : StR W0 v u a b W) (hb : Below W.heap.size W W') : StR W0 v u a b W' :=
  ⟨h.n1.below hb, h.n2.below hb, h.bel.trans (hb.mono h.bel.size)⟩
theorem StR.cell {W0 W : World} {v u x : Value} {a b k o : Nat} (h : StR W0 v u a b W) (hk : k < W0.heap.size) (hc : W0.cell? ⟨k, o, none⟩ = some x) : W.cell? ⟨k, o, none⟩ = some x :=
  (h.bel.cell (p := ⟨k, o, none⟩) hk).trans hc
end Go.Proofs.YthafnhjnlfpifaaDoor
namespace Go.Proofs.YthafnhjnlfpifaaDoor
open Go Go.RowKit Gu

/-- what same keeps: both fractions -/
structure StS (w : World) (v u r s : Value) (P Q : Nat) (W : World) : Prop where
  n1 : D W v P
  n2 : D W u Q
  d1 : R W r P
  d2 : R W s Q
  env : Env W
  bel : Below w.heap.size w W
theorem StS.next {w W W' : World} {v u r s : Value} {P Q : Nat} (h : StS w v u r s P Q W) (hb : Below W.heap.size W W') : StS w v u r s P Q W' :=
  ⟨h.n1.below hb, h.n2.below hb, h.d1.below hb, h.d2.below hb, h.env.below hb, h.bel.trans (hb.mono h.bel.size)⟩
theorem fracText_zero : (⟨(fracText 0 1).toArray⟩ : ByteArray) = ⟨#[48]⟩ := by
  unfold fracText
  rw [if_pos rfl, decDigits_small (by decide)]
  rfl
end Go.Proofs.YthafnhjnlfpifaaDoor
namespace Go.Proofs.YthafnhjnlfpifaaDoor
open Go Go.RowKit Gu

set_option maxHeartbeats 1000000 in
theorem NewFrac_zero (v u : Value) (a : Nat) (w : World) (hv : D w v a) (hu : D w u 0) :
    Calls Tryd.prog 15 #[.agg #[v], .agg #[u]] w fun e w' => e = .returned (.tuple #[.agg #[.slice none 0 0, .slice none 0 0], .int .i64 11]) ∧ Below w.heap.size w w' := by
  have b3 : ∀ o1 o2 o3, Below w.heap.size w (((w.alloc o1).alloc o2).alloc o3) := fun o1 o2 o3 => (((Below.refl _ _).alloc (Nat.le_refl _) _).alloc (by simp) _).alloc (by simp; omega) _
  have HZ := Lib.hid (fun o1 o2 o3 => isZero_any u 0 (((w.alloc o1).alloc o2).alloc o3) (hu.below (b3 o1 o2 o3)))
  rw [show decide ((0 : Nat) = 0) = true from rfl] at HZ
  have HB := Lib.hid b3
  obtain ⟨ao, ac, rfl, -⟩ := hv.shape
  obtain ⟨bo, bc, rfl, -⟩ := hu.shape
  clear hv hu b3
  go_enter Tryd.func15, Tryd.ntmps15
  go_wp2_with fail
  refine (HZ.out _ _ _).mono ?_
  rintro e w1 ⟨rfl, rfl⟩
  go_wp2
  refine bodyPost_ret (v := .tuple #[.agg #[.slice none 0 0, .slice none 0 0], .int .i64 11]) (by simp [results, Tryd.results15, go_sem]) rfl ⟨rfl, HB.out _ _ _⟩
end Go.Proofs.YthafnhjnlfpifaaDoor
namespace Go.Proofs.YthafnhjnlfpifaaDoor
open Go Go.RowKit Gu

theorem fitN_nd {n m : Nat} (h : nd 4294967296 n ≤ m) : nd 4294967296 (fitN n) ≤ m := by
  unfold fitN
  split
  · exact h
  · rw [nd_zero]; omega
/-- a call that returns, and leaves what is older -/
def Ret (f : FuncId) (args : Array Value) (W : World) : Prop := Calls Tryd.prog f args W fun e w' => (∃ v, e = .returned v) ∧ Below W.heap.size W w'
section
variable {v u : Value} {a b : Nat} {W : World}
theorem kAdd (hv : D W v a) (hu : D W u b) (ha : nd 4294967296 a ≤ 1000) (hb : nd 4294967296 b ≤ 1000) : Ret 7 #[.agg #[v], .agg #[u]] W :=
  (Add_any v u a b W hv hu (by omega) (by omega)).mono fun _ _ ⟨_, he, _, hB⟩ => ⟨⟨_, he⟩, hB⟩
theorem kSub (hv : D W v a) (hu : D W u b) (ha : nd 4294967296 a ≤ 1000) (hb : nd 4294967296 b ≤ 1000) : Ret 9 #[.agg #[v], .agg #[u]] W :=
  (NSub_any v u a b W hv hu (by omega) (by omega)).mono fun _ _ ⟨_, he, _, hB⟩ => ⟨⟨_, he⟩, hB⟩
theorem kMul (hv : D W v a) (hu : D W u b) (ha : nd 4294967296 a ≤ 1000) (hb : nd 4294967296 b ≤ 1000) : Ret 8 #[.agg #[v], .agg #[u]] W :=
  (NMul_any v u a b W hv hu (by omega) (by omega)).mono fun _ _ ⟨_, he, _, hB⟩ => ⟨⟨_, he⟩, hB⟩
theorem kDivMod (hv : D W v a) (hu : D W u b) (ha : nd 4294967296 a ≤ 1000) (hb : nd 4294967296 b ≤ 1000) : Ret 10 #[.agg #[v], .agg #[u]] W :=
  (NDivMod_any v u a b W hv hu (by omega) (by omega)).mono fun _ _ ⟨_, _, he, _, _, hB⟩ => ⟨⟨_, he⟩, hB⟩
theorem kGcd (hv : D W v a) (hu : D W u b) (ha : nd 4294967296 a ≤ 1000) (hb : nd 4294967296 b ≤ 1000) : Ret 14 #[.agg #[v], .agg #[u]] W :=
  (NGcd_any v u a b W hv hu (by omega) (by omega)).mono fun _ _ ⟨_, he, _, hB⟩ => ⟨⟨_, he⟩, hB⟩
end
end Go.Proofs.YthafnhjnlfpifaaDoor
namespace Go.Proofs.YthafnhjnlfpifaaDoor
open Go Go.RowKit Gu

theorem nd_bits {a m : Nat} (h : nd 4294967296 a ≤ m) : nd 2 a ≤ 32 * m := by
  have h1 := (nd_le (by decide : 2 ≤ 4294967296)).1 h
  refine (nd_le (by decide : 2 ≤ 2)).2 ?_
  rw [Nat.pow_mul]
  exact h1
theorem two_pow_lt {n M : Nat} (h : n < 32 * M) : 2 ^ n < 4294967296 ^ M := by
  rw [show (4294967296 : Nat) = 2 ^ 32 from rfl, ← Nat.pow_mul]
  exact Nat.pow_lt_pow_right (by decide) h
theorem nd_shl {a m n : Nat} (h : nd 4294967296 a ≤ m) (hn : n ≤ 511) : nd 4294967296 (a * 2 ^ n) ≤ m + 16 := by
  have h2 : nd 4294967296 (2 ^ n) ≤ 16 := by
    refine (nd_le (by decide : 2 ≤ 4294967296)).2 ?_
    exact two_pow_lt (by omega)
  exact nd_mul h h2
section
variable {v u : Value} {a b : Nat} {W : World}
theorem kLsh (hv : D W v a) (ha : nd 4294967296 a ≤ 300) {n : Nat} (hn : n ≤ 9223372036854775807) : Ret 11 #[.agg #[v], .int .i64 n] W :=
  (Lsh_any v a n W hv (Nat.le_trans (nd_bits ha) (by decide)) hn).mono fun _ _ ⟨_, he, _, hB⟩ => ⟨⟨_, he⟩, hB⟩
theorem kRsh (hv : D W v a) (ha : nd 4294967296 a ≤ 300) {n : Nat} (hn : n ≤ 9223372036854775807) : Ret 12 #[.agg #[v], .int .i64 n] W :=
  (Rsh_any v a n W hv (by omega) hn).mono fun _ _ ⟨_, he, _, hB⟩ => ⟨⟨_, he⟩, hB⟩
theorem kLshR (hv : D W v a) (ha : nd 4294967296 a ≤ 200) (i : Int) (hi : i ≤ 511) : Calls Tryd.prog 11 #[.agg #[v], .int .i64 i] W fun e w' => ∃ o l c k m, e = .returned (.tuple #[.agg #[.slice o l c], .int .i64 k]) ∧ D w' (.slice o l c) m ∧ nd 4294967296 m ≤ 300 ∧ Below W.heap.size W w' := by
  rcases Int.lt_or_le i 0 with h | h
  · exact (Lsh_neg v a i W hv h).mono fun e w' ⟨he, hB⟩ => ⟨_, _, _, _, 0, he, IsN.zero _ _ _ _ _, by rw [nd_zero]; omega, hB⟩
  · obtain ⟨n, rfl⟩ : ∃ n : Nat, i = n := ⟨i.toNat, by omega⟩
    refine (Lsh_any v a n W hv (Nat.le_trans (nd_bits ha) (by decide)) (by omega)).mono fun e w' ⟨r, he, hr, hB⟩ => ?_
    obtain ⟨ro, rc, rfl, -⟩ := hr.shape
    refine ⟨_, _, _, _, _, he, hr, ?_, hB⟩
    unfold lshN
    split
    · exact Nat.le_trans (nd_shl ha (by omega)) (by decide)
    · rw [nd_zero]; omega
theorem kRshR (hv : D W v a) (ha : nd 4294967296 a ≤ 200) (i : Int) (hi : i ≤ 511) : Calls Tryd.prog 12 #[.agg #[v], .int .i64 i] W fun e w' => ∃ o l c k m, e = .returned (.tuple #[.agg #[.slice o l c], .int .i64 k]) ∧ D w' (.slice o l c) m ∧ nd 4294967296 m ≤ 300 ∧ Below W.heap.size W w' := by
  rcases Int.lt_or_le i 0 with h | h
  · exact (Rsh_neg v a i W hv h).mono fun e w' ⟨he, hB⟩ => ⟨_, _, _, _, 0, he, IsN.zero _ _ _ _ _, by rw [nd_zero]; omega, hB⟩
  · obtain ⟨n, rfl⟩ : ∃ n : Nat, i = n := ⟨i.toNat, by omega⟩
    refine (Rsh_any v a n W hv (by omega) (by omega)).mono fun e w' ⟨r, he, hr, hB⟩ => ?_
    obtain ⟨ro, rc, rfl, -⟩ := hr.shape
    exact ⟨_, _, _, _, _, he, hr, Nat.le_trans (nd_mono (by decide) (Nat.div_le_self _ _)) (by omega), hB⟩
theorem kSqrtR (hv : D W v a) (ha : nd 4294967296 a ≤ 200) : Calls Tryd.prog 13 #[.agg #[v]] W fun e w' => ∃ o l c m, e = .returned (.agg #[.slice o l c]) ∧ D w' (.slice o l c) m ∧ nd 4294967296 m ≤ 300 ∧ Below W.heap.size W w' := by
  refine (Sqrt_any v a W hv (by omega)).mono fun e w' ⟨r, s, he, hr, h1, _, hB⟩ => ?_
  obtain ⟨ro, rc, rfl, -⟩ := hr.shape
  have h2 : s ≤ a := Nat.le_trans (Nat.le_mul_self s) h1
  exact ⟨_, _, _, _, he, hr, Nat.le_trans (nd_mono (by decide) h2) (by omega), hB⟩
/-- a fraction as NatKeeps meets it -/
def FracOK (W : World) (r s : Value) : Prop := ∃ p q, D W r p ∧ D W s q ∧ nd 4294967296 p ≤ 300 ∧ nd 4294967296 q ≤ 300 ∧ (0 < q → Nat.gcd p q = 1)
theorem kFracR {N : Nat} (HN : DivOK N) (hN : 4294967296 ^ 300 ≤ N) (hv : D W v a) (hu : D W u b) (ha : nd 4294967296 a ≤ 300) (hb : nd 4294967296 b ≤ 300) : Calls Tryd.prog 15 #[.agg #[v], .agg #[u]] W fun e w' => ∃ o l c o2 l2 c2 k, e = .returned (.tuple #[.agg #[.slice o l c, .slice o2 l2 c2], .int .i64 k]) ∧ FracOK w' (.slice o l c) (.slice o2 l2 c2) ∧ Below W.heap.size W w' := by
  rcases Nat.eq_zero_or_pos b with h0 | h0
  · subst h0
    exact (NewFrac_zero v u a W hv hu).mono fun e w' ⟨he, hB⟩ => ⟨_, _, _, _, _, _, _, he, ⟨0, 0, IsN.zero _ _ _ _ _, IsN.zero _ _ _ _ _, by rw [nd_zero]; omega, by rw [nd_zero]; omega, fun h => absurd h (by decide)⟩, hB⟩
  · refine (NewFrac_any HN v u a b W hv hu h0 (Nat.lt_of_lt_of_le ((nd_le (by decide)).1 ha) hN) (Nat.lt_of_lt_of_le ((nd_le (by decide)).1 hb) hN)).mono fun e w' ⟨r, s, he, hr, hs, hB⟩ => ?_
    obtain ⟨ro, rc, rfl, -⟩ := hr.shape
    obtain ⟨so, sc, rfl, -⟩ := hs.shape
    exact ⟨_, _, _, _, _, _, _, he, ⟨_, _, hr, hs, Nat.le_trans (nd_mono (by decide) (Nat.div_le_self _ _)) ha, Nat.le_trans (nd_mono (by decide) (Nat.div_le_self _ _)) hb, fun _ => Nat.gcd_div_gcd_div_gcd_of_pos_right h0⟩, hB⟩
theorem kNum (h : FracOK W v u) : Calls Tryd.prog 16 #[.agg #[v, u]] W fun e w' => ∃ o l c m, e = .returned (.agg #[.slice o l c]) ∧ D w' (.slice o l c) m ∧ nd 4294967296 m ≤ 300 ∧ Below W.heap.size W w' := by
  obtain ⟨p, q, h1, h2, h3, _⟩ := h
  refine (FNum_any v u p q W h1 h2 (by omega)).mono fun e w' ⟨r, he, hr, hB⟩ => ?_
  obtain ⟨ro, rc, rfl, -⟩ := hr.shape
  exact ⟨_, _, _, _, he, hr, h3, hB⟩
theorem kBest (h : FracOK W v u) : Ret 18 #[.agg #[v, u], .int .i64 9] W := by
  obtain ⟨p, q, h1, h2, h3, h4, h5⟩ := h
  rcases Nat.eq_zero_or_pos q with h0 | h0
  · subst h0
    exact (Best_copy v u 9 p 0 W h1 h2 (by decide) (by decide) (by decide) (by omega)).mono fun e w' ⟨_, _, he, _, _, hB⟩ => ⟨⟨_, he⟩, hB⟩
  · exact (Best_all v u 9 p q W h1 h2 (by decide) (by decide) h0 (h5 h0) (by omega) (by omega)).mono fun e w' ⟨_, _, _, _, he, _, _, _, hB⟩ => ⟨⟨_, he⟩, hB⟩
end
end Go.Proofs.YthafnhjnlfpifaaDoor
namespace Go.Proofs.YthafnhjnlfpifaaDoor
open Go Go.RowKit Gu

section
variable {v u : Value} {a b : Nat} {W : World}
theorem kAddR (hv : D W v a) (hu : D W u b) (ha : nd 4294967296 a ≤ 100) (hb : nd 4294967296 b ≤ 100) : Calls Tryd.prog 7 #[.agg #[v], .agg #[u]] W fun e w' => ∃ r k m, e = .returned (.tuple #[.agg #[r], .int .i64 k]) ∧ D w' r m ∧ nd 4294967296 m ≤ 200 ∧ Below W.heap.size W w' :=
  (Add_any v u a b W hv hu (by omega) (by omega)).mono fun _ _ ⟨_, he, hr, hB⟩ => ⟨_, _, _, he, hr, fitN_nd (Nat.le_trans (nd_add ha hb) (by omega)), hB⟩
theorem kMulR (hv : D W v a) (hu : D W u b) (ha : nd 4294967296 a ≤ 100) (hb : nd 4294967296 b ≤ 100) : Calls Tryd.prog 8 #[.agg #[v], .agg #[u]] W fun e w' => ∃ r k m, e = .returned (.tuple #[.agg #[r], .int .i64 k]) ∧ D w' r m ∧ nd 4294967296 m ≤ 200 ∧ Below W.heap.size W w' :=
  (NMul_any v u a b W hv hu (by omega) (by omega)).mono fun _ _ ⟨_, he, hr, hB⟩ => ⟨_, _, _, he, hr, fitN_nd (Nat.le_trans (nd_mul ha hb) (by omega)), hB⟩
theorem kSubR (hv : D W v a) (hu : D W u b) (ha : nd 4294967296 a ≤ 200) (hb : nd 4294967296 b ≤ 200) : Calls Tryd.prog 9 #[.agg #[v], .agg #[u]] W fun e w' => ∃ r k m, e = .returned (.tuple #[.agg #[r], .int .i64 k]) ∧ D w' r m ∧ nd 4294967296 m ≤ 200 ∧ Below W.heap.size W w' :=
  (NSub_any v u a b W hv hu (by omega) (by omega)).mono fun _ _ ⟨_, he, hr, hB⟩ => ⟨_, _, _, he, hr, Nat.le_trans (nd_mono (by decide) (Nat.sub_le _ _)) ha, hB⟩
theorem kDivModR (hv : D W v a) (hu : D W u b) (ha : nd 4294967296 a ≤ 200) (hb : nd 4294967296 b ≤ 200) : Calls Tryd.prog 10 #[.agg #[v], .agg #[u]] W fun e w' => ∃ r s k m n, e = .returned (.tuple #[.agg #[r], .agg #[s], .int .i64 k]) ∧ D w' r m ∧ D w' s n ∧ nd 4294967296 m ≤ 200 ∧ nd 4294967296 n ≤ 200 ∧ Below W.heap.size W w' :=
  (NDivMod_any v u a b W hv hu (by omega) (by omega)).mono fun _ _ ⟨_, _, he, hr, hs, hB⟩ => ⟨_, _, _, _, _, he, hr, hs, Nat.le_trans (nd_mono (by decide) (Nat.div_le_self _ _)) ha, by
    unfold modN
    split
    · rw [nd_zero]; omega
    · exact Nat.le_trans (nd_mono (by decide) (Nat.mod_le _ _)) ha, hB⟩
theorem kGcdR (hv : D W v a) (hu : D W u b) (ha : nd 4294967296 a ≤ 200) (hb : nd 4294967296 b ≤ 200) : Calls Tryd.prog 14 #[.agg #[v], .agg #[u]] W fun e w' => ∃ o l c m, e = .returned (.agg #[.slice o l c]) ∧ D w' (.slice o l c) m ∧ nd 4294967296 m ≤ 300 ∧ Below W.heap.size W w' := by
  refine (NGcd_any v u a b W hv hu (by omega) (by omega)).mono fun e w' ⟨r, he, hr, hB⟩ => ?_
  obtain ⟨ro, rc, rfl, -⟩ := hr.shape
  refine ⟨_, _, _, _, he, hr, ?_, hB⟩
  rcases Nat.eq_zero_or_pos a with h0 | h0
  · subst h0; rw [Nat.gcd_zero_left]; omega
  · exact Nat.le_trans (nd_mono (by decide) (Nat.gcd_le_left _ h0)) (by omega)
theorem kLshS (hv : D W v a) (ha : nd 4294967296 a ≤ 200) (i : Int) (hi : i ≤ 511) : Calls Tryd.prog 11 #[.agg #[v], .int .i64 i] W fun e w' => ∃ r k m, e = .returned (.tuple #[.agg #[r], .int .i64 k]) ∧ D w' r m ∧ nd 4294967296 m ≤ 300 ∧ Below W.heap.size W w' :=
  (kLshR hv ha i hi).mono fun _ _ ⟨_, _, _, _, _, he, h, hb, hB⟩ => ⟨_, _, _, he, h, hb, hB⟩
theorem kRshS (hv : D W v a) (ha : nd 4294967296 a ≤ 200) (i : Int) (hi : i ≤ 511) : Calls Tryd.prog 12 #[.agg #[v], .int .i64 i] W fun e w' => ∃ r k m, e = .returned (.tuple #[.agg #[r], .int .i64 k]) ∧ D w' r m ∧ nd 4294967296 m ≤ 300 ∧ Below W.heap.size W w' :=
  (kRshR hv ha i hi).mono fun _ _ ⟨_, _, _, _, _, he, h, hb, hB⟩ => ⟨_, _, _, he, h, hb, hB⟩
end
end Go.Proofs.YthafnhjnlfpifaaDoor
namespace Go.Proofs.YthafnhjnlfpifaaDoor
open Go Go.RowKit Gu

structure Lw (w : World) (B X Y : Nat) (xo yo : Option Addr) (xc yc a b : Nat) (o : Nat → Option Addr) (m c : Nat → Nat) (W : World) : Prop where
  env : Env W
  bel : Below w.heap.size w W
  lt : B < W.heap.size
  ge : w.heap.size ≤ B
  cell : ∀ k, k < 11 → W.cell? ⟨B, k, none⟩ = some (.slice (o k) (nd 4294967296 (m k)) (c k))
  num : ∀ k, k < 11 → D W (.slice (o k) (nd 4294967296 (m k)) (c k)) (m k)
  small : ∀ k, k < 11 → nd 4294967296 (m k) ≤ 300
  lx : X < W.heap.size
  ly : Y < W.heap.size
  cx : W.cell? ⟨X, 0, none⟩ = some (.slice xo (nd 4294967296 a) xc)
  cy : W.cell? ⟨Y, 0, none⟩ = some (.slice yo (nd 4294967296 b) yc)
  dx : D W (.slice xo (nd 4294967296 a) xc) a
  dy : D W (.slice yo (nd 4294967296 b) yc) b
section
variable {w W W' : World} {B X Y : Nat} {xo yo : Option Addr} {xc yc a b : Nat} {o : Nat → Option Addr} {m c : Nat → Nat}
theorem Lw.next (h : Lw w B X Y xo yo xc yc a b o m c W) (hb : Below W.heap.size W W') : Lw w B X Y xo yo xc yc a b o m c W' :=
  ⟨h.env.below hb, h.bel.trans (hb.mono h.bel.size), Nat.lt_of_lt_of_le h.lt hb.size, h.ge,
   fun k hk => (hb.cell (p := ⟨B, k, none⟩) h.lt).trans (h.cell k hk), fun k hk => (h.num k hk).below hb, h.small,
   Nat.lt_of_lt_of_le h.lx hb.size, Nat.lt_of_lt_of_le h.ly hb.size,
   (hb.cell (p := ⟨X, 0, none⟩) h.lx).trans h.cx, (hb.cell (p := ⟨Y, 0, none⟩) h.ly).trans h.cy, h.dx.below hb, h.dy.below hb⟩
theorem Lw.alloc (h : Lw w B X Y xo yo xc yc a b o m c W) (ob : Obj) : Lw w B X Y xo yo xc yc a b o m c (W.alloc ob) := h.next ((Below.refl _ _).alloc (Nat.le_refl _) _)
theorem Lw.drew (h : Lw w B X Y xo yo xc yc a b o m c W) : Lw w B X Y xo yo xc yc a b o m c W.drew := h.next (Below.refl _ _).drew
theorem Lw.intro {cs : List (Nat × Nat × Value)} {ns rs : List (Value × Nat)} (h : Kq cs ns rs w W) (o1 : Obj) (arr : Array Value) (T : TypeId)
    (hx : (X, 0, Value.slice xo (nd 4294967296 a) xc) ∈ cs) (hy : (Y, 0, Value.slice yo (nd 4294967296 b) yc) ∈ cs)
    (nx : (Value.slice xo (nd 4294967296 a) xc, a) ∈ ns) (ny : (Value.slice yo (nd 4294967296 b) yc, b) ∈ ns)
    (hf : ∀ k, k < 11 → ∃ v n, arr[k]? = some v ∧ D W v n ∧ nd 4294967296 n ≤ 300) :
    ∃ o m c, Lw w (W.heap.size + 1) X Y xo yo xc yc a b o m c ((W.alloc o1).alloc (.cells arr T)).drew := by
  have hB : Below W.heap.size W ((W.alloc o1).alloc (.cells arr T)).drew := (((Below.refl _ _).alloc (Nat.le_refl _) _).alloc (by simp) _).drew
  have h' : ∀ k, ∃ t : Option Addr × Nat × Nat, k < 11 → arr[k]? = some (.slice t.1 (nd 4294967296 t.2.1) t.2.2) ∧ D W (.slice t.1 (nd 4294967296 t.2.1) t.2.2) t.2.1 ∧ nd 4294967296 t.2.1 ≤ 300 := by
    intro k
    by_cases hk : k < 11
    · obtain ⟨v, n, h1, h2, h3⟩ := hf k hk
      obtain ⟨ro, rc, rfl, -⟩ := h2.shape
      exact ⟨(ro, n, rc), fun _ => ⟨h1, h2, h3⟩⟩
    · exact ⟨(none, 0, 0), fun h => absurd h hk⟩
  obtain ⟨f, hf'⟩ := Classical.axiomOfChoice h'
  have hk := ((h.alloc o1).alloc (.cells arr T)).drew
  refine ⟨fun k => (f k).1, fun k => (f k).2.1, fun k => (f k).2.2, hk.env, hk.bel, by simp, Nat.le_succ_of_le h.bel.size, ?_, ?_, ?_, (hk.box _ hx).1, (hk.box _ hy).1, (hk.box _ hx).2, (hk.box _ hy).2, hk.num _ nx, hk.num _ ny⟩
  · intro k h1
    exact (World.cell?_alloc_at (w := W.alloc o1) arr T (W.heap.size + 1) k (by simp)).trans (hf' k h1).1
  · intro k h1
    exact (hf' k h1).2.1.below hB
  · intro k h1
    exact (hf' k h1).2.2
end
end Go.Proofs.YthafnhjnlfpifaaDoor
namespace Go.Proofs.YthafnhjnlfpifaaDoor
open Go Go.RowKit Gu

structure Zc (wt : World) (X : Nat) (W : World) : Prop where
  ge : wt.heap.size ≤ X
  lt : X < W.heap.size
  c0 : W.cell? ⟨X, 0, none⟩ = some (.slice none 0 0)
  c1 : W.cell? ⟨X, 1, none⟩ = some (.slice none 0 0)
  f0 : W.frozen? ⟨X, 0, none⟩ = false
  f1 : W.frozen? ⟨X, 1, none⟩ = false
section
variable {wt W W' : World} {X : Nat} {v u : Value}
theorem Zc.next (h : Zc wt X W) (hb : Below W.heap.size W W') : Zc wt X W' :=
  ⟨h.ge, Nat.lt_of_lt_of_le h.lt hb.size, (hb.cell (p := ⟨X, 0, none⟩) h.lt).trans h.c0, (hb.cell (p := ⟨X, 1, none⟩) h.lt).trans h.c1, (hb.frozen (p := ⟨X, 0, none⟩) h.lt).trans h.f0, (hb.frozen (p := ⟨X, 1, none⟩) h.lt).trans h.f1⟩
theorem Zc.top (h : Below wt.heap.size wt W) (T : TypeId) : Zc wt W.heap.size (W.alloc (.cells #[.slice none 0 0, .slice none 0 0] T)) := ⟨h.size, by simp, World.cell?_alloc_at _ _ _ _ rfl, World.cell?_alloc_at _ _ _ _ rfl, World.frozen?_alloc_at _ _ _ _ rfl, World.frozen?_alloc_at _ _ _ _ rfl⟩
theorem Zc.drew (h : Zc wt X W) : Zc wt X W.drew := h.next (Below.refl _ _).drew
theorem FracOK.next (h : FracOK W v u) (hb : Below W.heap.size W W') : FracOK W' v u := by
  obtain ⟨p, q, h1, h2, h3, h4, h5⟩ := h
  exact ⟨p, q, h1.below hb, h2.below hb, h3, h4, h5⟩
theorem FracOK.put (h : FracOK W v u) (z : Zc wt X W) (a b : Value) : FracOK ((W.setCell ⟨X, 0, none⟩ a).setCell ⟨X, 1, none⟩ b) v u := by
  obtain ⟨p, q, h1, h2, h3, h4, h5⟩ := h
  exact ⟨p, q, IsN_setTwo h1 z.c0 z.c1 (by intro d e; cases e) (by intro d e; cases e) _ _, IsN_setTwo h2 z.c0 z.c1 (by intro d e; cases e) (by intro d e; cases e) _ _, h3, h4, h5⟩
structure Got (wt : World) (X : Nat) (v u : Value) (W : World) : Prop where
  lt : X < W.heap.size
  c0 : W.cell? ⟨X, 0, none⟩ = some v
  c1 : W.cell? ⟨X, 1, none⟩ = some u
  fr : FracOK W v u
  bel : Below wt.heap.size wt W
theorem Got.next (h : Got wt X v u W) (hb : Below W.heap.size W W') : Got wt X v u W' :=
  ⟨Nat.lt_of_lt_of_le h.lt hb.size, (hb.cell (p := ⟨X, 0, none⟩) h.lt).trans h.c0, (hb.cell (p := ⟨X, 1, none⟩) h.lt).trans h.c1, h.fr.next hb, h.bel.trans (hb.mono h.bel.size)⟩
theorem Got.drew (h : Got wt X v u W) : Got wt X v u W.drew := h.next (Below.refl _ _).drew
theorem Got.one (hB : Below wt.heap.size wt W) (z : Zc wt X W) (hf : FracOK W v u) : Got wt X v u ((W.setCell ⟨X, 0, none⟩ v).setCell ⟨X, 1, none⟩ u) :=
  ⟨by rw [World.size_setCell, World.size_setCell]; exact z.lt, (read_two z.c0 z.c1 _ _).1, (read_two z.c0 z.c1 _ _).2, hf.put z _ _, (hB.setCell z.ge _).setCell z.ge _⟩
theorem Got.two (hB : Below wt.heap.size wt W) (hf : FracOK W v u) (T : TypeId) : Got wt W.heap.size v u (W.alloc (.cells #[v, u] T)) :=
  have hb : Below W.heap.size W (W.alloc (.cells #[v, u] T)) := (Below.refl _ _).alloc (Nat.le_refl _) _
  ⟨by simp, World.cell?_alloc_at _ _ _ _ rfl, World.cell?_alloc_at _ _ _ _ rfl, hf.next hb, hB.trans (hb.mono hB.size)⟩
theorem bUp (h : Below wt.heap.size wt W) (o : Obj) : Below wt.heap.size wt (W.alloc o) := h.alloc h.size _
theorem kFAdd (h : FracOK W v u) : Ret 17 #[.agg #[v, u], .agg #[v, u]] W := by
  obtain ⟨p, q, h1, h2, h3, h4, h5⟩ := h
  refine (FAdd_any v u v u p q p q W h1 h2 h1 h2 (by omega) (by omega) (by omega) (by omega)).mono fun e w' h => ?_
  unfold FRes at h
  obtain ⟨_, _, he, _, _, hB⟩ := h
  exact ⟨⟨_, he⟩, hB⟩
end
end Go.Proofs.YthafnhjnlfpifaaDoor
