/- Contracts and lemmas (several texts merged into one). -/
import Derived.Test.YteajinpfigejfaaGreatDoorBHgp5
import Derived.Test.YteajinpfigejfaaGreatDoorBHgp4
namespace Go.Proofs.YteajinpfigejfaaGreatDoor
open Go Go.RowKit Gu

/-- bounds of what the loop of nearest divides -/
theorem NInv.le {p q L bn bd ln ld l r : Nat} (h : NInv p q L bn bd ln ld l r) (hp : 0 < p) : 0 < l ∧ (l ≤ p ∨ l ≤ q) ∧ r ≤ q ∧ bn ≤ p ∧ bd ≤ q ∧ ln ≤ p ∧ ld ≤ q := by
  have e1 := h.e1
  have e2 := h.e2
  have hr := h.rp
  have hbn : bn ≤ p := Nat.le_trans (Nat.le_mul_of_pos_right _ hr) (by rw [e1]; exact Nat.le_add_left _ _)
  have hbd : bd ≤ q := Nat.le_trans (Nat.le_mul_of_pos_right _ hr) (by rw [e2]; exact Nat.le_add_left _ _)
  rcases h.st with ⟨h1, h2, h0⟩ | ⟨h1, h2⟩
  · have hdet := h.det
    rw [h1, h2, h0] at hdet
    have h4 : ln = 1 := by omega
    rw [h0, h4] at e1
    rw [h1, h2] at e2
    exact ⟨by omega, .inl (by omega), by omega, hbn, hbd, by omega, by omega⟩
  · have hl0 : 0 < l := by omega
    have hlq : l ≤ q := Nat.le_trans (Nat.le_mul_of_pos_left _ h1) (by rw [e2]; exact Nat.le_add_right _ _)
    have hln : ln ≤ p := Nat.le_trans (Nat.le_mul_of_pos_right _ hl0) (by rw [e1]; exact Nat.le_add_right _ _)
    have hld : ld ≤ q := Nat.le_trans (Nat.le_mul_of_pos_right _ hl0) (by rw [e2]; exact Nat.le_add_right _ _)
    exact ⟨hl0, .inr hlq, by omega, hbn, hbd, hln, hld⟩
/-- what the loop of nearest keeps in memory: target, limit, the last two convergents in their boxes B and B + 1, what is left -/
structure NS (w : World) (B : Nat) (v u z : Value) (p q L bn bd ln ld l r : Nat) (b0 b1 l0 l1 vl vr : Value) (W : World) : Prop where
  nv : D W v p
  nu : D W u q
  nz : D W z L
  n0 : D W b0 bn
  n1 : D W b1 bd
  n2 : D W l0 ln
  n3 : D W l1 ld
  n4 : D W vl l
  n5 : D W vr r
  t0 : W.cell? ⟨w.heap.size, 0, none⟩ = some v
  t1 : W.cell? ⟨w.heap.size, 1, none⟩ = some u
  r0 : W.cell? ⟨w.heap.size + 1, 0, none⟩ = some (.slice none 0 0)
  r1 : W.cell? ⟨w.heap.size + 1, 1, none⟩ = some (.slice none 0 0)
  z0 : W.frozen? ⟨w.heap.size + 1, 0, none⟩ = false
  z1 : W.frozen? ⟨w.heap.size + 1, 1, none⟩ = false
  c0 : W.cell? ⟨B, 0, none⟩ = some b0
  c1 : W.cell? ⟨B, 1, none⟩ = some b1
  c2 : W.cell? ⟨B + 1, 0, none⟩ = some l0
  c3 : W.cell? ⟨B + 1, 1, none⟩ = some l1
  f0 : W.frozen? ⟨B, 0, none⟩ = false
  f1 : W.frozen? ⟨B, 1, none⟩ = false
  f2 : W.frozen? ⟨B + 1, 0, none⟩ = false
  f3 : W.frozen? ⟨B + 1, 1, none⟩ = false
  lt : w.heap.size + 1 < B
  lb : B + 1 < W.heap.size
  bel : Below w.heap.size w W
theorem NS.next {w : World} {B : Nat} {v u z : Value} {p q L bn bd ln ld l r : Nat} {b0 b1 l0 l1 vl vr : Value} {W W' : World} (h : NS w B v u z p q L bn bd ln ld l r b0 b1 l0 l1 vl vr W) (hb : Below W.heap.size W W') : NS w B v u z p q L bn bd ln ld l r b0 b1 l0 l1 vl vr W' := by
  have hlt := h.lt
  have hlb := h.lb
  have cc : ∀ k o x, k < W.heap.size → W.cell? ⟨k, o, none⟩ = some x → W'.cell? ⟨k, o, none⟩ = some x := fun k o x hk hx => (hb.cell (p := ⟨k, o, none⟩) hk).trans hx
  have ff : ∀ k o, k < W.heap.size → W.frozen? ⟨k, o, none⟩ = false → W'.frozen? ⟨k, o, none⟩ = false := fun k o hk hx => (hb.frozen (p := ⟨k, o, none⟩) hk).trans hx
  exact ⟨h.nv.below hb, h.nu.below hb, h.nz.below hb, h.n0.below hb, h.n1.below hb, h.n2.below hb, h.n3.below hb, h.n4.below hb, h.n5.below hb,
    cc _ _ _ (by omega) h.t0, cc _ _ _ (by omega) h.t1, cc _ _ _ (by omega) h.r0, cc _ _ _ (by omega) h.r1, ff _ _ (by omega) h.z0, ff _ _ (by omega) h.z1,
    cc _ _ _ (by omega) h.c0, cc _ _ _ (by omega) h.c1, cc _ _ _ (by omega) h.c2, cc _ _ _ (by omega) h.c3, ff _ _ (by omega) h.f0, ff _ _ (by omega) h.f1, ff _ _ (by omega) h.f2, ff _ _ (by omega) h.f3, hlt, Nat.lt_of_lt_of_le hlb hb.size, h.bel.trans (hb.mono h.bel.size)⟩
/-- other numbers left -/
theorem NS.left {w : World} {B : Nat} {v u z : Value} {p q L bn bd ln ld l r : Nat} {b0 b1 l0 l1 vl vr : Value} {W : World} (h : NS w B v u z p q L bn bd ln ld l r b0 b1 l0 l1 vl vr W) {l' r' : Nat} {vl' vr' : Value} (h1 : D W vl' l') (h2 : D W vr' r') : NS w B v u z p q L bn bd ln ld l' r' b0 b1 l0 l1 vl' vr' W :=
  ⟨h.nv, h.nu, h.nz, h.n0, h.n1, h.n2, h.n3, h1, h2, h.t0, h.t1, h.r0, h.r1, h.z0, h.z1, h.c0, h.c1, h.c2, h.c3, h.f0, h.f1, h.f2, h.f3, h.lt, h.lb, h.bel⟩
/-- the last two convergents move on -/
theorem NS.shift {w : World} {B : Nat} {v u z : Value} {p q L bn bd ln ld l r nn nm R : Nat} {b0 b1 vl vr rv : Value} {l0o l1o no mo : Option Addr} {l0l l0c l1l l1c nl nc ml mc : Nat} {W : World} (h : NS w B v u z p q L bn bd ln ld l r b0 b1 (.slice l0o l0l l0c) (.slice l1o l1l l1c) vl vr W)
    (sb0 : ∃ o a c, b0 = .slice o a c) (sb1 : ∃ o a c, b1 = .slice o a c) (h1 : D W (.slice no nl nc) nn) (h2 : D W (.slice mo ml mc) nm) (h3 : D W rv R) :
    NS w B v u z p q L ln ld nn nm r R (.slice l0o l0l l0c) (.slice l1o l1l l1c) (.slice no nl nc) (.slice mo ml mc) vr rv
      ((((W.setCell ⟨B, 0, none⟩ (.slice l0o l0l l0c)).setCell ⟨B, 1, none⟩ (.slice l1o l1l l1c)).setCell ⟨B + 1, 0, none⟩ (.slice no nl nc)).setCell ⟨B + 1, 1, none⟩ (.slice mo ml mc)) := by
  obtain ⟨o0, a0, x0, rfl⟩ := sb0
  obtain ⟨o1, a1, x1, rfl⟩ := sb1
  have hlt := h.lt
  obtain ⟨W1, hW1⟩ : ∃ W1, W1 = (W.setCell ⟨B, 0, none⟩ (.slice l0o l0l l0c)).setCell ⟨B, 1, none⟩ (.slice l1o l1l l1c) := ⟨_, rfl⟩
  obtain ⟨p0, p1⟩ := read_two h.c0 h.c1 (.slice l0o l0l l0c) (.slice l1o l1l l1c)
  have k1 : ∀ {x : Value} {n : Nat}, D W x n → D W1 x n := fun hx => by rw [hW1]; exact IsN_setTwo hx h.c0 h.c1 (by intro d e; cases e) (by intro d e; cases e) _ _
  have far1 : ∀ j o, j ≠ B → W1.cell? ⟨j, o, none⟩ = W.cell? ⟨j, o, none⟩ := fun j o hj => by
    rw [hW1, World.cell?_setCell_far _ _ _ _ (by show B ≠ j; omega), World.cell?_setCell_far _ _ _ _ (by show B ≠ j; omega)]
  have d2 : W1.cell? ⟨B + 1, 0, none⟩ = some (.slice l0o l0l l0c) := (far1 _ _ (by omega)).trans h.c2
  have d3 : W1.cell? ⟨B + 1, 1, none⟩ = some (.slice l1o l1l l1c) := (far1 _ _ (by omega)).trans h.c3
  rw [← hW1] at p0 p1 ⊢
  obtain ⟨p2, p3⟩ := read_two d2 d3 (.slice no nl nc) (.slice mo ml mc)
  have k2 : ∀ {x : Value} {n : Nat}, D W x n → D ((W1.setCell ⟨B + 1, 0, none⟩ (.slice no nl nc)).setCell ⟨B + 1, 1, none⟩ (.slice mo ml mc)) x n := fun hx => IsN_setTwo (k1 hx) d2 d3 (by intro d e; cases e) (by intro d e; cases e) _ _
  have far2 : ∀ j o, j ≠ B + 1 → ((W1.setCell ⟨B + 1, 0, none⟩ (.slice no nl nc)).setCell ⟨B + 1, 1, none⟩ (.slice mo ml mc)).cell? ⟨j, o, none⟩ = W1.cell? ⟨j, o, none⟩ := fun j o hj => by
    rw [World.cell?_setCell_far _ _ _ _ (by show B + 1 ≠ j; omega), World.cell?_setCell_far _ _ _ _ (by show B + 1 ≠ j; omega)]
  have far : ∀ j o x, j ≠ B → j ≠ B + 1 → W.cell? ⟨j, o, none⟩ = some x → ((W1.setCell ⟨B + 1, 0, none⟩ (.slice no nl nc)).setCell ⟨B + 1, 1, none⟩ (.slice mo ml mc)).cell? ⟨j, o, none⟩ = some x := fun j o x h1 h2 h3 => by rw [far2 _ _ h2, far1 _ _ h1]; exact h3
  have fz : ∀ j o, W.frozen? ⟨j, o, none⟩ = false → ((W1.setCell ⟨B + 1, 0, none⟩ (.slice no nl nc)).setCell ⟨B + 1, 1, none⟩ (.slice mo ml mc)).frozen? ⟨j, o, none⟩ = false := fun j o hf => by rw [hW1]; simpa using hf
  have sz : ((W1.setCell ⟨B + 1, 0, none⟩ (.slice no nl nc)).setCell ⟨B + 1, 1, none⟩ (.slice mo ml mc)).heap.size = W.heap.size := by rw [hW1]; simp only [World.size_setCell]
  have bl : Below w.heap.size w ((W1.setCell ⟨B + 1, 0, none⟩ (.slice no nl nc)).setCell ⟨B + 1, 1, none⟩ (.slice mo ml mc)) := by
    rw [hW1]
    exact (((h.bel.setCell (by show w.heap.size ≤ B; omega) _).setCell (by show w.heap.size ≤ B; omega) _).setCell (by show w.heap.size ≤ B + 1; omega) _).setCell (by show w.heap.size ≤ B + 1; omega) _
  exact ⟨k2 h.nv, k2 h.nu, k2 h.nz, k2 h.n2, k2 h.n3, k2 h1, k2 h2, k2 h.n5, k2 h3, far _ _ _ (by omega) (by omega) h.t0, far _ _ _ (by omega) (by omega) h.t1, far _ _ _ (by omega) (by omega) h.r0, far _ _ _ (by omega) (by omega) h.r1, fz _ _ h.z0, fz _ _ h.z1,
    (far2 _ _ (by omega)).trans p0, (far2 _ _ (by omega)).trans p1, p2, p3, fz _ _ h.f0, fz _ _ h.f1, fz _ _ h.f2, fz _ _ h.f3, hlt, by rw [sz]; exact h.lb, bl⟩
/-- at the loop's start -/
theorem NS.start {w w2 : World} {v u z va vb : Value} {p q L : Nat} (hb : Below ((w.alloc (.cells #[v, u] 67)).alloc (.cells #[.slice none 0 0, .slice none 0 0] 67)).heap.size ((w.alloc (.cells #[v, u] 67)).alloc (.cells #[.slice none 0 0, .slice none 0 0] 67)) w2)
    (hv : D w v p) (hu : D w u q) (hz : D w z L) (ha : D w2 va 1) (hvb : D w2 vb 1) :
    NS w w2.heap.size v u z p q L 0 1 1 0 p q (.slice none 0 0) va vb (.slice none 0 0) v u ((w2.alloc (.cells #[.slice none 0 0, va] 67)).alloc (.cells #[vb, .slice none 0 0] 67)) := by
  obtain ⟨W1, hW1⟩ : ∃ W1, W1 = ((w.alloc (.cells #[v, u] 67)).alloc (.cells #[.slice none 0 0, .slice none 0 0] 67)) := ⟨_, rfl⟩
  have hz1 : W1.heap.size = w.heap.size + 1 + 1 := by rw [hW1]; simp
  have hb1 : Below w.heap.size w W1 := by rw [hW1]; exact ((Below.refl _ _).alloc (Nat.le_refl _) _).alloc (by simp) _
  have t0 : W1.cell? ⟨w.heap.size, 0, none⟩ = some v := by rw [hW1]; exact (World.cell?_alloc_past _ _ _ (by simp)).trans (World.cell?_alloc_at _ _ _ _ rfl)
  have t1 : W1.cell? ⟨w.heap.size, 1, none⟩ = some u := by rw [hW1]; exact (World.cell?_alloc_past _ _ _ (by simp)).trans (World.cell?_alloc_at _ _ _ _ rfl)
  have r0 : W1.cell? ⟨w.heap.size + 1, 0, none⟩ = some (.slice none 0 0) := by rw [hW1]; exact World.cell?_alloc_at _ _ _ _ (by simp)
  have r1 : W1.cell? ⟨w.heap.size + 1, 1, none⟩ = some (.slice none 0 0) := by rw [hW1]; exact World.cell?_alloc_at _ _ _ _ (by simp)
  have z0 : W1.frozen? ⟨w.heap.size + 1, 0, none⟩ = false := by rw [hW1]; exact World.frozen?_alloc_at _ _ _ _ (by simp)
  have z1 : W1.frozen? ⟨w.heap.size + 1, 1, none⟩ = false := by rw [hW1]; exact World.frozen?_alloc_at _ _ _ _ (by simp)
  rw [← hW1] at hb
  have hs := hb.size
  have hb3 : Below w2.heap.size w2 ((w2.alloc (.cells #[.slice none 0 0, va] 67)).alloc (.cells #[vb, .slice none 0 0] 67)) := ((Below.refl _ _).alloc (Nat.le_refl _) _).alloc (by simp) _
  have hb4 := hb.trans (hb3.mono hs)
  have hbw := hb1.trans (hb4.mono hb1.size)
  have cc : ∀ k o x, k < W1.heap.size → W1.cell? ⟨k, o, none⟩ = some x → _ := fun k o x hk hx => (hb4.cell (p := ⟨k, o, none⟩) hk).trans hx
  have ff : ∀ k o, k < W1.heap.size → W1.frozen? ⟨k, o, none⟩ = false → _ := fun k o hk hx => (hb4.frozen (p := ⟨k, o, none⟩) hk).trans hx
  exact ⟨hv.below hbw, hu.below hbw, hz.below hbw, IsN.zero _ _ _ _ _, ha.below hb3, hvb.below hb3, IsN.zero _ _ _ _ _, hv.below hbw, hu.below hbw,
    cc _ _ _ (by omega) t0, cc _ _ _ (by omega) t1, cc _ _ _ (by omega) r0, cc _ _ _ (by omega) r1, ff _ _ (by omega) z0, ff _ _ (by omega) z1,
    (World.cell?_alloc_past _ _ _ (by simp)).trans (World.cell?_alloc_at _ _ _ _ rfl), (World.cell?_alloc_past _ _ _ (by simp)).trans (World.cell?_alloc_at _ _ _ _ rfl), World.cell?_alloc_at _ _ _ _ (by simp), World.cell?_alloc_at _ _ _ _ (by simp),
    by simp, by simp,
    World.frozen?_alloc_at _ _ _ _ (by simp), World.frozen?_alloc_at _ _ _ _ (by simp), by omega, by simp, hbw⟩
set_option maxHeartbeats 4000000 in
set_option maxRecDepth 100000 in
theorem nearest_any (v u z : Value) (p q L : Nat) (w : World) (hv : D w v p) (hu : D w u q) (hz : D w z L) (bp : nd 4294967296 p ≤ 1000) (bq : nd 4294967296 q ≤ 1000) (bL : nd 4294967296 L ≤ 1000) (hp : 0 < p) (hg : Nat.gcd p q = 1) (hL : 1 ≤ L) (hq : L < q) :
    Calls Tryz.prog 38 #[.agg #[v, u], z] w fun e w' => ∃ r s x y, e = .returned (.agg #[r, s]) ∧ D w' r x ∧ D w' s y ∧ IsBest p q L x y ∧ Below w.heap.size w w' := by
  have HQ := Lib.hid hq
  have HG := Lib.hid hg
  have HV := Lib.hid hv; have HU := Lib.hid hu; have HZ := Lib.hid hz
  have HB2 : Hid (∀ o1 o2, Below w.heap.size w ((w.alloc o1).alloc o2)) := fun o1 o2 => ((Below.refl _ _).alloc (Nat.le_refl _) _).alloc (by simp) _
  obtain ⟨vo, vc, rfl, -⟩ := hv.shape
  obtain ⟨uo, uc, rfl, -⟩ := hu.shape
  obtain ⟨zo, zc, rfl, -⟩ := hz.shape
  obtain ⟨N, hN⟩ : ∃ N, N = 1000 := ⟨_, rfl⟩
  have HDV := Lib.hid (divide_long N (by omega))
  have HNN := Lib.hid hN
  clear hv hu hz hq hg hN
  go_enter Tryz.func38, Tryz.ntmps38
  go_wp2_with fail
  refine (digitsOf_any 1 _ (by decide)).mono ?_
  rintro e w1 ⟨va, rfl, ha, hb1⟩
  obtain ⟨ao, ac, rfl, -⟩ := ha.shape
  have HB1 := Lib.hid hb1; have HA := Lib.hid ha
  clear ha hb1
  go_wp2_with fail
  refine (digitsOf_any 1 _ (by decide)).mono ?_
  rintro e w2 ⟨vb, rfl, hb, hb2⟩
  obtain ⟨bo, bc, rfl, -⟩ := hb.shape
  have HB := Lib.hid hb
  have HBB := Lib.hid (HB1.out.trans (hb2.mono HB1.out.size))
  have HA2 := Lib.hid (HA.out.below hb2)
  clear hb hb2 HA HB1
  have hs := NS.start HBB.out HV.out HU.out HZ.out HA2.out HB.out
  have d0 := hs.t0
  have d1 := hs.t1
  have HS0 := Lib.hid (hs.next ((Below.refl _ _).drew))
  clear hs HBB HA2 HB
  go_wp2_with fail
  go_region
  go_wp2_with fail
  generalize w2.heap.size = B at *
  clear d0 d1
  go_loopg [7, 8] q (fun m vl vr wr => ∃ bn bd ln ld l r b0 b1 l0 l1 x y, Hid (m = r) ∧ vl = x ∧ vr = y ∧ Hid (NInv p q L bn bd ln ld l r) ∧ Hid (NS w B (.slice vo (nd 4294967296 p) vc) (.slice uo (nd 4294967296 q) uc) (.slice zo (nd 4294967296 L) zc) p q L bn bd ln ld l r b0 b1 l0 l1 x y wr))
  case atStart => exact ⟨0, 1, 1, 0, p, q, _, _, _, _, _, _, rfl, rfl, rfl, NInv.start HQ.out hL, HS0.out⟩
  case round =>
    obtain ⟨bn, bd, ln, ld, l, r, b0, b1, l0, l1, x, y, HM, rfl, rfl, HI, HS⟩ := hrel
    obtain ⟨xo, xc, rfl, -⟩ := HS.out.n4.shape
    obtain ⟨yo, yc, rfl, -⟩ := HS.out.n5.shape
    obtain ⟨b0o, b0c, rfl, -⟩ := HS.out.n0.shape
    obtain ⟨b1o, b1c, rfl, -⟩ := HS.out.n1.shape
    obtain ⟨l0o, l0c, rfl, -⟩ := HS.out.n2.shape
    obtain ⟨l1o, l1c, rfl, -⟩ := HS.out.n3.shape
    obtain ⟨g1, g2, g3, g4, g5, g6, g7⟩ := HI.out.le hp
    obtain ⟨g8, g9⟩ := HI.out.bound
    have kl : nd 4294967296 l ≤ 1000 := by
      rcases g2 with h | h
      · exact Nat.le_trans (nd_mono (by decide) h) bp
      · exact Nat.le_trans (nd_mono (by decide) h) bq
    have kr : nd 4294967296 r ≤ 1000 := Nat.le_trans (nd_mono (by decide) g3) bq
    have k0 : nd 4294967296 bn ≤ 1000 := Nat.le_trans (nd_mono (by decide) g4) bp
    have k1 : nd 4294967296 bd ≤ 1000 := Nat.le_trans (nd_mono (by decide) g5) bq
    have k2 : nd 4294967296 ln ≤ 1000 := Nat.le_trans (nd_mono (by decide) g6) bp
    have k3 : nd 4294967296 ld ≤ 1000 := Nat.le_trans (nd_mono (by decide) g7) bq
    have k4 : nd 4294967296 (l / r) ≤ 1000 := Nat.le_trans (nd_mono (by decide) (Nat.div_le_self _ _)) kl
    have k5 : nd 4294967296 (bn + l / r * ln) ≤ 1000 := Nat.le_trans (nd_mono (by decide) g8) bp
    have k6 : nd 4294967296 (bd + l / r * ld) ≤ 1000 := Nat.le_trans (nd_mono (by decide) g9) bq
    have HDR := Lib.hid (HDV.out _ _ l r wr HS.out.n4 HS.out.n5 HI.out.rp ((nd_le (by decide)).1 (by rw [HNN.out]; omega)) ((nd_le (by decide)).1 (by rw [HNN.out]; omega)))
    have HNX := Lib.hid (HI.out.next HG.out HQ.out)
    have HBT := Lib.hid (HI.out.best hL)
    have HRL := Lib.hid (Nat.mod_lt l HI.out.rp)
    have hW : Hid (∃ W, W = l / r) := ⟨_, rfl⟩
    generalize l / r = W at *
    generalize l % r = R at *
    clear hW g1 g2 g3 g4 g5 g6 g7 g8 g9
    go_wp2_with fail
    refine HDR.out.mono ?_
    rintro e w3 ⟨qv, rv, rfl, hqv, hrv, hb⟩
    obtain ⟨qo, qc, rfl, -⟩ := hqv.shape
    obtain ⟨ro, rc, rfl, -⟩ := hrv.shape
    have HS3 := Lib.hid (HS.out.next hb)
    have HQV := Lib.hid hqv; have HRV := Lib.hid hrv
    have d0 := HS3.out.c0; have d1 := HS3.out.c1; have d2 := HS3.out.c2; have d3 := HS3.out.c3
    have HPL := Lib.hid (plus_any _ _ _ _ _ bn bd ln ld W w3 HS3.out.n0 HS3.out.n1 HS3.out.n2 HS3.out.n3 HQV.out (by omega) (by omega) (by omega) (by omega) (by omega))
    generalize bn + W * ln = nn at *
    generalize bd + W * ld = nm at *
    clear hqv hrv hb HS HDR
    go_wp2_with fail
    refine HPL.out.mono ?_
    rintro e w4 ⟨nv, mv, rfl, hnv, hmv, hb⟩
    obtain ⟨no, nc, rfl, -⟩ := hnv.shape
    obtain ⟨mo, mc, rfl, -⟩ := hmv.shape
    have hal : ∀ o, Below w4.heap.size w4 (w4.alloc o) := fun o => (Below.refl _ _).alloc (Nat.le_refl _) _
    obtain ⟨W4, hW4⟩ : ∃ W4 : World, W4 = w4.alloc (.cells #[.slice no (nd 4294967296 nn) nc, .slice mo (nd 4294967296 nm) mc] 67) := ⟨_, rfl⟩
    have hbW4 : Below w4.heap.size w4 W4 := by rw [hW4]; exact hal _
    have HS4 := Lib.hid ((HS3.out.next hb).next hbW4)
    have HQ4 := Lib.hid ((HQV.out.below hb).below hbW4); have HR4 := Lib.hid ((HRV.out.below hb).below hbW4)
    have HN4 := Lib.hid (hnv.below hbW4); have HM4 := Lib.hid (hmv.below hbW4)
    have e0 : W4.cell? ⟨w4.heap.size, 0, none⟩ = some (.slice no (nd 4294967296 nn) nc) := by rw [hW4]; exact World.cell?_alloc_at _ _ _ _ rfl
    have e1 : W4.cell? ⟨w4.heap.size, 1, none⟩ = some (.slice mo (nd 4294967296 nm) mc) := by rw [hW4]; exact World.cell?_alloc_at _ _ _ _ rfl
    have hwz : w4.heap.size < W4.heap.size := by rw [hW4]; simp
    have hwb : B + 1 < w4.heap.size := (HS3.out.next hb).lb
    have HCM := Lib.hid (compare_any _ _ nm L W4 HM4.out HS4.out.nz (by omega) (by omega))
    have HW4 := Lib.hid hW4
    have HE0 := Lib.hid e0; have HE1 := Lib.hid e1; have HWZ := Lib.hid hwz; have HWB := Lib.hid hwb
    clear hnv hmv hb hbW4 hal hW4 HS3 HQV HRV HPL d0 d1 d2 d3 hwz hwb
    rcases Nat.lt_or_ge L nm with hc | hc
    · rw [cmpN_gt (by omega)] at HCM
      go_wp2_with fail
      rw [← HW4.out]
      go_wp2_with fail
      refine HCM.out.mono ?_
      rintro e w5 ⟨rfl, k, hw5⟩
      have hb5 : Below W4.heap.size W4 w5 := by rw [hw5]; exact below_drewN (Below.refl W4.heap.size W4) k
      have HS5 := Lib.hid (HS4.out.next hb5)
      clear hw5 hb5
      obtain ⟨hld, hbd, hbest⟩ := HBT.out (by omega)
      have HBE := Lib.hid hbest
      obtain ⟨t, ht⟩ : ∃ t, t = (L - bd) / ld := ⟨_, rfl⟩
      have kLb : nd 4294967296 (L - bd) ≤ 1000 := Nat.le_trans (nd_mono (by decide) (Nat.sub_le _ _)) bL
      have kt : nd 4294967296 t ≤ 1000 := by rw [ht]; exact Nat.le_trans (nd_mono (by decide) (Nat.div_le_self _ _)) kLb
      have HD1 : Hid (∀ W, NS w B (.slice vo (nd 4294967296 p) vc) (.slice uo (nd 4294967296 q) uc) (.slice zo (nd 4294967296 L) zc) p q L bn bd ln ld l r (.slice b0o (nd 4294967296 bn) b0c) (.slice b1o (nd 4294967296 bd) b1c) (.slice l0o (nd 4294967296 ln) l0c) (.slice l1o (nd 4294967296 ld) l1c) (.slice xo (nd 4294967296 l) xc) (.slice yo (nd 4294967296 r) yc) W →
          Calls Tryz.prog 57 #[.slice zo (nd 4294967296 L) zc, .slice b1o (nd 4294967296 bd) b1c] W fun e w' => ∃ o a c, e = .returned (.slice o a c) ∧ D w' (.slice o a c) (L - bd) ∧ NS w B (.slice vo (nd 4294967296 p) vc) (.slice uo (nd 4294967296 q) uc) (.slice zo (nd 4294967296 L) zc) p q L bn bd ln ld l r (.slice b0o (nd 4294967296 bn) b0c) (.slice b1o (nd 4294967296 bd) b1c) (.slice l0o (nd 4294967296 ln) l0c) (.slice l1o (nd 4294967296 ld) l1c) (.slice xo (nd 4294967296 l) xc) (.slice yo (nd 4294967296 r) yc) w') := fun W h =>
        (difference_any _ _ L bd W h.nz h.n1 (by omega) (by omega) hbd).mono fun e w' ⟨r, he, hr, hB⟩ => by
          obtain ⟨ro, rc, rfl, -⟩ := hr.shape
          exact ⟨ro, _, rc, he, hr, h.next hB⟩
      have HD2 : Hid (∀ W x, NS w B (.slice vo (nd 4294967296 p) vc) (.slice uo (nd 4294967296 q) uc) (.slice zo (nd 4294967296 L) zc) p q L bn bd ln ld l r (.slice b0o (nd 4294967296 bn) b0c) (.slice b1o (nd 4294967296 bd) b1c) (.slice l0o (nd 4294967296 ln) l0c) (.slice l1o (nd 4294967296 ld) l1c) (.slice xo (nd 4294967296 l) xc) (.slice yo (nd 4294967296 r) yc) W → D W x (L - bd) →
          Calls Tryz.prog 73 #[x, .slice l1o (nd 4294967296 ld) l1c] W fun e w' => ∃ o a c, e = .returned (.slice o a c) ∧ D w' (.slice o a c) t ∧ NS w B (.slice vo (nd 4294967296 p) vc) (.slice uo (nd 4294967296 q) uc) (.slice zo (nd 4294967296 L) zc) p q L bn bd ln ld l r (.slice b0o (nd 4294967296 bn) b0c) (.slice b1o (nd 4294967296 bd) b1c) (.slice l0o (nd 4294967296 ln) l0c) (.slice l1o (nd 4294967296 ld) l1c) (.slice xo (nd 4294967296 l) xc) (.slice yo (nd 4294967296 r) yc) w') := fun W x h hx => by
        rw [ht]
        exact (quotient_any HDV.out x _ (L - bd) ld W hx h.n3 hld ((nd_le (by decide)).1 (by rw [HNN.out]; omega)) ((nd_le (by decide)).1 (by rw [HNN.out]; omega))).mono fun e w' ⟨r, he, hr, hB⟩ => by
          obtain ⟨ro, rc, rfl, -⟩ := hr.shape
          exact ⟨ro, _, rc, he, hr, h.next hB⟩
      rw [← ht] at HBE
      have HCC : Hid (∀ W, NS w B (.slice vo (nd 4294967296 p) vc) (.slice uo (nd 4294967296 q) uc) (.slice zo (nd 4294967296 L) zc) p q L bn bd ln ld l r (.slice b0o (nd 4294967296 bn) b0c) (.slice b1o (nd 4294967296 bd) b1c) (.slice l0o (nd 4294967296 ln) l0c) (.slice l1o (nd 4294967296 ld) l1c) (.slice xo (nd 4294967296 l) xc) (.slice yo (nd 4294967296 r) yc) W → W.cell? ⟨B, 1, none⟩ = some (.slice b1o (nd 4294967296 bd) b1c) ∧ W.cell? ⟨B + 1, 1, none⟩ = some (.slice l1o (nd 4294967296 ld) l1c)) := fun W h => ⟨h.c1, h.c3⟩
      clear HS4 HQ4 HR4 HN4 HM4 e0 e1 HW4 HE0 HE1 HWZ HWB HNX HBT HRL hbest ht hld hbd HI HM
      have hs0 := HS5.out
      have hs2 := hs0.next ((Below.refl _ _).drew)
      have hc0 := HCC.out _ hs0
      have hc2 := HCC.out _ hs2
      go_wp2_with fail
      go_region_held3 (fun W : World => (W.cell? ⟨B, 1, none⟩ = some (.slice b1o (nd 4294967296 bd) b1c) ∧ W.cell? ⟨B + 1, 1, none⟩ = some (.slice l1o (nd 4294967296 ld) l1c)) ∧ NS w B (.slice vo (nd 4294967296 p) vc) (.slice uo (nd 4294967296 q) uc) (.slice zo (nd 4294967296 L) zc) p q L bn bd ln ld l r (.slice b0o (nd 4294967296 bn) b0c) (.slice b1o (nd 4294967296 bd) b1c) (.slice l0o (nd 4294967296 ln) l0c) (.slice l1o (nd 4294967296 ld) l1c) (.slice xo (nd 4294967296 l) xc) (.slice yo (nd 4294967296 r) yc) W) (first | (refine And.intro ?_ ?_ <;> assumption) | fail) (first
        | (go_at_call 57; with_reducible refine (HD1.out _ ?h).mono ?_; (case h => assumption); rintro e w' ⟨o1, a1, c1, rfl, hr', hs'⟩; have hc' := HCC.out _ hs')
        | (go_at_call 73; with_reducible refine (HD2.out _ _ ?h ?r).mono ?_; (case h => assumption); (case r => assumption); rintro e w' ⟨o2, a2, c2, rfl, hr', hs'⟩; have hc' := HCC.out _ hs') | fail)
      all_goals
        have hT : NS w B (.slice vo (nd 4294967296 p) vc) (.slice uo (nd 4294967296 q) uc) (.slice zo (nd 4294967296 L) zc) p q L bn bd ln ld l r (.slice b0o (nd 4294967296 bn) b0c) (.slice b1o (nd 4294967296 bd) b1c) (.slice l0o (nd 4294967296 ln) l0c) (.slice l1o (nd 4294967296 ld) l1c) (.slice xo (nd 4294967296 l) xc) (.slice yo (nd 4294967296 r) yc) w' := by assumption
        have hD : D w' (.slice o2 a2 c2) t := by assumption
        have HS6 := Lib.hid hT
        have HPL := Lib.hid (plus_any _ _ _ _ _ bn bd ln ld t w' hT.n0 hT.n1 hT.n2 hT.n3 hD (by omega) (by omega) (by omega) (by omega) (by omega))
        have d0 := hT.c0; have d1 := hT.c1; have d2 := hT.c2; have d3 := hT.c3
        have kon : nd 4294967296 (bn + t * ln) ≤ 2001 := by
          have := nd_mul kt k2
          exact nd_add (m := 2000) (by omega) (by omega)
        have kod : nd 4294967296 (bd + t * ld) ≤ 2001 := by
          have := nd_mul kt k3
          exact nd_add (m := 2000) (by omega) (by omega)
        clear hT hD HS5 HD1 HD2 HCC
        generalize bn + t * ln = on at *
        generalize bd + t * ld = od at *
        go_wp2_with fail
        refine HPL.out.mono ?_
        rintro e w6 ⟨nv, mv, rfl, hnv, hmv, hb⟩
        obtain ⟨no, nc, rfl, -⟩ := hnv.shape
        obtain ⟨mo, mc, rfl, -⟩ := hmv.shape
        obtain ⟨W6, hW6⟩ : ∃ W6 : World, W6 = w6.alloc (.cells #[.slice no (nd 4294967296 on) nc, .slice mo (nd 4294967296 od) mc] 67) := ⟨_, rfl⟩
        have hbW6 : Below w6.heap.size w6 W6 := by rw [hW6]; exact (Below.refl _ _).alloc (Nat.le_refl _) _
        have hS := (HS6.out.next hb).next hbW6
        have HS7 := Lib.hid hS
        have e0 : W6.cell? ⟨w6.heap.size, 0, none⟩ = some (.slice no (nd 4294967296 on) nc) := by rw [hW6]; exact World.cell?_alloc_at _ _ _ _ rfl
        have e1 : W6.cell? ⟨w6.heap.size, 1, none⟩ = some (.slice mo (nd 4294967296 od) mc) := by rw [hW6]; exact World.cell?_alloc_at _ _ _ _ rfl
        have HIN := Lib.hid (isNearer_any _ _ _ _ _ _ p q on od ln ld W6 hS.nv hS.nu (hnv.below hbW6) (hmv.below hbW6) hS.n2 hS.n3 (by omega) (by omega) (by omega) (by omega) (by omega) (by omega))
        have HN6 := Lib.hid (hnv.below hbW6); have HM6 := Lib.hid (hmv.below hbW6)
        have hwz : w6.heap.size < W6.heap.size := by rw [hW6]; simp
        have HWZ := Lib.hid hwz
        have HW6 := Lib.hid hW6
        have HE0 := Lib.hid e0; have HE1 := Lib.hid e1
        clear d0 d1 d2 d3
        have d2 := hS.c2; have d3 := hS.c3; have d4 := hS.t0; have d5 := hS.t1
        rw [hW6] at d2 d3 d4 d5
        clear hS hb hbW6 hnv hmv hW6 hwz HS6 HPL e0 e1
        by_cases hC : gapN p q on od * ld < gapN p q ln ld * od
        · rw [decide_eq_true hC] at HIN
          rw [if_pos hC, if_pos hC] at HBE
          clear hC
          go_wp2_with fail
          rw [← HW6.out]
          refine HIN.out.mono ?_
          rintro e w7 ⟨rfl, hb7⟩
          have hS := HS7.out.next hb7
          have hn := HN6.out.below hb7; have hm := HM6.out.below hb7
          have x0 := (hb7.cell (p := ⟨w6.heap.size, 0, none⟩) HWZ.out).trans HE0.out
          have x1 := (hb7.cell (p := ⟨w6.heap.size, 1, none⟩) HWZ.out).trans HE1.out
          have y0 := hS.r0; have y1 := hS.r1; have y2 := hS.z0; have y3 := hS.z1
          obtain ⟨t0, t1⟩ := read_two y0 y1 (.slice no (nd 4294967296 on) nc) (.slice mo (nd 4294967296 od) mc)
          have T0 := Lib.hid t0; have T1 := Lib.hid t1
          have E1 := Lib.hid (IsN_setTwo hn y0 y1 (by intro d h; cases h) (by intro d h; cases h) (.slice no (nd 4294967296 on) nc) (.slice mo (nd 4294967296 od) mc))
          have E2 := Lib.hid (IsN_setTwo hm y0 y1 (by intro d h; cases h) (by intro d h; cases h) (.slice no (nd 4294967296 on) nc) (.slice mo (nd 4294967296 od) mc))
          have E3 := Lib.hid ((hS.bel.setCell (p := ⟨w.heap.size + 1, 0, none⟩) (by show w.heap.size ≤ w.heap.size + 1; omega) (.slice no (nd 4294967296 on) nc)).setCell (p := ⟨w.heap.size + 1, 1, none⟩) (by show w.heap.size ≤ w.heap.size + 1; omega) (.slice mo (nd 4294967296 od) mc))
          clear hS hn hm hb7 t0 t1
          go_wp2
          have t0 := T0.out; have t1 := T1.out
          refine bodyPost_ret (v := .agg #[.slice no (nd 4294967296 on) nc, .slice mo (nd 4294967296 od) mc]) (by simp [results, Tryz.results38, go_sem, t0, t1]) rfl ⟨_, _, _, _, rfl, E1.out, E2.out, HBE.out, E3.out⟩
        · rw [decide_eq_false hC] at HIN
          rw [if_neg hC, if_neg hC] at HBE
          clear hC
          go_wp2_with fail
          rw [← HW6.out]
          refine HIN.out.mono ?_
          rintro e w7 ⟨rfl, hb7⟩
          have hS := HS7.out.next hb7
          have x0 := hS.c2; have x1 := hS.c3
          have y0 := hS.r0; have y1 := hS.r1; have y2 := hS.z0; have y3 := hS.z1
          obtain ⟨t0, t1⟩ := read_two y0 y1 (.slice l0o (nd 4294967296 ln) l0c) (.slice l1o (nd 4294967296 ld) l1c)
          have T0 := Lib.hid t0; have T1 := Lib.hid t1
          have E1 := Lib.hid (IsN_setTwo hS.n2 y0 y1 (by intro d h; cases h) (by intro d h; cases h) (.slice l0o (nd 4294967296 ln) l0c) (.slice l1o (nd 4294967296 ld) l1c))
          have E2 := Lib.hid (IsN_setTwo hS.n3 y0 y1 (by intro d h; cases h) (by intro d h; cases h) (.slice l0o (nd 4294967296 ln) l0c) (.slice l1o (nd 4294967296 ld) l1c))
          have E3 := Lib.hid ((hS.bel.setCell (p := ⟨w.heap.size + 1, 0, none⟩) (by show w.heap.size ≤ w.heap.size + 1; omega) (.slice l0o (nd 4294967296 ln) l0c)).setCell (p := ⟨w.heap.size + 1, 1, none⟩) (by show w.heap.size ≤ w.heap.size + 1; omega) (.slice l1o (nd 4294967296 ld) l1c))
          clear hS hb7 t0 t1
          go_wp2
          have t0 := T0.out; have t1 := T1.out
          refine bodyPost_ret (v := .agg #[.slice l0o (nd 4294967296 ln) l0c, .slice l1o (nd 4294967296 ld) l1c]) (by simp [results, Tryz.results38, go_sem, t0, t1]) rfl ⟨_, _, _, _, rfl, E1.out, E2.out, HBE.out, E3.out⟩
    · have hk : ¬ (0 : Int) < cmpN ((nm : Nat) : Int) ((L : Nat) : Int) := by
        rcases Nat.eq_or_lt_of_le hc with h | h
        · rw [cmpN_eq (by omega)]; decide
        · rw [cmpN_lt (by omega)]; decide
      generalize cmpN ((nm : Nat) : Int) ((L : Nat) : Int) = kk at *
      go_wp2_with fail
      rw [← HW4.out]
      go_wp2_with fail
      refine HCM.out.mono ?_
      rintro e w5 ⟨rfl, k, rfl⟩
      have d0 := HS4.out.c0; have d1 := HS4.out.c1; have d2 := HS4.out.c2; have d3 := HS4.out.c3; have y0 := HS4.out.f0; have y1 := HS4.out.f1; have y2 := HS4.out.f2; have y3 := HS4.out.f3
      have e0 := HE0.out; have e1 := HE1.out
      have hne1 : ¬ B = w4.heap.size := by have := HWB.out; omega
      have hne2 : ¬ w4.heap.size = B := by have := HWB.out; omega
      have hne3 : ¬ B + 1 = w4.heap.size := by have := HWB.out; omega
      have hne4 : ¬ w4.heap.size = B + 1 := by have := HWB.out; omega
      have bk := below_drewN (Below.refl W4.heap.size W4) (k + 1)
      have HSN := Lib.hid ((HS4.out.next bk).shift ⟨_, _, _, rfl⟩ ⟨_, _, _, rfl⟩ (HN4.out.below bk) (HM4.out.below bk) (HR4.out.below bk))
      clear bk
      go_wp2_with fail
      go_region
      go_wp2
      go_roundg R
      case measure => have h1 := HRL.out; have h2 := HM.out; omega
      case rel => exact ⟨ln, ld, nn, nm, r, R, _, _, _, _, _, _, rfl, rfl, rfl, HNX.out (by omega), HSN.out⟩
end Go.Proofs.YteajinpfigejfaaGreatDoor
namespace Go.Proofs.YteajinpfigejfaaGreatDoor
open Go Go.RowKit Gu

theorem box_facts {w w' : World} {v u : Value} {T T' : TypeId} (h : Below ((w.alloc (.cells #[v, u] T)).alloc (.cells #[.slice none 0 0, .slice none 0 0] T')).heap.size ((w.alloc (.cells #[v, u] T)).alloc (.cells #[.slice none 0 0, .slice none 0 0] T')) w') :
    w'.cell? ⟨w.heap.size + 1, 0, none⟩ = some (.slice none 0 0) ∧ w'.cell? ⟨w.heap.size + 1, 1, none⟩ = some (.slice none 0 0) ∧ w'.frozen? ⟨w.heap.size + 1, 0, none⟩ = false ∧ w'.frozen? ⟨w.heap.size + 1, 1, none⟩ = false ∧ Below w.heap.size w w' :=
  ⟨(h.cell (p := ⟨w.heap.size + 1, 0, none⟩) (by simp)).trans (World.cell?_alloc_at _ _ _ _ (by simp)), (h.cell (p := ⟨w.heap.size + 1, 1, none⟩) (by simp)).trans (World.cell?_alloc_at _ _ _ _ (by simp)), (h.frozen (p := ⟨w.heap.size + 1, 0, none⟩) (by simp)).trans (World.frozen?_alloc_at _ _ _ _ (by simp)), (h.frozen (p := ⟨w.heap.size + 1, 1, none⟩) (by simp)).trans (World.frozen?_alloc_at _ _ _ _ (by simp)),
    (((Below.refl w.heap.size w).alloc (Nat.le_refl _) (.cells #[v, u] T)).alloc (by simp) (.cells #[.slice none 0 0, .slice none 0 0] T')).trans (h.mono (by simp <;> omega))⟩
set_option maxHeartbeats 1000000 in
theorem Best_low (v u : Value) (n : Int) (a b : Nat) (w : World) (hv : D w v a) (hu : D w u b) (hn : n < 1) :
    Calls Tryz.prog 8 #[.agg #[v, u], .int .i64 n] w fun e w' => e = .returned (.tuple #[.agg #[.slice none 0 0, .slice none 0 0], .int .i64 2]) ∧ Below w.heap.size w w' := by
  have HB : Hid (∀ o1 o2, Below w.heap.size w ((w.alloc o1).alloc o2)) := fun o1 o2 => ((Below.refl _ _).alloc (Nat.le_refl _) _).alloc (by simp) _
  obtain ⟨vo, vc, rfl, -⟩ := hv.shape
  obtain ⟨uo, uc, rfl, -⟩ := hu.shape
  clear hv hu
  go_enter Tryz.func8, Tryz.ntmps8
  go_wp2
  refine bodyPost_ret (v := .tuple #[.agg #[.slice none 0 0, .slice none 0 0], .int .i64 2]) (by simp [results, Tryz.results8, go_sem]) rfl ⟨rfl, HB.out _ _⟩
set_option maxHeartbeats 2000000 in
theorem Best_copy (v u : Value) (n a b : Nat) (w : World) (hv : D w v a) (hu : D w u b) (hn1 : 1 ≤ n) (hn2 : n ≤ 9223372036854775807) (hle : dn b ≤ n) (ha : nd 4294967296 a ≤ 100000) :
    Calls Tryz.prog 8 #[.agg #[v, u], .int .i64 n] w fun e w' => ∃ r s, e = .returned (.tuple #[.agg #[r, s], .int .i64 0]) ∧ D w' r a ∧ D w' s (dn b) ∧ Below w.heap.size w w' := by
  have b2 : ∀ o1 o2, Below w.heap.size w ((w.alloc o1).alloc o2) := fun o1 o2 => ((Below.refl _ _).alloc (Nat.le_refl _) _).alloc (by simp) _
  have hd := nd_le_self16 hn2
  have hd1 := nd_32 hd
  have hd2 : nd 4294967296 (dn b) ≤ 4 := Nat.le_trans (nd_mono (by decide) hle) hd1
  have HT := Lib.hid (fun o1 o2 => terms_any v u a b ((w.alloc o1).alloc o2) (hv.below (b2 o1 o2)) (hu.below (b2 o1 o2)))
  have HA := Lib.hid (fun o1 o2 => hv.below (b2 o1 o2))
  have HDO := Lib.hid (fun W => digitsOf_any n W (by omega))
  have hkk : ¬ (0 : Int) < cmpN ((dn b : Nat) : Int) ((n : Nat) : Int) := by
    rcases Nat.eq_or_lt_of_le hle with h | h
    · rw [cmpN_eq (by omega)]; decide
    · rw [cmpN_lt (by omega)]; decide
  have hk' : cmpN ((dn b : Nat) : Int) ((n : Nat) : Int) ≤ 0 := by omega
  have hnn : ¬ (n : Int) < 1 := by omega
  have hcv : IntKind.u64.wrap (n : Int) = (n : Int) := IntWalk.u64_in _ (by omega)
  obtain ⟨vo, vc, rfl, -⟩ := hv.shape
  obtain ⟨uo, uc, rfl, -⟩ := hu.shape
  have HLE := Lib.hid hle
  clear hv hu b2 hle hkk
  generalize dn b = B at *
  generalize hkd : cmpN ((B : Nat) : Int) ((n : Nat) : Int) = kk at *
  have HKD := Lib.hid hkd
  have HCV := Lib.hid hcv
  clear hkd
  go_enter Tryz.func8, Tryz.ntmps8
  go_wp2_with fail
  refine (HT.out _ _).mono ?_
  rintro e w1 ⟨r, rfl, hr, hb1⟩
  obtain ⟨ro, rc, rfl, -⟩ := hr.shape
  have HB1 := Lib.hid hb1; have HR := Lib.hid hr; have HA1 := Lib.hid ((HA.out _ _).below hb1)
  clear hr hb1
  go_wp2_with fail
  refine (HDO.out _).mono ?_
  rintro e w2 ⟨l, rfl, hl, hb⟩
  obtain ⟨lo, lc, rfl, -⟩ := hl.shape
  have hal : Below w2.heap.size w2 (w2.alloc (.cells #[.slice vo (nd 4294967296 a) vc, .slice ro (nd 4294967296 B) rc] 67)) := (Below.refl _ _).alloc (Nat.le_refl _) _
  have HB2 := Lib.hid ((HB1.out.trans (hb.mono HB1.out.size)).trans (hal.mono (Nat.le_trans HB1.out.size hb.size)))
  have HR2 := Lib.hid ((HR.out.below hb).below hal); have HA2 := Lib.hid ((HA1.out.below hb).below hal)
  have HCM := Lib.hid (compare_any _ _ B n _ HR2.out (hl.below hal) (by omega) (by omega))
  rw [HKD.out] at HCM
  clear hl hb hal HR HA1 HB1
  go_wp2_with fail
  refine HCM.out.mono ?_
  rintro e w3 ⟨rfl, q, rfl⟩
  have HB3 := Lib.hid (below_drewN HB2.out q)
  have HC1 := Lib.hid (clone_any _ a _ (IsN.drewN HA2.out q) (by omega))
  have HR3 := Lib.hid (IsN.drewN HR2.out q)
  go_wp2_with fail
  refine HC1.out.mono ?_
  rintro e w4 ⟨x, rfl, hx, hb⟩
  obtain ⟨xo, xc, rfl, -⟩ := hx.shape
  have HB4 := Lib.hid (HB3.out.trans (hb.mono HB3.out.size)); have HX := Lib.hid hx
  have HC2 := Lib.hid (clone_any _ B w4 (HR3.out.below hb) (by omega))
  clear hx hb
  go_wp2_with fail
  refine HC2.out.mono ?_
  rintro e w5 ⟨y, rfl, hy, hb⟩
  obtain ⟨yo, yc, rfl, -⟩ := hy.shape
  have hB5 := HB4.out.trans (hb.mono HB4.out.size)
  obtain ⟨d0, d1, g0, g1, hbw⟩ := box_facts hB5
  obtain ⟨e1, e2, t0, t1, e3⟩ := two_store (w := w) (B := w.heap.size + 1) (HX.out.below hb) hy d0 d1 hbw (by omega)
  have E1 := Lib.hid e1; have E2 := Lib.hid e2; have E3 := Lib.hid e3; have T0 := Lib.hid t0; have T1 := Lib.hid t1
  clear e1 e2 e3 t0 t1 hB5 hb hy hbw
  go_wp2
  have t0 := T0.out; have t1 := T1.out
  refine bodyPost_ret (v := .tuple #[.agg #[.slice xo (nd 4294967296 a) xc, .slice yo (nd 4294967296 B) yc], .int .i64 0]) (by simp [results, Tryz.results8, go_sem, t0, t1]) rfl ⟨_, _, rfl, E1.out, E2.out, E3.out⟩
set_option maxHeartbeats 2000000 in
theorem Best_near (v u : Value) (n a b : Nat) (w : World) (hv : D w v a) (hu : D w u b) (hn1 : 1 ≤ n) (hn2 : n ≤ 9223372036854775807) (hlt : n < b) (ha0 : 0 < a) (hg : Nat.gcd a b = 1) (ha : nd 4294967296 a ≤ 1000) (hb : nd 4294967296 b ≤ 1000) :
    Calls Tryz.prog 8 #[.agg #[v, u], .int .i64 n] w fun e w' => ∃ r s x y, e = .returned (.tuple #[.agg #[r, s], .int .i64 0]) ∧ D w' r x ∧ D w' s y ∧ IsBest a b n x y ∧ Below w.heap.size w w' := by
  have b2 : ∀ o1 o2, Below w.heap.size w ((w.alloc o1).alloc o2) := fun o1 o2 => ((Below.refl _ _).alloc (Nat.le_refl _) _).alloc (by simp) _
  have hd := nd_le_self16 hn2
  have hd1 := nd_32 hd
  have HT := Lib.hid (fun o1 o2 => terms_pos v u a b ((w.alloc o1).alloc o2) (hv.below (b2 o1 o2)) (hu.below (b2 o1 o2)) (by omega))
  have HA := Lib.hid (fun o1 o2 => hv.below (b2 o1 o2)); have HU := Lib.hid (fun o1 o2 => hu.below (b2 o1 o2))
  have HDO := Lib.hid (fun W => digitsOf_any n W (by omega))
  have hkk : cmpN ((b : Nat) : Int) ((n : Nat) : Int) = 1 := cmpN_gt (by omega)
  have hnn : ¬ (n : Int) < 1 := by omega
  have hcv : IntKind.u64.wrap (n : Int) = (n : Int) := IntWalk.u64_in _ (by omega)
  have HNE := Lib.hid (fun W x y z (h1 : D W x a) (h2 : D W y b) (h3 : D W z n) => nearest_any x y z a b n W h1 h2 h3 (by omega) (by omega) (by omega) ha0 hg hn1 hlt)
  obtain ⟨vo, vc, rfl, -⟩ := hv.shape
  obtain ⟨uo, uc, rfl, -⟩ := hu.shape
  have HKD := Lib.hid hkk
  clear hv hu b2 hkk hg
  go_enter Tryz.func8, Tryz.ntmps8
  go_wp2_with fail
  refine (HT.out _ _).mono ?_
  rintro e w1 ⟨rfl, hb1⟩
  have HB1 := Lib.hid hb1; have HA1 := Lib.hid ((HA.out _ _).below hb1); have HU1 := Lib.hid ((HU.out _ _).below hb1)
  clear hb1
  go_wp2_with fail
  refine (HDO.out _).mono ?_
  rintro e w2 ⟨l, rfl, hl, hb⟩
  obtain ⟨lo, lc, rfl, -⟩ := hl.shape
  obtain ⟨W2, hW2⟩ : ∃ W2 : World, W2 = w2.alloc (.cells #[.slice vo (nd 4294967296 a) vc, .slice uo (nd 4294967296 b) uc] 67) := ⟨_, rfl⟩
  have hal : Below w2.heap.size w2 W2 := by rw [hW2]; exact (Below.refl _ _).alloc (Nat.le_refl _) _
  have HB2 := Lib.hid ((HB1.out.trans (hb.mono HB1.out.size)).trans (hal.mono (Nat.le_trans HB1.out.size hb.size)))
  have HU2 := Lib.hid ((HU1.out.below hb).below hal); have HA2 := Lib.hid ((HA1.out.below hb).below hal); have HL2 := Lib.hid (hl.below hal)
  have HCM := Lib.hid (compare_any _ _ b n _ HU2.out HL2.out (by omega) (by omega))
  rw [HKD.out] at HCM
  have e0 : W2.cell? ⟨w2.heap.size, 0, none⟩ = some (.slice vo (nd 4294967296 a) vc) := by rw [hW2]; exact World.cell?_alloc_at _ _ _ _ rfl
  have e1 : W2.cell? ⟨w2.heap.size, 1, none⟩ = some (.slice uo (nd 4294967296 b) uc) := by rw [hW2]; exact World.cell?_alloc_at _ _ _ _ rfl
  have HE0 := Lib.hid e0; have HE1 := Lib.hid e1; have HW2 := Lib.hid hW2
  clear hl hb hal HA1 HU1 HB1 e0 e1 hW2
  go_wp2_with fail
  rw [← HW2.out]
  refine HCM.out.mono ?_
  rintro e w3 ⟨rfl, q, rfl⟩
  have HB3 := Lib.hid (below_drewN HB2.out q)
  have HN3 := Lib.hid (HNE.out _ _ _ _ (IsN.drewN HA2.out q) (IsN.drewN HU2.out q) (IsN.drewN HL2.out q))
  have e0 := HE0.out; have e1 := HE1.out
  go_wp2_with fail
  refine HN3.out.mono ?_
  rintro e w4 ⟨x, y, xn, yn, rfl, hx, hy, hbest, hb⟩
  obtain ⟨xo, xc, rfl, -⟩ := hx.shape
  obtain ⟨yo, yc, rfl, -⟩ := hy.shape
  have hal : Below w4.heap.size w4 (w4.alloc (.cells #[.slice xo (nd 4294967296 xn) xc, .slice yo (nd 4294967296 yn) yc] 67)) := (Below.refl _ _).alloc (Nat.le_refl _) _
  have hB4 := (HB3.out.trans (hb.mono HB3.out.size)).trans (hal.mono (Nat.le_trans HB3.out.size hb.size))
  obtain ⟨d0, d1, g0, g1, hbw⟩ := box_facts hB4
  obtain ⟨e1, e2, t0, t1, e3⟩ := two_store (w := w) (B := w.heap.size + 1) (hx.below hal) (hy.below hal) d0 d1 hbw (by omega)
  have E1 := Lib.hid e1; have E2 := Lib.hid e2; have E3 := Lib.hid e3; have T0 := Lib.hid t0; have T1 := Lib.hid t1; have HBE := Lib.hid hbest
  clear e1 e2 e3 t0 t1 hB4 hb hy hx hbw hal hbest e0
  go_wp2
  have t0 := T0.out; have t1 := T1.out
  refine bodyPost_ret (v := .tuple #[.agg #[.slice xo (nd 4294967296 xn) xc, .slice yo (nd 4294967296 yn) yc], .int .i64 0]) (by simp [results, Tryz.results8, go_sem, t0, t1]) rfl ⟨_, _, _, _, rfl, E1.out, E2.out, HBE.out, E3.out⟩
end Go.Proofs.YteajinpfigejfaaGreatDoor
namespace Go.Proofs.YteajinpfigejfaaGreatDoor
open Go Go.RowKit Gu

/-- what an operation on fractions gives: the quotient of L by M in lowest terms, or ErrRange -/
def FRes (L M : Nat) (w' : World) (e : Ending) (B : Nat) (w : World) : Prop :=
  ∃ r s, e = .returned (.tuple #[.agg #[r, s], .int .i64 (ffE (lowP L M) (lowQ L M))]) ∧ D w' r (ffN (lowP L M) (lowQ L M) (lowP L M)) ∧ D w' s (ffN (lowP L M) (lowQ L M) (lowQ L M)) ∧ Below B w w'
theorem nd_dmul {b d : Nat} (hb : nd 4294967296 b ≤ 100000) (hd : nd 4294967296 d ≤ 100000) : nd 4294967296 (dn b * dn d) ≤ 200000 := nd_mul (dn_nd hb (by decide)) (dn_nd hd (by decide))
set_option maxHeartbeats 2000000 in
theorem FAdd_any (v u x y : Value) (a b c d : Nat) (w : World) (hv : D w v a) (hu : D w u b) (hx : D w x c) (hy : D w y d) (ha : nd 4294967296 a ≤ 100000) (hb : nd 4294967296 b ≤ 100000) (hc : nd 4294967296 c ≤ 100000) (hd : nd 4294967296 d ≤ 100000) :
    Calls Tryz.prog 20 #[.agg #[v, u], .agg #[x, y]] w fun e w' => FRes (a * dn d + c * dn b) (dn b * dn d) w' e w.heap.size w := by
  have b3 : ∀ o1 o2 o3, Below w.heap.size w (((w.alloc o1).alloc o2).alloc o3) := fun o1 o2 o3 => (((Below.refl _ _).alloc (Nat.le_refl _) _).alloc (by simp) _).alloc (by simp; omega) _
  have HCR := Lib.hid (fun o1 o2 o3 => crossed_any v u x y a b c d (((w.alloc o1).alloc o2).alloc o3) (hv.below (b3 o1 o2 o3)) (hu.below (b3 o1 o2 o3)) (hx.below (b3 o1 o2 o3)) (hy.below (b3 o1 o2 o3)) ha hb hc hd)
  have h1 := nd_mul ha (dn_nd hd (by decide))
  have h2 := nd_mul hc (dn_nd hb (by decide))
  have h3 := nd_add h1 h2
  have h4 := nd_dmul hb hd
  have h5 : 0 < dn b * dn d := Nat.mul_pos (dn_pos b) (dn_pos d)
  have HSU := Lib.hid (fun v u W (h : D W v (a * dn d)) (h' : D W u (c * dn b)) => sum_any v u _ _ W h h' (by omega) (by omega))
  have HFF := Lib.hid (fun v u W (h : D W v (a * dn d + c * dn b)) (h' : D W u (dn b * dn d)) => fittingFrac_any v u _ _ W h h' h5 (by omega) (by omega))
  have HB := Lib.hid b3
  obtain ⟨ao, ac, rfl, -⟩ := hv.shape
  obtain ⟨bo, bc, rfl, -⟩ := hu.shape
  obtain ⟨co, cc, rfl, -⟩ := hx.shape
  obtain ⟨eo, ec, rfl, -⟩ := hy.shape
  clear hv hu hx hy b3 h1 h2 h3 h4 h5
  unfold FRes
  generalize a * dn d = L1 at *
  generalize c * dn b = L2 at *
  generalize L1 + L2 = L at *
  generalize dn b * dn d = M at *
  generalize ffE (lowP L M) (lowQ L M) = E at *
  generalize ffN (lowP L M) (lowQ L M) (lowP L M) = X at *
  generalize ffN (lowP L M) (lowQ L M) (lowQ L M) = Y at *
  go_enter Tryz.func20, Tryz.ntmps20
  go_wp2_with fail
  refine (HCR.out _ _ _).mono ?_
  rintro e w1 ⟨r1, r2, r3, rfl, hr1, hr2, hr3, hb1⟩
  have HB1 := Lib.hid hb1; have HR3 := Lib.hid hr3
  have HS1 := Lib.hid (HSU.out _ _ _ hr1 hr2)
  clear hb1 hr1 hr2 hr3
  go_wp2_with fail
  refine HS1.out.mono ?_
  rintro e w2 ⟨s1, rfl, hs1, hb2⟩
  have HB2 := Lib.hid (HB1.out.trans (hb2.mono HB1.out.size))
  have HF1 := Lib.hid (HFF.out _ _ _ hs1 (HR3.out.below hb2))
  clear hs1 hb2
  go_wp2_with fail
  refine HF1.out.mono ?_
  rintro e w3 ⟨r, s, rfl, hr, hs, hb3⟩
  have hbt := HB2.out.trans (hb3.mono HB2.out.size)
  clear hb3
  obtain ⟨ro, rc, rfl, -⟩ := hr.shape
  obtain ⟨so, sc, rfl, -⟩ := hs.shape
  have d0 : w3.cell? ⟨w.heap.size + 1 + 1, 0, none⟩ = some (.slice none 0 0) := (hbt.cell (p := ⟨w.heap.size + 1 + 1, 0, none⟩) (by simp)).trans (World.cell?_alloc_at _ _ _ _ (by simp))
  have g0 : w3.frozen? ⟨w.heap.size + 1 + 1, 0, none⟩ = false := (hbt.frozen (p := ⟨w.heap.size + 1 + 1, 0, none⟩) (by simp)).trans (World.frozen?_alloc_at _ _ _ _ (by simp))
  have d1 : w3.cell? ⟨w.heap.size + 1 + 1, 1, none⟩ = some (.slice none 0 0) := (hbt.cell (p := ⟨w.heap.size + 1 + 1, 1, none⟩) (by simp)).trans (World.cell?_alloc_at _ _ _ _ (by simp))
  have g1 : w3.frozen? ⟨w.heap.size + 1 + 1, 1, none⟩ = false := (hbt.frozen (p := ⟨w.heap.size + 1 + 1, 1, none⟩) (by simp)).trans (World.frozen?_alloc_at _ _ _ _ (by simp))
  have HTS := Lib.hid (two_store (B := w.heap.size + 1 + 1) hr hs d0 d1 ((HB.out _ _ _).trans (hbt.mono (HB.out _ _ _).size)) (by omega))
  clear hr hs hbt
  go_wp2
  obtain ⟨z1, z2, z3, z4, z5⟩ := HTS.out
  refine bodyPost_ret (v := .tuple #[.agg #[.slice ro (nd 4294967296 (X)) rc, .slice so (nd 4294967296 (Y)) sc], .int .i64 (E)]) (by simp [results, Tryz.results20, go_sem, z3, z4]) rfl ⟨_, _, rfl, z1, z2, z5⟩
set_option maxHeartbeats 2000000 in
theorem FMul_any (v u x y : Value) (a b c d : Nat) (w : World) (hv : D w v a) (hu : D w u b) (hx : D w x c) (hy : D w y d) (ha : nd 4294967296 a ≤ 100000) (hb : nd 4294967296 b ≤ 100000) (hc : nd 4294967296 c ≤ 100000) (hd : nd 4294967296 d ≤ 100000) :
    Calls Tryz.prog 21 #[.agg #[v, u], .agg #[x, y]] w fun e w' => FRes (a * c) (dn b * dn d) w' e w.heap.size w := by
  have b3 : ∀ o1 o2 o3, Below w.heap.size w (((w.alloc o1).alloc o2).alloc o3) := fun o1 o2 o3 => (((Below.refl _ _).alloc (Nat.le_refl _) _).alloc (by simp) _).alloc (by simp; omega) _
  have HT1 := Lib.hid (fun o1 o2 o3 => terms_any v u a b (((w.alloc o1).alloc o2).alloc o3) (hv.below (b3 o1 o2 o3)) (hu.below (b3 o1 o2 o3)))
  have HT2 := Lib.hid (fun o1 o2 o3 w' (h : Below (((w.alloc o1).alloc o2).alloc o3).heap.size (((w.alloc o1).alloc o2).alloc o3) w') => terms_any x y c d w' ((hx.below (b3 o1 o2 o3)).below h) ((hy.below (b3 o1 o2 o3)).below h))
  have h1 := nd_mul ha hc
  have h4 := nd_dmul hb hd
  have hdb := dn_nd hb (by decide)
  have hdd := dn_nd hd (by decide)
  have h5 : 0 < dn b * dn d := Nat.mul_pos (dn_pos b) (dn_pos d)
  have HA := Lib.hid (fun o1 o2 o3 => hv.below (b3 o1 o2 o3))
  have HC := Lib.hid (fun o1 o2 o3 => hx.below (b3 o1 o2 o3))
  have HP1 := Lib.hid (fun v u W (h : D W v a) (h' : D W u c) => product_any v u _ _ W h h' (by omega) (by omega))
  have HP2 := Lib.hid (fun v u W (h : D W v (dn b)) (h' : D W u (dn d)) => product_any v u _ _ W h h' (by omega) (by omega))
  have HFF := Lib.hid (fun v u W (h : D W v (a * c)) (h' : D W u (dn b * dn d)) => fittingFrac_any v u _ _ W h h' h5 (by omega) (by omega))
  have HB := Lib.hid b3
  obtain ⟨ao, ac, rfl, -⟩ := hv.shape
  obtain ⟨bo, bc, rfl, -⟩ := hu.shape
  obtain ⟨co, cc, rfl, -⟩ := hx.shape
  obtain ⟨eo, ec, rfl, -⟩ := hy.shape
  clear hv hu hx hy b3 h1 h4 h5 hdb hdd
  unfold FRes
  generalize a * c = L at *
  generalize dn b * dn d = M at *
  generalize dn b = B at *
  generalize dn d = F at *
  generalize ffE (lowP L M) (lowQ L M) = E at *
  generalize ffN (lowP L M) (lowQ L M) (lowP L M) = X at *
  generalize ffN (lowP L M) (lowQ L M) (lowQ L M) = Y at *
  go_enter Tryz.func21, Tryz.ntmps21
  go_wp2_with fail
  refine (HT1.out _ _ _).mono ?_
  rintro e w1 ⟨r1, rfl, hr1, hb1⟩
  obtain ⟨po, pc, rfl, -⟩ := hr1.shape
  have HB1 := Lib.hid hb1; have HR1 := Lib.hid hr1
  have e0 : w1.cell? ⟨w.heap.size + 1, 0, none⟩ = some (.slice co (nd 4294967296 c) cc) := (hb1.cell (p := ⟨w.heap.size + 1, 0, none⟩) (by simp <;> omega)).trans ((World.cell?_alloc_past _ _ _ (by simp)).trans (World.cell?_alloc_at _ _ _ _ (by simp)))
  have e1 : w1.cell? ⟨w.heap.size + 1, 1, none⟩ = some (.slice eo (nd 4294967296 d) ec) := (hb1.cell (p := ⟨w.heap.size + 1, 1, none⟩) (by simp <;> omega)).trans ((World.cell?_alloc_past _ _ _ (by simp)).trans (World.cell?_alloc_at _ _ _ _ (by simp)))
  clear hb1 hr1
  go_wp2_with fail
  refine (HT2.out _ _ _ _ HB1.out).mono ?_
  rintro e w2 ⟨r2, rfl, hr2, hb2⟩
  obtain ⟨qo, qc, rfl, -⟩ := hr2.shape
  have HB2 := Lib.hid (HB1.out.trans (hb2.mono HB1.out.size)); have HR2 := Lib.hid hr2; have HR1' := Lib.hid (HR1.out.below hb2)
  clear hb2 hr2 e0 e1
  have HQ1 := Lib.hid (HP1.out _ _ _ ((HA.out _ _ _).below HB2.out) ((HC.out _ _ _).below HB2.out))
  go_wp2_with fail
  refine HQ1.out.mono ?_
  rintro e w3 ⟨p1, rfl, hp1, hb3⟩
  have HB3 := Lib.hid (HB2.out.trans (hb3.mono HB2.out.size)); have HX1 := Lib.hid hp1
  have HQ2 := Lib.hid (HP2.out _ _ _ (HR1'.out.below hb3) (HR2.out.below hb3))
  clear hb3 hp1
  go_wp2_with fail
  refine HQ2.out.mono ?_
  rintro e w4 ⟨p2, rfl, hp2, hb4⟩
  have HB4 := Lib.hid (HB3.out.trans (hb4.mono HB3.out.size))
  have HF1 := Lib.hid (HFF.out _ _ _ (HX1.out.below hb4) hp2)
  clear hp2 hb4
  go_wp2_with fail
  refine HF1.out.mono ?_
  rintro e w5 ⟨r, s, rfl, hr, hs, hb5⟩
  have hbt := HB4.out.trans (hb5.mono HB4.out.size)
  clear hb5
  obtain ⟨ro, rc, rfl, -⟩ := hr.shape
  obtain ⟨so, sc, rfl, -⟩ := hs.shape
  have d0 : w5.cell? ⟨w.heap.size + 1 + 1, 0, none⟩ = some (.slice none 0 0) := (hbt.cell (p := ⟨w.heap.size + 1 + 1, 0, none⟩) (by simp)).trans (World.cell?_alloc_at _ _ _ _ (by simp))
  have g0 : w5.frozen? ⟨w.heap.size + 1 + 1, 0, none⟩ = false := (hbt.frozen (p := ⟨w.heap.size + 1 + 1, 0, none⟩) (by simp)).trans (World.frozen?_alloc_at _ _ _ _ (by simp))
  have d1 : w5.cell? ⟨w.heap.size + 1 + 1, 1, none⟩ = some (.slice none 0 0) := (hbt.cell (p := ⟨w.heap.size + 1 + 1, 1, none⟩) (by simp)).trans (World.cell?_alloc_at _ _ _ _ (by simp))
  have g1 : w5.frozen? ⟨w.heap.size + 1 + 1, 1, none⟩ = false := (hbt.frozen (p := ⟨w.heap.size + 1 + 1, 1, none⟩) (by simp)).trans (World.frozen?_alloc_at _ _ _ _ (by simp))
  have HTS := Lib.hid (two_store (B := w.heap.size + 1 + 1) hr hs d0 d1 ((HB.out _ _ _).trans (hbt.mono (HB.out _ _ _).size)) (by omega))
  clear hr hs hbt
  go_wp2
  obtain ⟨z1, z2, z3, z4, z5⟩ := HTS.out
  refine bodyPost_ret (v := .tuple #[.agg #[.slice ro (nd 4294967296 (X)) rc, .slice so (nd 4294967296 (Y)) sc], .int .i64 (E)]) (by simp [results, Tryz.results21, go_sem, z3, z4]) rfl ⟨_, _, rfl, z1, z2, z5⟩
set_option maxHeartbeats 2000000 in
theorem FSub_neg (v u x y : Value) (a b c d : Nat) (w : World) (hv : D w v a) (hu : D w u b) (hx : D w x c) (hy : D w y d) (ha : nd 4294967296 a ≤ 100000) (hb : nd 4294967296 b ≤ 100000) (hc : nd 4294967296 c ≤ 100000) (hd : nd 4294967296 d ≤ 100000) (hlt : a * dn d < c * dn b) :
    Calls Tryz.prog 27 #[.agg #[v, u], .agg #[x, y]] w fun e w' => e = .returned (.tuple #[.agg #[.slice none 0 0, .slice none 0 0], .int .i64 10]) ∧ Below w.heap.size w w' := by
  have b3 : ∀ o1 o2 o3, Below w.heap.size w (((w.alloc o1).alloc o2).alloc o3) := fun o1 o2 o3 => (((Below.refl _ _).alloc (Nat.le_refl _) _).alloc (by simp) _).alloc (by simp; omega) _
  have HCR := Lib.hid (fun o1 o2 o3 => crossed_any v u x y a b c d (((w.alloc o1).alloc o2).alloc o3) (hv.below (b3 o1 o2 o3)) (hu.below (b3 o1 o2 o3)) (hx.below (b3 o1 o2 o3)) (hy.below (b3 o1 o2 o3)) ha hb hc hd)
  have h1 := nd_mul ha (dn_nd hd (by decide))
  have h2 := nd_mul hc (dn_nd hb (by decide))
  have h4 := nd_dmul hb hd
  have h5 : 0 < dn b * dn d := Nat.mul_pos (dn_pos b) (dn_pos d)
  have HCM := Lib.hid (fun v u W (h : D W v (a * dn d)) (h' : D W u (c * dn b)) => compare_any v u _ _ W h h' (by omega) (by omega))
  have hcm : cmpN ((a * dn d : Nat) : Int) ((c * dn b : Nat) : Int) = -1 := cmpN_lt (by omega)
  rw [hcm] at HCM
  have HB := Lib.hid b3
  obtain ⟨ao, ac, rfl, -⟩ := hv.shape
  obtain ⟨bo, bc, rfl, -⟩ := hu.shape
  obtain ⟨co, cc, rfl, -⟩ := hx.shape
  obtain ⟨eo, ec, rfl, -⟩ := hy.shape
  clear hv hu hx hy b3 h1 h2 h4 h5 hcm hlt
  go_enter Tryz.func27, Tryz.ntmps27
  go_wp2_with fail
  refine (HCR.out _ _ _).mono ?_
  rintro e w1 ⟨r1, r2, r3, rfl, hr1, hr2, hr3, hb1⟩
  have HB1 := Lib.hid hb1
  have HC1 := Lib.hid (HCM.out _ _ _ hr1 hr2)
  clear hb1 hr1 hr2 hr3
  go_wp2_with fail
  refine HC1.out.mono ?_
  rintro e w2 ⟨rfl, k, rfl⟩
  have hbt := below_drewN HB1.out k
  have d0 : (w1.drewN k).cell? ⟨w.heap.size + 1 + 1, 0, none⟩ = some (.slice none 0 0) := (hbt.cell (p := ⟨w.heap.size + 1 + 1, 0, none⟩) (by simp)).trans (World.cell?_alloc_at _ _ _ _ (by simp))
  have g0 : (w1.drewN k).frozen? ⟨w.heap.size + 1 + 1, 0, none⟩ = false := (hbt.frozen (p := ⟨w.heap.size + 1 + 1, 0, none⟩) (by simp)).trans (World.frozen?_alloc_at _ _ _ _ (by simp))
  have d1 : (w1.drewN k).cell? ⟨w.heap.size + 1 + 1, 1, none⟩ = some (.slice none 0 0) := (hbt.cell (p := ⟨w.heap.size + 1 + 1, 1, none⟩) (by simp)).trans (World.cell?_alloc_at _ _ _ _ (by simp))
  have g1 : (w1.drewN k).frozen? ⟨w.heap.size + 1 + 1, 1, none⟩ = false := (hbt.frozen (p := ⟨w.heap.size + 1 + 1, 1, none⟩) (by simp)).trans (World.frozen?_alloc_at _ _ _ _ (by simp))
  have HBE := Lib.hid (((HB.out _ _ _).trans (hbt.mono (HB.out _ _ _).size)))
  clear hbt
  obtain ⟨z3, z4⟩ := read_two d0 d1 (.slice none 0 0) (.slice none 0 0)
  have Z3 := Lib.hid z3; have Z4 := Lib.hid z4
  clear z3 z4
  go_wp2
  have z3 := Z3.out; have z4 := Z4.out
  refine bodyPost_ret (v := .tuple #[.agg #[.slice none 0 0, .slice none 0 0], .int .i64 10]) (by simp [results, Tryz.results27, go_sem, z3, z4]) rfl ⟨rfl, (HBE.out.setCell (by show w.heap.size ≤ w.heap.size + 1 + 1; omega) _).setCell (by show w.heap.size ≤ w.heap.size + 1 + 1; omega) _⟩
set_option maxHeartbeats 2000000 in
theorem FSub_any (v u x y : Value) (a b c d : Nat) (w : World) (hv : D w v a) (hu : D w u b) (hx : D w x c) (hy : D w y d) (ha : nd 4294967296 a ≤ 100000) (hb : nd 4294967296 b ≤ 100000) (hc : nd 4294967296 c ≤ 100000) (hd : nd 4294967296 d ≤ 100000) (hle : c * dn b ≤ a * dn d) :
    Calls Tryz.prog 27 #[.agg #[v, u], .agg #[x, y]] w fun e w' => FRes (a * dn d - c * dn b) (dn b * dn d) w' e w.heap.size w := by
  have b3 : ∀ o1 o2 o3, Below w.heap.size w (((w.alloc o1).alloc o2).alloc o3) := fun o1 o2 o3 => (((Below.refl _ _).alloc (Nat.le_refl _) _).alloc (by simp) _).alloc (by simp; omega) _
  have HCR := Lib.hid (fun o1 o2 o3 => crossed_any v u x y a b c d (((w.alloc o1).alloc o2).alloc o3) (hv.below (b3 o1 o2 o3)) (hu.below (b3 o1 o2 o3)) (hx.below (b3 o1 o2 o3)) (hy.below (b3 o1 o2 o3)) ha hb hc hd)
  have h1 := nd_mul ha (dn_nd hd (by decide))
  have h2 := nd_mul hc (dn_nd hb (by decide))
  have h4 := nd_dmul hb hd
  have h5 : 0 < dn b * dn d := Nat.mul_pos (dn_pos b) (dn_pos d)
  have HCM := Lib.hid (fun v u W (h : D W v (a * dn d)) (h' : D W u (c * dn b)) => compare_any v u _ _ W h h' (by omega) (by omega))
  have hcm : 0 ≤ cmpN ((a * dn d : Nat) : Int) ((c * dn b : Nat) : Int) := by
    rcases Nat.lt_or_eq_of_le hle with h | h
    · rw [cmpN_gt (by omega)]; decide
    · rw [cmpN_eq (by omega)]; decide
  have h3 : nd 4294967296 (a * dn d - c * dn b) ≤ 200000 := Nat.le_trans (nd_mono (by decide) (Nat.sub_le _ _)) h1
  have HDI := Lib.hid (fun v u W (h : D W v (a * dn d)) (h' : D W u (c * dn b)) => difference_any v u _ _ W h h' (by omega) (by omega) hle)
  have HFF := Lib.hid (fun v u W (h : D W v (a * dn d - c * dn b)) (h' : D W u (dn b * dn d)) => fittingFrac_any v u _ _ W h h' h5 (by omega) (by omega))
  have HB := Lib.hid b3
  obtain ⟨ao, ac, rfl, -⟩ := hv.shape
  obtain ⟨bo, bc, rfl, -⟩ := hu.shape
  obtain ⟨co, cc, rfl, -⟩ := hx.shape
  obtain ⟨eo, ec, rfl, -⟩ := hy.shape
  clear hv hu hx hy b3 h1 h2 h3 h4 h5 hle
  unfold FRes
  generalize a * dn d = L1 at *
  generalize c * dn b = L2 at *
  generalize L1 - L2 = L at *
  generalize dn b * dn d = M at *
  generalize ffE (lowP L M) (lowQ L M) = E at *
  generalize ffN (lowP L M) (lowQ L M) (lowP L M) = X at *
  generalize ffN (lowP L M) (lowQ L M) (lowQ L M) = Y at *
  generalize cmpN ((L1 : Nat) : Int) ((L2 : Nat) : Int) = cm at *
  go_enter Tryz.func27, Tryz.ntmps27
  go_wp2_with fail
  refine (HCR.out _ _ _).mono ?_
  rintro e w1 ⟨r1, r2, r3, rfl, hr1, hr2, hr3, hb1⟩
  have HB1 := Lib.hid hb1; have HR3 := Lib.hid hr3
  have HC1 := Lib.hid (HCM.out _ _ _ hr1 hr2)
  have HD1 := Lib.hid (fun k => HDI.out _ _ (w1.drewN k) (hr1.below (below_drewN (Below.refl _ _) k)) (hr2.below (below_drewN (Below.refl _ _) k)))
  clear hb1 hr1 hr2 hr3
  go_wp2_with fail
  refine HC1.out.mono ?_
  rintro e w2 ⟨rfl, k, rfl⟩
  go_wp2_with fail
  refine (HD1.out k).mono ?_
  rintro e w2 ⟨s1, rfl, hs1, hb2⟩
  have HB2 := Lib.hid ((below_drewN HB1.out k).trans (hb2.mono (below_drewN HB1.out k).size))
  have HF1 := Lib.hid (HFF.out _ _ _ hs1 ((HR3.out.below (below_drewN (Below.refl _ _) k)).below hb2))
  clear hs1 hb2
  go_wp2_with fail
  refine HF1.out.mono ?_
  rintro e w3 ⟨r, s, rfl, hr, hs, hb3⟩
  have hbt := HB2.out.trans (hb3.mono HB2.out.size)
  clear hb3
  obtain ⟨ro, rc, rfl, -⟩ := hr.shape
  obtain ⟨so, sc, rfl, -⟩ := hs.shape
  have d0 : w3.cell? ⟨w.heap.size + 1 + 1, 0, none⟩ = some (.slice none 0 0) := (hbt.cell (p := ⟨w.heap.size + 1 + 1, 0, none⟩) (by simp)).trans (World.cell?_alloc_at _ _ _ _ (by simp))
  have g0 : w3.frozen? ⟨w.heap.size + 1 + 1, 0, none⟩ = false := (hbt.frozen (p := ⟨w.heap.size + 1 + 1, 0, none⟩) (by simp)).trans (World.frozen?_alloc_at _ _ _ _ (by simp))
  have d1 : w3.cell? ⟨w.heap.size + 1 + 1, 1, none⟩ = some (.slice none 0 0) := (hbt.cell (p := ⟨w.heap.size + 1 + 1, 1, none⟩) (by simp)).trans (World.cell?_alloc_at _ _ _ _ (by simp))
  have g1 : w3.frozen? ⟨w.heap.size + 1 + 1, 1, none⟩ = false := (hbt.frozen (p := ⟨w.heap.size + 1 + 1, 1, none⟩) (by simp)).trans (World.frozen?_alloc_at _ _ _ _ (by simp))
  have HTS := Lib.hid (two_store (B := w.heap.size + 1 + 1) hr hs d0 d1 ((HB.out _ _ _).trans (hbt.mono (HB.out _ _ _).size)) (by omega))
  clear hr hs hbt
  go_wp2
  obtain ⟨z1, z2, z3, z4, z5⟩ := HTS.out
  refine bodyPost_ret (v := .tuple #[.agg #[.slice ro (nd 4294967296 (X)) rc, .slice so (nd 4294967296 (Y)) sc], .int .i64 (E)]) (by simp [results, Tryz.results27, go_sem, z3, z4]) rfl ⟨_, _, rfl, z1, z2, z5⟩
set_option maxHeartbeats 2000000 in
theorem FDiv_zero (v u x y : Value) (a b d : Nat) (w : World) (hv : D w v a) (hu : D w u b) (hx : D w x 0) (hy : D w y d) :
    Calls Tryz.prog 24 #[.agg #[v, u], .agg #[x, y]] w fun e w' => e = .returned (.tuple #[.agg #[.slice none 0 0, .slice none 0 0], .int .i64 11]) ∧ Below w.heap.size w w' := by
  have b3 : ∀ o1 o2 o3, Below w.heap.size w (((w.alloc o1).alloc o2).alloc o3) := fun o1 o2 o3 => (((Below.refl _ _).alloc (Nat.le_refl _) _).alloc (by simp) _).alloc (by simp; omega) _
  have HZ := Lib.hid (fun o1 o2 o3 => isZero_any x 0 (((w.alloc o1).alloc o2).alloc o3) (hx.below (b3 o1 o2 o3)))
  rw [show decide ((0 : Nat) = 0) = true from rfl] at HZ
  have HB := Lib.hid b3
  obtain ⟨ao, ac, rfl, -⟩ := hv.shape
  obtain ⟨bo, bc, rfl, -⟩ := hu.shape
  obtain ⟨co, cc, rfl, -⟩ := hx.shape
  obtain ⟨eo, ec, rfl, -⟩ := hy.shape
  clear hv hu hx hy b3
  go_enter Tryz.func24, Tryz.ntmps24
  go_wp2_with fail
  refine (HZ.out _ _ _).mono ?_
  rintro e w1 ⟨rfl, rfl⟩
  go_wp2
  refine bodyPost_ret (v := .tuple #[.agg #[.slice none 0 0, .slice none 0 0], .int .i64 11]) (by simp [results, Tryz.results24, go_sem]) rfl ⟨rfl, HB.out _ _ _⟩
set_option maxHeartbeats 2000000 in
theorem FDiv_any (v u x y : Value) (a b c d : Nat) (w : World) (hv : D w v a) (hu : D w u b) (hx : D w x c) (hy : D w y d) (ha : nd 4294967296 a ≤ 100000) (hb : nd 4294967296 b ≤ 100000) (hc : nd 4294967296 c ≤ 100000) (hd : nd 4294967296 d ≤ 100000) (hc0 : 0 < c) :
    Calls Tryz.prog 24 #[.agg #[v, u], .agg #[x, y]] w fun e w' => FRes (a * dn d) (c * dn b) w' e w.heap.size w := by
  have b3 : ∀ o1 o2 o3, Below w.heap.size w (((w.alloc o1).alloc o2).alloc o3) := fun o1 o2 o3 => (((Below.refl _ _).alloc (Nat.le_refl _) _).alloc (by simp) _).alloc (by simp; omega) _
  have HCR := Lib.hid (fun o1 o2 o3 => crossed_any v u x y a b c d (((w.alloc o1).alloc o2).alloc o3) (hv.below (b3 o1 o2 o3)) (hu.below (b3 o1 o2 o3)) (hx.below (b3 o1 o2 o3)) (hy.below (b3 o1 o2 o3)) ha hb hc hd)
  have HZ := Lib.hid (fun o1 o2 o3 => isZero_any x c (((w.alloc o1).alloc o2).alloc o3) (hx.below (b3 o1 o2 o3)))
  rw [show decide (c = 0) = false from decide_eq_false (by omega)] at HZ
  have h1 := nd_mul ha (dn_nd hd (by decide))
  have h2 := nd_mul hc (dn_nd hb (by decide))
  have h5 : 0 < c * dn b := Nat.mul_pos hc0 (dn_pos b)
  have HFF := Lib.hid (fun v u W (h : D W v (a * dn d)) (h' : D W u (c * dn b)) => fittingFrac_any v u _ _ W h h' h5 (by omega) (by omega))
  have HB := Lib.hid b3
  obtain ⟨ao, ac, rfl, -⟩ := hv.shape
  obtain ⟨bo, bc, rfl, -⟩ := hu.shape
  obtain ⟨co, cc, rfl, -⟩ := hx.shape
  obtain ⟨eo, ec, rfl, -⟩ := hy.shape
  clear hv hu hx hy b3 h1 h2 h5
  unfold FRes
  generalize a * dn d = L at *
  generalize c * dn b = M at *
  generalize ffE (lowP L M) (lowQ L M) = E at *
  generalize ffN (lowP L M) (lowQ L M) (lowP L M) = X at *
  generalize ffN (lowP L M) (lowQ L M) (lowQ L M) = Y at *
  go_enter Tryz.func24, Tryz.ntmps24
  go_wp2_with fail
  refine (HZ.out _ _ _).mono ?_
  rintro e w0 ⟨rfl, rfl⟩
  go_wp2_with fail
  refine (HCR.out _ _ _).mono ?_
  rintro e w1 ⟨r1, r2, r3, rfl, hr1, hr2, hr3, hb1⟩
  have HB1 := Lib.hid hb1
  have HF1 := Lib.hid (HFF.out _ _ _ hr1 hr2)
  clear hb1 hr1 hr2 hr3
  go_wp2_with fail
  refine HF1.out.mono ?_
  rintro e w3 ⟨r, s, rfl, hr, hs, hb3⟩
  have hbt := HB1.out.trans (hb3.mono HB1.out.size)
  clear hb3
  obtain ⟨ro, rc, rfl, -⟩ := hr.shape
  obtain ⟨so, sc, rfl, -⟩ := hs.shape
  have d0 : w3.cell? ⟨w.heap.size + 1 + 1, 0, none⟩ = some (.slice none 0 0) := (hbt.cell (p := ⟨w.heap.size + 1 + 1, 0, none⟩) (by simp)).trans (World.cell?_alloc_at _ _ _ _ (by simp))
  have g0 : w3.frozen? ⟨w.heap.size + 1 + 1, 0, none⟩ = false := (hbt.frozen (p := ⟨w.heap.size + 1 + 1, 0, none⟩) (by simp)).trans (World.frozen?_alloc_at _ _ _ _ (by simp))
  have d1 : w3.cell? ⟨w.heap.size + 1 + 1, 1, none⟩ = some (.slice none 0 0) := (hbt.cell (p := ⟨w.heap.size + 1 + 1, 1, none⟩) (by simp)).trans (World.cell?_alloc_at _ _ _ _ (by simp))
  have g1 : w3.frozen? ⟨w.heap.size + 1 + 1, 1, none⟩ = false := (hbt.frozen (p := ⟨w.heap.size + 1 + 1, 1, none⟩) (by simp)).trans (World.frozen?_alloc_at _ _ _ _ (by simp))
  have HTS := Lib.hid (two_store (B := w.heap.size + 1 + 1) hr hs d0 d1 ((HB.out _ _ _).trans (hbt.mono (HB.out _ _ _).size)) (by omega))
  clear hr hs hbt
  go_wp2
  obtain ⟨z1, z2, z3, z4, z5⟩ := HTS.out
  refine bodyPost_ret (v := .tuple #[.agg #[.slice ro (nd 4294967296 (X)) rc, .slice so (nd 4294967296 (Y)) sc], .int .i64 (E)]) (by simp [results, Tryz.results24, go_sem, z3, z4]) rfl ⟨_, _, rfl, z1, z2, z5⟩
end Go.Proofs.YteajinpfigejfaaGreatDoor
namespace Go.Proofs.YteajinpfigejfaaGreatDoor
open Go Go.RowKit Gu

/-- any digit of a buffer is stored anew -/
theorem Buf.at {k : IntKind} {B : Nat} {T : TypeId} {w : World} {g m V : Nat} (h : Buf k B T w g m V) (hB : 0 < B) (j : Nat) {d : Nat} (hd : d < B) :
    Buf k B T (w.setCell ⟨g, j, none⟩ (.int k d)) g m (V % B ^ j + B ^ j * (d + B * (V / B ^ (j + 1)))) := by
  have e : V = V % B ^ j + B ^ j * (dg B V j + B * (V / B ^ (j + 1))) := by
    rw [← div_succ]; exact (Nat.mod_add_div _ _).symm
  rw [e] at h
  exact Buf.set h hB (Nat.mod_lt _ (Nat.pow_pos hB)) (dg_lt hB _ _) hd
/-- .. and what the number is then -/
theorem at_val {B V j d : Nat} : V % B ^ j + B ^ j * (d + B * (V / B ^ (j + 1))) + B ^ j * dg B V j = V + B ^ j * d := by
  have e : V = V % B ^ j + B ^ j * (dg B V j + B * (V / B ^ (j + 1))) := by
    rw [← div_succ]; exact (Nat.mod_add_div _ _).symm
  have e2 : B ^ j * (d + B * (V / B ^ (j + 1))) = B ^ j * d + B ^ j * (B * (V / B ^ (j + 1))) := Nat.mul_add _ _ _
  have e3 : B ^ j * (dg B V j + B * (V / B ^ (j + 1))) = B ^ j * dg B V j + B ^ j * (B * (V / B ^ (j + 1))) := Nat.mul_add _ _ _
  omega
/-- one round of the inner loop -/
theorem mulr_round {B V c i k P a b d q : Nat} (h : V + B ^ (i + k) * c = P + B ^ i * (a * (b % B ^ k))) (hd : d + B * q = c + dg B V (i + k) + a * dg B b k) :
    (V % B ^ (i + k) + B ^ (i + k) * (d + B * (V / B ^ (i + k + 1)))) + B ^ (i + (k + 1)) * q = P + B ^ i * (a * (b % B ^ (k + 1))) := by
  have e := at_val (B := B) (V := V) (j := i + k) (d := d)
  have e1 : B ^ (i + k) * (d + B * q) = B ^ (i + k) * (c + dg B V (i + k) + a * dg B b k) := by rw [hd]
  rw [mod_succ]
  have e2 : B ^ i * (a * (b % B ^ k + B ^ k * dg B b k)) = B ^ i * (a * (b % B ^ k)) + B ^ (i + k) * (a * dg B b k) := by
    rw [Nat.mul_add a, Nat.mul_add (B ^ i), Nat.pow_add, Nat.mul_assoc (B ^ i), Nat.mul_left_comm a]
  have e3 : B ^ (i + (k + 1)) * q = B ^ (i + k) * (B * q) := by rw [← Nat.add_assoc, Nat.pow_succ, Nat.mul_assoc]
  rw [e2, e3]
  rw [Nat.mul_add, Nat.mul_add, Nat.mul_add] at e1
  omega
/-- what the outer loop keeps -/
def MulRel (a b m : Nat) (w : World) (i : Nat) (wr : World) : Prop :=
  Buf .i64 65536 3 wr w.heap.size m ((a % 65536 ^ i) * b) ∧ Below w.heap.size w wr
/-- what the inner loop keeps -/
def RowIn (a b da m : Nat) (w : World) (i k c : Nat) (wr : World) : Prop :=
  c < 65536 ∧ ∃ V, V + 65536 ^ (i + k) * c = (a % 65536 ^ i) * b + 65536 ^ i * (da * (b % 65536 ^ k)) ∧ Buf .i64 65536 3 wr w.heap.size m V ∧ Below w.heap.size w wr
theorem RowIn.next {a b da m : Nat} {w : World} {i k c q : Nat} {wr : World} {V : Nat} (h1 : V + 65536 ^ (i + k) * c = (a % 65536 ^ i) * b + 65536 ^ i * (da * (b % 65536 ^ k))) (h2 : Buf .i64 65536 3 wr w.heap.size m V) (h3 : Below w.heap.size w wr)
    (hc : c < 65536) (ha : da < 65536) (n : Nat) (ht : q = c + dg 65536 V (i + k) + da * dg 65536 b k) : RowIn a b da m w i (k + 1) (q / 65536) ((wr.drewN n).setCell ⟨w.heap.size, i + k, none⟩ (.int .i64 (q % 65536 : Nat))) := by
  have hv := dg_lt (B := 65536) (by decide) V (i + k)
  have hb := dg_lt (B := 65536) (by decide) b k
  have hm : da * dg 65536 b k ≤ 65535 * 65535 := Nat.mul_le_mul (by omega) (by omega)
  refine ⟨by omega, _, mulr_round h1 (show q % 65536 + 65536 * (q / 65536) = _ by rw [Nat.mod_add_div]; exact ht), Buf.at (w := wr.drewN n) h2 (by decide) _ (Nat.mod_lt _ (by decide)), (below_drewN h3 n).setCell (Nat.le_refl _) _⟩
/-- where the inner loop ends, and that it stays inside the row -/
theorem row_in {a b da m : Nat} {w : World} {i k c : Nat} {wr : World} (h : RowIn a b da m w i k c wr) {lb : Nat} (hb : b < 65536 ^ lb) (hda : da < 65536) (hk : lb ≤ k) (hc : 0 < c) : k = lb := by
  obtain ⟨-, V, hV, -, -⟩ := h
  rcases Nat.lt_or_ge lb k with h1 | h1
  · exfalso
    have h2 : 65536 ^ (i + k) ≤ 65536 ^ (i + k) * c := Nat.le_mul_of_pos_right _ hc
    have h3 : (a % 65536 ^ i) * b ≤ 65536 ^ i * b := Nat.mul_le_mul_right _ (Nat.le_of_lt (Nat.mod_lt _ (Nat.pow_pos (by decide))))
    have h4 : 65536 ^ i * (da * (b % 65536 ^ k)) ≤ 65536 ^ i * (65535 * b) := Nat.mul_le_mul_left _ (Nat.mul_le_mul (by omega) (Nat.mod_le _ _))
    have h5 : 65536 ^ i * (65536 * b) < 65536 ^ i * (65536 * 65536 ^ lb) := Nat.mul_lt_mul_of_pos_left (Nat.mul_lt_mul_of_pos_left hb (by decide)) (Nat.pow_pos (by decide))
    have h6 : 65536 ^ i * (65536 * 65536 ^ lb) ≤ 65536 ^ (i + k) := by
      rw [Nat.mul_comm 65536, ← Nat.pow_succ, ← Nat.pow_add]
      exact Nat.pow_le_pow_right (by decide) (by omega)
    have h7 : 65536 ^ i * (65536 * b) = 65536 ^ i * b + 65536 ^ i * (65535 * b) := by
      rw [← Nat.mul_add]; congr 1; omega
    omega
  · omega
theorem RowIn.done {a b m : Nat} {w : World} {i k : Nat} {wr : World} {lb : Nat} (h : RowIn a b (dg 65536 a i) m w i k 0 wr) (hb : b < 65536 ^ lb) (hk : lb ≤ k) : MulRel a b m w (i + 1) wr := by
  obtain ⟨-, V, hV, h1, h2⟩ := h
  have hbk : b % 65536 ^ k = b := Nat.mod_eq_of_lt (Nat.lt_of_lt_of_le hb (Nat.pow_le_pow_right (by decide) hk))
  rw [hbk, Nat.mul_zero, Nat.add_zero] at hV
  refine ⟨?_, h2⟩
  rw [mod_succ, Nat.add_mul, Nat.mul_assoc, ← hV]
  exact h1
set_option maxHeartbeats 2000000 in
set_option maxRecDepth 100000 in
theorem RMul_any (v u : Value) (a b : Nat) (w : World) (hv : R w v a) (hu : R w u b) (ha : nd 65536 a ≤ 500000) (hb : nd 65536 b ≤ 500000) :
    Calls Tryz.prog 40 #[v, u] w fun e w' => ∃ r, e = .returned r ∧ R w' r (a * b) ∧ Below w.heap.size w w' := by
  have hB : 2 ≤ 65536 := by decide
  obtain ⟨ao, ac, rfl, hcv⟩ := hv.shape
  obtain ⟨bo, bc, rfl, -⟩ := hu.shape
  have HU := Lib.hid hu
  have HC := Lib.hid hcv
  clear hv hu hcv
  have HAl := Lib.hid (nd_lt hB a)
  have HBl := Lib.hid (nd_lt hB b)
  have HNb : Hid (nd 65536 b ≤ 4611686018427387904) := by show _ ≤ _; omega
  generalize nd 65536 a = la at *
  obtain ⟨lb, hlb⟩ : ∃ lb, nd 65536 b = lb := ⟨_, rfl⟩
  rw [hlb] at hb HU HBl ⊢
  clear hlb
  have hmk := made_int (la + lb) (by omega)
  rw [show (((la + lb : Nat)) : Int) = (la : Int) + lb from by omega] at hmk
  go_enter Tryz.func40, Tryz.ntmps40
  go_wp2
  go_loopw [6] (fun t wr => ∃ i : Nat, i ≤ la ∧ t = .int .i64 i ∧ MulRel a b (la + lb) w i wr) (fun t _ => la - (intOf t).toNat)
  case atStart => exact ⟨0, Nat.zero_le _, rfl, by simpa [Nat.mod_one] using Buf.made _ _ _ _ _, (Below.refl _ _).alloc (Nat.le_refl _) _⟩
  case round =>
    obtain ⟨i, hi, rfl, hrel⟩ := hrel
    by_cases hlt : i < la
    · have hil : (i : Int) < la := by omega
      have HM := Lib.hid hrel
      clear hrel
      obtain ⟨wo, rfl⟩ : ∃ wo : World, wo = wr := ⟨_, rfl⟩
      obtain ⟨gb, go, rfl, hca⟩ := HC.out i hlt
      have hda := dg_lt (B := 65536) (by decide) a i
      have HFIN := Lib.hid (fun k wr (h : RowIn a b (dg 65536 a i) (la + lb) w i k 0 wr) (hk : lb ≤ k) => h.done HBl.out hk)
      have HCA : Hid (∀ wr, Below w.heap.size w wr → wr.cell? ⟨gb, go + i, none⟩ = some (.int .i64 (dg 65536 a i : Nat))) := fun wr hb => by
        rw [hb.cell (p := ⟨gb, go + i, none⟩) (World.block_lt_of_cell? _ _ hca)]; exact hca
      clear hca
      have HDA : Hid (dg 65536 a i < 65536) := hda
      have HSTART : Hid (RowIn a b (dg 65536 a i) (la + lb) w i 0 0 wo) := ⟨by decide, _, by simp [Nat.mod_one], HM.out.1, HM.out.2⟩
      generalize dg 65536 a i = da at *
      go_wp2
      go_loopg [7, 8] (lb + 1) (fun m c x wr => ∃ k cc : Nat, Hid (m + k = lb + 1) ∧ x = .int .i64 k ∧ c = .int .i64 cc ∧ RowIn a b da (la + lb) w i k cc wr)
      case atStart => exact ⟨0, 0, rfl, rfl, rfl, HSTART.out⟩
      case round =>
        obtain ⟨k, c, HK, rfl, rfl, hrow⟩ := hrel
        have hk1 : k ≤ lb + 1 := by have := HK.out; omega
        by_cases hcont : k < lb ∨ 0 < c
        · have hklb : k ≤ lb := by
            rcases hcont with h | h
            · omega
            · rcases Nat.lt_or_ge k lb with h' | h'
              · omega
              · exact Nat.le_of_eq (row_in hrow HBl.out HDA.out h' h)
          have hc1 := hrow.1
          obtain ⟨-, V, hV, hbuf, hbel⟩ := hrow
          have HNX := Lib.hid (fun n q hq => RowIn.next (q := q) hV hbuf hbel hc1 HDA.out n hq)
          have HA := Lib.hid (fun q => Rat_any _ b k (wr.drewN q) (HU.out.below (below_drewN hbel q)) HNb.out)
          have hca := HCA.out _ hbel
          have hcell := hbuf.cell (i := i + k) (by omega)
          have hfr := hbuf.frozen (i + k)
          have hdv := dg_lt (B := 65536) (by decide) V (i + k)
          have hdb := dg_lt (B := 65536) (by decide) b k
          clear hV hbuf hbel
          generalize dg 65536 V (i + k) = dv at *
          generalize dg 65536 b k = db at *
          have hmul : da * db ≤ 65535 * 65535 := Nat.mul_le_mul (by omega) (by omega)
          obtain ⟨q, hq⟩ : ∃ q, q = c + dv + da * db := ⟨_, rfl⟩
          have hq1 : q < 8589934592 := by omega
          have HN := Lib.hid (fun n => HNX.out n q hq)
          have HW : Hid (wrap64 (↑c + wrap64 (↑dv + wrap64 (↑da * ↑db))) = (q : Int)) := by
            show _ = _
            have e : (da : Int) * db = ((da * db : Nat) : Int) := by simp
            rw [e, hq]
            generalize da * db = p at *
            rw [IntWalk.wrap64_in (p : Int) (by omega), IntWalk.wrap64_in ((dv : Int) + p) (by omega), IntWalk.wrap64_in _ (by omega)]
            omega
          clear hq HNX hmul
          have hcond : ((k : Int) < lb) ∨ (¬ ((k : Int) < lb) ∧ (0 : Int) < c) := by omega
          have hil2 : (i : Int) + k < ((la + lb : Nat) : Int) := by omega
          rcases hcond with h1 | ⟨h0, h1⟩
          all_goals
            go_wp2
            go_quiet ((go_at_call 76; exact Calls.quiet_of_same ((HA.out _).mono fun _ _ ⟨h, h'⟩ => ⟨h, h'.symm⟩)))
            rw [HW.out]
            go_wp2
            have HN2 := HN.out nq
            rw [show ((q % 65536 : Nat) : Int) = (q : Int) % 65536 from by omega] at HN2
            go_roundg (lb - k)
            case measure => have := HK.out; omega
            case rel => exact ⟨k + 1, q / 65536, by show _ = _; omega, by go_num, by go_num, HN2⟩
        · have hk2 : lb ≤ k := by omega
          have hc0 : c = 0 := by omega
          subst hc0
          have HF := Lib.hid (HFIN.out k wr hrow hk2)
          have h0 : ¬ ((k : Int) < lb) := by omega
          clear hrow hcont
          go_wp2
          go_roundw
          case rel => exact ⟨i + 1, by omega, by go_num, HF.out⟩
          case measure => simp [intOf]; omega
    · obtain rfl : i = la := by omega
      obtain ⟨hbuf, hbel⟩ := hrel
      rw [Nat.mod_eq_of_lt HAl.out] at hbuf
      have hlt2 : a * b < 65536 ^ (i + lb) := by
        rw [Nat.pow_add]
        exact Nat.mul_lt_mul_of_lt_of_le HAl.out (Nat.le_of_lt HBl.out) (Nat.pow_pos (by decide))
      have HR := Lib.hid (hbuf.isN hB hlt2 (i + lb))
      have HT := Lib.hid (Trim_buf w.heap.size (i + lb) (i + lb) (a * b) wr hbuf hlt2 (by omega) (by omega))
      have HBel := Lib.hid hbel
      clear hlt2 hbuf hbel hlt hi
      go_wp2_with fail
      refine HT.out.mono ?_
      rintro e w' ⟨rfl, rfl⟩
      go_wp2
      go_ret
      exact ⟨_, rfl, HR.out, HBel.out⟩
end Go.Proofs.YteajinpfigejfaaGreatDoor
namespace Go.Proofs.YteajinpfigejfaaGreatDoor
open Go Go.RowKit Gu

theorem nd_rmul {a b m k : Nat} (ha : nd 65536 a ≤ m) (hb : nd 65536 b ≤ k) : nd 65536 (a * b) ≤ m + k := by
  have h1 := (nd_le (by decide : 2 ≤ 65536)).1 ha
  have h2 := (nd_le (by decide : 2 ≤ 65536)).1 hb
  apply (nd_le (by decide : 2 ≤ 65536)).2
  rw [Nat.pow_add]
  exact Nat.mul_lt_mul_of_lt_of_le h1 (Nat.le_of_lt h2) (Nat.pow_pos (by decide))
end Go.Proofs.YteajinpfigejfaaGreatDoor
namespace Go.Proofs.YteajinpfigejfaaGreatDoor
open Go Go.RowKit Gu

/-- a fraction whose denominator is at most L is its own best approximation -/
theorem best_self {p q L : Nat} (hq : 0 < q) (hqL : q ≤ L) (hg : Nat.gcd p q = 1) : IsBest p q L p q := by
  have e0 : gapN p q p q = 0 := by unfold gapN; split <;> omega
  refine ⟨hq, hqL, hg, fun c d hd hdL => ?_⟩
  rw [e0, Nat.zero_mul]
  refine ⟨Nat.zero_le _, fun he => ?_⟩
  have h1 : gapN p q c d = 0 := by
    rcases Nat.eq_zero_or_pos (gapN p q c d) with h | h
    · exact h
    · have := Nat.mul_pos h hq; omega
  have h2 : p * d = c * q := by
    unfold gapN at h1
    split at h1 <;> omega
  obtain ⟨h3, h4⟩ := same_frac hg hq hd h2
  rcases Nat.lt_or_ge q d with h5 | h5
  · exact .inl h5
  · exact .inr ⟨by omega, Nat.le_of_eq (h4 (by omega))⟩
theorem Best_all (v u : Value) (n a b : Nat) (w : World) (hv : D w v a) (hu : D w u b) (hn1 : 1 ≤ n) (hn2 : n ≤ 9223372036854775807) (hb0 : 0 < b) (hg : Nat.gcd a b = 1) (ha : nd 4294967296 a ≤ 1000) (hb : nd 4294967296 b ≤ 1000) :
    Calls Tryz.prog 8 #[.agg #[v, u], .int .i64 n] w fun e w' => ∃ r s x y, e = .returned (.tuple #[.agg #[r, s], .int .i64 0]) ∧ D w' r x ∧ D w' s y ∧ IsBest a b n x y ∧ Below w.heap.size w w' := by
  rcases Nat.lt_or_ge n b with h | h
  · have ha0 : 0 < a := by
      rcases Nat.eq_zero_or_pos a with h0 | h0
      · subst h0; rw [Nat.gcd_zero_left] at hg; omega
      · exact h0
    exact Best_near v u n a b w hv hu hn1 hn2 h ha0 hg ha hb
  · have hc := Best_copy v u n a b w hv hu hn1 hn2 (by rw [dn_of hb0]; exact h) (by omega)
    rw [dn_of hb0] at hc
    exact hc.mono fun e w' ⟨r, s, he, hr, hs, hB⟩ => ⟨r, s, a, b, he, hr, hs, best_self hb0 h hg, hB⟩
theorem sub_fit {L M : Nat} (h1 : nd 65536 L ≤ 100) (h2 : nd 65536 M ≤ 100) : ffE (lowP L M) (lowQ L M) = 0 ∧ ffN (lowP L M) (lowQ L M) (lowP L M) = lowP L M ∧ ffN (lowP L M) (lowQ L M) (lowQ L M) = lowQ L M := by
  have e1 := fit_ok (Nat.le_trans (nd_mono (B := 65536) (by decide) (show lowP L M ≤ L from Nat.div_le_self _ _)) (Nat.le_trans h1 (by decide)))
  have e2 := fit_ok (Nat.le_trans (nd_mono (B := 65536) (by decide) (show lowQ L M ≤ M from Nat.div_le_self _ _)) (Nat.le_trans h2 (by decide)))
  exact ⟨if_pos ⟨e1, e2⟩, if_pos ⟨e1, e2⟩, if_pos ⟨e1, e2⟩⟩
set_option maxHeartbeats 2000000 in
theorem apart_any (v u x y : Value) (a b c d : Nat) (w : World) (hv : D w v a) (hu : D w u b) (hx : D w x c) (hy : D w y d) (hb0 : 0 < b) (hd0 : 0 < d) (ha : nd 65536 a ≤ 20) (hb : nd 65536 b ≤ 20) (hc : nd 65536 c ≤ 20) (hd : nd 65536 d ≤ 20) :
    Calls Tryz.prog 17 #[.agg #[v, u], .agg #[x, y]] w fun e w' => ∃ o l k o2 l2 k2, e = .returned (.agg #[.slice o l k, .slice o2 l2 k2]) ∧ D w' (.slice o l k) (lowP (gapN a b c d) (b * d)) ∧ D w' (.slice o2 l2 k2) (lowQ (gapN a b c d) (b * d)) ∧ Below w.heap.size w w' := by
  have b3 : ∀ o1 o2 o3, Below w.heap.size w (((w.alloc o1).alloc o2).alloc o3) := fun o1 o2 o3 => (((Below.refl _ _).alloc (Nat.le_refl _) _).alloc (by simp) _).alloc (by simp; omega) _
  have k1 := nd_32 ha; have k2 := nd_32 hb; have k3 := nd_32 hc; have k4 := nd_32 hd
  have m1 := nd_rmul ha hd; have m2 := nd_rmul hc hb; have m3 := nd_rmul hb hd
  obtain ⟨W0, hW0⟩ : ∃ W0 : World, W0 = ((w.alloc (.cells #[v, u] 26)).alloc (.cells #[x, y] 26)).alloc (.cells #[.slice none 0 0, .slice none 0 0] 26) := ⟨_, rfl⟩
  have hz0 : W0.heap.size = w.heap.size + 1 + 1 + 1 := by rw [hW0]; simp
  have hbw : Below w.heap.size w W0 := by rw [hW0]; exact b3 _ _ _
  have past : ∀ (W : World) (o : Obj) (k j : Nat) (q : Value), k < W.heap.size → W.cell? ⟨k, j, none⟩ = some q → (W.alloc o).cell? ⟨k, j, none⟩ = some q := fun W o k j q h1 h2 => (World.cell?_alloc_past _ _ _ h1).trans h2
  have c00 : W0.cell? ⟨w.heap.size, 0, none⟩ = some v := by rw [hW0]; exact past _ _ _ _ _ (by simp <;> omega) (past _ _ _ _ _ (by simp) (World.cell?_alloc_at _ _ _ _ rfl))
  have c01 : W0.cell? ⟨w.heap.size, 1, none⟩ = some u := by rw [hW0]; exact past _ _ _ _ _ (by simp <;> omega) (past _ _ _ _ _ (by simp) (World.cell?_alloc_at _ _ _ _ rfl))
  have c10 : W0.cell? ⟨w.heap.size + 1, 0, none⟩ = some x := by rw [hW0]; exact past _ _ _ _ _ (by simp) (World.cell?_alloc_at _ _ _ _ (by simp))
  have c11 : W0.cell? ⟨w.heap.size + 1, 1, none⟩ = some y := by rw [hW0]; exact past _ _ _ _ _ (by simp) (World.cell?_alloc_at _ _ _ _ (by simp))
  have r0 : W0.cell? ⟨w.heap.size + 1 + 1, 0, none⟩ = some (.slice none 0 0) := by rw [hW0]; exact World.cell?_alloc_at _ _ _ _ (by simp)
  have r1 : W0.cell? ⟨w.heap.size + 1 + 1, 1, none⟩ = some (.slice none 0 0) := by rw [hW0]; exact World.cell?_alloc_at _ _ _ _ (by simp)
  have z0 : W0.frozen? ⟨w.heap.size + 1 + 1, 0, none⟩ = false := by rw [hW0]; exact World.frozen?_alloc_at _ _ _ _ (by simp)
  have z1 : W0.frozen? ⟨w.heap.size + 1 + 1, 1, none⟩ = false := by rw [hW0]; exact World.frozen?_alloc_at _ _ _ _ (by simp)
  have HW0 := Lib.hid hW0
  have HBW := Lib.hid hbw
  have HK : Hid (∀ W, Below W0.heap.size W0 W → (W.cell? ⟨w.heap.size, 0, none⟩ = some v ∧ W.cell? ⟨w.heap.size, 1, none⟩ = some u ∧ W.cell? ⟨w.heap.size + 1, 0, none⟩ = some x ∧ W.cell? ⟨w.heap.size + 1, 1, none⟩ = some y) ∧ W.cell? ⟨w.heap.size + 1 + 1, 0, none⟩ = some (.slice none 0 0) ∧ W.cell? ⟨w.heap.size + 1 + 1, 1, none⟩ = some (.slice none 0 0) ∧ W.frozen? ⟨w.heap.size + 1 + 1, 0, none⟩ = false ∧ W.frozen? ⟨w.heap.size + 1 + 1, 1, none⟩ = false) := fun W h =>
    ⟨⟨(h.cell (p := ⟨w.heap.size, 0, none⟩) (by show w.heap.size < _; omega)).trans c00, (h.cell (p := ⟨w.heap.size, 1, none⟩) (by show w.heap.size < _; omega)).trans c01, (h.cell (p := ⟨w.heap.size + 1, 0, none⟩) (by show w.heap.size + 1 < _; omega)).trans c10, (h.cell (p := ⟨w.heap.size + 1, 1, none⟩) (by show w.heap.size + 1 < _; omega)).trans c11⟩,
      (h.cell (p := ⟨w.heap.size + 1 + 1, 0, none⟩) (by show w.heap.size + 1 + 1 < _; omega)).trans r0, (h.cell (p := ⟨w.heap.size + 1 + 1, 1, none⟩) (by show w.heap.size + 1 + 1 < _; omega)).trans r1, (h.frozen (p := ⟨w.heap.size + 1 + 1, 0, none⟩) (by show w.heap.size + 1 + 1 < _; omega)).trans z0, (h.frozen (p := ⟨w.heap.size + 1 + 1, 1, none⟩) (by show w.heap.size + 1 + 1 < _; omega)).trans z1⟩
  have HV := Lib.hid (hv.below hbw); have HU := Lib.hid (hu.below hbw); have HX := Lib.hid (hx.below hbw); have HY := Lib.hid (hy.below hbw)
  have hzB : Hid (w.heap.size + 1 + 1 < W0.heap.size) := by show _ < _; omega
  rcases Nat.lt_or_ge (a * d) (c * b) with h | h
  · have e : gapN a b c d = c * b - a * d := if_pos h
    rw [e]
    have HS1 := Lib.hid (FSub_neg v u x y a b c d W0 HV.out HU.out HX.out HY.out (by omega) (by omega) (by omega) (by omega) (by rw [dn_of hb0, dn_of hd0]; exact h))
    have HS2 := Lib.hid (fun W (hb : Below W0.heap.size W0 W) => FSub_any x y v u c d a b W (HX.out.below hb) (HY.out.below hb) (HV.out.below hb) (HU.out.below hb) (by omega) (by omega) (by omega) (by omega) (by rw [dn_of hb0, dn_of hd0]; omega))
    rw [dn_of hb0, dn_of hd0, Nat.mul_comm d b] at HS2
    unfold FRes at HS2
    rw [(sub_fit (L := c * b - a * d) (M := b * d) (Nat.le_trans (nd_mono (by decide) (Nat.sub_le _ _)) (by omega)) (by omega)).1, (sub_fit (L := c * b - a * d) (M := b * d) (Nat.le_trans (nd_mono (by decide) (Nat.sub_le _ _)) (by omega)) (by omega)).2.1, (sub_fit (L := c * b - a * d) (M := b * d) (Nat.le_trans (nd_mono (by decide) (Nat.sub_le _ _)) (by omega)) (by omega)).2.2] at HS2
    have f0 := (HK.out W0 (Below.refl _ _)).1
    obtain ⟨vo, vc, rfl, -⟩ := hv.shape
    obtain ⟨uo, uc, rfl, -⟩ := hu.shape
    obtain ⟨xo, xc, rfl, -⟩ := hx.shape
    obtain ⟨yo, yc, rfl, -⟩ := hy.shape
    clear hv hu hx hy b3 hW0 hbw past c00 c01 c10 c11 r0 r1 z0 z1 h e hz0
    generalize lowP (c * b - a * d) (b * d) = P at *
    generalize lowQ (c * b - a * d) (b * d) = Q at *
    go_enter Tryz.func17, Tryz.ntmps17
    go_wp2_with fail
    rw [← HW0.out]
    refine HS1.out.mono ?_
    rintro e w1 ⟨rfl, hb1⟩
    obtain ⟨W1, hW1⟩ : ∃ W1 : World, W1 = w1.alloc (.cells #[.slice none 0 0, .slice none 0 0] 26) := ⟨_, rfl⟩
    have hal : Below w1.heap.size w1 W1 := by rw [hW1]; exact (Below.refl _ _).alloc (Nat.le_refl _) _
    have hB1 := hb1.trans (hal.mono hb1.size)
    have hlt1 : w1.heap.size < W1.heap.size := by rw [hW1]; simp
    have s0 : W1.cell? ⟨w1.heap.size, 0, none⟩ = some (.slice none 0 0) := by rw [hW1]; exact World.cell?_alloc_at _ _ _ _ rfl
    have s1 : W1.cell? ⟨w1.heap.size, 1, none⟩ = some (.slice none 0 0) := by rw [hW1]; exact World.cell?_alloc_at _ _ _ _ rfl
    have q0 : W1.frozen? ⟨w1.heap.size, 0, none⟩ = false := by rw [hW1]; exact World.frozen?_alloc_at _ _ _ _ rfl
    have q1 : W1.frozen? ⟨w1.heap.size, 1, none⟩ = false := by rw [hW1]; exact World.frozen?_alloc_at _ _ _ _ rfl
    have HB1 := Lib.hid hB1
    have HL1 := Lib.hid hlt1; have HZ1 := Lib.hid hb1.size
    have HW1 := Lib.hid hW1
    have f1 := (HK.out _ hB1).1
    rw [hW1] at f1
    have S0 := Lib.hid s0; have S1 := Lib.hid s1; have Q0 := Lib.hid q0; have Q1 := Lib.hid q1
    clear hb1 hal hB1 hlt1 s0 s1 q0 q1 hW1 f0
    go_wp2_with fail
    rw [← HW1.out]
    refine (HS2.out _ HB1.out).mono ?_
    rintro e w2 ⟨r, s, rfl, hr, hs, hb2⟩
    obtain ⟨ro, rc, rfl, -⟩ := hr.shape
    obtain ⟨so, sc, rfl, -⟩ := hs.shape
    have hB2 := HB1.out.trans (hb2.mono HB1.out.size)
    have s0 := (hb2.cell (p := ⟨w1.heap.size, 0, none⟩) HL1.out).trans S0.out
    have s1 := (hb2.cell (p := ⟨w1.heap.size, 1, none⟩) HL1.out).trans S1.out
    have q0 := (hb2.frozen (p := ⟨w1.heap.size, 0, none⟩) HL1.out).trans Q0.out
    have q1 := (hb2.frozen (p := ⟨w1.heap.size, 1, none⟩) HL1.out).trans Q1.out
    obtain ⟨-, r0, r1, z0, z1⟩ := HK.out _ hB2
    have hne : w1.heap.size ≠ w.heap.size + 1 + 1 := by have h1 := HZ1.out; have h2 := hzB.out; omega
    have hne' : ¬ w.heap.size + 1 + 1 = w1.heap.size := fun h => hne h.symm
    obtain ⟨t0, t1⟩ := read_two s0 s1 (.slice ro (nd 4294967296 P) rc) (.slice so (nd 4294967296 Q) sc)
    obtain ⟨W2, hW2⟩ : ∃ W2, W2 = (w2.setCell ⟨w1.heap.size, 0, none⟩ (.slice ro (nd 4294967296 P) rc)).setCell ⟨w1.heap.size, 1, none⟩ (.slice so (nd 4294967296 Q) sc) := ⟨_, rfl⟩
    have hr2 : D W2 (.slice ro (nd 4294967296 P) rc) P := by rw [hW2]; exact IsN_setTwo hr s0 s1 (by intro d h; cases h) (by intro d h; cases h) _ _
    have hs2 : D W2 (.slice so (nd 4294967296 Q) sc) Q := by rw [hW2]; exact IsN_setTwo hs s0 s1 (by intro d h; cases h) (by intro d h; cases h) _ _
    have x0 : W2.cell? ⟨w.heap.size + 1 + 1, 0, none⟩ = some (.slice none 0 0) := by
      rw [hW2, World.cell?_setCell_far _ _ _ _ hne, World.cell?_setCell_far _ _ _ _ hne]; exact r0
    have x1 : W2.cell? ⟨w.heap.size + 1 + 1, 1, none⟩ = some (.slice none 0 0) := by
      rw [hW2, World.cell?_setCell_far _ _ _ _ hne, World.cell?_setCell_far _ _ _ _ hne]; exact r1
    have hwle : Hid (w.heap.size ≤ w1.heap.size) := by
      have h1 := HZ1.out; have h2 := hzB.out
      show _ ≤ _
      omega
    have hbw2 : Below w.heap.size w W2 := by
      rw [hW2]
      exact ((HBW.out.trans (hB2.mono HBW.out.size)).setCell hwle.out _).setCell hwle.out _
    obtain ⟨e1, e2, t2, t3, e3⟩ := two_store (w := w) (B := w.heap.size + 1 + 1) hr2 hs2 x0 x1 hbw2 (by omega)
    rw [hW2] at e1 e2 t2 t3 e3
    have E1 := Lib.hid e1; have E2 := Lib.hid e2; have E3 := Lib.hid e3; have T2 := Lib.hid t2; have T3 := Lib.hid t3
    clear e1 e2 t2 t3 e3 hr hs hr2 hs2 hB2 hb2 hbw2 x0 x1 hW2 f1
    go_wp2
    have t2 := T2.out; have t3 := T3.out
    refine bodyPost_ret (v := .agg #[.slice ro (nd 4294967296 P) rc, .slice so (nd 4294967296 Q) sc]) (by simp [results, Tryz.results17, go_sem, t2, t3]) rfl ⟨_, _, _, _, _, _, rfl, E1.out, E2.out, E3.out⟩
  · have e : gapN a b c d = a * d - c * b := if_neg (by omega)
    rw [e]
    have HS1 := Lib.hid (FSub_any v u x y a b c d W0 HV.out HU.out HX.out HY.out (by omega) (by omega) (by omega) (by omega) (by rw [dn_of hb0, dn_of hd0]; exact h))
    rw [dn_of hb0, dn_of hd0] at HS1
    unfold FRes at HS1
    rw [(sub_fit (L := a * d - c * b) (M := b * d) (Nat.le_trans (nd_mono (by decide) (Nat.sub_le _ _)) (by omega)) (by omega)).1, (sub_fit (L := a * d - c * b) (M := b * d) (Nat.le_trans (nd_mono (by decide) (Nat.sub_le _ _)) (by omega)) (by omega)).2.1, (sub_fit (L := a * d - c * b) (M := b * d) (Nat.le_trans (nd_mono (by decide) (Nat.sub_le _ _)) (by omega)) (by omega)).2.2] at HS1
    have f0 := (HK.out W0 (Below.refl _ _)).1
    obtain ⟨vo, vc, rfl, -⟩ := hv.shape
    obtain ⟨uo, uc, rfl, -⟩ := hu.shape
    obtain ⟨xo, xc, rfl, -⟩ := hx.shape
    obtain ⟨yo, yc, rfl, -⟩ := hy.shape
    clear hv hu hx hy b3 hW0 hbw past c00 c01 c10 c11 r0 r1 z0 z1 h e hz0
    generalize lowP (a * d - c * b) (b * d) = P at *
    generalize lowQ (a * d - c * b) (b * d) = Q at *
    go_enter Tryz.func17, Tryz.ntmps17
    go_wp2_with fail
    rw [← HW0.out]
    refine HS1.out.mono ?_
    rintro e w1 ⟨r, s, rfl, hr, hs, hb1⟩
    obtain ⟨ro, rc, rfl, -⟩ := hr.shape
    obtain ⟨so, sc, rfl, -⟩ := hs.shape
    have hal : Below w1.heap.size w1 (w1.alloc (.cells #[.slice ro (nd 4294967296 P) rc, .slice so (nd 4294967296 Q) sc] 26)) := (Below.refl _ _).alloc (Nat.le_refl _) _
    have hB1 := hb1.trans (hal.mono hb1.size)
    obtain ⟨-, r0, r1, z0, z1⟩ := HK.out _ hB1
    obtain ⟨e1, e2, t2, t3, e3⟩ := two_store (w := w) (B := w.heap.size + 1 + 1) (hr.below hal) (hs.below hal) r0 r1 (HBW.out.trans (hB1.mono HBW.out.size)) (by omega)
    have E1 := Lib.hid e1; have E2 := Lib.hid e2; have E3 := Lib.hid e3; have T2 := Lib.hid t2; have T3 := Lib.hid t3
    clear e1 e2 t2 t3 e3 hr hs hal hB1 hb1 f0
    go_wp2
    have t2 := T2.out; have t3 := T3.out
    refine bodyPost_ret (v := .agg #[.slice ro (nd 4294967296 P) rc, .slice so (nd 4294967296 Q) sc]) (by simp [results, Tryz.results17, go_sem, t2, t3]) rfl ⟨_, _, _, _, _, _, rfl, E1.out, E2.out, E3.out⟩
end Go.Proofs.YteajinpfigejfaaGreatDoor
