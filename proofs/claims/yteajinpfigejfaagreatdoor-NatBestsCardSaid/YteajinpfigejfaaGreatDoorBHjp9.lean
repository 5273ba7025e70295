/- WHAT IS PROVED: for any two slices of 16-bit digits (of which the first 6 count) and every int, Best returns the best approximation of the fraction with a denominator of at most that many, as found by trying each denominator up to 200, or ErrArg; and the few plain results of awake hold. Conditions: the listed tables of the library hold what the program's text lays (the card ties them). -/
import Derived.Test.YteajinpfigejfaaGreatDoorBHjp8
import Derived.Test.YteajinpfigejfaaGreatDoorBHjp6
import Derived.Test.YteajinpfigejfaaGreatDoorBHjp3
import Derived.Test.YteajinpfigejfaaGreatDoorRows
import Derived.ProofKit
import Derived.LaidMore
import Derived.LaidSub
import Derived.Lay
import Derived.OpenShut
import Derived.Lib.LaidTab
import Derived.Stop.Joined
import Derived.Test.YteajinpfigejfaaGreatDoorBHjp4
import Derived.Carry
import Derived.Test.YteajinpfigejfaaGreatDoorCards
import Derived.Test.YteajinpfigejfaaGreatDoorTie
namespace Go.Proofs.YteajinpfigejfaaGreatDoor
open Go Go.RowKit Gu

/-- what the end of a function with two results of two cells reads -/
theorem half_end {w W : World} {a0 a1 a2 a3 : Value} (d0 : W.cell? ⟨w.heap.size, 0, none⟩ = some a0) (d1 : W.cell? ⟨w.heap.size, 1, none⟩ = some a1) (d2 : W.cell? ⟨w.heap.size + 1, 0, none⟩ = some a2) (d3 : W.cell? ⟨w.heap.size + 1, 1, none⟩ = some a3) (hb : Below w.heap.size w W) (x y p q : Value) :
    let W4 := (((W.setCell ⟨w.heap.size, 0, none⟩ x).setCell ⟨w.heap.size, 1, none⟩ y).setCell ⟨w.heap.size + 1, 0, none⟩ p).setCell ⟨w.heap.size + 1, 1, none⟩ q
    W4.cell? ⟨w.heap.size, 0, none⟩ = some x ∧ W4.cell? ⟨w.heap.size, 1, none⟩ = some y ∧ W4.cell? ⟨w.heap.size + 1, 0, none⟩ = some p ∧ W4.cell? ⟨w.heap.size + 1, 1, none⟩ = some q ∧ Below w.heap.size w W4 := by
  obtain ⟨t0, t1⟩ := read_two d0 d1 x y
  have far : ∀ o, (w.heap.size + 1) ≠ (⟨w.heap.size, o, none⟩ : Addr).block := fun o => by show w.heap.size + 1 ≠ w.heap.size; omega
  have far' : ∀ o, (w.heap.size) ≠ (⟨w.heap.size + 1, o, none⟩ : Addr).block := fun o => by show w.heap.size ≠ w.heap.size + 1; omega
  have e2 : ((W.setCell ⟨w.heap.size, 0, none⟩ x).setCell ⟨w.heap.size, 1, none⟩ y).cell? ⟨w.heap.size + 1, 0, none⟩ = some a2 := by
    rw [World.cell?_setCell_far _ _ _ _ (far' 0), World.cell?_setCell_far _ _ _ _ (far' 0)]; exact d2
  have e3 : ((W.setCell ⟨w.heap.size, 0, none⟩ x).setCell ⟨w.heap.size, 1, none⟩ y).cell? ⟨w.heap.size + 1, 1, none⟩ = some a3 := by
    rw [World.cell?_setCell_far _ _ _ _ (far' 1), World.cell?_setCell_far _ _ _ _ (far' 1)]; exact d3
  obtain ⟨t2, t3⟩ := read_two e2 e3 p q
  refine ⟨?_, ?_, t2, t3, ((((hb.setCell (Nat.le_refl _) _).setCell (Nat.le_refl _) _).setCell (by show w.heap.size ≤ w.heap.size + 1; omega) _).setCell (by show w.heap.size ≤ w.heap.size + 1; omega) _)⟩
  · rw [World.cell?_setCell_far _ _ _ _ (far 0), World.cell?_setCell_far _ _ _ _ (far 0)]; exact t0
  · rw [World.cell?_setCell_far _ _ _ _ (far 1), World.cell?_setCell_far _ _ _ _ (far 1)]; exact t1
set_option maxHeartbeats 2000000 in
theorem half_zero (u v : Value) (xs ys : List Nat) (m : Nat) (w : World) (hu : IsRaw w u xs) (hv : IsRaw w v ys) (hl1 : xs.length ≤ maxLen) (hl2 : ys.length ≤ maxLen) (hm : m ≤ 1000) (hb0 : rawN ys m = 0) :
    Calls Tryz.prog 6 #[u, v, .int .i64 m] w fun e w' => e = .returned (.tuple #[.agg #[.slice none 0 0, .slice none 0 0], .agg #[.slice none 0 0, .slice none 0 0], .bool false]) ∧ Below w.heap.size w w' := by
  have b2 : ∀ o1 o2, Below w.heap.size w ((w.alloc o1).alloc o2) := fun o1 o2 => ((Below.refl _ _).alloc (Nat.le_refl _) _).alloc (by simp) _
  have HR1 := Lib.hid (fun W (h : IsRaw W u xs) => Raw_any u xs m W h hl1 (by omega))
  have HR2 := Lib.hid (fun W (h : IsRaw W v ys) => Raw_any v ys m W h hl2 (by omega))
  rw [hb0] at HR2
  have HU := Lib.hid (fun o1 o2 => IsRaw.below hu (b2 o1 o2))
  have HV := Lib.hid (fun o1 o2 => IsRaw.below hv (b2 o1 o2))
  have HB := Lib.hid b2
  obtain ⟨uo, uc, rfl, -⟩ := hu.shape
  obtain ⟨vo, vc, rfl, -⟩ := hv.shape
  clear hu hv b2 hb0
  generalize rawN xs m = a at *
  go_enter Tryz.func6, Tryz.ntmps6
  go_wp2_with fail
  refine (HR1.out _ (HU.out _ _)).mono ?_
  rintro e w1 ⟨c, rfl, hc, hb1⟩
  obtain ⟨co, cc, rfl, -⟩ := hc.shape
  have HV1 := Lib.hid (IsRaw.below (HV.out _ _) hb1)
  have HB1 := Lib.hid hb1
  clear hc hb1
  go_wp2_with fail
  refine (HR2.out _ HV1.out).mono ?_
  rintro e w2 ⟨d, rfl, hd, hb2⟩
  obtain ⟨eo, ec, rfl, -⟩ := hd.shape
  rw [nd_zero]
  have hbt := HB1.out.trans (hb2.mono HB1.out.size)
  have c0 : ∀ k o, (k = w.heap.size ∨ k = w.heap.size + 1) → (o = 0 ∨ o = 1) → w2.cell? ⟨k, o, none⟩ = some (.slice none 0 0) ∧ w2.frozen? ⟨k, o, none⟩ = false := by
    intro k o hk ho
    have hl : k < ((w.alloc (.cells #[.slice none 0 0, .slice none 0 0] 26)).alloc (.cells #[.slice none 0 0, .slice none 0 0] 29)).heap.size := by simp; omega
    refine ⟨(hbt.cell (p := ⟨k, o, none⟩) hl).trans ?_, (hbt.frozen (p := ⟨k, o, none⟩) hl).trans ?_⟩
    · rcases hk with rfl | rfl
      · refine (World.cell?_alloc_past _ _ _ (by simp)).trans ?_
        rcases ho with rfl | rfl <;> exact World.cell?_alloc_at _ _ _ _ rfl
      · rcases ho with rfl | rfl <;> exact World.cell?_alloc_at _ _ _ _ (by simp)
    · rcases hk with rfl | rfl
      · refine (((Below.refl _ _).alloc (Nat.le_refl _) _).frozen (p := ⟨w.heap.size, o, none⟩) (by simp)).trans ?_
        rcases ho with rfl | rfl <;> exact World.frozen?_alloc_at _ _ _ _ rfl
      · rcases ho with rfl | rfl <;> exact World.frozen?_alloc_at _ _ _ _ (by simp)
  obtain ⟨a0, f0⟩ := c0 _ 0 (.inl rfl) (.inl rfl)
  obtain ⟨a1, f1⟩ := c0 _ 1 (.inl rfl) (.inr rfl)
  obtain ⟨a2, f2⟩ := c0 _ 0 (.inr rfl) (.inl rfl)
  obtain ⟨a3, f3⟩ := c0 _ 1 (.inr rfl) (.inr rfl)
  have HBE := Lib.hid ((HB.out _ _).trans (hbt.mono (HB.out _ _).size))
  have HA := Lib.hid (And.intro a0 (And.intro a1 (And.intro a2 a3)))
  clear hd hb2 hbt c0
  go_wp2
  obtain ⟨q0, q1, q2, q3, q4⟩ := half_end (w := w) HA.out.1 HA.out.2.1 HA.out.2.2.1 HA.out.2.2.2 HBE.out (.slice none 0 0) (.slice none 0 0) (.slice none 0 0) (.slice none 0 0)
  refine bodyPost_ret (v := .tuple #[.agg #[.slice none 0 0, .slice none 0 0], .agg #[.slice none 0 0, .slice none 0 0], .bool false]) (by simp [results, Tryz.results6, go_sem, q0, q1, q2, q3]) rfl ⟨rfl, q4⟩
theorem half_keep {k : IntKind} {B : Nat} {w W : World} {v : Value} {n : Nat} (h : IsN k B W v n)
    (hr : ∀ j o, (j = w.heap.size ∨ j = w.heap.size + 1) → (o = 0 ∨ o = 1) → (∃ o' l c, W.cell? ⟨j, o, none⟩ = some (.slice o' l c)) ∧ W.frozen? ⟨j, o, none⟩ = false) (x y p q : Value) :
    IsN k B ((((W.setCell ⟨w.heap.size, 0, none⟩ x).setCell ⟨w.heap.size, 1, none⟩ y).setCell ⟨w.heap.size + 1, 0, none⟩ p).setCell ⟨w.heap.size + 1, 1, none⟩ q) v n := by
  obtain ⟨⟨o0, l0, c0, d0⟩, -⟩ := hr _ 0 (.inl rfl) (.inl rfl)
  obtain ⟨⟨o1, l1, c1, d1⟩, -⟩ := hr _ 1 (.inl rfl) (.inr rfl)
  obtain ⟨⟨o2, l2, c2, d2⟩, -⟩ := hr _ 0 (.inr rfl) (.inl rfl)
  obtain ⟨⟨o3, l3, c3, d3⟩, -⟩ := hr _ 1 (.inr rfl) (.inr rfl)
  have far' : ∀ o, (w.heap.size) ≠ (⟨w.heap.size + 1, o, none⟩ : Addr).block := fun o => by show w.heap.size ≠ w.heap.size + 1; omega
  have e2 : ((W.setCell ⟨w.heap.size, 0, none⟩ x).setCell ⟨w.heap.size, 1, none⟩ y).cell? ⟨w.heap.size + 1, 0, none⟩ = some (.slice o2 l2 c2) := by
    rw [World.cell?_setCell_far _ _ _ _ (far' 0), World.cell?_setCell_far _ _ _ _ (far' 0)]; exact d2
  have e3 : ((W.setCell ⟨w.heap.size, 0, none⟩ x).setCell ⟨w.heap.size, 1, none⟩ y).cell? ⟨w.heap.size + 1, 1, none⟩ = some (.slice o3 l3 c3) := by
    rw [World.cell?_setCell_far _ _ _ _ (far' 1), World.cell?_setCell_far _ _ _ _ (far' 1)]; exact d3
  exact IsN_setTwo (IsN_setTwo h d0 d1 (by intro d e; cases e) (by intro d e; cases e) _ _) e2 e3 (by intro d e; cases e) (by intro d e; cases e) _ _
/-- what half's last region keeps -/
structure StH (w : World) (F : Nat) (v u x y : Value) (P Q a b : Nat) (W : World) : Prop where
  n1 : D W v P
  n2 : D W u Q
  d1 : R W x a
  d2 : R W y b
  bel : Below w.heap.size w W
  hF : w.heap.size + 1 < F
  lt : F < W.heap.size
  f0 : W.cell? ⟨F, 0, none⟩ = some v
  f1 : W.cell? ⟨F, 1, none⟩ = some u
  r : ∀ j o, (j = w.heap.size ∨ j = w.heap.size + 1) → (o = 0 ∨ o = 1) → (∃ o' l c, W.cell? ⟨j, o, none⟩ = some (.slice o' l c)) ∧ W.frozen? ⟨j, o, none⟩ = false
theorem StH.next {w W W' : World} {F : Nat} {v u x y : Value} {P Q a b : Nat} (h : StH w F v u x y P Q a b W) (hb : Below W.heap.size W W') : StH w F v u x y P Q a b W' :=
  ⟨h.n1.below hb, h.n2.below hb, h.d1.below hb, h.d2.below hb, h.bel.trans (hb.mono h.bel.size), h.hF, Nat.lt_of_lt_of_le h.lt hb.size, (hb.cell (p := ⟨F, 0, none⟩) h.lt).trans h.f0, (hb.cell (p := ⟨F, 1, none⟩) h.lt).trans h.f1,
    fun j o hj ho => by
      have hl : j < W.heap.size := by have := h.hF; have := h.lt; omega
      obtain ⟨⟨o', l, c, hc⟩, hf⟩ := h.r j o hj ho
      exact ⟨⟨o', l, c, (hb.cell (p := ⟨j, o, none⟩) hl).trans hc⟩, (hb.frozen (p := ⟨j, o, none⟩) hl).trans hf⟩⟩
theorem StH.set {w W : World} {F : Nat} {v u x y : Value} {P Q a b : Nat} (h : StH w F v u x y P Q a b W) {j : Nat} (hj : j = w.heap.size ∨ j = w.heap.size + 1) (o1 : Option Addr) (l1 c1 : Nat) (o2 : Option Addr) (l2 c2 : Nat) :
    StH w F v u x y P Q a b ((W.setCell ⟨j, 0, none⟩ (.slice o1 l1 c1)).setCell ⟨j, 1, none⟩ (.slice o2 l2 c2)) := by
  obtain ⟨⟨p0, q0, s0, d0⟩, -⟩ := h.r j 0 hj (.inl rfl)
  obtain ⟨⟨p1, q1, s1, d1⟩, -⟩ := h.r j 1 hj (.inr rfl)
  have hk : ∀ {k : IntKind} {B : Nat} {z : Value} {n : Nat}, IsN k B W z n → IsN k B ((W.setCell ⟨j, 0, none⟩ (.slice o1 l1 c1)).setCell ⟨j, 1, none⟩ (.slice o2 l2 c2)) z n := fun hz => IsN_setTwo hz d0 d1 (by intro d e; cases e) (by intro d e; cases e) _ _
  have hFj : j ≠ F := by have := h.hF; omega
  have hw : w.heap.size ≤ j := by omega
  obtain ⟨t0, t1⟩ := read_two d0 d1 (.slice o1 l1 c1) (.slice o2 l2 c2)
  refine ⟨hk h.n1, hk h.n2, hk h.d1, hk h.d2, (h.bel.setCell hw _).setCell hw _, h.hF, by rw [World.size_setCell, World.size_setCell]; exact h.lt, ?_, ?_, fun i o hi ho => ⟨?_, ?_⟩⟩
  · rw [World.cell?_setCell_far _ _ _ _ hFj, World.cell?_setCell_far _ _ _ _ hFj]; exact h.f0
  · rw [World.cell?_setCell_far _ _ _ _ hFj, World.cell?_setCell_far _ _ _ _ hFj]; exact h.f1
  · by_cases e : i = j
    · subst e
      rcases ho with rfl | rfl
      · exact ⟨_, _, _, t0⟩
      · exact ⟨_, _, _, t1⟩
    · obtain ⟨⟨o', l, c, hc⟩, -⟩ := h.r i o hi ho
      refine ⟨o', l, c, ?_⟩
      rw [World.cell?_setCell_far _ _ _ _ (fun e' => e e'.symm), World.cell?_setCell_far _ _ _ _ (fun e' => e e'.symm)]; exact hc
  · have := (h.r i o hi ho).2
    simpa using this
set_option maxHeartbeats 4000000 in
set_option maxRecDepth 100000 in
theorem half_pos (u v : Value) (xs ys : List Nat) (m : Nat) (w : World) (hu : IsRaw w u xs) (hv : IsRaw w v ys) (hl1 : xs.length ≤ maxLen) (hl2 : ys.length ≤ maxLen) (hm : m ≤ 300) (hb0 : 0 < rawN ys m) :
    Calls Tryz.prog 6 #[u, v, .int .i64 m] w fun e w' => ∃ r1 s1 r2 s2, e = .returned (.tuple #[.agg #[r1, s1], .agg #[r2, s2], .bool true]) ∧ D w' r1 (lowP (rawN xs m) (rawN ys m)) ∧ D w' s1 (lowQ (rawN xs m) (rawN ys m)) ∧ R w' r2 (lowP (rawN xs m) (rawN ys m)) ∧ R w' s2 (lowQ (rawN xs m) (rawN ys m)) ∧ Below w.heap.size w w' := by
  have b2 : ∀ o1 o2, Below w.heap.size w ((w.alloc o1).alloc o2) := fun o1 o2 => ((Below.refl _ _).alloc (Nat.le_refl _) _).alloc (by simp) _
  have HR1 := Lib.hid (fun W (h : IsRaw W u xs) => Raw_any u xs m W h hl1 (by omega))
  have HR2 := Lib.hid (fun W (h : IsRaw W v ys) => Raw_any v ys m W h hl2 (by omega))
  have hna := rawN_nd hu.1 m
  have hnb := rawN_nd hv.1 m
  have HU := Lib.hid (fun o1 o2 => IsRaw.below hu (b2 o1 o2))
  have HV := Lib.hid (fun o1 o2 => IsRaw.below hv (b2 o1 o2))
  have HB := Lib.hid b2
  obtain ⟨uo, uc, rfl, -⟩ := hu.shape
  obtain ⟨vo, vc, rfl, -⟩ := hv.shape
  clear hu hv b2
  generalize rawN xs m = a at *
  generalize rawN ys m = b at *
  have h32a : nd 4294967296 a ≤ 300 := Nat.le_trans (nd_32 hna) hm
  have h32b : nd 4294967296 b ≤ 300 := Nat.le_trans (nd_32 hnb) hm
  have hl0 := nd_pos (B := 65536) (by decide) hb0
  have hq : ((((nd 65536 b : Nat)) : Int) == 0) = false := beq_eq_false_iff_ne.2 (by omega)
  have HTW := Lib.hid (fun W x y (h1 : R W x a) (h2 : R W y b) => two_any x y a b W h1 h2 (by omega) (by omega))
  have HNF := Lib.hid (fun W v u (h1 : D W v a) (h2 : D W u b) => NewFrac_any (divide_long (max (nd 4294967296 a) (nd 4294967296 b)) (by omega)) v u a b W h1 h2 hb0 ((nd_le (by decide)).1 (Nat.le_max_left _ _)) ((nd_le (by decide)).1 (Nat.le_max_right _ _)))
  rw [show a / Nat.gcd a b = lowP a b from rfl, show b / Nat.gcd a b = lowQ a b from rfl] at HNF
  have HRL := Lib.hid (fun W v u (h1 : R W v a) (h2 : R W u b) => RLow_any v u a b W h1 h2 hb0 (by omega) (by omega))
  clear hna hnb h32a h32b hb0 hl0
  generalize lowP a b = P at *
  generalize lowQ a b = Q at *
  go_enter Tryz.func6, Tryz.ntmps6
  go_wp2_with fail
  refine (HR1.out _ (HU.out _ _)).mono ?_
  rintro e w1 ⟨c, rfl, hc, hb1⟩
  obtain ⟨co, cc, rfl, -⟩ := hc.shape
  have HV1 := Lib.hid (IsRaw.below (HV.out _ _) hb1)
  have HB1 := Lib.hid hb1; have HC1 := Lib.hid hc
  clear hc hb1
  go_wp2_with fail
  refine (HR2.out _ HV1.out).mono ?_
  rintro e w2 ⟨d, rfl, hd, hb2⟩
  obtain ⟨eo, ec, rfl, -⟩ := hd.shape
  have HB2 := Lib.hid (HB1.out.trans (hb2.mono HB1.out.size)); have HC2 := Lib.hid (HC1.out.below hb2); have HD2 := Lib.hid hd
  clear hd hb2
  go_wp2_with fail
  refine (HTW.out _ _ _ HC2.out HD2.out).mono ?_
  rintro e w3 ⟨x, y, rfl, hx, hy, hb3⟩
  obtain ⟨xo, xc, rfl, -⟩ := hx.shape
  obtain ⟨yo, yc, rfl, -⟩ := hy.shape
  have bb : ∀ o1 o2, Below w3.heap.size w3 ((w3.alloc o1).alloc o2) := fun o1 o2 => ((Below.refl _ _).alloc (Nat.le_refl _) _).alloc (by simp) _
  have HB3 := Lib.hid (fun o1 o2 => (HB2.out.trans (hb3.mono HB2.out.size)).trans ((bb o1 o2).mono (HB2.out.trans (hb3.mono HB2.out.size)).size))
  have HC3 := Lib.hid (fun o1 o2 => (HC2.out.below hb3).below (bb o1 o2)); have HD3 := Lib.hid (fun o1 o2 => (HD2.out.below hb3).below (bb o1 o2))
  have HX3 := Lib.hid (fun o1 o2 => hx.below (bb o1 o2)); have HY3 := Lib.hid (fun o1 o2 => hy.below (bb o1 o2))
  clear hx hy hb3 bb
  go_wp2_with fail
  refine (HNF.out _ _ _ (HX3.out _ _) (HY3.out _ _)).mono ?_
  rintro e w4 ⟨f, g, rfl, hf, hg, hb4⟩
  obtain ⟨fo, fc, rfl, -⟩ := hf.shape
  obtain ⟨go, gc, rfl, -⟩ := hg.shape
  have hbt := (HB3.out _ _).trans (hb4.mono (HB3.out _ _).size)
  have hz := hbt.size
  simp only [World.size_alloc] at hz
  have b5 : ∀ o, Below w4.heap.size w4 (w4.alloc o) := fun o => (Below.refl _ _).alloc (Nat.le_refl _) _
  have hst0 : StH w w4.heap.size (.slice fo (nd 4294967296 P) fc) (.slice go (nd 4294967296 Q) gc) (.slice co (nd 65536 a) cc) (.slice eo (nd 65536 b) ec) P Q a b (w4.alloc (.cells #[.slice fo (nd 4294967296 P) fc, .slice go (nd 4294967296 Q) gc] 26)) := by
    refine ⟨hf.below (b5 _), hg.below (b5 _), ((HC3.out _ _).below hb4).below (b5 _), ((HD3.out _ _).below hb4).below (b5 _), ((HB.out _ _).trans (hbt.mono (HB.out _ _).size)).trans ((b5 _).mono ((HB.out _ _).trans (hbt.mono (HB.out _ _).size)).size), by omega, by simp, World.cell?_alloc_at _ _ _ _ rfl, World.cell?_alloc_at _ _ _ _ rfl, fun j o hj ho => ?_⟩
    have hl : j < ((w.alloc (.cells #[.slice none 0 0, .slice none 0 0] 26)).alloc (.cells #[.slice none 0 0, .slice none 0 0] 29)).heap.size := by simp; omega
    have hl4 : j < w4.heap.size := by omega
    refine ⟨⟨none, 0, 0, ((b5 _).cell (p := ⟨j, o, none⟩) hl4).trans ((hbt.cell (p := ⟨j, o, none⟩) hl).trans ?_)⟩, ((b5 _).frozen (p := ⟨j, o, none⟩) hl4).trans ((hbt.frozen (p := ⟨j, o, none⟩) hl).trans ?_)⟩
    · rcases hj with rfl | rfl
      · refine (World.cell?_alloc_past _ _ _ (by simp)).trans ?_
        rcases ho with rfl | rfl <;> exact World.cell?_alloc_at _ _ _ _ rfl
      · rcases ho with rfl | rfl <;> exact World.cell?_alloc_at _ _ _ _ (by simp)
    · rcases hj with rfl | rfl
      · refine (((Below.refl _ _).alloc (Nat.le_refl _) _).frozen (p := ⟨w.heap.size, o, none⟩) (by simp)).trans ?_
        rcases ho with rfl | rfl <;> exact World.frozen?_alloc_at _ _ _ _ rfl
      · rcases ho with rfl | rfl <;> exact World.frozen?_alloc_at _ _ _ _ (by simp)
  obtain ⟨V1, hV1⟩ : ∃ V1 : Value, V1 = .slice fo (nd 4294967296 P) fc := ⟨_, rfl⟩
  have HRK : Hid (∀ W, StH w w4.heap.size (.slice fo (nd 4294967296 P) fc) (.slice go (nd 4294967296 Q) gc) (.slice co (nd 65536 a) cc) (.slice eo (nd 65536 b) ec) P Q a b W → Calls Tryz.prog 30 #[.slice co (nd 65536 a) cc, .slice eo (nd 65536 b) ec] W fun e w' => ∃ o1 l1 k1 o2 l2 k2, e = .returned (.agg #[.slice o1 l1 k1, .slice o2 l2 k2]) ∧ (R w' (.slice o1 l1 k1) P ∧ R w' (.slice o2 l2 k2) Q) ∧ StH w w4.heap.size (.slice fo (nd 4294967296 P) fc) (.slice go (nd 4294967296 Q) gc) (.slice co (nd 65536 a) cc) (.slice eo (nd 65536 b) ec) P Q a b w') := fun W h =>
    (HRL.out _ _ _ h.d1 h.d2).mono fun e w' ⟨r, s, he, hr, hs, hB⟩ => by
      obtain ⟨ro, rc, rfl, -⟩ := hr.shape
      obtain ⟨so, sc, rfl, -⟩ := hs.shape
      exact ⟨ro, _, rc, so, _, sc, he, ⟨hr, hs⟩, h.next hB⟩
  have HSET : Hid (∀ W j o1 l1 c1 o2 l2 c2, (j = w.heap.size ∨ j = w.heap.size + 1) → StH w w4.heap.size (.slice fo (nd 4294967296 P) fc) (.slice go (nd 4294967296 Q) gc) (.slice co (nd 65536 a) cc) (.slice eo (nd 65536 b) ec) P Q a b W →
      (((W.setCell ⟨j, 0, none⟩ (.slice o1 l1 c1)).setCell ⟨j, 1, none⟩ (.slice o2 l2 c2)).cell? ⟨w4.heap.size, 0, none⟩ = some (.slice fo (nd 4294967296 P) fc) ∧ ((W.setCell ⟨j, 0, none⟩ (.slice o1 l1 c1)).setCell ⟨j, 1, none⟩ (.slice o2 l2 c2)).cell? ⟨w4.heap.size, 1, none⟩ = some (.slice go (nd 4294967296 Q) gc)) ∧ StH w w4.heap.size (.slice fo (nd 4294967296 P) fc) (.slice go (nd 4294967296 Q) gc) (.slice co (nd 65536 a) cc) (.slice eo (nd 65536 b) ec) P Q a b ((W.setCell ⟨j, 0, none⟩ (.slice o1 l1 c1)).setCell ⟨j, 1, none⟩ (.slice o2 l2 c2))) :=
    fun W j o1 l1 c1 o2 l2 c2 hj h => ⟨⟨(h.set hj o1 l1 c1 o2 l2 c2).f0, (h.set hj o1 l1 c1 o2 l2 c2).f1⟩, h.set hj o1 l1 c1 o2 l2 c2⟩
  have HRR : Hid (∀ W, StH w w4.heap.size (.slice fo (nd 4294967296 P) fc) (.slice go (nd 4294967296 Q) gc) (.slice co (nd 65536 a) cc) (.slice eo (nd 65536 b) ec) P Q a b W → (∃ o' l c, W.cell? ⟨w.heap.size, 0, none⟩ = some (.slice o' l c)) ∧ (∃ o' l c, W.cell? ⟨w.heap.size, 1, none⟩ = some (.slice o' l c)) ∧ (∃ o' l c, W.cell? ⟨w.heap.size + 1, 0, none⟩ = some (.slice o' l c)) ∧ (∃ o' l c, W.cell? ⟨w.heap.size + 1, 1, none⟩ = some (.slice o' l c)) ∧
      W.frozen? ⟨w.heap.size, 0, none⟩ = false ∧ W.frozen? ⟨w.heap.size, 1, none⟩ = false ∧ W.frozen? ⟨w.heap.size + 1, 0, none⟩ = false ∧ W.frozen? ⟨w.heap.size + 1, 1, none⟩ = false) := fun W h =>
    ⟨(h.r _ 0 (.inl rfl) (.inl rfl)).1, (h.r _ 1 (.inl rfl) (.inr rfl)).1, (h.r _ 0 (.inr rfl) (.inl rfl)).1, (h.r _ 1 (.inr rfl) (.inr rfl)).1, (h.r _ 0 (.inl rfl) (.inl rfl)).2, (h.r _ 1 (.inl rfl) (.inr rfl)).2, (h.r _ 0 (.inr rfl) (.inl rfl)).2, (h.r _ 1 (.inr rfl) (.inr rfl)).2⟩
  have hs2 := hst0.next ((Below.refl _ _).drew)
  have hc0 := And.intro hst0.f0 hst0.f1
  have hc2 := And.intro hs2.f0 hs2.f1
  clear hf hg hb4 hbt b5 hV1
  go_wp2_with fail
  go_region_held3 (fun W : World => (W.cell? ⟨w4.heap.size, 0, none⟩ = some (.slice fo (nd 4294967296 P) fc) ∧ W.cell? ⟨w4.heap.size, 1, none⟩ = some (.slice go (nd 4294967296 Q) gc)) ∧ StH w w4.heap.size (.slice fo (nd 4294967296 P) fc) (.slice go (nd 4294967296 Q) gc) (.slice co (nd 65536 a) cc) (.slice eo (nd 65536 b) ec) P Q a b W) (first | (refine And.intro ?_ ?_ <;> assumption) | (refine HSET.out _ _ _ _ _ _ _ _ (.inl rfl) ?_; assumption) | (refine HSET.out _ _ _ _ _ _ _ _ (.inr rfl) ?_; assumption) | (refine HSET.out _ _ _ _ _ _ _ _ (.inr rfl) (HSET.out _ _ _ _ _ _ _ _ (.inl rfl) ?_).2; assumption) | fail) (first
    | (go_at_call 30; with_reducible refine (HRK.out _ ?h).mono ?_; (case h => assumption); rintro e w' ⟨o1, l1, k1, o2, l2, k2, rfl, hr', hs'⟩; have hc' := And.intro hs'.f0 hs'.f1; obtain ⟨⟨a0, a1, a2, z0⟩, ⟨b0, b1, b2, z1⟩, ⟨c0, c1, c2, z2⟩, ⟨d0, d1, d2, z3⟩, y0, y1, y2, y3⟩ := HRR.out _ hs'))
  all_goals
    have hR : R w' (.slice o1 l1 k1) P ∧ R w' (.slice o2 l2 k2) Q := by assumption
    have hT : StH w w4.heap.size (.slice fo (nd 4294967296 P) fc) (.slice go (nd 4294967296 Q) gc) (.slice co (nd 65536 a) cc) (.slice eo (nd 65536 b) ec) P Q a b w' := by assumption
    obtain ⟨⟨m0, m1, m2, e0⟩, -⟩ := hT.r _ 0 (.inl rfl) (.inl rfl)
    obtain ⟨⟨m3, m4, m5, e1⟩, -⟩ := hT.r _ 1 (.inl rfl) (.inr rfl)
    obtain ⟨⟨m6, m7, m8, e2⟩, -⟩ := hT.r _ 0 (.inr rfl) (.inl rfl)
    obtain ⟨⟨m9, m10, m11, e3⟩, -⟩ := hT.r _ 1 (.inr rfl) (.inr rfl)
    have HE := Lib.hid (half_end e0 e1 e2 e3 hT.bel (.slice fo (nd 4294967296 P) fc) (.slice go (nd 4294967296 Q) gc) (.slice o1 l1 k1) (.slice o2 l2 k2))
    have HKS := Lib.hid (And.intro (half_keep hT.n1 hT.r (.slice fo (nd 4294967296 P) fc) (.slice go (nd 4294967296 Q) gc) (.slice o1 l1 k1) (.slice o2 l2 k2)) (And.intro (half_keep hT.n2 hT.r (.slice fo (nd 4294967296 P) fc) (.slice go (nd 4294967296 Q) gc) (.slice o1 l1 k1) (.slice o2 l2 k2)) (And.intro (half_keep hR.1 hT.r (.slice fo (nd 4294967296 P) fc) (.slice go (nd 4294967296 Q) gc) (.slice o1 l1 k1) (.slice o2 l2 k2)) (half_keep hR.2 hT.r (.slice fo (nd 4294967296 P) fc) (.slice go (nd 4294967296 Q) gc) (.slice o1 l1 k1) (.slice o2 l2 k2)))))
    clear hT hR e0 e1 e2 e3
    go_wp2
    obtain ⟨t0, t1, t2, t3, t4⟩ := HE.out
    obtain ⟨s1, s2, s3, s4⟩ := HKS.out
    refine bodyPost_ret (v := .tuple #[.agg #[.slice fo (nd 4294967296 P) fc, .slice go (nd 4294967296 Q) gc], .agg #[.slice o1 l1 k1, .slice o2 l2 k2], .bool true]) (by simp [results, Tryz.results6, go_sem, t0, t1, t2, t3]) rfl ⟨_, _, _, _, rfl, s1, s2, s3, s4, t4⟩
end Go.Proofs.YteajinpfigejfaaGreatDoor
namespace Go.Proofs.YteajinpfigejfaaGreatDoor
open Go Go.RowKit Gu

theorem nd_radd3 {a b m : Nat} (ha : nd 65536 a ≤ m) (hb : nd 65536 b ≤ m) : nd 65536 (a + b) ≤ m + 1 := by
  have h1 := (nd_le (by decide : 2 ≤ 65536)).1 ha
  have h2 := (nd_le (by decide : 2 ≤ 65536)).1 hb
  apply (nd_le (by decide : 2 ≤ 65536)).2
  have h3 : 65536 ^ m * 2 ≤ 65536 ^ m * 65536 := Nat.mul_le_mul_left _ (by decide)
  rw [Nat.pow_succ]; omega
theorem best_bound' {p q L x y : Nat} (h : IsBest p q L x y) (hq : 0 < q) : x ≤ (p + q) * y := by
  obtain ⟨h1, h2, h3, h4⟩ := h
  have h5 := (h4 (p / q) 1 (by decide) (by omega)).1
  have h6 : gapN p q (p / q) 1 < q := by
    have h7 := Nat.div_mul_le_self p q
    have h8 : gapN p q (p / q) 1 = p - p / q * q := by unfold gapN; rw [Nat.mul_one]; exact if_neg (by omega)
    have h9 := Nat.lt_div_mul_add (a := p) hq
    rw [h8]; omega
  have h7 : gapN p q x y < q * y := by
    have : gapN p q (p / q) 1 * y < q * y := Nat.mul_lt_mul_of_pos_right h6 h1
    omega
  have h8 : x * q ≤ p * y + gapN p q x y := by unfold gapN; split <;> omega
  have h9 : x * q ≤ (p + q) * y := by rw [Nat.add_mul]; omega
  exact Nat.le_trans (Nat.le_mul_of_pos_right _ hq) h9
set_option maxHeartbeats 4000000 in
set_option maxRecDepth 100000 in
theorem natBests_z (u0 u1 : Value) (xs0 xs1 : List Nat) (most : Int) (w : World) (hu0 : IsRaw w u0 xs0) (hu1 : IsRaw w u1 xs1) (hl0 : xs0.length ≤ maxLen) (hl1 : xs1.length ≤ maxLen) (h1 : rawN xs1 6 = 0) (he : Env w) :
    Calls Tryz.prog 3 #[u0, u1, .int .i64 most] w fun e w' => e = .returned (.bool true) ∧ Below w.heap.size w w' := by
  have HS0 := Lib.hid (Kq.start he)
  have hn0 := rawN_nd hu0.1 6
  have hn1 := rawN_nd hu1.1 6
  have HU0 := Lib.hid hu0
  have HU1 := Lib.hid hu1
  have HH1 := Lib.hid (fun W (i1 : IsRaw W u0 xs0) (i2 : IsRaw W u1 xs1) => half_zero u0 u1 xs0 xs1 6 W i1 i2 hl0 hl1 (by decide) h1)

  obtain ⟨uo0, uc0, rfl, -⟩ := hu0.shape
  obtain ⟨uo1, uc1, rfl, -⟩ := hu1.shape
  clear he hu0 hl0 hu1 hl1
  generalize rawN xs0 6 = a at *
  generalize rawN xs1 6 = b at *
  go_enter Tryz.func3, Tryz.ntmps3
  go_wp2_with fail
  refine (HH1.out _ (IsRaw.below HU0.out HS0.out.bel) (IsRaw.below HU1.out HS0.out.bel)).mono ?_
  rintro e w1 ⟨rfl, hb⟩
  have hs := ((HS0.out.next hb).boxed2 (.slice none 0 0) (.slice none 0 0) 26).boxed2 (.slice none 0 0) (.slice none 0 0) 29
  have HS1 := Lib.hid hs
  clear hs hb HS0
  go_wp2_with fail
  refine (awake_Q HS1.out).mono ?_
  rintro e w2 ⟨rfl, hs⟩
  have HS2 := Lib.hid hs
  clear hs HS1
  go_wp2
  go_ret
  exact ⟨by simp, HS2.out.bel⟩
set_option maxHeartbeats 4000000 in
set_option maxRecDepth 100000 in
theorem natBests_low (u0 u1 : Value) (xs0 xs1 : List Nat) (most : Int) (w : World) (hu0 : IsRaw w u0 xs0) (hu1 : IsRaw w u1 xs1) (hl0 : xs0.length ≤ maxLen) (hl1 : xs1.length ≤ maxLen) (h1 : 0 < rawN xs1 6) (hm : most < 1) (he : Env w) :
    Calls Tryz.prog 3 #[u0, u1, .int .i64 most] w fun e w' => e = .returned (.bool true) ∧ Below w.heap.size w w' := by
  have HS0 := Lib.hid (Kq.start he)
  have hn0 := rawN_nd hu0.1 6
  have hn1 := rawN_nd hu1.1 6
  have HU0 := Lib.hid hu0
  have HU1 := Lib.hid hu1
  have HH1 := Lib.hid (fun W (i1 : IsRaw W u0 xs0) (i2 : IsRaw W u1 xs1) => half_pos u0 u1 xs0 xs1 6 W i1 i2 hl0 hl1 (by decide) h1)
  have q1 : 0 < lowQ (rawN xs0 6) (rawN xs1 6) := Nat.div_pos (Nat.gcd_le_right _ h1) (Nat.gcd_pos_of_pos_right _ h1)
  have g1 : nd 65536 (lowP (rawN xs0 6) (rawN xs1 6)) ≤ 6 := Nat.le_trans (nd_mono (by decide) (Nat.div_le_self _ _)) hn0
  have g1' : nd 65536 (lowQ (rawN xs0 6) (rawN xs1 6)) ≤ 6 := Nat.le_trans (nd_mono (by decide) (Nat.div_le_self _ _)) hn1
  have o1 : Nat.gcd (lowP (rawN xs0 6) (rawN xs1 6)) (lowQ (rawN xs0 6) (rawN xs1 6)) = 1 := low_coprime h1
  obtain ⟨uo0, uc0, rfl, -⟩ := hu0.shape
  obtain ⟨uo1, uc1, rfl, -⟩ := hu1.shape
  clear he hu0 hl0 hu1 hl1
  generalize rawN xs0 6 = a at *
  generalize rawN xs1 6 = b at *
  generalize lowP a b = P1 at *
  generalize lowQ a b = Q1 at *
  have k1 := nd_32 g1
  have k1' := nd_32 g1'
  have HBS := Lib.hid (fun W v u (h1 : D W v P1) (h2 : D W u Q1) => Best_low v u most P1 Q1 W h1 h2 hm)
  clear o1 hn0 hn1
  go_enter Tryz.func3, Tryz.ntmps3
  go_wp2_with fail
  refine (HH1.out _ (IsRaw.below HU0.out HS0.out.bel) (IsRaw.below HU1.out HS0.out.bel)).mono ?_
  rintro e w1 ⟨vf1, vf2, vp1, vp2, rfl, hf1, hf2, hp1, hp2, hb⟩
  obtain ⟨f1o, f1c, rfl, -⟩ := hf1.shape
  obtain ⟨f2o, f2c, rfl, -⟩ := hf2.shape
  obtain ⟨p1o, p1c, rfl, -⟩ := hp1.shape
  obtain ⟨p2o, p2c, rfl, -⟩ := hp2.shape
  have hs := ((((((HS0.out.next hb).addNum hf1).addNum hf2).addDig hp1).addDig hp2).boxed2 (.slice f1o (nd 4294967296 (P1)) f1c) (.slice f2o (nd 4294967296 (Q1)) f2c) 26).boxed2 (.slice p1o (nd 65536 (P1)) p1c) (.slice p2o (nd 65536 (Q1)) p2c) 29
  simp only [World.size_alloc] at hs
  have HS1 := Lib.hid hs
  clear hs hb hf1 hf2 hp1 hp2 HS0
  clear HH1 HU0 HU1
  have cf1 := HS1.out.cell (.tail _ (.tail _ (.tail _ (.head _))))
  have cf2 := HS1.out.cell (.tail _ (.tail _ (.head _)))
  go_wp2_with fail
  refine (HBS.out _ _ _ (HS1.out.num _ (.tail _ (.head _))) (HS1.out.num _ (.head _))).mono ?_
  rintro e w2 ⟨rfl, hb⟩
  have hs := (HS1.out.next hb).boxed2 (.slice none 0 0) (.slice none 0 0) 26
  have HS2 := Lib.hid hs
  clear hs hb HS1
  clear cf1 cf2
  have cp1 := HS2.out.cell (.tail _ (.tail _ (.tail _ (.head _))))
  have cp2 := HS2.out.cell (.tail _ (.tail _ (.head _)))
  have czz0 := HS2.out.cell (.tail _ (.head _))
  have czz1 := HS2.out.cell (.head _)
  have hto := same_err (.slice none 0 0) (.slice none 0 0) _ _ 2 _ (IsN.zero _ _ _ none 0) (IsN.zero _ _ _ none 0) (by decide) ⟨P1, HS2.out.dig _ (.tail _ (.head _))⟩ ⟨Q1, HS2.out.dig _ (.head _)⟩ HS2.out.env
  have HTO := Lib.hid (hto.mono fun e w' h => And.intro h.1 (HS2.out.next h.2))
  clear hto
  go_wp2_with fail
  refine (HTO.out).mono ?_
  rintro e w3 ⟨rfl, hs⟩
  have HS3 := Lib.hid hs
  clear hs HS2
  clear cp1 cp2 czz0 czz1 HTO
  go_wp2_with fail
  refine (awake_Q HS3.out).mono ?_
  rintro e w4 ⟨rfl, hs⟩
  have HS4 := Lib.hid hs
  clear hs HS3
  go_wp2
  go_ret
  exact ⟨by simp, HS4.out.bel⟩
set_option maxHeartbeats 4000000 in
set_option maxRecDepth 100000 in
theorem natBests_copy (u0 u1 : Value) (xs0 xs1 : List Nat) (most : Nat) (w : World) (hu0 : IsRaw w u0 xs0) (hu1 : IsRaw w u1 xs1) (hl0 : xs0.length ≤ maxLen) (hl1 : xs1.length ≤ maxLen) (h1 : 0 < rawN xs1 6) (hm1 : 1 ≤ most) (hm2 : most ≤ 9223372036854775807) (hc : lowQ (rawN xs0 6) (rawN xs1 6) ≤ most) (he : Env w) :
    Calls Tryz.prog 3 #[u0, u1, .int .i64 most] w fun e w' => e = .returned (.bool true) ∧ Below w.heap.size w w' := by
  have HS0 := Lib.hid (Kq.start he)
  have hn0 := rawN_nd hu0.1 6
  have hn1 := rawN_nd hu1.1 6
  have HU0 := Lib.hid hu0
  have HU1 := Lib.hid hu1
  have HH1 := Lib.hid (fun W (i1 : IsRaw W u0 xs0) (i2 : IsRaw W u1 xs1) => half_pos u0 u1 xs0 xs1 6 W i1 i2 hl0 hl1 (by decide) h1)
  have q1 : 0 < lowQ (rawN xs0 6) (rawN xs1 6) := Nat.div_pos (Nat.gcd_le_right _ h1) (Nat.gcd_pos_of_pos_right _ h1)
  have g1 : nd 65536 (lowP (rawN xs0 6) (rawN xs1 6)) ≤ 6 := Nat.le_trans (nd_mono (by decide) (Nat.div_le_self _ _)) hn0
  have g1' : nd 65536 (lowQ (rawN xs0 6) (rawN xs1 6)) ≤ 6 := Nat.le_trans (nd_mono (by decide) (Nat.div_le_self _ _)) hn1
  have o1 : Nat.gcd (lowP (rawN xs0 6) (rawN xs1 6)) (lowQ (rawN xs0 6) (rawN xs1 6)) = 1 := low_coprime h1
  obtain ⟨uo0, uc0, rfl, -⟩ := hu0.shape
  obtain ⟨uo1, uc1, rfl, -⟩ := hu1.shape
  clear he hu0 hl0 hu1 hl1
  generalize rawN xs0 6 = a at *
  generalize rawN xs1 6 = b at *
  generalize lowP a b = P1 at *
  generalize lowQ a b = Q1 at *
  have k1 := nd_32 g1
  have k1' := nd_32 g1'
  have HBS := Lib.hid (fun W v u (h1 : D W v P1) (h2 : D W u Q1) => Best_all v u most P1 Q1 W h1 h2 hm1 hm2 q1 o1 (by omega) (by omega))
  have s1 := nd_le_self16 hm2
  have i1 : ¬ (most : Int) < 1 := by omega
  have HBX := Lib.hid (fun x y (h : IsBest P1 Q1 most x y) => h.unique (best_self q1 hc o1))
  have hkk : cmpN ((Q1 : Nat) : Int) ((most : Nat) : Int) ≤ 0 := by
    rcases Nat.lt_trichotomy Q1 most with h | h | h
    · rw [cmpN_lt (by omega)]; decide
    · rw [cmpN_eq (by omega)]; decide
    · omega
  have HKD : Hid (∃ k, k = cmpN ((Q1 : Nat) : Int) ((most : Nat) : Int)) := ⟨_, rfl⟩
  have HRC := Lib.hid (fun W x y (h1 : R W x Q1) (h2 : R W y most) => RCmp_any x y Q1 most W h1 h2 (by omega) (by omega))
  generalize cmpN ((Q1 : Nat) : Int) ((most : Nat) : Int) = kk at *
  clear HKD o1 hn0 hn1
  go_enter Tryz.func3, Tryz.ntmps3
  go_wp2_with fail
  refine (HH1.out _ (IsRaw.below HU0.out HS0.out.bel) (IsRaw.below HU1.out HS0.out.bel)).mono ?_
  rintro e w1 ⟨vf1, vf2, vp1, vp2, rfl, hf1, hf2, hp1, hp2, hb⟩
  obtain ⟨f1o, f1c, rfl, -⟩ := hf1.shape
  obtain ⟨f2o, f2c, rfl, -⟩ := hf2.shape
  obtain ⟨p1o, p1c, rfl, -⟩ := hp1.shape
  obtain ⟨p2o, p2c, rfl, -⟩ := hp2.shape
  have hs := ((((((HS0.out.next hb).addNum hf1).addNum hf2).addDig hp1).addDig hp2).boxed2 (.slice f1o (nd 4294967296 (P1)) f1c) (.slice f2o (nd 4294967296 (Q1)) f2c) 26).boxed2 (.slice p1o (nd 65536 (P1)) p1c) (.slice p2o (nd 65536 (Q1)) p2c) 29
  simp only [World.size_alloc] at hs
  have HS1 := Lib.hid hs
  clear hs hb hf1 hf2 hp1 hp2 HS0
  clear HH1 HU0 HU1
  have cf1 := HS1.out.cell (.tail _ (.tail _ (.tail _ (.head _))))
  have cf2 := HS1.out.cell (.tail _ (.tail _ (.head _)))
  go_wp2_with fail
  refine (HBS.out _ _ _ (HS1.out.num _ (.tail _ (.head _))) (HS1.out.num _ (.head _))).mono ?_
  rintro e w2 ⟨vg1, vg2, X, Y, rfl, hg1, hg2, hbest, hb⟩
  have hXY := HBX.out _ _ hbest
  rw [hXY.1] at hg1
  rw [hXY.2] at hg2
  clear hXY
  obtain ⟨g1o, g1c, rfl, -⟩ := hg1.shape
  obtain ⟨g2o, g2c, rfl, -⟩ := hg2.shape
  have hs := (((HS1.out.next hb).addNum hg1).addNum hg2).boxed2 (.slice g1o (nd 4294967296 (P1)) g1c) (.slice g2o (nd 4294967296 (Q1)) g2c) 26
  have HS2 := Lib.hid hs
  clear hs hb hg1 hg2 HS1 hbest HBX
  clear cf1 cf2
  have hs := HS2.out
  obtain ⟨cs1, hcs⟩ : ∃ cs : List (Nat × Nat × Value), cs = (w2.heap.size, 1, .slice g2o (nd 4294967296 (Q1)) g2c) :: (w2.heap.size, 0, .slice g1o (nd 4294967296 (P1)) g1c) :: (w1.heap.size + 1, 1, .slice p2o (nd 65536 (Q1)) p2c) :: (w1.heap.size + 1, 0, .slice p1o (nd 65536 (P1)) p1c) :: (w1.heap.size, 1, .slice f2o (nd 4294967296 (Q1)) f2c) :: (w1.heap.size, 0, .slice f1o (nd 4294967296 (P1)) f1c) :: [] := ⟨_, rfl⟩
  obtain ⟨ns1, hns⟩ : ∃ ns : List (Value × Nat), ns = (.slice g2o (nd 4294967296 (Q1)) g2c, Q1) :: (.slice g1o (nd 4294967296 (P1)) g1c, P1) :: (.slice f2o (nd 4294967296 (Q1)) f2c, Q1) :: (.slice f1o (nd 4294967296 (P1)) f1c, P1) :: [] := ⟨_, rfl⟩
  obtain ⟨rs1, hrs⟩ : ∃ rs : List (Value × Nat), rs = (.slice p2o (nd 65536 (Q1)) p2c, Q1) :: (.slice p1o (nd 65536 (P1)) p1c, P1) :: [] := ⟨_, rfl⟩
  rw [← hcs, ← hns, ← hrs] at hs
  have HC1_g1 : Hid (((w2.heap.size, 0, .slice g1o (nd 4294967296 (P1)) g1c) : Nat × Nat × Value) ∈ cs1) := by show _ ∈ _; rw [hcs]; exact (.tail _ (.head _))
  have HC1_g2 : Hid (((w2.heap.size, 1, .slice g2o (nd 4294967296 (Q1)) g2c) : Nat × Nat × Value) ∈ cs1) := by show _ ∈ _; rw [hcs]; exact (.head _)
  have HC1_p1 : Hid (((w1.heap.size + 1, 0, .slice p1o (nd 65536 (P1)) p1c) : Nat × Nat × Value) ∈ cs1) := by show _ ∈ _; rw [hcs]; exact (.tail _ (.tail _ (.tail _ (.head _))))
  have HC1_p2 : Hid (((w1.heap.size + 1, 1, .slice p2o (nd 65536 (Q1)) p2c) : Nat × Nat × Value) ∈ cs1) := by show _ ∈ _; rw [hcs]; exact (.tail _ (.tail _ (.head _)))
  have HM1_g1 : Hid (((.slice g1o (nd 4294967296 (P1)) g1c, P1) : Value × Nat) ∈ ns1) := by show _ ∈ _; rw [hns]; exact (.tail _ (.head _))
  have HM1_g2 : Hid (((.slice g2o (nd 4294967296 (Q1)) g2c, Q1) : Value × Nat) ∈ ns1) := by show _ ∈ _; rw [hns]; exact (.head _)
  have HD1_p1 : Hid (((.slice p1o (nd 65536 (P1)) p1c, P1) : Value × Nat) ∈ rs1) := by show _ ∈ _; rw [hrs]; exact (.tail _ (.head _))
  have HD1_p2 : Hid (((.slice p2o (nd 65536 (Q1)) p2c, Q1) : Value × Nat) ∈ rs1) := by show _ ∈ _; rw [hrs]; exact (.head _)
  have HCL1 : Hid (∀ W', Kq cs1 ns1 rs1 w W' → W'.cell? ⟨w2.heap.size, 0, none⟩ = some (.slice g1o (nd 4294967296 (P1)) g1c) ∧ W'.cell? ⟨w2.heap.size, 1, none⟩ = some (.slice g2o (nd 4294967296 (Q1)) g2c) ∧ W'.cell? ⟨w1.heap.size + 1, 0, none⟩ = some (.slice p1o (nd 65536 (P1)) p1c) ∧ W'.cell? ⟨w1.heap.size + 1, 1, none⟩ = some (.slice p2o (nd 65536 (Q1)) p2c)) := fun W' h => ⟨h.cell HC1_g1.out, h.cell HC1_g2.out, h.cell HC1_p1.out, h.cell HC1_p2.out⟩
  have hs2 := hs.drew
  have hcl := HCL1.out _ hs2
  have hc0 := HCL1.out _ hs
  have HAK1 := Lib.hid (fun W' (h : Kq cs1 ns1 rs1 w W') => awake_Q h)
  clear hcs hns hrs HS2
  have HOF : Hid (∀ W', Kq cs1 ns1 rs1 w W' → Calls Tryz.prog 11 #[.int .i64 most] W' fun e w' => ∃ o l c, e = .returned (.slice o l c) ∧ R w' (.slice o l c) most ∧ Kq cs1 ns1 rs1 w w') := fun W' h =>
    (Of_any most W' hm2).mono fun e w' ⟨r, he, hr, hB⟩ => by
      obtain ⟨ro, rc, rfl, -⟩ := hr.shape
      exact ⟨ro, _, rc, he, hr, h.next hB⟩
  have HCO : Hid (∀ W' x, Kq cs1 ns1 rs1 w W' → R W' x most → Calls Tryz.prog 10 #[.slice p2o (nd 65536 (Q1)) p2c, x] W' fun e w' => e = .returned (.int .i64 kk) ∧ Kq cs1 ns1 rs1 w w') := fun W' x h hx =>
    (HRC.out W' _ _ (h.dig _ (HD1_p2.out)) hx).mono fun e w' ⟨he, j, hw⟩ => ⟨he, by rw [hw]; exact h.drewN j⟩
  go_wp2_with fail
  go_region_held3 (fun W' : World => (W'.cell? ⟨w2.heap.size, 0, none⟩ = some (.slice g1o (nd 4294967296 (P1)) g1c) ∧ W'.cell? ⟨w2.heap.size, 1, none⟩ = some (.slice g2o (nd 4294967296 (Q1)) g2c) ∧ W'.cell? ⟨w1.heap.size + 1, 0, none⟩ = some (.slice p1o (nd 65536 (P1)) p1c) ∧ W'.cell? ⟨w1.heap.size + 1, 1, none⟩ = some (.slice p2o (nd 65536 (Q1)) p2c)) ∧ Kq cs1 ns1 rs1 w W') (first | (refine And.intro ?_ ?_ <;> assumption)) (first
    | (go_at_call 11; with_reducible refine (HOF.out _ ?h).mono ?_; (case h => assumption); rintro e w' ⟨o1, l1, c1, rfl, hr', hs'⟩; have hc' := HCL1.out _ hs')
    | (go_at_call 10; with_reducible refine (HCO.out _ _ ?h ?r).mono ?_; (case h => assumption); (case r => first | assumption | exact rchain (by assumption) (by assumption) | exact rchain (by assumption) (rchain (by assumption) (by assumption)) | exact dchain (by assumption) (by assumption)); rintro e w' ⟨rfl, hs'⟩; have hc' := HCL1.out _ hs'))
  all_goals
    have hsx : Kq cs1 ns1 rs1 w w' := by assumption
    have HS3 := Lib.hid hsx
    clear hsx HOF HCO
    have cg1 := HS3.out.cell (HC1_g1.out)
    have cg2 := HS3.out.cell (HC1_g2.out)
    have cp1 := HS3.out.cell (HC1_p1.out)
    have cp2 := HS3.out.cell (HC1_p2.out)
    have hto := same_ok _ _ _ _ P1 Q1 _ (HS3.out.num _ (HM1_g1.out)) (HS3.out.num _ (HM1_g2.out)) (HS3.out.dig _ (HD1_p1.out)) (HS3.out.dig _ (HD1_p2.out)) q1 (by omega) (by omega) HS3.out.env
    have HTO := Lib.hid (hto.mono fun e w' h => And.intro h.1 (HS3.out.next h.2))
    clear hto
    go_wp2_with fail
    refine (HTO.out).mono ?_
    rintro e w3 ⟨rfl, hs⟩
    have HS4 := Lib.hid hs
    clear hs HS3
    clear cg1 cg2 cp1 cp2 HTO
    go_wp2_with fail
    refine (awake_Q HS4.out).mono ?_
    rintro e w4 ⟨rfl, hs⟩
    have HS5 := Lib.hid hs
    clear hs HS4
    go_wp2
    go_ret
    exact ⟨by simp, HS5.out.bel⟩
set_option maxHeartbeats 4000000 in
set_option maxRecDepth 100000 in
theorem natBests_far (u0 u1 : Value) (xs0 xs1 : List Nat) (most : Nat) (w : World) (hu0 : IsRaw w u0 xs0) (hu1 : IsRaw w u1 xs1) (hl0 : xs0.length ≤ maxLen) (hl1 : xs1.length ≤ maxLen) (h1 : 0 < rawN xs1 6) (hm1 : 1 ≤ most) (hm2 : most ≤ 9223372036854775807) (hc : most < lowQ (rawN xs0 6) (rawN xs1 6)) (hf : 200 < most) (he : Env w) :
    Calls Tryz.prog 3 #[u0, u1, .int .i64 most] w fun e w' => e = .returned (.bool true) ∧ Below w.heap.size w w' := by
  have HS0 := Lib.hid (Kq.start he)
  have hn0 := rawN_nd hu0.1 6
  have hn1 := rawN_nd hu1.1 6
  have HU0 := Lib.hid hu0
  have HU1 := Lib.hid hu1
  have HH1 := Lib.hid (fun W (i1 : IsRaw W u0 xs0) (i2 : IsRaw W u1 xs1) => half_pos u0 u1 xs0 xs1 6 W i1 i2 hl0 hl1 (by decide) h1)
  have q1 : 0 < lowQ (rawN xs0 6) (rawN xs1 6) := Nat.div_pos (Nat.gcd_le_right _ h1) (Nat.gcd_pos_of_pos_right _ h1)
  have g1 : nd 65536 (lowP (rawN xs0 6) (rawN xs1 6)) ≤ 6 := Nat.le_trans (nd_mono (by decide) (Nat.div_le_self _ _)) hn0
  have g1' : nd 65536 (lowQ (rawN xs0 6) (rawN xs1 6)) ≤ 6 := Nat.le_trans (nd_mono (by decide) (Nat.div_le_self _ _)) hn1
  have o1 : Nat.gcd (lowP (rawN xs0 6) (rawN xs1 6)) (lowQ (rawN xs0 6) (rawN xs1 6)) = 1 := low_coprime h1
  obtain ⟨uo0, uc0, rfl, -⟩ := hu0.shape
  obtain ⟨uo1, uc1, rfl, -⟩ := hu1.shape
  clear he hu0 hl0 hu1 hl1
  generalize rawN xs0 6 = a at *
  generalize rawN xs1 6 = b at *
  generalize lowP a b = P1 at *
  generalize lowQ a b = Q1 at *
  have k1 := nd_32 g1
  have k1' := nd_32 g1'
  have HBS := Lib.hid (fun W v u (h1 : D W v P1) (h2 : D W u Q1) => Best_all v u most P1 Q1 W h1 h2 hm1 hm2 q1 o1 (by omega) (by omega))
  have s1 := nd_le_self16 hm2
  have i1 : ¬ (most : Int) < 1 := by omega
  have i2 : (200 : Int) < most := by omega
  have hkk : ¬ cmpN ((Q1 : Nat) : Int) ((most : Nat) : Int) ≤ 0 := by
    rcases Nat.lt_trichotomy Q1 most with h | h | h
    · omega
    · omega
    · rw [cmpN_gt (by omega)]; decide
  have HKD : Hid (∃ k, k = cmpN ((Q1 : Nat) : Int) ((most : Nat) : Int)) := ⟨_, rfl⟩
  have HRC := Lib.hid (fun W x y (h1 : R W x Q1) (h2 : R W y most) => RCmp_any x y Q1 most W h1 h2 (by omega) (by omega))
  generalize cmpN ((Q1 : Nat) : Int) ((most : Nat) : Int) = kk at *
  clear HKD o1 hn0 hn1
  go_enter Tryz.func3, Tryz.ntmps3
  go_wp2_with fail
  refine (HH1.out _ (IsRaw.below HU0.out HS0.out.bel) (IsRaw.below HU1.out HS0.out.bel)).mono ?_
  rintro e w1 ⟨vf1, vf2, vp1, vp2, rfl, hf1, hf2, hp1, hp2, hb⟩
  obtain ⟨f1o, f1c, rfl, -⟩ := hf1.shape
  obtain ⟨f2o, f2c, rfl, -⟩ := hf2.shape
  obtain ⟨p1o, p1c, rfl, -⟩ := hp1.shape
  obtain ⟨p2o, p2c, rfl, -⟩ := hp2.shape
  have hs := ((((((HS0.out.next hb).addNum hf1).addNum hf2).addDig hp1).addDig hp2).boxed2 (.slice f1o (nd 4294967296 (P1)) f1c) (.slice f2o (nd 4294967296 (Q1)) f2c) 26).boxed2 (.slice p1o (nd 65536 (P1)) p1c) (.slice p2o (nd 65536 (Q1)) p2c) 29
  simp only [World.size_alloc] at hs
  have HS1 := Lib.hid hs
  clear hs hb hf1 hf2 hp1 hp2 HS0
  clear HH1 HU0 HU1
  have cf1 := HS1.out.cell (.tail _ (.tail _ (.tail _ (.head _))))
  have cf2 := HS1.out.cell (.tail _ (.tail _ (.head _)))
  go_wp2_with fail
  refine (HBS.out _ _ _ (HS1.out.num _ (.tail _ (.head _))) (HS1.out.num _ (.head _))).mono ?_
  rintro e w2 ⟨vg1, vg2, X, Y, rfl, hg1, hg2, hbest, hb⟩
  obtain ⟨g1o, g1c, rfl, -⟩ := hg1.shape
  obtain ⟨g2o, g2c, rfl, -⟩ := hg2.shape
  have hs := (((HS1.out.next hb).addNum hg1).addNum hg2).boxed2 (.slice g1o (nd 4294967296 (X)) g1c) (.slice g2o (nd 4294967296 (Y)) g2c) 26
  have HS2 := Lib.hid hs
  clear hs hb hg1 hg2 HS1
  clear cf1 cf2
  have HBE := Lib.hid hbest
  clear hbest
  have hs := HS2.out
  obtain ⟨cs1, hcs⟩ : ∃ cs : List (Nat × Nat × Value), cs = (w2.heap.size, 1, .slice g2o (nd 4294967296 (Y)) g2c) :: (w2.heap.size, 0, .slice g1o (nd 4294967296 (X)) g1c) :: (w1.heap.size + 1, 1, .slice p2o (nd 65536 (Q1)) p2c) :: (w1.heap.size + 1, 0, .slice p1o (nd 65536 (P1)) p1c) :: (w1.heap.size, 1, .slice f2o (nd 4294967296 (Q1)) f2c) :: (w1.heap.size, 0, .slice f1o (nd 4294967296 (P1)) f1c) :: [] := ⟨_, rfl⟩
  obtain ⟨ns1, hns⟩ : ∃ ns : List (Value × Nat), ns = (.slice g2o (nd 4294967296 (Y)) g2c, Y) :: (.slice g1o (nd 4294967296 (X)) g1c, X) :: (.slice f2o (nd 4294967296 (Q1)) f2c, Q1) :: (.slice f1o (nd 4294967296 (P1)) f1c, P1) :: [] := ⟨_, rfl⟩
  obtain ⟨rs1, hrs⟩ : ∃ rs : List (Value × Nat), rs = (.slice p2o (nd 65536 (Q1)) p2c, Q1) :: (.slice p1o (nd 65536 (P1)) p1c, P1) :: [] := ⟨_, rfl⟩
  rw [← hcs, ← hns, ← hrs] at hs
  have HC1_g1 : Hid (((w2.heap.size, 0, .slice g1o (nd 4294967296 (X)) g1c) : Nat × Nat × Value) ∈ cs1) := by show _ ∈ _; rw [hcs]; exact (.tail _ (.head _))
  have HC1_g2 : Hid (((w2.heap.size, 1, .slice g2o (nd 4294967296 (Y)) g2c) : Nat × Nat × Value) ∈ cs1) := by show _ ∈ _; rw [hcs]; exact (.head _)
  have HC1_p1 : Hid (((w1.heap.size + 1, 0, .slice p1o (nd 65536 (P1)) p1c) : Nat × Nat × Value) ∈ cs1) := by show _ ∈ _; rw [hcs]; exact (.tail _ (.tail _ (.tail _ (.head _))))
  have HC1_p2 : Hid (((w1.heap.size + 1, 1, .slice p2o (nd 65536 (Q1)) p2c) : Nat × Nat × Value) ∈ cs1) := by show _ ∈ _; rw [hcs]; exact (.tail _ (.tail _ (.head _)))
  have HM1_g1 : Hid (((.slice g1o (nd 4294967296 (X)) g1c, X) : Value × Nat) ∈ ns1) := by show _ ∈ _; rw [hns]; exact (.tail _ (.head _))
  have HM1_g2 : Hid (((.slice g2o (nd 4294967296 (Y)) g2c, Y) : Value × Nat) ∈ ns1) := by show _ ∈ _; rw [hns]; exact (.head _)
  have HD1_p1 : Hid (((.slice p1o (nd 65536 (P1)) p1c, P1) : Value × Nat) ∈ rs1) := by show _ ∈ _; rw [hrs]; exact (.tail _ (.head _))
  have HD1_p2 : Hid (((.slice p2o (nd 65536 (Q1)) p2c, Q1) : Value × Nat) ∈ rs1) := by show _ ∈ _; rw [hrs]; exact (.head _)
  have HCL1 : Hid (∀ W', Kq cs1 ns1 rs1 w W' → W'.cell? ⟨w2.heap.size, 0, none⟩ = some (.slice g1o (nd 4294967296 (X)) g1c) ∧ W'.cell? ⟨w2.heap.size, 1, none⟩ = some (.slice g2o (nd 4294967296 (Y)) g2c) ∧ W'.cell? ⟨w1.heap.size + 1, 0, none⟩ = some (.slice p1o (nd 65536 (P1)) p1c) ∧ W'.cell? ⟨w1.heap.size + 1, 1, none⟩ = some (.slice p2o (nd 65536 (Q1)) p2c)) := fun W' h => ⟨h.cell HC1_g1.out, h.cell HC1_g2.out, h.cell HC1_p1.out, h.cell HC1_p2.out⟩
  have hs2 := hs.drew
  have hcl := HCL1.out _ hs2
  have hc0 := HCL1.out _ hs
  have HAK1 := Lib.hid (fun W' (h : Kq cs1 ns1 rs1 w W') => awake_Q h)
  clear hcs hns hrs HS2
  have HOF : Hid (∀ W', Kq cs1 ns1 rs1 w W' → Calls Tryz.prog 11 #[.int .i64 most] W' fun e w' => ∃ o l c, e = .returned (.slice o l c) ∧ R w' (.slice o l c) most ∧ Kq cs1 ns1 rs1 w w') := fun W' h =>
    (Of_any most W' hm2).mono fun e w' ⟨r, he, hr, hB⟩ => by
      obtain ⟨ro, rc, rfl, -⟩ := hr.shape
      exact ⟨ro, _, rc, he, hr, h.next hB⟩
  have HCO : Hid (∀ W' x, Kq cs1 ns1 rs1 w W' → R W' x most → Calls Tryz.prog 10 #[.slice p2o (nd 65536 (Q1)) p2c, x] W' fun e w' => e = .returned (.int .i64 kk) ∧ Kq cs1 ns1 rs1 w w') := fun W' x h hx =>
    (HRC.out W' _ _ (h.dig _ (HD1_p2.out)) hx).mono fun e w' ⟨he, j, hw⟩ => ⟨he, by rw [hw]; exact h.drewN j⟩
  go_wp2_with fail
  go_region_held3 (fun W' : World => (W'.cell? ⟨w2.heap.size, 0, none⟩ = some (.slice g1o (nd 4294967296 (X)) g1c) ∧ W'.cell? ⟨w2.heap.size, 1, none⟩ = some (.slice g2o (nd 4294967296 (Y)) g2c) ∧ W'.cell? ⟨w1.heap.size + 1, 0, none⟩ = some (.slice p1o (nd 65536 (P1)) p1c) ∧ W'.cell? ⟨w1.heap.size + 1, 1, none⟩ = some (.slice p2o (nd 65536 (Q1)) p2c)) ∧ Kq cs1 ns1 rs1 w W') (first | (refine And.intro ?_ ?_ <;> assumption)) (first
    | (go_at_call 11; with_reducible refine (HOF.out _ ?h).mono ?_; (case h => assumption); rintro e w' ⟨o1, l1, c1, rfl, hr', hs'⟩; have hc' := HCL1.out _ hs')
    | (go_at_call 10; with_reducible refine (HCO.out _ _ ?h ?r).mono ?_; (case h => assumption); (case r => first | assumption | exact rchain (by assumption) (by assumption) | exact rchain (by assumption) (rchain (by assumption) (by assumption)) | exact dchain (by assumption) (by assumption)); rintro e w' ⟨rfl, hs'⟩; have hc' := HCL1.out _ hs'))
  all_goals
    have hsx : Kq cs1 ns1 rs1 w w' := by assumption
    have HS3 := Lib.hid hsx
    clear hsx HOF HCO
    go_wp2_with fail
    refine (awake_Q HS3.out).mono ?_
    rintro e w3 ⟨rfl, hs⟩
    have HS4 := Lib.hid hs
    clear hs HS3
    go_wp2
    go_ret
    exact ⟨by simp, HS4.out.bel⟩
set_option maxHeartbeats 4000000 in
set_option maxRecDepth 100000 in
theorem natBests_near (u0 u1 : Value) (xs0 xs1 : List Nat) (most : Nat) (w : World) (hu0 : IsRaw w u0 xs0) (hu1 : IsRaw w u1 xs1) (hl0 : xs0.length ≤ maxLen) (hl1 : xs1.length ≤ maxLen) (h1 : 0 < rawN xs1 6) (hm1 : 1 ≤ most) (hm2 : most ≤ 9223372036854775807) (hc : most < lowQ (rawN xs0 6) (rawN xs1 6)) (hf : most ≤ 200) (he : Env w) :
    Calls Tryz.prog 3 #[u0, u1, .int .i64 most] w fun e w' => e = .returned (.bool true) ∧ Below w.heap.size w w' := by
  have HS0 := Lib.hid (Kq.start he)
  have hn0 := rawN_nd hu0.1 6
  have hn1 := rawN_nd hu1.1 6
  have HU0 := Lib.hid hu0
  have HU1 := Lib.hid hu1
  have HH1 := Lib.hid (fun W (i1 : IsRaw W u0 xs0) (i2 : IsRaw W u1 xs1) => half_pos u0 u1 xs0 xs1 6 W i1 i2 hl0 hl1 (by decide) h1)
  have q1 : 0 < lowQ (rawN xs0 6) (rawN xs1 6) := Nat.div_pos (Nat.gcd_le_right _ h1) (Nat.gcd_pos_of_pos_right _ h1)
  have g1 : nd 65536 (lowP (rawN xs0 6) (rawN xs1 6)) ≤ 6 := Nat.le_trans (nd_mono (by decide) (Nat.div_le_self _ _)) hn0
  have g1' : nd 65536 (lowQ (rawN xs0 6) (rawN xs1 6)) ≤ 6 := Nat.le_trans (nd_mono (by decide) (Nat.div_le_self _ _)) hn1
  have o1 : Nat.gcd (lowP (rawN xs0 6) (rawN xs1 6)) (lowQ (rawN xs0 6) (rawN xs1 6)) = 1 := low_coprime h1
  obtain ⟨uo0, uc0, rfl, -⟩ := hu0.shape
  obtain ⟨uo1, uc1, rfl, -⟩ := hu1.shape
  clear he hu0 hl0 hu1 hl1
  generalize rawN xs0 6 = a at *
  generalize rawN xs1 6 = b at *
  generalize lowP a b = P1 at *
  generalize lowQ a b = Q1 at *
  have k1 := nd_32 g1
  have k1' := nd_32 g1'
  have HBS := Lib.hid (fun W v u (h1 : D W v P1) (h2 : D W u Q1) => Best_all v u most P1 Q1 W h1 h2 hm1 hm2 q1 o1 (by omega) (by omega))
  have s1 := nd_le_self16 hm2
  have i1 : ¬ (most : Int) < 1 := by omega
  have i2 : ¬ (200 : Int) < most := by omega
  have hkk : ¬ cmpN ((Q1 : Nat) : Int) ((most : Nat) : Int) ≤ 0 := by
    rcases Nat.lt_trichotomy Q1 most with h | h | h
    · omega
    · omega
    · rw [cmpN_gt (by omega)]; decide
  have HKD : Hid (∃ k, k = cmpN ((Q1 : Nat) : Int) ((most : Nat) : Int)) := ⟨_, rfl⟩
  have HRC := Lib.hid (fun W x y (h1 : R W x Q1) (h2 : R W y most) => RCmp_any x y Q1 most W h1 h2 (by omega) (by omega))
  generalize cmpN ((Q1 : Nat) : Int) ((most : Nat) : Int) = kk at *
  clear HKD o1 hn0 hn1
  go_enter Tryz.func3, Tryz.ntmps3
  go_wp2_with fail
  refine (HH1.out _ (IsRaw.below HU0.out HS0.out.bel) (IsRaw.below HU1.out HS0.out.bel)).mono ?_
  rintro e w1 ⟨vf1, vf2, vp1, vp2, rfl, hf1, hf2, hp1, hp2, hb⟩
  obtain ⟨f1o, f1c, rfl, -⟩ := hf1.shape
  obtain ⟨f2o, f2c, rfl, -⟩ := hf2.shape
  obtain ⟨p1o, p1c, rfl, -⟩ := hp1.shape
  obtain ⟨p2o, p2c, rfl, -⟩ := hp2.shape
  have hs := ((((((HS0.out.next hb).addNum hf1).addNum hf2).addDig hp1).addDig hp2).boxed2 (.slice f1o (nd 4294967296 (P1)) f1c) (.slice f2o (nd 4294967296 (Q1)) f2c) 26).boxed2 (.slice p1o (nd 65536 (P1)) p1c) (.slice p2o (nd 65536 (Q1)) p2c) 29
  simp only [World.size_alloc] at hs
  have HS1 := Lib.hid hs
  clear hs hb hf1 hf2 hp1 hp2 HS0
  clear HH1 HU0 HU1
  have cf1 := HS1.out.cell (.tail _ (.tail _ (.tail _ (.head _))))
  have cf2 := HS1.out.cell (.tail _ (.tail _ (.head _)))
  go_wp2_with fail
  refine (HBS.out _ _ _ (HS1.out.num _ (.tail _ (.head _))) (HS1.out.num _ (.head _))).mono ?_
  rintro e w2 ⟨vg1, vg2, X, Y, rfl, hg1, hg2, hbest, hb⟩
  obtain ⟨g1o, g1c, rfl, -⟩ := hg1.shape
  obtain ⟨g2o, g2c, rfl, -⟩ := hg2.shape
  have hs := (((HS1.out.next hb).addNum hg1).addNum hg2).boxed2 (.slice g1o (nd 4294967296 (X)) g1c) (.slice g2o (nd 4294967296 (Y)) g2c) 26
  have HS2 := Lib.hid hs
  clear hs hb hg1 hg2 HS1
  clear cf1 cf2
  have HBE := Lib.hid hbest
  clear hbest
  have hs := HS2.out
  obtain ⟨cs1, hcs⟩ : ∃ cs : List (Nat × Nat × Value), cs = (w2.heap.size, 1, .slice g2o (nd 4294967296 (Y)) g2c) :: (w2.heap.size, 0, .slice g1o (nd 4294967296 (X)) g1c) :: (w1.heap.size + 1, 1, .slice p2o (nd 65536 (Q1)) p2c) :: (w1.heap.size + 1, 0, .slice p1o (nd 65536 (P1)) p1c) :: (w1.heap.size, 1, .slice f2o (nd 4294967296 (Q1)) f2c) :: (w1.heap.size, 0, .slice f1o (nd 4294967296 (P1)) f1c) :: [] := ⟨_, rfl⟩
  obtain ⟨ns1, hns⟩ : ∃ ns : List (Value × Nat), ns = (.slice g2o (nd 4294967296 (Y)) g2c, Y) :: (.slice g1o (nd 4294967296 (X)) g1c, X) :: (.slice f2o (nd 4294967296 (Q1)) f2c, Q1) :: (.slice f1o (nd 4294967296 (P1)) f1c, P1) :: [] := ⟨_, rfl⟩
  obtain ⟨rs1, hrs⟩ : ∃ rs : List (Value × Nat), rs = (.slice p2o (nd 65536 (Q1)) p2c, Q1) :: (.slice p1o (nd 65536 (P1)) p1c, P1) :: [] := ⟨_, rfl⟩
  rw [← hcs, ← hns, ← hrs] at hs
  have HC1_g1 : Hid (((w2.heap.size, 0, .slice g1o (nd 4294967296 (X)) g1c) : Nat × Nat × Value) ∈ cs1) := by show _ ∈ _; rw [hcs]; exact (.tail _ (.head _))
  have HC1_g2 : Hid (((w2.heap.size, 1, .slice g2o (nd 4294967296 (Y)) g2c) : Nat × Nat × Value) ∈ cs1) := by show _ ∈ _; rw [hcs]; exact (.head _)
  have HC1_p1 : Hid (((w1.heap.size + 1, 0, .slice p1o (nd 65536 (P1)) p1c) : Nat × Nat × Value) ∈ cs1) := by show _ ∈ _; rw [hcs]; exact (.tail _ (.tail _ (.tail _ (.head _))))
  have HC1_p2 : Hid (((w1.heap.size + 1, 1, .slice p2o (nd 65536 (Q1)) p2c) : Nat × Nat × Value) ∈ cs1) := by show _ ∈ _; rw [hcs]; exact (.tail _ (.tail _ (.head _)))
  have HM1_g1 : Hid (((.slice g1o (nd 4294967296 (X)) g1c, X) : Value × Nat) ∈ ns1) := by show _ ∈ _; rw [hns]; exact (.tail _ (.head _))
  have HM1_g2 : Hid (((.slice g2o (nd 4294967296 (Y)) g2c, Y) : Value × Nat) ∈ ns1) := by show _ ∈ _; rw [hns]; exact (.head _)
  have HD1_p1 : Hid (((.slice p1o (nd 65536 (P1)) p1c, P1) : Value × Nat) ∈ rs1) := by show _ ∈ _; rw [hrs]; exact (.tail _ (.head _))
  have HD1_p2 : Hid (((.slice p2o (nd 65536 (Q1)) p2c, Q1) : Value × Nat) ∈ rs1) := by show _ ∈ _; rw [hrs]; exact (.head _)
  have HCL1 : Hid (∀ W', Kq cs1 ns1 rs1 w W' → W'.cell? ⟨w2.heap.size, 0, none⟩ = some (.slice g1o (nd 4294967296 (X)) g1c) ∧ W'.cell? ⟨w2.heap.size, 1, none⟩ = some (.slice g2o (nd 4294967296 (Y)) g2c) ∧ W'.cell? ⟨w1.heap.size + 1, 0, none⟩ = some (.slice p1o (nd 65536 (P1)) p1c) ∧ W'.cell? ⟨w1.heap.size + 1, 1, none⟩ = some (.slice p2o (nd 65536 (Q1)) p2c)) := fun W' h => ⟨h.cell HC1_g1.out, h.cell HC1_g2.out, h.cell HC1_p1.out, h.cell HC1_p2.out⟩
  have hs2 := hs.drew
  have hcl := HCL1.out _ hs2
  have hc0 := HCL1.out _ hs
  have HAK1 := Lib.hid (fun W' (h : Kq cs1 ns1 rs1 w W') => awake_Q h)
  clear hcs hns hrs HS2
  have HOF : Hid (∀ W', Kq cs1 ns1 rs1 w W' → Calls Tryz.prog 11 #[.int .i64 most] W' fun e w' => ∃ o l c, e = .returned (.slice o l c) ∧ R w' (.slice o l c) most ∧ Kq cs1 ns1 rs1 w w') := fun W' h =>
    (Of_any most W' hm2).mono fun e w' ⟨r, he, hr, hB⟩ => by
      obtain ⟨ro, rc, rfl, -⟩ := hr.shape
      exact ⟨ro, _, rc, he, hr, h.next hB⟩
  have HCO : Hid (∀ W' x, Kq cs1 ns1 rs1 w W' → R W' x most → Calls Tryz.prog 10 #[.slice p2o (nd 65536 (Q1)) p2c, x] W' fun e w' => e = .returned (.int .i64 kk) ∧ Kq cs1 ns1 rs1 w w') := fun W' x h hx =>
    (HRC.out W' _ _ (h.dig _ (HD1_p2.out)) hx).mono fun e w' ⟨he, j, hw⟩ => ⟨he, by rw [hw]; exact h.drewN j⟩
  go_wp2_with fail
  go_region_held3 (fun W' : World => (W'.cell? ⟨w2.heap.size, 0, none⟩ = some (.slice g1o (nd 4294967296 (X)) g1c) ∧ W'.cell? ⟨w2.heap.size, 1, none⟩ = some (.slice g2o (nd 4294967296 (Y)) g2c) ∧ W'.cell? ⟨w1.heap.size + 1, 0, none⟩ = some (.slice p1o (nd 65536 (P1)) p1c) ∧ W'.cell? ⟨w1.heap.size + 1, 1, none⟩ = some (.slice p2o (nd 65536 (Q1)) p2c)) ∧ Kq cs1 ns1 rs1 w W') (first | (refine And.intro ?_ ?_ <;> assumption)) (first
    | (go_at_call 11; with_reducible refine (HOF.out _ ?h).mono ?_; (case h => assumption); rintro e w' ⟨o1, l1, c1, rfl, hr', hs'⟩; have hc' := HCL1.out _ hs')
    | (go_at_call 10; with_reducible refine (HCO.out _ _ ?h ?r).mono ?_; (case h => assumption); (case r => first | assumption | exact rchain (by assumption) (by assumption) | exact rchain (by assumption) (rchain (by assumption) (by assumption)) | exact dchain (by assumption) (by assumption)); rintro e w' ⟨rfl, hs'⟩; have hc' := HCL1.out _ hs'))
  all_goals
    have hsx : Kq cs1 ns1 rs1 w w' := by assumption
    have HS3 := Lib.hid hsx
    clear hsx HOF HCO
    have hs := HS3.out
    have hs2 := hs.drew
    have hcl := HCL1.out _ hs2
    have hc0 := HCL1.out _ hs
    have hbb := best_bound' HBE.out q1
    have hyL := HBE.out.2.1
    have HYN : Hid (nd 65536 Y ≤ 5000) := by
      have : nd 65536 Y ≤ 4 := nd_le_self16 (by omega)
      show _ ≤ _
      omega
    have HXN : Hid (nd 65536 X ≤ 5000) := by
      have h1 : nd 65536 Y ≤ 4 := nd_le_self16 (by omega)
      have h2 : nd 65536 (P1 + Q1) ≤ 7 := nd_radd3 g1 g1'
      exact Nat.le_trans (nd_mono (by decide) hbb) (Nat.le_trans (nd_rmul h2 h1) (by decide))
    clear hbb hyL
    have HRB : Hid (∀ W', Kq cs1 ns1 rs1 w W' → Calls Tryz.prog 12 #[.agg #[.slice p1o (nd 65536 (P1)) p1c, .slice p2o (nd 65536 (Q1)) p2c], .int .i64 most] W' fun e w' => ∃ o l c o2 l2 c2, e = .returned (.agg #[.slice o l c, .slice o2 l2 c2]) ∧ (R w' (.slice o l c) X ∧ R w' (.slice o2 l2 c2) Y) ∧ Kq cs1 ns1 rs1 w w') := fun W' h =>
      (RBest_any _ _ P1 Q1 most W' (h.dig _ (HD1_p1.out)) (h.dig _ (HD1_p2.out)) q1 (by omega) (by omega) hm1 hf).mono fun e w' ⟨r, s, x, y, he, hr, hsy, hbest, hB⟩ => by
        obtain ⟨rfl, rfl⟩ := hbest.unique HBE.out
        obtain ⟨ro, rc, rfl, -⟩ := hr.shape
        obtain ⟨so, sc, rfl, -⟩ := hsy.shape
        exact ⟨ro, _, rc, so, _, sc, he, ⟨hr, hsy⟩, h.next hB⟩
    have HSM : Hid (∀ W' r s, Kq cs1 ns1 rs1 w W' → (R W' r X ∧ R W' s Y) → Calls Tryz.prog 9 #[.agg #[.slice g1o (nd 4294967296 (X)) g1c, .slice g2o (nd 4294967296 (Y)) g2c], .int .i64 0, .agg #[r, s], .int .i64 0] W' fun e w' => e = .returned (.bool true) ∧ Kq cs1 ns1 rs1 w w') := fun W' r s h hr =>
      (same_ok _ _ _ _ X Y W' (h.num _ (HM1_g1.out)) (h.num _ (HM1_g2.out)) hr.1 hr.2 HBE.out.1 HXN.out HYN.out h.env).mono fun e w' ⟨he, hB⟩ => ⟨he, h.next hB⟩
    go_wp2_with fail
    go_region_held3 (fun W' : World => (W'.cell? ⟨w2.heap.size, 0, none⟩ = some (.slice g1o (nd 4294967296 (X)) g1c) ∧ W'.cell? ⟨w2.heap.size, 1, none⟩ = some (.slice g2o (nd 4294967296 (Y)) g2c) ∧ W'.cell? ⟨w1.heap.size + 1, 0, none⟩ = some (.slice p1o (nd 65536 (P1)) p1c) ∧ W'.cell? ⟨w1.heap.size + 1, 1, none⟩ = some (.slice p2o (nd 65536 (Q1)) p2c)) ∧ Kq cs1 ns1 rs1 w W') (first | (refine And.intro ?_ ?_ <;> assumption)) (first
      | (go_at_call 12; with_reducible refine (HRB.out _ ?h).mono ?_; (case h => assumption); rintro e w' ⟨o1, l1, c1, o2, l2, c2, rfl, hr', hs'⟩; have hc' := HCL1.out _ hs')
      | (go_at_call 9; with_reducible refine (HSM.out _ _ _ ?h ?r).mono ?_; (case h => assumption); (case r => first | assumption | exact rchain (by assumption) (by assumption) | exact rchain (by assumption) (rchain (by assumption) (by assumption)) | exact dchain (by assumption) (by assumption)); rintro e w' ⟨rfl, hs'⟩; have hc' := HCL1.out _ hs')
      | (go_at_call 7; with_reducible refine (HAK1.out _ ?h).mono ?_; (case h => assumption); rintro e w' ⟨rfl, hs'⟩; have hc' := HCL1.out _ hs'))
    all_goals go_wp2
    all_goals go_ret
    all_goals exact ⟨by simp, (by assumption : Kq cs1 ns1 rs1 w _).bel⟩
theorem natBests_walk (u0 u1 : Value) (xs0 xs1 : List Nat) (i : Int) (w : World) (hu0 : IsRaw w u0 xs0) (hu1 : IsRaw w u1 xs1) (hl0 : xs0.length ≤ maxLen) (hl1 : xs1.length ≤ maxLen) (hi : i ≤ 9223372036854775807) (he : Env w) :
    Calls Tryz.prog 3 #[u0, u1, .int .i64 i] w fun e w' => e = .returned (.bool true) ∧ Below w.heap.size w w' := by
  rcases Nat.eq_zero_or_pos (rawN xs1 6) with h1 | h1
  · exact natBests_z u0 u1 xs0 xs1 i w hu0 hu1 hl0 hl1 h1 he
  · by_cases hm : i < 1
    · exact natBests_low u0 u1 xs0 xs1 i w hu0 hu1 hl0 hl1 h1 hm he
    · obtain ⟨n, rfl⟩ : ∃ n : Nat, i = n := ⟨i.toNat, by omega⟩
      rcases Nat.lt_or_ge n (lowQ (rawN xs0 6) (rawN xs1 6)) with hc | hc
      · rcases Nat.lt_or_ge 200 n with hf | hf
        · exact natBests_far u0 u1 xs0 xs1 n w hu0 hu1 hl0 hl1 h1 (by omega) (by omega) hc hf he
        · exact natBests_near u0 u1 xs0 xs1 n w hu0 hu1 hl0 hl1 h1 (by omega) (by omega) hc hf he
      · exact natBests_copy u0 u1 xs0 xs1 n w hu0 hu1 hl0 hl1 h1 (by omega) (by omega) hc he
end Go.Proofs.YteajinpfigejfaaGreatDoor
namespace Go.Proofs.YteajinpfigejfaaGreatDoor
open Go Go.RowKit Gu

theorem own : ownKnob Tryz.prog.godebug = none := by kernel_rfl
theorem env_of_laid {W : World} {l : List (String × DataW Unit)}
    (hl : l.filter (fun x => x.1 == "internal/strconv.uint64pow10") = [("internal/strconv.uint64pow10", Rows.laid_internal_strconv_uint64pow10)]) (h : laidMetH Tryz.prog l W) : Env W := by
  have h1 := h.filter (fun x => x.1 == "internal/strconv.uint64pow10")
  rw [hl, MakeChecks.laidMetH_plain _ _ _ (by kernel_rfl)] at h1
  exact Lib.tabIs_of_head (g := 1) (by kernel_rfl) (by kernel_rfl) Tryz.underlying148 Tryz.underlying69 (by kernel_rfl) (by kernel_rfl) h1
end Go.Proofs.YteajinpfigejfaaGreatDoor
namespace Go.Proofs.YteajinpfigejfaaGreatDoor
open Go Go.ChangeShapes Go.WideShapes Go.ChangeAt Go.RowKit Gu

theorem laidOut' : laidOutB Tryz.prog = true := by kernel_rfl
theorem u16_of_wf {n : Int} (h : (Lit.int .u16 n).wf = true) : 0 ≤ n ∧ n ≤ 65535 := by
  simpa [Lit.wf, IntKind.min, IntKind.max, IntKind.signed, IntKind.bits] using h
theorem raw_of {H : Type} {enc : TypeId × Value → H} {W : World} {d : DataW H} {p : List MemPlace} {a0 : Option Addr} {len cap : Nat}
    (h : DataW.Trod enc Tryz.prog W 0 (fun _ => true) true 22 (.slice a0 len cap) d p) : ∃ xs, IsRaw W (.slice a0 len cap) xs ∧ xs.length ≤ maxLen := by
  obtain ⟨fuel, hf⟩ := h
  have c16 : Tryz.prog.cellsOf 86 = 1 := by kernel_rfl
  rcases open_ints Tryz.underlying22 Tryz.underlying86 c16 hf with ⟨hcs, hx⟩ | ⟨a, len', cap', zs, hcs, _, hl, hm, hz, hx, hcell, hwz⟩
  · simp [Value.cells] at hcs
    obtain ⟨rfl, rfl, rfl⟩ := hcs
    exact ⟨[], ⟨Dig.nil _, .inl ⟨rfl, _, _, rfl⟩⟩, by simp⟩
  · simp [Value.cells] at hcs
    obtain ⟨rfl, rfl, rfl⟩ := hcs
    simp only [if_true] at hz
    rcases Nat.eq_zero_or_pos len with h0 | h0
    · subst h0
      exact ⟨[], ⟨Dig.nil _, .inl ⟨rfl, _, _, rfl⟩⟩, by simp⟩
    · obtain ⟨b, o, s⟩ := a
      obtain rfl : s = none := by
        have h1 := hcell 0 (by omega)
        cases s with
        | none => rfl
        | some _ =>
          exfalso
          unfold World.cell? Addr.add at h1
          simp only [if_true] at h1
          split at h1 <;> simp at h1
      have hl' : ((zs.take len).map Int.toNat).length = len := by rw [List.length_map, List.length_take]; omega
      have hget : ∀ i (h : i < ((zs.take len).map Int.toNat).length), ∃ hi : i < zs.length, ((zs.take len).map Int.toNat)[i] = zs[i].toNat := fun i h => ⟨by omega, by simp⟩
      refine ⟨(zs.take len).map Int.toNat, ⟨fun i hi => ?_, .inr ⟨b, o, cap, by rw [hl'], fun i hi => ?_⟩⟩, by omega⟩
      · obtain ⟨hi2, e⟩ := hget i hi
        have := u16_of_wf (hwz _ (List.getElem_mem hi2))
        rw [e]; omega
      · obtain ⟨hi2, e⟩ := hget i hi
        have := u16_of_wf (hwz _ (List.getElem_mem hi2))
        have h1 := hcell i hi2
        rw [add_plain] at h1
        rw [h1, e, List.getD, List.getElem?_eq_getElem hi2, Option.getD_some, Int.toNat_of_nonneg this.1]
end Go.Proofs.YteajinpfigejfaaGreatDoor
namespace Go.Proofs.YteajinpfigejfaaGreatDoor
open Go Go.ChangeShapes Go.WideShapes Go.ChangeAt Go.RowKit Gu

set_option maxRecDepth 100000 in
theorem natBests_lifted (os : Os) (started : os.Started) (H : Type) (enc : TypeId × Value → H) :
    ReturnsInHanded {} Tryz.checked os 3 .any (fun w args => (Rows.natBestsSpec.pre enc Tryz.prog Tryz.f3 [] false w args ∧ laidMetH Tryz.prog Rows.natBestsRow.laid w) ∧ sizedMet enc Tryz.prog Tryz.f3 (OpenSpec.ofChange Rows.natBestsSpec) false w args)
      (Rows.natBestsSpec.post enc Tryz.prog Tryz.f3 false true false false) := by
  refine returnsInHanded_of_change_and (C := Tryz.checked) (X := fun w _ => laidMetH Tryz.prog Rows.natBestsRow.laid w) (fun _ _ _ hh h => h.of_heap hh) own started (by kernel_rfl) Tryz.func3
    (ChangeSpec.witness_shaped (enc := enc) (C := Tryz.checked) (os := os) (X := fun w _ => laidMetH Tryz.prog Rows.natBestsRow.laid w) false (World.laidAll Tryz.prog os Rows.natBestsRow.laid) #[.slice none 0 0, .slice none 0 0, .int .i64 0] 8 (World.laidAll_os _ _ _)
      (World.shaped_of_ZipB (by kernel_rfl) (by kernel_rfl)) (by kernel_rfl) (by kernel_rfl) (by kernel_rfl)
      (by rw [MakeChecks.laidMetH_plain _ _ _ (by kernel_rfl)]; exact laidMet_laidAll _ (by kernel_rfl) (by kernel_rfl))) ?_
  intro W base args ds gs before hval0 hW _ _ hL _
  have hval : ∀ (j : Nat) t v, Tryz.f3.params[j]? = some t → args[j]? = some v → Value.okWide Tryz.prog W .any base t v := hval0
  have hW' := hW
  obtain ⟨p, q, hA0, hV, rfl, hfz, hnd⟩ := hW
  have hA : DataW.TrodAll enc Tryz.prog W 0 (fun _ => true) true Tryz.f3.params.toList args.toList ds p := hA0
  rw [Tryz.params3] at hA hval
  obtain ⟨v0, v1, v2, d0, d1, d2, p0, p1, p2, rfl, rfl, rfl, h0, h1, h2⟩ := trodAll_three hA
  obtain ⟨rfl, rfl⟩ := trodVars_none hV
  obtain ⟨i2, rfl, rfl, rfl, wi2⟩ := open_int Tryz.underlying3 (hval 2 3 v2 rfl rfl) h2
  obtain ⟨a0, len0, cap0, rfl⟩ := okWide_slice Tryz.underlying22 (hval 0 22 v0 rfl rfl)
  obtain ⟨xs0, hraw0, hlen0⟩ := raw_of h0
  obtain ⟨a1, len1, cap1, rfl⟩ := okWide_slice Tryz.underlying22 (hval 1 22 v1 rfl rfl)
  obtain ⟨xs1, hraw1, hlen1⟩ := raw_of h1
  clear hA0 hval0
  simp only [List.append_nil, List.nil_append] at hW'
  have hlt0 : ∀ x ∈ p0, x.block < W.heap.size := fun x hx => hW'.lt x (by simp [hx])
  have hlt1 : ∀ x ∈ p1, x.block < W.heap.size := fun x hx => hW'.lt x (by simp [hx])
  have hi2 : i2 ≤ 9223372036854775807 := by
    have : -9223372036854775808 ≤ i2 ∧ i2 ≤ 9223372036854775807 := by simpa [Lit.wf, IntKind.min, IntKind.max, IntKind.signed, IntKind.bits] using wi2
    exact this.2
  refine (natBests_walk _ _ xs0 xs1 i2 W hraw0 hraw1 hlen0 hlen1 hi2 (env_of_laid (by rfl) hL)).mono fun e W' ⟨he, hb⟩ => ?_
  subst he
  have hmk := trodAll_mk3 (Below.trod laidOut' (by kernel_rfl) (of_decide_eq_true (by kernel_rfl)) h0 hb hlt0) (Below.trod laidOut' (by kernel_rfl) (of_decide_eq_true (by kernel_rfl)) h1 hb hlt1) (shut_int Tryz.underlying3 wi2)
  simp only [List.append_nil, List.nil_append] at hmk
  exact ⟨_, rfl, _, _, _, [], _, [], hW', trodAll_mk1 (shut_bool Tryz.underlying4 _), hmk, rfl, hb.frame _, fun h => by cases h⟩
theorem natBests_holds : Rows.NatBestsSaid :=
  OpenClaim.holds_of_wide 3 Tryz.f3 rfl rfl rfl rfl rfl rfl rfl ⟨rfl, rfl, rfl, rfl, rfl⟩ rfl rfl rfl rfl rfl (by kernel_rfl) Tryz.func3 (by kernel_rfl)
    (of_decide_eq_true (by kernel_rfl)) (by unfold Func.isWrapper; first | (rw [if_pos (by decide +kernel)]; kernel_rfl) | (rw [if_neg (by decide +kernel)]; exact ⟨rfl, rfl⟩))
    (fun os started H enc _ => natBests_lifted os started H enc)
theorem natBests_card_holds : Rows.NatBestsCardSaid :=
  Claim7.holds_tied_plain_at .later [] [.data, .data, .data] true _ false
    natBests_holds (fun _ h => by cases h) (by kernel_rfl) (fun _ h => by cases h) natBests_row_tie rfl ⟨rfl, rfl⟩ (by kernel_rfl) rfl
    (fun f fn hf hfn => by
      obtain rfl : f = 3 := Option.some.inj ((show Tryz.prog.funcNamed "guilloche/guillochelaw01.NatBests" = some 3 by kernel_rfl).symm.trans hf) |>.symm
      obtain rfl : fn = Tryz.f3 := (Option.some.inj (Tryz.func3.symm.trans hfn)).symm
      exact ⟨by kernel_rfl, fun j t ht => by
        rw [Tryz.params3] at ht
        have hm : t ∈ [22, 22, 3] := by simpa using Array.mem_of_getElem? ht
        have hall : ([22, 22, 3].all fun u => !Tryz.prog.wantsStandIn u) = true := by kernel_rfl
        exact (show Tryz.prog.wantsStandIn t = false by simpa using List.all_eq_true.1 hall t hm)⟩)
    (by kernel_rfl)
#print axioms natBests_card_holds
end Go.Proofs.YteajinpfigejfaaGreatDoor
