/- Contracts and lemmas (several texts merged into one). -/
import Derived.Test.YteajinpfigejfaaDoorBFmp6
import Derived.Test.YteajinpfigejfaaDoorBFmp5
import Derived.Test.YteajinpfigejfaaDoorBFmp4
namespace Go.Proofs.YteajinpfigejfaaDoor
open Go Go.RowKit Gu

/-- what the end of a function with two results of two cells reads -/
theorem half_end {w W : World} {a0 a1 a2 a3 : Value} (d0 : W.cell? ⟨w.heap.size, 0, none⟩ = some a0) (d1 : W.cell? ⟨w.heap.size, 1, none⟩ = some a1) (d2 : W.cell? ⟨w.heap.size + 1, 0, none⟩ = some a2) (d3 : W.cell? ⟨w.heap.size + 1, 1, none⟩ = some a3) (hb : Below w.heap.size w W) (x y p q : Value) :
    let W4 := (((W.setCell ⟨w.heap.size, 0, none⟩ x).setCell ⟨w.heap.size, 1, none⟩ y).setCell ⟨w.heap.size + 1, 0, none⟩ p).setCell ⟨w.heap.size + 1, 1, none⟩ q
    W4.cell? ⟨w.heap.size, 0, none⟩ = some x ∧ W4.cell? ⟨w.heap.size, 1, none⟩ = some y ∧ W4.cell? ⟨w.heap.size + 1, 0, none⟩ = some p ∧ W4.cell? ⟨w.heap.size + 1, 1, none⟩ = some q ∧ Below w.heap.size w W4 := by
  obtain ⟨t0, t1⟩ := read_two d0 d1 x y
  have far : ∀ o, (w.heap.size + 1) ≠ (⟨w.heap.size, o, none⟩ : Addr).block := fun o => by show w.heap.size + 1 ≠ w.heap.size; omega
  have far' : ∀ o, (w.heap.size) ≠ (⟨w.heap.size + 1, o, none⟩ : Addr).block := fun o => by show w.heap.size ≠ w.heap.size + 1; omega
  have e2 : ((W.setCell ⟨w.heap.size, 0, none⟩ x).setCell ⟨w.heap.size, 1, none⟩ y).cell? ⟨w.heap.size + 1, 0, none⟩ = some a2 := by
    rw [World.cell?_setCell_far _ _ _ _ (far' 0), World.cell?_setCell_far _ _ _ _ (far' 0)]; exact d2
  have e3 : ((W.setCell ⟨w.heap.size, 0, none⟩ x).setCell ⟨w.heap.size, 1, none⟩ y).cell? ⟨w.heap.size + 1, 1, none⟩ = some a3 := by
    rw [World.cell?_setCell_far _ _ _ _ (far' 1), World.cell?_setCell_far _ _ _ _ (far' 1)]; exact d3
  obtain ⟨t2, t3⟩ := read_two e2 e3 p q
  refine ⟨?_, ?_, t2, t3, ((((hb.setCell (Nat.le_refl _) _).setCell (Nat.le_refl _) _).setCell (by show w.heap.size ≤ w.heap.size + 1; omega) _).setCell (by show w.heap.size ≤ w.heap.size + 1; omega) _)⟩
  · rw [World.cell?_setCell_far _ _ _ _ (far 0), World.cell?_setCell_far _ _ _ _ (far 0)]; exact t0
  · rw [World.cell?_setCell_far _ _ _ _ (far 1), World.cell?_setCell_far _ _ _ _ (far 1)]; exact t1
set_option maxHeartbeats 2000000 in
theorem half_zero (u v : Value) (xs ys : List Nat) (m : Nat) (w : World) (hu : IsRaw w u xs) (hv : IsRaw w v ys) (hl1 : xs.length ≤ maxLen) (hl2 : ys.length ≤ maxLen) (hm : m ≤ 1000) (hb0 : rawN ys m = 0) :
    Calls Tryd.prog 25 #[u, v, .int .i64 m] w fun e w' => e = .returned (.tuple #[.agg #[.slice none 0 0, .slice none 0 0], .agg #[.slice none 0 0, .slice none 0 0], .bool false]) ∧ Below w.heap.size w w' := by
  have b2 : ∀ o1 o2, Below w.heap.size w ((w.alloc o1).alloc o2) := fun o1 o2 => ((Below.refl _ _).alloc (Nat.le_refl _) _).alloc (by simp) _
  have HR1 := Lib.hid (fun W (h : IsRaw W u xs) => Raw_any u xs m W h hl1 (by omega))
  have HR2 := Lib.hid (fun W (h : IsRaw W v ys) => Raw_any v ys m W h hl2 (by omega))
  rw [hb0] at HR2
  have HU := Lib.hid (fun o1 o2 => IsRaw.below hu (b2 o1 o2))
  have HV := Lib.hid (fun o1 o2 => IsRaw.below hv (b2 o1 o2))
  have HB := Lib.hid b2
  obtain ⟨uo, uc, rfl, -⟩ := hu.shape
  obtain ⟨vo, vc, rfl, -⟩ := hv.shape
  clear hu hv b2 hb0
  generalize rawN xs m = a at *
  go_enter Tryd.func25, Tryd.ntmps25
  go_wp2_with fail
  refine (HR1.out _ (HU.out _ _)).mono ?_
  rintro e w1 ⟨c, rfl, hc, hb1⟩
  obtain ⟨co, cc, rfl, -⟩ := hc.shape
  have HV1 := Lib.hid (IsRaw.below (HV.out _ _) hb1)
  have HB1 := Lib.hid hb1
  clear hc hb1
  go_wp2_with fail
  refine (HR2.out _ HV1.out).mono ?_
  rintro e w2 ⟨d, rfl, hd, hb2⟩
  obtain ⟨eo, ec, rfl, -⟩ := hd.shape
  rw [nd_zero]
  have hbt := HB1.out.trans (hb2.mono HB1.out.size)
  have c0 : ∀ k o, (k = w.heap.size ∨ k = w.heap.size + 1) → (o = 0 ∨ o = 1) → w2.cell? ⟨k, o, none⟩ = some (.slice none 0 0) ∧ w2.frozen? ⟨k, o, none⟩ = false := by
    intro k o hk ho
    have hl : k < ((w.alloc (.cells #[.slice none 0 0, .slice none 0 0] 26)).alloc (.cells #[.slice none 0 0, .slice none 0 0] 32)).heap.size := by simp; omega
    refine ⟨(hbt.cell (p := ⟨k, o, none⟩) hl).trans ?_, (hbt.frozen (p := ⟨k, o, none⟩) hl).trans ?_⟩
    · rcases hk with rfl | rfl
      · refine (World.cell?_alloc_past _ _ _ (by simp)).trans ?_
        rcases ho with rfl | rfl <;> exact World.cell?_alloc_at _ _ _ _ rfl
      · rcases ho with rfl | rfl <;> exact World.cell?_alloc_at _ _ _ _ (by simp)
    · rcases hk with rfl | rfl
      · refine (((Below.refl _ _).alloc (Nat.le_refl _) _).frozen (p := ⟨w.heap.size, o, none⟩) (by simp)).trans ?_
        rcases ho with rfl | rfl <;> exact World.frozen?_alloc_at _ _ _ _ rfl
      · rcases ho with rfl | rfl <;> exact World.frozen?_alloc_at _ _ _ _ (by simp)
  obtain ⟨a0, f0⟩ := c0 _ 0 (.inl rfl) (.inl rfl)
  obtain ⟨a1, f1⟩ := c0 _ 1 (.inl rfl) (.inr rfl)
  obtain ⟨a2, f2⟩ := c0 _ 0 (.inr rfl) (.inl rfl)
  obtain ⟨a3, f3⟩ := c0 _ 1 (.inr rfl) (.inr rfl)
  have HBE := Lib.hid ((HB.out _ _).trans (hbt.mono (HB.out _ _).size))
  have HA := Lib.hid (And.intro a0 (And.intro a1 (And.intro a2 a3)))
  clear hd hb2 hbt c0
  go_wp2
  obtain ⟨q0, q1, q2, q3, q4⟩ := half_end (w := w) HA.out.1 HA.out.2.1 HA.out.2.2.1 HA.out.2.2.2 HBE.out (.slice none 0 0) (.slice none 0 0) (.slice none 0 0) (.slice none 0 0)
  refine bodyPost_ret (v := .tuple #[.agg #[.slice none 0 0, .slice none 0 0], .agg #[.slice none 0 0, .slice none 0 0], .bool false]) (by simp [results, Tryd.results25, go_sem, q0, q1, q2, q3]) rfl ⟨rfl, q4⟩
theorem half_keep {k : IntKind} {B : Nat} {w W : World} {v : Value} {n : Nat} (h : IsN k B W v n)
    (hr : ∀ j o, (j = w.heap.size ∨ j = w.heap.size + 1) → (o = 0 ∨ o = 1) → (∃ o' l c, W.cell? ⟨j, o, none⟩ = some (.slice o' l c)) ∧ W.frozen? ⟨j, o, none⟩ = false) (x y p q : Value) :
    IsN k B ((((W.setCell ⟨w.heap.size, 0, none⟩ x).setCell ⟨w.heap.size, 1, none⟩ y).setCell ⟨w.heap.size + 1, 0, none⟩ p).setCell ⟨w.heap.size + 1, 1, none⟩ q) v n := by
  obtain ⟨⟨o0, l0, c0, d0⟩, -⟩ := hr _ 0 (.inl rfl) (.inl rfl)
  obtain ⟨⟨o1, l1, c1, d1⟩, -⟩ := hr _ 1 (.inl rfl) (.inr rfl)
  obtain ⟨⟨o2, l2, c2, d2⟩, -⟩ := hr _ 0 (.inr rfl) (.inl rfl)
  obtain ⟨⟨o3, l3, c3, d3⟩, -⟩ := hr _ 1 (.inr rfl) (.inr rfl)
  have far' : ∀ o, (w.heap.size) ≠ (⟨w.heap.size + 1, o, none⟩ : Addr).block := fun o => by show w.heap.size ≠ w.heap.size + 1; omega
  have e2 : ((W.setCell ⟨w.heap.size, 0, none⟩ x).setCell ⟨w.heap.size, 1, none⟩ y).cell? ⟨w.heap.size + 1, 0, none⟩ = some (.slice o2 l2 c2) := by
    rw [World.cell?_setCell_far _ _ _ _ (far' 0), World.cell?_setCell_far _ _ _ _ (far' 0)]; exact d2
  have e3 : ((W.setCell ⟨w.heap.size, 0, none⟩ x).setCell ⟨w.heap.size, 1, none⟩ y).cell? ⟨w.heap.size + 1, 1, none⟩ = some (.slice o3 l3 c3) := by
    rw [World.cell?_setCell_far _ _ _ _ (far' 1), World.cell?_setCell_far _ _ _ _ (far' 1)]; exact d3
  exact IsN_setTwo (IsN_setTwo h d0 d1 (by intro d e; cases e) (by intro d e; cases e) _ _) e2 e3 (by intro d e; cases e) (by intro d e; cases e) _ _
/-- what half's last region keeps -/
structure StH (w : World) (F : Nat) (v u x y : Value) (P Q a b : Nat) (W : World) : Prop where
  n1 : D W v P
  n2 : D W u Q
  d1 : R W x a
  d2 : R W y b
  bel : Below w.heap.size w W
  hF : w.heap.size + 1 < F
  lt : F < W.heap.size
  f0 : W.cell? ⟨F, 0, none⟩ = some v
  f1 : W.cell? ⟨F, 1, none⟩ = some u
  r : ∀ j o, (j = w.heap.size ∨ j = w.heap.size + 1) → (o = 0 ∨ o = 1) → (∃ o' l c, W.cell? ⟨j, o, none⟩ = some (.slice o' l c)) ∧ W.frozen? ⟨j, o, none⟩ = false
theorem StH.next {w W W' : World} {F : Nat} {v u x y : Value} {P Q a b : Nat} (h : StH w F v u x y P Q a b W) (hb : Below W.heap.size W W') : StH w F v u x y P Q a b W' :=
  ⟨h.n1.below hb, h.n2.below hb, h.d1.below hb, h.d2.below hb, h.bel.trans (hb.mono h.bel.size), h.hF, Nat.lt_of_lt_of_le h.lt hb.size, (hb.cell (p := ⟨F, 0, none⟩) h.lt).trans h.f0, (hb.cell (p := ⟨F, 1, none⟩) h.lt).trans h.f1,
    fun j o hj ho => by
      have hl : j < W.heap.size := by have := h.hF; have := h.lt; omega
      obtain ⟨⟨o', l, c, hc⟩, hf⟩ := h.r j o hj ho
      exact ⟨⟨o', l, c, (hb.cell (p := ⟨j, o, none⟩) hl).trans hc⟩, (hb.frozen (p := ⟨j, o, none⟩) hl).trans hf⟩⟩
theorem StH.set {w W : World} {F : Nat} {v u x y : Value} {P Q a b : Nat} (h : StH w F v u x y P Q a b W) {j : Nat} (hj : j = w.heap.size ∨ j = w.heap.size + 1) (o1 : Option Addr) (l1 c1 : Nat) (o2 : Option Addr) (l2 c2 : Nat) :
    StH w F v u x y P Q a b ((W.setCell ⟨j, 0, none⟩ (.slice o1 l1 c1)).setCell ⟨j, 1, none⟩ (.slice o2 l2 c2)) := by
  obtain ⟨⟨p0, q0, s0, d0⟩, -⟩ := h.r j 0 hj (.inl rfl)
  obtain ⟨⟨p1, q1, s1, d1⟩, -⟩ := h.r j 1 hj (.inr rfl)
  have hk : ∀ {k : IntKind} {B : Nat} {z : Value} {n : Nat}, IsN k B W z n → IsN k B ((W.setCell ⟨j, 0, none⟩ (.slice o1 l1 c1)).setCell ⟨j, 1, none⟩ (.slice o2 l2 c2)) z n := fun hz => IsN_setTwo hz d0 d1 (by intro d e; cases e) (by intro d e; cases e) _ _
  have hFj : j ≠ F := by have := h.hF; omega
  have hw : w.heap.size ≤ j := by omega
  obtain ⟨t0, t1⟩ := read_two d0 d1 (.slice o1 l1 c1) (.slice o2 l2 c2)
  refine ⟨hk h.n1, hk h.n2, hk h.d1, hk h.d2, (h.bel.setCell hw _).setCell hw _, h.hF, by rw [World.size_setCell, World.size_setCell]; exact h.lt, ?_, ?_, fun i o hi ho => ⟨?_, ?_⟩⟩
  · rw [World.cell?_setCell_far _ _ _ _ hFj, World.cell?_setCell_far _ _ _ _ hFj]; exact h.f0
  · rw [World.cell?_setCell_far _ _ _ _ hFj, World.cell?_setCell_far _ _ _ _ hFj]; exact h.f1
  · by_cases e : i = j
    · subst e
      rcases ho with rfl | rfl
      · exact ⟨_, _, _, t0⟩
      · exact ⟨_, _, _, t1⟩
    · obtain ⟨⟨o', l, c, hc⟩, -⟩ := h.r i o hi ho
      refine ⟨o', l, c, ?_⟩
      rw [World.cell?_setCell_far _ _ _ _ (fun e' => e e'.symm), World.cell?_setCell_far _ _ _ _ (fun e' => e e'.symm)]; exact hc
  · have := (h.r i o hi ho).2
    simpa using this
set_option maxHeartbeats 4000000 in
set_option maxRecDepth 100000 in
theorem half_pos (u v : Value) (xs ys : List Nat) (m : Nat) (w : World) (hu : IsRaw w u xs) (hv : IsRaw w v ys) (hl1 : xs.length ≤ maxLen) (hl2 : ys.length ≤ maxLen) (hm : m ≤ 300) (hb0 : 0 < rawN ys m) :
    Calls Tryd.prog 25 #[u, v, .int .i64 m] w fun e w' => ∃ r1 s1 r2 s2, e = .returned (.tuple #[.agg #[r1, s1], .agg #[r2, s2], .bool true]) ∧ D w' r1 (lowP (rawN xs m) (rawN ys m)) ∧ D w' s1 (lowQ (rawN xs m) (rawN ys m)) ∧ R w' r2 (lowP (rawN xs m) (rawN ys m)) ∧ R w' s2 (lowQ (rawN xs m) (rawN ys m)) ∧ Below w.heap.size w w' := by
  have b2 : ∀ o1 o2, Below w.heap.size w ((w.alloc o1).alloc o2) := fun o1 o2 => ((Below.refl _ _).alloc (Nat.le_refl _) _).alloc (by simp) _
  have HR1 := Lib.hid (fun W (h : IsRaw W u xs) => Raw_any u xs m W h hl1 (by omega))
  have HR2 := Lib.hid (fun W (h : IsRaw W v ys) => Raw_any v ys m W h hl2 (by omega))
  have hna := rawN_nd hu.1 m
  have hnb := rawN_nd hv.1 m
  have HU := Lib.hid (fun o1 o2 => IsRaw.below hu (b2 o1 o2))
  have HV := Lib.hid (fun o1 o2 => IsRaw.below hv (b2 o1 o2))
  have HB := Lib.hid b2
  obtain ⟨uo, uc, rfl, -⟩ := hu.shape
  obtain ⟨vo, vc, rfl, -⟩ := hv.shape
  clear hu hv b2
  generalize rawN xs m = a at *
  generalize rawN ys m = b at *
  have h32a : nd 4294967296 a ≤ 300 := Nat.le_trans (nd_32 hna) hm
  have h32b : nd 4294967296 b ≤ 300 := Nat.le_trans (nd_32 hnb) hm
  have hl0 := nd_pos (B := 65536) (by decide) hb0
  have hq : ((((nd 65536 b : Nat)) : Int) == 0) = false := beq_eq_false_iff_ne.2 (by omega)
  have HTW := Lib.hid (fun W x y (h1 : R W x a) (h2 : R W y b) => two_any x y a b W h1 h2 (by omega) (by omega))
  have HNF := Lib.hid (fun W v u (h1 : D W v a) (h2 : D W u b) => NewFrac_any (divide_long (max (nd 4294967296 a) (nd 4294967296 b)) (by omega)) v u a b W h1 h2 hb0 ((nd_le (by decide)).1 (Nat.le_max_left _ _)) ((nd_le (by decide)).1 (Nat.le_max_right _ _)))
  rw [show a / Nat.gcd a b = lowP a b from rfl, show b / Nat.gcd a b = lowQ a b from rfl] at HNF
  have HRL := Lib.hid (fun W v u (h1 : R W v a) (h2 : R W u b) => RLow_any v u a b W h1 h2 hb0 (by omega) (by omega))
  clear hna hnb h32a h32b hb0 hl0
  generalize lowP a b = P at *
  generalize lowQ a b = Q at *
  go_enter Tryd.func25, Tryd.ntmps25
  go_wp2_with fail
  refine (HR1.out _ (HU.out _ _)).mono ?_
  rintro e w1 ⟨c, rfl, hc, hb1⟩
  obtain ⟨co, cc, rfl, -⟩ := hc.shape
  have HV1 := Lib.hid (IsRaw.below (HV.out _ _) hb1)
  have HB1 := Lib.hid hb1; have HC1 := Lib.hid hc
  clear hc hb1
  go_wp2_with fail
  refine (HR2.out _ HV1.out).mono ?_
  rintro e w2 ⟨d, rfl, hd, hb2⟩
  obtain ⟨eo, ec, rfl, -⟩ := hd.shape
  have HB2 := Lib.hid (HB1.out.trans (hb2.mono HB1.out.size)); have HC2 := Lib.hid (HC1.out.below hb2); have HD2 := Lib.hid hd
  clear hd hb2
  go_wp2_with fail
  refine (HTW.out _ _ _ HC2.out HD2.out).mono ?_
  rintro e w3 ⟨x, y, rfl, hx, hy, hb3⟩
  obtain ⟨xo, xc, rfl, -⟩ := hx.shape
  obtain ⟨yo, yc, rfl, -⟩ := hy.shape
  have bb : ∀ o1 o2, Below w3.heap.size w3 ((w3.alloc o1).alloc o2) := fun o1 o2 => ((Below.refl _ _).alloc (Nat.le_refl _) _).alloc (by simp) _
  have HB3 := Lib.hid (fun o1 o2 => (HB2.out.trans (hb3.mono HB2.out.size)).trans ((bb o1 o2).mono (HB2.out.trans (hb3.mono HB2.out.size)).size))
  have HC3 := Lib.hid (fun o1 o2 => (HC2.out.below hb3).below (bb o1 o2)); have HD3 := Lib.hid (fun o1 o2 => (HD2.out.below hb3).below (bb o1 o2))
  have HX3 := Lib.hid (fun o1 o2 => hx.below (bb o1 o2)); have HY3 := Lib.hid (fun o1 o2 => hy.below (bb o1 o2))
  clear hx hy hb3 bb
  go_wp2_with fail
  refine (HNF.out _ _ _ (HX3.out _ _) (HY3.out _ _)).mono ?_
  rintro e w4 ⟨f, g, rfl, hf, hg, hb4⟩
  obtain ⟨fo, fc, rfl, -⟩ := hf.shape
  obtain ⟨go, gc, rfl, -⟩ := hg.shape
  have hbt := (HB3.out _ _).trans (hb4.mono (HB3.out _ _).size)
  have hz := hbt.size
  simp only [World.size_alloc] at hz
  have b5 : ∀ o, Below w4.heap.size w4 (w4.alloc o) := fun o => (Below.refl _ _).alloc (Nat.le_refl _) _
  have hst0 : StH w w4.heap.size (.slice fo (nd 4294967296 P) fc) (.slice go (nd 4294967296 Q) gc) (.slice co (nd 65536 a) cc) (.slice eo (nd 65536 b) ec) P Q a b (w4.alloc (.cells #[.slice fo (nd 4294967296 P) fc, .slice go (nd 4294967296 Q) gc] 26)) := by
    refine ⟨hf.below (b5 _), hg.below (b5 _), ((HC3.out _ _).below hb4).below (b5 _), ((HD3.out _ _).below hb4).below (b5 _), ((HB.out _ _).trans (hbt.mono (HB.out _ _).size)).trans ((b5 _).mono ((HB.out _ _).trans (hbt.mono (HB.out _ _).size)).size), by omega, by simp, World.cell?_alloc_at _ _ _ _ rfl, World.cell?_alloc_at _ _ _ _ rfl, fun j o hj ho => ?_⟩
    have hl : j < ((w.alloc (.cells #[.slice none 0 0, .slice none 0 0] 26)).alloc (.cells #[.slice none 0 0, .slice none 0 0] 32)).heap.size := by simp; omega
    have hl4 : j < w4.heap.size := by omega
    refine ⟨⟨none, 0, 0, ((b5 _).cell (p := ⟨j, o, none⟩) hl4).trans ((hbt.cell (p := ⟨j, o, none⟩) hl).trans ?_)⟩, ((b5 _).frozen (p := ⟨j, o, none⟩) hl4).trans ((hbt.frozen (p := ⟨j, o, none⟩) hl).trans ?_)⟩
    · rcases hj with rfl | rfl
      · refine (World.cell?_alloc_past _ _ _ (by simp)).trans ?_
        rcases ho with rfl | rfl <;> exact World.cell?_alloc_at _ _ _ _ rfl
      · rcases ho with rfl | rfl <;> exact World.cell?_alloc_at _ _ _ _ (by simp)
    · rcases hj with rfl | rfl
      · refine (((Below.refl _ _).alloc (Nat.le_refl _) _).frozen (p := ⟨w.heap.size, o, none⟩) (by simp)).trans ?_
        rcases ho with rfl | rfl <;> exact World.frozen?_alloc_at _ _ _ _ rfl
      · rcases ho with rfl | rfl <;> exact World.frozen?_alloc_at _ _ _ _ (by simp)
  obtain ⟨V1, hV1⟩ : ∃ V1 : Value, V1 = .slice fo (nd 4294967296 P) fc := ⟨_, rfl⟩
  have HRK : Hid (∀ W, StH w w4.heap.size (.slice fo (nd 4294967296 P) fc) (.slice go (nd 4294967296 Q) gc) (.slice co (nd 65536 a) cc) (.slice eo (nd 65536 b) ec) P Q a b W → Calls Tryd.prog 66 #[.slice co (nd 65536 a) cc, .slice eo (nd 65536 b) ec] W fun e w' => ∃ o1 l1 k1 o2 l2 k2, e = .returned (.agg #[.slice o1 l1 k1, .slice o2 l2 k2]) ∧ (R w' (.slice o1 l1 k1) P ∧ R w' (.slice o2 l2 k2) Q) ∧ StH w w4.heap.size (.slice fo (nd 4294967296 P) fc) (.slice go (nd 4294967296 Q) gc) (.slice co (nd 65536 a) cc) (.slice eo (nd 65536 b) ec) P Q a b w') := fun W h =>
    (HRL.out _ _ _ h.d1 h.d2).mono fun e w' ⟨r, s, he, hr, hs, hB⟩ => by
      obtain ⟨ro, rc, rfl, -⟩ := hr.shape
      obtain ⟨so, sc, rfl, -⟩ := hs.shape
      exact ⟨ro, _, rc, so, _, sc, he, ⟨hr, hs⟩, h.next hB⟩
  have HSET : Hid (∀ W j o1 l1 c1 o2 l2 c2, (j = w.heap.size ∨ j = w.heap.size + 1) → StH w w4.heap.size (.slice fo (nd 4294967296 P) fc) (.slice go (nd 4294967296 Q) gc) (.slice co (nd 65536 a) cc) (.slice eo (nd 65536 b) ec) P Q a b W →
      (((W.setCell ⟨j, 0, none⟩ (.slice o1 l1 c1)).setCell ⟨j, 1, none⟩ (.slice o2 l2 c2)).cell? ⟨w4.heap.size, 0, none⟩ = some (.slice fo (nd 4294967296 P) fc) ∧ ((W.setCell ⟨j, 0, none⟩ (.slice o1 l1 c1)).setCell ⟨j, 1, none⟩ (.slice o2 l2 c2)).cell? ⟨w4.heap.size, 1, none⟩ = some (.slice go (nd 4294967296 Q) gc)) ∧ StH w w4.heap.size (.slice fo (nd 4294967296 P) fc) (.slice go (nd 4294967296 Q) gc) (.slice co (nd 65536 a) cc) (.slice eo (nd 65536 b) ec) P Q a b ((W.setCell ⟨j, 0, none⟩ (.slice o1 l1 c1)).setCell ⟨j, 1, none⟩ (.slice o2 l2 c2))) :=
    fun W j o1 l1 c1 o2 l2 c2 hj h => ⟨⟨(h.set hj o1 l1 c1 o2 l2 c2).f0, (h.set hj o1 l1 c1 o2 l2 c2).f1⟩, h.set hj o1 l1 c1 o2 l2 c2⟩
  have HRR : Hid (∀ W, StH w w4.heap.size (.slice fo (nd 4294967296 P) fc) (.slice go (nd 4294967296 Q) gc) (.slice co (nd 65536 a) cc) (.slice eo (nd 65536 b) ec) P Q a b W → (∃ o' l c, W.cell? ⟨w.heap.size, 0, none⟩ = some (.slice o' l c)) ∧ (∃ o' l c, W.cell? ⟨w.heap.size, 1, none⟩ = some (.slice o' l c)) ∧ (∃ o' l c, W.cell? ⟨w.heap.size + 1, 0, none⟩ = some (.slice o' l c)) ∧ (∃ o' l c, W.cell? ⟨w.heap.size + 1, 1, none⟩ = some (.slice o' l c)) ∧
      W.frozen? ⟨w.heap.size, 0, none⟩ = false ∧ W.frozen? ⟨w.heap.size, 1, none⟩ = false ∧ W.frozen? ⟨w.heap.size + 1, 0, none⟩ = false ∧ W.frozen? ⟨w.heap.size + 1, 1, none⟩ = false) := fun W h =>
    ⟨(h.r _ 0 (.inl rfl) (.inl rfl)).1, (h.r _ 1 (.inl rfl) (.inr rfl)).1, (h.r _ 0 (.inr rfl) (.inl rfl)).1, (h.r _ 1 (.inr rfl) (.inr rfl)).1, (h.r _ 0 (.inl rfl) (.inl rfl)).2, (h.r _ 1 (.inl rfl) (.inr rfl)).2, (h.r _ 0 (.inr rfl) (.inl rfl)).2, (h.r _ 1 (.inr rfl) (.inr rfl)).2⟩
  have hs2 := hst0.next ((Below.refl _ _).drew)
  have hc0 := And.intro hst0.f0 hst0.f1
  have hc2 := And.intro hs2.f0 hs2.f1
  clear hf hg hb4 hbt b5 hV1
  go_wp2_with fail
  go_region_held3 (fun W : World => (W.cell? ⟨w4.heap.size, 0, none⟩ = some (.slice fo (nd 4294967296 P) fc) ∧ W.cell? ⟨w4.heap.size, 1, none⟩ = some (.slice go (nd 4294967296 Q) gc)) ∧ StH w w4.heap.size (.slice fo (nd 4294967296 P) fc) (.slice go (nd 4294967296 Q) gc) (.slice co (nd 65536 a) cc) (.slice eo (nd 65536 b) ec) P Q a b W) (first | (refine And.intro ?_ ?_ <;> assumption) | (refine HSET.out _ _ _ _ _ _ _ _ (.inl rfl) ?_; assumption) | (refine HSET.out _ _ _ _ _ _ _ _ (.inr rfl) ?_; assumption) | (refine HSET.out _ _ _ _ _ _ _ _ (.inr rfl) (HSET.out _ _ _ _ _ _ _ _ (.inl rfl) ?_).2; assumption) | fail) (first
    | (go_at_call 66; with_reducible refine (HRK.out _ ?h).mono ?_; (case h => assumption); rintro e w' ⟨o1, l1, k1, o2, l2, k2, rfl, hr', hs'⟩; have hc' := And.intro hs'.f0 hs'.f1; obtain ⟨⟨a0, a1, a2, z0⟩, ⟨b0, b1, b2, z1⟩, ⟨c0, c1, c2, z2⟩, ⟨d0, d1, d2, z3⟩, y0, y1, y2, y3⟩ := HRR.out _ hs'))
  all_goals
    have hR : R w' (.slice o1 l1 k1) P ∧ R w' (.slice o2 l2 k2) Q := by assumption
    have hT : StH w w4.heap.size (.slice fo (nd 4294967296 P) fc) (.slice go (nd 4294967296 Q) gc) (.slice co (nd 65536 a) cc) (.slice eo (nd 65536 b) ec) P Q a b w' := by assumption
    obtain ⟨⟨m0, m1, m2, e0⟩, -⟩ := hT.r _ 0 (.inl rfl) (.inl rfl)
    obtain ⟨⟨m3, m4, m5, e1⟩, -⟩ := hT.r _ 1 (.inl rfl) (.inr rfl)
    obtain ⟨⟨m6, m7, m8, e2⟩, -⟩ := hT.r _ 0 (.inr rfl) (.inl rfl)
    obtain ⟨⟨m9, m10, m11, e3⟩, -⟩ := hT.r _ 1 (.inr rfl) (.inr rfl)
    have HE := Lib.hid (half_end e0 e1 e2 e3 hT.bel (.slice fo (nd 4294967296 P) fc) (.slice go (nd 4294967296 Q) gc) (.slice o1 l1 k1) (.slice o2 l2 k2))
    have HKS := Lib.hid (And.intro (half_keep hT.n1 hT.r (.slice fo (nd 4294967296 P) fc) (.slice go (nd 4294967296 Q) gc) (.slice o1 l1 k1) (.slice o2 l2 k2)) (And.intro (half_keep hT.n2 hT.r (.slice fo (nd 4294967296 P) fc) (.slice go (nd 4294967296 Q) gc) (.slice o1 l1 k1) (.slice o2 l2 k2)) (And.intro (half_keep hR.1 hT.r (.slice fo (nd 4294967296 P) fc) (.slice go (nd 4294967296 Q) gc) (.slice o1 l1 k1) (.slice o2 l2 k2)) (half_keep hR.2 hT.r (.slice fo (nd 4294967296 P) fc) (.slice go (nd 4294967296 Q) gc) (.slice o1 l1 k1) (.slice o2 l2 k2)))))
    clear hT hR e0 e1 e2 e3
    go_wp2
    obtain ⟨t0, t1, t2, t3, t4⟩ := HE.out
    obtain ⟨s1, s2, s3, s4⟩ := HKS.out
    refine bodyPost_ret (v := .tuple #[.agg #[.slice fo (nd 4294967296 P) fc, .slice go (nd 4294967296 Q) gc], .agg #[.slice o1 l1 k1, .slice o2 l2 k2], .bool true]) (by simp [results, Tryd.results25, go_sem, t0, t1, t2, t3]) rfl ⟨_, _, _, _, rfl, s1, s2, s3, s4, t4⟩
end Go.Proofs.YteajinpfigejfaaDoor
namespace Go.Proofs.YteajinpfigejfaaDoor
open Go Go.RowKit Gu

theorem cmp_neg (a b : Nat) : cmpN ((b : Nat) : Int) ((a : Nat) : Int) = - cmpN ((a : Nat) : Int) ((b : Nat) : Int) := by
  rcases Nat.lt_trichotomy a b with h | h | h
  · rw [cmpN_gt (by omega), cmpN_lt (by omega)]; decide
  · rw [cmpN_eq (by omega), cmpN_eq (by omega)]; decide
  · rw [cmpN_lt (by omega), cmpN_gt (by omega)]
theorem cmp_le {a b : Nat} : cmpN ((a : Nat) : Int) ((b : Nat) : Int) ≤ 0 ↔ a ≤ b := by
  rcases Nat.lt_trichotomy a b with h | h | h
  · rw [cmpN_lt (by omega)]; simp; omega
  · rw [cmpN_eq (by omega)]; simp; omega
  · rw [cmpN_gt (by omega)]; simp; omega
theorem cmp_zero {a b : Nat} : cmpN ((a : Nat) : Int) ((b : Nat) : Int) = 0 ↔ a = b := by
  rcases Nat.lt_trichotomy a b with h | h | h
  · rw [cmpN_lt (by omega)]; simp; omega
  · rw [cmpN_eq (by omega)]; simp; omega
  · rw [cmpN_gt (by omega)]; simp; omega
theorem cmp_three (a b : Nat) : cmpN ((a : Nat) : Int) ((b : Nat) : Int) = -1 ∨ cmpN ((a : Nat) : Int) ((b : Nat) : Int) = 0 ∨ cmpN ((a : Nat) : Int) ((b : Nat) : Int) = 1 := by
  rcases Nat.lt_trichotomy a b with h | h | h
  · exact .inl (cmpN_lt (by omega))
  · exact .inr (.inl (cmpN_eq (by omega)))
  · exact .inr (.inr (cmpN_gt (by omega)))
/-- a comparison depends on the order alone -/
theorem cmp_same {a b c d : Nat} (h1 : a < b ↔ c < d) (h2 : b < a ↔ d < c) : cmpN ((a : Nat) : Int) ((b : Nat) : Int) = cmpN ((c : Nat) : Int) ((d : Nat) : Int) := by
  rcases Nat.lt_trichotomy a b with h | h | h
  · rw [cmpN_lt (by omega), cmpN_lt (by have := h1.1 h; omega)]
  · have h3 : ¬ a < b := by omega
    have h4 : ¬ b < a := by omega
    rw [h1] at h3; rw [h2] at h4
    rw [cmpN_eq (by omega), cmpN_eq (by omega)]
  · rw [cmpN_gt (by omega), cmpN_gt (by have := h2.1 h; omega)]
theorem cmp_scale {a b k : Nat} (hk : 0 < k) : cmpN ((a * k : Nat) : Int) ((b * k : Nat) : Int) = cmpN ((a : Nat) : Int) ((b : Nat) : Int) :=
  cmp_same (Nat.mul_lt_mul_right hk) (Nat.mul_lt_mul_right hk)
/-- of three fractions -/
theorem frac_trans {P1 Q1 P2 Q2 P3 Q3 : Nat} (h2 : 0 < Q2) (hx : P1 * Q2 ≤ P2 * Q1) (hy : P2 * Q3 ≤ P3 * Q2) : P1 * Q3 ≤ P3 * Q1 := by
  have e1 : P1 * Q2 * Q3 ≤ P2 * Q1 * Q3 := Nat.mul_le_mul_right _ hx
  have e2 : P2 * Q3 * Q1 ≤ P3 * Q2 * Q1 := Nat.mul_le_mul_right _ hy
  have e3 : P2 * Q1 * Q3 = P2 * Q3 * Q1 := Nat.mul_right_comm _ _ _
  have e4 : P1 * Q3 * Q2 ≤ P3 * Q1 * Q2 := by
    rw [Nat.mul_right_comm P1 Q3 Q2, Nat.mul_right_comm P3 Q1 Q2]
    omega
  exact Nat.le_of_mul_le_mul_right e4 h2
theorem low_mul {L M : Nat} : lowP L M * Nat.gcd L M = L ∧ lowQ L M * Nat.gcd L M = M := ⟨Nat.div_mul_cancel (Nat.gcd_dvd_left _ _), Nat.div_mul_cancel (Nat.gcd_dvd_right _ _)⟩
/-- fractions in lowest terms compare as what they were made of -/
theorem cmp_low {L M L' M' : Nat} (hM : 0 < M) (hM' : 0 < M') : cmpN ((lowP L M * lowQ L' M' : Nat) : Int) ((lowP L' M' * lowQ L M : Nat) : Int) = cmpN ((L * M' : Nat) : Int) ((L' * M : Nat) : Int) := by
  obtain ⟨e1, e2⟩ := low_mul (L := L) (M := M)
  obtain ⟨e3, e4⟩ := low_mul (L := L') (M := M')
  have hg : 0 < Nat.gcd L M * Nat.gcd L' M' := Nat.mul_pos (Nat.gcd_pos_of_pos_right _ hM) (Nat.gcd_pos_of_pos_right _ hM')
  rw [← cmp_scale (k := Nat.gcd L M * Nat.gcd L' M') hg]
  have a1 : lowP L M * lowQ L' M' * (Nat.gcd L M * Nat.gcd L' M') = L * M' := by
    rw [Nat.mul_mul_mul_comm, e1, e4]
  have a2 : lowP L' M' * lowQ L M * (Nat.gcd L M * Nat.gcd L' M') = L' * M := by
    rw [Nat.mul_comm (Nat.gcd L M), Nat.mul_mul_mul_comm, e3, e2]
  rw [a1, a2]
/-- a sum with one and the same fraction keeps the order -/
theorem cmp_plus {P1 Q1 P2 Q2 P3 Q3 : Nat} (h3 : 0 < Q3) :
    cmpN (((P1 * Q3 + P3 * Q1) * (Q2 * Q3) : Nat) : Int) (((P2 * Q3 + P3 * Q2) * (Q1 * Q3) : Nat) : Int) = cmpN ((P1 * Q2 : Nat) : Int) ((P2 * Q1 : Nat) : Int) := by
  have hk : 0 < Q3 * Q3 := Nat.mul_pos h3 h3
  rw [← cmp_scale (a := P1 * Q2) (b := P2 * Q1) hk]
  have a1 : (P1 * Q3 + P3 * Q1) * (Q2 * Q3) = P1 * Q2 * (Q3 * Q3) + P3 * Q1 * (Q2 * Q3) := by
    rw [Nat.add_mul, Nat.mul_mul_mul_comm]
  have a2 : (P2 * Q3 + P3 * Q2) * (Q1 * Q3) = P2 * Q1 * (Q3 * Q3) + P3 * Q1 * (Q2 * Q3) := by
    rw [Nat.add_mul, Nat.mul_mul_mul_comm, Nat.mul_mul_mul_comm P3 Q2, Nat.mul_mul_mul_comm P3 Q1]
  rw [a1, a2]
  exact cmp_same (by omega) (by omega)
theorem low_coprime {L M : Nat} (hM : 0 < M) : Nat.gcd (lowP L M) (lowQ L M) = 1 := by
  obtain ⟨e1, e2⟩ := low_mul (L := L) (M := M)
  have h := Nat.gcd_mul_right (lowP L M) (Nat.gcd L M) (lowQ L M)
  rw [e1, e2] at h
  exact Nat.eq_of_mul_eq_mul_right (Nat.gcd_pos_of_pos_right L hM) (by rw [Nat.one_mul]; exact h.symm)
/-- lowest terms are unique -/
theorem low_unique {P Q P' Q' : Nat} (h : Nat.gcd P Q = 1) (h' : Nat.gcd P' Q' = 1) (hQ : 0 < Q) (hQ' : 0 < Q') (he : P * Q' = P' * Q) : P = P' ∧ Q = Q' := by
  have d1 : Q ∣ Q' := by
    have : Q ∣ P * Q' := ⟨P', by rw [he, Nat.mul_comm]⟩
    exact (Nat.Coprime.symm h).dvd_of_dvd_mul_left this
  have d2 : Q' ∣ Q := by
    have : Q' ∣ P' * Q := ⟨P, by rw [← he, Nat.mul_comm]⟩
    exact (Nat.Coprime.symm h').dvd_of_dvd_mul_left this
  have e : Q = Q' := Nat.dvd_antisymm d1 d2
  subst e
  exact ⟨Nat.eq_of_mul_eq_mul_right hQ he, rfl⟩
theorem dec_no_slash (n : Nat) : (47 : UInt8) ∉ Lib.decDigits n := fun h => by
  have := List.all_eq_true.1 (dec_digits n) _ h
  exact absurd this (by decide)
theorem split_slash {a b c d : List UInt8} (ha : (47 : UInt8) ∉ a) (hc : (47 : UInt8) ∉ c) (h : a ++ 47 :: b = c ++ 47 :: d) : a = c ∧ b = d := by
  induction a generalizing c with
  | nil =>
    cases c with
    | nil => simpa using h
    | cons x c => simp at h; exact absurd h.1.symm (by intro e; exact hc (by rw [e]; exact List.mem_cons_self))
  | cons y a ih =>
    cases c with
    | nil => simp at h; exact absurd h.1 (by intro e; exact ha (by rw [← e]; exact List.mem_cons_self))
    | cons x c =>
      simp only [List.cons_append, List.cons.injEq] at h
      obtain ⟨h1, h2⟩ := ih (fun m => ha (List.mem_cons_of_mem _ m)) (fun m => hc (List.mem_cons_of_mem _ m)) h.2
      exact ⟨by rw [h.1, h1], h2⟩
theorem fracText_inj {P Q P' Q' : Nat} (h : fracText P Q = fracText P' Q') : P = P' ∧ Q = Q' := by
  unfold fracText at h
  have no : ∀ {n a b : Nat}, Lib.decDigits n ≠ Lib.decDigits a ++ 47 :: Lib.decDigits b := fun e => dec_no_slash _ (by rw [e]; exact List.mem_append_right _ List.mem_cons_self)
  split at h <;> split at h
  · exact ⟨dec_inj h, by omega⟩
  · exact absurd h no
  · exact absurd h.symm no
  · obtain ⟨h1, h2⟩ := split_slash (dec_no_slash _) (dec_no_slash _) h
    exact ⟨dec_inj h1, dec_inj h2⟩
theorem frac_text_cmp {P Q P' Q' : Nat} (h : Nat.gcd P Q = 1) (h' : Nat.gcd P' Q' = 1) (hQ : 0 < Q) (hQ' : 0 < Q') : (⟨(fracText P Q).toArray⟩ : ByteArray) = ⟨(fracText P' Q').toArray⟩ ↔ cmpN ((P * Q' : Nat) : Int) ((P' * Q : Nat) : Int) = 0 := by
  rw [cmp_zero]
  constructor
  · intro e
    have e1 : (fracText P Q).toArray = (fracText P' Q').toArray := congrArg ByteArray.data e
    have e2 : fracText P Q = fracText P' Q' := by simpa using congrArg Array.toList e1
    obtain ⟨rfl, rfl⟩ := fracText_inj e2
    rfl
  · intro e
    obtain ⟨rfl, rfl⟩ := low_unique h h' hQ hQ' e
    rfl
end Go.Proofs.YteajinpfigejfaaDoor
namespace Go.Proofs.YteajinpfigejfaaDoor
open Go Go.RowKit Gu

/-- what an operation on fractions gives: the quotient of L by M in lowest terms, or ErrRange -/
def FRes (L M : Nat) (w' : World) (e : Ending) (B : Nat) (w : World) : Prop :=
  ∃ r s, e = .returned (.tuple #[.agg #[r, s], .int .i64 (ffE (lowP L M) (lowQ L M))]) ∧ D w' r (ffN (lowP L M) (lowQ L M) (lowP L M)) ∧ D w' s (ffN (lowP L M) (lowQ L M) (lowQ L M)) ∧ Below B w w'
theorem nd_dmul {b d : Nat} (hb : nd 4294967296 b ≤ 100000) (hd : nd 4294967296 d ≤ 100000) : nd 4294967296 (dn b * dn d) ≤ 200000 := nd_mul (dn_nd hb (by decide)) (dn_nd hd (by decide))
set_option maxHeartbeats 2000000 in
theorem FAdd_any (v u x y : Value) (a b c d : Nat) (w : World) (hv : D w v a) (hu : D w u b) (hx : D w x c) (hy : D w y d) (ha : nd 4294967296 a ≤ 100000) (hb : nd 4294967296 b ≤ 100000) (hc : nd 4294967296 c ≤ 100000) (hd : nd 4294967296 d ≤ 100000) :
    Calls Tryd.prog 23 #[.agg #[v, u], .agg #[x, y]] w fun e w' => FRes (a * dn d + c * dn b) (dn b * dn d) w' e w.heap.size w := by
  have b3 : ∀ o1 o2 o3, Below w.heap.size w (((w.alloc o1).alloc o2).alloc o3) := fun o1 o2 o3 => (((Below.refl _ _).alloc (Nat.le_refl _) _).alloc (by simp) _).alloc (by simp; omega) _
  have HCR := Lib.hid (fun o1 o2 o3 => crossed_any v u x y a b c d (((w.alloc o1).alloc o2).alloc o3) (hv.below (b3 o1 o2 o3)) (hu.below (b3 o1 o2 o3)) (hx.below (b3 o1 o2 o3)) (hy.below (b3 o1 o2 o3)) ha hb hc hd)
  have h1 := nd_mul ha (dn_nd hd (by decide))
  have h2 := nd_mul hc (dn_nd hb (by decide))
  have h3 := nd_add h1 h2
  have h4 := nd_dmul hb hd
  have h5 : 0 < dn b * dn d := Nat.mul_pos (dn_pos b) (dn_pos d)
  have HSU := Lib.hid (fun v u W (h : D W v (a * dn d)) (h' : D W u (c * dn b)) => sum_any v u _ _ W h h' (by omega) (by omega))
  have HFF := Lib.hid (fun v u W (h : D W v (a * dn d + c * dn b)) (h' : D W u (dn b * dn d)) => fittingFrac_any v u _ _ W h h' h5 (by omega) (by omega))
  have HB := Lib.hid b3
  obtain ⟨ao, ac, rfl, -⟩ := hv.shape
  obtain ⟨bo, bc, rfl, -⟩ := hu.shape
  obtain ⟨co, cc, rfl, -⟩ := hx.shape
  obtain ⟨eo, ec, rfl, -⟩ := hy.shape
  clear hv hu hx hy b3 h1 h2 h3 h4 h5
  unfold FRes
  generalize a * dn d = L1 at *
  generalize c * dn b = L2 at *
  generalize L1 + L2 = L at *
  generalize dn b * dn d = M at *
  generalize ffE (lowP L M) (lowQ L M) = E at *
  generalize ffN (lowP L M) (lowQ L M) (lowP L M) = X at *
  generalize ffN (lowP L M) (lowQ L M) (lowQ L M) = Y at *
  go_enter Tryd.func23, Tryd.ntmps23
  go_wp2_with fail
  refine (HCR.out _ _ _).mono ?_
  rintro e w1 ⟨r1, r2, r3, rfl, hr1, hr2, hr3, hb1⟩
  have HB1 := Lib.hid hb1; have HR3 := Lib.hid hr3
  have HS1 := Lib.hid (HSU.out _ _ _ hr1 hr2)
  clear hb1 hr1 hr2 hr3
  go_wp2_with fail
  refine HS1.out.mono ?_
  rintro e w2 ⟨s1, rfl, hs1, hb2⟩
  have HB2 := Lib.hid (HB1.out.trans (hb2.mono HB1.out.size))
  have HF1 := Lib.hid (HFF.out _ _ _ hs1 (HR3.out.below hb2))
  clear hs1 hb2
  go_wp2_with fail
  refine HF1.out.mono ?_
  rintro e w3 ⟨r, s, rfl, hr, hs, hb3⟩
  have hbt := HB2.out.trans (hb3.mono HB2.out.size)
  clear hb3
  obtain ⟨ro, rc, rfl, -⟩ := hr.shape
  obtain ⟨so, sc, rfl, -⟩ := hs.shape
  have d0 : w3.cell? ⟨w.heap.size + 1 + 1, 0, none⟩ = some (.slice none 0 0) := (hbt.cell (p := ⟨w.heap.size + 1 + 1, 0, none⟩) (by simp)).trans (World.cell?_alloc_at _ _ _ _ (by simp))
  have g0 : w3.frozen? ⟨w.heap.size + 1 + 1, 0, none⟩ = false := (hbt.frozen (p := ⟨w.heap.size + 1 + 1, 0, none⟩) (by simp)).trans (World.frozen?_alloc_at _ _ _ _ (by simp))
  have d1 : w3.cell? ⟨w.heap.size + 1 + 1, 1, none⟩ = some (.slice none 0 0) := (hbt.cell (p := ⟨w.heap.size + 1 + 1, 1, none⟩) (by simp)).trans (World.cell?_alloc_at _ _ _ _ (by simp))
  have g1 : w3.frozen? ⟨w.heap.size + 1 + 1, 1, none⟩ = false := (hbt.frozen (p := ⟨w.heap.size + 1 + 1, 1, none⟩) (by simp)).trans (World.frozen?_alloc_at _ _ _ _ (by simp))
  have HTS := Lib.hid (two_store (B := w.heap.size + 1 + 1) hr hs d0 d1 ((HB.out _ _ _).trans (hbt.mono (HB.out _ _ _).size)) (by omega))
  clear hr hs hbt
  go_wp2
  obtain ⟨z1, z2, z3, z4, z5⟩ := HTS.out
  refine bodyPost_ret (v := .tuple #[.agg #[.slice ro (nd 4294967296 (X)) rc, .slice so (nd 4294967296 (Y)) sc], .int .i64 (E)]) (by simp [results, Tryd.results23, go_sem, z3, z4]) rfl ⟨_, _, rfl, z1, z2, z5⟩
end Go.Proofs.YteajinpfigejfaaDoor
namespace Go.Proofs.YteajinpfigejfaaDoor
open Go Go.RowKit Gu

set_option maxHeartbeats 400000 in
theorem NMul_any (v u : Value) (a b : Nat) (w : World) (hv : D w v a) (hu : D w u b) (ha : nd 4294967296 a ≤ 500000) (hb : nd 4294967296 b ≤ 500000) :
    Calls Tryd.prog 14 #[.agg #[v], .agg #[u]] w fun e w' => ∃ r, e = .returned (.tuple #[.agg #[r], .int .i64 (fitE (a * b))]) ∧ D w' r (fitN (a * b)) ∧ Below w.heap.size w w' := by
  have hnd := nd_mul ha hb
  have b3 : ∀ o1 o2 o3, Below w.heap.size w (((w.alloc o1).alloc o2).alloc o3) := fun o1 o2 o3 => (((Below.refl _ _).alloc (Nat.le_refl _) _).alloc (by simp) _).alloc (by simp; omega) _
  have HS := Lib.hid (fun o1 o2 o3 => product_any v u a b (((w.alloc o1).alloc o2).alloc o3) (hv.below (b3 o1 o2 o3)) (hu.below (b3 o1 o2 o3)) (by omega) (by omega))
  have HB3 := Lib.hid b3
  obtain ⟨ao, ac, rfl, -⟩ := hv.shape
  obtain ⟨bo, bc, rfl, -⟩ := hu.shape
  clear hv hu b3
  go_enter Tryd.func14, Tryd.ntmps14
  go_wp2_with fail
  refine (HS.out _ _ _).mono ?_
  rintro e w1 ⟨r, rfl, hr, hbel⟩
  have HF := Lib.hid (fitting_any r (a * b) w1 hr (by omega))
  clear hr
  obtain ⟨hc, hf⟩ := bcell hbel
  have HB1 := Lib.hid hbel
  have hz := hbel.size
  simp only [World.size_alloc] at hz
  clear hbel
  go_wp2_with fail
  refine HF.out.mono ?_
  rintro e w2 ⟨r2, rfl, hr2, hbel2⟩
  obtain ⟨hc2, hf2⟩ := bcell hbel2
  obtain ⟨ro, rc, rfl, -⟩ := hr2.shape
  have HB2 := Lib.hid hbel2
  have HR2 := Lib.hid hr2
  have hz2 := hbel2.size
  clear hbel2 hr2
  have hcell : w2.cell? ⟨w.heap.size + 1 + 1, 0, none⟩ = some (.slice none 0 0) := by
    rw [hc2 _ _ (by omega), hc _ _ (by simp)]
    exact World.cell?_alloc_at _ _ _ _ (by simp)
  have hfr : w2.frozen? ⟨w.heap.size + 1 + 1, 0, none⟩ = false := by
    rw [hf2 _ _ (by omega), hf _ _ (by simp)]
    exact World.frozen?_alloc_at _ _ _ _ (by simp)
  have HCE := Lib.hid hcell
  clear hc hf hc2 hf2
  go_wp2
  refine bodyPost_ret (v := .tuple #[.agg #[.slice ro (nd 4294967296 (fitN (a * b))) rc], .int .i64 (fitE (a * b))]) (by simp [results, Tryd.results14, go_sem, hcell]) rfl ⟨_, rfl, HR2.out.setCell HCE.out (by intro d h; cases h) _, ?_⟩
  exact (((HB3.out _ _ _).trans (HB1.out.mono (by simp; omega))).trans (HB2.out.mono (by omega))).setCell (by show w.heap.size ≤ w.heap.size + 1 + 1; omega) _
theorem nd_rmul {a b m k : Nat} (ha : nd 65536 a ≤ m) (hb : nd 65536 b ≤ k) : nd 65536 (a * b) ≤ m + k := by
  have h1 := (nd_le (by decide : 2 ≤ 65536)).1 ha
  have h2 := (nd_le (by decide : 2 ≤ 65536)).1 hb
  apply (nd_le (by decide : 2 ≤ 65536)).2
  rw [Nat.pow_add]
  exact Nat.mul_lt_mul_of_lt_of_le h1 (Nat.le_of_lt h2) (Nat.pow_pos (by decide))
end Go.Proofs.YteajinpfigejfaaDoor
namespace Go.Proofs.YteajinpfigejfaaDoor
open Go Go.RowKit Gu

theorem text_inj {a b : ByteArray} (h : a.toList = b.toList) : a = b := by
  rw [ByteArray.toList_eq, ByteArray.toList_eq] at h
  exact ByteArray.ext (Array.toList_inj.1 h)
theorem half_some (u v : Value) (xs ys : List Nat) (m : Nat) (w : World) (hu : IsRaw w u xs) (hv : IsRaw w v ys) (hl1 : xs.length ≤ maxLen) (hl2 : ys.length ≤ maxLen) (hm : m ≤ 300) :
    Calls Tryd.prog 25 #[u, v, .int .i64 m] w fun e w' => ∃ o1 l1 c1 o2 l2 c2 o3 l3 c3 o4 l4 c4 b, e = .returned (.tuple #[.agg #[.slice o1 l1 c1, .slice o2 l2 c2], .agg #[.slice o3 l3 c3, .slice o4 l4 c4], .bool b]) ∧ Below w.heap.size w w' := by
  rcases Nat.eq_zero_or_pos (rawN ys m) with h | h
  · exact (half_zero u v xs ys m w hu hv hl1 hl2 (by omega) h).mono fun e w' ⟨he, hB⟩ => ⟨_, _, _, _, _, _, _, _, _, _, _, _, _, he, hB⟩
  · refine (half_pos u v xs ys m w hu hv hl1 hl2 hm h).mono ?_
    rintro e w' ⟨r1, s1, r2, s2, rfl, h1, h2, h3, h4, hB⟩
    obtain ⟨o1, c1, rfl, -⟩ := h1.shape
    obtain ⟨o2, c2, rfl, -⟩ := h2.shape
    obtain ⟨o3, c3, rfl, -⟩ := h3.shape
    obtain ⟨o4, c4, rfl, -⟩ := h4.shape
    exact ⟨_, _, _, _, _, _, _, _, _, _, _, _, _, rfl, hB⟩
theorem sums_fit' {L M : Nat} (h1 : nd 65536 L ≤ 100) (h2 : nd 65536 M ≤ 100) : ffE (lowP L M) (lowQ L M) = 0 ∧ ffN (lowP L M) (lowQ L M) (lowP L M) = lowP L M ∧ ffN (lowP L M) (lowQ L M) (lowQ L M) = lowQ L M := by
  have e1 := fit_ok (Nat.le_trans (nd_mono (B := 65536) (by decide) (show lowP L M ≤ L from Nat.div_le_self _ _)) (Nat.le_trans h1 (by decide)))
  have e2 := fit_ok (Nat.le_trans (nd_mono (B := 65536) (by decide) (show lowQ L M ≤ M from Nat.div_le_self _ _)) (Nat.le_trans h2 (by decide)))
  exact ⟨if_pos ⟨e1, e2⟩, if_pos ⟨e1, e2⟩, if_pos ⟨e1, e2⟩⟩
theorem low_pos' {L M : Nat} (h : 0 < M) : 0 < lowQ L M := Nat.div_pos (Nat.gcd_le_right _ h) (Nat.gcd_pos_of_pos_right _ h)
theorem low_nd' {L M m k : Nat} (h1 : nd 65536 L ≤ m) (h2 : nd 65536 M ≤ k) : nd 65536 (lowP L M) ≤ m ∧ nd 65536 (lowQ L M) ≤ k := ⟨Nat.le_trans (nd_mono (by decide) (Nat.div_le_self _ _)) h1, Nat.le_trans (nd_mono (by decide) (Nat.div_le_self _ _)) h2⟩
theorem nd_radd' {a b m : Nat} (ha : nd 65536 a ≤ m) (hb : nd 65536 b ≤ m) : nd 65536 (a + b) ≤ m + 1 := by
  have h1 := (nd_le (by decide : 2 ≤ 65536)).1 ha
  have h2 := (nd_le (by decide : 2 ≤ 65536)).1 hb
  apply (nd_le (by decide : 2 ≤ 65536)).2
  have h3 : 65536 ^ m * 2 ≤ 65536 ^ m * 65536 := Nat.mul_le_mul_left _ (by decide)
  rw [Nat.pow_succ]; omega
set_option maxHeartbeats 4000000 in
set_option maxRecDepth 100000 in
theorem natFracOrder_z1 (u0 u1 u2 u3 u4 u5 : Value) (xs0 xs1 xs2 xs3 xs4 xs5 : List Nat) (w : World) (hu0 : IsRaw w u0 xs0) (hu1 : IsRaw w u1 xs1) (hu2 : IsRaw w u2 xs2) (hu3 : IsRaw w u3 xs3) (hu4 : IsRaw w u4 xs4) (hu5 : IsRaw w u5 xs5) (hl0 : xs0.length ≤ maxLen) (hl1 : xs1.length ≤ maxLen) (hl2 : xs2.length ≤ maxLen) (hl3 : xs3.length ≤ maxLen) (hl4 : xs4.length ≤ maxLen) (hl5 : xs5.length ≤ maxLen) (h1 : rawN xs1 8 = 0) (he : Env w) :
    Calls Tryd.prog 5 #[u0, u1, u2, u3, u4, u5] w fun e w' => e = .returned (.bool true) ∧ Below w.heap.size w w' := by
  have HS0 := Lib.hid (Kq.start he)
  have hn0 := rawN_nd hu0.1 8
  have hn1 := rawN_nd hu1.1 8
  have hn2 := rawN_nd hu2.1 8
  have hn3 := rawN_nd hu3.1 8
  have hn4 := rawN_nd hu4.1 8
  have hn5 := rawN_nd hu5.1 8
  have HU0 := Lib.hid hu0
  have HU1 := Lib.hid hu1
  have HU2 := Lib.hid hu2
  have HU3 := Lib.hid hu3
  have HU4 := Lib.hid hu4
  have HU5 := Lib.hid hu5
  have HH1 := Lib.hid (fun W (i1 : IsRaw W u0 xs0) (i2 : IsRaw W u1 xs1) => half_zero u0 u1 xs0 xs1 8 W i1 i2 hl0 hl1 (by decide) h1)
  have HH2 := Lib.hid (fun W (i1 : IsRaw W u2 xs2) (i2 : IsRaw W u3 xs3) => half_some u2 u3 xs2 xs3 8 W i1 i2 hl2 hl3 (by decide))
  have HH3 := Lib.hid (fun W (i1 : IsRaw W u4 xs4) (i2 : IsRaw W u5 xs5) => half_some u4 u5 xs4 xs5 8 W i1 i2 hl4 hl5 (by decide))

  obtain ⟨uo0, uc0, rfl, -⟩ := hu0.shape
  obtain ⟨uo1, uc1, rfl, -⟩ := hu1.shape
  obtain ⟨uo2, uc2, rfl, -⟩ := hu2.shape
  obtain ⟨uo3, uc3, rfl, -⟩ := hu3.shape
  obtain ⟨uo4, uc4, rfl, -⟩ := hu4.shape
  obtain ⟨uo5, uc5, rfl, -⟩ := hu5.shape
  clear he hu0 hl0 hu1 hl1 hu2 hl2 hu3 hl3 hu4 hl4 hu5 hl5
  generalize rawN xs0 8 = a at *
  generalize rawN xs1 8 = b at *
  generalize rawN xs2 8 = c at *
  generalize rawN xs3 8 = d at *
  generalize rawN xs4 8 = m at *
  generalize rawN xs5 8 = n at *
  go_enter Tryd.func5, Tryd.ntmps5
  go_wp2_with fail
  refine (HH1.out _ (IsRaw.below HU0.out HS0.out.bel) (IsRaw.below HU1.out HS0.out.bel)).mono ?_
  rintro e w1 ⟨rfl, hb⟩
  have hs := ((HS0.out.next hb).boxed2 (.slice none 0 0) (.slice none 0 0) 26).boxed2 (.slice none 0 0) (.slice none 0 0) 32
  have HS1 := Lib.hid hs
  clear hs hb HS0
  go_wp2_with fail
  refine (HH2.out _ (IsRaw.below HU2.out HS1.out.bel) (IsRaw.below HU3.out HS1.out.bel)).mono ?_
  rintro e w2 ⟨x1g1, x1g2, x1g3, x2g1, x2g2, x2g3, x3g1, x3g2, x3g3, x4g1, x4g2, x4g3, bg, rfl, hb⟩
  have hs := ((HS1.out.next hb).boxed2 (.slice x1g1 x1g2 x1g3) (.slice x2g1 x2g2 x2g3) 26).boxed2 (.slice x3g1 x3g2 x3g3) (.slice x4g1 x4g2 x4g3) 32
  have HS2 := Lib.hid hs
  clear hs hb HS1
  go_wp2_with fail
  refine (HH3.out _ (IsRaw.below HU4.out HS2.out.bel) (IsRaw.below HU5.out HS2.out.bel)).mono ?_
  rintro e w3 ⟨x1k1, x1k2, x1k3, x2k1, x2k2, x2k3, x3k1, x3k2, x3k3, x4k1, x4k2, x4k3, bk, rfl, hb⟩
  have hs := ((HS2.out.next hb).boxed2 (.slice x1k1 x1k2 x1k3) (.slice x2k1 x2k2 x2k3) 26).boxed2 (.slice x3k1 x3k2 x3k3) (.slice x4k1 x4k2 x4k3) 32
  have HS3 := Lib.hid hs
  clear hs hb HS2
  go_wp2_with fail
  refine (awake_Q HS3.out).mono ?_
  rintro e w4 ⟨rfl, hs⟩
  have HS4 := Lib.hid hs
  clear hs HS3
  go_wp2
  go_ret
  exact ⟨by simp, HS4.out.bel⟩
set_option maxHeartbeats 4000000 in
set_option maxRecDepth 100000 in
theorem natFracOrder_z2 (u0 u1 u2 u3 u4 u5 : Value) (xs0 xs1 xs2 xs3 xs4 xs5 : List Nat) (w : World) (hu0 : IsRaw w u0 xs0) (hu1 : IsRaw w u1 xs1) (hu2 : IsRaw w u2 xs2) (hu3 : IsRaw w u3 xs3) (hu4 : IsRaw w u4 xs4) (hu5 : IsRaw w u5 xs5) (hl0 : xs0.length ≤ maxLen) (hl1 : xs1.length ≤ maxLen) (hl2 : xs2.length ≤ maxLen) (hl3 : xs3.length ≤ maxLen) (hl4 : xs4.length ≤ maxLen) (hl5 : xs5.length ≤ maxLen) (h1 : 0 < rawN xs1 8) (h2 : rawN xs3 8 = 0) (he : Env w) :
    Calls Tryd.prog 5 #[u0, u1, u2, u3, u4, u5] w fun e w' => e = .returned (.bool true) ∧ Below w.heap.size w w' := by
  have HS0 := Lib.hid (Kq.start he)
  have hn0 := rawN_nd hu0.1 8
  have hn1 := rawN_nd hu1.1 8
  have hn2 := rawN_nd hu2.1 8
  have hn3 := rawN_nd hu3.1 8
  have hn4 := rawN_nd hu4.1 8
  have hn5 := rawN_nd hu5.1 8
  have HU0 := Lib.hid hu0
  have HU1 := Lib.hid hu1
  have HU2 := Lib.hid hu2
  have HU3 := Lib.hid hu3
  have HU4 := Lib.hid hu4
  have HU5 := Lib.hid hu5
  have HH1 := Lib.hid (fun W (i1 : IsRaw W u0 xs0) (i2 : IsRaw W u1 xs1) => half_pos u0 u1 xs0 xs1 8 W i1 i2 hl0 hl1 (by decide) h1)
  have HH2 := Lib.hid (fun W (i1 : IsRaw W u2 xs2) (i2 : IsRaw W u3 xs3) => half_zero u2 u3 xs2 xs3 8 W i1 i2 hl2 hl3 (by decide) h2)
  have HH3 := Lib.hid (fun W (i1 : IsRaw W u4 xs4) (i2 : IsRaw W u5 xs5) => half_some u4 u5 xs4 xs5 8 W i1 i2 hl4 hl5 (by decide))

  obtain ⟨uo0, uc0, rfl, -⟩ := hu0.shape
  obtain ⟨uo1, uc1, rfl, -⟩ := hu1.shape
  obtain ⟨uo2, uc2, rfl, -⟩ := hu2.shape
  obtain ⟨uo3, uc3, rfl, -⟩ := hu3.shape
  obtain ⟨uo4, uc4, rfl, -⟩ := hu4.shape
  obtain ⟨uo5, uc5, rfl, -⟩ := hu5.shape
  clear he hu0 hl0 hu1 hl1 hu2 hl2 hu3 hl3 hu4 hl4 hu5 hl5
  generalize rawN xs0 8 = a at *
  generalize rawN xs1 8 = b at *
  generalize rawN xs2 8 = c at *
  generalize rawN xs3 8 = d at *
  generalize rawN xs4 8 = m at *
  generalize rawN xs5 8 = n at *
  go_enter Tryd.func5, Tryd.ntmps5
  go_wp2_with fail
  refine (HH1.out _ (IsRaw.below HU0.out HS0.out.bel) (IsRaw.below HU1.out HS0.out.bel)).mono ?_
  rintro e w1 ⟨vf1, vf2, vp1, vp2, rfl, hf1, hf2, hp1, hp2, hb⟩
  obtain ⟨f1o, f1c, rfl, -⟩ := hf1.shape
  obtain ⟨f2o, f2c, rfl, -⟩ := hf2.shape
  obtain ⟨p1o, p1c, rfl, -⟩ := hp1.shape
  obtain ⟨p2o, p2c, rfl, -⟩ := hp2.shape
  have hs := ((((((HS0.out.next hb).addNum hf1).addNum hf2).addDig hp1).addDig hp2).boxed2 (.slice f1o (nd 4294967296 (lowP a b)) f1c) (.slice f2o (nd 4294967296 (lowQ a b)) f2c) 26).boxed2 (.slice p1o (nd 65536 (lowP a b)) p1c) (.slice p2o (nd 65536 (lowQ a b)) p2c) 32
  simp only [World.size_alloc] at hs
  have HS1 := Lib.hid hs
  clear hs hb hf1 hf2 hp1 hp2 HS0
  go_wp2_with fail
  refine (HH2.out _ (IsRaw.below HU2.out HS1.out.bel) (IsRaw.below HU3.out HS1.out.bel)).mono ?_
  rintro e w2 ⟨rfl, hb⟩
  have hs := ((HS1.out.next hb).boxed2 (.slice none 0 0) (.slice none 0 0) 26).boxed2 (.slice none 0 0) (.slice none 0 0) 32
  have HS2 := Lib.hid hs
  clear hs hb HS1
  go_wp2_with fail
  refine (HH3.out _ (IsRaw.below HU4.out HS2.out.bel) (IsRaw.below HU5.out HS2.out.bel)).mono ?_
  rintro e w3 ⟨x1k1, x1k2, x1k3, x2k1, x2k2, x2k3, x3k1, x3k2, x3k3, x4k1, x4k2, x4k3, bk, rfl, hb⟩
  have hs := ((HS2.out.next hb).boxed2 (.slice x1k1 x1k2 x1k3) (.slice x2k1 x2k2 x2k3) 26).boxed2 (.slice x3k1 x3k2 x3k3) (.slice x4k1 x4k2 x4k3) 32
  have HS3 := Lib.hid hs
  clear hs hb HS2
  go_wp2_with fail
  refine (awake_Q HS3.out).mono ?_
  rintro e w4 ⟨rfl, hs⟩
  have HS4 := Lib.hid hs
  clear hs HS3
  go_wp2
  go_ret
  exact ⟨by simp, HS4.out.bel⟩
set_option maxHeartbeats 4000000 in
set_option maxRecDepth 100000 in
theorem natFracOrder_z3 (u0 u1 u2 u3 u4 u5 : Value) (xs0 xs1 xs2 xs3 xs4 xs5 : List Nat) (w : World) (hu0 : IsRaw w u0 xs0) (hu1 : IsRaw w u1 xs1) (hu2 : IsRaw w u2 xs2) (hu3 : IsRaw w u3 xs3) (hu4 : IsRaw w u4 xs4) (hu5 : IsRaw w u5 xs5) (hl0 : xs0.length ≤ maxLen) (hl1 : xs1.length ≤ maxLen) (hl2 : xs2.length ≤ maxLen) (hl3 : xs3.length ≤ maxLen) (hl4 : xs4.length ≤ maxLen) (hl5 : xs5.length ≤ maxLen) (h1 : 0 < rawN xs1 8) (h2 : 0 < rawN xs3 8) (h3 : rawN xs5 8 = 0) (he : Env w) :
    Calls Tryd.prog 5 #[u0, u1, u2, u3, u4, u5] w fun e w' => e = .returned (.bool true) ∧ Below w.heap.size w w' := by
  have HS0 := Lib.hid (Kq.start he)
  have hn0 := rawN_nd hu0.1 8
  have hn1 := rawN_nd hu1.1 8
  have hn2 := rawN_nd hu2.1 8
  have hn3 := rawN_nd hu3.1 8
  have hn4 := rawN_nd hu4.1 8
  have hn5 := rawN_nd hu5.1 8
  have HU0 := Lib.hid hu0
  have HU1 := Lib.hid hu1
  have HU2 := Lib.hid hu2
  have HU3 := Lib.hid hu3
  have HU4 := Lib.hid hu4
  have HU5 := Lib.hid hu5
  have HH1 := Lib.hid (fun W (i1 : IsRaw W u0 xs0) (i2 : IsRaw W u1 xs1) => half_pos u0 u1 xs0 xs1 8 W i1 i2 hl0 hl1 (by decide) h1)
  have HH2 := Lib.hid (fun W (i1 : IsRaw W u2 xs2) (i2 : IsRaw W u3 xs3) => half_pos u2 u3 xs2 xs3 8 W i1 i2 hl2 hl3 (by decide) h2)
  have HH3 := Lib.hid (fun W (i1 : IsRaw W u4 xs4) (i2 : IsRaw W u5 xs5) => half_zero u4 u5 xs4 xs5 8 W i1 i2 hl4 hl5 (by decide) h3)

  obtain ⟨uo0, uc0, rfl, -⟩ := hu0.shape
  obtain ⟨uo1, uc1, rfl, -⟩ := hu1.shape
  obtain ⟨uo2, uc2, rfl, -⟩ := hu2.shape
  obtain ⟨uo3, uc3, rfl, -⟩ := hu3.shape
  obtain ⟨uo4, uc4, rfl, -⟩ := hu4.shape
  obtain ⟨uo5, uc5, rfl, -⟩ := hu5.shape
  clear he hu0 hl0 hu1 hl1 hu2 hl2 hu3 hl3 hu4 hl4 hu5 hl5
  generalize rawN xs0 8 = a at *
  generalize rawN xs1 8 = b at *
  generalize rawN xs2 8 = c at *
  generalize rawN xs3 8 = d at *
  generalize rawN xs4 8 = m at *
  generalize rawN xs5 8 = n at *
  go_enter Tryd.func5, Tryd.ntmps5
  go_wp2_with fail
  refine (HH1.out _ (IsRaw.below HU0.out HS0.out.bel) (IsRaw.below HU1.out HS0.out.bel)).mono ?_
  rintro e w1 ⟨vf1, vf2, vp1, vp2, rfl, hf1, hf2, hp1, hp2, hb⟩
  obtain ⟨f1o, f1c, rfl, -⟩ := hf1.shape
  obtain ⟨f2o, f2c, rfl, -⟩ := hf2.shape
  obtain ⟨p1o, p1c, rfl, -⟩ := hp1.shape
  obtain ⟨p2o, p2c, rfl, -⟩ := hp2.shape
  have hs := ((((((HS0.out.next hb).addNum hf1).addNum hf2).addDig hp1).addDig hp2).boxed2 (.slice f1o (nd 4294967296 (lowP a b)) f1c) (.slice f2o (nd 4294967296 (lowQ a b)) f2c) 26).boxed2 (.slice p1o (nd 65536 (lowP a b)) p1c) (.slice p2o (nd 65536 (lowQ a b)) p2c) 32
  simp only [World.size_alloc] at hs
  have HS1 := Lib.hid hs
  clear hs hb hf1 hf2 hp1 hp2 HS0
  go_wp2_with fail
  refine (HH2.out _ (IsRaw.below HU2.out HS1.out.bel) (IsRaw.below HU3.out HS1.out.bel)).mono ?_
  rintro e w2 ⟨vg1, vg2, vq1, vq2, rfl, hg1, hg2, hq1, hq2, hb⟩
  obtain ⟨g1o, g1c, rfl, -⟩ := hg1.shape
  obtain ⟨g2o, g2c, rfl, -⟩ := hg2.shape
  obtain ⟨q1o, q1c, rfl, -⟩ := hq1.shape
  obtain ⟨q2o, q2c, rfl, -⟩ := hq2.shape
  have hs := ((((((HS1.out.next hb).addNum hg1).addNum hg2).addDig hq1).addDig hq2).boxed2 (.slice g1o (nd 4294967296 (lowP c d)) g1c) (.slice g2o (nd 4294967296 (lowQ c d)) g2c) 26).boxed2 (.slice q1o (nd 65536 (lowP c d)) q1c) (.slice q2o (nd 65536 (lowQ c d)) q2c) 32
  simp only [World.size_alloc] at hs
  have HS2 := Lib.hid hs
  clear hs hb hg1 hg2 hq1 hq2 HS1
  go_wp2_with fail
  refine (HH3.out _ (IsRaw.below HU4.out HS2.out.bel) (IsRaw.below HU5.out HS2.out.bel)).mono ?_
  rintro e w3 ⟨rfl, hb⟩
  have hs := ((HS2.out.next hb).boxed2 (.slice none 0 0) (.slice none 0 0) 26).boxed2 (.slice none 0 0) (.slice none 0 0) 32
  have HS3 := Lib.hid hs
  clear hs hb HS2
  go_wp2_with fail
  refine (awake_Q HS3.out).mono ?_
  rintro e w4 ⟨rfl, hs⟩
  have HS4 := Lib.hid hs
  clear hs HS3
  go_wp2
  go_ret
  exact ⟨by simp, HS4.out.bel⟩
end Go.Proofs.YteajinpfigejfaaDoor
namespace Go.Proofs.YteajinpfigejfaaDoor
open Go Go.RowKit Gu
set_option maxHeartbeats 4000000 in
set_option maxRecDepth 100000 in
theorem natFracOrder_ml (u0 u1 u2 u3 u4 u5 : Value) (xs0 xs1 xs2 xs3 xs4 xs5 : List Nat) (w : World) (hu0 : IsRaw w u0 xs0) (hu1 : IsRaw w u1 xs1) (hu2 : IsRaw w u2 xs2) (hu3 : IsRaw w u3 xs3) (hu4 : IsRaw w u4 xs4) (hu5 : IsRaw w u5 xs5) (hl0 : xs0.length ≤ maxLen) (hl1 : xs1.length ≤ maxLen) (hl2 : xs2.length ≤ maxLen) (hl3 : xs3.length ≤ maxLen) (hl4 : xs4.length ≤ maxLen) (hl5 : xs5.length ≤ maxLen) (h1 : 0 < rawN xs1 8) (h2 : 0 < rawN xs3 8) (h3 : 0 < rawN xs5 8) (hk : cmpN ((lowP (rawN xs0 8) (rawN xs1 8) * lowQ (rawN xs2 8) (rawN xs3 8) : Nat) : Int) ((lowP (rawN xs2 8) (rawN xs3 8) * lowQ (rawN xs0 8) (rawN xs1 8) : Nat) : Int) = (-1)) (he : Env w) :
    Calls Tryd.prog 5 #[u0, u1, u2, u3, u4, u5] w fun e w' => e = .returned (.bool true) ∧ Below w.heap.size w w' := by
  have HS0 := Lib.hid (Kq.start he)
  have hn0 := rawN_nd hu0.1 8
  have hn1 := rawN_nd hu1.1 8
  have hn2 := rawN_nd hu2.1 8
  have hn3 := rawN_nd hu3.1 8
  have hn4 := rawN_nd hu4.1 8
  have hn5 := rawN_nd hu5.1 8
  have HU0 := Lib.hid hu0
  have HU1 := Lib.hid hu1
  have HU2 := Lib.hid hu2
  have HU3 := Lib.hid hu3
  have HU4 := Lib.hid hu4
  have HU5 := Lib.hid hu5
  have HH1 := Lib.hid (fun W (i1 : IsRaw W u0 xs0) (i2 : IsRaw W u1 xs1) => half_pos u0 u1 xs0 xs1 8 W i1 i2 hl0 hl1 (by decide) h1)
  have HH2 := Lib.hid (fun W (i1 : IsRaw W u2 xs2) (i2 : IsRaw W u3 xs3) => half_pos u2 u3 xs2 xs3 8 W i1 i2 hl2 hl3 (by decide) h2)
  have HH3 := Lib.hid (fun W (i1 : IsRaw W u4 xs4) (i2 : IsRaw W u5 xs5) => half_pos u4 u5 xs4 xs5 8 W i1 i2 hl4 hl5 (by decide) h3)
  have q1 : 0 < lowQ (rawN xs0 8) (rawN xs1 8) := Nat.div_pos (Nat.gcd_le_right _ h1) (Nat.gcd_pos_of_pos_right _ h1)
  have g1 : nd 65536 (lowP (rawN xs0 8) (rawN xs1 8)) ≤ 8 := Nat.le_trans (nd_mono (by decide) (Nat.div_le_self _ _)) hn0
  have g1' : nd 65536 (lowQ (rawN xs0 8) (rawN xs1 8)) ≤ 8 := Nat.le_trans (nd_mono (by decide) (Nat.div_le_self _ _)) hn1
  have o1 : Nat.gcd (lowP (rawN xs0 8) (rawN xs1 8)) (lowQ (rawN xs0 8) (rawN xs1 8)) = 1 := low_coprime h1
  have q2 : 0 < lowQ (rawN xs2 8) (rawN xs3 8) := Nat.div_pos (Nat.gcd_le_right _ h2) (Nat.gcd_pos_of_pos_right _ h2)
  have g2 : nd 65536 (lowP (rawN xs2 8) (rawN xs3 8)) ≤ 8 := Nat.le_trans (nd_mono (by decide) (Nat.div_le_self _ _)) hn2
  have g2' : nd 65536 (lowQ (rawN xs2 8) (rawN xs3 8)) ≤ 8 := Nat.le_trans (nd_mono (by decide) (Nat.div_le_self _ _)) hn3
  have o2 : Nat.gcd (lowP (rawN xs2 8) (rawN xs3 8)) (lowQ (rawN xs2 8) (rawN xs3 8)) = 1 := low_coprime h2
  have q3 : 0 < lowQ (rawN xs4 8) (rawN xs5 8) := Nat.div_pos (Nat.gcd_le_right _ h3) (Nat.gcd_pos_of_pos_right _ h3)
  have g3 : nd 65536 (lowP (rawN xs4 8) (rawN xs5 8)) ≤ 8 := Nat.le_trans (nd_mono (by decide) (Nat.div_le_self _ _)) hn4
  have g3' : nd 65536 (lowQ (rawN xs4 8) (rawN xs5 8)) ≤ 8 := Nat.le_trans (nd_mono (by decide) (Nat.div_le_self _ _)) hn5
  have o3 : Nat.gcd (lowP (rawN xs4 8) (rawN xs5 8)) (lowQ (rawN xs4 8) (rawN xs5 8)) = 1 := low_coprime h3

  obtain ⟨uo0, uc0, rfl, -⟩ := hu0.shape
  obtain ⟨uo1, uc1, rfl, -⟩ := hu1.shape
  obtain ⟨uo2, uc2, rfl, -⟩ := hu2.shape
  obtain ⟨uo3, uc3, rfl, -⟩ := hu3.shape
  obtain ⟨uo4, uc4, rfl, -⟩ := hu4.shape
  obtain ⟨uo5, uc5, rfl, -⟩ := hu5.shape
  clear he hu0 hl0 hu1 hl1 hu2 hl2 hu3 hl3 hu4 hl4 hu5 hl5
  generalize rawN xs0 8 = a at *
  generalize rawN xs1 8 = b at *
  generalize rawN xs2 8 = c at *
  generalize rawN xs3 8 = d at *
  generalize rawN xs4 8 = m at *
  generalize rawN xs5 8 = n at *
  generalize lowP a b = P1 at *
  generalize lowQ a b = Q1 at *
  generalize lowP c d = P2 at *
  generalize lowQ c d = Q2 at *
  generalize lowP m n = P3 at *
  generalize lowQ m n = Q3 at *
  have k1 := nd_32 g1
  have k1' := nd_32 g1'
  have k2 := nd_32 g2
  have k2' := nd_32 g2'
  have k3 := nd_32 g3
  have k3' := nd_32 g3'
  obtain ⟨kx, hkx⟩ : ∃ k, k = cmpN ((P1 * Q2 : Nat) : Int) ((P2 * Q1 : Nat) : Int) := ⟨_, rfl⟩
  obtain ⟨ky, hky⟩ : ∃ k, k = cmpN ((P2 * Q3 : Nat) : Int) ((P3 * Q2 : Nat) : Int) := ⟨_, rfl⟩
  obtain ⟨kz, hkz⟩ : ∃ k, k = cmpN ((P1 * Q3 : Nat) : Int) ((P3 * Q1 : Nat) : Int) := ⟨_, rfl⟩
  obtain ⟨nx, hnx⟩ : ∃ k, k = -kx := ⟨_, rfl⟩
  have HX3 : Hid ((kx = -1 ∧ nx = 1) ∨ (kx = 0 ∧ nx = 0) ∨ (kx = 1 ∧ nx = -1)) := by
    show _ ∨ _
    rw [hnx, hkx]
    rcases cmp_three (P1 * Q2) (P2 * Q1) with h | h | h
    · exact .inl ⟨h, by rw [h]; rfl⟩
    · exact .inr (.inl ⟨h, by rw [h]; rfl⟩)
    · exact .inr (.inr ⟨h, by rw [h]⟩)
  have HY3 : Hid (ky = -1 ∨ ky = 0 ∨ ky = 1) := by rw [hky]; exact cmp_three _ _
  have HZ3 : Hid (kz = -1 ∨ kz = 0 ∨ kz = 1) := by rw [hkz]; exact cmp_three _ _
  have HTR : Hid ((kx ≤ 0 → ky ≤ 0 → kz ≤ 0) ∧ (0 ≤ kx → 0 ≤ ky → 0 ≤ kz)) := by
    refine ⟨fun h1 h2 => ?_, fun h1 h2 => ?_⟩
    · rw [hkx, cmp_le] at h1; rw [hky, cmp_le] at h2; rw [hkz, cmp_le]
      exact frac_trans q2 h1 h2
    · have e1 : -kx ≤ 0 := by omega
      have e2 : -ky ≤ 0 := by omega
      rw [hkx, ← cmp_neg, cmp_le] at e1; rw [hky, ← cmp_neg, cmp_le] at e2
      have e3 : -kz ≤ 0 := by rw [hkz, ← cmp_neg, cmp_le]; exact frac_trans q2 e2 e1
      omega
  have HST : Hid ((⟨(fracText P1 Q1).toArray⟩ : ByteArray) = ⟨(fracText P2 Q2).toArray⟩ ↔ kx = 0) := by rw [hkx]; exact frac_text_cmp o1 o2 q1 q2
  have mm1 := nd_rmul g1 g3'
  have mm2 := nd_rmul g3 g1'
  have mm3 := nd_rmul g1' g3'
  have mm4 := nd_radd' mm1 mm2
  have mm5 := nd_rmul g2 g3'
  have mm6 := nd_rmul g3 g2'
  have mm7 := nd_rmul g2' g3'
  have mm8 := nd_radd' mm5 mm6
  have p13 : 0 < Q1 * Q3 := Nat.mul_pos q1 q3
  have p23 : 0 < Q2 * Q3 := Nat.mul_pos q2 q3
  have HCS : cmpN ((lowP (P1 * Q3 + P3 * Q1) (Q1 * Q3) * lowQ (P2 * Q3 + P3 * Q2) (Q2 * Q3) : Nat) : Int) ((lowP (P2 * Q3 + P3 * Q2) (Q2 * Q3) * lowQ (P1 * Q3 + P3 * Q1) (Q1 * Q3) : Nat) : Int) = kx := by rw [cmp_low p13 p23, cmp_plus q3, hkx]
  have s2p : 0 < lowQ (P1 * Q3 + P3 * Q1) (Q1 * Q3) := Nat.div_pos (Nat.gcd_le_right _ p13) (Nat.gcd_pos_of_pos_right _ p13)
  have t2p : 0 < lowQ (P2 * Q3 + P3 * Q2) (Q2 * Q3) := Nat.div_pos (Nat.gcd_le_right _ p23) (Nat.gcd_pos_of_pos_right _ p23)
  have s1n : nd 65536 (lowP (P1 * Q3 + P3 * Q1) (Q1 * Q3)) ≤ 17 := Nat.le_trans (nd_mono (by decide) (Nat.div_le_self _ _)) mm4
  have s2n : nd 65536 (lowQ (P1 * Q3 + P3 * Q1) (Q1 * Q3)) ≤ 16 := Nat.le_trans (nd_mono (by decide) (Nat.div_le_self _ _)) mm3
  have t1n : nd 65536 (lowP (P2 * Q3 + P3 * Q2) (Q2 * Q3)) ≤ 17 := Nat.le_trans (nd_mono (by decide) (Nat.div_le_self _ _)) mm8
  have t2n : nd 65536 (lowQ (P2 * Q3 + P3 * Q2) (Q2 * Q3)) ≤ 16 := Nat.le_trans (nd_mono (by decide) (Nat.div_le_self _ _)) mm7
  have s1m := nd_32 s1n
  have s2m := nd_32 s2n
  have t1m := nd_32 t1n
  have t2m := nd_32 t2n
  have HXY := Lib.hid (fun W v u x y (h1 : D W v P1) (h2 : D W u Q1) (h3 : D W x P2) (h4 : D W y Q2) => FCmp_any v u x y P1 Q1 P2 Q2 W h1 h2 h3 h4 (by omega) (by omega) (by omega) (by omega))
  rw [dn_of q1, dn_of q2, show cmpN ((P1 * Q2 : Nat) : Int) ((P2 * Q1 : Nat) : Int) = kx from hkx.symm] at HXY
  have HYZ := Lib.hid (fun W v u x y (h1 : D W v P2) (h2 : D W u Q2) (h3 : D W x P3) (h4 : D W y Q3) => FCmp_any v u x y P2 Q2 P3 Q3 W h1 h2 h3 h4 (by omega) (by omega) (by omega) (by omega))
  rw [dn_of q2, dn_of q3, show cmpN ((P2 * Q3 : Nat) : Int) ((P3 * Q2 : Nat) : Int) = ky from hky.symm] at HYZ
  have HXZ := Lib.hid (fun W v u x y (h1 : D W v P1) (h2 : D W u Q1) (h3 : D W x P3) (h4 : D W y Q3) => FCmp_any v u x y P1 Q1 P3 Q3 W h1 h2 h3 h4 (by omega) (by omega) (by omega) (by omega))
  rw [dn_of q1, dn_of q3, show cmpN ((P1 * Q3 : Nat) : Int) ((P3 * Q1 : Nat) : Int) = kz from hkz.symm] at HXZ
  have HGF := Lib.hid (fun W v u x y (h1 : D W v P2) (h2 : D W u Q2) (h3 : D W x P1) (h4 : D W y Q1) => FCmp_any v u x y P2 Q2 P1 Q1 W h1 h2 h3 h4 (by omega) (by omega) (by omega) (by omega))
  rw [dn_of q2, dn_of q1, show cmpN ((P2 * Q1 : Nat) : Int) ((P1 * Q2 : Nat) : Int) = nx from by rw [cmp_neg, ← hkx, hnx]] at HGF
  have HFF := Lib.hid (fun W v u x y (h1 : D W v P1) (h2 : D W u Q1) (h3 : D W x P1) (h4 : D W y Q1) => FCmp_any v u x y P1 Q1 P1 Q1 W h1 h2 h3 h4 (by omega) (by omega) (by omega) (by omega))
  rw [dn_of q1, show cmpN ((P1 * Q1 : Nat) : Int) ((P1 * Q1 : Nat) : Int) = 0 from cmpN_eq rfl] at HFF

  have HAS := Lib.hid (fun W v u x y (h1 : D W v P1) (h2 : D W u Q1) (h3 : D W x P3) (h4 : D W y Q3) => FAdd_any v u x y P1 Q1 P3 Q3 W h1 h2 h3 h4 (by omega) (by omega) (by omega) (by omega))
  rw [dn_of q1, dn_of q3] at HAS
  unfold FRes at HAS
  rw [(sums_fit' (L := P1 * Q3 + P3 * Q1) (M := Q1 * Q3) (by omega) (by omega)).1, (sums_fit' (L := P1 * Q3 + P3 * Q1) (M := Q1 * Q3) (by omega) (by omega)).2.1, (sums_fit' (L := P1 * Q3 + P3 * Q1) (M := Q1 * Q3) (by omega) (by omega)).2.2] at HAS
  have HAT := Lib.hid (fun W v u x y (h1 : D W v P2) (h2 : D W u Q2) (h3 : D W x P3) (h4 : D W y Q3) => FAdd_any v u x y P2 Q2 P3 Q3 W h1 h2 h3 h4 (by omega) (by omega) (by omega) (by omega))
  rw [dn_of q2, dn_of q3] at HAT
  unfold FRes at HAT
  rw [(sums_fit' (L := P2 * Q3 + P3 * Q2) (M := Q2 * Q3) (by omega) (by omega)).1, (sums_fit' (L := P2 * Q3 + P3 * Q2) (M := Q2 * Q3) (by omega) (by omega)).2.1, (sums_fit' (L := P2 * Q3 + P3 * Q2) (M := Q2 * Q3) (by omega) (by omega)).2.2] at HAT

  have HSC := Lib.hid (fun W v u x y (h1 : D W v (lowP (P1 * Q3 + P3 * Q1) (Q1 * Q3))) (h2 : D W u (lowQ (P1 * Q3 + P3 * Q1) (Q1 * Q3))) (h3 : D W x (lowP (P2 * Q3 + P3 * Q2) (Q2 * Q3))) (h4 : D W y (lowQ (P2 * Q3 + P3 * Q2) (Q2 * Q3))) => FCmp_any v u x y _ _ _ _ W h1 h2 h3 h4 (by omega) (by omega) (by omega) (by omega))
  rw [dn_of s2p, dn_of t2p, HCS] at HSC
  obtain ⟨Sf, hSf⟩ : ∃ S : ByteArray, S = ⟨(fracText P1 Q1).toArray⟩ := ⟨_, rfl⟩
  obtain ⟨Sg, hSg⟩ : ∃ S : ByteArray, S = ⟨(fracText P2 Q2).toArray⟩ := ⟨_, rfl⟩
  have HTF := Lib.hid (fun W v u (h1 : D W v P1) (h2 : D W u Q1) (he : Env W) => FracString_any v u P1 Q1 W h1 h2 (by omega) (by omega) he)
  have HTG := Lib.hid (fun W v u (h1 : D W v P2) (h2 : D W u Q2) (he : Env W) => FracString_any v u P2 Q2 W h1 h2 (by omega) (by omega) he)
  rw [dn_of q1, ← hSf] at HTF
  rw [dn_of q2, ← hSg] at HTG
  rw [← hSf, ← hSg] at HST
  have hkb : -1 ≤ kx ∧ kx ≤ 1 := by have := HX3.out; omega
  have hwr : IntKind.i64.wrap (-kx) = nx := by rw [IntWalk.i64_in _ (by omega), hnx]
  have HWR := Lib.hid hwr
  have hkv : kx = (-1) := hkx.trans hk
  have hnv : nx = 1 := by omega
  clear hk hkx hky hkz hnx hwr hkb HCS hSf hSg o1 o2 o3 hn0 hn1 hn2 hn3 hn4 hn5 mm1 mm2 mm3 mm4 mm5 mm6 mm7 mm8
  generalize lowP (P1 * Q3 + P3 * Q1) (Q1 * Q3) = S1 at *
  generalize lowQ (P1 * Q3 + P3 * Q1) (Q1 * Q3) = S2 at *
  generalize lowP (P2 * Q3 + P3 * Q2) (Q2 * Q3) = T1 at *
  generalize lowQ (P2 * Q3 + P3 * Q2) (Q2 * Q3) = T2 at *
  subst hkv
  subst hnv
  go_enter Tryd.func5, Tryd.ntmps5
  go_wp2_with fail
  refine (HH1.out _ (IsRaw.below HU0.out HS0.out.bel) (IsRaw.below HU1.out HS0.out.bel)).mono ?_
  rintro e w1 ⟨vf1, vf2, vp1, vp2, rfl, hf1, hf2, hp1, hp2, hb⟩
  obtain ⟨f1o, f1c, rfl, -⟩ := hf1.shape
  obtain ⟨f2o, f2c, rfl, -⟩ := hf2.shape
  obtain ⟨p1o, p1c, rfl, -⟩ := hp1.shape
  obtain ⟨p2o, p2c, rfl, -⟩ := hp2.shape
  have hs := ((((((HS0.out.next hb).addNum hf1).addNum hf2).addDig hp1).addDig hp2).boxed2 (.slice f1o (nd 4294967296 (P1)) f1c) (.slice f2o (nd 4294967296 (Q1)) f2c) 26).boxed2 (.slice p1o (nd 65536 (P1)) p1c) (.slice p2o (nd 65536 (Q1)) p2c) 32
  simp only [World.size_alloc] at hs
  have HS1 := Lib.hid hs
  clear hs hb hf1 hf2 hp1 hp2 HS0
  go_wp2_with fail
  refine (HH2.out _ (IsRaw.below HU2.out HS1.out.bel) (IsRaw.below HU3.out HS1.out.bel)).mono ?_
  rintro e w2 ⟨vg1, vg2, vq1, vq2, rfl, hg1, hg2, hq1, hq2, hb⟩
  obtain ⟨g1o, g1c, rfl, -⟩ := hg1.shape
  obtain ⟨g2o, g2c, rfl, -⟩ := hg2.shape
  obtain ⟨q1o, q1c, rfl, -⟩ := hq1.shape
  obtain ⟨q2o, q2c, rfl, -⟩ := hq2.shape
  have hs := ((((((HS1.out.next hb).addNum hg1).addNum hg2).addDig hq1).addDig hq2).boxed2 (.slice g1o (nd 4294967296 (P2)) g1c) (.slice g2o (nd 4294967296 (Q2)) g2c) 26).boxed2 (.slice q1o (nd 65536 (P2)) q1c) (.slice q2o (nd 65536 (Q2)) q2c) 32
  simp only [World.size_alloc] at hs
  have HS2 := Lib.hid hs
  clear hs hb hg1 hg2 hq1 hq2 HS1
  go_wp2_with fail
  refine (HH3.out _ (IsRaw.below HU4.out HS2.out.bel) (IsRaw.below HU5.out HS2.out.bel)).mono ?_
  rintro e w3 ⟨vk1, vk2, vr1, vr2, rfl, hk1, hk2, hr1, hr2, hb⟩
  obtain ⟨k1o, k1c, rfl, -⟩ := hk1.shape
  obtain ⟨k2o, k2c, rfl, -⟩ := hk2.shape
  obtain ⟨r1o, r1c, rfl, -⟩ := hr1.shape
  obtain ⟨r2o, r2c, rfl, -⟩ := hr2.shape
  have hs := ((((((HS2.out.next hb).addNum hk1).addNum hk2).addDig hr1).addDig hr2).boxed2 (.slice k1o (nd 4294967296 (P3)) k1c) (.slice k2o (nd 4294967296 (Q3)) k2c) 26).boxed2 (.slice r1o (nd 65536 (P3)) r1c) (.slice r2o (nd 65536 (Q3)) r2c) 32
  simp only [World.size_alloc] at hs
  have HS3 := Lib.hid hs
  clear hs hb hk1 hk2 hr1 hr2 HS2
  have hs := HS3.out
  obtain ⟨cs1, hcs⟩ : ∃ cs : List (Nat × Nat × Value), cs = (w3.heap.size + 1, 1, .slice r2o (nd 65536 (Q3)) r2c) :: (w3.heap.size + 1, 0, .slice r1o (nd 65536 (P3)) r1c) :: (w3.heap.size, 1, .slice k2o (nd 4294967296 (Q3)) k2c) :: (w3.heap.size, 0, .slice k1o (nd 4294967296 (P3)) k1c) :: (w2.heap.size + 1, 1, .slice q2o (nd 65536 (Q2)) q2c) :: (w2.heap.size + 1, 0, .slice q1o (nd 65536 (P2)) q1c) :: (w2.heap.size, 1, .slice g2o (nd 4294967296 (Q2)) g2c) :: (w2.heap.size, 0, .slice g1o (nd 4294967296 (P2)) g1c) :: (w1.heap.size + 1, 1, .slice p2o (nd 65536 (Q1)) p2c) :: (w1.heap.size + 1, 0, .slice p1o (nd 65536 (P1)) p1c) :: (w1.heap.size, 1, .slice f2o (nd 4294967296 (Q1)) f2c) :: (w1.heap.size, 0, .slice f1o (nd 4294967296 (P1)) f1c) :: [] := ⟨_, rfl⟩
  obtain ⟨ns1, hns⟩ : ∃ ns : List (Value × Nat), ns = (.slice k2o (nd 4294967296 (Q3)) k2c, Q3) :: (.slice k1o (nd 4294967296 (P3)) k1c, P3) :: (.slice g2o (nd 4294967296 (Q2)) g2c, Q2) :: (.slice g1o (nd 4294967296 (P2)) g1c, P2) :: (.slice f2o (nd 4294967296 (Q1)) f2c, Q1) :: (.slice f1o (nd 4294967296 (P1)) f1c, P1) :: [] := ⟨_, rfl⟩
  obtain ⟨rs1, hrs⟩ : ∃ rs : List (Value × Nat), rs = (.slice r2o (nd 65536 (Q3)) r2c, Q3) :: (.slice r1o (nd 65536 (P3)) r1c, P3) :: (.slice q2o (nd 65536 (Q2)) q2c, Q2) :: (.slice q1o (nd 65536 (P2)) q1c, P2) :: (.slice p2o (nd 65536 (Q1)) p2c, Q1) :: (.slice p1o (nd 65536 (P1)) p1c, P1) :: [] := ⟨_, rfl⟩
  rw [← hcs, ← hns, ← hrs] at hs
  have HC1_f1 : Hid (((w1.heap.size, 0, .slice f1o (nd 4294967296 (P1)) f1c) : Nat × Nat × Value) ∈ cs1) := by show _ ∈ _; rw [hcs]; exact (.tail _ (.tail _ (.tail _ (.tail _ (.tail _ (.tail _ (.tail _ (.tail _ (.tail _ (.tail _ (.tail _ (.head _))))))))))))
  have HC1_f2 : Hid (((w1.heap.size, 1, .slice f2o (nd 4294967296 (Q1)) f2c) : Nat × Nat × Value) ∈ cs1) := by show _ ∈ _; rw [hcs]; exact (.tail _ (.tail _ (.tail _ (.tail _ (.tail _ (.tail _ (.tail _ (.tail _ (.tail _ (.tail _ (.head _)))))))))))
  have HC1_g1 : Hid (((w2.heap.size, 0, .slice g1o (nd 4294967296 (P2)) g1c) : Nat × Nat × Value) ∈ cs1) := by show _ ∈ _; rw [hcs]; exact (.tail _ (.tail _ (.tail _ (.tail _ (.tail _ (.tail _ (.tail _ (.head _))))))))
  have HC1_g2 : Hid (((w2.heap.size, 1, .slice g2o (nd 4294967296 (Q2)) g2c) : Nat × Nat × Value) ∈ cs1) := by show _ ∈ _; rw [hcs]; exact (.tail _ (.tail _ (.tail _ (.tail _ (.tail _ (.tail _ (.head _)))))))
  have HC1_k1 : Hid (((w3.heap.size, 0, .slice k1o (nd 4294967296 (P3)) k1c) : Nat × Nat × Value) ∈ cs1) := by show _ ∈ _; rw [hcs]; exact (.tail _ (.tail _ (.tail _ (.head _))))
  have HC1_k2 : Hid (((w3.heap.size, 1, .slice k2o (nd 4294967296 (Q3)) k2c) : Nat × Nat × Value) ∈ cs1) := by show _ ∈ _; rw [hcs]; exact (.tail _ (.tail _ (.head _)))
  have HM1_f1 : Hid (((.slice f1o (nd 4294967296 (P1)) f1c, P1) : Value × Nat) ∈ ns1) := by show _ ∈ _; rw [hns]; exact (.tail _ (.tail _ (.tail _ (.tail _ (.tail _ (.head _))))))
  have HM1_f2 : Hid (((.slice f2o (nd 4294967296 (Q1)) f2c, Q1) : Value × Nat) ∈ ns1) := by show _ ∈ _; rw [hns]; exact (.tail _ (.tail _ (.tail _ (.tail _ (.head _)))))
  have HM1_g1 : Hid (((.slice g1o (nd 4294967296 (P2)) g1c, P2) : Value × Nat) ∈ ns1) := by show _ ∈ _; rw [hns]; exact (.tail _ (.tail _ (.tail _ (.head _))))
  have HM1_g2 : Hid (((.slice g2o (nd 4294967296 (Q2)) g2c, Q2) : Value × Nat) ∈ ns1) := by show _ ∈ _; rw [hns]; exact (.tail _ (.tail _ (.head _)))
  have HM1_k1 : Hid (((.slice k1o (nd 4294967296 (P3)) k1c, P3) : Value × Nat) ∈ ns1) := by show _ ∈ _; rw [hns]; exact (.tail _ (.head _))
  have HM1_k2 : Hid (((.slice k2o (nd 4294967296 (Q3)) k2c, Q3) : Value × Nat) ∈ ns1) := by show _ ∈ _; rw [hns]; exact (.head _)
  have HCL1 : Hid (∀ W', Kq cs1 ns1 rs1 w W' → W'.cell? ⟨w1.heap.size, 0, none⟩ = some (.slice f1o (nd 4294967296 (P1)) f1c) ∧ W'.cell? ⟨w1.heap.size, 1, none⟩ = some (.slice f2o (nd 4294967296 (Q1)) f2c) ∧ W'.cell? ⟨w2.heap.size, 0, none⟩ = some (.slice g1o (nd 4294967296 (P2)) g1c) ∧ W'.cell? ⟨w2.heap.size, 1, none⟩ = some (.slice g2o (nd 4294967296 (Q2)) g2c) ∧ W'.cell? ⟨w3.heap.size, 0, none⟩ = some (.slice k1o (nd 4294967296 (P3)) k1c) ∧ W'.cell? ⟨w3.heap.size, 1, none⟩ = some (.slice k2o (nd 4294967296 (Q3)) k2c)) := fun W' h => ⟨h.cell HC1_f1.out, h.cell HC1_f2.out, h.cell HC1_g1.out, h.cell HC1_g2.out, h.cell HC1_k1.out, h.cell HC1_k2.out⟩
  have hs2 := hs.drew
  have hcl := HCL1.out _ hs2
  have hc0 := HCL1.out _ hs
  have HAK1 := Lib.hid (fun W' (h : Kq cs1 ns1 rs1 w W') => awake_Q h)
  clear hcs hns hrs HS3
  have A1 : Hid (∀ W', Kq cs1 ns1 rs1 w W' → Calls Tryd.prog 26 #[.agg #[.slice f1o (nd 4294967296 (P1)) f1c, .slice f2o (nd 4294967296 (Q1)) f2c], .agg #[.slice g1o (nd 4294967296 (P2)) g1c, .slice g2o (nd 4294967296 (Q2)) g2c]] W' fun e w' => e = .returned (.int .i64 (-1)) ∧ Kq cs1 ns1 rs1 w w') := fun W' h => (HXY.out _ _ _ _ _ (h.num _ (HM1_f1.out)) (h.num _ (HM1_f2.out)) (h.num _ (HM1_g1.out)) (h.num _ (HM1_g2.out))).mono fun e w' ⟨he, hB⟩ => ⟨he, h.next hB⟩
  have A2 : Hid (∀ W', Kq cs1 ns1 rs1 w W' → Calls Tryd.prog 26 #[.agg #[.slice g1o (nd 4294967296 (P2)) g1c, .slice g2o (nd 4294967296 (Q2)) g2c], .agg #[.slice k1o (nd 4294967296 (P3)) k1c, .slice k2o (nd 4294967296 (Q3)) k2c]] W' fun e w' => e = .returned (.int .i64 ky) ∧ Kq cs1 ns1 rs1 w w') := fun W' h => (HYZ.out _ _ _ _ _ (h.num _ (HM1_g1.out)) (h.num _ (HM1_g2.out)) (h.num _ (HM1_k1.out)) (h.num _ (HM1_k2.out))).mono fun e w' ⟨he, hB⟩ => ⟨he, h.next hB⟩
  have A3 : Hid (∀ W', Kq cs1 ns1 rs1 w W' → Calls Tryd.prog 26 #[.agg #[.slice f1o (nd 4294967296 (P1)) f1c, .slice f2o (nd 4294967296 (Q1)) f2c], .agg #[.slice k1o (nd 4294967296 (P3)) k1c, .slice k2o (nd 4294967296 (Q3)) k2c]] W' fun e w' => e = .returned (.int .i64 kz) ∧ Kq cs1 ns1 rs1 w w') := fun W' h => (HXZ.out _ _ _ _ _ (h.num _ (HM1_f1.out)) (h.num _ (HM1_f2.out)) (h.num _ (HM1_k1.out)) (h.num _ (HM1_k2.out))).mono fun e w' ⟨he, hB⟩ => ⟨he, h.next hB⟩
  go_wp2_with fail
  go_region_held3 (fun W' : World => (W'.cell? ⟨w1.heap.size, 0, none⟩ = some (.slice f1o (nd 4294967296 (P1)) f1c) ∧ W'.cell? ⟨w1.heap.size, 1, none⟩ = some (.slice f2o (nd 4294967296 (Q1)) f2c) ∧ W'.cell? ⟨w2.heap.size, 0, none⟩ = some (.slice g1o (nd 4294967296 (P2)) g1c) ∧ W'.cell? ⟨w2.heap.size, 1, none⟩ = some (.slice g2o (nd 4294967296 (Q2)) g2c) ∧ W'.cell? ⟨w3.heap.size, 0, none⟩ = some (.slice k1o (nd 4294967296 (P3)) k1c) ∧ W'.cell? ⟨w3.heap.size, 1, none⟩ = some (.slice k2o (nd 4294967296 (Q3)) k2c)) ∧ Kq cs1 ns1 rs1 w W') (first | (refine And.intro ?_ ?_ <;> assumption)) (first
    | (go_at_call 26; with_reducible refine (A1.out _ ?h).mono ?_; (case h => assumption); rintro e w' ⟨rfl, hs'⟩; have hc' := HCL1.out _ hs')
    | (go_at_call 26; with_reducible refine (A2.out _ ?h).mono ?_; (case h => assumption); rintro e w' ⟨rfl, hs'⟩; have hc' := HCL1.out _ hs')
    | (go_at_call 26; with_reducible refine (A3.out _ ?h).mono ?_; (case h => assumption); rintro e w' ⟨rfl, hs'⟩; have hc' := HCL1.out _ hs'))
  all_goals
    have hsx : Kq cs1 ns1 rs1 w w' := by assumption
    have HS4 := Lib.hid hsx
    clear hsx 
    have cf1 := HS4.out.cell (HC1_f1.out)
    have cf2 := HS4.out.cell (HC1_f2.out)
    have ck1 := HS4.out.cell (HC1_k1.out)
    have ck2 := HS4.out.cell (HC1_k2.out)
    go_wp2_with fail
    refine (HAS.out _ _ _ _ _ (HS4.out.num _ (HM1_f1.out)) (HS4.out.num _ (HM1_f2.out)) (HS4.out.num _ (HM1_k1.out)) (HS4.out.num _ (HM1_k2.out))).mono ?_
    rintro e w4 ⟨vsa1, vsa2, rfl, hsa1, hsa2, hb⟩
    obtain ⟨sa1o, sa1c, rfl, -⟩ := hsa1.shape
    obtain ⟨sa2o, sa2c, rfl, -⟩ := hsa2.shape
    have hs := (((HS4.out.next hb).addNum hsa1).addNum hsa2).boxed2 (.slice sa1o (nd 4294967296 (S1)) sa1c) (.slice sa2o (nd 4294967296 (S2)) sa2c) 26
    have HS5 := Lib.hid hs
    clear hs hb hsa1 hsa2 HS4
    clear cf1 cf2 ck1 ck2
    have cg1 := HS5.out.cell (.tail _ (.tail _ (HC1_g1.out)))
    have cg2 := HS5.out.cell (.tail _ (.tail _ (HC1_g2.out)))
    have ck1 := HS5.out.cell (.tail _ (.tail _ (HC1_k1.out)))
    have ck2 := HS5.out.cell (.tail _ (.tail _ (HC1_k2.out)))
    go_wp2_with fail
    refine (HAT.out _ _ _ _ _ (HS5.out.num _ (.tail _ (.tail _ (HM1_g1.out)))) (HS5.out.num _ (.tail _ (.tail _ (HM1_g2.out)))) (HS5.out.num _ (.tail _ (.tail _ (HM1_k1.out)))) (HS5.out.num _ (.tail _ (.tail _ (HM1_k2.out))))).mono ?_
    rintro e w5 ⟨vta1, vta2, rfl, hta1, hta2, hb⟩
    obtain ⟨ta1o, ta1c, rfl, -⟩ := hta1.shape
    obtain ⟨ta2o, ta2c, rfl, -⟩ := hta2.shape
    have hs := (((HS5.out.next hb).addNum hta1).addNum hta2).boxed2 (.slice ta1o (nd 4294967296 (T1)) ta1c) (.slice ta2o (nd 4294967296 (T2)) ta2c) 26
    have HS6 := Lib.hid hs
    clear hs hb hta1 hta2 HS5
    clear cg1 cg2 ck1 ck2
    have hs := HS6.out
    obtain ⟨cs2, hcs⟩ : ∃ cs : List (Nat × Nat × Value), cs = (w5.heap.size, 1, .slice ta2o (nd 4294967296 (T2)) ta2c) :: (w5.heap.size, 0, .slice ta1o (nd 4294967296 (T1)) ta1c) :: (w4.heap.size, 1, .slice sa2o (nd 4294967296 (S2)) sa2c) :: (w4.heap.size, 0, .slice sa1o (nd 4294967296 (S1)) sa1c) :: cs1 := ⟨_, rfl⟩
    obtain ⟨ns2, hns⟩ : ∃ ns : List (Value × Nat), ns = (.slice ta2o (nd 4294967296 (T2)) ta2c, T2) :: (.slice ta1o (nd 4294967296 (T1)) ta1c, T1) :: (.slice sa2o (nd 4294967296 (S2)) sa2c, S2) :: (.slice sa1o (nd 4294967296 (S1)) sa1c, S1) :: ns1 := ⟨_, rfl⟩
    obtain ⟨rs2, hrs⟩ : ∃ rs : List (Value × Nat), rs = rs1 := ⟨_, rfl⟩
    rw [← hcs, ← hns, ← hrs] at hs
    have HC2_f1 : Hid (((w1.heap.size, 0, .slice f1o (nd 4294967296 (P1)) f1c) : Nat × Nat × Value) ∈ cs2) := by show _ ∈ _; rw [hcs]; exact (.tail _ (.tail _ (.tail _ (.tail _ (HC1_f1.out)))))
    have HC2_f2 : Hid (((w1.heap.size, 1, .slice f2o (nd 4294967296 (Q1)) f2c) : Nat × Nat × Value) ∈ cs2) := by show _ ∈ _; rw [hcs]; exact (.tail _ (.tail _ (.tail _ (.tail _ (HC1_f2.out)))))
    have HC2_g1 : Hid (((w2.heap.size, 0, .slice g1o (nd 4294967296 (P2)) g1c) : Nat × Nat × Value) ∈ cs2) := by show _ ∈ _; rw [hcs]; exact (.tail _ (.tail _ (.tail _ (.tail _ (HC1_g1.out)))))
    have HC2_g2 : Hid (((w2.heap.size, 1, .slice g2o (nd 4294967296 (Q2)) g2c) : Nat × Nat × Value) ∈ cs2) := by show _ ∈ _; rw [hcs]; exact (.tail _ (.tail _ (.tail _ (.tail _ (HC1_g2.out)))))
    have HC2_sa1 : Hid (((w4.heap.size, 0, .slice sa1o (nd 4294967296 (S1)) sa1c) : Nat × Nat × Value) ∈ cs2) := by show _ ∈ _; rw [hcs]; exact (.tail _ (.tail _ (.tail _ (.head _))))
    have HC2_sa2 : Hid (((w4.heap.size, 1, .slice sa2o (nd 4294967296 (S2)) sa2c) : Nat × Nat × Value) ∈ cs2) := by show _ ∈ _; rw [hcs]; exact (.tail _ (.tail _ (.head _)))
    have HC2_ta1 : Hid (((w5.heap.size, 0, .slice ta1o (nd 4294967296 (T1)) ta1c) : Nat × Nat × Value) ∈ cs2) := by show _ ∈ _; rw [hcs]; exact (.tail _ (.head _))
    have HC2_ta2 : Hid (((w5.heap.size, 1, .slice ta2o (nd 4294967296 (T2)) ta2c) : Nat × Nat × Value) ∈ cs2) := by show _ ∈ _; rw [hcs]; exact (.head _)
    have HM2_f1 : Hid (((.slice f1o (nd 4294967296 (P1)) f1c, P1) : Value × Nat) ∈ ns2) := by show _ ∈ _; rw [hns]; exact (.tail _ (.tail _ (.tail _ (.tail _ (HM1_f1.out)))))
    have HM2_f2 : Hid (((.slice f2o (nd 4294967296 (Q1)) f2c, Q1) : Value × Nat) ∈ ns2) := by show _ ∈ _; rw [hns]; exact (.tail _ (.tail _ (.tail _ (.tail _ (HM1_f2.out)))))
    have HM2_g1 : Hid (((.slice g1o (nd 4294967296 (P2)) g1c, P2) : Value × Nat) ∈ ns2) := by show _ ∈ _; rw [hns]; exact (.tail _ (.tail _ (.tail _ (.tail _ (HM1_g1.out)))))
    have HM2_g2 : Hid (((.slice g2o (nd 4294967296 (Q2)) g2c, Q2) : Value × Nat) ∈ ns2) := by show _ ∈ _; rw [hns]; exact (.tail _ (.tail _ (.tail _ (.tail _ (HM1_g2.out)))))
    have HM2_sa1 : Hid (((.slice sa1o (nd 4294967296 (S1)) sa1c, S1) : Value × Nat) ∈ ns2) := by show _ ∈ _; rw [hns]; exact (.tail _ (.tail _ (.tail _ (.head _))))
    have HM2_sa2 : Hid (((.slice sa2o (nd 4294967296 (S2)) sa2c, S2) : Value × Nat) ∈ ns2) := by show _ ∈ _; rw [hns]; exact (.tail _ (.tail _ (.head _)))
    have HM2_ta1 : Hid (((.slice ta1o (nd 4294967296 (T1)) ta1c, T1) : Value × Nat) ∈ ns2) := by show _ ∈ _; rw [hns]; exact (.tail _ (.head _))
    have HM2_ta2 : Hid (((.slice ta2o (nd 4294967296 (T2)) ta2c, T2) : Value × Nat) ∈ ns2) := by show _ ∈ _; rw [hns]; exact (.head _)
    have HCL2 : Hid (∀ W', Kq cs2 ns2 rs2 w W' → W'.cell? ⟨w1.heap.size, 0, none⟩ = some (.slice f1o (nd 4294967296 (P1)) f1c) ∧ W'.cell? ⟨w1.heap.size, 1, none⟩ = some (.slice f2o (nd 4294967296 (Q1)) f2c) ∧ W'.cell? ⟨w2.heap.size, 0, none⟩ = some (.slice g1o (nd 4294967296 (P2)) g1c) ∧ W'.cell? ⟨w2.heap.size, 1, none⟩ = some (.slice g2o (nd 4294967296 (Q2)) g2c) ∧ W'.cell? ⟨w4.heap.size, 0, none⟩ = some (.slice sa1o (nd 4294967296 (S1)) sa1c) ∧ W'.cell? ⟨w4.heap.size, 1, none⟩ = some (.slice sa2o (nd 4294967296 (S2)) sa2c) ∧ W'.cell? ⟨w5.heap.size, 0, none⟩ = some (.slice ta1o (nd 4294967296 (T1)) ta1c) ∧ W'.cell? ⟨w5.heap.size, 1, none⟩ = some (.slice ta2o (nd 4294967296 (T2)) ta2c)) := fun W' h => ⟨h.cell HC2_f1.out, h.cell HC2_f2.out, h.cell HC2_g1.out, h.cell HC2_g2.out, h.cell HC2_sa1.out, h.cell HC2_sa2.out, h.cell HC2_ta1.out, h.cell HC2_ta2.out⟩
    have hs2 := hs.drew
    have hcl := HCL2.out _ hs2
    have hc0 := HCL2.out _ hs
    have HAK2 := Lib.hid (fun W' (h : Kq cs2 ns2 rs2 w W') => awake_Q h)
    clear hcs hns hrs HS6
    have B1 : Hid (∀ W', Kq cs2 ns2 rs2 w W' → Calls Tryd.prog 26 #[.agg #[.slice g1o (nd 4294967296 (P2)) g1c, .slice g2o (nd 4294967296 (Q2)) g2c], .agg #[.slice f1o (nd 4294967296 (P1)) f1c, .slice f2o (nd 4294967296 (Q1)) f2c]] W' fun e w' => e = .returned (.int .i64 1) ∧ Kq cs2 ns2 rs2 w w') := fun W' h => (HGF.out _ _ _ _ _ (h.num _ (HM2_g1.out)) (h.num _ (HM2_g2.out)) (h.num _ (HM2_f1.out)) (h.num _ (HM2_f2.out))).mono fun e w' ⟨he, hB⟩ => ⟨he, h.next hB⟩
    have B2 : Hid (∀ W', Kq cs2 ns2 rs2 w W' → Calls Tryd.prog 26 #[.agg #[.slice sa1o (nd 4294967296 (S1)) sa1c, .slice sa2o (nd 4294967296 (S2)) sa2c], .agg #[.slice ta1o (nd 4294967296 (T1)) ta1c, .slice ta2o (nd 4294967296 (T2)) ta2c]] W' fun e w' => e = .returned (.int .i64 (-1)) ∧ Kq cs2 ns2 rs2 w w') := fun W' h => (HSC.out _ _ _ _ _ (h.num _ (HM2_sa1.out)) (h.num _ (HM2_sa2.out)) (h.num _ (HM2_ta1.out)) (h.num _ (HM2_ta2.out))).mono fun e w' ⟨he, hB⟩ => ⟨he, h.next hB⟩
    have B3 : Hid (∀ W', Kq cs2 ns2 rs2 w W' → Calls Tryd.prog 26 #[.agg #[.slice f1o (nd 4294967296 (P1)) f1c, .slice f2o (nd 4294967296 (Q1)) f2c], .agg #[.slice f1o (nd 4294967296 (P1)) f1c, .slice f2o (nd 4294967296 (Q1)) f2c]] W' fun e w' => e = .returned (.int .i64 0) ∧ Kq cs2 ns2 rs2 w w') := fun W' h => (HFF.out _ _ _ _ _ (h.num _ (HM2_f1.out)) (h.num _ (HM2_f2.out)) (h.num _ (HM2_f1.out)) (h.num _ (HM2_f2.out))).mono fun e w' ⟨he, hB⟩ => ⟨he, h.next hB⟩
    have B4 : Hid (∀ W', Kq cs2 ns2 rs2 w W' → Calls Tryd.prog 27 #[.agg #[.slice f1o (nd 4294967296 (P1)) f1c, .slice f2o (nd 4294967296 (Q1)) f2c]] W' fun e w' => e = .returned (.string Sf) ∧ Kq cs2 ns2 rs2 w w') := fun W' h => (HTF.out _ _ _ (h.num _ (HM2_f1.out)) (h.num _ (HM2_f2.out)) h.env).mono fun e w' ⟨he, hB⟩ => ⟨he, h.next hB⟩
    have B5 : Hid (∀ W', Kq cs2 ns2 rs2 w W' → Calls Tryd.prog 27 #[.agg #[.slice g1o (nd 4294967296 (P2)) g1c, .slice g2o (nd 4294967296 (Q2)) g2c]] W' fun e w' => e = .returned (.string Sg) ∧ Kq cs2 ns2 rs2 w w') := fun W' h => (HTG.out _ _ _ (h.num _ (HM2_g1.out)) (h.num _ (HM2_g2.out)) h.env).mono fun e w' ⟨he, hB⟩ => ⟨he, h.next hB⟩
    clear HXY HYZ HXZ HGF HFF HSC HTF HTG HAS HAT
    have hne : ¬ Sf = Sg := fun e => absurd (HST.out.1 e) (by decide)
    have hnb : (Sf.toList == Sg.toList) = false := beq_eq_false_iff_ne.2 (fun h => hne (text_inj h))
    rcases (show (ky ≤ 0 ∧ kz ≤ 0) ∨ 0 < ky from by have := HTR.out.1 (by decide); omega) with ⟨hy, hz⟩ | hy
    all_goals (clear HX3 HY3 HZ3 HTR)
    all_goals (clear HST)
    all_goals (clear HWR)
    all_goals (have wf1 : IntKind.i64.wrap 1 = 1 := rfl)
    all_goals (have wf0 : IntKind.i64.wrap 0 = 0 := rfl)
    all_goals (have wfm : IntKind.i64.wrap (-1) = -1 := rfl)
    all_goals
      go_wp2_with fail
      go_region_held3 (fun W' : World => (W'.cell? ⟨w1.heap.size, 0, none⟩ = some (.slice f1o (nd 4294967296 (P1)) f1c) ∧ W'.cell? ⟨w1.heap.size, 1, none⟩ = some (.slice f2o (nd 4294967296 (Q1)) f2c) ∧ W'.cell? ⟨w2.heap.size, 0, none⟩ = some (.slice g1o (nd 4294967296 (P2)) g1c) ∧ W'.cell? ⟨w2.heap.size, 1, none⟩ = some (.slice g2o (nd 4294967296 (Q2)) g2c) ∧ W'.cell? ⟨w4.heap.size, 0, none⟩ = some (.slice sa1o (nd 4294967296 (S1)) sa1c) ∧ W'.cell? ⟨w4.heap.size, 1, none⟩ = some (.slice sa2o (nd 4294967296 (S2)) sa2c) ∧ W'.cell? ⟨w5.heap.size, 0, none⟩ = some (.slice ta1o (nd 4294967296 (T1)) ta1c) ∧ W'.cell? ⟨w5.heap.size, 1, none⟩ = some (.slice ta2o (nd 4294967296 (T2)) ta2c)) ∧ Kq cs2 ns2 rs2 w W') (first | (refine And.intro ?_ ?_ <;> assumption)) (first
        | (go_at_call 26; with_reducible refine (B1.out _ ?h).mono ?_; (case h => assumption); rintro e w' ⟨rfl, hs'⟩; have hc' := HCL2.out _ hs')
        | (go_at_call 26; with_reducible refine (B2.out _ ?h).mono ?_; (case h => assumption); rintro e w' ⟨rfl, hs'⟩; have hc' := HCL2.out _ hs')
        | (go_at_call 26; with_reducible refine (B3.out _ ?h).mono ?_; (case h => assumption); rintro e w' ⟨rfl, hs'⟩; have hc' := HCL2.out _ hs')
        | (go_at_call 27; with_reducible refine (B4.out _ ?h).mono ?_; (case h => assumption); rintro e w' ⟨rfl, hs'⟩; have hc' := HCL2.out _ hs')
        | (go_at_call 27; with_reducible refine (B5.out _ ?h).mono ?_; (case h => assumption); rintro e w' ⟨rfl, hs'⟩; have hc' := HCL2.out _ hs')
        | (go_at_call 6; with_reducible refine (HAK2.out _ ?h).mono ?_; (case h => assumption); rintro e w' ⟨rfl, hs'⟩; have hc' := HCL2.out _ hs'))
    all_goals go_wp2
    all_goals go_ret
    all_goals exact ⟨by simp, (by assumption : Kq cs2 ns2 rs2 w _).bel⟩
end Go.Proofs.YteajinpfigejfaaDoor
