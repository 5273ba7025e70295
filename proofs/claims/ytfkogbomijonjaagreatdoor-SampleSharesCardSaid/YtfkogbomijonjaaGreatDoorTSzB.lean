/- Contracts and lemmas (several texts merged into one). -/
import Derived.Test.YtfkogbomijonjaaGreatDoorTSzA
import Derived.Test.YtfkogbomijonjaaGreatDoorTSz8
import Derived.Test.YtfkogbomijonjaaGreatDoorRa
import Derived.BigRegion
namespace Go.Proofs.YtfkogbomijonjaaGreatDoor
open Go Go.RowKit Gu

/-- the order: the greater remainder first, then the lower number -/
def RestR (r : Nat → Nat) (x y : Nat) : Prop := r y < r x ∨ (r x = r y ∧ x < y)
theorem RestR.ord (r : Nat → Nat) : OrdR (RestR r) := by
  refine ⟨fun x y z h1 h2 => ?_, fun x h => ?_, fun x y h => ?_⟩
  · unfold RestR at *; omega
  · unfold RestR at *; omega
  · unfold RestR at *; omega
def cmpW (a b : Nat) : Int := if a < b then -1 else if b < a then 1 else 0
theorem cmpW_neg {r : Nat → Nat} {x y : Nat} (h : y < x) : cmpW (r y) (r x) < 0 ↔ RestR r x y := by
  unfold cmpW RestR
  repeat' split
  all_goals omega
theorem isNaN64 (x : Nat) : Hid (∀ W, Calls Tryz.prog 44 #[.int .u64 x] W fun e w' => e = .returned (.bool false) ∧ W = w') := fun W => by
  have h : ((x : Int) != (x : Int)) = false := by simp
  go_enter Tryz.func44, Tryz.ntmps44
  go_wp2_with fail
  go_ret
  exact ⟨rfl, rfl⟩
theorem Compare64_any (a b : Nat) (W : World) : Calls Tryz.prog 26 #[.int .u64 a, .int .u64 b] W fun e w' => e = .returned (.int .i64 (cmpW a b)) ∧ W = w' := by
  have H1 := isNaN64 a
  have H2 := isNaN64 b
  by_cases h1 : a < b
  · have hc : cmpW a b = -1 := by unfold cmpW; rw [if_pos h1]
    have h2 : (a : Int) < b := by omega
    rw [hc]
    clear hc
    go_enter Tryz.func26, Tryz.ntmps26
    go_wp2_with fail
    refine (H1.out _).mono ?_
    rintro e w' ⟨rfl, rfl⟩
    go_wp2_with fail
    refine (H2.out _).mono ?_
    rintro e w' ⟨rfl, rfl⟩
    go_wp2_with fail
    go_ret
    exact ⟨rfl, rfl⟩
  · have h2 : ¬ (a : Int) < b := by omega
    by_cases h3 : b < a
    · have hc : cmpW a b = 1 := by unfold cmpW; rw [if_neg h1, if_pos h3]
      have h4 : (a : Int) > b := by omega
      rw [hc]
      clear hc
      go_enter Tryz.func26, Tryz.ntmps26
      go_wp2_with fail
      refine (H1.out _).mono ?_
      rintro e w' ⟨rfl, rfl⟩
      go_wp2_with fail
      refine (H2.out _).mono ?_
      rintro e w' ⟨rfl, rfl⟩
      go_wp2_with fail
      go_ret
      exact ⟨rfl, rfl⟩
    · have hc : cmpW a b = 0 := by unfold cmpW; rw [if_neg h1, if_neg h3]
      have h4 : ¬ (a : Int) > b := by omega
      rw [hc]
      clear hc
      go_enter Tryz.func26, Tryz.ntmps26
      go_wp2_with fail
      refine (H1.out _).mono ?_
      rintro e w' ⟨rfl, rfl⟩
      go_wp2_with fail
      refine (H2.out _).mono ?_
      rintro e w' ⟨rfl, rfl⟩
      go_wp2_with fail
      go_ret
      exact ⟨rfl, rfl⟩
/-- the remainders, in a row, and the row in a box -/
def RestQ (C g m : Nat) (r : Nat → Nat) (W : World) : Prop := (∃ cap, W.cell? ⟨C, 0, none⟩ = some (.slice (some ⟨g, 0, none⟩) m cap)) ∧ ∀ j, j < m → W.cell? ⟨g, j, none⟩ = some (.int .u64 (r j : Int))
theorem RestQ.st {C g m G : Nat} {r : Nat → Nat} {W : World} (h : RestQ C g m r W) (h1 : G ≠ C) (h2 : G ≠ g) (j : Nat) (u : Value) : RestQ C g m r (W.setCell ⟨G, j, none⟩ u) := by
  obtain ⟨⟨cap, hc⟩, hr⟩ := h
  exact ⟨⟨cap, (World.cell?_setCell_other _ _ _ _ (by intro e; injection e with e; exact h1 e)).trans hc⟩, fun i hi => (World.cell?_setCell_other _ _ _ _ (by intro e; injection e with e; exact h2 e)).trans (hr i hi)⟩
theorem less_any {Q : World → Prop} {C g m : Nat} {r : Nat → Nat} (hQ : ∀ W, Q W → RestQ C g m r W) : CmpQ Q m C (fun x y => cmpW (r y) (r x)) := by
  intro x y W' hx hy hw
  have HRQ := Lib.hid (hQ W' hw)
  obtain ⟨⟨cap, c0⟩, hr⟩ := hQ W' hw
  have c1 := hr x hx
  have c2 := hr y hy
  obtain ⟨a, ha⟩ : ∃ a, a = r x := ⟨_, rfl⟩
  obtain ⟨b, hb⟩ : ∃ a, a = r y := ⟨_, rfl⟩
  have HF : Hid (cmpW (r y) (r x) = cmpW b a) := by rw [ha, hb]; exact rfl
  rw [← ha] at c1
  rw [← hb] at c2
  have hxi : (x : Int) < m := by omega
  have hyi : (y : Int) < m := by omega
  have HCO : Hid (∀ k, Calls Tryz.prog 26 #[.int .u64 b, .int .u64 a] (W'.drewN k) fun e w' => e = .returned (.int .i64 (cmpW b a)) ∧ ∃ q, w' = W'.drewN q) := fun k => (Compare64_any b a _).mono fun e w' ⟨h1, h2⟩ => ⟨h1, k, h2.symm⟩
  clear hQ hw hr ha hb
  go_enter Tryz.func25, Tryz.ntmps25
  go_wp2_with fail
  go_quiet ((go_at_call 26; exact HCO.out _))
  go_wp2_with fail
  go_ret
  exact ⟨by rw [HF.out]; rfl, _, rfl⟩
end Go.Proofs.YtfkogbomijonjaaGreatDoor
namespace Go.Proofs.YtfkogbomijonjaaGreatDoor
open Go Go.RowKit Gu

def quoF (n t : Nat) (x : Nat → Nat) (i : Nat) : Nat := n * x i / t
def remF (n t : Nat) (x : Nat → Nat) (i : Nat) : Nat := n * x i % t
/-- the sum of the first k values -/
def sumF (f : Nat → Nat) : Nat → Nat
  | 0 => 0
  | k + 1 => sumF f k + f k
theorem sumF_le {f h : Nat → Nat} : ∀ k, (∀ i, i < k → f i ≤ h i) → sumF f k ≤ sumF h k
  | 0, _ => Nat.le_refl _
  | k + 1, e => Nat.add_le_add (sumF_le k fun i hi => e i (by omega)) (e k (by omega))
theorem sumF_congr {f h : Nat → Nat} : ∀ k, (∀ i, i < k → f i = h i) → sumF f k = sumF h k
  | 0, _ => rfl
  | k + 1, e => by show sumF f k + f k = sumF h k + h k; rw [sumF_congr k fun i hi => e i (by omega), e k (by omega)]
theorem sumF_mono (f : Nat → Nat) {k m : Nat} (h : k ≤ m) : sumF f k ≤ sumF f m := by
  induction h with
  | refl => exact Nat.le_refl _
  | step _ ih => exact Nat.le_trans ih (Nat.le_add_right _ _)
theorem sumF_add (f h : Nat → Nat) : ∀ k, sumF (fun i => f i + h i) k = sumF f k + sumF h k
  | 0 => rfl
  | k + 1 => by
    show sumF (fun i => f i + h i) k + (f k + h k) = sumF f k + f k + (sumF h k + h k)
    rw [sumF_add f h k]; omega
theorem sumF_mul (c : Nat) (f : Nat → Nat) : ∀ k, sumF (fun i => c * f i) k = c * sumF f k
  | 0 => rfl
  | k + 1 => by
    show sumF (fun i => c * f i) k + c * f k = c * (sumF f k + f k)
    rw [sumF_mul c f k, Nat.mul_add]
theorem sumF_const (c : Nat) : ∀ k, sumF (fun _ => c) k = k * c
  | 0 => by simp [sumF]
  | k + 1 => by
    show sumF (fun _ => c) k + c = (k + 1) * c
    rw [sumF_const c k, Nat.add_mul, Nat.one_mul]
/-- what the shares leave is made up by the remainders -/
theorem shares_sum {n t m : Nat} {x : Nat → Nat} (ht : t = sumF x m) : t * sumF (quoF n t x) m + sumF (remF n t x) m = n * t := by
  rw [← sumF_mul, ← sumF_add]
  rw [show sumF (fun i => t * quoF n t x i + remF n t x i) m = sumF (fun i => n * x i) m from sumF_congr m fun i _ => Nat.div_add_mod _ _]
  rw [sumF_mul, ← ht]
theorem shares_le {n t m : Nat} {x : Nat → Nat} (ht : t = sumF x m) (h0 : 0 < t) : sumF (quoF n t x) m ≤ n ∧ (n - sumF (quoF n t x) m) * t = sumF (remF n t x) m := by
  have h := shares_sum (n := n) ht
  have h1 : sumF (quoF n t x) m ≤ n := by
    have : t * sumF (quoF n t x) m ≤ n * t := by omega
    rw [Nat.mul_comm n] at this
    exact Nat.le_of_mul_le_mul_left this h0
  refine ⟨h1, ?_⟩
  rw [Nat.sub_mul, ← h, Nat.mul_comm (sumF _ _) t]
  omega
/-- fewer are left than there are strata -/
theorem left_lt {n t m : Nat} {x : Nat → Nat} (ht : t = sumF x m) (h0 : 0 < t) : n - sumF (quoF n t x) m < m := by
  obtain ⟨-, h⟩ := shares_le (n := n) ht h0
  have hm : 0 < m := by
    rcases Nat.eq_zero_or_pos m with e | e
    · subst e; rw [ht] at h0; exact absurd h0 (Nat.lt_irrefl 0)
    · exact e
  have hr : sumF (remF n t x) m ≤ m * (t - 1) := by
    have := sumF_le (f := remF n t x) (h := fun _ => t - 1) m fun i _ => by
      have : remF n t x i < t := Nat.mod_lt _ h0
      omega
    rwa [sumF_const] at this
  obtain ⟨u, hu⟩ : ∃ u, u = n - sumF (quoF n t x) m := ⟨_, rfl⟩
  rw [← hu] at h ⊢
  rcases Nat.lt_or_ge u m with c | c
  · exact c
  · have : m * t ≤ u * t := Nat.mul_le_mul_right _ c
    have e : m * (t - 1) + m = m * t := by
      conv => rhs; rw [show t = t - 1 + 1 by omega, Nat.mul_add, Nat.mul_one]
    omega
theorem quo_le {n t x : Nat} (h : n ≤ t) (h0 : 0 < t) : n * x / t ≤ x := by
  refine Nat.le_of_lt_succ ((Nat.div_lt_iff_lt_mul h0).2 ?_)
  have := Nat.mul_le_mul_right x h
  rw [Nat.succ_mul, Nat.mul_comm x]
  omega
/-- the sum over a rearrangement -/
theorem sumF_upto {f : Nat → Nat} {a m : Nat} (h : a < m) : ∀ (g : Nat → Nat), (∀ i, i < m → i ≠ a → g i = f i) → sumF g m + f a = sumF f m + g a := by
  intro g
  induction m with
  | zero => omega
  | succ m ih =>
    intro e
    show sumF g m + g m + f a = sumF f m + f m + g a
    by_cases c : a = m
    · subst c
      rw [sumF_congr a fun i hi => e i (by omega) (by omega)]; omega
    · have := ih (by omega) fun i hi hne => e i (by omega) hne
      rw [e m (by omega) (by omega)]; omega
/-- what each stratum gets: its share, and one more if its place in the order is early -/
def allotF (n t : Nat) (x τ : Nat → Nat) (left i : Nat) : Nat := quoF n t x i + if τ i < left then 1 else 0
end Go.Proofs.YtfkogbomijonjaaGreatDoor
namespace Go.Proofs.YtfkogbomijonjaaGreatDoor
open Go Go.RowKit Gu

theorem Tryz.infoU64 : (Tryz.prog.info? 57).map (fun i => (i.zero, i.size, i.bytes)) = some (some (.int .u64 0), 1, 8) := by kernel_rfl
theorem made_u64 (n : Nat) (h : n ≤ 1099511627776) : ∀ w, (Instr.makeSlice 56 (.int .i64 (n : Int)) (.int .i64 (n : Int))).run Tryz.prog w = .ok (.slice (some ⟨w.heap.size, 0, none⟩) n n) (w.alloc (.cells (madeCells #[.int .u64 0] n) 57)) := fun w => by
  have := run_make_row' (P := Tryz.prog) 56 57 (.int .u64 0) 8 Tryz.underlying56 Tryz.infoU64 rfl .i64 .i64 n (by omega) (by omega)
  exact this w
def encU (l : List Nat) : List Value := l.map fun x : Nat => .int .u64 (x : Int)
/-- the three rows and the box of a division of draws -/
structure AlS (W0 : World) (go C g2 g m : Nat) (fo fr fi : Nat → Nat) (w : World) : Prop where
  out : w.ownsRow W0.heap.size 3 1 (.slice (some ⟨go, 0, none⟩) m m) m (encN (fnL fo m))
  rst : w.ownsRow W0.heap.size 57 1 (.slice (some ⟨g2, 0, none⟩) m m) m (encU (fnL fr m))
  ord : w.ownsRow W0.heap.size 3 1 (.slice (some ⟨g, 0, none⟩) m m) m (encN (fnL fi m))
  box : w.cell? ⟨C, 0, none⟩ = some (.slice (some ⟨g2, 0, none⟩) m m)
  bc : W0.heap.size ≤ C
  blw : Below W0.heap.size W0 w
  n1 : go ≠ C
  n2 : go ≠ g2
  n3 : go ≠ g
  n4 : C ≠ g2
  n5 : C ≠ g
  n6 : g2 ≠ g
theorem encU_put (l : List Nat) (j x : Nat) : (encU l).set j (.int .u64 (x : Int)) = encU (l.set j x) := by
  unfold encU; rw [List.map_set]
section
variable {W0 : World} {go C g2 g m : Nat} {fo fr fi : Nat → Nat} {w : World}
theorem AlS.co (h : AlS W0 go C g2 g m fo fr fi w) {j : Nat} (hj : j < m) : w.cell? ⟨go, j, none⟩ = some (.int .i64 (fo j : Int)) := by
  rw [h.out.cellAt j (by omega)]; unfold encN; rw [List.getElem?_map, fnL_at fo hj]; rfl
theorem AlS.ci (h : AlS W0 go C g2 g m fo fr fi w) {j : Nat} (hj : j < m) : w.cell? ⟨g, j, none⟩ = some (.int .i64 (fi j : Int)) := by
  rw [h.ord.cellAt j (by omega)]; unfold encN; rw [List.getElem?_map, fnL_at fi hj]; rfl
theorem AlS.cr (h : AlS W0 go C g2 g m fo fr fi w) {j : Nat} (hj : j < m) : w.cell? ⟨g2, j, none⟩ = some (.int .u64 (fr j : Int)) := by
  rw [h.rst.cellAt j (by omega)]; unfold encU; rw [List.getElem?_map, fnL_at fr hj]; rfl
theorem far_row {B b g : Nat} {e : TypeId} {xs : List Value} (h : w.ownsRow B e 1 (.slice (some ⟨g, 0, none⟩) m m) m xs) (hne : g ≠ b) (j : Nat) (u : Value) : (w.setCell ⟨b, j, none⟩ u).ownsRow B e 1 (.slice (some ⟨g, 0, none⟩) m m) m xs :=
  h.kept (grownBy_setCell w b j u) (.inr (by intro e; injection e with e; exact hne e))
theorem far_box {a b : Nat} {v : Value} (h : w.cell? ⟨a, 0, none⟩ = some v) (hne : a ≠ b) (j : Nat) (u : Value) : (w.setCell ⟨b, j, none⟩ u).cell? ⟨a, 0, none⟩ = some v :=
  (World.cell?_setCell_other _ _ _ _ (by intro e; injection e with e; exact hne e.symm)).trans h
theorem AlS.base (h : AlS W0 go C g2 g m fo fr fi w) : W0.heap.size ≤ go ∧ W0.heap.size ≤ g2 ∧ W0.heap.size ≤ g :=
  ⟨(h.out.lt go rfl).1, (h.rst.lt g2 rfl).1, (h.ord.lt g rfl).1⟩
theorem AlS.so (h : AlS W0 go C g2 g m fo fr fi w) (j v : Nat) : AlS W0 go C g2 g m (upd1 fo j v) fr fi (w.setCell ⟨go, j, none⟩ (.int .i64 (v : Int))) := by
  obtain ⟨h1, h2, h3, h4, h5, h6, n1, n2, n3, n4, n5, n6⟩ := h
  exact ⟨by rw [← fnL_set, ← encN_put]; exact (h1.stored j _).1, far_row h2 n2.symm _ _, far_row h3 n3.symm _ _, far_box h4 n1.symm _ _, h5, h6.setCell (h1.lt go rfl).1 _, n1, n2, n3, n4, n5, n6⟩
theorem AlS.sr (h : AlS W0 go C g2 g m fo fr fi w) (j v : Nat) : AlS W0 go C g2 g m fo (upd1 fr j v) fi (w.setCell ⟨g2, j, none⟩ (.int .u64 (v : Int))) := by
  obtain ⟨h1, h2, h3, h4, h5, h6, n1, n2, n3, n4, n5, n6⟩ := h
  exact ⟨far_row h1 n2 _ _, by rw [← fnL_set, ← encU_put]; exact (h2.stored j _).1, far_row h3 n6.symm _ _, far_box h4 n4 _ _, h5, h6.setCell (h2.lt g2 rfl).1 _, n1, n2, n3, n4, n5, n6⟩
theorem AlS.si (h : AlS W0 go C g2 g m fo fr fi w) (j v : Nat) : AlS W0 go C g2 g m fo fr (upd1 fi j v) (w.setCell ⟨g, j, none⟩ (.int .i64 (v : Int))) := by
  obtain ⟨h1, h2, h3, h4, h5, h6, n1, n2, n3, n4, n5, n6⟩ := h
  exact ⟨far_row h1 n3 _ _, far_row h2 n6 _ _, by rw [← fnL_set, ← encN_put]; exact (h3.stored j _).1, far_box h4 n5 _ _, h5, h6.setCell (h3.lt g rfl).1 _, n1, n2, n3, n4, n5, n6⟩
theorem AlS.dr (h : AlS W0 go C g2 g m fo fr fi w) (k : Nat) : AlS W0 go C g2 g m fo fr fi (w.drewN k) := by
  obtain ⟨h1, h2, h3, h4, h5, h6, n1, n2, n3, n4, n5, n6⟩ := h
  exact ⟨h1, h2, h3, h4, h5, below_drewM h6 k, n1, n2, n3, n4, n5, n6⟩
theorem AlS.congr (h : AlS W0 go C g2 g m fo fr fi w) {fo' fr' fi' : Nat → Nat} (e1 : ∀ x, x < m → fo x = fo' x) (e2 : ∀ x, x < m → fr x = fr' x) (e3 : ∀ x, x < m → fi x = fi' x) : AlS W0 go C g2 g m fo' fr' fi' w := by
  obtain ⟨h1, h2, h3, h4, h5, h6, n1, n2, n3, n4, n5, n6⟩ := h
  exact ⟨by rw [← fnL_congr e1]; exact h1, by rw [← fnL_congr e2]; exact h2, by rw [← fnL_congr e3]; exact h3, h4, h5, h6, n1, n2, n3, n4, n5, n6⟩
end
/-- the rows beside the one that is sorted -/
structure AlQ (W0 : World) (go C g2 m : Nat) (fo fr : Nat → Nat) (w : World) : Prop where
  out : w.ownsRow W0.heap.size 3 1 (.slice (some ⟨go, 0, none⟩) m m) m (encN (fnL fo m))
  rst : w.ownsRow W0.heap.size 57 1 (.slice (some ⟨g2, 0, none⟩) m m) m (encU (fnL fr m))
  box : w.cell? ⟨C, 0, none⟩ = some (.slice (some ⟨g2, 0, none⟩) m m)
  blw : Below W0.heap.size W0 w
theorem AlQ.sq {W0 : World} {go C g2 g m : Nat} {fo fr : Nat → Nat} (h : W0.heap.size ≤ g) (n3 : go ≠ g) (n5 : C ≠ g) (n6 : g2 ≠ g) : SQ (AlQ W0 go C g2 m fo fr) g :=
  ⟨fun _ k ⟨h1, h2, h3, h4⟩ => ⟨h1, h2, h3, below_drewM h4 k⟩, fun _ _ _ ⟨h1, h2, h3, h4⟩ => ⟨far_row h1 n3 _ _, far_row h2 n6 _ _, far_box h3 n5 _ _, h4.setCell h _⟩⟩
theorem AlS.row {W0 : World} {go C g2 g m : Nat} {fo fr fi : Nat → Nat} {w : World} (h : AlS W0 go C g2 g m fo fr fi w) : RowF (AlQ W0 go C g2 m fo fr) W0.heap.size g m m fi w := ⟨⟨h.out, h.rst, h.box, h.blw⟩, h.ord⟩
theorem AlS.of_row {W0 : World} {go C g2 g m : Nat} {fo fr fi fj : Nat → Nat} {w w' : World} (h : AlS W0 go C g2 g m fo fr fi w) (h2 : RowF (AlQ W0 go C g2 m fo fr) W0.heap.size g m m fj w') : AlS W0 go C g2 g m fo fr fj w' :=
  ⟨h2.1.out, h2.1.rst, h2.2, h2.1.box, h.bc, h2.1.blw, h.n1, h.n2, h.n3, h.n4, h.n5, h.n6⟩
theorem AlQ.rq {W0 : World} {go C g2 m : Nat} {fo fr : Nat → Nat} {w : World} (h : AlQ W0 go C g2 m fo fr w) : RestQ C g2 m fr w :=
  ⟨⟨m, h.box⟩, fun j hj => by rw [h.rst.cellAt j (by omega)]; unfold encU; rw [List.getElem?_map, fnL_at fr hj]; rfl⟩
/-- the draws of the strata -/
def AlK (n t m : Nat) (x : Nat → Nat) (L : List Nat) : Prop := ∃ s τ : Nat → Nat, (∀ i, s (τ i) = i) ∧ (∀ i, τ (s i) = i) ∧ (∀ i, i < m → s i < m) ∧ (∀ i, i < m → τ i < m) ∧ SortedF (RestR (remF n t x)) 0 m s ∧ L = fnL (allotF n t x τ (n - sumF (quoF n t x) m)) m
theorem allotF_step {n t : Nat} {x s τ : Nat → Nat} (h1 : ∀ i, s (τ i) = i) (h2 : ∀ i, τ (s i) = i) (j i : Nat) : upd1 (allotF n t x τ j) (s j) (quoF n t x (s j) + 1) i = allotF n t x τ (j + 1) i := by
  unfold upd1 allotF
  by_cases e : i = s j
  · rw [if_pos e, e, h2, if_pos (Nat.lt_succ_self j)]
  · have : τ i ≠ j := fun h => e (by rw [← h, h1])
    rw [if_neg e]
    by_cases c : τ i < j
    · rw [if_pos c, if_pos (by omega)]
    · rw [if_neg c, if_neg (by omega)]
/-- a function below i, and 0 from there on -/
def cutF (f : Nat → Nat) (i : Nat) : Nat → Nat := fun j => if j < i then f j else 0
theorem cutF_step (f : Nat → Nat) (i x : Nat) : upd1 (cutF f i) i (f i) x = cutF f (i + 1) x := by
  unfold upd1 cutF
  repeat' split
  all_goals first | rfl | omega | exact congrArg f (by omega)
theorem row_of_heap {w : World} {base g m : Nat} {e : TypeId} {cur : Array Value} {xs : List Value} (hb : base ≤ g) (h : w.heap[g]? = some (.cells cur e)) (hs : cur.toList = xs) (hl : xs.length = m) (hm : m ≤ maxLen) : w.ownsRow base e 1 (.slice (some ⟨g, 0, none⟩) m m) m xs := by
  have hc : cur.size = m := by rw [← hl, ← hs]; simp
  refine ⟨by rw [hl, Nat.mul_one], .inr ⟨g, m, cur, rfl, hb, h, Nat.le_refl _, hm, by rw [hc, Nat.mul_one], ?_⟩⟩
  rw [hs, Nat.mul_one, List.take_of_length_le (by rw [hl]; exact Nat.le_refl _)]
theorem made_zero (k : IntKind) (m : Nat) : (madeCells #[.int k 0] m).toList = (fnL (fun _ => 0) m).map fun x : Nat => .int k (x : Int) := by
  unfold madeCells fnL
  simp
  intro a _
  rw [Nat.mod_one]; rfl
theorem AlS.start {W0 w : World} {C g2 g m : Nat} (hm : m ≤ 64) (h1 : w.heap[W0.heap.size]? = some (.cells (madeCells #[.int .i64 0] m) 3)) (h2 : w.heap[g2]? = some (.cells (madeCells #[.int .u64 0] m) 57)) (h3 : w.heap[g]? = some (.cells (madeCells #[.int .i64 0] m) 3))
    (h4 : w.cell? ⟨C, 0, none⟩ = some (.slice (some ⟨g2, 0, none⟩) m m)) (hb : Below W0.heap.size W0 w) (a1 : W0.heap.size < C) (a2 : W0.heap.size < g2) (a3 : W0.heap.size < g) (n4 : C ≠ g2) (n5 : C ≠ g) (n6 : g2 ≠ g) : AlS W0 W0.heap.size C g2 g m (fun _ => 0) (fun _ => 0) (fun _ => 0) w := by
  have hml : m ≤ maxLen := by unfold maxLen; omega
  exact ⟨row_of_heap (Nat.le_refl _) h1 (made_zero _ _) (by simp [fnL, encN]) hml, row_of_heap (by omega) h2 (made_zero _ _) (by simp [fnL, encU]) hml, row_of_heap (by omega) h3 (made_zero _ _) (by simp [fnL, encN]) hml, h4, by omega, hb, by omega, by omega, by omega, n4, n5, n6⟩
theorem alloc3 (w : World) (o1 o2 o3 : Obj) : (((w.alloc o1).alloc o2).alloc o3).drew.heap[w.heap.size]? = some o1 ∧ (((w.alloc o1).alloc o2).alloc o3).drew.heap[w.heap.size + 1]? = some o2 ∧ (((w.alloc o1).alloc o2).alloc o3).drew.heap[w.heap.size + 1 + 1]? = some o3 ∧ ∀ j, j < w.heap.size → (((w.alloc o1).alloc o2).alloc o3).drew.heap[j]? = w.heap[j]? := by
  have e : (((w.alloc o1).alloc o2).alloc o3).drew.heap = ((w.heap.push o1).push o2).push o3 := rfl
  rw [e]
  refine ⟨?_, ?_, ?_, fun j hj => ?_⟩
  · rw [Array.getElem?_push, if_neg (by simp; omega), Array.getElem?_push, if_neg (by simp), Array.getElem?_push, if_pos rfl]
  · rw [Array.getElem?_push, if_neg (by simp), Array.getElem?_push, if_pos (by simp)]
  · rw [Array.getElem?_push, if_pos (by simp)]
  · rw [Array.getElem?_push, Array.getElem?_push, Array.getElem?_push]
    simp; rw [if_neg (by omega), if_neg (by omega), if_neg (by omega)]
theorem box_of_heap {w : World} {C : Nat} {v : Value} {e : TypeId} (h : w.heap[C]? = some (.cells #[v] e)) : w.cell? ⟨C, 0, none⟩ = some v := by
  rw [cell_of_row w C 0 #[v] e (0, 0) h]; rfl
theorem alloc3_below {B : Nat} {W0 w : World} (h : Below B W0 w) (hB : B ≤ w.heap.size) (o1 o2 o3 : Obj) : Below B W0 (((w.alloc o1).alloc o2).alloc o3).drew :=
  Below.drew (((h.alloc hB o1).alloc (by rw [World.size_alloc]; omega) o2).alloc (by rw [World.size_alloc, World.size_alloc]; omega) o3)
set_option maxRecDepth 100000 in
set_option maxHeartbeats 2000000 in
theorem allot_walk {n t m : Nat} {x : Nat → Nat} {ao : Option Addr} {c : Nat} {W : World} (hv : IsZs W (.slice ao m c) (fnL x m)) (hm : m ≤ 64) (h0 : 0 < t) (hn : n ≤ t) (ht : t = sumF x m) (hx : ∀ i, i < m → x i ≤ 1099511627776) :
    Calls Tryz.prog 12 #[.int .i64 n, .int .i64 t,   .slice ao m c] W fun e w' => ∃ (a : Option Addr) (L : List Nat), e = .returned (.slice a m m) ∧ Hid (AlK n t m x L) ∧ Hid (w'.ownsRow W.heap.size 3 1 (.slice a m m) m (encN L)) ∧ Hid (Below W.heap.size W w') := by
  have hmk := made_int m (by omega)
  have hmk2 := made_u64 m (by omega)
  have hz : ((t : Int) == 0) = false := beq_eq_false_iff_ne.2 (by omega)
  have hz1 : ¬ (t : Int) = 0 := by omega
  obtain ⟨w1, HW1⟩ : ∃ w, w = W.alloc (.cells (madeCells #[.int .i64 0] m) 3) := ⟨_, rfl⟩
  have HW1' := Lib.hid HW1
  have HS1 : Hid (w1.heap.size = W.heap.size + 1) := by rw [HW1]; exact World.size_alloc _ _
  have HO1 : Hid (w1.heap[W.heap.size]? = some (.cells (madeCells #[.int .i64 0] m) 3)) := by rw [HW1]; exact heap_alloc_new W _
  have HB1 : Hid (Below W.heap.size W w1) := by rw [HW1]; exact (Below.refl _ W).alloc (Nat.le_refl _) _
  have HV := Lib.hid hv; have HT := Lib.hid ht; have HX := Lib.hid hx
  clear HW1 hv ht hx
  go_enter Tryz.func12, Tryz.ntmps12
  go_upto_region 2 with fail
  rw [← HW1'.out]
  go_upto_region 4 with fail
  go_cut [8, 9] from 25 to 30 (fun v8 v9 wz => ∃ C g2 g : Nat, v8 = .pointer (some ⟨C, 0, none⟩) ∧ v9 = .slice (some ⟨g, 0, none⟩) m m ∧ Hid (AlS W W.heap.size C g2 g m (fun _ => 0) (fun _ => 0) (fun _ => 0) wz))
  case first =>
    go_region
    all_goals go_wp2_with fail
    all_goals go_meet
    all_goals clear HW1' HV HT HX hmk hmk2
    all_goals have hs1 := HS1.out
    all_goals have hb3 := alloc3_below HB1.out (by omega)
    all_goals first
      | exact ⟨w1.heap.size + 1 + 1, w1.heap.size, w1.heap.size + 1, rfl, rfl, AlS.start hm (((alloc3 w1 _ _ _).2.2.2 _ (by omega)).trans HO1.out) (alloc3 w1 _ _ _).1 (alloc3 w1 _ _ _).2.1 (box_of_heap (alloc3 w1 _ _ _).2.2.1) (hb3 _ _ _) (by omega) (by omega) (by omega) (by omega) (by omega) (by omega)⟩
      | exact ⟨w1.heap.size + 1, w1.heap.size, w1.heap.size + 1 + 1, rfl, rfl, AlS.start hm (((alloc3 w1 _ _ _).2.2.2 _ (by omega)).trans HO1.out) (alloc3 w1 _ _ _).1 (alloc3 w1 _ _ _).2.2.1 (box_of_heap (alloc3 w1 _ _ _).2.1) (hb3 _ _ _) (by omega) (by omega) (by omega) (by omega) (by omega) (by omega)⟩
      | exact ⟨w1.heap.size + 1 + 1, w1.heap.size + 1, w1.heap.size, rfl, rfl, AlS.start hm (((alloc3 w1 _ _ _).2.2.2 _ (by omega)).trans HO1.out) (alloc3 w1 _ _ _).2.1 (alloc3 w1 _ _ _).1 (box_of_heap (alloc3 w1 _ _ _).2.2.1) (hb3 _ _ _) (by omega) (by omega) (by omega) (by omega) (by omega) (by omega)⟩
      | exact ⟨w1.heap.size + 1, w1.heap.size + 1 + 1, w1.heap.size, rfl, rfl, AlS.start hm (((alloc3 w1 _ _ _).2.2.2 _ (by omega)).trans HO1.out) (alloc3 w1 _ _ _).2.2.1 (alloc3 w1 _ _ _).1 (box_of_heap (alloc3 w1 _ _ _).2.1) (hb3 _ _ _) (by omega) (by omega) (by omega) (by omega) (by omega) (by omega)⟩
      | exact ⟨w1.heap.size, w1.heap.size + 1, w1.heap.size + 1 + 1, rfl, rfl, AlS.start hm (((alloc3 w1 _ _ _).2.2.2 _ (by omega)).trans HO1.out) (alloc3 w1 _ _ _).2.1 (alloc3 w1 _ _ _).2.2.1 (box_of_heap (alloc3 w1 _ _ _).1) (hb3 _ _ _) (by omega) (by omega) (by omega) (by omega) (by omega) (by omega)⟩
      | exact ⟨w1.heap.size, w1.heap.size + 1 + 1, w1.heap.size + 1, rfl, rfl, AlS.start hm (((alloc3 w1 _ _ _).2.2.2 _ (by omega)).trans HO1.out) (alloc3 w1 _ _ _).2.2.1 (alloc3 w1 _ _ _).2.1 (box_of_heap (alloc3 w1 _ _ _).1) (hb3 _ _ _) (by omega) (by omega) (by omega) (by omega) (by omega) (by omega)⟩
  case rest =>
    obtain ⟨C, g2, g, rfl, rfl, HA⟩ := hcut
    clear HW1' HO1 HB1 HS1 hmk hmk2
    have HMU : Hid (∀ a b W', a < 18446744073709551616 → b < 18446744073709551616 → Calls Tryz.prog 22 #[.int .u64 (a : Nat), .int .u64 (b : Nat)] W' fun e w' => e = .returned (.tuple #[.int .u64 ((a * b / 18446744073709551616 : Nat) : Int), .int .u64 ((a * b % 18446744073709551616 : Nat) : Int)]) ∧ W' = w') := fun a b W' h1 h2 =>
      (Tryz.bits_Mul64 a b h1 h2 W').mono fun e w' ⟨h3, h4⟩ => ⟨h3, h4.symm⟩
    have HA0 : Hid (AlS W W.heap.size C g2 g m (cutF (quoF n t x) 0) (cutF (remF n t x) 0) (cutF id 0) wc) := HA.out.congr (fun _ _ => by simp [cutF]) (fun _ _ => by simp [cutF]) (fun _ _ => by simp [cutF])
    obtain ⟨w2, hw2⟩ : ∃ w, w = wc := ⟨_, rfl⟩
    subst hw2
    clear HA
    have htb : t ≤ 70368744177664 := by
      rw [HT.out]
      have := sumF_le (f := x) (h := fun _ => 1099511627776) m HX.out
      rw [sumF_const] at this
      omega
    have HSL := Lib.hid (shares_le (n := n) HT.out h0)
    go_wp2_with fail
    go_loopw [10, 11, 12, 13, 14, 15, 16, 34] (fun l _ _ _ _ _ _ k wr => ∃ (i lf : Nat), i ≤ m ∧ lf ≤ n ∧ k = .int .i64 i ∧ l = .int .i64 lf ∧ Hid (lf + sumF (quoF n t x) i = n) ∧ Hid (AlS W W.heap.size C g2 g m (cutF (quoF n t x) i) (cutF (remF n t x) i) (cutF id i) wr)) (fun _ _ _ _ _ _ _ k _ => m - (intOf k).toNat)
    case atStart => exact ⟨0, n, Nat.zero_le _, Nat.le_refl _, rfl, rfl, rfl, HA0⟩
    case round =>
      obtain ⟨i, lf, him, hlf, rfl, rfl, HL, HA⟩ := hrel
      by_cases q : i < m
      · have q1 : (i : Int) < m := by omega
        have hw : IntKind.i64.wrap ((i : Int) + 1) = ((i + 1 : Nat) : Int) := by rw [IntWalk.i64_in _ (by omega)]; omega
        obtain ⟨Bx, o, e1, d0⟩ := (HV.out.below HA.out.blw).at' (j := i) (by rw [fnL_len]; exact q)
        have hxl : (fnL x m)[i]'(by rw [fnL_len]; exact q) = x i := by simp [fnL]
        rw [hxl] at d0
        obtain ⟨y, hy⟩ : ∃ y, y = x i := ⟨_, rfl⟩
        have hyb : y ≤ 1099511627776 := by rw [hy]; exact HX.out i q
        rw [← hy] at d0
        subst e1
        obtain ⟨P, hP⟩ : ∃ P, P = n * y := ⟨_, rfl⟩
        obtain ⟨ph, hph⟩ : ∃ p, p = P / 18446744073709551616 := ⟨_, rfl⟩
        obtain ⟨pl, hpl⟩ : ∃ p, p = P % 18446744073709551616 := ⟨_, rfl⟩
        have hPt : P < 18446744073709551616 * t := by
          rw [hP, Nat.mul_comm]
          exact Nat.lt_of_le_of_lt (Nat.mul_le_mul_left _ hn) (Nat.mul_lt_mul_of_pos_right (by omega) h0)
        have HMU1 := Lib.hid (HMU.out n y wr (by omega) (by omega))
        rw [← hP, ← hph, ← hpl] at HMU1
        have hsum : ph * 18446744073709551616 + pl = P := by omega
        obtain ⟨sh, hsh⟩ : ∃ p, p = P / t := ⟨_, rfl⟩
        obtain ⟨rs, hrs⟩ : ∃ p, p = P % t := ⟨_, rfl⟩
        have HDV := Lib.hid (Div64_any (hi := ph) (lo := pl) (y := t) (W := wr) (by omega) (by omega) (by omega))
        rw [hsum, ← hsh, ← hrs] at HDV
        have hshq : sh = quoF n t x i := by rw [hsh, hP, hy]; rfl
        have hrsq : rs = remF n t x i := by rw [hrs, hP, hy]; rfl
        have hshy : sh ≤ y := by rw [hsh, hP]; exact quo_le hn h0
        have hrst : rs < t := by rw [hrs]; exact Nat.mod_lt _ h0
        have c1 : IntKind.u64.wrap (n : Int) = (n : Int) := by rw [wrap_u64]; omega
        have c2 : IntKind.u64.wrap (y : Int) = (y : Int) := by rw [wrap_u64]; omega
        have c3 : IntKind.u64.wrap (t : Int) = (t : Int) := by rw [wrap_u64]; omega
        have c4 : IntKind.i64.wrap (sh : Int) = (sh : Int) := IntWalk.i64_in _ (by omega)
        have hslf : sh ≤ lf := by
          have h1 := HSL.out.1
          have h2 := sumF_mono (quoF n t x) (show i + 1 ≤ m from q)
          have h3 : sumF (quoF n t x) (i + 1) = sumF (quoF n t x) i + sh := by rw [hshq]; rfl
          have h4 := HL.out
          omega
        obtain ⟨l2, hl2⟩ : ∃ z, z = lf - sh := ⟨_, rfl⟩
        have c5 : IntKind.i64.wrap ((lf : Int) - (sh : Int)) = (l2 : Int) := by rw [IntWalk.i64_in _ (by omega)]; omega
        have HL2 : Hid (l2 + sumF (quoF n t x) (i + 1) = n) := by
          have h3 : sumF (quoF n t x) (i + 1) = sumF (quoF n t x) i + sh := by rw [hshq]; rfl
          have h4 := HL.out
          show _ = _
          omega
        have hl2n : l2 ≤ n := by omega
        have HSQ := Lib.hid hshq; have HRQ := Lib.hid hrsq
        clear hy hP hph hpl hPt hsum hsh hrs hshq hrsq hxl hl2 hslf
        go_wp2_with fail
        refine HMU1.out.mono ?_
        rintro _ w3 ⟨rfl, rfl⟩
        go_wp2_with fail
        refine HDV.out.mono ?_
        rintro _ w4 ⟨rfl, nq, hnq⟩
        have HA4 : Hid (AlS W W.heap.size C g2 g m (cutF (quoF n t x) i) (cutF (remF n t x) i) (cutF id i) w4) := by rw [hnq]; exact HA.out.dr nq
        clear hnq HA d0 HMU1 HDV
        go_upto_region 11 with fail
        go_cut [] from 55 to 67 (fun wz => Hid (AlS W W.heap.size C g2 g m (cutF (quoF n t x) (i + 1)) (cutF (remF n t x) (i + 1)) (cutF id (i + 1)) wz))
        case first =>
          have hd1 := HA4.out.n1; have hd2 := HA4.out.n2; have hd3 := HA4.out.n3; have hd4 := HA4.out.n4; have hd5 := HA4.out.n5; have hd6 := HA4.out.n6
          have hd1s := hd1.symm; have hd2s := hd2.symm; have hd3s := hd3.symm; have hd4s := hd4.symm; have hd5s := hd5.symm; have hd6s := hd6.symm
          obtain ⟨z1, hz1'⟩ : ∃ z : Value, z = .int .i64 (cutF (quoF n t x) i i : Int) := ⟨_, rfl⟩
          obtain ⟨z2, hz2'⟩ : ∃ z : Value, z = .int .u64 (cutF (remF n t x) i i : Int) := ⟨_, rfl⟩
          obtain ⟨z3, hz3'⟩ : ∃ z : Value, z = .int .i64 (cutF id i i : Int) := ⟨_, rfl⟩
          have k1 : w4.cell? ⟨W.heap.size, i, none⟩ = some z1 := by rw [hz1']; exact HA4.out.co q
          have k2 : w4.cell? ⟨g2, i, none⟩ = some z2 := by rw [hz2']; exact HA4.out.cr q
          have k3 : w4.cell? ⟨g, i, none⟩ = some z3 := by rw [hz3']; exact HA4.out.ci q
          have k4 := HA4.out.box
          have k5 : w4.frozen? ⟨W.heap.size, i, none⟩ = false := HA4.out.out.frozenAt i
          have k6 : w4.frozen? ⟨g2, i, none⟩ = false := HA4.out.rst.frozenAt i
          have k7 : w4.frozen? ⟨g, i, none⟩ = false := HA4.out.ord.frozenAt i
          have k8 : w4.drew.cell? ⟨W.heap.size, i, none⟩ = some z1 := k1
          have k9 : w4.drew.cell? ⟨g2, i, none⟩ = some z2 := k2
          have k10 : w4.drew.cell? ⟨g, i, none⟩ = some z3 := k3
          have k11 : w4.drew.cell? ⟨C, 0, none⟩ = some (.slice (some ⟨g2, 0, none⟩) m m) := k4
          have k12 : w4.drew.frozen? ⟨W.heap.size, i, none⟩ = false := k5
          have k13 : w4.drew.frozen? ⟨g2, i, none⟩ = false := k6
          have k14 : w4.drew.frozen? ⟨g, i, none⟩ = false := k7
          have HST : Hid (∀ w, AlS W W.heap.size C g2 g m (upd1 (cutF (quoF n t x) i) i sh) (upd1 (cutF (remF n t x) i) i rs) (upd1 (cutF id i) i i) w → AlS W W.heap.size C g2 g m (cutF (quoF n t x) (i + 1)) (cutF (remF n t x) (i + 1)) (cutF id (i + 1)) w) := fun w h =>
            h.congr (fun z _ => by rw [HSQ.out]; exact cutF_step _ _ _) (fun z _ => by rw [HRQ.out]; exact cutF_step _ _ _) (fun z _ => cutF_step id i z)
          clear hz1' hz2' hz3' HMU HV HT HX HSL HL HL2 HSQ HRQ
          go_region
          all_goals go_wp2_with fail
          all_goals go_meet
          all_goals first
            | exact HST.out _ ((((HA4.out.so i sh).sr i rs).si i i).dr 1)
            | exact HST.out _ ((((HA4.out.so i sh).si i i).sr i rs).dr 1)
            | exact HST.out _ ((((HA4.out.sr i rs).so i sh).si i i).dr 1)
            | exact HST.out _ ((((HA4.out.sr i rs).si i i).so i sh).dr 1)
            | exact HST.out _ ((((HA4.out.si i i).so i sh).sr i rs).dr 1)
            | exact HST.out _ ((((HA4.out.si i i).sr i rs).so i sh).dr 1)
        case rest =>
          obtain ⟨w5, hw5'⟩ : ∃ w, w = wc := ⟨_, rfl⟩
          subst hw5'
          have HA5 := hcut
          clear hcut HA4
          have k1 : w5.cell? ⟨W.heap.size, i, none⟩ = some (.int .i64 (sh : Int)) := by
            have := HA5.out.co q
            rw [show cutF (quoF n t x) (i + 1) i = sh by unfold cutF; rw [if_pos (Nat.lt_succ_self i), HSQ.out]] at this
            exact this
          go_wp2_with fail
          go_roundw
          case rel => exact ⟨i + 1, l2, q, hl2n, by go_num, rfl, HL2, HA5⟩
          case measure => simp [intOf]; omega
      · obtain rfl : i = m := by omega
        have q1 : ¬ (i : Int) < i := by omega
        have hlm : lf < i := by
          have := left_lt (n := n) HT.out h0
          have := HL.out
          omega
        have HLF : Hid (lf = n - sumF (quoF n t x) i) := by have := HL.out; show _ = _; omega
        have HA5 : Hid (AlS W W.heap.size C g2 g i (quoF n t x) (remF n t x) id wr) := HA.out.congr (fun z hz => by unfold cutF; rw [if_pos hz]) (fun z hz => by unfold cutF; rw [if_pos hz]) (fun z hz => by unfold cutF; rw [if_pos hz])
        have HSO := Lib.hid (SortStable_any (C := C) (cap := i) (R := RestR (remF n t x)) (AlQ.sq HA5.out.base.2.2 HA5.out.n3 HA5.out.n5 HA5.out.n6) (RestR.ord _) (less_any (r := remF n t x) fun w h => h.rq) (fun a b h _ => cmpW_neg h) (by omega) HA5.out.row)
        clear HA
        go_wp2_with fail
        refine HSO.out.mono ?_
        rintro _ w5 ⟨rfl, H5⟩
        obtain ⟨s, hp, hs, hr⟩ := H5.out
        obtain ⟨s', τ, p1, p2, p3, p4⟩ := id hp
        obtain rfl : s = s' := funext fun z => by rw [p4]; rfl
        have HP1 := Lib.hid p1; have HP2 := Lib.hid p2; have HSR := Lib.hid hs
        have HSM : Hid (∀ z, z < i → s z < i) := hp.lt
        have HTM : Hid (∀ z, z < i → τ z < i) := fun z hz => by
          rcases Nat.lt_or_ge (τ z) i with c | c
          · exact c
          · have e := p3 (τ z) (by omega)
            rw [p1] at e; omega
        have HA6 : Hid (AlS W W.heap.size C g2 g i (allotF n t x τ 0) (remF n t x) s w5) := (HA5.out.of_row hr).congr (fun z _ => by unfold allotF; rw [if_neg (Nat.not_lt_zero _), Nat.add_zero]) (fun _ _ => rfl) (fun _ _ => rfl)
        have hlf2 : (lf : Int) ≤ i := by omega
        have hlf3 : (0 : Int) ≤ (lf : Int) := by omega
        clear H5 hp hs hr p1 p2 p3 p4 HSO HA5
        go_wp2_with fail
        go_loopw [18, 82] (fun _ k wr => ∃ j : Nat, j ≤ lf ∧ k = .int .i64 j ∧ Hid (AlS W W.heap.size C g2 g i (allotF n t x τ j) (remF n t x) s wr)) (fun _ k _ => lf - (intOf k).toNat)
        case atStart => exact ⟨0, Nat.zero_le _, rfl, HA6⟩
        case round =>
          obtain ⟨j, hj, rfl, HA⟩ := hrel
          by_cases q : j < lf
          · have q2 : (j : Int) < lf := by omega
            have hw : IntKind.i64.wrap ((j : Int) + 1) = ((j + 1 : Nat) : Int) := by rw [IntWalk.i64_in _ (by omega)]; omega
            obtain ⟨k, hk⟩ : ∃ k, k = s j := ⟨_, rfl⟩
            have hki : k < i := by rw [hk]; exact HSM.out j (by omega)
            have hki2 : (k : Int) < i := by omega
            have c0 := HA.out.ci (j := j) (by omega)
            rw [← hk] at c0
            obtain ⟨v, hv⟩ : ∃ v, v = allotF n t x τ j k := ⟨_, rfl⟩
            have hv2 : v = quoF n t x k := by rw [hv]; unfold allotF; rw [hk, HP2.out, if_neg (Nat.lt_irrefl j), Nat.add_zero]
            have hvb : v ≤ 1099511627776 := by rw [hv2]; exact Nat.le_trans (quo_le hn h0) (HX.out k hki)
            have c1 := HA.out.co (j := k) hki
            rw [← hv] at c1
            have f1 := HA.out.out.frozenAt k
            obtain ⟨v', hv'⟩ : ∃ z, z = v + 1 := ⟨_, rfl⟩
            have hwv : IntKind.i64.wrap ((v : Int) + 1) = (v' : Int) := by rw [IntWalk.i64_in _ (by omega)]; omega
            have HN : Hid (AlS W W.heap.size C g2 g i (allotF n t x τ (j + 1)) (remF n t x) s (wr.setCell ⟨W.heap.size, k, none⟩ (.int .i64 (v' : Int)))) :=
              (HA.out.so k v').congr (fun z _ => by rw [hv', hv2, hk]; exact allotF_step HP1.out HP2.out j z) (fun _ _ => rfl) (fun _ _ => rfl)
            clear hk hv hv2 hv'
            go_wp2_with fail
            go_roundw
            case rel => exact ⟨j + 1, q, by go_num, HN⟩
            case measure => simp [intOf]; omega
          · obtain rfl : j = lf := by omega
            have q2 : ¬ (j : Int) < j := by omega
            have HK : Hid (AlK n t i x (fnL (allotF n t x τ j) i)) := ⟨s, τ, HP1.out, HP2.out, HSM.out, HTM.out, HSR.out, by rw [HLF.out]⟩
            go_wp2_with fail
            go_ret
            exact ⟨some ⟨W.heap.size, 0, none⟩, rfl, _, HK, HA.out.out, HA.out.blw⟩
end Go.Proofs.YtfkogbomijonjaaGreatDoor
namespace Go.Proofs.YtfkogbomijonjaaGreatDoor
open Go Go.RowKit Gu

/-- a list of ints lies at a slice -/
def IsIs (W : World) (v : Value) (l : List Int) : Prop :=
  ∃ ao c, v = .slice ao l.length c ∧ (0 < l.length → ∃ B o, ao = some ⟨B, o, none⟩ ∧ B < W.heap.size ∧ ∀ j (h : j < l.length), W.cell? ⟨B, o + j, none⟩ = some (.int .i64 l[j]))
theorem IsIs.below {W W' : World} {v : Value} {l : List Int} (h : IsIs W v l) (hb : Below W.heap.size W W') : IsIs W' v l := by
  obtain ⟨ao, c, hv, h⟩ := h
  refine ⟨ao, c, hv, fun hp => ?_⟩
  obtain ⟨B, o, e, hB, hc⟩ := h hp
  exact ⟨B, o, e, Nat.lt_of_lt_of_le hB hb.size, fun j hj => (hb.cell (p := ⟨B, _, none⟩) hB).trans (hc j hj)⟩
theorem IsIs.at' {W : World} {a : Option Addr} {n c : Nat} {l : List Int} (h : IsIs W (.slice a n c) l) {j : Nat} (hj : j < l.length) : ∃ B o, a = some ⟨B, o, none⟩ ∧ W.cell? ⟨B, o + j, none⟩ = some (.int .i64 l[j]) := by
  obtain ⟨a', c', hv, hcs⟩ := h
  injection hv with hv1 hv2 hv3
  subst hv1
  obtain ⟨B, o, e1, -, hcs2⟩ := hcs (by omega)
  exact ⟨B, o, e1, hcs2 j hj⟩
/-- the sizes as a function -/
def szF (l : List Int) (i : Nat) : Nat := (l[i]?.getD 0).toNat
def GoodZ (z : Int) : Prop := 0 ≤ z ∧ z ≤ 1099511627776
instance (z : Int) : Decidable (GoodZ z) := by unfold GoodZ; infer_instance
/-- valid sizes -/
def GoodS (l : List Int) : Prop := l.length ≤ 64 ∧ ∀ i (h : i < l.length), GoodZ l[i]
/-- valid arguments of Allot -/
def AllotP (n : Int) (l : List Int) : Prop := GoodS l ∧ 0 ≤ n ∧ n ≤ (sumF (szF l) l.length : Int)
def IffB (b : Bool) (P : Prop) : Prop := b = true ↔ P
theorem IffB.yes {P : Prop} (h : P) : IffB true P := ⟨fun _ => h, fun _ => rfl⟩
theorem IffB.no {P : Prop} (h : ¬ P) : IffB false P := ⟨fun h => (by cases h), fun h' => absurd h' h⟩
theorem szF_at {l : List Int} {i : Nat} (h : i < l.length) (hg : GoodZ l[i]) : (szF l i : Int) = l[i] := by
  unfold szF
  rw [List.getElem?_eq_getElem h, Option.getD_some]
  have := hg.1
  omega
theorem szF_le {l : List Int} (hg : GoodS l) : ∀ i, i < l.length → szF l i ≤ 1099511627776 := fun i h => by
  have e := szF_at h (hg.2 i h)
  have := (hg.2 i h).2
  omega
theorem IsIs.zs {W : World} {v : Value} {l : List Int} (h : IsIs W v l) (hg : GoodS l) : IsZs W v (fnL (szF l) l.length) := by
  obtain ⟨ao, c, hv, h⟩ := h
  refine ⟨ao, c, by rw [fnL_len]; exact hv, fun hp => ?_⟩
  rw [fnL_len] at hp
  obtain ⟨B, o, e, hB, hc⟩ := h hp
  refine ⟨B, o, e, hB, fun j hj => ?_⟩
  have hj' : j < l.length := by rw [fnL_len] at hj; exact hj
  rw [hc j hj', show (fnL (szF l) l.length)[j] = szF l j by simp [fnL], szF_at hj' (hg.2 j hj')]
/-- what Total answers -/
def TotE (n : Int) (l : List Int) (e : Ending) : Prop := ∃ (t : Int) (b : Bool), e = .returned (.tuple #[.int .i64 t, .bool b]) ∧ IffB b (AllotP n l) ∧ (GoodS l → t = (sumF (szF l) l.length : Int))
set_option maxRecDepth 100000 in
set_option maxHeartbeats 1000000 in
theorem Total_any {n : Int} {l : List Int} {v : Value} {W : World} (h : IsIs W v l) :
    Calls Tryz.prog 4 #[.int .i64 n, v] W fun e w' => TotE n l e ∧ W = w' := by
  have HI := Lib.hid h
  obtain ⟨ao, c, rfl, -⟩ := h
  obtain ⟨m, hm⟩ : ∃ m, m = l.length := ⟨_, rfl⟩
  rw [← hm] at HI
  rw [← hm]
  have HM := Lib.hid hm
  clear hm
  by_cases c0 : m > 64
  · have c1 : (m : Int) > 64 := by omega
    have HN : Hid (IffB false (AllotP n l)) := IffB.no (fun h => by have := h.1.1; rw [← HM.out] at this; omega)
    have HG : Hid (GoodS l → (0 : Int) = (sumF (szF l) l.length : Int)) := fun h => by have := h.1; rw [← HM.out] at this; omega
    go_enter Tryz.func4, Tryz.ntmps4
    go_wp2_with fail
    refine bodyPost_ret (v := .tuple #[.int .i64 0, .bool false]) (by simp [results, Tryz.results4, go_sem]) rfl ?_
    exact ⟨⟨0, false, rfl, HN.out, HG.out⟩, rfl⟩
  · have c1 : ¬ (m : Int) > 64 := by omega
    go_enter Tryz.func4, Tryz.ntmps4
    go_wp2_with fail
    go_loopw [6, 7] (fun s k wr => ∃ i tt : Nat, i ≤ m ∧ tt ≤ i * 1099511627776 ∧ k = .int .i64 i ∧ s = .int .i64 tt ∧ Hid (tt = sumF (szF l) i) ∧ Hid (∀ j (h : j < l.length), j < i → GoodZ l[j]) ∧ W = wr) (fun _ k _ => m - (intOf k).toNat)
    case atStart => exact ⟨0, 0, Nat.zero_le _, by omega, rfl, rfl, rfl, fun j h hj => by omega, rfl⟩
    case round =>
      obtain ⟨i, tt, him, htt, rfl, rfl, HT, HG, rfl⟩ := hrel
      by_cases q : i < m
      · have q1 : (i : Int) < m := by omega
        have hw : IntKind.i64.wrap ((i : Int) + 1) = ((i + 1 : Nat) : Int) := by rw [IntWalk.i64_in _ (by omega)]; omega
        have hil : i < l.length := by rw [← HM.out]; exact q
        obtain ⟨B, o, e1, d0⟩ := HI.out.at' hil
        obtain ⟨z, hz⟩ : ∃ z, z = l[i] := ⟨_, rfl⟩
        rw [← hz] at d0
        have HZ := Lib.hid hz
        subst e1
        clear hz
        by_cases g1 : z < 0
        · have d1 : decide (z < 0) = true := decide_eq_true g1
          have HN : Hid (IffB false (AllotP n l)) := IffB.no (fun h => by have := (h.1.2 i hil).1; rw [← HZ.out] at this; omega)
          have HG2 : Hid (GoodS l → (0 : Int) = (sumF (szF l) l.length : Int)) := fun h => by have := (h.2 i hil).1; rw [← HZ.out] at this; omega
          go_wp2_with fail
          refine bodyPost_ret (v := .tuple #[.int .i64 0, .bool false]) (by simp [results, Tryz.results4, go_sem]) rfl ?_
          exact ⟨⟨0, false, rfl, HN.out, HG2.out⟩, rfl⟩
        · have d1 : decide (z < 0) = false := decide_eq_false g1
          by_cases g2 : z > 1099511627776
          · have d2 : decide (z > 1099511627776) = true := decide_eq_true g2
            have d3 : decide (1099511627776 < z) = true := decide_eq_true g2
            have HN : Hid (IffB false (AllotP n l)) := IffB.no (fun h => by have := (h.1.2 i hil).2; rw [← HZ.out] at this; omega)
            have HG2 : Hid (GoodS l → (0 : Int) = (sumF (szF l) l.length : Int)) := fun h => by have := (h.2 i hil).2; rw [← HZ.out] at this; omega
            go_wp2_with fail
            refine bodyPost_ret (v := .tuple #[.int .i64 0, .bool false]) (by simp [results, Tryz.results4, go_sem]) rfl ?_
            exact ⟨⟨0, false, rfl, HN.out, HG2.out⟩, rfl⟩
          · have d2 : decide (z > 1099511627776) = false := decide_eq_false g2
            have d3 : decide (1099511627776 < z) = false := decide_eq_false g2
            have hgz : GoodZ l[i] := by rw [← HZ.out]; exact ⟨by omega, by omega⟩
            obtain ⟨zn, hzn⟩ : ∃ k, k = szF l i := ⟨_, rfl⟩
            have hze : z = (zn : Int) := by rw [HZ.out, hzn, szF_at hil hgz]
            have HT2 : Hid (tt + zn = sumF (szF l) (i + 1)) := by
              have := HT.out
              show _ = sumF (szF l) i + szF l i
              omega
            have HG2 : Hid (∀ j (h : j < l.length), j < i + 1 → GoodZ l[j]) := fun j h hj => by
              rcases Nat.lt_succ_iff_lt_or_eq.1 hj with c | c
              · exact HG.out j h c
              · subst c; exact hgz
            obtain ⟨t2, ht2⟩ : ∃ k, k = tt + zn := ⟨_, rfl⟩
            rw [← ht2] at HT2
            have hwt : IntKind.i64.wrap ((tt : Int) + (zn : Int)) = (t2 : Int) := by rw [IntWalk.i64_in _ (by omega)]; omega
            have ht2b : t2 ≤ (i + 1) * 1099511627776 := by omega
            clear ht2 hzn HZ hgz
            subst hze
            go_wp2_with fail
            go_roundw
            case rel => exact ⟨i + 1, t2, q, ht2b, by go_num, rfl, HT2, HG2, trivial⟩
            case measure => simp [intOf]; omega
      · obtain rfl : i = m := by omega
        have q1 : ¬ (i : Int) < i := by omega
        have HGS : Hid (GoodS l) := ⟨by rw [← HM.out]; omega, fun j h => HG.out j h (by rw [HM.out]; exact h)⟩
        have HG2 : Hid (GoodS l → (tt : Int) = (sumF (szF l) l.length : Int)) := fun _ => by rw [HT.out, HM.out]
        by_cases g1 : n ≥ 0
        · by_cases g2 : n ≤ (tt : Int)
          · have HN : Hid (IffB true (AllotP n l)) := IffB.yes ⟨HGS.out, g1, by rw [← HM.out, ← HT.out]; exact g2⟩
            have d1 : decide (n ≥ 0) = true := decide_eq_true g1
            have d3 : decide (0 ≤ n) = true := decide_eq_true g1
            have d2 : decide (n ≤ (tt : Int)) = true := decide_eq_true g2
            go_wp2_with fail
            refine bodyPost_ret (v := .tuple #[.int .i64 (tt : Int), .bool true]) (by simp [results, Tryz.results4, go_sem]) rfl ?_
            exact ⟨⟨_, true, rfl, HN.out, HG2.out⟩, rfl⟩
          · have HN : Hid (IffB false (AllotP n l)) := IffB.no (fun h => by have := h.2.2; rw [← HM.out, ← HT.out] at this; omega)
            have d1 : decide (n ≥ 0) = true := decide_eq_true g1
            have d3 : decide (0 ≤ n) = true := decide_eq_true g1
            have d2 : decide (n ≤ (tt : Int)) = false := decide_eq_false g2
            go_wp2_with fail
            refine bodyPost_ret (v := .tuple #[.int .i64 (tt : Int), .bool false]) (by simp [results, Tryz.results4, go_sem]) rfl ?_
            exact ⟨⟨_, false, rfl, HN.out, HG2.out⟩, rfl⟩
        · have HN : Hid (IffB false (AllotP n l)) := IffB.no (fun h => by have := h.2.1; omega)
          have d1 : decide (n ≥ 0) = false := decide_eq_false g1
          have d3 : decide (0 ≤ n) = false := decide_eq_false g1
          go_wp2_with fail
          refine bodyPost_ret (v := .tuple #[.int .i64 (tt : Int), .bool false]) (by simp [results, Tryz.results4, go_sem]) rfl ?_
          exact ⟨⟨_, false, rfl, HN.out, HG2.out⟩, rfl⟩
end Go.Proofs.YtfkogbomijonjaaGreatDoor
namespace Go.Proofs.YtfkogbomijonjaaGreatDoor
open Go Go.RowKit Gu

/-- what allot answers -/
def AllE (n t m : Nat) (x : Nat → Nat) (W : World) (e : Ending) (w' : World) : Prop := ∃ (a : Option Addr) (L : List Nat), e = .returned (.slice a m m) ∧ AlK n t m x L ∧ w'.ownsRow W.heap.size 3 1 (.slice a m m) m (encN L)
set_option maxRecDepth 100000 in
theorem allot_any {n t m : Nat} {x : Nat → Nat} {ao : Option Addr} {c : Nat} {W : World} (hv : IsZs W (.slice ao m c) (fnL x m)) (hm : m ≤ 64) (hn : n ≤ t) (ht : t = sumF x m) (hx : ∀ i, i < m → x i ≤ 1099511627776) :
    Calls Tryz.prog 12 #[.int .i64 n, .int .i64 t, .slice ao m c] W fun e w' => AllE n t m x W e w' ∧ Hid (Below W.heap.size W w') := by
  by_cases h0 : 0 < t
  · exact (allot_walk hv hm h0 hn ht hx).mono fun e w' ⟨a, L, h1, h2, h3, h4⟩ => ⟨⟨a, L, h1, h2.out, h3.out⟩, h4⟩
  · obtain rfl : t = 0 := by omega
    obtain rfl : n = 0 := by omega
    have hmk := made_int m (by omega)
    have HK : Hid (AlK 0 0 m x (fnL (fun _ => 0) m)) := ⟨id, id, fun _ => rfl, fun _ => rfl, fun _ h => h, fun _ h => h, fun a b _ hab _ => .inr ⟨by simp [remF], hab⟩, fnL_congr fun i _ => by simp [allotF, quoF]⟩
    have HB : Hid (Below W.heap.size W (W.alloc (.cells (madeCells #[.int .i64 0] m) 3))) := (Below.refl _ W).alloc (Nat.le_refl _) _
    have HR : Hid ((W.alloc (.cells (madeCells #[.int .i64 0] m) 3)).ownsRow W.heap.size 3 1 (.slice (some ⟨W.heap.size, 0, none⟩) m m) m (encN (fnL (fun _ => 0) m))) :=
      row_of_heap (Nat.le_refl _) (heap_alloc_new W _) (made_zero _ _) (by simp [fnL, encN]) (by unfold maxLen; omega)
    clear hv ht hx
    go_enter Tryz.func12, Tryz.ntmps12
    go_wp2_with fail
    go_ret
    exact ⟨⟨_, _, rfl, HK.out, HR.out⟩, HB⟩
/-- what Allot answers -/
def AlloE (n : Int) (l : List Int) (W : World) (e : Ending) (w' : World) : Prop :=
  (AllotP n l ∧ ∃ (a : Option Addr) (L : List Nat), e = .returned (.tuple #[.slice a l.length l.length, .int .i64 0]) ∧ AlK n.toNat (sumF (szF l) l.length) l.length (szF l) L ∧ w'.ownsRow W.heap.size 3 1 (.slice a l.length l.length) l.length (encN L)) ∨
  (¬ AllotP n l ∧ e = .returned (.tuple #[.slice none 0 0, .int .i64 2]))
set_option maxRecDepth 100000 in
set_option maxHeartbeats 1000000 in
theorem Allot_any {n : Int} {l : List Int} {v : Value} {W : World} (h : IsIs W v l) :
    Calls Tryz.prog 6 #[.int .i64 n, v] W fun e w' => AlloE n l W e w' ∧ Hid (Below W.heap.size W w') := by
  have HI := Lib.hid h
  obtain ⟨ao, c, rfl, -⟩ := h
  obtain ⟨m, hm⟩ : ∃ m, m = l.length := ⟨_, rfl⟩
  rw [← hm] at HI
  rw [← hm]
  have HM := Lib.hid hm
  clear hm
  by_cases c0 : m > 64
  · have c1 : (m : Int) > 64 := by omega
    have HN : Hid (¬ AllotP n l) := fun h => by have := h.1.1; rw [← HM.out] at this; omega
    go_enter Tryz.func6, Tryz.ntmps6
    go_wp2_with fail
    refine bodyPost_ret (v := .tuple #[.slice none 0 0, .int .i64 2]) (by simp [results, Tryz.results6, go_sem]) rfl ?_
    exact ⟨.inr ⟨HN.out, rfl⟩, Below.refl _ _⟩
  · have c1 : ¬ (m : Int) > 64 := by omega
    go_enter Tryz.func6, Tryz.ntmps6
    go_wp2_with fail
    go_loopw [6, 8, 14] (fun s _ k wr => ∃ i tt : Nat, i ≤ m ∧ tt ≤ i * 1099511627776 ∧ k = .int .i64 i ∧ s = .int .i64 tt ∧ Hid (tt = sumF (szF l) i) ∧ Hid (∀ j (h : j < l.length), j < i → GoodZ l[j]) ∧ W = wr) (fun _ _ k _ => m - (intOf k).toNat)
    case atStart => exact ⟨0, 0, Nat.zero_le _, by omega, rfl, rfl, rfl, fun j h hj => by omega, rfl⟩
    case round =>
      obtain ⟨i, tt, him, htt, rfl, rfl, HT, HG, rfl⟩ := hrel
      by_cases q : i < m
      · have q1 : (i : Int) < m := by omega
        have hw : IntKind.i64.wrap ((i : Int) + 1) = ((i + 1 : Nat) : Int) := by rw [IntWalk.i64_in _ (by omega)]; omega
        have hil : i < l.length := by rw [← HM.out]; exact q
        obtain ⟨B, o, e1, d0⟩ := HI.out.at' hil
        obtain ⟨z, hz⟩ : ∃ z, z = l[i] := ⟨_, rfl⟩
        rw [← hz] at d0
        have HZ := Lib.hid hz
        subst e1
        clear hz
        by_cases g1 : 0 ≤ z ∧ z ≤ 1099511627776
        · have HF := isFrom_is (decide_eq_true g1)
          have hgz : GoodZ l[i] := by rw [← HZ.out]; exact g1
          obtain ⟨zn, hzn⟩ : ∃ k, k = szF l i := ⟨_, rfl⟩
          have hze : z = (zn : Int) := by rw [HZ.out, hzn, szF_at hil hgz]
          have HT2 : Hid (tt + zn = sumF (szF l) (i + 1)) := by
            have := HT.out
            show _ = sumF (szF l) i + szF l i
            omega
          have HG2 : Hid (∀ j (h : j < l.length), j < i + 1 → GoodZ l[j]) := fun j h hj => by
            rcases Nat.lt_succ_iff_lt_or_eq.1 hj with c | c
            · exact HG.out j h c
            · subst c; exact hgz
          obtain ⟨t2, ht2⟩ : ∃ k, k = tt + zn := ⟨_, rfl⟩
          rw [← ht2] at HT2
          have hwt : IntKind.i64.wrap ((tt : Int) + (zn : Int)) = (t2 : Int) := by rw [IntWalk.i64_in _ (by omega)]; omega
          have ht2b : t2 ≤ (i + 1) * 1099511627776 := by omega
          clear ht2 hzn HZ hgz g1
          subst hze
          go_wp2_with fail
          refine (HF.out _).mono ?_
          rintro e w' ⟨rfl, rfl⟩
          go_wp2_with fail
          go_roundw
          case rel => exact ⟨i + 1, t2, q, ht2b, by go_num, rfl, HT2, HG2, by trivial⟩
          case measure => simp [intOf]; omega
        · have HF := isFrom_is (decide_eq_false g1)
          have HN : Hid (¬ AllotP n l) := fun h => g1 (by have := h.1.2 i hil; rw [← HZ.out] at this; exact this)
          clear g1
          go_wp2_with fail
          refine (HF.out _).mono ?_
          rintro e w' ⟨rfl, rfl⟩
          go_wp2_with fail
          refine bodyPost_ret (v := .tuple #[.slice none 0 0, .int .i64 2]) (by simp [results, Tryz.results6, go_sem]) rfl ?_
          exact ⟨.inr ⟨HN.out, rfl⟩, Below.refl _ _⟩
      · obtain rfl : i = m := by omega
        have q1 : ¬ (i : Int) < i := by omega
        have HGS : Hid (GoodS l) := ⟨by rw [← HM.out]; omega, fun j h => HG.out j h (by rw [HM.out]; exact h)⟩
        by_cases g1 : 0 ≤ n ∧ n ≤ (tt : Int)
        · have HF := isFrom_is (decide_eq_true g1)
          obtain ⟨nn, rfl⟩ : ∃ k : Nat, n = (k : Int) := ⟨n.toNat, by omega⟩
          have HP : Hid (AllotP (nn : Int) l) := ⟨HGS.out, g1.1, by rw [← HM.out, ← HT.out]; exact g1.2⟩
          have HZS : Hid (IsZs W (.slice ao i c) (fnL (szF l) i)) := by
            have := HI.out.zs HGS.out
            rwa [← HM.out] at this
          have HAL := Lib.hid (allot_any (n := nn) (t := tt) HZS.out (by omega) (by omega) HT.out fun j hj => szF_le HGS.out j (by rw [← HM.out]; exact hj))
          clear g1
          go_wp2_with fail
          refine (HF.out _).mono ?_
          rintro e w' ⟨rfl, rfl⟩
          go_wp2_with fail
          refine HAL.out.mono ?_
          rintro e w5 ⟨⟨a, L, rfl, hk, hr⟩, HB5⟩
          have HK := Lib.hid hk; have HR := Lib.hid hr
          clear hk hr HAL HF
          go_wp2_with fail
          refine bodyPost_ret (v := .tuple #[.slice a i i, .int .i64 0]) (by simp [results, Tryz.results6, go_sem]) rfl ?_
          exact ⟨.inl ⟨HP.out, a, L, by rw [← HM.out], by rw [← HM.out, ← HT.out]; exact HK.out, by rw [← HM.out]; exact HR.out⟩, HB5⟩
        · have HF := isFrom_is (decide_eq_false g1)
          have HN : Hid (¬ AllotP n l) := fun h => g1 ⟨h.2.1, by have := h.2.2; rw [← HM.out, ← HT.out] at this; exact this⟩
          clear g1
          go_wp2_with fail
          refine (HF.out _).mono ?_
          rintro e w' ⟨rfl, rfl⟩
          go_wp2_with fail
          refine bodyPost_ret (v := .tuple #[.slice none 0 0, .int .i64 2]) (by simp [results, Tryz.results6, go_sem]) rfl ?_
          exact ⟨.inr ⟨HN.out, rfl⟩, Below.refl _ _⟩
end Go.Proofs.YtfkogbomijonjaaGreatDoor
namespace Go.Proofs.YtfkogbomijonjaaGreatDoor
open Go Go.RowKit Gu

theorem sumF_sum (f : Nat → Nat) : ∀ m, sumF f m = ((List.range m).map f).sum
  | 0 => rfl
  | m + 1 => by
    rw [List.range_succ, List.map_append, List.sum_append, ← sumF_sum f m]
    simp [sumF]
theorem sumF_perm {f s τ : Nat → Nat} {m : Nat} (h1 : ∀ i, s (τ i) = i) (h2 : ∀ i, τ (s i) = i) (h3 : ∀ i, i < m → s i < m) (h4 : ∀ i, i < m → τ i < m) : sumF (fun k => f (s k)) m = sumF f m := by
  rw [sumF_sum, sumF_sum, show (fun k => f (s k)) = f ∘ s from rfl, ← List.map_map]
  refine (List.Perm.map f ?_).sum_nat
  refine (List.perm_ext_iff_of_nodup ?_ List.nodup_range).2 fun x => ?_
  · exact List.pairwise_map.2 (List.nodup_range.imp fun hab => fun h => hab (by have := congrArg τ h; rwa [h2, h2] at this))
  · rw [List.mem_map, List.mem_range]
    constructor
    · rintro ⟨y, hy, rfl⟩; exact h3 y (List.mem_range.1 hy)
    · intro hx; exact ⟨τ x, List.mem_range.2 (h4 x hx), h1 x⟩
theorem sumF_zero {f : Nat → Nat} {k m : Nat} (hk : k ≤ m) (h : ∀ i, k ≤ i → i < m → f i = 0) : sumF f m = sumF f k := by
  induction m with
  | zero => obtain rfl : k = 0 := by omega
            rfl
  | succ m ih =>
    rcases Nat.eq_or_lt_of_le hk with e | e
    · rw [e]
    · show sumF f m + f m = _
      rw [h m (by omega) (by omega), Nat.add_zero]
      exact ih (by omega) fun i h1 h2 => h i h1 (by omega)
theorem sumF_one (m left : Nat) (h : left ≤ m) : sumF (fun k => if k < left then 1 else 0) m = left := by
  rw [sumF_zero h (fun i h1 _ => if_neg (by omega)), sumF_congr (h := fun _ => 1) left (fun i hi => if_pos hi), sumF_const, Nat.mul_one]
section
variable {n t m : Nat} {x s τ : Nat → Nat} (ht : t = sumF x m) (h0 : 0 < t) (h1 : ∀ i, s (τ i) = i) (h2 : ∀ i, τ (s i) = i) (h3 : ∀ i, i < m → s i < m) (h4 : ∀ i, i < m → τ i < m)
include ht h0 h1 h2 h3 h4
/-- all draws are given away -/
theorem allot_sum : sumF (allotF n t x τ (n - sumF (quoF n t x) m)) m = n := by
  have hl := left_lt (n := n) ht h0
  have hs := shares_le (n := n) ht h0
  obtain ⟨u, hu⟩ : ∃ u, u = n - sumF (quoF n t x) m := ⟨_, rfl⟩
  rw [← hu] at hl ⊢
  have e : sumF (allotF n t x τ u) m = sumF (quoF n t x) m + sumF (fun i => if τ i < u then 1 else 0) m := sumF_add _ _ _
  have e2 := sumF_perm (f := fun i => if τ i < u then 1 else 0) h1 h2 h3 h4
  have e3 : sumF (fun k => if τ (s k) < u then 1 else 0) m = u := by
    rw [sumF_congr (h := fun k => if k < u then 1 else 0) m (fun i _ => by rw [h2])]
    exact sumF_one m u (by omega)
  rw [e, ← e2, e3]
  omega
/-- who gets one more has a remainder -/
theorem allot_rem (hs : SortedF (RestR (remF n t x)) 0 m s) {i : Nat} (hi : i < m) (h : τ i < n - sumF (quoF n t x) m) : 0 < remF n t x i := by
  have hl := left_lt (n := n) ht h0
  obtain ⟨-, hsum⟩ := shares_le (n := n) ht h0
  obtain ⟨u, hu⟩ : ∃ u, u = n - sumF (quoF n t x) m := ⟨_, rfl⟩
  rw [← hu] at hl hsum h
  rcases Nat.eq_zero_or_pos (remF n t x i) with e | e
  · exfalso
    have hz : ∀ k, τ i ≤ k → k < m → remF n t x (s k) = 0 := fun k hk hkm => by
      rcases Nat.eq_or_lt_of_le hk with c | c
      · rw [← c, h1]; exact e
      · have := hs (τ i) k (Nat.zero_le _) c hkm
        unfold RestR at this
        rw [h1, e] at this
        omega
    have e2 := sumF_perm (f := remF n t x) h1 h2 h3 h4
    rw [sumF_zero (Nat.le_of_lt (h4 i hi)) hz] at e2
    have e3 : sumF (fun k => remF n t x (s k)) (τ i) ≤ τ i * t := by
      have := sumF_le (f := fun k => remF n t x (s k)) (h := fun _ => t) (τ i) fun k _ => Nat.le_of_lt (Nat.mod_lt _ h0)
      rwa [sumF_const] at this
    have e4 : τ i * t < u * t := Nat.mul_lt_mul_of_pos_right h h0
    omega
  · exact e
/-- no stratum gets more than its size -/
theorem allot_le (hs : SortedF (RestR (remF n t x)) 0 m s) (hn : n ≤ t) {i : Nat} (hi : i < m) : allotF n t x τ (n - sumF (quoF n t x) m) i ≤ x i := by
  unfold allotF
  by_cases c : τ i < n - sumF (quoF n t x) m
  · rw [if_pos c]
    have hr := allot_rem ht h0 h1 h2 h3 h4 hs hi c
    have hd : t * quoF n t x i + remF n t x i = n * x i := Nat.div_add_mod _ _
    have hx : n * x i ≤ t * x i := Nat.mul_le_mul_right _ hn
    have : t * quoF n t x i < t * x i := by omega
    exact Nat.lt_of_mul_lt_mul_left this
  · rw [if_neg c]
    exact quo_le hn h0
end
end Go.Proofs.YtfkogbomijonjaaGreatDoor
