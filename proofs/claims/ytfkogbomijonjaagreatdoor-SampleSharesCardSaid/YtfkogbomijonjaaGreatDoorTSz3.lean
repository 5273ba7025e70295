/- Contracts and lemmas (several texts merged into one). -/
import Derived.Test.YtfkogbomijonjaaGreatDoorTSz2
import Derived.Test.YtfkogbomijonjaaGreatDoorIc
import Derived.Test.YtfkogbomijonjaaGreatDoorWr
import Derived.Test.YtfkogbomijonjaaGreatDoorRows
import Derived.ProofKit
import Derived.LaidMore
import Derived.LaidSub
import Derived.Lay
import Derived.OpenShut
import Derived.Lib.LaidTab
import Derived.Stop.Joined
import Derived.Test.YtfkogbomijonjaaGreatDoorRh
import Derived.Carry
namespace Go.Proofs.YtfkogbomijonjaaGreatDoor
open Go Go.RowKit Go.Shelf Gu

attribute [local go_sem] Oper.semAt_some

/-- what least keeps between two rounds -/
structure LI (W V : World) (lim x : Nat) (W' : World) : Prop where
  lim : NB V.heap.size lim W'
  acc : NB (V.heap.size + 1) x W'
  fn : Nx (V.heap.size + 1 + 1) (accV (V.heap.size + 1)) W'
  res : Nx (W.heap.size + 1) (.int .i64 0) W'
  bel : Below W.heap.size W W'
  sz : V.heap.size + 1 + 1 + 1 + 1 + 1 + 1 + 1 ≤ W'.heap.size
theorem LI.own {W V : World} {lim : Nat} (f : Nat → Nat) {B : Nat} (hB : W.heap.size ≤ B) : OwnFrom B (fun k W' => LI W V lim (f k) W') := fun k X Y row h hg hr => by
  have hr2 : ∀ r, row = some r → ∃ o : Obj, X.heap[r]? = some o ∧ o.isCells = false := fun r e => (hr r e).2
  exact ⟨h.lim.kept hg hr2, h.acc.kept hg hr2, h.fn.kept hg hr2, h.res.kept hg hr2, h.bel.grown hg h.bel.size (fun k e => Nat.le_trans hB (hr k e).1), Nat.le_trans h.sz hg.size⟩
theorem LI.next {W V : World} {lim x : Nat} {X Y : World} (h : LI W V lim x X) (hb : Below X.heap.size X Y) : LI W V lim x Y :=
  ⟨h.lim.next hb, h.acc.next hb, h.fn.next hb, h.res.next hb, h.bel.trans (hb.mono h.bel.size), Nat.le_trans h.sz hb.size⟩
/-- the world where least's loop begins, V being the one behind the limit's product -/
theorem least_start (W V : World) (lot : Int) (vb vg : Value) (n lo hi : Int) {lim ll lc : Nat} {lv : Option Addr} (hV : D V (.slice lv ll lc) lim) (hr : Nx (W.heap.size + 1) (.int .i64 0) V) (hbV : Below W.heap.size W V) (h3 : Bxs W.heap.size [.int .i64 lot, vb, vg] V) :
    ∃ wT w4, wT = ((V.alloc (.cells #[.slice lv ll lc] 55)).alloc (.cells #[.slice none 0 0] 55)).alloc (.cells #[accV (V.heap.size + 1)] 68) ∧
    w4 = termsW wT lot vb vg n lo hi ∧ wT.heap.size = V.heap.size + 1 + 1 + 1 ∧ w4.heap.size = V.heap.size + 1 + 1 + 1 + 1 + 1 + 1 + 1 ∧ LI W V lim 0 w4 ∧ Bx4 (V.heap.size + 1 + 1 + 1) lot vb vg n lo hi w4 ∧
    wT.cell? ⟨W.heap.size, 0, none⟩ = some (.int .i64 lot) ∧ wT.cell? ⟨W.heap.size, 1, none⟩ = some vb ∧ wT.cell? ⟨W.heap.size, 2, none⟩ = some vg := by
  obtain ⟨a2, h2⟩ : ∃ a, a = V.alloc (.cells #[.slice lv ll lc] 55) := ⟨_, rfl⟩
  obtain ⟨a3, h3'⟩ : ∃ a, a = a2.alloc (.cells #[.slice none 0 0] 55) := ⟨_, rfl⟩
  obtain ⟨a4, h4⟩ : ∃ a, a = a3.alloc (.cells #[accV (V.heap.size + 1)] 68) := ⟨_, rfl⟩
  obtain ⟨a5, h5⟩ : ∃ a, a = a4.alloc (.cells #[.int .i64 lot, vb, vg] 45) := ⟨_, rfl⟩
  obtain ⟨a6, h6⟩ : ∃ a, a = a5.alloc (.cells #[.int .i64 n] 3) := ⟨_, rfl⟩
  obtain ⟨a7, h7⟩ : ∃ a, a = a6.alloc (.cells #[.int .i64 lo] 3) := ⟨_, rfl⟩
  obtain ⟨a8, h8⟩ : ∃ a, a = a7.alloc (.cells #[.int .i64 hi] 3) := ⟨_, rfl⟩
  have s2 : a2.heap.size = V.heap.size + 1 := by rw [h2, World.size_alloc]
  have s3 : a3.heap.size = V.heap.size + 1 + 1 := by rw [h3', World.size_alloc, s2]
  have s4 : a4.heap.size = V.heap.size + 1 + 1 + 1 := by rw [h4, World.size_alloc, s3]
  have s5 : a5.heap.size = V.heap.size + 1 + 1 + 1 + 1 := by rw [h5, World.size_alloc, s4]
  have s6 : a6.heap.size = V.heap.size + 1 + 1 + 1 + 1 + 1 := by rw [h6, World.size_alloc, s5]
  have s7 : a7.heap.size = V.heap.size + 1 + 1 + 1 + 1 + 1 + 1 := by rw [h7, World.size_alloc, s6]
  have s8 : a8.heap.size = V.heap.size + 1 + 1 + 1 + 1 + 1 + 1 + 1 := by rw [h8, World.size_alloc, s7]
  have b2 : Below V.heap.size V a2 := by rw [h2]; exact alloc1_below _ _
  have b3 : Below a2.heap.size a2 a3 := by rw [h3']; exact alloc1_below _ _
  have b4 : Below a3.heap.size a3 a4 := by rw [h4]; exact alloc1_below _ _
  have b5 : Below a4.heap.size a4 a5 := by rw [h5]; exact alloc1_below _ _
  have b6 : Below a5.heap.size a5 a6 := by rw [h6]; exact alloc1_below _ _
  have b7 : Below a6.heap.size a6 a7 := by rw [h7]; exact alloc1_below _ _
  have b8 : Below a7.heap.size a7 a8 := by rw [h8]; exact alloc1_below _ _
  have c7 := b7.trans (b8.mono b7.size)
  have c6 := b6.trans (c7.mono b6.size)
  have c5 := b5.trans (c6.mono b5.size)
  have c4 := b4.trans (c5.mono b4.size)
  have c3 := b3.trans (c4.mono b3.size)
  have c2 := b2.trans (c3.mono b2.size)
  have d3 := b3.trans (b4.mono b3.size)
  have d2 := b2.trans (d3.mono b2.size)
  have e2 : Nx V.heap.size (.slice lv ll lc) a2 := by rw [h2]; exact Nx.new _ _ _
  have e3 : Nx (V.heap.size + 1) (.slice none 0 0) a3 := by have := Nx.new a2 (.slice none 0 0) 55; rwa [← h3', s2] at this
  have e4 : Nx (V.heap.size + 1 + 1) (accV (V.heap.size + 1)) a4 := by have := Nx.new a3 (accV (V.heap.size + 1)) 68; rwa [← h4, s3] at this
  have g5 : a5.heap[V.heap.size + 1 + 1 + 1]? = some (.cells #[.int .i64 lot, vb, vg] 45 (0, 0)) := by rw [← s4, h5]; exact heap_alloc_new _ _
  have g6 : a6.heap[V.heap.size + 1 + 1 + 1 + 1]? = some (.cells #[.int .i64 n] 3 (0, 0)) := by rw [← s5, h6]; exact heap_alloc_new _ _
  have g7 : a7.heap[V.heap.size + 1 + 1 + 1 + 1 + 1]? = some (.cells #[.int .i64 lo] 3 (0, 0)) := by rw [← s6, h7]; exact heap_alloc_new _ _
  have g8 : a8.heap[V.heap.size + 1 + 1 + 1 + 1 + 1 + 1]? = some (.cells #[.int .i64 hi] 3 (0, 0)) := by rw [← s7, h8]; exact heap_alloc_new _ _
  have h3d := h3.next d2
  exact ⟨a4, a8, by rw [h4, h3', h2], by rw [h8, h7, h6, h5]; rfl, s4, s8, ⟨⟨_, _, _, e2.next c3, hV.below c2⟩, ⟨_, _, _, e3.next c4, D.zero _⟩, e4.next c5, hr.next c2, hbV.trans (c2.mono hbV.size), Nat.le_of_eq s8.symm⟩,
    ⟨(c6.block _ (by omega)).trans g5, (c7.block _ (by omega)).trans g6, (b8.block _ (by omega)).trans g7, g8⟩, h3d.c0, h3d.c1, (h3d.c 2 _ rfl).1⟩
set_option maxRecDepth 100000 in
set_option maxHeartbeats 4000000 in
theorem least_any {b g n mi : Nat} {vb vg : Value} {W : World} (hvb : NRow W vb (b + 1) (pascalN b)) (hvg : NRow W vg (g + 1) (pascalN g)) (hbg : b + g ≤ 2000) (hn : n ≤ b + g) (hmi : mi ≤ 1000000) :
    Calls Tryz.prog 16 #[.agg #[.int .i64 ((b + g : Nat) : Int), vb, vg], .int .i64 n, .int .i64 mi] W fun e w' => ∃ c : Nat, e = .returned (.int .i64 c) ∧ c ≤ n ∧ (∀ j, j < c → hsum b g n 0 (j + 1) * 1000000 < pascalN (b + g) n * mi) ∧ (c < n → pascalN (b + g) n * mi ≤ hsum b g n 0 (c + 1) * 1000000) ∧ Below W.heap.size W w' := by
  obtain ⟨so, sl, sc, rfl⟩ := hvb.slice
  obtain ⟨po, tl, tc, rfl⟩ := hvg.slice
  obtain ⟨lot, hlot⟩ : ∃ lot : Nat, lot = b + g := ⟨_, rfl⟩
  rw [show ((b + g : Nat) : Int) = (lot : Int) by rw [hlot]]
  obtain ⟨w1, HW⟩ : ∃ w1, w1 = (W.alloc (.cells #[.int .i64 lot, .slice so sl sc, .slice po tl tc] 45)).alloc (.cells #[.int .i64 0] 3) := ⟨_, rfl⟩
  have hb : Below W.heap.size W w1 := by rw [HW]; exact (alloc1_below _ _).alloc (by simp) _
  have s1 : Bxs W.heap.size [.int .i64 lot, .slice so sl sc, .slice po tl tc] w1 := by
    have s0 : Sx W.heap.size lot (.slice so sl sc) (.slice po tl tc) w1 := by rw [HW]; exact (Sx.new W lot _ _ _).next (alloc1_below _ _)
    have hg : w1.heap[W.heap.size]? = some (.cells #[.int .i64 lot, .slice so sl sc, .slice po tl tc] 45 (0, 0)) := by rw [HW]; exact (Below.heap_alloc _ _ _ (by simp)).trans (heap_alloc_new _ _)
    refine ⟨(Array.getElem?_eq_some_iff.1 hg).1, fun i v hi => ?_⟩
    have : i = 0 ∨ i = 1 ∨ i = 2 := by have := (List.getElem?_eq_some_iff.1 hi).1; simp at this; omega
    rcases this with rfl | rfl | rfl <;> (simp at hi; subst hi; simp [World.cell?, World.frozen?, hg])
  have r1 : Nx (W.heap.size + 1) (.int .i64 0) w1 := by
    have := Nx.new (W.alloc (.cells #[.int .i64 lot, .slice so sl sc, .slice po tl tc] 45)) (.int .i64 0) 3
    rw [World.size_alloc, ← HW] at this
    exact this
  obtain ⟨q3, q4⟩ := all_big (n := n) hbg hmi
  obtain ⟨T, hT⟩ : ∃ x, x = pascalN (b + g) n := ⟨_, rfl⟩
  rw [← hT] at q3 q4 ⊢
  have HAL : Hid (CallsIn Fence.wide 19 Tryz.prog 30 #[.agg #[.int .i64 lot, .slice so sl sc, .slice po tl tc], .int .i64 n] w1 fun e w' => ∃ ro rl rc, e = .returned (.agg #[.slice ro rl rc]) ∧ D w' (.slice ro rl rc) T ∧ Below w1.heap.size w1 w') := callsIn_wide.2 (by
    rw [hlot, hT]
    refine (all_any (b + g) n (.slice so sl sc) (.slice po tl tc) w1 (by omega) (by omega)).mono fun e w' ⟨r, h1, h2, h3⟩ => ?_
    rw [binN_of (by omega)] at h2
    obtain ⟨ao, ac, rfl, -⟩ := h2.shape
    exact ⟨_, _, _, h1, h2, h3⟩)
  have HTM : Hid (∀ W' v, D W' v T → CallsIn Fence.wide 19 Tryz.prog 31 #[.agg #[v], .int .i64 mi] W' fun e w' => ∃ ro rl rc, e = .returned (.agg #[.slice ro rl rc]) ∧ D w' (.slice ro rl rc) (T * mi) ∧ Below W'.heap.size W' w') := fun W' v hv => callsIn_wide.2 (times_big hv hmi q3 q4)
  obtain ⟨lim, hlim⟩ : ∃ x, x = T * mi := ⟨_, rfl⟩
  rw [← hlim] at HTM q4 ⊢
  have HAC : Hid (∀ W', CallsIn Fence.wide 19 Tryz.prog 32 #[] W' fun e w' => e = .returned (accV W'.heap.size) ∧ w' = W'.alloc (.cells #[.slice none 0 0] 55)) := fun W' => callsIn_wide.2 (accumulator_any W')
  have HB1 := Lib.hid hb; have HS1 := Lib.hid s1; have HR1 := Lib.hid r1; have HVB := Lib.hid hvb; have HVG := Lib.hid hvg; have HW' := Lib.hid HW; have HLB := Lib.hid q4
  clear hT hlim hb s1 r1 HW q3 q4 hvb hvg hlot
  refine (callsIn_wide (n := 20)).1 ?_
  refine callsIn_of_wp_marks Tryz.func16 rfl trivial ?_ rfl
  simp only [Tryz.ntmps16, List.size_toArray, List.length_cons, List.length_nil, Nat.reduceAdd, Nat.reduceSub, Array.replicate_succ, Array.replicate_zero, List.push_toArray, List.append_toArray, List.nil_append, List.cons_append]
  gi_upto_region 1 with fail
  rw [← HW'.out]
  have k0 := HS1.out.c0; have k1 := HS1.out.c1; have k2 := (HS1.out.c 2 _ rfl).1
  gi_wp2_with fail
  refine ⟨trivial, HAL.out.mono ?_⟩
  rintro e w2 ⟨ho, tn, tk, rfl, ht, hb2⟩
  have HT2 := Lib.hid ht
  have HB2 := Lib.hid (HB1.out.trans (hb2.mono HB1.out.size))
  have HS2 := Lib.hid (HS1.out.next hb2); have HR2 := Lib.hid (HR1.out.next hb2)
  clear ht hb2 HS1 HR1 HB1 HAL HW' k0 k1 k2
  gi_wp2_with fail
  refine ⟨trivial, (HTM.out _ _ HT2.out).mono ?_⟩
  rintro e V ⟨lv, ll, lc, rfl, hl, hb3⟩
  have HB3 := Lib.hid (HB2.out.trans (hb3.mono HB2.out.size))
  obtain ⟨wT, w4, hT, h4, hs, hs4, hLI, hB4, k0, k1, k2⟩ := least_start W V lot (.slice so sl sc) (.slice po tl tc) n 0 n hl (HR2.out.next hb3) HB3.out (HS2.out.next hb3)
  have HSQ := Lib.hid (terms_seq (m := 19) (lo := 0) (hi := (n : Int)) (a := 0) (N := n + 1) HVB.out HVG.out (by omega) (by omega) hLI.bel (Bs := V.heap.size + 1 + 1 + 1) (by have := HB3.out.size; omega) hB4 rfl (Int.min_self _) (by omega))
  have HTE : Hid (CallsIn Fence.wide 19 Tryz.prog 33 #[.agg #[.int .i64 lot, .slice so sl sc, .slice po tl tc], .int .i64 n, .int .i64 0, .int .i64 n] wT fun e w' => e = .returned (termsV (V.heap.size + 1 + 1 + 1)) ∧ w' = w4) := callsIn_wide.2 (by rw [h4, ← hs]; exact sterms_any wT lot so po sl sc tl tc n 0 n)
  have HLI := Lib.hid hLI; have HT := Lib.hid hT; have HS4 := Lib.hid hs4
  have HVW : Hid (W.heap.size + 1 + 1 ≤ V.heap.size) := by have := (HR2.out.next hb3).lt; show _ ≤ _; omega
  clear hl hb3 hT h4 hs hs4 hLI hB4 HB2 HS2 HR2 HT2 HTM
  gi_wp2_with fail
  refine ⟨trivial, (HAC.out _).mono ?_⟩
  rintro e w' ⟨rfl, rfl⟩
  simp only [World.size_alloc]
  unfold accV at HT ⊢
  gi_upto_region 3 with fail
  rw [← HT.out]
  gi_wp2_with fail
  refine ⟨trivial, HTE.out.mono ?_⟩
  rintro e w' ⟨rfl, rfl⟩
  gi_wp2_with fail
  have hge : W.heap.size ≤ w'.heap.size := HLI.out.bel.size
  have hs9 := HS4.out
  have hvw := HVW.out
  have hdd : ∀ k : Nat, ((Fence.wide).depth.isSome = true → 1 ≤ k) := fun k h => by cases h
  refine range_e rfl (by omega) (gf := 52) (lb := #[.pointer (some ⟨V.heap.size + 1 + 1 + 1 + 1 + 1, 0, none⟩), .pointer (some ⟨V.heap.size + 1 + 1 + 1 + 1 + 1 + 1, 0, none⟩), .pointer (some ⟨V.heap.size + 1 + 1 + 1 + 1, 0, none⟩), .pointer (some ⟨V.heap.size + 1 + 1 + 1, 0, none⟩)]) rfl trivial (enters_of Tryz.func52 (by kernel_rfl) rfl)
    HSQ.out Kt.trans (fun W'' l o o' hl h hc hw => ⟨belowK_b hge W'' l o o' hl h hc hw, fun k h1 h2 => World.putObj_heap_other (by omega)⟩) (fun _ _ => rfl)
    (fun k W' => LI W V lim (hsum b g n 0 k) W' ∧ ∀ j, j < k → hsum b g n 0 (j + 1) * 1000000 < lim)
    (fun c k W' => (Nx (W.heap.size + 1) (.int .i64 (k : Int)) W' ∧ Below W.heap.size W W') ∧ c = .ret ∧ (∀ j, j < k → hsum b g n 0 (j + 1) * 1000000 < lim) ∧ lim ≤ hsum b g n 0 (k + 1) * 1000000)
    (OwnFrom.and (LI.own _ hge) (ownFrom_pure _ _)) (fun c => OwnFrom.and (fun k X Y row h hg hr => ⟨h.1.kept hg (fun r e => (hr r e).2), h.2.grown hg h.2.size (fun j e => Nat.le_trans hge (hr j e).1)⟩) (ownFrom_pure _ _)) ⟨HLI.out, fun j h => absurd h (Nat.not_lt_zero _)⟩
    (fun k v a' W' => ∃ Bx xo xl xc, v = .slice xo xl xc ∧ V.heap.size + 1 + 1 + 1 + 1 + 1 + 1 + 1 ≤ Bx ∧ Nx Bx v W' ∧ D W' v (hyp b g n (0 + k)) ∧ a' = { tmps := #[.agg #[.int .i64 lot, .slice so sl sc, .slice po tl tc], .int .i64 n, .int .i64 mi, .pointer (some ⟨W.heap.size, 0, none⟩), undef, undef, .pointer (some ⟨W.heap.size + 1, 0, none⟩), .pointer (some ⟨V.heap.size, 0, none⟩), .pointer (some ⟨V.heap.size + 1 + 1, 0, none⟩), .int .i64 (k : Int), .pointer (some ⟨Bx, 0, none⟩), undef, .agg #[.int .i64 lot, .slice so sl sc, .slice po tl tc], .int .i64 n, .agg #[.slice ho tn tk], .int .i64 mi, .agg #[.slice lv ll lc], .func (.func 50) #[] #[.pointer (some ⟨V.heap.size + 1, 0, none⟩)], .agg #[.int .i64 lot, .slice so sl sc, .slice po tl tc], .int .i64 n, .int .i64 n, termsV (V.heap.size + 1 + 1 + 1), .int .i64 (k : Int), .agg #[.slice xo xl xc], undef, undef, undef, undef, undef, undef, undef, undef, undef, undef], defers := [] })
    (fun k v a' => fun _ X Y row hs hg hr => by
      obtain ⟨Bx, xo, xl, xc, h1, h2, h3, h4, h5⟩ := hs
      have hr2 : ∀ r, row = some r → ∃ o : Obj, X.heap[r]? = some o ∧ o.isCells = false := fun r e => (hr r e).2
      exact ⟨Bx, xo, xl, xc, h1, h2, h3.kept hg hr2, h4.kept hg hr2, h5⟩) ?assign ?body ?done ?stop
  case assign =>
    intro l k v W' K hk hI hE hK
    obtain ⟨xo, xl, xc, rfl⟩ : ∃ xo xl xc, v = .slice xo xl xc := by
      obtain ⟨xo, xc, h, -⟩ := hE.shape
      exact ⟨_, _, _, h⟩
    have hsz := hI.1.sz
    unfold encT
    rw [Nat.zero_add]
    gi_wp2
    exact hK _ _ ((KeepsOthers.alloc _ _).from _) ⟨(Below.refl _ W').alloc hI.1.bel.size _, fun j h1 h2 => Below.heap_alloc _ _ _ (by omega)⟩ ⟨hI.1.next (alloc1_below _ _), hI.2⟩ ⟨W'.heap.size, _, _, _, rfl, hsz, Nx.new _ _ _, hE.below (alloc1_below _ _), rfl⟩
  case body =>
    rintro l k v a' W' hk ⟨hI, hJ⟩ ⟨Bx, xo, xl, xc, rfl, hBx, hX, hD, rfl⟩
    obtain ⟨⟨mo, ml, mc, m1, m2⟩, ⟨vo, vl, vc, v1, v2⟩, f1, r1, b1, sz⟩ := hI
    obtain ⟨q1, -⟩ := hsum_big (n := n) (a := 0) (N := k) hbg (by omega) (Nat.le_refl 1000000)
    obtain ⟨q5, q6⟩ := hsum_big (n := n) (a := 0) (N := k + 1) hbg (by omega) (Nat.le_refl 1000000)
    have q2 : hyp b g n (0 + k) ≤ big := le_big (hyp_le _ _ _ _) (by omega)
    have q3 : hsum b g n 0 k + hyp b g n (0 + k) = hsum b g n 0 (k + 1) := rfl
    have HA := Lib.hid (acc_any v1 v2 hD (bits_of q1).2 (bits_of q2).2 (by rw [q3]; exact (bits_of q5).1))
    rw [q3] at HA
    obtain ⟨S, hS⟩ : ∃ S, S = hsum b g n 0 (k + 1) := ⟨_, rfl⟩
    rw [← hS] at HA q5 q6
    have HTM : Hid (∀ W' v, D W' v S → CallsIn Fence.wide 17 Tryz.prog 31 #[.agg #[v], .int .i64 1000000] W' fun e w' => ∃ ro rl rc, e = .returned (.agg #[.slice ro rl rc]) ∧ Hid (D w' (.slice ro rl rc) (S * 1000000)) ∧ Below W'.heap.size W' w') := fun W' v hv => callsIn_wide.2 (times_big hv (Nat.le_refl _) q5 q6)
    obtain ⟨R, hR⟩ : ∃ R, R = cmpN ((S * 1000000 : Nat) : Int) (lim : Int) := ⟨_, rfl⟩
    have HCM : Hid (∀ W' u v, D W' u (S * 1000000) → D W' v lim → CallsIn Fence.wide 17 Tryz.prog 34 #[.agg #[u], .agg #[v]] W' fun e w' => e = .returned (.int .i64 R) ∧ Below W'.heap.size W' w') := fun W' u v hu hv => by
      rw [hR]
      exact callsIn_wide.2 (NCmp_any u v _ _ W' hu hv (by have := (bits_of q6).2; omega) (by have := (bits_of HLB.out).2; omega))
    have c0 := f1.c0; have c1 := hX.c0
    unfold accV at c0
    have M1 := Lib.hid m1; have M2 := Lib.hid m2; have R1 := Lib.hid r1; have F1 := Lib.hid f1; have B1 := Lib.hid b1; have SZ := Lib.hid sz; have HJ := Lib.hid hJ; have HS := Lib.hid hS; have HR := Lib.hid hR
    clear q1 q2 q3 q5 q6 v1 v2 hD m1 m2 r1 f1 b1 sz hJ hS hR
    gi_wp2_with (refine ⟨trivial, ?_⟩; gi_at_call 50; refine (CallsIn.inRound l (callsIn_wide.2 HA.out)).mono ?_; rintro e w6 ⟨ro, rl, rc, rfl, g1, g2, g3, g4⟩)
    have hsz := SZ.out
    have hvw2 := hvw
    obtain ⟨w7, HW7⟩ : ∃ w7, w7 = w6.alloc (.cells #[.slice ro rl rc] 55) := ⟨_, rfl⟩
    have b7 : Below w6.heap.size w6 w7 := by rw [HW7]; exact alloc1_below _ _
    have x7 : Nx w6.heap.size (.slice ro rl rc) w7 := by rw [HW7]; exact Nx.new _ _ _
    have hb6 : Below W.heap.size W' w6 := (Below.refl _ _).grown g3 B1.out.size (fun j e => by cases e; omega)
    have hm7 : Nx V.heap.size (.slice mo ml mc) w7 := (M1.out.past g3 (by omega)).next b7
    have hd7 := g1.below b7
    have hl7 := (g4 _ _ M2.out).below b7
    have HC7 : Hid (∀ W'', Kw w7 W'' → W''.cell? ⟨w6.heap.size, 0, none⟩ = some (.slice ro rl rc) ∧ W''.cell? ⟨V.heap.size, 0, none⟩ = some (.slice mo ml mc)) := fun W'' h => ⟨(x7.next h).c0, (hm7.next h).c0⟩
    have HT7 : Hid (∀ W'', Kw w7 W'' → CallsIn Fence.wide 17 Tryz.prog 31 #[.agg #[.slice ro rl rc], .int .i64 1000000] W'' fun e w' => ∃ ro rl rc, e = .returned (.agg #[.slice ro rl rc]) ∧ Hid (D w' (.slice ro rl rc) (S * 1000000)) ∧ Kw w7 w') := fun W'' h => (HTM.out W'' _ (hd7.below h)).mono fun e w' ⟨a1, a2, a3, h1, h2, h3⟩ => ⟨a1, a2, a3, h1, h2, Kw.next h h3⟩
    have HC8 : Hid (∀ W'' u, Kw w7 W'' → D W'' u (S * 1000000) → CallsIn Fence.wide 17 Tryz.prog 34 #[.agg #[u], .agg #[.slice mo ml mc]] W'' fun e w' => e = .returned (.int .i64 R) ∧ Kw w7 w') := fun W'' u h hu => (HCM.out W'' u _ hu (hl7.below h)).mono fun e w' ⟨h1, h3⟩ => ⟨h1, Kw.next h h3⟩
    have HEND : Hid (∀ W'', Kw w7 W'' → KeepsFrom w'.heap.size W' W'' ∧ Kt W.heap.size (V.heap.size + 1 + 1 + 1) W' W'' ∧ LI W V lim S W'') := fun W'' h => by
      have h6 : Below w6.heap.size w6 W'' := b7.trans (Below.mono h b7.size)
      have hbw : Below W.heap.size W' W'' := hb6.trans (h6.mono (Nat.le_trans B1.out.size g3.size))
      refine ⟨⟨Nat.le_trans g3.size h6.size, fun j o hj ho _ => ?_⟩, ⟨hbw, fun j h1 h2 => ?_⟩, ?_⟩
      · have hj2 := (Array.getElem?_eq_some_iff.1 ho).1
        exact (h6.block j (Nat.lt_of_lt_of_le hj2 g3.size)).trans ((g3.block j hj2 (by intro e; injection e with e; omega)).trans ho)
      · exact (h6.block j (by have := g3.size; omega)).trans (g3.block j (by omega) (by intro e; injection e with e; omega))
      · exact ⟨⟨_, _, _, (M1.out.past g3 (by omega)).next h6, (g4 _ _ M2.out).below h6⟩, ⟨_, _, _, g2.next h6, g1.below h6⟩, (F1.out.past g3 (by omega)).next h6, (R1.out.past g3 (by omega)).next h6, B1.out.trans hbw, Nat.le_trans hsz (Nat.le_trans g3.size h6.size)⟩
    have HW7' := Lib.hid HW7
    clear HW7 b7 x7 hb6 hm7 hd7 hl7 g1 g2 g3 g4 HTM HCM c0 c1 M1 M2 R1 F1 HA hX hs9
    rw [← HW7'.out]
    have hs : Kw w7 w7 := Below.refl _ _
    have hs2 : Kw w7 w7.drew := Below.drew hs
    have hc0 := HC7.out _ hs
    have hc1 := HC7.out _ hs2
    gi_region_with (first | (refine ⟨trivial, ?_⟩; (try refine ⟨hdd _, ?_⟩); gi_at_call 31; with_reducible refine (CallsIn.inRound l (HT7.out _ ?h)).mono ?_; (case h => assumption); rintro e w8 ⟨po', pl, pc, rfl, hd8, hs8⟩; have hc8 := HC7.out _ hs8) | (refine ⟨trivial, ?_⟩; (try refine ⟨hdd _, ?_⟩); gi_at_call 34; with_reducible refine (CallsIn.inRound l (HC8.out _ _ ?h ?h2)).mono ?_; (case h => assumption); (case h2 => exact hd8.out); rintro e w9 ⟨rfl, hs9⟩) | fail)
    all_goals
      have HS9 := Lib.hid hs9
      obtain ⟨h1, h2, h3⟩ := HEND.out _ HS9.out
      have H1 := Lib.hid h1; have H2 := Lib.hid h2; have H3 := Lib.hid h3
      have c8 := h3.res.c0; have f8 := h3.res.f0
      clear hs9 hs8 hc8 hc0 hc1 hs hs2 h1 h2 h3
      by_cases hle : lim ≤ S * 1000000
      · have hR0 : R ≥ 0 := by
          rw [HR.out]
          unfold cmpN
          rw [if_neg (by omega)]
          split <;> omega
        have HLE := Lib.hid hle
        clear hle
        gi_wp2_with fail
        exact ⟨H1.out.trans ((KeepsOthers.setCell _ _ _).from _), ⟨H3.out.res.set _, H3.out.bel.setCell (p := ⟨W.heap.size + 1, 0, none⟩) (by show W.heap.size ≤ W.heap.size + 1; omega) _⟩, rfl, HJ.out, by rw [← HS.out]; exact HLE.out⟩
      · have hR0 : ¬ R ≥ 0 := by
          rw [HR.out]
          unfold cmpN
          rw [if_pos (by omega)]
          decide
        have HLE := Lib.hid hle
        clear hle
        gi_wp2_with fail
        refine ⟨H1.out, H2.out, by rw [← HS.out]; exact H3.out, fun j hj => ?_⟩
        by_cases hjk : j < k
        · exact HJ.out j hjk
        · have : j = k := by omega
          subst this
          have := HLE.out
          rw [← HS.out]; omega
  case done =>
    rintro d W' hd ⟨⟨-, -, -, r1, b1, sz⟩, hJ⟩ hK
    have c3 := r1.c0; have c4 := r1.f0
    have HB := Lib.hid (b1.setCell (p := ⟨W.heap.size + 1, 0, none⟩) (by show W.heap.size ≤ W.heap.size + 1; omega) (.int .i64 n))
    have HR := Lib.hid (r1.set (.int .i64 n))
    have HK := Lib.hid ((KeepsOthers.setCell W' ⟨W.heap.size + 1, 0, none⟩ (.int .i64 n)).same d _ hK rfl)
    clear r1 b1 sz hK
    gi_wp2
    have c5 := (HR.out.kept (grownBy_putObj' _ d (.deferred none)) (fun r e => by cases e; exact ⟨_, HK.out, rfl⟩)).c0
    refine ⟨by simp, .inl ⟨_, _, rfl, run_takeDeferred HK.out, ?_⟩⟩
    refine ⟨.int .i64 n, by simp [results, Tryz.results16, go_sem, c5], n, rfl, Nat.le_refl _, fun j h => hJ j (by omega), fun h => absurd h (Nat.lt_irrefl _), HB.out.trans (belowK_b (w := W) (Nat.le_refl _) _ d _ _ (by omega) HK.out rfl rfl)⟩
  case stop =>
    rintro d c k W' hd hk ⟨⟨r1, b1⟩, rfl, hJ, hle⟩ hK
    have HR := Lib.hid r1; have HB := Lib.hid b1; have HK := Lib.hid hK
    clear r1 b1 hK
    gi_wp2
    have c5 := (HR.out.kept (grownBy_putObj' _ d (.deferred none)) (fun r e => by cases e; exact ⟨_, HK.out, rfl⟩)).c0
    refine ⟨by simp, .inl ⟨_, _, rfl, run_takeDeferred HK.out, ?_⟩⟩
    refine ⟨.int .i64 k, by simp [results, Tryz.results16, go_sem, c5], k, rfl, by omega, hJ, fun _ => hle, HB.out.trans (belowK_b (w := W) (Nat.le_refl _) _ d _ _ (by omega) HK.out rfl rfl)⟩
end Go.Proofs.YtfkogbomijonjaaGreatDoor
namespace Go.Proofs.YtfkogbomijonjaaGreatDoor
open Go Go.RowKit Gu

/-- how many samples of n pieces have at most c bad ones -/
def accS (b g n : Nat) (c : Int) : Nat := hsum b g n 0 (c + 1).toNat
theorem accS_min {b g n N : Nat} {c top : Int} (hmin : min c (n : Int) = top) (hN : (N : Int) = max 0 (top + 1 - (0 : Nat))) : hsum b g n 0 N = accS b g n c := by
  unfold accS
  by_cases h : c ≤ n
  · rw [show N = (c + 1).toNat by omega]
  · rw [show N = n + 1 by omega, hsum_full (show n + 1 ≤ (c + 1).toNat by omega)]
theorem isFrom_is {lo x hi : Int} {r : Bool} (h : decide (lo ≤ x ∧ x ≤ hi) = r) : Hid (∀ W', Calls Tryz.prog 11 #[.int .i64 lo, .int .i64 x, .int .i64 hi] W' fun e w' => e = .returned (.bool r) ∧ W' = w') := fun W' => by
  rw [← h]; exact isFrom_any lo x hi W'
set_option maxHeartbeats 1000000 in
theorem Accept_bad {lot bad n c : Int} {W : World} (h : ¬ ((0 ≤ lot ∧ lot ≤ 2048) ∧ (0 ≤ bad ∧ bad ≤ lot) ∧ (0 ≤ n ∧ n ≤ lot))) :
    Calls Tryz.prog 7 #[.int .i64 lot, .int .i64 bad, .int .i64 n, .int .i64 c] W fun e w' => e = .returned (.tuple #[.agg #[.slice none 0 0, .slice none 0 0], .int .i64 2]) ∧ Below W.heap.size W w' := by
  obtain ⟨w1, HW⟩ : ∃ w1, w1 = W.alloc (.cells #[.slice none 0 0, .slice none 0 0] 33) := ⟨_, rfl⟩
  have hb : Below W.heap.size W w1 := by rw [HW]; exact alloc1_below _ _
  have r1 : Bxs W.heap.size [.slice none 0 0, .slice none 0 0] w1 := by rw [HW]; exact Bxs.new2 _ _ _ _
  obtain ⟨z0, z1⟩ := read_two r1.c0 r1.c1 (.slice none 0 0) (.slice none 0 0)
  have k2 := r1.c0; have k3 := r1.c1; have k4 := r1.f0; have k5 := r1.f1
  have HBE := Lib.hid ((hb.setCell (p := ⟨W.heap.size, 0, none⟩) (Nat.le_refl _) (.slice none 0 0)).setCell (p := ⟨W.heap.size, 1, none⟩) (Nat.le_refl _) (.slice none 0 0))
  have HW' := Lib.hid HW
  clear hb r1 HW
  by_cases h1 : 0 ≤ lot ∧ lot ≤ 2048
  · have HF1 := isFrom_is (decide_eq_true h1)
    by_cases h2 : 0 ≤ bad ∧ bad ≤ lot
    · have HF2 := isFrom_is (decide_eq_true h2)
      have HF3 := isFrom_is (decide_eq_false (p := 0 ≤ n ∧ n ≤ lot) (fun h3 => h ⟨h1, h2, h3⟩))
      clear h h1 h2
      go_enter Tryz.func7, Tryz.ntmps7
      go_upto_region 1 with fail
      rw [← HW'.out]
      go_wp2_with fail
      refine (HF1.out _).mono ?_
      rintro e w' ⟨rfl, rfl⟩
      go_wp2_with fail
      refine (HF2.out _).mono ?_
      rintro e w' ⟨rfl, rfl⟩
      go_wp2_with fail
      refine (HF3.out _).mono ?_
      rintro e w' ⟨rfl, rfl⟩
      go_wp2_with fail
      refine bodyPost_ret (v := .tuple #[.agg #[.slice none 0 0, .slice none 0 0], .int .i64 2]) (by simp [results, Tryz.results7, go_sem, z0, z1]) rfl ?_
      exact ⟨rfl, HBE.out⟩
    · have HF2 := isFrom_is (decide_eq_false h2)
      clear h h1 h2
      go_enter Tryz.func7, Tryz.ntmps7
      go_upto_region 1 with fail
      rw [← HW'.out]
      go_wp2_with fail
      refine (HF1.out _).mono ?_
      rintro e w' ⟨rfl, rfl⟩
      go_wp2_with fail
      refine (HF2.out _).mono ?_
      rintro e w' ⟨rfl, rfl⟩
      go_wp2_with fail
      refine bodyPost_ret (v := .tuple #[.agg #[.slice none 0 0, .slice none 0 0], .int .i64 2]) (by simp [results, Tryz.results7, go_sem, z0, z1]) rfl ?_
      exact ⟨rfl, HBE.out⟩
  · have HF1 := isFrom_is (decide_eq_false h1)
    clear h h1
    go_enter Tryz.func7, Tryz.ntmps7
    go_upto_region 1 with fail
    rw [← HW'.out]
    go_wp2_with fail
    refine (HF1.out _).mono ?_
    rintro e w' ⟨rfl, rfl⟩
    go_wp2_with fail
    refine bodyPost_ret (v := .tuple #[.agg #[.slice none 0 0, .slice none 0 0], .int .i64 2]) (by simp [results, Tryz.results7, go_sem, z0, z1]) rfl ?_
    exact ⟨rfl, HBE.out⟩
set_option maxHeartbeats 1000000 in
theorem Accept_any {b g n : Nat} {c : Int} {W : World} (hbg : b + g ≤ 2048) (hn : n ≤ b + g) :
    Calls Tryz.prog 7 #[.int .i64 ((b + g : Nat) : Int), .int .i64 b, .int .i64 n, .int .i64 c] W fun e w' => ∃ ao al ac bo bl bc, e = .returned (.tuple #[.agg #[.slice ao al ac, .slice bo bl bc], .int .i64 0]) ∧
      D w' (.slice ao al ac) (lowP (accS b g n c) (pascalN (b + g) n)) ∧ D w' (.slice bo bl bc) (lowQ (accS b g n c) (pascalN (b + g) n)) ∧ Below W.heap.size W w' := by
  obtain ⟨w1, HW⟩ : ∃ w1, w1 = W.alloc (.cells #[.slice none 0 0, .slice none 0 0] 33) := ⟨_, rfl⟩
  have hb : Below W.heap.size W w1 := by rw [HW]; exact alloc1_below _ _
  have r1 : Bxs W.heap.size [.slice none 0 0, .slice none 0 0] w1 := by rw [HW]; exact Bxs.new2 _ _ _ _
  have HSO := Lib.hid (samplesOf_any (b + g) b w1 hbg (by omega))
  rw [show b + g - b = g by omega] at HSO
  have HF1 := isFrom_is (decide_eq_true (show (0 : Int) ≤ ((b + g : Nat) : Int) ∧ ((b + g : Nat) : Int) ≤ 2048 by omega))
  have HF2 := isFrom_is (decide_eq_true (show (0 : Int) ≤ (b : Int) ∧ (b : Int) ≤ ((b + g : Nat) : Int) by omega))
  have HF3 := isFrom_is (decide_eq_true (show (0 : Int) ≤ (n : Int) ∧ (n : Int) ≤ ((b + g : Nat) : Int) by omega))
  obtain ⟨top, htop⟩ : ∃ top, min c (n : Int) = top := ⟨_, rfl⟩
  obtain ⟨N, hN⟩ : ∃ N : Nat, (N : Int) = max 0 (top + 1 - (0 : Nat)) := ⟨(top + 1).toNat, by omega⟩
  have HCH : Hid (∀ W' vb vg, NRow W' vb (b + 1) (pascalN b) → NRow W' vg (g + 1) (pascalN g) → Calls Tryz.prog 14 #[.agg #[.int .i64 ((b + g : Nat) : Int), vb, vg], .int .i64 n, .int .i64 0, .int .i64 c] W' fun e w' => ∃ ao al ac bo bl bc, e = .returned (.agg #[.slice ao al ac, .slice bo bl bc]) ∧
      D w' (.slice ao al ac) (lowP (accS b g n c) (pascalN (b + g) n)) ∧ D w' (.slice bo bl bc) (lowQ (accS b g n c) (pascalN (b + g) n)) ∧ Below W'.heap.size W' w') := fun W' vb vg h1 h2 => by
    have := chance_any (a := 0) (lo := 0) (hi := c) h1 h2 hbg hn rfl htop hN (by omega)
    rwa [accS_min htop hN] at this
  generalize lowP (accS b g n c) (pascalN (b + g) n) = P at HCH ⊢
  generalize lowQ (accS b g n c) (pascalN (b + g) n) = Q at HCH ⊢
  generalize ((b + g : Nat) : Int) = lot at HF1 HF2 HF3 HCH HSO ⊢
  have HB := Lib.hid hb; have HR := Lib.hid r1; have HW' := Lib.hid HW
  clear hb r1 HW htop hN
  go_enter Tryz.func7, Tryz.ntmps7
  go_upto_region 1 with fail
  rw [← HW'.out]
  go_wp2_with fail
  refine (HF1.out _).mono ?_
  rintro e w' ⟨rfl, rfl⟩
  go_wp2_with fail
  refine (HF2.out _).mono ?_
  rintro e w' ⟨rfl, rfl⟩
  go_wp2_with fail
  refine (HF3.out _).mono ?_
  rintro e w' ⟨rfl, rfl⟩
  go_wp2_with fail
  refine HSO.out.mono ?_
  rintro e w2 ⟨vb, vg, rfl, h1, h2, hb2⟩
  have H1 := Lib.hid h1; have H2 := Lib.hid h2; have HB2 := Lib.hid hb2
  clear h1 h2 hb2
  go_wp2_with fail
  refine (HCH.out _ _ _ H1.out.out H2.out.out).mono ?_
  rintro e w3 ⟨ao, al, ac, bo, bl, bc, rfl, hq, hq2, hb3⟩
  have h13 := HB2.out.trans (hb3.mono HB2.out.size)
  have hr := HR.out.next h13
  have k2 := hr.c0; have k3 := hr.c1; have k4 := hr.f0; have k5 := hr.f1
  obtain ⟨z0, z1⟩ := read_two k2 k3 (.slice ao al ac) (.slice bo bl bc)
  have HD1 := Lib.hid (hr.keep2 hq (.slice ao al ac) (.slice bo bl bc)); have HD2 := Lib.hid (hr.keep2 hq2 (.slice ao al ac) (.slice bo bl bc))
  have HBE := Lib.hid (((HB.out.trans (h13.mono HB.out.size)).setCell (p := ⟨W.heap.size, 0, none⟩) (Nat.le_refl _) (.slice ao al ac)).setCell (p := ⟨W.heap.size, 1, none⟩) (Nat.le_refl _) (.slice bo bl bc))
  clear hr hq hq2 hb3 h13
  go_wp2_with fail
  refine bodyPost_ret (v := .tuple #[.agg #[.slice ao al ac, .slice bo bl bc], .int .i64 0]) (by simp [results, Tryz.results7, go_sem, z0, z1]) rfl ?_
  exact ⟨_, _, _, _, _, _, rfl, HD1.out, HD2.out, HBE.out⟩
end Go.Proofs.YtfkogbomijonjaaGreatDoor
namespace Go.Proofs.YtfkogbomijonjaaGreatDoor
open Go Go.RowKit Gu

/-- c is the least acceptance number that keeps the first risk -/
def LeastC (b g n m c : Nat) : Prop := c ≤ n ∧ (∀ j, j < c → hsum b g n 0 (j + 1) * 1000000 < pascalN (b + g) n * m) ∧ (c < n → pascalN (b + g) n * m ≤ hsum b g n 0 (c + 1) * 1000000)
/-- the second risk is kept -/
def KeepB (b g n beta c : Nat) : Prop := hsum b g n 0 (c + 1) * 1000000 ≤ pascalN (b + g) n * beta
theorem LeastC.same {b g n m c d : Nat} (h : LeastC b g n m c) (h' : LeastC b g n m d) : c = d := by
  obtain ⟨h1, h2, h3⟩ := h
  obtain ⟨h4, h5, h6⟩ := h'
  rcases Nat.lt_trichotomy c d with hlt | he | hlt
  · have := h5 c hlt
    have := h3 (by omega)
    omega
  · exact he
  · have := h2 d hlt
    have := h6 (by omega)
    omega
/-- the whole lot as a sample: it has all its bad pieces -/
theorem hyp_whole {b g i : Nat} (h : i ≠ b) : hyp b g (b + g) i = 0 := by
  unfold hyp
  split
  · rcases Nat.lt_or_gt_of_ne h with h1 | h1
    · rw [pascalN_gt (n := g) (by omega), Nat.mul_zero]
    · rw [pascalN_gt (n := b) h1, Nat.zero_mul]
  · rfl
theorem hyp_whole1 {b g : Nat} : hyp b g (b + g) b = 1 := by
  rw [hyp_of (by omega), show b + g - b = g by omega, pascalN_self, pascalN_self]
theorem hsum_whole (b g : Nat) : ∀ m, hsum b g (b + g) 0 m = if b < m then 1 else 0
  | 0 => by simp [hsum]
  | m + 1 => by
    rw [hsum_succ, hsum_whole b g m, Nat.zero_add]
    by_cases h : m = b
    · subst h
      rw [hyp_whole1, if_neg (by omega), if_pos (by omega)]
    · rw [hyp_whole h]
      by_cases h2 : b < m
      · rw [if_pos h2, if_pos (by omega)]
      · rw [if_neg h2, if_neg (by omega)]
theorem keep_whole {b1 g1 b2 g2 n m beta c : Nat} (hs : b1 + g1 = b2 + g2) (hlt : b1 < b2) (hm : m ≤ 1000000) (hn : n = b2 + g2) (h : LeastC b1 g1 n m c) : KeepB b2 g2 n beta c := by
  obtain ⟨-, h2, -⟩ := h
  have hc : c ≤ b1 := by
    refine Nat.le_of_not_lt fun hx => ?_
    have h3 := h2 b1 hx
    rw [hn, ← hs, hsum_whole, if_pos (by omega), pascalN_self] at h3
    omega
  unfold KeepB
  rw [hn, hsum_whole, if_neg (by omega), Nat.zero_mul]
  exact Nat.zero_le _
theorem isRisk_is {x : Nat} (h : x ≤ 1000000) : Hid (∀ W', Calls Tryz.prog 15 #[.int .i64 x] W' fun e w' => e = .returned (.bool true) ∧ W' = w') := fun W' => by
  have := isRisk_any x W'
  rwa [decide_eq_true (show (0 : Int) ≤ (x : Int) ∧ (x : Int) ≤ 1000000 by omega)] at this
set_option maxRecDepth 100000 in
set_option maxHeartbeats 4000000 in
theorem Plan_any {b1 g1 b2 g2 al be : Nat} {W : World} (hs : b1 + g1 = b2 + g2) (hl : b2 + g2 ≤ 256) (hlt : b1 < b2) (hal : al ≤ 1000000) (hbe : be ≤ 1000000) :
    Calls Tryz.prog 8 #[.int .i64 ((b2 + g2 : Nat) : Int), .int .i64 b1, .int .i64 b2, .int .i64 al, .int .i64 be] W fun e w' => ∃ n c : Nat, e = .returned (.tuple #[.int .i64 n, .int .i64 c, .int .i64 0]) ∧
      n ≤ b2 + g2 ∧ LeastC b1 g1 n (1000000 - al) c ∧ KeepB b2 g2 n be c ∧ (∀ m, m < n → ∀ d, LeastC b1 g1 m (1000000 - al) d → ¬ KeepB b2 g2 m be d) ∧ Below W.heap.size W w' := by
  obtain ⟨lot, hlot⟩ : ∃ lot : Nat, lot = b2 + g2 := ⟨_, rfl⟩
  have HS1 : Hid (∀ W', Calls Tryz.prog 13 #[.int .i64 lot, .int .i64 b1] W' fun e w' => ∃ so sl sc po pl pc, e = .returned (.agg #[.int .i64 lot, .slice so sl sc, .slice po pl pc]) ∧ Hid (NRow w' (.slice so sl sc) (b1 + 1) (pascalN b1)) ∧ Hid (NRow w' (.slice po pl pc) (g1 + 1) (pascalN g1)) ∧ Hid (Below W'.heap.size W' w')) := fun W' => by
    have := samplesOf_any lot b1 W' (by omega) (by omega)
    rw [show lot - b1 = g1 by omega] at this
    refine this.mono fun e w' ⟨vb, vg, h1, h2, h3, h4⟩ => ?_
    obtain ⟨_, _, _, rfl⟩ := h2.out.slice
    obtain ⟨_, _, _, rfl⟩ := h3.out.slice
    exact ⟨_, _, _, _, _, _, h1, h2, h3, h4⟩
  have HS2 : Hid (∀ W', Calls Tryz.prog 13 #[.int .i64 lot, .int .i64 b2] W' fun e w' => ∃ so sl sc po pl pc, e = .returned (.agg #[.int .i64 lot, .slice so sl sc, .slice po pl pc]) ∧ Hid (NRow w' (.slice so sl sc) (b2 + 1) (pascalN b2)) ∧ Hid (NRow w' (.slice po pl pc) (g2 + 1) (pascalN g2)) ∧ Hid (Below W'.heap.size W' w')) := fun W' => by
    have := samplesOf_any lot b2 W' (by omega) (by omega)
    rw [show lot - b2 = g2 by omega] at this
    refine this.mono fun e w' ⟨vb, vg, h1, h2, h3, h4⟩ => ?_
    obtain ⟨_, _, _, rfl⟩ := h2.out.slice
    obtain ⟨_, _, _, rfl⟩ := h3.out.slice
    exact ⟨_, _, _, _, _, _, h1, h2, h3, h4⟩
  have HF1 := isFrom_is (decide_eq_true (show (1 : Int) ≤ (lot : Int) ∧ (lot : Int) ≤ 256 by omega))
  have HR1 := isRisk_is hal; have HR2 := isRisk_is hbe
  have HLE : Hid (∀ W' vb vg (n : Nat), n ≤ lot → NRow W' vb (b1 + 1) (pascalN b1) → NRow W' vg (g1 + 1) (pascalN g1) → Calls Tryz.prog 16 #[.agg #[.int .i64 lot, vb, vg], .int .i64 n, .int .i64 (1000000 - (al : Int))] W' fun e w' => ∃ c : Nat, e = .returned (.int .i64 c) ∧ Hid (LeastC b1 g1 n (1000000 - al) c) ∧ Hid (Below W'.heap.size W' w')) := fun W' vb vg n hn h1 h2 => by
    have := least_any h1 h2 (n := n) (mi := 1000000 - al) (by omega) (by omega) (by omega)
    rw [show b1 + g1 = lot by omega, show ((1000000 - al : Nat) : Int) = 1000000 - (al : Int) by omega] at this
    refine this.mono fun e w' ⟨c, h3, h4, h5, h6, h7⟩ => ⟨c, h3, ?_, h7⟩
    show LeastC _ _ _ _ _
    unfold LeastC
    rw [show b1 + g1 = lot by omega]
    exact ⟨h4, h5, h6⟩
  have HCM : Hid (∀ W' vb vg (n c : Nat), n ≤ lot → c ≤ n → NRow W' vb (b2 + 1) (pascalN b2) → NRow W' vg (g2 + 1) (pascalN g2) → Calls Tryz.prog 17 #[.agg #[.int .i64 lot, vb, vg], .int .i64 n, .int .i64 c, .int .i64 be] W' fun e w' => ∃ R : Int, e = .returned (.int .i64 R) ∧ Hid (R > 0 ↔ ¬ KeepB b2 g2 n be c) ∧ Hid (Below W'.heap.size W' w')) := fun W' vb vg n c hn hc h1 h2 => by
    have := scompare_any h1 h2 (n := n) (c := (c : Int)) (top := (c : Int)) (N := c + 1) (mi := be) (by omega) (by omega) (by omega) (by omega) (by omega) hbe
    rw [show ((b2 + g2 : Nat) : Int) = (lot : Int) by omega] at this
    refine this.mono fun e w' ⟨h3, h4⟩ => ⟨_, h3, ?_, h4⟩
    show _ ↔ _
    unfold cmpN KeepB
    split
    · constructor
      · intro h; omega
      · intro h; omega
    · split
      · constructor
        · intro _; omega
        · intro _; omega
      · constructor
        · intro h; omega
        · intro h; omega
  have HKW : Hid (∀ n c, n = lot → LeastC b1 g1 n (1000000 - al) c → KeepB b2 g2 n be c) := fun n c hn h => keep_whole hs hlt (Nat.sub_le _ _) (hn.trans hlot) h
  have hw1 : IntKind.i64.wrap (1000000 - (al : Int)) = 1000000 - (al : Int) := IntWalk.i64_in _ (by omega)
  have hg1 : ¬ (b1 : Int) < 0 := by omega
  have hg2 : ¬ (b1 : Int) ≥ (b2 : Int) := by omega
  have hg3 : ¬ (b2 : Int) > (lot : Int) := by omega
  have hl2 : lot ≤ 256 := by omega
  rw [show ((b2 + g2 : Nat) : Int) = (lot : Int) by rw [hlot], ← hlot]
  clear hs hl hlt hal hbe hlot
  go_enter Tryz.func8, Tryz.ntmps8
  go_wp2_with fail
  refine (HF1.out _).mono ?_
  rintro e w' ⟨rfl, rfl⟩
  go_wp2_with fail
  refine (HR1.out _).mono ?_
  rintro e w' ⟨rfl, rfl⟩
  go_wp2_with fail
  refine (HR2.out _).mono ?_
  rintro e w' ⟨rfl, rfl⟩
  go_wp2_with fail
  refine (HS1.out _).mono ?_
  rintro e w1 ⟨so, sl, sc, po, pl, pc, rfl, h1, h2, hb1⟩
  go_wp2_with fail
  refine (HS2.out _).mono ?_
  rintro e w2 ⟨vo, vl, vc, qo, ql, qc, rfl, h3, h4, hb2⟩
  obtain ⟨w3, HW3⟩ : ∃ w3, w3 = (w2.alloc (.cells #[.int .i64 lot, .slice so sl sc, .slice po pl pc] 45)).alloc (.cells #[.int .i64 lot, .slice vo vl vc, .slice qo ql qc] 45) := ⟨_, rfl⟩
  have b3 : Below w2.heap.size w2 w3 := by rw [HW3]; exact (alloc1_below _ _).alloc (by simp) _
  have x1 : Sx w2.heap.size lot (.slice so sl sc) (.slice po pl pc) w3 := by rw [HW3]; exact (Sx.new w2 lot _ _ _).next (alloc1_below _ _)
  have x2 : Sx (w2.heap.size + 1) lot (.slice vo vl vc) (.slice qo ql qc) w3 := by
    have := Sx.new (w2.alloc (.cells #[.int .i64 lot, .slice so sl sc, .slice po pl pc] 45)) lot (.slice vo vl vc) (.slice qo ql qc) 45
    rw [World.size_alloc, ← HW3] at this
    exact this
  have b23 := hb2.out.trans (b3.mono hb2.out.size)
  have HB3 : Hid (Below W.heap.size W w3) := hb1.out.trans (b23.mono hb1.out.size)
  have HN : Hid (∀ W', Kw w3 W' → (NRow W' (.slice so sl sc) (b1 + 1) (pascalN b1) ∧ NRow W' (.slice po pl pc) (g1 + 1) (pascalN g1)) ∧ NRow W' (.slice vo vl vc) (b2 + 1) (pascalN b2) ∧ NRow W' (.slice qo ql qc) (g2 + 1) (pascalN g2)) := fun W' h =>
    ⟨⟨(h1.out.below b23).below h, (h2.out.below b23).below h⟩, (h3.out.below b3).below h, (h4.out.below b3).below h⟩
  have HC : Hid (∀ W', Kw w3 W' → (W'.cell? ⟨w2.heap.size, 0, none⟩ = some (.int .i64 lot) ∧ W'.cell? ⟨w2.heap.size, 1, none⟩ = some (.slice so sl sc) ∧ W'.cell? ⟨w2.heap.size, 2, none⟩ = some (.slice po pl pc)) ∧ W'.cell? ⟨w2.heap.size + 1, 0, none⟩ = some (.int .i64 lot) ∧ W'.cell? ⟨w2.heap.size + 1, 1, none⟩ = some (.slice vo vl vc) ∧ W'.cell? ⟨w2.heap.size + 1, 2, none⟩ = some (.slice qo ql qc)) := fun W' h =>
    ⟨⟨(x1.next h).c0, (x1.next h).c1, (x1.next h).c2⟩, (x2.next h).c0, (x2.next h).c1, (x2.next h).c2⟩
  have HW3' := Lib.hid HW3
  have hs : Kw w3 w3 := Below.refl _ _
  have hc := HC.out _ hs
  clear h1 h2 h3 h4 hb1 hb2 b3 x1 x2 b23 HW3
  go_upto_region 4 with fail
  rw [← HW3'.out]
  go_wp2_with fail
  refine (HLE.out _ _ _ 0 (Nat.zero_le _) (HN.out _ hs).1.1 (HN.out _ hs).1.2).mono ?_
  rintro e w4 ⟨c, rfl, hL, hB⟩
  have HK4 := Lib.hid (Kw.next hs hB.out)
  clear hs hc hB
  go_wp2_with fail
  go_loopw [15, 16] (fun s15 s16 wr => ∃ n c : Nat, n ≤ lot ∧ s15 = .int .i64 n ∧ s16 = .int .i64 c ∧ Hid (LeastC b1 g1 n (1000000 - al) c) ∧ Hid (∀ m, m < n → ∀ d, LeastC b1 g1 m (1000000 - al) d → ¬ KeepB b2 g2 m be d) ∧ Hid (Kw w3 wr)) (fun s15 _ _ => lot - (intOf s15).toNat)
  case atStart => exact ⟨0, c, Nat.zero_le _, rfl, rfl, hL, fun m h => absurd h (Nat.not_lt_zero _), HK4⟩
  case round =>
    obtain ⟨n, c, hn, rfl, rfl, HL, HM, HK⟩ := hrel
    have hc := HC.out _ HK.out
    have hn1 : IntKind.i64.wrap ((n : Int) + 1) = ((n + 1 : Nat) : Int) := by rw [IntWalk.i64_in _ (by omega)]; omega
    have HCM2 := Lib.hid (HCM.out wr _ _ n c hn HL.out.1 (HN.out _ HK.out).2.1 (HN.out _ HK.out).2.2)
    go_wp2_with fail
    refine HCM2.out.mono ?_
    rintro e w5 ⟨R, rfl, hR, hB⟩
    have HK5 := Lib.hid (Kw.next HK.out hB.out)
    have hc5 := HC.out _ HK5.out
    clear hc hB
    by_cases hkeep : KeepB b2 g2 n be c
    · have hR0 : ¬ R > 0 := fun h => hR.out.1 h hkeep
      have HKP := Lib.hid hkeep
      clear hkeep
      go_wp2_with fail
      refine bodyPost_ret (v := .tuple #[.int .i64 n, .int .i64 c, .int .i64 0]) (by simp [results, Tryz.results8, go_sem]) rfl ?_
      exact ⟨n, c, rfl, hn, HL.out, HKP.out, HM.out, HB3.out.trans (Below.mono HK5.out HB3.out.size)⟩
    · have hR0 : R > 0 := hR.out.2 hkeep
      have hnl : n < lot := by
        rcases Nat.eq_or_lt_of_le hn with h | h
        · exact absurd (HKW.out n c h HL.out) hkeep
        · exact h
      have HKP := Lib.hid hkeep
      have HLE2 := Lib.hid (HLE.out w5 _ _ (n + 1) hnl (HN.out _ HK5.out).1.1 (HN.out _ HK5.out).1.2)
      clear hkeep
      go_wp2_with fail
      refine HLE2.out.mono ?_
      rintro e w6 ⟨c', rfl, hL', hB⟩
      have HK6 := Lib.hid (Kw.next HK5.out hB.out)
      clear hB hc5
      go_wp2_with fail
      go_roundw
      case rel =>
        refine ⟨n + 1, c', hnl, rfl, rfl, hL', ?_, HK6⟩
        show ∀ m, _
        intro m hm d hd
        rcases Nat.eq_or_lt_of_le (Nat.le_of_lt_succ hm) with h | h
        · subst h
          rw [hd.same HL.out]
          exact HKP.out
        · exact HM.out m h d hd
      case measure => simp [intOf]; omega
end Go.Proofs.YtfkogbomijonjaaGreatDoor
namespace Go.Proofs.YtfkogbomijonjaaGreatDoor
open Go Go.RowKit Gu

theorem plan_three {n c : Nat} (hn : n ≤ 10) (h1 : LeastC 0 10 n 1000000 c) (h2 : KeepB 5 5 n 100000 c) (h3 : ∀ m, m < n → ∀ d, LeastC 0 10 m 1000000 d → ¬ KeepB 5 5 m 100000 d) : n = 3 ∧ c = 0 := by
  have hz : ∀ m, LeastC 0 10 m 1000000 0 := fun m => ⟨Nat.zero_le _, fun j h => absurd h (Nat.not_lt_zero _), fun _ => by rw [hyp_zero, Nat.zero_add]; exact Nat.le_refl _⟩
  have hc : c = 0 := h1.same (hz n)
  subst hc
  refine ⟨?_, rfl⟩
  have h4 : n ≤ 3 := Nat.le_of_not_lt fun h => h3 3 h 0 (hz 3) (by unfold KeepB; decide +kernel)
  have e : n = 0 ∨ n = 1 ∨ n = 2 ∨ n = 3 := by omega
  rcases e with rfl | rfl | rfl | rfl
  · exact absurd h2 (by unfold KeepB; decide +kernel)
  · exact absurd h2 (by unfold KeepB; decide +kernel)
  · exact absurd h2 (by unfold KeepB; decide +kernel)
  · rfl
theorem Tryz.infoBool : (Tryz.prog.info? 4).map (fun i => (i.zero, i.size, i.bytes)) = some (some (.bool false), 1, 1) := by kernel_rfl
theorem made_bools : ∀ w, (Instr.makeSlice 39 (.int .i64 4) (.int .i64 4)).run Tryz.prog w = .ok (.slice (some ⟨w.heap.size, 0, none⟩) 4 4) (w.alloc (.cells #[.bool false, .bool false, .bool false, .bool false] 4)) := fun w => by
  have := run_make_row' (P := Tryz.prog) 39 4 (.bool false) 1 Tryz.underlying39 Tryz.infoBool rfl .i64 .i64 4 (by omega) (by omega) w
  rw [show madeCells #[.bool false] 4 = #[.bool false, .bool false, .bool false, .bool false] from Array.ext (by simp [madeCells]) (fun i h1 h2 => by
    have : i = 0 ∨ i = 1 ∨ i = 2 ∨ i = 3 := by simp at h2; omega
    rcases this with rfl | rfl | rfl | rfl <;> simp [madeCells])] at this
  exact this
theorem four_false (W : World) (T : TypeId) : IsBs (W.alloc (.cells #[.bool false, .bool false, .bool false, .bool false] T)) (.slice (some ⟨W.heap.size, 0, none⟩) 4 4) [false, false, false, false] := by
  refine ⟨_, _, rfl, fun _ => ⟨W.heap.size, 0, rfl, by simp, fun j hj => ?_⟩⟩
  have : j = 0 ∨ j = 1 ∨ j = 2 ∨ j = 3 := by simp at hj; omega
  obtain ⟨w1, h1⟩ : ∃ w1, w1 = W.alloc (.cells #[.bool false, .bool false, .bool false, .bool false] T) := ⟨_, rfl⟩
  have hh : w1.heap[W.heap.size]? = some (.cells #[.bool false, .bool false, .bool false, .bool false] T (0, 0)) := by rw [h1]; exact heap_alloc_new _ _
  rw [← h1]
  rcases this with rfl | rfl | rfl | rfl <;> simp [World.cell?, hh]
set_option maxRecDepth 100000 in
set_option maxHeartbeats 4000000 in
theorem sawake_any (W : World) (he : Env W) : Calls Tryz.prog 5 #[] W fun e w' => e = .returned (.bool true) ∧ Below W.heap.size W w' := by
  have e7 : lowP (accS 2 8 3 0) (pascalN (2 + 8) 3) = 7 := by decide +kernel
  have e15 : lowQ (accS 2 8 3 0) (pascalN (2 + 8) 3) = 15 := by decide +kernel
  have HAC : Hid (Calls Tryz.prog 7 #[.int .i64 10, .int .i64 2, .int .i64 3, .int .i64 0] W fun e w' => ∃ ao al ac bo bl bc, e = .returned (.tuple #[.agg #[.slice ao al ac, .slice bo bl bc], .int .i64 0]) ∧ D w' (.slice ao al ac) 7 ∧ D w' (.slice bo bl bc) 15 ∧ Below W.heap.size W w') := by
    have := Accept_any (b := 2) (g := 8) (n := 3) (c := 0) (W := W) (by decide) (by decide)
    rw [e7, e15] at this
    exact this
  have HPL : Hid (∀ W', Calls Tryz.prog 8 #[.int .i64 10, .int .i64 0, .int .i64 5, .int .i64 0, .int .i64 100000] W' fun e w' => e = .returned (.tuple #[.int .i64 3, .int .i64 0, .int .i64 0]) ∧ Hid (Below W'.heap.size W' w')) := fun W' => by
    have := Plan_any (b1 := 0) (g1 := 10) (b2 := 5) (g2 := 5) (al := 0) (be := 100000) (W := W') rfl (by decide) (by decide) (by decide) (by decide)
    refine this.mono fun e w' ⟨n, c, h1, h2, h3, h4, h5, h6⟩ => ?_
    obtain ⟨rfl, rfl⟩ := plan_three h2 h3 h4 h5
    exact ⟨h1, h6⟩
  have HJU : Hid (∀ W' v, IsBs W' v [false, false, false, false] → Calls Tryz.prog 9 #[.int .i64 5, .int .i64 1, v] W' fun e w' => e = .returned (.tuple #[.int .i64 1, .int .i64 4, .int .i64 0]) ∧ W' = w') := fun W' v h => by
    have := Judge_any (n := 5) (c := 1) h (by decide) (by decide) (by decide) (by decide) (by decide)
    rwa [show jrun 5 1 [false, false, false, false] 0 0 = (1, 4, 0) by decide +kernel] at this
  have HST : Hid (∀ W' v u, Env W' → D W' v 7 → D W' u 15 → Calls Tryz.prog 10 #[.agg #[v, u]] W' fun e w' => e = .returned (.string ⟨#[55, 47, 49, 53]⟩) ∧ Hid (Below W'.heap.size W' w')) := fun W' v u h h1 h2 => by
    have := FracString_any v u 7 15 W' h1 h2 (Nat.le_trans ((nd_le (by decide)).2 (show 7 < 4294967296 ^ 1 by decide)) (by decide)) (Nat.le_trans ((nd_le (by decide)).2 (show 15 < 4294967296 ^ 1 by decide)) (by decide)) h
    rwa [show (⟨(fracText 7 (dn 15)).toArray⟩ : ByteArray) = ⟨#[55, 47, 49, 53]⟩ from congrArg _ (by decide +kernel)] at this
  have HE := Lib.hid he
  clear he e7 e15
  go_enter Tryz.func5, Tryz.ntmps5
  go_wp2_with fail
  refine HAC.out.mono ?_
  rintro e w1 ⟨ao, al, ac, bo, bl, bc, rfl, hp, hq, hb⟩
  obtain ⟨w2, HW2⟩ : ∃ w2, w2 = w1.alloc (.cells #[.slice ao al ac, .slice bo bl bc] 33) := ⟨_, rfl⟩
  have b2 : Below w1.heap.size w1 w2 := by rw [HW2]; exact alloc1_below _ _
  have x2 : Bxs w1.heap.size [.slice ao al ac, .slice bo bl bc] w2 := by rw [HW2]; exact Bxs.new2 _ _ _ _
  have HX := Lib.hid x2; have HB := Lib.hid (hb.trans (b2.mono hb.size)); have HP := Lib.hid (hp.below b2); have HQ := Lib.hid (hq.below b2); have HW' := Lib.hid HW2
  clear hp hq hb b2 x2 HW2
  go_upto_region 2 with fail
  rw [← HW'.out]
  go_wp2_with fail
  refine (HPL.out _).mono ?_
  rintro e w3 ⟨rfl, hb⟩
  have HX3 := Lib.hid (HX.out.next hb.out); have HB3 := Lib.hid (HB.out.trans (hb.out.mono HB.out.size)); have HP3 := Lib.hid (HP.out.below hb.out); have HQ3 := Lib.hid (HQ.out.below hb.out)
  clear HX HB HP HQ hb HW'
  have hmk := made_bools
  have HF := Lib.hid (four_false w3 4)
  have h34 : ∀ o, Below w3.heap.size w3 (w3.alloc o) := alloc1_below w3
  go_wp2_with fail
  refine (HJU.out _ _ HF.out).mono ?_
  rintro e w' ⟨rfl, rfl⟩
  obtain ⟨w4, HW4⟩ : ∃ w4, w4 = w3.alloc (.cells #[.bool false, .bool false, .bool false, .bool false] 4) := ⟨_, rfl⟩
  have b4 : Below w3.heap.size w3 w4 := by rw [HW4]; exact alloc1_below _ _
  have HX4 := Lib.hid (HX3.out.next b4); have HB4 := Lib.hid (HB3.out.trans (b4.mono HB3.out.size)); have HP4 := Lib.hid (HP3.out.below b4); have HQ4 := Lib.hid (HQ3.out.below b4)
  have HW4' := Lib.hid HW4
  clear HX3 HB3 HP3 HQ3 HF hmk h34 HW4 b4
  go_upto_region 4 with fail
  rw [← HW4'.out]
  have k0 := HX4.out.c0; have k1 := HX4.out.c1
  have hne : ((#[55, 47, 49, 53] : Array UInt8) == #[55, 47, 49, 53]) = true := by decide
  have HS4 := Lib.hid (HST.out w4 _ _ (HE.out.below HB4.out) HP4.out HQ4.out)
  go_wp2_with fail
  refine HS4.out.mono ?_
  rintro e w5 ⟨rfl, hb⟩
  have HB5 := Lib.hid (HB4.out.trans (hb.out.mono HB4.out.size))
  clear hb k0 k1
  go_wp2_with fail
  go_ret
  exact ⟨rfl, HB5.out⟩
end Go.Proofs.YtfkogbomijonjaaGreatDoor
namespace Go.Proofs.YtfkogbomijonjaaGreatDoor
open Go Go.RowKit Gu

theorem own : ownKnob Tryz.prog.godebug = none := by kernel_rfl
theorem env_of_laid {W : World} {l : List (String × DataW Unit)}
    (hl : l.filter (fun x => x.1 == "internal/strconv.uint64pow10") = [("internal/strconv.uint64pow10", Rows.laid_internal_strconv_uint64pow10)]) (h : laidMetH Tryz.prog l W) : Env W := by
  have h1 := h.filter (fun x => x.1 == "internal/strconv.uint64pow10")
  rw [hl, MakeChecks.laidMetH_plain _ _ _ (by kernel_rfl)] at h1
  exact Lib.tabIs_of_head (g := 2) (by kernel_rfl) (by kernel_rfl) Tryz.underlying136 Tryz.underlying57 (by kernel_rfl) (by kernel_rfl) h1
end Go.Proofs.YtfkogbomijonjaaGreatDoor
namespace Go.Proofs.YtfkogbomijonjaaGreatDoor
open Go Go.ChangeShapes Go.WideShapes Go.ChangeAt Go.RowKit Gu

theorem laidOut' : laidOutB Tryz.prog = true := by kernel_rfl
theorem u16_of_wf {n : Int} (h : (Lit.int .u16 n).wf = true) : 0 ≤ n ∧ n ≤ 65535 := by
  simpa [Lit.wf, IntKind.min, IntKind.max, IntKind.signed, IntKind.bits] using h
end Go.Proofs.YtfkogbomijonjaaGreatDoor
