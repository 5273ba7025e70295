/- Contracts and lemmas (several texts merged into one). -/
import Derived.Test.YteieedfigoihpaaGreatDoorTSz2
import Derived.Test.YteieedfigoihpaaGreatDoorIc
import Derived.Test.YteieedfigoihpaaGreatDoorSe
import Derived.Test.YteieedfigoihpaaGreatDoorTSz1
import Derived.Deep.RegionHeld3
import Derived.Deep.RegionLaw
import Derived.Deep.DeepMust
import Derived.Deep.DeepFit
import Derived.Test.YteieedfigoihpaaGreatDoorSc
namespace Go.Proofs.YteieedfigoihpaaGreatDoor
open Go Go.RowKit Go.Shelf Gu

attribute [local go_sem] Oper.semAt_some

/-- what least keeps between two rounds -/
structure LI (W V : World) (lim x : Nat) (W' : World) : Prop where
  lim : NB V.heap.size lim W'
  acc : NB (V.heap.size + 1) x W'
  fn : Nx (V.heap.size + 1 + 1) (accV (V.heap.size + 1)) W'
  res : Nx (W.heap.size + 1) (.int .i64 0) W'
  bel : Below W.heap.size W W'
  sz : V.heap.size + 1 + 1 + 1 + 1 + 1 + 1 + 1 ≤ W'.heap.size
theorem LI.own {W V : World} {lim : Nat} (f : Nat → Nat) {B : Nat} (hB : W.heap.size ≤ B) : OwnFrom B (fun k W' => LI W V lim (f k) W') := fun k X Y row h hg hr => by
  have hr2 : ∀ r, row = some r → ∃ o : Obj, X.heap[r]? = some o ∧ o.isCells = false := fun r e => (hr r e).2
  exact ⟨h.lim.kept hg hr2, h.acc.kept hg hr2, h.fn.kept hg hr2, h.res.kept hg hr2, h.bel.grown hg h.bel.size (fun k e => Nat.le_trans hB (hr k e).1), Nat.le_trans h.sz hg.size⟩
theorem LI.next {W V : World} {lim x : Nat} {X Y : World} (h : LI W V lim x X) (hb : Below X.heap.size X Y) : LI W V lim x Y :=
  ⟨h.lim.next hb, h.acc.next hb, h.fn.next hb, h.res.next hb, h.bel.trans (hb.mono h.bel.size), Nat.le_trans h.sz hb.size⟩
/-- the world where least's loop begins, V being the one behind the limit's product -/
theorem least_start (W V : World) (lot : Int) (vb vg : Value) (n lo hi : Int) {lim ll lc : Nat} {lv : Option Addr} (hV : D V (.slice lv ll lc) lim) (hr : Nx (W.heap.size + 1) (.int .i64 0) V) (hbV : Below W.heap.size W V) (h3 : Bxs W.heap.size [.int .i64 lot, vb, vg] V) :
    ∃ wT w4, wT = ((V.alloc (.cells #[.slice lv ll lc] 62)).alloc (.cells #[.slice none 0 0] 62)).alloc (.cells #[accV (V.heap.size + 1)] 77) ∧
    w4 = termsW wT lot vb vg n lo hi ∧ wT.heap.size = V.heap.size + 1 + 1 + 1 ∧ w4.heap.size = V.heap.size + 1 + 1 + 1 + 1 + 1 + 1 + 1 ∧ LI W V lim 0 w4 ∧ Bx4 (V.heap.size + 1 + 1 + 1) lot vb vg n lo hi w4 ∧
    wT.cell? ⟨W.heap.size, 0, none⟩ = some (.int .i64 lot) ∧ wT.cell? ⟨W.heap.size, 1, none⟩ = some vb ∧ wT.cell? ⟨W.heap.size, 2, none⟩ = some vg := by
  obtain ⟨a2, h2⟩ : ∃ a, a = V.alloc (.cells #[.slice lv ll lc] 62) := ⟨_, rfl⟩
  obtain ⟨a3, h3'⟩ : ∃ a, a = a2.alloc (.cells #[.slice none 0 0] 62) := ⟨_, rfl⟩
  obtain ⟨a4, h4⟩ : ∃ a, a = a3.alloc (.cells #[accV (V.heap.size + 1)] 77) := ⟨_, rfl⟩
  obtain ⟨a5, h5⟩ : ∃ a, a = a4.alloc (.cells #[.int .i64 lot, vb, vg] 48) := ⟨_, rfl⟩
  obtain ⟨a6, h6⟩ : ∃ a, a = a5.alloc (.cells #[.int .i64 n] 3) := ⟨_, rfl⟩
  obtain ⟨a7, h7⟩ : ∃ a, a = a6.alloc (.cells #[.int .i64 lo] 3) := ⟨_, rfl⟩
  obtain ⟨a8, h8⟩ : ∃ a, a = a7.alloc (.cells #[.int .i64 hi] 3) := ⟨_, rfl⟩
  have s2 : a2.heap.size = V.heap.size + 1 := by rw [h2, World.size_alloc]
  have s3 : a3.heap.size = V.heap.size + 1 + 1 := by rw [h3', World.size_alloc, s2]
  have s4 : a4.heap.size = V.heap.size + 1 + 1 + 1 := by rw [h4, World.size_alloc, s3]
  have s5 : a5.heap.size = V.heap.size + 1 + 1 + 1 + 1 := by rw [h5, World.size_alloc, s4]
  have s6 : a6.heap.size = V.heap.size + 1 + 1 + 1 + 1 + 1 := by rw [h6, World.size_alloc, s5]
  have s7 : a7.heap.size = V.heap.size + 1 + 1 + 1 + 1 + 1 + 1 := by rw [h7, World.size_alloc, s6]
  have s8 : a8.heap.size = V.heap.size + 1 + 1 + 1 + 1 + 1 + 1 + 1 := by rw [h8, World.size_alloc, s7]
  have b2 : Below V.heap.size V a2 := by rw [h2]; exact alloc1_below _ _
  have b3 : Below a2.heap.size a2 a3 := by rw [h3']; exact alloc1_below _ _
  have b4 : Below a3.heap.size a3 a4 := by rw [h4]; exact alloc1_below _ _
  have b5 : Below a4.heap.size a4 a5 := by rw [h5]; exact alloc1_below _ _
  have b6 : Below a5.heap.size a5 a6 := by rw [h6]; exact alloc1_below _ _
  have b7 : Below a6.heap.size a6 a7 := by rw [h7]; exact alloc1_below _ _
  have b8 : Below a7.heap.size a7 a8 := by rw [h8]; exact alloc1_below _ _
  have c7 := b7.trans (b8.mono b7.size)
  have c6 := b6.trans (c7.mono b6.size)
  have c5 := b5.trans (c6.mono b5.size)
  have c4 := b4.trans (c5.mono b4.size)
  have c3 := b3.trans (c4.mono b3.size)
  have c2 := b2.trans (c3.mono b2.size)
  have d3 := b3.trans (b4.mono b3.size)
  have d2 := b2.trans (d3.mono b2.size)
  have e2 : Nx V.heap.size (.slice lv ll lc) a2 := by rw [h2]; exact Nx.new _ _ _
  have e3 : Nx (V.heap.size + 1) (.slice none 0 0) a3 := by have := Nx.new a2 (.slice none 0 0) 62; rwa [← h3', s2] at this
  have e4 : Nx (V.heap.size + 1 + 1) (accV (V.heap.size + 1)) a4 := by have := Nx.new a3 (accV (V.heap.size + 1)) 77; rwa [← h4, s3] at this
  have g5 : a5.heap[V.heap.size + 1 + 1 + 1]? = some (.cells #[.int .i64 lot, vb, vg] 48 (0, 0)) := by rw [← s4, h5]; exact heap_alloc_new _ _
  have g6 : a6.heap[V.heap.size + 1 + 1 + 1 + 1]? = some (.cells #[.int .i64 n] 3 (0, 0)) := by rw [← s5, h6]; exact heap_alloc_new _ _
  have g7 : a7.heap[V.heap.size + 1 + 1 + 1 + 1 + 1]? = some (.cells #[.int .i64 lo] 3 (0, 0)) := by rw [← s6, h7]; exact heap_alloc_new _ _
  have g8 : a8.heap[V.heap.size + 1 + 1 + 1 + 1 + 1 + 1]? = some (.cells #[.int .i64 hi] 3 (0, 0)) := by rw [← s7, h8]; exact heap_alloc_new _ _
  have h3d := h3.next d2
  exact ⟨a4, a8, by rw [h4, h3', h2], by rw [h8, h7, h6, h5]; rfl, s4, s8, ⟨⟨_, _, _, e2.next c3, hV.below c2⟩, ⟨_, _, _, e3.next c4, D.zero _⟩, e4.next c5, hr.next c2, hbV.trans (c2.mono hbV.size), Nat.le_of_eq s8.symm⟩,
    ⟨(c6.block _ (by omega)).trans g5, (c7.block _ (by omega)).trans g6, (b8.block _ (by omega)).trans g7, g8⟩, h3d.c0, h3d.c1, (h3d.c 2 _ rfl).1⟩
set_option maxRecDepth 100000 in
set_option maxHeartbeats 4000000 in
theorem least_any {b g n mi : Nat} {vb vg : Value} {W : World} (hvb : NRow W vb (b + 1) (pascalN b)) (hvg : NRow W vg (g + 1) (pascalN g)) (hbg : b + g ≤ 2000) (hn : n ≤ b + g) (hmi : mi ≤ 1000000) :
    Calls Tryz.prog 25 #[.agg #[.int .i64 ((b + g : Nat) : Int), vb, vg], .int .i64 n, .int .i64 mi] W fun e w' => ∃ c : Nat, e = .returned (.int .i64 c) ∧ c ≤ n ∧ (∀ j, j < c → hsum b g n 0 (j + 1) * 1000000 < pascalN (b + g) n * mi) ∧ (c < n → pascalN (b + g) n * mi ≤ hsum b g n 0 (c + 1) * 1000000) ∧ Below W.heap.size W w' := by
  obtain ⟨so, sl, sc, rfl⟩ := hvb.slice
  obtain ⟨po, tl, tc, rfl⟩ := hvg.slice
  obtain ⟨lot, hlot⟩ : ∃ lot : Nat, lot = b + g := ⟨_, rfl⟩
  rw [show ((b + g : Nat) : Int) = (lot : Int) by rw [hlot]]
  obtain ⟨w1, HW⟩ : ∃ w1, w1 = (W.alloc (.cells #[.int .i64 lot, .slice so sl sc, .slice po tl tc] 48)).alloc (.cells #[.int .i64 0] 3) := ⟨_, rfl⟩
  have hb : Below W.heap.size W w1 := by rw [HW]; exact (alloc1_below _ _).alloc (by simp) _
  have s1 : Bxs W.heap.size [.int .i64 lot, .slice so sl sc, .slice po tl tc] w1 := by
    have s0 : Sx W.heap.size lot (.slice so sl sc) (.slice po tl tc) w1 := by rw [HW]; exact (Sx.new W lot _ _ _).next (alloc1_below _ _)
    have hg : w1.heap[W.heap.size]? = some (.cells #[.int .i64 lot, .slice so sl sc, .slice po tl tc] 48 (0, 0)) := by rw [HW]; exact (Below.heap_alloc _ _ _ (by simp)).trans (heap_alloc_new _ _)
    refine ⟨(Array.getElem?_eq_some_iff.1 hg).1, fun i v hi => ?_⟩
    have : i = 0 ∨ i = 1 ∨ i = 2 := by have := (List.getElem?_eq_some_iff.1 hi).1; simp at this; omega
    rcases this with rfl | rfl | rfl <;> (simp at hi; subst hi; simp [World.cell?, World.frozen?, hg])
  have r1 : Nx (W.heap.size + 1) (.int .i64 0) w1 := by
    have := Nx.new (W.alloc (.cells #[.int .i64 lot, .slice so sl sc, .slice po tl tc] 48)) (.int .i64 0) 3
    rw [World.size_alloc, ← HW] at this
    exact this
  obtain ⟨q3, q4⟩ := all_big (n := n) hbg hmi
  obtain ⟨T, hT⟩ : ∃ x, x = pascalN (b + g) n := ⟨_, rfl⟩
  rw [← hT] at q3 q4 ⊢
  have HAL : Hid (CallsIn Fence.wide 19 Tryz.prog 36 #[.agg #[.int .i64 lot, .slice so sl sc, .slice po tl tc], .int .i64 n] w1 fun e w' => ∃ ro rl rc, e = .returned (.agg #[.slice ro rl rc]) ∧ D w' (.slice ro rl rc) T ∧ Below w1.heap.size w1 w') := callsIn_wide.2 (by
    rw [hlot, hT]
    refine (all_any (b + g) n (.slice so sl sc) (.slice po tl tc) w1 (by omega) (by omega)).mono fun e w' ⟨r, h1, h2, h3⟩ => ?_
    rw [binN_of (by omega)] at h2
    obtain ⟨ao, ac, rfl, -⟩ := h2.shape
    exact ⟨_, _, _, h1, h2, h3⟩)
  have HTM : Hid (∀ W' v, D W' v T → CallsIn Fence.wide 19 Tryz.prog 45 #[.agg #[v], .int .i64 mi] W' fun e w' => ∃ ro rl rc, e = .returned (.agg #[.slice ro rl rc]) ∧ D w' (.slice ro rl rc) (T * mi) ∧ Below W'.heap.size W' w') := fun W' v hv => callsIn_wide.2 (times_big hv hmi q3 q4)
  obtain ⟨lim, hlim⟩ : ∃ x, x = T * mi := ⟨_, rfl⟩
  rw [← hlim] at HTM q4 ⊢
  have HAC : Hid (∀ W', CallsIn Fence.wide 19 Tryz.prog 46 #[] W' fun e w' => e = .returned (accV W'.heap.size) ∧ w' = W'.alloc (.cells #[.slice none 0 0] 62)) := fun W' => callsIn_wide.2 (accumulator_any W')
  have HB1 := Lib.hid hb; have HS1 := Lib.hid s1; have HR1 := Lib.hid r1; have HVB := Lib.hid hvb; have HVG := Lib.hid hvg; have HW' := Lib.hid HW; have HLB := Lib.hid q4
  clear hT hlim hb s1 r1 HW q3 q4 hvb hvg hlot
  refine (callsIn_wide (n := 20)).1 ?_
  refine callsIn_of_wp_marks Tryz.func25 rfl trivial ?_ rfl
  simp only [Tryz.ntmps25, List.size_toArray, List.length_cons, List.length_nil, Nat.reduceAdd, Nat.reduceSub, Array.replicate_succ, Array.replicate_zero, List.push_toArray, List.append_toArray, List.nil_append, List.cons_append]
  gi_upto_region 1 with fail
  rw [← HW'.out]
  have k0 := HS1.out.c0; have k1 := HS1.out.c1; have k2 := (HS1.out.c 2 _ rfl).1
  gi_wp2_with fail
  refine ⟨trivial, HAL.out.mono ?_⟩
  rintro e w2 ⟨ho, tn, tk, rfl, ht, hb2⟩
  have HT2 := Lib.hid ht
  have HB2 := Lib.hid (HB1.out.trans (hb2.mono HB1.out.size))
  have HS2 := Lib.hid (HS1.out.next hb2); have HR2 := Lib.hid (HR1.out.next hb2)
  clear ht hb2 HS1 HR1 HB1 HAL HW' k0 k1 k2
  gi_wp2_with fail
  refine ⟨trivial, (HTM.out _ _ HT2.out).mono ?_⟩
  rintro e V ⟨lv, ll, lc, rfl, hl, hb3⟩
  have HB3 := Lib.hid (HB2.out.trans (hb3.mono HB2.out.size))
  obtain ⟨wT, w4, hT, h4, hs, hs4, hLI, hB4, k0, k1, k2⟩ := least_start W V lot (.slice so sl sc) (.slice po tl tc) n 0 n hl (HR2.out.next hb3) HB3.out (HS2.out.next hb3)
  have HSQ := Lib.hid (terms_seq (m := 19) (lo := 0) (hi := (n : Int)) (a := 0) (N := n + 1) HVB.out HVG.out (by omega) (by omega) hLI.bel (Bs := V.heap.size + 1 + 1 + 1) (by have := HB3.out.size; omega) hB4 rfl (Int.min_self _) (by omega))
  have HTE : Hid (CallsIn Fence.wide 19 Tryz.prog 47 #[.agg #[.int .i64 lot, .slice so sl sc, .slice po tl tc], .int .i64 n, .int .i64 0, .int .i64 n] wT fun e w' => e = .returned (termsV (V.heap.size + 1 + 1 + 1)) ∧ w' = w4) := callsIn_wide.2 (by rw [h4, ← hs]; exact sterms_any wT lot so po sl sc tl tc n 0 n)
  have HLI := Lib.hid hLI; have HT := Lib.hid hT; have HS4 := Lib.hid hs4
  have HVW : Hid (W.heap.size + 1 + 1 ≤ V.heap.size) := by have := (HR2.out.next hb3).lt; show _ ≤ _; omega
  clear hl hb3 hT h4 hs hs4 hLI hB4 HB2 HS2 HR2 HT2 HTM
  gi_wp2_with fail
  refine ⟨trivial, (HAC.out _).mono ?_⟩
  rintro e w' ⟨rfl, rfl⟩
  simp only [World.size_alloc]
  unfold accV at HT ⊢
  gi_upto_region 3 with fail
  rw [← HT.out]
  gi_wp2_with fail
  refine ⟨trivial, HTE.out.mono ?_⟩
  rintro e w' ⟨rfl, rfl⟩
  gi_wp2_with fail
  have hge : W.heap.size ≤ w'.heap.size := HLI.out.bel.size
  have hs9 := HS4.out
  have hvw := HVW.out
  have hdd : ∀ k : Nat, ((Fence.wide).depth.isSome = true → 1 ≤ k) := fun k h => by cases h
  refine range_e rfl (by omega) (gf := 71) (lb := #[.pointer (some ⟨V.heap.size + 1 + 1 + 1 + 1 + 1, 0, none⟩), .pointer (some ⟨V.heap.size + 1 + 1 + 1 + 1 + 1 + 1, 0, none⟩), .pointer (some ⟨V.heap.size + 1 + 1 + 1 + 1, 0, none⟩), .pointer (some ⟨V.heap.size + 1 + 1 + 1, 0, none⟩)]) rfl trivial (enters_of Tryz.func71 (by kernel_rfl) rfl)
    HSQ.out Kt.trans (fun W'' l o o' hl h hc hw => ⟨belowK_b hge W'' l o o' hl h hc hw, fun k h1 h2 => World.putObj_heap_other (by omega)⟩) (fun _ _ => rfl)
    (fun k W' => LI W V lim (hsum b g n 0 k) W' ∧ ∀ j, j < k → hsum b g n 0 (j + 1) * 1000000 < lim)
    (fun c k W' => (Nx (W.heap.size + 1) (.int .i64 (k : Int)) W' ∧ Below W.heap.size W W') ∧ c = .ret ∧ (∀ j, j < k → hsum b g n 0 (j + 1) * 1000000 < lim) ∧ lim ≤ hsum b g n 0 (k + 1) * 1000000)
    (OwnFrom.and (LI.own _ hge) (ownFrom_pure _ _)) (fun c => OwnFrom.and (fun k X Y row h hg hr => ⟨h.1.kept hg (fun r e => (hr r e).2), h.2.grown hg h.2.size (fun j e => Nat.le_trans hge (hr j e).1)⟩) (ownFrom_pure _ _)) ⟨HLI.out, fun j h => absurd h (Nat.not_lt_zero _)⟩
    (fun k v a' W' => ∃ Bx xo xl xc, v = .slice xo xl xc ∧ V.heap.size + 1 + 1 + 1 + 1 + 1 + 1 + 1 ≤ Bx ∧ Nx Bx v W' ∧ D W' v (hyp b g n (0 + k)) ∧ a' = { tmps := #[.agg #[.int .i64 lot, .slice so sl sc, .slice po tl tc], .int .i64 n, .int .i64 mi, .pointer (some ⟨W.heap.size, 0, none⟩), undef, undef, .pointer (some ⟨W.heap.size + 1, 0, none⟩), .pointer (some ⟨V.heap.size, 0, none⟩), .pointer (some ⟨V.heap.size + 1 + 1, 0, none⟩), .int .i64 (k : Int), .pointer (some ⟨Bx, 0, none⟩), undef, .agg #[.int .i64 lot, .slice so sl sc, .slice po tl tc], .int .i64 n, .agg #[.slice ho tn tk], .int .i64 mi, .agg #[.slice lv ll lc], .func (.func 69) #[] #[.pointer (some ⟨V.heap.size + 1, 0, none⟩)], .agg #[.int .i64 lot, .slice so sl sc, .slice po tl tc], .int .i64 n, .int .i64 n, termsV (V.heap.size + 1 + 1 + 1), .int .i64 (k : Int), .agg #[.slice xo xl xc], undef, undef, undef, undef, undef, undef, undef, undef, undef, undef], defers := [] })
    (fun k v a' => fun _ X Y row hs hg hr => by
      obtain ⟨Bx, xo, xl, xc, h1, h2, h3, h4, h5⟩ := hs
      have hr2 : ∀ r, row = some r → ∃ o : Obj, X.heap[r]? = some o ∧ o.isCells = false := fun r e => (hr r e).2
      exact ⟨Bx, xo, xl, xc, h1, h2, h3.kept hg hr2, h4.kept hg hr2, h5⟩) ?assign ?body ?done ?stop
  case assign =>
    intro l k v W' K hk hI hE hK
    obtain ⟨xo, xl, xc, rfl⟩ : ∃ xo xl xc, v = .slice xo xl xc := by
      obtain ⟨xo, xc, h, -⟩ := hE.shape
      exact ⟨_, _, _, h⟩
    have hsz := hI.1.sz
    unfold encT
    rw [Nat.zero_add]
    gi_wp2
    exact hK _ _ ((KeepsOthers.alloc _ _).from _) ⟨(Below.refl _ W').alloc hI.1.bel.size _, fun j h1 h2 => Below.heap_alloc _ _ _ (by omega)⟩ ⟨hI.1.next (alloc1_below _ _), hI.2⟩ ⟨W'.heap.size, _, _, _, rfl, hsz, Nx.new _ _ _, hE.below (alloc1_below _ _), rfl⟩
  case body =>
    rintro l k v a' W' hk ⟨hI, hJ⟩ ⟨Bx, xo, xl, xc, rfl, hBx, hX, hD, rfl⟩
    obtain ⟨⟨mo, ml, mc, m1, m2⟩, ⟨vo, vl, vc, v1, v2⟩, f1, r1, b1, sz⟩ := hI
    obtain ⟨q1, -⟩ := hsum_big (n := n) (a := 0) (N := k) hbg (by omega) (Nat.le_refl 1000000)
    obtain ⟨q5, q6⟩ := hsum_big (n := n) (a := 0) (N := k + 1) hbg (by omega) (Nat.le_refl 1000000)
    have q2 : hyp b g n (0 + k) ≤ big := le_big (hyp_le _ _ _ _) (by omega)
    have q3 : hsum b g n 0 k + hyp b g n (0 + k) = hsum b g n 0 (k + 1) := rfl
    have HA := Lib.hid (acc_any v1 v2 hD (bits_of q1).2 (bits_of q2).2 (by rw [q3]; exact (bits_of q5).1))
    rw [q3] at HA
    obtain ⟨S, hS⟩ : ∃ S, S = hsum b g n 0 (k + 1) := ⟨_, rfl⟩
    rw [← hS] at HA q5 q6
    have HTM : Hid (∀ W' v, D W' v S → CallsIn Fence.wide 17 Tryz.prog 45 #[.agg #[v], .int .i64 1000000] W' fun e w' => ∃ ro rl rc, e = .returned (.agg #[.slice ro rl rc]) ∧ Hid (D w' (.slice ro rl rc) (S * 1000000)) ∧ Below W'.heap.size W' w') := fun W' v hv => callsIn_wide.2 (times_big hv (Nat.le_refl _) q5 q6)
    obtain ⟨R, hR⟩ : ∃ R, R = cmpN ((S * 1000000 : Nat) : Int) (lim : Int) := ⟨_, rfl⟩
    have HCM : Hid (∀ W' u v, D W' u (S * 1000000) → D W' v lim → CallsIn Fence.wide 17 Tryz.prog 48 #[.agg #[u], .agg #[v]] W' fun e w' => e = .returned (.int .i64 R) ∧ Below W'.heap.size W' w') := fun W' u v hu hv => by
      rw [hR]
      exact callsIn_wide.2 (NCmp_any u v _ _ W' hu hv (by have := (bits_of q6).2; omega) (by have := (bits_of HLB.out).2; omega))
    have c0 := f1.c0; have c1 := hX.c0
    unfold accV at c0
    have M1 := Lib.hid m1; have M2 := Lib.hid m2; have R1 := Lib.hid r1; have F1 := Lib.hid f1; have B1 := Lib.hid b1; have SZ := Lib.hid sz; have HJ := Lib.hid hJ; have HS := Lib.hid hS; have HR := Lib.hid hR
    clear q1 q2 q3 q5 q6 v1 v2 hD m1 m2 r1 f1 b1 sz hJ hS hR
    gi_wp2_with (refine ⟨trivial, ?_⟩; gi_at_call 69; refine (CallsIn.inRound l (callsIn_wide.2 HA.out)).mono ?_; rintro e w6 ⟨ro, rl, rc, rfl, g1, g2, g3, g4⟩)
    have hsz := SZ.out
    have hvw2 := hvw
    obtain ⟨w7, HW7⟩ : ∃ w7, w7 = w6.alloc (.cells #[.slice ro rl rc] 62) := ⟨_, rfl⟩
    have b7 : Below w6.heap.size w6 w7 := by rw [HW7]; exact alloc1_below _ _
    have x7 : Nx w6.heap.size (.slice ro rl rc) w7 := by rw [HW7]; exact Nx.new _ _ _
    have hb6 : Below W.heap.size W' w6 := (Below.refl _ _).grown g3 B1.out.size (fun j e => by cases e; omega)
    have hm7 : Nx V.heap.size (.slice mo ml mc) w7 := (M1.out.past g3 (by omega)).next b7
    have hd7 := g1.below b7
    have hl7 := (g4 _ _ M2.out).below b7
    have HC7 : Hid (∀ W'', Kw w7 W'' → W''.cell? ⟨w6.heap.size, 0, none⟩ = some (.slice ro rl rc) ∧ W''.cell? ⟨V.heap.size, 0, none⟩ = some (.slice mo ml mc)) := fun W'' h => ⟨(x7.next h).c0, (hm7.next h).c0⟩
    have HT7 : Hid (∀ W'', Kw w7 W'' → CallsIn Fence.wide 17 Tryz.prog 45 #[.agg #[.slice ro rl rc], .int .i64 1000000] W'' fun e w' => ∃ ro rl rc, e = .returned (.agg #[.slice ro rl rc]) ∧ Hid (D w' (.slice ro rl rc) (S * 1000000)) ∧ Kw w7 w') := fun W'' h => (HTM.out W'' _ (hd7.below h)).mono fun e w' ⟨a1, a2, a3, h1, h2, h3⟩ => ⟨a1, a2, a3, h1, h2, Kw.next h h3⟩
    have HC8 : Hid (∀ W'' u, Kw w7 W'' → D W'' u (S * 1000000) → CallsIn Fence.wide 17 Tryz.prog 48 #[.agg #[u], .agg #[.slice mo ml mc]] W'' fun e w' => e = .returned (.int .i64 R) ∧ Kw w7 w') := fun W'' u h hu => (HCM.out W'' u _ hu (hl7.below h)).mono fun e w' ⟨h1, h3⟩ => ⟨h1, Kw.next h h3⟩
    have HEND : Hid (∀ W'', Kw w7 W'' → KeepsFrom w'.heap.size W' W'' ∧ Kt W.heap.size (V.heap.size + 1 + 1 + 1) W' W'' ∧ LI W V lim S W'') := fun W'' h => by
      have h6 : Below w6.heap.size w6 W'' := b7.trans (Below.mono h b7.size)
      have hbw : Below W.heap.size W' W'' := hb6.trans (h6.mono (Nat.le_trans B1.out.size g3.size))
      refine ⟨⟨Nat.le_trans g3.size h6.size, fun j o hj ho _ => ?_⟩, ⟨hbw, fun j h1 h2 => ?_⟩, ?_⟩
      · have hj2 := (Array.getElem?_eq_some_iff.1 ho).1
        exact (h6.block j (Nat.lt_of_lt_of_le hj2 g3.size)).trans ((g3.block j hj2 (by intro e; injection e with e; omega)).trans ho)
      · exact (h6.block j (by have := g3.size; omega)).trans (g3.block j (by omega) (by intro e; injection e with e; omega))
      · exact ⟨⟨_, _, _, (M1.out.past g3 (by omega)).next h6, (g4 _ _ M2.out).below h6⟩, ⟨_, _, _, g2.next h6, g1.below h6⟩, (F1.out.past g3 (by omega)).next h6, (R1.out.past g3 (by omega)).next h6, B1.out.trans hbw, Nat.le_trans hsz (Nat.le_trans g3.size h6.size)⟩
    have HW7' := Lib.hid HW7
    clear HW7 b7 x7 hb6 hm7 hd7 hl7 g1 g2 g3 g4 HTM HCM c0 c1 M1 M2 R1 F1 HA hX hs9
    rw [← HW7'.out]
    have hs : Kw w7 w7 := Below.refl _ _
    have hs2 : Kw w7 w7.drew := Below.drew hs
    have hc0 := HC7.out _ hs
    have hc1 := HC7.out _ hs2
    gi_region_with (first | (refine ⟨trivial, ?_⟩; (try refine ⟨hdd _, ?_⟩); gi_at_call 45; with_reducible refine (CallsIn.inRound l (HT7.out _ ?h)).mono ?_; (case h => assumption); rintro e w8 ⟨po', pl, pc, rfl, hd8, hs8⟩; have hc8 := HC7.out _ hs8) | (refine ⟨trivial, ?_⟩; (try refine ⟨hdd _, ?_⟩); gi_at_call 48; with_reducible refine (CallsIn.inRound l (HC8.out _ _ ?h ?h2)).mono ?_; (case h => assumption); (case h2 => exact hd8.out); rintro e w9 ⟨rfl, hs9⟩) | fail)
    all_goals
      have HS9 := Lib.hid hs9
      obtain ⟨h1, h2, h3⟩ := HEND.out _ HS9.out
      have H1 := Lib.hid h1; have H2 := Lib.hid h2; have H3 := Lib.hid h3
      have c8 := h3.res.c0; have f8 := h3.res.f0
      clear hs9 hs8 hc8 hc0 hc1 hs hs2 h1 h2 h3
      by_cases hle : lim ≤ S * 1000000
      · have hR0 : R ≥ 0 := by
          rw [HR.out]
          unfold cmpN
          rw [if_neg (by omega)]
          split <;> omega
        have HLE := Lib.hid hle
        clear hle
        gi_wp2_with fail
        exact ⟨H1.out.trans ((KeepsOthers.setCell _ _ _).from _), ⟨H3.out.res.set _, H3.out.bel.setCell (p := ⟨W.heap.size + 1, 0, none⟩) (by show W.heap.size ≤ W.heap.size + 1; omega) _⟩, rfl, HJ.out, by rw [← HS.out]; exact HLE.out⟩
      · have hR0 : ¬ R ≥ 0 := by
          rw [HR.out]
          unfold cmpN
          rw [if_pos (by omega)]
          decide
        have HLE := Lib.hid hle
        clear hle
        gi_wp2_with fail
        refine ⟨H1.out, H2.out, by rw [← HS.out]; exact H3.out, fun j hj => ?_⟩
        by_cases hjk : j < k
        · exact HJ.out j hjk
        · have : j = k := by omega
          subst this
          have := HLE.out
          rw [← HS.out]; omega
  case done =>
    rintro d W' hd ⟨⟨-, -, -, r1, b1, sz⟩, hJ⟩ hK
    have c3 := r1.c0; have c4 := r1.f0
    have HB := Lib.hid (b1.setCell (p := ⟨W.heap.size + 1, 0, none⟩) (by show W.heap.size ≤ W.heap.size + 1; omega) (.int .i64 n))
    have HR := Lib.hid (r1.set (.int .i64 n))
    have HK := Lib.hid ((KeepsOthers.setCell W' ⟨W.heap.size + 1, 0, none⟩ (.int .i64 n)).same d _ hK rfl)
    clear r1 b1 sz hK
    gi_wp2
    have c5 := (HR.out.kept (grownBy_putObj' _ d (.deferred none)) (fun r e => by cases e; exact ⟨_, HK.out, rfl⟩)).c0
    refine ⟨by simp, .inl ⟨_, _, rfl, run_takeDeferred HK.out, ?_⟩⟩
    refine ⟨.int .i64 n, by simp [results, Tryz.results25, go_sem, c5], n, rfl, Nat.le_refl _, fun j h => hJ j (by omega), fun h => absurd h (Nat.lt_irrefl _), HB.out.trans (belowK_b (w := W) (Nat.le_refl _) _ d _ _ (by omega) HK.out rfl rfl)⟩
  case stop =>
    rintro d c k W' hd hk ⟨⟨r1, b1⟩, rfl, hJ, hle⟩ hK
    have HR := Lib.hid r1; have HB := Lib.hid b1; have HK := Lib.hid hK
    clear r1 b1 hK
    gi_wp2
    have c5 := (HR.out.kept (grownBy_putObj' _ d (.deferred none)) (fun r e => by cases e; exact ⟨_, HK.out, rfl⟩)).c0
    refine ⟨by simp, .inl ⟨_, _, rfl, run_takeDeferred HK.out, ?_⟩⟩
    refine ⟨.int .i64 k, by simp [results, Tryz.results25, go_sem, c5], k, rfl, by omega, hJ, fun _ => hle, HB.out.trans (belowK_b (w := W) (Nat.le_refl _) _ d _ _ (by omega) HK.out rfl rfl)⟩
end Go.Proofs.YteieedfigoihpaaGreatDoor
namespace Go.Proofs.YteieedfigoihpaaGreatDoor
open Go Go.RowKit Gu

/-- how many samples of n pieces have at most c bad ones -/
def accS (b g n : Nat) (c : Int) : Nat := hsum b g n 0 (c + 1).toNat
theorem accS_min {b g n N : Nat} {c top : Int} (hmin : min c (n : Int) = top) (hN : (N : Int) = max 0 (top + 1 - (0 : Nat))) : hsum b g n 0 N = accS b g n c := by
  unfold accS
  by_cases h : c ≤ n
  · rw [show N = (c + 1).toNat by omega]
  · rw [show N = n + 1 by omega, hsum_full (show n + 1 ≤ (c + 1).toNat by omega)]
theorem isFrom_is {lo x hi : Int} {r : Bool} (h : decide (lo ≤ x ∧ x ≤ hi) = r) : Hid (∀ W', Calls Tryz.prog 16 #[.int .i64 lo, .int .i64 x, .int .i64 hi] W' fun e w' => e = .returned (.bool r) ∧ W' = w') := fun W' => by
  rw [← h]; exact isFrom_any lo x hi W'
set_option maxHeartbeats 1000000 in
theorem Accept_bad {lot bad n c : Int} {W : World} (h : ¬ ((0 ≤ lot ∧ lot ≤ 2048) ∧ (0 ≤ bad ∧ bad ≤ lot) ∧ (0 ≤ n ∧ n ≤ lot))) :
    Calls Tryz.prog 6 #[.int .i64 lot, .int .i64 bad, .int .i64 n, .int .i64 c] W fun e w' => e = .returned (.tuple #[.agg #[.slice none 0 0, .slice none 0 0], .int .i64 2]) ∧ Below W.heap.size W w' := by
  obtain ⟨w1, HW⟩ : ∃ w1, w1 = W.alloc (.cells #[.slice none 0 0, .slice none 0 0] 26) := ⟨_, rfl⟩
  have hb : Below W.heap.size W w1 := by rw [HW]; exact alloc1_below _ _
  have r1 : Bxs W.heap.size [.slice none 0 0, .slice none 0 0] w1 := by rw [HW]; exact Bxs.new2 _ _ _ _
  obtain ⟨z0, z1⟩ := read_two r1.c0 r1.c1 (.slice none 0 0) (.slice none 0 0)
  have k2 := r1.c0; have k3 := r1.c1; have k4 := r1.f0; have k5 := r1.f1
  have HBE := Lib.hid ((hb.setCell (p := ⟨W.heap.size, 0, none⟩) (Nat.le_refl _) (.slice none 0 0)).setCell (p := ⟨W.heap.size, 1, none⟩) (Nat.le_refl _) (.slice none 0 0))
  have HW' := Lib.hid HW
  clear hb r1 HW
  by_cases h1 : 0 ≤ lot ∧ lot ≤ 2048
  · have HF1 := isFrom_is (decide_eq_true h1)
    by_cases h2 : 0 ≤ bad ∧ bad ≤ lot
    · have HF2 := isFrom_is (decide_eq_true h2)
      have HF3 := isFrom_is (decide_eq_false (p := 0 ≤ n ∧ n ≤ lot) (fun h3 => h ⟨h1, h2, h3⟩))
      clear h h1 h2
      go_enter Tryz.func6, Tryz.ntmps6
      go_upto_region 1 with fail
      rw [← HW'.out]
      go_wp2_with fail
      refine (HF1.out _).mono ?_
      rintro e w' ⟨rfl, rfl⟩
      go_wp2_with fail
      refine (HF2.out _).mono ?_
      rintro e w' ⟨rfl, rfl⟩
      go_wp2_with fail
      refine (HF3.out _).mono ?_
      rintro e w' ⟨rfl, rfl⟩
      go_wp2_with fail
      refine bodyPost_ret (v := .tuple #[.agg #[.slice none 0 0, .slice none 0 0], .int .i64 2]) (by simp [results, Tryz.results6, go_sem, z0, z1]) rfl ?_
      exact ⟨rfl, HBE.out⟩
    · have HF2 := isFrom_is (decide_eq_false h2)
      clear h h1 h2
      go_enter Tryz.func6, Tryz.ntmps6
      go_upto_region 1 with fail
      rw [← HW'.out]
      go_wp2_with fail
      refine (HF1.out _).mono ?_
      rintro e w' ⟨rfl, rfl⟩
      go_wp2_with fail
      refine (HF2.out _).mono ?_
      rintro e w' ⟨rfl, rfl⟩
      go_wp2_with fail
      refine bodyPost_ret (v := .tuple #[.agg #[.slice none 0 0, .slice none 0 0], .int .i64 2]) (by simp [results, Tryz.results6, go_sem, z0, z1]) rfl ?_
      exact ⟨rfl, HBE.out⟩
  · have HF1 := isFrom_is (decide_eq_false h1)
    clear h h1
    go_enter Tryz.func6, Tryz.ntmps6
    go_upto_region 1 with fail
    rw [← HW'.out]
    go_wp2_with fail
    refine (HF1.out _).mono ?_
    rintro e w' ⟨rfl, rfl⟩
    go_wp2_with fail
    refine bodyPost_ret (v := .tuple #[.agg #[.slice none 0 0, .slice none 0 0], .int .i64 2]) (by simp [results, Tryz.results6, go_sem, z0, z1]) rfl ?_
    exact ⟨rfl, HBE.out⟩
set_option maxHeartbeats 1000000 in
theorem Accept_any {b g n : Nat} {c : Int} {W : World} (hbg : b + g ≤ 2048) (hn : n ≤ b + g) :
    Calls Tryz.prog 6 #[.int .i64 ((b + g : Nat) : Int), .int .i64 b, .int .i64 n, .int .i64 c] W fun e w' => ∃ ao al ac bo bl bc, e = .returned (.tuple #[.agg #[.slice ao al ac, .slice bo bl bc], .int .i64 0]) ∧
      D w' (.slice ao al ac) (lowP (accS b g n c) (pascalN (b + g) n)) ∧ D w' (.slice bo bl bc) (lowQ (accS b g n c) (pascalN (b + g) n)) ∧ Below W.heap.size W w' := by
  obtain ⟨w1, HW⟩ : ∃ w1, w1 = W.alloc (.cells #[.slice none 0 0, .slice none 0 0] 26) := ⟨_, rfl⟩
  have hb : Below W.heap.size W w1 := by rw [HW]; exact alloc1_below _ _
  have r1 : Bxs W.heap.size [.slice none 0 0, .slice none 0 0] w1 := by rw [HW]; exact Bxs.new2 _ _ _ _
  have HSO := Lib.hid (samplesOf_any (b + g) b w1 hbg (by omega))
  rw [show b + g - b = g by omega] at HSO
  have HF1 := isFrom_is (decide_eq_true (show (0 : Int) ≤ ((b + g : Nat) : Int) ∧ ((b + g : Nat) : Int) ≤ 2048 by omega))
  have HF2 := isFrom_is (decide_eq_true (show (0 : Int) ≤ (b : Int) ∧ (b : Int) ≤ ((b + g : Nat) : Int) by omega))
  have HF3 := isFrom_is (decide_eq_true (show (0 : Int) ≤ (n : Int) ∧ (n : Int) ≤ ((b + g : Nat) : Int) by omega))
  obtain ⟨top, htop⟩ : ∃ top, min c (n : Int) = top := ⟨_, rfl⟩
  obtain ⟨N, hN⟩ : ∃ N : Nat, (N : Int) = max 0 (top + 1 - (0 : Nat)) := ⟨(top + 1).toNat, by omega⟩
  have HCH : Hid (∀ W' vb vg, NRow W' vb (b + 1) (pascalN b) → NRow W' vg (g + 1) (pascalN g) → Calls Tryz.prog 18 #[.agg #[.int .i64 ((b + g : Nat) : Int), vb, vg], .int .i64 n, .int .i64 0, .int .i64 c] W' fun e w' => ∃ ao al ac bo bl bc, e = .returned (.agg #[.slice ao al ac, .slice bo bl bc]) ∧
      D w' (.slice ao al ac) (lowP (accS b g n c) (pascalN (b + g) n)) ∧ D w' (.slice bo bl bc) (lowQ (accS b g n c) (pascalN (b + g) n)) ∧ Below W'.heap.size W' w') := fun W' vb vg h1 h2 => by
    have := chance_any (a := 0) (lo := 0) (hi := c) h1 h2 hbg hn rfl htop hN (by omega)
    rwa [accS_min htop hN] at this
  generalize lowP (accS b g n c) (pascalN (b + g) n) = P at HCH ⊢
  generalize lowQ (accS b g n c) (pascalN (b + g) n) = Q at HCH ⊢
  generalize ((b + g : Nat) : Int) = lot at HF1 HF2 HF3 HCH HSO ⊢
  have HB := Lib.hid hb; have HR := Lib.hid r1; have HW' := Lib.hid HW
  clear hb r1 HW htop hN
  go_enter Tryz.func6, Tryz.ntmps6
  go_upto_region 1 with fail
  rw [← HW'.out]
  go_wp2_with fail
  refine (HF1.out _).mono ?_
  rintro e w' ⟨rfl, rfl⟩
  go_wp2_with fail
  refine (HF2.out _).mono ?_
  rintro e w' ⟨rfl, rfl⟩
  go_wp2_with fail
  refine (HF3.out _).mono ?_
  rintro e w' ⟨rfl, rfl⟩
  go_wp2_with fail
  refine HSO.out.mono ?_
  rintro e w2 ⟨vb, vg, rfl, h1, h2, hb2⟩
  have H1 := Lib.hid h1; have H2 := Lib.hid h2; have HB2 := Lib.hid hb2
  clear h1 h2 hb2
  go_wp2_with fail
  refine (HCH.out _ _ _ H1.out.out H2.out.out).mono ?_
  rintro e w3 ⟨ao, al, ac, bo, bl, bc, rfl, hq, hq2, hb3⟩
  have h13 := HB2.out.trans (hb3.mono HB2.out.size)
  have hr := HR.out.next h13
  have k2 := hr.c0; have k3 := hr.c1; have k4 := hr.f0; have k5 := hr.f1
  obtain ⟨z0, z1⟩ := read_two k2 k3 (.slice ao al ac) (.slice bo bl bc)
  have HD1 := Lib.hid (hr.keep2 hq (.slice ao al ac) (.slice bo bl bc)); have HD2 := Lib.hid (hr.keep2 hq2 (.slice ao al ac) (.slice bo bl bc))
  have HBE := Lib.hid (((HB.out.trans (h13.mono HB.out.size)).setCell (p := ⟨W.heap.size, 0, none⟩) (Nat.le_refl _) (.slice ao al ac)).setCell (p := ⟨W.heap.size, 1, none⟩) (Nat.le_refl _) (.slice bo bl bc))
  clear hr hq hq2 hb3 h13
  go_wp2_with fail
  refine bodyPost_ret (v := .tuple #[.agg #[.slice ao al ac, .slice bo bl bc], .int .i64 0]) (by simp [results, Tryz.results6, go_sem, z0, z1]) rfl ?_
  exact ⟨_, _, _, _, _, _, rfl, HD1.out, HD2.out, HBE.out⟩
end Go.Proofs.YteieedfigoihpaaGreatDoor
namespace Go.Proofs.YteieedfigoihpaaGreatDoor
open Go Go.RowKit Gu

/-- c is the least acceptance number that keeps the first risk -/
def LeastC (b g n m c : Nat) : Prop := c ≤ n ∧ (∀ j, j < c → hsum b g n 0 (j + 1) * 1000000 < pascalN (b + g) n * m) ∧ (c < n → pascalN (b + g) n * m ≤ hsum b g n 0 (c + 1) * 1000000)
/-- the second risk is kept -/
def KeepB (b g n beta c : Nat) : Prop := hsum b g n 0 (c + 1) * 1000000 ≤ pascalN (b + g) n * beta
theorem LeastC.same {b g n m c d : Nat} (h : LeastC b g n m c) (h' : LeastC b g n m d) : c = d := by
  obtain ⟨h1, h2, h3⟩ := h
  obtain ⟨h4, h5, h6⟩ := h'
  rcases Nat.lt_trichotomy c d with hlt | he | hlt
  · have := h5 c hlt
    have := h3 (by omega)
    omega
  · exact he
  · have := h2 d hlt
    have := h6 (by omega)
    omega
/-- the whole lot as a sample: it has all its bad pieces -/
theorem hyp_whole {b g i : Nat} (h : i ≠ b) : hyp b g (b + g) i = 0 := by
  unfold hyp
  split
  · rcases Nat.lt_or_gt_of_ne h with h1 | h1
    · rw [pascalN_gt (n := g) (by omega), Nat.mul_zero]
    · rw [pascalN_gt (n := b) h1, Nat.zero_mul]
  · rfl
theorem hyp_whole1 {b g : Nat} : hyp b g (b + g) b = 1 := by
  rw [hyp_of (by omega), show b + g - b = g by omega, pascalN_self, pascalN_self]
theorem hsum_whole (b g : Nat) : ∀ m, hsum b g (b + g) 0 m = if b < m then 1 else 0
  | 0 => by simp [hsum]
  | m + 1 => by
    rw [hsum_succ, hsum_whole b g m, Nat.zero_add]
    by_cases h : m = b
    · subst h
      rw [hyp_whole1, if_neg (by omega), if_pos (by omega)]
    · rw [hyp_whole h]
      by_cases h2 : b < m
      · rw [if_pos h2, if_pos (by omega)]
      · rw [if_neg h2, if_neg (by omega)]
theorem keep_whole {b1 g1 b2 g2 n m beta c : Nat} (hs : b1 + g1 = b2 + g2) (hlt : b1 < b2) (hm : m ≤ 1000000) (hn : n = b2 + g2) (h : LeastC b1 g1 n m c) : KeepB b2 g2 n beta c := by
  obtain ⟨-, h2, -⟩ := h
  have hc : c ≤ b1 := by
    refine Nat.le_of_not_lt fun hx => ?_
    have h3 := h2 b1 hx
    rw [hn, ← hs, hsum_whole, if_pos (by omega), pascalN_self] at h3
    omega
  unfold KeepB
  rw [hn, hsum_whole, if_neg (by omega), Nat.zero_mul]
  exact Nat.zero_le _
theorem isRisk_is {x : Nat} (h : x ≤ 1000000) : Hid (∀ W', Calls Tryz.prog 24 #[.int .i64 x] W' fun e w' => e = .returned (.bool true) ∧ W' = w') := fun W' => by
  have := isRisk_any x W'
  rwa [decide_eq_true (show (0 : Int) ≤ (x : Int) ∧ (x : Int) ≤ 1000000 by omega)] at this
set_option maxRecDepth 100000 in
set_option maxHeartbeats 4000000 in
theorem Plan_any {b1 g1 b2 g2 al be : Nat} {W : World} (hs : b1 + g1 = b2 + g2) (hl : b2 + g2 ≤ 256) (hlt : b1 < b2) (hal : al ≤ 1000000) (hbe : be ≤ 1000000) :
    Calls Tryz.prog 11 #[.int .i64 ((b2 + g2 : Nat) : Int), .int .i64 b1, .int .i64 b2, .int .i64 al, .int .i64 be] W fun e w' => ∃ n c : Nat, e = .returned (.tuple #[.int .i64 n, .int .i64 c, .int .i64 0]) ∧
      n ≤ b2 + g2 ∧ LeastC b1 g1 n (1000000 - al) c ∧ KeepB b2 g2 n be c ∧ (∀ m, m < n → ∀ d, LeastC b1 g1 m (1000000 - al) d → ¬ KeepB b2 g2 m be d) ∧ Below W.heap.size W w' := by
  obtain ⟨lot, hlot⟩ : ∃ lot : Nat, lot = b2 + g2 := ⟨_, rfl⟩
  have HS1 : Hid (∀ W', Calls Tryz.prog 17 #[.int .i64 lot, .int .i64 b1] W' fun e w' => ∃ so sl sc po pl pc, e = .returned (.agg #[.int .i64 lot, .slice so sl sc, .slice po pl pc]) ∧ Hid (NRow w' (.slice so sl sc) (b1 + 1) (pascalN b1)) ∧ Hid (NRow w' (.slice po pl pc) (g1 + 1) (pascalN g1)) ∧ Hid (Below W'.heap.size W' w')) := fun W' => by
    have := samplesOf_any lot b1 W' (by omega) (by omega)
    rw [show lot - b1 = g1 by omega] at this
    refine this.mono fun e w' ⟨vb, vg, h1, h2, h3, h4⟩ => ?_
    obtain ⟨_, _, _, rfl⟩ := h2.out.slice
    obtain ⟨_, _, _, rfl⟩ := h3.out.slice
    exact ⟨_, _, _, _, _, _, h1, h2, h3, h4⟩
  have HS2 : Hid (∀ W', Calls Tryz.prog 17 #[.int .i64 lot, .int .i64 b2] W' fun e w' => ∃ so sl sc po pl pc, e = .returned (.agg #[.int .i64 lot, .slice so sl sc, .slice po pl pc]) ∧ Hid (NRow w' (.slice so sl sc) (b2 + 1) (pascalN b2)) ∧ Hid (NRow w' (.slice po pl pc) (g2 + 1) (pascalN g2)) ∧ Hid (Below W'.heap.size W' w')) := fun W' => by
    have := samplesOf_any lot b2 W' (by omega) (by omega)
    rw [show lot - b2 = g2 by omega] at this
    refine this.mono fun e w' ⟨vb, vg, h1, h2, h3, h4⟩ => ?_
    obtain ⟨_, _, _, rfl⟩ := h2.out.slice
    obtain ⟨_, _, _, rfl⟩ := h3.out.slice
    exact ⟨_, _, _, _, _, _, h1, h2, h3, h4⟩
  have HF1 := isFrom_is (decide_eq_true (show (1 : Int) ≤ (lot : Int) ∧ (lot : Int) ≤ 256 by omega))
  have HR1 := isRisk_is hal; have HR2 := isRisk_is hbe
  have HLE : Hid (∀ W' vb vg (n : Nat), n ≤ lot → NRow W' vb (b1 + 1) (pascalN b1) → NRow W' vg (g1 + 1) (pascalN g1) → Calls Tryz.prog 25 #[.agg #[.int .i64 lot, vb, vg], .int .i64 n, .int .i64 (1000000 - (al : Int))] W' fun e w' => ∃ c : Nat, e = .returned (.int .i64 c) ∧ Hid (LeastC b1 g1 n (1000000 - al) c) ∧ Hid (Below W'.heap.size W' w')) := fun W' vb vg n hn h1 h2 => by
    have := least_any h1 h2 (n := n) (mi := 1000000 - al) (by omega) (by omega) (by omega)
    rw [show b1 + g1 = lot by omega, show ((1000000 - al : Nat) : Int) = 1000000 - (al : Int) by omega] at this
    refine this.mono fun e w' ⟨c, h3, h4, h5, h6, h7⟩ => ⟨c, h3, ?_, h7⟩
    show LeastC _ _ _ _ _
    unfold LeastC
    rw [show b1 + g1 = lot by omega]
    exact ⟨h4, h5, h6⟩
  have HCM : Hid (∀ W' vb vg (n c : Nat), n ≤ lot → c ≤ n → NRow W' vb (b2 + 1) (pascalN b2) → NRow W' vg (g2 + 1) (pascalN g2) → Calls Tryz.prog 26 #[.agg #[.int .i64 lot, vb, vg], .int .i64 n, .int .i64 c, .int .i64 be] W' fun e w' => ∃ R : Int, e = .returned (.int .i64 R) ∧ Hid (R > 0 ↔ ¬ KeepB b2 g2 n be c) ∧ Hid (Below W'.heap.size W' w')) := fun W' vb vg n c hn hc h1 h2 => by
    have := scompare_any h1 h2 (n := n) (c := (c : Int)) (top := (c : Int)) (N := c + 1) (mi := be) (by omega) (by omega) (by omega) (by omega) (by omega) hbe
    rw [show ((b2 + g2 : Nat) : Int) = (lot : Int) by omega] at this
    refine this.mono fun e w' ⟨h3, h4⟩ => ⟨_, h3, ?_, h4⟩
    show _ ↔ _
    unfold cmpN KeepB
    split
    · constructor
      · intro h; omega
      · intro h; omega
    · split
      · constructor
        · intro _; omega
        · intro _; omega
      · constructor
        · intro h; omega
        · intro h; omega
  have HKW : Hid (∀ n c, n = lot → LeastC b1 g1 n (1000000 - al) c → KeepB b2 g2 n be c) := fun n c hn h => keep_whole hs hlt (Nat.sub_le _ _) (hn.trans hlot) h
  have hw1 : IntKind.i64.wrap (1000000 - (al : Int)) = 1000000 - (al : Int) := IntWalk.i64_in _ (by omega)
  have hg1 : ¬ (b1 : Int) < 0 := by omega
  have hg2 : ¬ (b1 : Int) ≥ (b2 : Int) := by omega
  have hg3 : ¬ (b2 : Int) > (lot : Int) := by omega
  have hl2 : lot ≤ 256 := by omega
  rw [show ((b2 + g2 : Nat) : Int) = (lot : Int) by rw [hlot], ← hlot]
  clear hs hl hlt hal hbe hlot
  go_enter Tryz.func11, Tryz.ntmps11
  go_wp2_with fail
  refine (HF1.out _).mono ?_
  rintro e w' ⟨rfl, rfl⟩
  go_wp2_with fail
  refine (HR1.out _).mono ?_
  rintro e w' ⟨rfl, rfl⟩
  go_wp2_with fail
  refine (HR2.out _).mono ?_
  rintro e w' ⟨rfl, rfl⟩
  go_wp2_with fail
  refine (HS1.out _).mono ?_
  rintro e w1 ⟨so, sl, sc, po, pl, pc, rfl, h1, h2, hb1⟩
  go_wp2_with fail
  refine (HS2.out _).mono ?_
  rintro e w2 ⟨vo, vl, vc, qo, ql, qc, rfl, h3, h4, hb2⟩
  obtain ⟨w3, HW3⟩ : ∃ w3, w3 = (w2.alloc (.cells #[.int .i64 lot, .slice so sl sc, .slice po pl pc] 48)).alloc (.cells #[.int .i64 lot, .slice vo vl vc, .slice qo ql qc] 48) := ⟨_, rfl⟩
  have b3 : Below w2.heap.size w2 w3 := by rw [HW3]; exact (alloc1_below _ _).alloc (by simp) _
  have x1 : Sx w2.heap.size lot (.slice so sl sc) (.slice po pl pc) w3 := by rw [HW3]; exact (Sx.new w2 lot _ _ _).next (alloc1_below _ _)
  have x2 : Sx (w2.heap.size + 1) lot (.slice vo vl vc) (.slice qo ql qc) w3 := by
    have := Sx.new (w2.alloc (.cells #[.int .i64 lot, .slice so sl sc, .slice po pl pc] 48)) lot (.slice vo vl vc) (.slice qo ql qc) 48
    rw [World.size_alloc, ← HW3] at this
    exact this
  have b23 := hb2.out.trans (b3.mono hb2.out.size)
  have HB3 : Hid (Below W.heap.size W w3) := hb1.out.trans (b23.mono hb1.out.size)
  have HN : Hid (∀ W', Kw w3 W' → (NRow W' (.slice so sl sc) (b1 + 1) (pascalN b1) ∧ NRow W' (.slice po pl pc) (g1 + 1) (pascalN g1)) ∧ NRow W' (.slice vo vl vc) (b2 + 1) (pascalN b2) ∧ NRow W' (.slice qo ql qc) (g2 + 1) (pascalN g2)) := fun W' h =>
    ⟨⟨(h1.out.below b23).below h, (h2.out.below b23).below h⟩, (h3.out.below b3).below h, (h4.out.below b3).below h⟩
  have HC : Hid (∀ W', Kw w3 W' → (W'.cell? ⟨w2.heap.size, 0, none⟩ = some (.int .i64 lot) ∧ W'.cell? ⟨w2.heap.size, 1, none⟩ = some (.slice so sl sc) ∧ W'.cell? ⟨w2.heap.size, 2, none⟩ = some (.slice po pl pc)) ∧ W'.cell? ⟨w2.heap.size + 1, 0, none⟩ = some (.int .i64 lot) ∧ W'.cell? ⟨w2.heap.size + 1, 1, none⟩ = some (.slice vo vl vc) ∧ W'.cell? ⟨w2.heap.size + 1, 2, none⟩ = some (.slice qo ql qc)) := fun W' h =>
    ⟨⟨(x1.next h).c0, (x1.next h).c1, (x1.next h).c2⟩, (x2.next h).c0, (x2.next h).c1, (x2.next h).c2⟩
  have HW3' := Lib.hid HW3
  have hs : Kw w3 w3 := Below.refl _ _
  have hc := HC.out _ hs
  clear h1 h2 h3 h4 hb1 hb2 b3 x1 x2 b23 HW3
  go_upto_region 4 with fail
  rw [← HW3'.out]
  go_wp2_with fail
  refine (HLE.out _ _ _ 0 (Nat.zero_le _) (HN.out _ hs).1.1 (HN.out _ hs).1.2).mono ?_
  rintro e w4 ⟨c, rfl, hL, hB⟩
  have HK4 := Lib.hid (Kw.next hs hB.out)
  clear hs hc hB
  go_wp2_with fail
  go_loopw [15, 16] (fun s15 s16 wr => ∃ n c : Nat, n ≤ lot ∧ s15 = .int .i64 n ∧ s16 = .int .i64 c ∧ Hid (LeastC b1 g1 n (1000000 - al) c) ∧ Hid (∀ m, m < n → ∀ d, LeastC b1 g1 m (1000000 - al) d → ¬ KeepB b2 g2 m be d) ∧ Hid (Kw w3 wr)) (fun s15 _ _ => lot - (intOf s15).toNat)
  case atStart => exact ⟨0, c, Nat.zero_le _, rfl, rfl, hL, fun m h => absurd h (Nat.not_lt_zero _), HK4⟩
  case round =>
    obtain ⟨n, c, hn, rfl, rfl, HL, HM, HK⟩ := hrel
    have hc := HC.out _ HK.out
    have hn1 : IntKind.i64.wrap ((n : Int) + 1) = ((n + 1 : Nat) : Int) := by rw [IntWalk.i64_in _ (by omega)]; omega
    have HCM2 := Lib.hid (HCM.out wr _ _ n c hn HL.out.1 (HN.out _ HK.out).2.1 (HN.out _ HK.out).2.2)
    go_wp2_with fail
    refine HCM2.out.mono ?_
    rintro e w5 ⟨R, rfl, hR, hB⟩
    have HK5 := Lib.hid (Kw.next HK.out hB.out)
    have hc5 := HC.out _ HK5.out
    clear hc hB
    by_cases hkeep : KeepB b2 g2 n be c
    · have hR0 : ¬ R > 0 := fun h => hR.out.1 h hkeep
      have HKP := Lib.hid hkeep
      clear hkeep
      go_wp2_with fail
      refine bodyPost_ret (v := .tuple #[.int .i64 n, .int .i64 c, .int .i64 0]) (by simp [results, Tryz.results11, go_sem]) rfl ?_
      exact ⟨n, c, rfl, hn, HL.out, HKP.out, HM.out, HB3.out.trans (Below.mono HK5.out HB3.out.size)⟩
    · have hR0 : R > 0 := hR.out.2 hkeep
      have hnl : n < lot := by
        rcases Nat.eq_or_lt_of_le hn with h | h
        · exact absurd (HKW.out n c h HL.out) hkeep
        · exact h
      have HKP := Lib.hid hkeep
      have HLE2 := Lib.hid (HLE.out w5 _ _ (n + 1) hnl (HN.out _ HK5.out).1.1 (HN.out _ HK5.out).1.2)
      clear hkeep
      go_wp2_with fail
      refine HLE2.out.mono ?_
      rintro e w6 ⟨c', rfl, hL', hB⟩
      have HK6 := Lib.hid (Kw.next HK5.out hB.out)
      clear hB hc5
      go_wp2_with fail
      go_roundw
      case rel =>
        refine ⟨n + 1, c', hnl, rfl, rfl, hL', ?_, HK6⟩
        show ∀ m, _
        intro m hm d hd
        rcases Nat.eq_or_lt_of_le (Nat.le_of_lt_succ hm) with h | h
        · subst h
          rw [hd.same HL.out]
          exact HKP.out
        · exact HM.out m h d hd
      case measure => simp [intOf]; omega
end Go.Proofs.YteieedfigoihpaaGreatDoor
namespace Go.Proofs.YteieedfigoihpaaGreatDoor
open Go Go.RowKit Gu

theorem plan_three {n c : Nat} (hn : n ≤ 10) (h1 : LeastC 0 10 n 1000000 c) (h2 : KeepB 5 5 n 100000 c) (h3 : ∀ m, m < n → ∀ d, LeastC 0 10 m 1000000 d → ¬ KeepB 5 5 m 100000 d) : n = 3 ∧ c = 0 := by
  have hz : ∀ m, LeastC 0 10 m 1000000 0 := fun m => ⟨Nat.zero_le _, fun j h => absurd h (Nat.not_lt_zero _), fun _ => by rw [hyp_zero, Nat.zero_add]; exact Nat.le_refl _⟩
  have hc : c = 0 := h1.same (hz n)
  subst hc
  refine ⟨?_, rfl⟩
  have h4 : n ≤ 3 := Nat.le_of_not_lt fun h => h3 3 h 0 (hz 3) (by unfold KeepB; decide +kernel)
  have e : n = 0 ∨ n = 1 ∨ n = 2 ∨ n = 3 := by omega
  rcases e with rfl | rfl | rfl | rfl
  · exact absurd h2 (by unfold KeepB; decide +kernel)
  · exact absurd h2 (by unfold KeepB; decide +kernel)
  · exact absurd h2 (by unfold KeepB; decide +kernel)
  · rfl
theorem Tryz.infoBool : (Tryz.prog.info? 4).map (fun i => (i.zero, i.size, i.bytes)) = some (some (.bool false), 1, 1) := by kernel_rfl
theorem made_bools : ∀ w, (Instr.makeSlice 43 (.int .i64 4) (.int .i64 4)).run Tryz.prog w = .ok (.slice (some ⟨w.heap.size, 0, none⟩) 4 4) (w.alloc (.cells #[.bool false, .bool false, .bool false, .bool false] 4)) := fun w => by
  have := run_make_row' (P := Tryz.prog) 43 4 (.bool false) 1 Tryz.underlying43 Tryz.infoBool rfl .i64 .i64 4 (by omega) (by omega) w
  rw [show madeCells #[.bool false] 4 = #[.bool false, .bool false, .bool false, .bool false] from Array.ext (by simp [madeCells]) (fun i h1 h2 => by
    have : i = 0 ∨ i = 1 ∨ i = 2 ∨ i = 3 := by simp at h2; omega
    rcases this with rfl | rfl | rfl | rfl <;> simp [madeCells])] at this
  exact this
theorem four_false (W : World) (T : TypeId) : IsBs (W.alloc (.cells #[.bool false, .bool false, .bool false, .bool false] T)) (.slice (some ⟨W.heap.size, 0, none⟩) 4 4) [false, false, false, false] := by
  refine ⟨_, _, rfl, fun _ => ⟨W.heap.size, 0, rfl, by simp, fun j hj => ?_⟩⟩
  have : j = 0 ∨ j = 1 ∨ j = 2 ∨ j = 3 := by simp at hj; omega
  obtain ⟨w1, h1⟩ : ∃ w1, w1 = W.alloc (.cells #[.bool false, .bool false, .bool false, .bool false] T) := ⟨_, rfl⟩
  have hh : w1.heap[W.heap.size]? = some (.cells #[.bool false, .bool false, .bool false, .bool false] T (0, 0)) := by rw [h1]; exact heap_alloc_new _ _
  rw [← h1]
  rcases this with rfl | rfl | rfl | rfl <;> simp [World.cell?, hh]
set_option maxRecDepth 100000 in
set_option maxHeartbeats 4000000 in
theorem sawake_any (W : World) (he : Env W) : Calls Tryz.prog 5 #[] W fun e w' => e = .returned (.bool true) ∧ Below W.heap.size W w' := by
  have e7 : lowP (accS 2 8 3 0) (pascalN (2 + 8) 3) = 7 := by decide +kernel
  have e15 : lowQ (accS 2 8 3 0) (pascalN (2 + 8) 3) = 15 := by decide +kernel
  have HAC : Hid (Calls Tryz.prog 6 #[.int .i64 10, .int .i64 2, .int .i64 3, .int .i64 0] W fun e w' => ∃ ao al ac bo bl bc, e = .returned (.tuple #[.agg #[.slice ao al ac, .slice bo bl bc], .int .i64 0]) ∧ D w' (.slice ao al ac) 7 ∧ D w' (.slice bo bl bc) 15 ∧ Below W.heap.size W w') := by
    have := Accept_any (b := 2) (g := 8) (n := 3) (c := 0) (W := W) (by decide) (by decide)
    rw [e7, e15] at this
    exact this
  have HPL : Hid (∀ W', Calls Tryz.prog 11 #[.int .i64 10, .int .i64 0, .int .i64 5, .int .i64 0, .int .i64 100000] W' fun e w' => e = .returned (.tuple #[.int .i64 3, .int .i64 0, .int .i64 0]) ∧ Hid (Below W'.heap.size W' w')) := fun W' => by
    have := Plan_any (b1 := 0) (g1 := 10) (b2 := 5) (g2 := 5) (al := 0) (be := 100000) (W := W') rfl (by decide) (by decide) (by decide) (by decide)
    refine this.mono fun e w' ⟨n, c, h1, h2, h3, h4, h5, h6⟩ => ?_
    obtain ⟨rfl, rfl⟩ := plan_three h2 h3 h4 h5
    exact ⟨h1, h6⟩
  have HJU : Hid (∀ W' v, IsBs W' v [false, false, false, false] → Calls Tryz.prog 14 #[.int .i64 5, .int .i64 1, v] W' fun e w' => e = .returned (.tuple #[.int .i64 1, .int .i64 4, .int .i64 0]) ∧ W' = w') := fun W' v h => by
    have := Judge_any (n := 5) (c := 1) h (by decide) (by decide) (by decide) (by decide) (by decide)
    rwa [show jrun 5 1 [false, false, false, false] 0 0 = (1, 4, 0) by decide +kernel] at this
  have HST : Hid (∀ W' v u, Env W' → D W' v 7 → D W' u 15 → Calls Tryz.prog 15 #[.agg #[v, u]] W' fun e w' => e = .returned (.string ⟨#[55, 47, 49, 53]⟩) ∧ Hid (Below W'.heap.size W' w')) := fun W' v u h h1 h2 => by
    have := FracString_any v u 7 15 W' h1 h2 (Nat.le_trans ((nd_le (by decide)).2 (show 7 < 4294967296 ^ 1 by decide)) (by decide)) (Nat.le_trans ((nd_le (by decide)).2 (show 15 < 4294967296 ^ 1 by decide)) (by decide)) h
    rwa [show (⟨(fracText 7 (dn 15)).toArray⟩ : ByteArray) = ⟨#[55, 47, 49, 53]⟩ from congrArg _ (by decide +kernel)] at this
  have HE := Lib.hid he
  clear he e7 e15
  go_enter Tryz.func5, Tryz.ntmps5
  go_wp2_with fail
  refine HAC.out.mono ?_
  rintro e w1 ⟨ao, al, ac, bo, bl, bc, rfl, hp, hq, hb⟩
  obtain ⟨w2, HW2⟩ : ∃ w2, w2 = w1.alloc (.cells #[.slice ao al ac, .slice bo bl bc] 26) := ⟨_, rfl⟩
  have b2 : Below w1.heap.size w1 w2 := by rw [HW2]; exact alloc1_below _ _
  have x2 : Bxs w1.heap.size [.slice ao al ac, .slice bo bl bc] w2 := by rw [HW2]; exact Bxs.new2 _ _ _ _
  have HX := Lib.hid x2; have HB := Lib.hid (hb.trans (b2.mono hb.size)); have HP := Lib.hid (hp.below b2); have HQ := Lib.hid (hq.below b2); have HW' := Lib.hid HW2
  clear hp hq hb b2 x2 HW2
  go_upto_region 2 with fail
  rw [← HW'.out]
  go_wp2_with fail
  refine (HPL.out _).mono ?_
  rintro e w3 ⟨rfl, hb⟩
  have HX3 := Lib.hid (HX.out.next hb.out); have HB3 := Lib.hid (HB.out.trans (hb.out.mono HB.out.size)); have HP3 := Lib.hid (HP.out.below hb.out); have HQ3 := Lib.hid (HQ.out.below hb.out)
  clear HX HB HP HQ hb HW'
  have hmk := made_bools
  have HF := Lib.hid (four_false w3 4)
  have h34 : ∀ o, Below w3.heap.size w3 (w3.alloc o) := alloc1_below w3
  go_wp2_with fail
  refine (HJU.out _ _ HF.out).mono ?_
  rintro e w' ⟨rfl, rfl⟩
  obtain ⟨w4, HW4⟩ : ∃ w4, w4 = w3.alloc (.cells #[.bool false, .bool false, .bool false, .bool false] 4) := ⟨_, rfl⟩
  have b4 : Below w3.heap.size w3 w4 := by rw [HW4]; exact alloc1_below _ _
  have HX4 := Lib.hid (HX3.out.next b4); have HB4 := Lib.hid (HB3.out.trans (b4.mono HB3.out.size)); have HP4 := Lib.hid (HP3.out.below b4); have HQ4 := Lib.hid (HQ3.out.below b4)
  have HW4' := Lib.hid HW4
  clear HX3 HB3 HP3 HQ3 HF hmk h34 HW4 b4
  go_upto_region 4 with fail
  rw [← HW4'.out]
  have k0 := HX4.out.c0; have k1 := HX4.out.c1
  have hne : ((#[55, 47, 49, 53] : Array UInt8) == #[55, 47, 49, 53]) = true := by decide
  have HS4 := Lib.hid (HST.out w4 _ _ (HE.out.below HB4.out) HP4.out HQ4.out)
  go_wp2_with fail
  refine HS4.out.mono ?_
  rintro e w5 ⟨rfl, hb⟩
  have HB5 := Lib.hid (HB4.out.trans (hb.out.mono HB4.out.size))
  clear hb k0 k1
  go_wp2_with fail
  go_ret
  exact ⟨rfl, HB5.out⟩
end Go.Proofs.YteieedfigoihpaaGreatDoor
namespace Go.Proofs.YteieedfigoihpaaGreatDoor
open Go Go.RowKit Gu

theorem pow_nd16 {x a m : Nat} (h : x < 2 ^ a) (ha : a ≤ 16 * m) : nd 65536 x ≤ m := by
  apply (nd_le (by decide)).2
  rw [show (65536 : Nat) = 2 ^ 16 from by decide, ← Nat.pow_mul]
  exact Nat.lt_of_lt_of_le h (Nat.pow_le_pow_right (by decide) ha)
theorem pascalN_nd16 {n k : Nat} (hn : n ≤ 4096) : nd 65536 (pascalN n k) ≤ 257 := by
  have h := pascalN_le n k
  have h2 : pascalN n k < 2 ^ (n + 1) := by rw [Nat.pow_succ]; have := Nat.pow_pos (n := n) (show 0 < 2 by decide); omega
  exact pow_nd16 h2 (by omega)
theorem nd_rmul' {a b m k : Nat} (ha : nd 65536 a ≤ m) (hb : nd 65536 b ≤ k) : nd 65536 (a * b) ≤ m + k := by
  have h1 := (nd_le (by decide : 2 ≤ 65536)).1 ha
  have h2 := (nd_le (by decide : 2 ≤ 65536)).1 hb
  apply (nd_le (by decide : 2 ≤ 65536)).2
  rw [Nat.pow_add]
  exact Nat.mul_lt_mul_of_lt_of_le h1 (Nat.le_of_lt h2) (Nat.pow_pos (by decide))
/-- what the loop of Binomial keeps -/
def RBinRel (n i : Nat) (w0 : World) (rv : Value) (wr : World) : Prop := R wr rv (pascalN n i) ∧ Below w0.heap.size w0 wr
set_option maxHeartbeats 1000000 in
set_option maxRecDepth 100000 in
theorem RBinomial_any (n k : Nat) (w : World) (hn : n ≤ 4096) (hkb : k ≤ 9223372036854775807) :
    Calls Tryz.prog 22 #[.int .i64 n, .int .i64 k] w fun e w' => ∃ r, e = .returned r ∧ R w' r (pascalN n k) ∧ Below w.heap.size w w' := by
  by_cases hk : n < k
  · have HZ : Hid (pascalN n k = 0) := pascalN_gt hk
    have h1 : (n : Int) < k := by omega
    go_enter Tryz.func22, Tryz.ntmps22
    go_wp2
    go_ret
    exact ⟨_, rfl, by rw [HZ.out]; exact IsN.zero _ _ _ _ _, Below.refl _ _⟩
  have HOF := Lib.hid (fun (x : Nat) w (h : x ≤ 9223372036854775807) => Of_any x w h)
  obtain ⟨m, hm⟩ : ∃ m, m = min k (n - k) := ⟨_, rfl⟩
  have HM : Hid (pascalN n m = pascalN n k) := by show _ = _; rw [hm]; exact pascalN_min (by omega)
  have hmn : m ≤ n := by omega
  have hmi : min (k : Int) ((n : Int) - k) = m := by omega
  have h4 : ¬ ((n : Int) < k) := by omega
  clear hm
  go_enter Tryz.func22, Tryz.ntmps22
  go_wp2_with fail
  refine (HOF.out 1 _ (by decide)).mono ?_
  rintro e w1 ⟨v, rfl, hv, hb⟩
  obtain ⟨vo, vc, rfl, -⟩ := hv.shape
  have HST : Hid (RBinRel n 0 w (.slice vo (nd 65536 1) vc) w1) := ⟨by rw [pascalN_zero]; exact hv, hb⟩
  clear hv hb
  go_wp2

  go_loopw [5, 6] (fun rv t wr => ∃ i : Nat, i ≤ m ∧ t = .int .i64 i ∧ RBinRel n i w rv wr) (fun _ t _ => m - (intOf t).toNat)
  case atStart => exact ⟨0, Nat.zero_le _, rfl, HST.out⟩
  case round =>
    obtain ⟨i, hi, rfl, hrel⟩ := hrel
    have HR := Lib.hid hrel
    obtain ⟨r0, rc, rfl, -⟩ := hrel.1.shape
    clear hrel
    have hci := pascalN_nd16 (n := n) (k := i) hn
    by_cases hlt : i < m
    · have him : (i : Int) < m := by omega
      have hni : (n : Int) - i = ((n - i : Nat) : Int) := by omega
      have HNI := Lib.hid hni
      have HD1 := Lib.hid (HOF.out (n - i) wr (by omega))
      have HP := Lib.hid (fun v W (h1 : R W (.slice r0 (nd 65536 (pascalN n i)) rc) (pascalN n i)) (h2 : R W v (n - i)) => RMul_any _ v _ _ W h1 h2 (by omega) (by have h3 := (nd_le (B := 65536) (n := n - i) (k := 1) (by decide)).2 (by omega); omega))
      have HQ := Lib.hid (fun v W (h1 : R W v (pascalN n i * (n - i))) => Small_any v _ (i + 1) W h1 (by have h3 := nd_rmul' (a := pascalN n i) (b := n - i) (m := 257) (k := 1) hci ((nd_le (by decide)).2 (by omega)); omega) (by omega) (by omega))
      rw [pascalN_div (by omega)] at HQ
      clear hni
      go_wp2_with fail
      rw [HNI.out]
      refine HD1.out.mono ?_
      rintro e w2 ⟨dv, rfl, hd, hb2⟩
      obtain ⟨d0, dc, rfl, -⟩ := hd.shape
      have HP2 := Lib.hid (HP.out _ _ (HR.out.1.below hb2) hd)
      have HB2 := Lib.hid (HR.out.2.trans (hb2.mono HR.out.2.size))
      clear hd hb2 HP HD1
      go_wp2_with fail
      refine HP2.out.mono ?_
      rintro e w3 ⟨pv, rfl, hp, hb3⟩
      obtain ⟨p0, pc, rfl, -⟩ := hp.shape
      have HQ2 := Lib.hid (HQ.out _ _ hp)
      have HB3 := Lib.hid (HB2.out.trans (hb3.mono HB2.out.size))
      clear hp hb3 HP2 HQ HB2
      go_wp2_with fail
      refine HQ2.out.mono ?_
      rintro e w4 ⟨qv, rfl, hq, hb4, -⟩
      obtain ⟨q0, qc, rfl, -⟩ := hq.shape
      have HN : Hid (RBinRel n (i + 1) w (.slice q0 (nd 65536 (pascalN n (i + 1))) qc) w4) := ⟨hq, HB3.out.trans (hb4.mono HB3.out.size)⟩
      clear hq hb4 HQ2 HB3 HR
      go_wp2
      go_roundw
      case rel => exact ⟨i + 1, by omega, by go_num, HN.out⟩
      case measure => simp [intOf]; omega
    · obtain rfl : i = m := by omega
      clear hlt hci
      go_wp2
      go_ret
      exact ⟨_, rfl, by rw [← HM.out]; exact HR.out.1, HR.out.2⟩
end Go.Proofs.YteieedfigoihpaaGreatDoor
namespace Go.Proofs.YteieedfigoihpaaGreatDoor
open Go Go.RowKit Gu

/-- an append to a row of the call's own, as one step of a region that draws its order -/
theorem step_append_own {P : Program} {ops : Array Oper} {o : Oper} {a : Act} {w : World} {K : Act → World → Prop} {Q : Exit → Act → World → Prop} {E : Prop} (hg : o.guard = none) (s x : Operand) (t : TypeId)
    (ho : o.op = Op.call { callee := Callee.builtin Builtin.append, args := #[s, x], argTypes := #[t, t] })
    (base : Nat) (e : TypeId) (i : TypeInfo) (z : Value) (size bytes : Nat) (ht : P.underlying t = some (.slice e)) (hi : P.info? e = some i) (hz : i.zero = some z)
    (hsize : i.size = size) (hby : i.bytes = bytes) (hzs : z.cells.size = size) (hsz : 0 < size)
    (v : Value) (n : Nat) (xs : List Value) (hs : a.eval s = v) (hown : w.ownsRow base e size v n xs)
    (ad : Addr) (m c : Nat) (news : List Value) (hx : a.eval x = .slice (some ad) m c) (hl : news.length = m * size) (hnews : ∀ j u, news[j]? = some u → w.cell? (ad.add j) = some u) (h1 : ∀ u ∈ news, u.oneCell' = true)
    (h63 : n + m ≤ maxLen) (hbytes : (n + m) * bytes ≤ 140737488355328) (hbase : base ≤ w.heap.size)
    (hK : ∀ v' w', w'.ownsRow base e size v' (n + m) (xs ++ news) → w.grownBy w' v.ownBlock → (v' = .slice none 0 0 ↔ v = .slice none 0 0 ∧ m = 0) → K (a.put o.dst v') w') :
    if Region.wanted o (yielded ops a.tmps) = true then Oper.wp P o a w K Q else E := by
  have hw : Region.wanted o (yielded ops a.tmps) = true := by simp [Region.wanted, hg]
  rw [if_pos hw]
  exact wp_append_own w s x t ho base e i z size bytes ht hi hz hsize hby hzs hsz v n xs hs hown ad m c news hx hl hnews h1 h63 hbytes hbase hK
theorem shr_word {B p t da db : Nat} (hB : B = p * t) (hp : 0 < p) (hda : da < B) : ((da + B * db) / p) % B = da / p + db % p * t := by
  subst hB
  have ht : 0 < t := by
    rcases Nat.eq_zero_or_pos t with h | h
    · subst h; omega
    · exact h
  have e1 : (da + p * t * db) / p = da / p + t * db := by
    rw [Nat.mul_assoc, Nat.add_mul_div_left _ _ hp]
  have e2 : t * db = (db % p) * t + p * t * (db / p) := by
    have h := Nat.div_add_mod db p
    have h2 : t * (p * (db / p) + db % p) = t * db := by rw [h]
    rw [Nat.mul_add, ← Nat.mul_assoc, Nat.mul_comm t p, Nat.mul_comm t (db % p)] at h2
    omega
  rw [e1, e2, ← Nat.add_assoc, Nat.add_mul_mod_self_left]
  apply Nat.mod_eq_of_lt
  have h3 : da / p < t := by rw [Nat.div_lt_iff_lt_mul hp, Nat.mul_comm]; exact hda
  have h4 : db % p * t + t ≤ p * t := by rw [← Nat.succ_mul]; exact Nat.mul_le_mul_right _ (Nat.mod_lt _ hp)
  omega
theorem pow_dvd16 {s : Nat} (h : s ≤ 16) : 65536 = 2 ^ s * 2 ^ (16 - s) := by
  rw [← Nat.pow_add, show s + (16 - s) = 16 from by omega]
theorem pow_n {n wh s : Nat} (h : n = 16 * wh + s) : 2 ^ n = 65536 ^ wh * 2 ^ s := by
  rw [h, Nat.pow_add, Nat.pow_mul]
/-- a digit of a number divided by a power of two, as the document makes it -/
theorem shr_dg {a n wh s k : Nat} (h : n = 16 * wh + s) (hs : s < 16) : dg 65536 (a / 2 ^ n) k = dg 65536 a (wh + k) / 2 ^ s + dg 65536 a (wh + k + 1) % 2 ^ s * 2 ^ (16 - s) := by
  rw [pow_n h, shr_digit (by decide) ⟨_, pow_dvd16 (by omega)⟩, Nat.add_comm k wh, shr_word (pow_dvd16 (by omega)) (Nat.pow_pos (by decide)) (dg_lt (by decide) _ _)]
/-- what the loop of Shr keeps -/
def RShrRel (a n : Nat) (w : World) (k : Nat) (v : Value) (wr : World) : Prop :=
  Own .i64 65536 3 wr w.heap.size v k (a / 2 ^ n % 65536 ^ k) ∧ Below w.heap.size w wr
set_option maxHeartbeats 2000000 in
set_option maxRecDepth 100000 in
theorem RShr_any (v : Value) (a n : Nat) (w : World) (hv : R w v a) (ha : nd 65536 a ≤ 1048576) (hn : n ≤ 9223372036854775807) :
    Calls Tryz.prog 62 #[v, .int .i64 n] w fun e w' => ∃ r, e = .returned r ∧ R w' r (a / 2 ^ n) ∧ Below w.heap.size w w' := by
  obtain ⟨i0, hi, hz0, hz1, hz2⟩ := info_parts Tryz.infoInt
  have hB : 2 ≤ 65536 := by decide
  obtain ⟨ao, ac, rfl, hcv⟩ := hv.shape
  have HV := Lib.hid hv
  have HC := Lib.hid hcv
  clear hv hcv
  have HAl := Lib.hid (nd_lt hB a)
  generalize hna : nd 65536 a = la at *
  have HNa : Hid (nd 65536 a ≤ 4611686018427387904) := by show _ ≤ _; omega
  clear hna
  obtain ⟨wh, hwh⟩ : ∃ wh, wh = n / 16 := ⟨_, rfl⟩
  obtain ⟨s, hs⟩ : ∃ s, s = n % 16 := ⟨_, rfl⟩
  have hs16 : s < 16 := by omega
  have q1 : (n : Int) / 16 = wh := by omega
  have q2 : (n : Int) % 16 = s := by omega
  have HNW : Hid (n = 16 * wh + s) := by show _ = _; omega
  have hwl : wh ≤ 576460752303423487 := by omega
  clear hwh hs
  have hpp : 0 < 2 ^ s := Nat.pow_pos (by decide)
  have hpt : 0 < 2 ^ (16 - s) := Nat.pow_pos (by decide)
  have HPT := Lib.hid (pow_dvd16 (show s ≤ 16 by omega))
  have hpl : 2 ^ s ≤ 65536 := Nat.le_trans (Nat.pow_le_pow_right (by decide) (show s ≤ 16 by omega)) (by decide)
  have htl : 2 ^ (16 - s) ≤ 65536 := Nat.le_trans (Nat.pow_le_pow_right (by decide) (show 16 - s ≤ 16 by omega)) (by decide)
  have HP := Lib.hid (fun w => power_any s w (by omega))
  have HDG := Lib.hid (fun k => shr_dg (a := a) (k := k) HNW.out hs16)
  generalize hpe : 2 ^ s = p at *
  generalize hte : 2 ^ (16 - s) = t at *
  clear hpe hte
  have ht : (65536 : Int) / p = t := by
    have : 65536 / p = t := by rw [HPT.out, Nat.mul_div_cancel_left _ hpp]
    rw [show (65536 : Int) / p = ((65536 / p : Nat) : Int) from by simp, this]
  have HTT := Lib.hid ht
  clear ht
  go_enter Tryz.func62, Tryz.ntmps62
  go_wp2_with fail
  refine (HP.out _).mono ?_
  rintro e w' ⟨rfl, rfl⟩
  go_wp2
  go_loopg [5, 7] (la - wh) (fun m out x wr => ∃ k, Hid (wh + k + m = max la wh) ∧ x = .int .i64 ((wh + k : Nat) : Int) ∧ RShrRel a n w k out wr)
  case atStart => exact ⟨0, by show _ = _; omega, rfl, by simpa [RShrRel, Nat.mod_one] using ⟨Own.nil _ _ _ _ _, Below.refl _ _⟩⟩
  case round =>
    obtain ⟨k, HK, rfl, hown, hbel⟩ := hrel
    by_cases hlt : wh + k < la
    · have h1 : ((wh + k : Nat) : Int) < la := by omega
      obtain ⟨gb, go, rfl, hca⟩ := HC.out (wh + k) hlt
      have hgb0 : gb < w.heap.size := World.block_lt_of_cell? _ _ hca
      have hkb : k ≤ 1048576 := by omega
      have hca' : wr.cell? ⟨gb, go + (wh + k), none⟩ = some (.int .i64 (dg 65536 a (wh + k) : Nat)) := by
        rw [hbel.cell (p := ⟨gb, go + (wh + k), none⟩) (World.block_lt_of_cell? _ _ hca)]; exact hca
      have HA := Lib.hid (fun q => Rat_any _ a (wh + k + 1) (wr.drewN q) (HV.out.below (below_drewN hbel q)) HNa.out)
      have hd := HDG.out k
      have hda := dg_lt (B := 65536) (by decide) a (wh + k)
      have hdb := dg_lt (B := 65536) (by decide) a (wh + k + 1)
      have hdx := dg_lt (B := 65536) (by decide) (a / 2 ^ n) k
      have HPS : Hid (pad 65536 (k + 1) (a / 2 ^ n % 65536 ^ (k + 1)) = pad 65536 k (a / 2 ^ n % 65536 ^ k) ++ [dg 65536 (a / 2 ^ n) k]) := by
        show _ = _
        rw [mod_succ]
        exact pad_succ (by decide) (Nat.mod_lt _ (Nat.pow_pos (by decide))) hdx
      have HB := Lib.hid hbel
      have hltw := hown.lt
      have HLT := Lib.hid hltw
      have hsz := hbel.size
      unfold Own at hown
      clear hca hbel hltw
      generalize dg 65536 (a / 2 ^ n) k = dx at *
      have HDX := Lib.hid hd
      clear hd
      obtain ⟨j, hj⟩ : ∃ j, j = wh + k := ⟨_, rfl⟩
      rw [← hj] at h1 hca' HA hda hdb HDX hlt ⊢
      have HJ := Lib.hid hj
      clear hj
      generalize dg 65536 a j = da at *
      generalize dg 65536 a (j + 1) = db at *
      have hp0 : ¬ (p : Int) = 0 := by omega
      have hp1 : ¬ p = 0 := by omega
      have hdp : da / p ≤ da := Nat.div_le_self _ _
      have hmp : db % p < p := Nat.mod_lt _ hpp
      have hmul : db % p * t ≤ 65535 * 65536 := Nat.mul_le_mul (by omega) htl
      have HX : Hid (IntKind.i64.wrap (IntKind.i64.wrap ((da : Int) / p) + IntKind.i64.wrap (((db : Int).tmod p) * (IntKind.i64.wrap (Int.tdiv 65536 (p : Int))))) = (dx : Int)) := by
        show _ = _
        have hdx' := HDX.out
        rw [Int.tdiv_eq_ediv_of_nonneg (by omega), HTT.out, IntWalk.i64_in (t : Int) (by omega), Int.tmod_eq_emod_of_nonneg (by omega), show (da : Int) / p = ((da / p : Nat) : Int) from by simp, show (db : Int) % p = ((db % p : Nat) : Int) from by simp,
          show ((db % p : Nat) : Int) * (t : Int) = ((db % p * t : Nat) : Int) from by simp]
        generalize da / p = y1 at *
        generalize db % p * t = y2 at *
        rw [IntWalk.i64_in (y1 : Int) (by omega), IntWalk.i64_in (y2 : Int) (by omega), IntWalk.i64_in _ (by omega)]
        omega
      clear hdp hmp hmul
      have HONE : Hid (∀ x : Int, ∀ u ∈ [Value.int .i64 x], u.oneCell' = true) := by intro x u hu; simp at hu; subst hu; rfl
      have HML : Hid (k + 1 ≤ maxLen) := by show _ ≤ _; unfold maxLen; omega
      have HBY : Hid ((k + 1) * 8 ≤ 140737488355328) := by show _ ≤ _; omega
      have HBS : Hid (∀ o, w.heap.size ≤ (wr.drew.alloc o).heap.size) := fun o => Nat.le_trans hsz (by rw [World.size_alloc]; exact Nat.le_succ _)
      have hwj : IntKind.i64.wrap ((j : Int) + 1) = (j : Int) + 1 := IntWalk.i64_in _ (by omega)
      have hlw : (j : Int) < la := by omega
      have hlw2 : (0 : Int) ≤ (j : Int) := by omega
      have hca2 : wr.drew.cell? ⟨gb, go + (j), none⟩ = some (.int .i64 (da : Nat)) := hca'
      have HA2 : Hid (Calls Tryz.prog 40 #[.slice (some ⟨gb, go, none⟩) la ac, .int .i64 ((j : Int) + 1)] wr.drew fun e w' => e = .returned (.int .i64 (db : Nat)) ∧ wr.drew = w') := HA.out 1
      clear HA
      have hgb : gb < wr.heap.size := World.block_lt_of_cell? _ _ hca'
      have HAL : Hid (∀ o, (wr.drew.alloc o).cell? ⟨gb, go + (j), none⟩ = some (.int .i64 (da : Nat))) := fun o => (((Below.refl wr.drew.heap.size wr.drew).alloc (Nat.le_refl _) o).cell (p := ⟨gb, go + (j), none⟩) hgb).trans hca'
      go_wp2
      go_region_held3 (fun W : World => W.cell? ⟨gb, go + (j), none⟩ = some (.int .i64 (da : Nat))) (first | assumption | exact HAL.out _) (first
        | (go_at_call 40; go_must (go_fit HA2.out); rintro e w' ⟨rfl, rfl⟩)
        | (refine step_append_own rfl (.tmp 19) (.tmp 36) 33 rfl w.heap.size 3 i0 (.int .i64 0) 1 8 Tryz.underlying33 hi hz0 hz1 hz2 rfl (by decide) _ _ _ (by rfl) (hown.drew.alloc _) ⟨wr.heap.size, 0, none⟩ 1 1 [_] rfl rfl (cell_one_new _ _ _) (HONE.out _) HML.out HBY.out (HBS.out _) ?_; intro v' w4 hown4 hgrow hnil; have hca4 : w4.cell? ⟨gb, go + j, none⟩ = some (.int .i64 (da : Nat)) := hgrow.cell (HAL.out _) (fun e => Nat.not_lt_of_le (HLT.out _ e.symm).1 hgb0)) | fail)
      have HFIN : Hid (RShrRel a n w (k + 1) v' w4) := by
        refine ⟨?_, ?_⟩
        · unfold Own
          rw [HPS.out, List.map_append]
          rw [HX.out] at hown4
          exact hown4
        · refine Below.grown (HB.out.drew.alloc hsz _) hgrow (by rw [World.size_alloc]; exact Nat.le_succ_of_le hsz) ?_
          intro j hj
          exact (HLT.out _ hj).1
      clear hown4 hgrow hnil hown hca4 HX
      go_wp2
      go_roundg (la - wh - (k + 1))
      case measure => have h1 := HK.out; have h2 := HJ.out; have h3 : max la wh = la := Nat.max_eq_left (by omega); rw [h3] at h1; omega
      case rel => exact ⟨k + 1, by have h1 := HK.out; have h2 := HJ.out; have h3 : max la wh = la := Nat.max_eq_left (by omega); rw [h3] at h1; show _ = max la wh; rw [h3]; omega, by rw [HJ.out]; go_num, HFIN.out⟩
    · have hnl : ¬ ((wh + k : Nat) : Int) < la := by omega
      have hxl : a / 2 ^ n < 65536 ^ k := by
        rw [pow_n HNW.out, ← Nat.div_div_eq_div_mul]
        refine Nat.lt_of_le_of_lt (Nat.div_le_self _ _) ?_
        rw [Nat.div_lt_iff_lt_mul (Nat.pow_pos (by decide)), ← Nat.pow_add]
        exact Nat.lt_of_lt_of_le HAl.out (Nat.pow_le_pow_right (by decide) (by omega))
      rw [Nat.mod_eq_of_lt hxl] at hown
      have hkk : k ≤ 4611686018427387904 := by
        have h1 := HK.out
        rcases Nat.le_total la wh with h | h
        · rw [Nat.max_eq_right h] at h1; omega
        · rw [Nat.max_eq_left h] at h1; omega
      have HT := Lib.hid (Trim_own _ _ _ _ _ hown hxl hkk)
      have HB := Lib.hid hbel
      clear hown hbel hxl hlt
      go_wp2_with fail
      refine HT.out.mono ?_
      rintro e w5 ⟨r, rfl, hr, rfl⟩
      obtain ⟨ro, rc, rfl, -⟩ := hr.shape
      have HR := Lib.hid hr
      clear hr
      go_wp2
      go_ret
      exact ⟨_, rfl, HR.out, HB.out⟩
theorem pad_wh {wh k X d : Nat} (hX : X < 65536 ^ k) (hd : d < 65536) : pad 65536 (wh + k + 1) (65536 ^ wh * (X + 65536 ^ k * d)) = pad 65536 (wh + k) (65536 ^ wh * X) ++ [d] := by
  rw [Nat.mul_add, ← Nat.mul_assoc, ← Nat.pow_add]
  refine pad_succ (by decide) ?_ hd
  rw [Nat.pow_add]
  exact Nat.mul_lt_mul_of_pos_left hX (Nat.pow_pos (by decide))
/-- what the loop of Shl keeps -/
def RShlRel (a s wh : Nat) (w : World) (k X c : Nat) (v : Value) (wr : World) : Prop :=
  c < 2 ^ s ∧ X < 65536 ^ k ∧ X + 65536 ^ k * c = (a % 65536 ^ k) * 2 ^ s ∧ Own .i64 65536 3 wr w.heap.size v (wh + k) (65536 ^ wh * X) ∧ Below w.heap.size w wr
theorem own_zeros {w : World} (wh : Nat) (hwh : wh ≤ 1048576) : Own .i64 65536 3 (w.alloc (.cells (madeCells #[.int .i64 0] wh) 3)) w.heap.size (.slice (some ⟨w.heap.size, 0, none⟩) wh wh) wh 0 := by
  unfold Own
  refine ⟨by simp [pad], .inr ⟨w.heap.size, wh, _, rfl, Nat.le_refl _, heap_alloc_new w _, Nat.le_refl _, by unfold maxLen; omega, by rw [size_madeCells, Nat.mul_one], ?_⟩⟩
  rw [pad_zero, Nat.mul_one]
  simp only [madeCells, Array.toList_map, Array.toList_range, List.size_toArray]
  rw [List.take_of_length_le (by simp)]
  apply List.ext_getElem (by simp)
  intro i h1 h2
  simp [Nat.mod_one]
set_option maxHeartbeats 2000000 in
set_option maxRecDepth 100000 in
theorem RShl_any (v : Value) (a n : Nat) (w : World) (hv : R w v a) (ha : nd 65536 a ≤ 500000) (hn : n ≤ 8000000) :
    Calls Tryz.prog 64 #[v, .int .i64 n] w fun e w' => ∃ r, e = .returned r ∧ R w' r (a * 2 ^ n) ∧ Below w.heap.size w w' := by
  obtain ⟨i0, hi, hz0, hz1, hz2⟩ := info_parts Tryz.infoInt
  have hB : 2 ≤ 65536 := by decide
  obtain ⟨ao, ac, rfl, hcv⟩ := hv.shape
  have HC := Lib.hid hcv
  clear hv hcv
  have HAl := Lib.hid (nd_lt hB a)
  generalize hna : nd 65536 a = la at *
  clear hna
  obtain ⟨wh, hwh⟩ : ∃ wh, wh = n / 16 := ⟨_, rfl⟩
  obtain ⟨s, hs⟩ : ∃ s, s = n % 16 := ⟨_, rfl⟩
  have hs16 : s < 16 := by omega
  have q1 : (n : Int) / 16 = wh := by omega
  have q2 : (n : Int) % 16 = s := by omega
  have HNW : Hid (n = 16 * wh + s) := by show _ = _; omega
  have hwl : wh ≤ 500000 := by omega
  clear hwh hs
  have hpp : 0 < 2 ^ s := Nat.pow_pos (by decide)
  have hpl : 2 ^ s ≤ 65536 := Nat.le_trans (Nat.pow_le_pow_right (by decide) (show s ≤ 16 by omega)) (by decide)
  have HP := Lib.hid (fun w => power_any s w (by omega))
  obtain ⟨p, hpe⟩ : ∃ p, p = 2 ^ s := ⟨_, rfl⟩
  have HPE := Lib.hid hpe
  rw [← hpe] at HP hpp hpl
  clear hpe
  have hmk := made_int wh (by omega)
  go_enter Tryz.func64, Tryz.ntmps64
  go_wp2_with fail
  refine (HP.out _).mono ?_
  rintro e w' ⟨rfl, rfl⟩
  have HPD : Hid (∀ c d : Nat, c < p → d < 65536 → c + d * p < 8589934592) := by
    intro c d h1 h2
    have h3 : d * p ≤ 65535 * 65536 := Nat.mul_le_mul (by omega) hpl
    omega
  go_wp2
  go_loopg [5, 6, 8] la (fun m out c x wr => ∃ k X cc : Nat, Hid (k + m = la) ∧ x = .int .i64 k ∧ c = .int .i64 cc ∧ RShlRel a s wh w k X cc out wr)
  case atStart => exact ⟨0, 0, 0, by show _ = _; omega, rfl, rfl, by rw [← HPE.out]; exact hpp, by simp, by simp [Nat.mod_one], by simpa using own_zeros wh (by omega), (Below.refl _ _).alloc (Nat.le_refl _) _⟩
  case round =>
    obtain ⟨k, X, c, HK, rfl, rfl, hc1, hX, hsum, hown, hbel⟩ := hrel
    have hkl : k ≤ la := by have := HK.out; omega
    rw [← HPE.out] at hc1 hsum
    by_cases hlt : k < la
    · have hlt' : (k : Int) < la := by omega
      obtain ⟨gb, go, rfl, hca⟩ := HC.out k hlt
      have hca' : wr.cell? ⟨gb, go + k, none⟩ = some (.int .i64 (dg 65536 a k : Nat)) := by
        rw [hbel.cell (p := ⟨gb, go + k, none⟩) (World.block_lt_of_cell? _ _ hca)]; exact hca
      have hda := dg_lt (B := 65536) (by decide) a k
      have hq := HPD.out c _ hc1 hda
      obtain ⟨q, hqe⟩ : ∃ q, q = c + dg 65536 a k * p := ⟨_, rfl⟩
      have hX2 : X + 65536 ^ k * (q % 65536) < 65536 ^ (k + 1) := snoc_lt hX (Nat.mod_lt _ (by decide))
      have hsum2 : (X + 65536 ^ k * (q % 65536)) + 65536 ^ (k + 1) * (q / 65536) = a % 65536 ^ (k + 1) * p := by rw [hqe]; exact shl_round hsum
      have hc2 : q / 65536 < p := by rw [hqe]; exact shl_carry hc1 hda
      have HPS := Lib.hid (pad_wh (wh := wh) hX (show q % 65536 < 65536 from Nat.mod_lt _ (by decide)))
      have HE : Hid (wrap64 ((c : Int) + wrap64 ((dg 65536 a k : Nat) * (p : Int))) = (q : Int)) := by
        show _ = _
        have hq2 := hqe
        have hq3 := hq
        rw [show ((dg 65536 a k : Nat) : Int) * (p : Int) = ((dg 65536 a k * p : Nat) : Int) from by simp]
        generalize dg 65536 a k * p = y at hq2 hq3 ⊢
        rw [IntWalk.wrap64_in (y : Int) (by omega), IntWalk.wrap64_in _ (by omega)]
        omega
      rw [← hqe] at hq
      have HS2 := Lib.hid (And.intro hc2 (And.intro hX2 hsum2))
      have HB := Lib.hid hbel
      have hltw := hown.lt
      have HLT := Lib.hid hltw
      have hsz := hbel.size
      unfold Own at hown
      have HONE : Hid (∀ x : Int, ∀ u ∈ [Value.int .i64 x], u.oneCell' = true) := by intro x u hu; simp at hu; subst hu; rfl
      clear hca hbel hltw hX hsum hqe hc2 hX2 hsum2
      generalize dg 65536 a k = da at *
      go_wp2_with (at_builtin; go_must (refine wpList_append_own _ rfl _ _ 33 rfl w.heap.size 3 i0 (.int .i64 0) 1 8 Tryz.underlying33 hi hz0 hz1 hz2 rfl (by decide) _ _ _ rfl (hown.alloc _) ⟨wr.heap.size, 0, none⟩ 1 1 [_] rfl rfl (cell_one_new _ _ _) (HONE.out _) ?c3 ?c4 ?c5 ?_))
      case c3 => unfold maxLen; omega
      case c4 => omega
      case c5 => simp; omega
      intro v' w4 hown4 hgrow hnil
      have hq0 : (q : Int).tmod 65536 = ((q % 65536 : Nat) : Int) := by rw [Int.tmod_eq_emod_of_nonneg (by omega)]; omega
      have hq4 : (q : Int).tdiv 65536 = ((q / 65536 : Nat) : Int) := by rw [Int.tdiv_eq_ediv_of_nonneg (by omega)]; omega
      have HFIN : Hid (RShlRel a s wh w (k + 1) (X + 65536 ^ k * (q % 65536)) (q / 65536) v' w4) := by
        rw [HE.out, hq0] at hown4
        refine ⟨by rw [← HPE.out]; exact HS2.out.1, HS2.out.2.1, by rw [← HPE.out]; exact HS2.out.2.2, ?_, ?_⟩
        · unfold Own
          rw [← Nat.add_assoc, HPS.out, List.map_append]
          exact hown4
        · refine Below.grown (HB.out.alloc (by omega) _) hgrow (by simp; omega) ?_
          intro j hj
          exact (HLT.out _ hj).1
      have HQ4 := Lib.hid hq4
      clear hown4 hgrow hnil hown hq0 hq4
      go_wp2
      rw [HE.out, HQ4.out]
      go_roundg (la - (k + 1))
      case measure => have := HK.out; omega
      case rel => exact ⟨k + 1, _, q / 65536, by have := HK.out; show _ = _; omega, by go_num, by first | rfl | (rw [IntWalk.wrap64_in _ (by omega)]) | go_num, HFIN.out⟩
    · obtain rfl : k = la := by omega
      have hnl : ¬ ((k : Int) < k) := by omega
      rw [Nat.mod_eq_of_lt HAl.out] at hsum
      have hval : 65536 ^ wh * (X + 65536 ^ k * c) = a * 2 ^ n := by
        rw [hsum, HPE.out, pow_n HNW.out, Nat.mul_left_comm]
      have hxl : a * 2 ^ n < 65536 ^ (wh + k + 1) := by
        rw [← hval, Nat.add_assoc, Nat.pow_add 65536 wh]
        exact Nat.mul_lt_mul_of_pos_left (snoc_lt hX (by omega)) (Nat.pow_pos (by decide))
      have HPS := Lib.hid (pad_wh (wh := wh) (d := c) hX (by omega))
      rw [hval] at HPS
      have HT := Lib.hid (fun v' w4 (h : Own .i64 65536 3 w4 w.heap.size v' (wh + k + 1) (a * 2 ^ n)) => Trim_own _ _ _ _ _ h hxl (by omega))
      have HB := Lib.hid hbel
      have hltw := hown.lt
      have HLT := Lib.hid hltw
      have hsz := hbel.size
      have HONE : Hid (∀ x : Int, ∀ u ∈ [Value.int .i64 x], u.oneCell' = true) := by intro x u hu; simp at hu; subst hu; rfl
      unfold Own at hown
      clear hbel hltw hX hsum hval hxl hlt
      go_wp2_with (at_builtin; go_must (refine wpList_append_own _ rfl _ _ 33 rfl w.heap.size 3 i0 (.int .i64 0) 1 8 Tryz.underlying33 hi hz0 hz1 hz2 rfl (by decide) _ _ _ rfl (hown.alloc _) ⟨wr.heap.size, 0, none⟩ 1 1 [_] rfl rfl (cell_one_new _ _ _) (HONE.out _) ?d3 ?d4 ?d5 ?_))
      case d3 => unfold maxLen; omega
      case d4 => omega
      case d5 => first | omega | (simp; omega)
      intro v' w4 hown4 hgrow hnil
      have HT2 : Hid (Below w.heap.size w w4) := by
        refine Below.grown (HB.out.alloc (by omega) _) hgrow (by simp; omega) ?_
        intro j hj
        exact (HLT.out _ hj).1
      have HO4 : Hid (Own .i64 65536 3 w4 w.heap.size v' (wh + k + 1) (a * 2 ^ n)) := by
        show Own _ _ _ _ _ _ _ _
        unfold Own
        rw [HPS.out, List.map_append]
        exact hown4
      clear hown4 hgrow hnil hown
      go_wp2_with fail
      refine (HT.out _ _ HO4.out).mono ?_
      rintro e w5 ⟨r, rfl, hr, rfl⟩
      obtain ⟨ro, rc, rfl, -⟩ := hr.shape
      have HR := Lib.hid hr
      clear hr
      go_wp2
      go_ret
      exact ⟨_, rfl, HR.out, HT2.out⟩
end Go.Proofs.YteieedfigoihpaaGreatDoor
namespace Go.Proofs.YteieedfigoihpaaGreatDoor
open Go Go.RowKit Gu

theorem low_dg (a : Nat) : dg 65536 a 0 % 2 = a % 2 := by
  unfold dg; rw [Nat.pow_zero, Nat.div_one]; omega
theorem gcd_two {a b : Nat} (h : (Nat.gcd a b) % 2 = 1) (ha : a % 2 = 0) : Nat.gcd (a / 2) b = Nat.gcd a b := by
  have e : a = 2 * (a / 2) := by omega
  have hc : Nat.Coprime 2 b := by
    have h1 : Nat.gcd 2 b ∣ 2 := Nat.gcd_dvd_left _ _
    have h2 : Nat.gcd 2 b ∣ Nat.gcd a b := Nat.dvd_gcd (Nat.dvd_trans h1 ⟨a / 2, e⟩) (Nat.gcd_dvd_right _ _)
    have h3 : Nat.gcd 2 b ≤ 2 := Nat.le_of_dvd (by decide) h1
    have h4 : 0 < Nat.gcd 2 b := Nat.gcd_pos_of_pos_left _ (by decide)
    rcases (show Nat.gcd 2 b = 1 ∨ Nat.gcd 2 b = 2 by omega) with h5 | h5
    · exact h5
    · rw [h5] at h2
      obtain ⟨c, hc⟩ := h2
      omega
  rw [show Nat.gcd a b = Nat.gcd (2 * (a / 2)) b from by rw [← e]]
  exact (Nat.Coprime.gcd_mul_left_cancel _ hc).symm
theorem gcd_kk {kk G' G m : Nat} (h : 2 ^ kk * G' = G) (h0 : 0 < G') (hG : G < 65536 ^ m) : kk ≤ 16 * m := by
  have e : 65536 ^ m = 2 ^ (16 * m) := by rw [Nat.pow_mul]
  have h1 : 2 ^ kk * 1 ≤ 2 ^ kk * G' := Nat.mul_le_mul_left _ h0
  rcases Nat.lt_or_ge (16 * m) kk with h2 | h2
  · have h3 : 2 ^ (16 * m) ≤ 2 ^ kk := Nat.pow_le_pow_right (by decide) (Nat.le_of_lt h2)
    omega
  · exact h2
theorem gcd_sub' {a b : Nat} (h : b ≤ a) : Nat.gcd (a - b) b = Nat.gcd a b := Nat.gcd_sub_self_left h
theorem nd_halve {a m : Nat} (h : nd 65536 a ≤ m) : nd 65536 (a / 2) ≤ m := Nat.le_trans (nd_mono (by decide) (Nat.div_le_self _ _)) h
/-- what the loops of Gcd keep -/
def GR (m G : Nat) (w : World) (A B : Nat) (x y : Value) (wr : World) : Prop :=
  R wr x A ∧ R wr y B ∧ nd 65536 A ≤ m ∧ nd 65536 B ≤ m ∧ 0 < B ∧ Nat.gcd A B = G ∧ Below w.heap.size w wr
theorem GR.next {m G : Nat} {w : World} {A B : Nat} {x y : Value} {wr wr' : World} (h : GR m G w A B x y wr) (hb : Below wr.heap.size wr wr') : GR m G w A B x y wr' := by
  obtain ⟨h1, h2, h3, h4, h5, h6, h7⟩ := h
  exact ⟨h1.below hb, h2.below hb, h3, h4, h5, h6, h7.trans (hb.mono h7.size)⟩
theorem R.low {w : World} {v : Value} {n : Nat} (h : R w v n) (h0 : 0 < n) : ∃ b o c, v = .slice (some ⟨b, o, none⟩) (nd 65536 n) c ∧ w.cell? ⟨b, o, none⟩ = some (.int .i64 (dg 65536 n 0)) ∧ 0 < nd 65536 n := by
  have hn := nd_pos (B := 65536) (by decide) h0
  rcases h with ⟨h1, _⟩ | ⟨_, b, o, c, hv, hc⟩
  · omega
  · exact ⟨b, o, c, hv, hc 0 hn, hn⟩
theorem RShr_half (v : Value) (a : Nat) (w : World) (hv : R w v a) (ha : nd 65536 a ≤ 1000) :
    Calls Tryz.prog 62 #[v, .int .i64 1] w fun e w' => ∃ r, e = .returned r ∧ R w' r (a / 2) ∧ Below w.heap.size w w' := by
  have h := RShr_any v a 1 w hv (by omega) (by decide)
  rw [Nat.pow_one] at h
  exact h
set_option maxHeartbeats 4000000 in
set_option maxRecDepth 100000 in
theorem RGcd_any (v u : Value) (a b : Nat) (w : World) (hv : R w v a) (hu : R w u b) (ha : nd 65536 a ≤ 1000) (hb : nd 65536 b ≤ 1000) :
    Calls Tryz.prog 43 #[v, u] w fun e w' => ∃ r, e = .returned r ∧ R w' r (Nat.gcd a b) ∧ Below w.heap.size w w' := by
  rcases Nat.eq_zero_or_pos a with h0 | h0
  · subst h0
    obtain ⟨ao, ac, rfl, -⟩ := hv.shape
    rw [nd_zero]
    rw [Nat.gcd_zero_left]
    have HU := Lib.hid hu
    clear hv hu
    go_enter Tryz.func43, Tryz.ntmps43
    go_wp2
    go_ret
    exact ⟨_, rfl, HU.out, Below.refl _ _⟩
  · rcases Nat.eq_zero_or_pos b with h1 | h1
    · subst h1
      obtain ⟨bo, bc, rfl, -⟩ := hu.shape
      obtain ⟨ab, ao, ac, rfl, -, hl⟩ := R.low hv h0
      rw [nd_zero]
      rw [Nat.gcd_zero_right]
      have HV := Lib.hid hv
      have hl' : ¬ (((nd 65536 a : Nat) : Int) = 0) := by omega
      clear hv hu hl
      generalize nd 65536 a = la at *
      go_enter Tryz.func43, Tryz.ntmps43
      go_wp2
      go_ret
      exact ⟨_, rfl, HV.out, Below.refl _ _⟩
    · have hm : (max (nd 65536 a) (nd 65536 b)) ≤ 1000 := by omega
      obtain ⟨m, hmm⟩ : ∃ m, m = max (nd 65536 a) (nd 65536 b) := ⟨_, rfl⟩
      have HG0 : Hid (GR m (Nat.gcd a b) w a b v u w) := ⟨hv, hu, by omega, by omega, h1, rfl, Below.refl _ _⟩
      have hm1000 : m ≤ 1000 := by omega
      obtain ⟨ab, ao, ac, rfl, -, hla⟩ := R.low hv h0
      obtain ⟨bb, bo, bc, rfl, -, hlb⟩ := R.low hu h1
      have hla' : ¬ (((nd 65536 a : Nat) : Int) = 0) := by omega
      have hlb' : ¬ (((nd 65536 b : Nat) : Int) = 0) := by omega
      have HGP : Hid (0 < Nat.gcd a b) := Nat.gcd_pos_of_pos_left _ h0
      obtain ⟨G, hG⟩ : ∃ G, G = Nat.gcd a b := ⟨_, rfl⟩
      rw [← hG] at HG0 HGP ⊢
      have HA0 := Lib.hid h0
      have HGL : Hid (G < 65536 ^ m) := by
        show G < _
        rw [hG]; exact Nat.lt_of_le_of_lt (Nat.gcd_le_left _ h0) ((nd_le (by decide)).1 (show nd 65536 a ≤ m by omega))
      clear hv hu hla hlb hmm hm ha hb hG
      have hqa : ((((nd 65536 a : Nat)) : Int) == 0) = false := beq_eq_false_iff_ne.2 hla'
      have hqb : ((((nd 65536 b : Nat)) : Int) == 0) = false := beq_eq_false_iff_ne.2 hlb'
      generalize hna : nd 65536 a = la at *
      generalize hnb : nd 65536 b = lb at *
      clear hna hnb
      go_enter Tryz.func43, Tryz.ntmps43
      go_wp2
      go_loopg [0, 1, 5] a (fun n x y k wr => ∃ B kk G' : Nat, k = .int .i64 kk ∧ 0 < n ∧ Hid (2 ^ kk * G' = G ∧ 0 < G') ∧ GR m G' w n B x y wr)
      case atStart => exact ⟨b, 0, G, rfl, HA0.out, ⟨by simp, HGP.out⟩, HG0.out⟩
      case round =>
        obtain ⟨B, kk, G', rfl, hn0, HKK, hgr⟩ := hrel
        have hk1 : kk ≤ 16000 := by have := gcd_kk HKK.out.1 HKK.out.2 HGL.out; omega
        obtain ⟨ab, ao, ac, rfl, hca, hla⟩ := R.low hgr.1 hn0
        obtain ⟨bb, bo, bc, rfl, hcb, hlb⟩ := R.low hgr.2.1 hgr.2.2.2.2.1
        have HGR := Lib.hid hgr
        have hla2 : (0 : Int) < ((nd 65536 gk : Nat) : Int) := by omega
        have hlb2 : (0 : Int) < ((nd 65536 B : Nat) : Int) := by omega
        have HDA := Lib.hid (low_dg gk); have HDB := Lib.hid (low_dg B)
        have hda := dg_lt (B := 65536) (by decide) gk 0
        have hdb := dg_lt (B := 65536) (by decide) B 0
        clear hgr
        by_cases hev : gk % 2 = 0 ∧ B % 2 = 0
        · obtain ⟨he1, he2⟩ := hev
          have q1 : (((dg 65536 gk 0 : Nat) : Int) % 2 == 0) = true := by have := HDA.out; simp; omega
          have q2 : (((dg 65536 B 0 : Nat) : Int) % 2 == 0) = true := by have := HDB.out; simp; omega
          have HSA := Lib.hid (RShr_half _ gk wr HGR.out.1 (by have := HGR.out.2.2.1; omega))
          have HB0 := Lib.hid (HGR.out.2.2.2.2.1)
          have HKK2 : Hid (∃ G2, 2 ^ (kk + 1) * G2 = G ∧ 0 < G2 ∧ Nat.gcd (gk / 2) (B / 2) = G2) := by
            refine ⟨_, ?_, ?_, rfl⟩
            · have h1 : Nat.gcd gk B = G' := HGR.out.2.2.2.2.2.1
              have h2 : Nat.gcd (2 * (gk / 2)) (2 * (B / 2)) = 2 * Nat.gcd (gk / 2) (B / 2) := Nat.gcd_mul_left _ _ _
              rw [show 2 * (gk / 2) = gk from by omega, show 2 * (B / 2) = B from by omega, h1] at h2
              rw [Nat.pow_succ, Nat.mul_assoc, ← h2]; exact HKK.out.1
            · exact Nat.gcd_pos_of_pos_left _ (by omega)
          have HG23 : Hid (gk / 2 < gk ∧ 0 < gk / 2 ∧ 0 < B / 2) := by have := HB0.out; show _ ∧ _; omega
          clear he1 he2
          generalize dg 65536 gk 0 = da at *
          generalize dg 65536 B 0 = db at *
          go_wp2_with fail
          refine HSA.out.mono ?_
          rintro e w2 ⟨r1, rfl, hr1, hb1⟩
          have HR1 := Lib.hid hr1; have HB1 := Lib.hid hb1
          have HSB := Lib.hid (RShr_half _ B w2 (HGR.out.2.1.below hb1) (by have := HGR.out.2.2.2.1; omega))
          clear hr1 hb1
          go_wp2_with fail
          refine HSB.out.mono ?_
          rintro e w3 ⟨r2, rfl, hr2, hb2⟩
          have HFIN : Hid (∃ G2, (2 ^ (kk + 1) * G2 = G ∧ 0 < G2) ∧ GR m G2 w (gk / 2) (B / 2) r1 r2 w3) := by
            obtain ⟨G2, e1, e2, e3⟩ := HKK2.out
            obtain ⟨h1, h2, h3, h4, h5, h6, h7⟩ := HGR.out
            exact ⟨G2, ⟨e1, e2⟩, HR1.out.below hb2, hr2, nd_halve h3, nd_halve h4, HG23.out.2.2, e3, (h7.trans (HB1.out.mono h7.size)).trans (hb2.mono (h7.trans (HB1.out.mono h7.size)).size)⟩
          clear hr2 hb2
          go_wp2
          go_roundg (gk / 2)
          case measure => exact HG23.out.1
          case rel =>
            obtain ⟨G2, h1, h2⟩ := HFIN.out
            exact ⟨B / 2, kk + 1, G2, by go_num, HG23.out.2.1, h1, h2⟩
        · have HODD : Hid (G' % 2 = 1) := by
            show _ = _
            have h6 : Nat.gcd gk B = G' := HGR.out.2.2.2.2.2.1
            rcases (show G' % 2 = 1 ∨ G' % 2 = 0 by omega) with h | h
            · exact h
            · exfalso
              have d2 : 2 ∣ G' := Nat.dvd_of_mod_eq_zero h
              have d3 : 2 ∣ gk := Nat.dvd_trans d2 (h6 ▸ Nat.gcd_dvd_left gk B)
              have d4 : 2 ∣ B := Nat.dvd_trans d2 (h6 ▸ Nat.gcd_dvd_right gk B)
              exact hev ⟨Nat.mod_eq_zero_of_dvd d3, Nat.mod_eq_zero_of_dvd d4⟩
          have HSTART := HGR
          have hq : ((((dg 65536 gk 0 : Nat) : Int) % 2 == 0) = false) ∨ ((((dg 65536 gk 0 : Nat) : Int) % 2 == 0) = true ∧ (((dg 65536 B 0 : Nat) : Int) % 2 == 0) = false) := by
            have e1 := HDA.out; have e2 := HDB.out
            rcases (show gk % 2 = 0 ∨ gk % 2 = 1 by omega) with h | h
            · right; have : ¬ B % 2 = 0 := fun h' => hev ⟨h, h'⟩
              constructor
              · simp; omega
              · simp; omega
            · left; simp; omega
          clear hev HDA HDB
          generalize dg 65536 gk 0 = da at *
          generalize dg 65536 B 0 = db at *
          rcases hq with q1 | ⟨q1, q2⟩
          all_goals
            go_wp2
            go_loopg [0, 1] (gk + B) (fun n x y wr => ∃ A C : Nat, Hid (n = A + C) ∧ GR m G' w A C x y wr)
            case atStart => exact ⟨gk, B, rfl, HSTART.out⟩
            case round =>
              obtain ⟨A, C, HN, hgr⟩ := hrel
              rcases Nat.eq_zero_or_pos A with hA | hA
              · subst hA
                obtain ⟨xo, xc, rfl, -⟩ := hgr.1.shape
                rw [nd_zero] at hgr ⊢
                have HC : Hid (C * 2 ^ kk = G) := by
                  show _ = _
                  have h := hgr.2.2.2.2.2.1
                  rw [Nat.gcd_zero_left] at h
                  rw [h, Nat.mul_comm]; exact HKK.out.1
                have HSH := Lib.hid (RShl_any _ C kk wr hgr.2.1 (by have := hgr.2.2.2.1; omega) (by omega))
                have HBE := Lib.hid hgr.2.2.2.2.2.2
                obtain ⟨yo, yc, rfl, -⟩ := hgr.2.1.shape
                rw [HC.out] at HSH
                clear hgr
                go_wp2_with fail
                refine HSH.out.mono ?_
                rintro e w5 ⟨r, rfl, hr, hb⟩
                have HR := Lib.hid hr
                have HB5 := Lib.hid (HBE.out.trans (hb.mono HBE.out.size))
                clear hr hb
                go_wp2
                go_ret
                exact ⟨_, rfl, HR.out, HB5.out⟩
              · obtain ⟨ab, ao, ac, rfl, -, hla⟩ := R.low hgr.1 hA
                obtain ⟨bb, bo, bc, rfl, -, hlb⟩ := R.low hgr.2.1 hgr.2.2.2.2.1
                have HGR2 := Lib.hid hgr
                have hla3 : (0 : Int) < ((nd 65536 A : Nat) : Int) := by omega
                have hdec : decide (0 < nd 65536 A) = true := decide_eq_true hla
                have HHA := Lib.hid hA
                have HHC := Lib.hid hgr.2.2.2.2.1
                clear hgr hla hlb
                obtain ⟨g2, rfl⟩ : ∃ g2, g2 = gk := ⟨_, rfl⟩
                go_wp2
                go_loopg [0] A (fun n x wr => 0 < n ∧ n ≤ A ∧ GR m G' w n C x (.slice (some ⟨bb, bo, none⟩) (nd 65536 C) bc) wr)
                case atStart => exact ⟨HHA.out, Nat.le_refl _, HGR2.out⟩
                case round =>
                  obtain ⟨hn, hnA, hgr⟩ := hrel
                  obtain ⟨A1, rfl⟩ : ∃ A1, A1 = gk := ⟨_, rfl⟩
                  obtain ⟨ab, ao, ac, rfl, hca, hla⟩ := R.low hgr.1 hn
                  have hla4 : (0 : Int) < ((nd 65536 A1 : Nat) : Int) := by omega
                  have HDA := Lib.hid (low_dg A1)
                  have hda := dg_lt (B := 65536) (by decide) A1 0
                  have HGR := Lib.hid hgr
                  clear hgr
                  by_cases hev : A1 % 2 = 0
                  · have q1 : (((dg 65536 A1 0 : Nat) : Int) % 2 == 0) = true := by have := HDA.out; simp; omega
                    have HSA := Lib.hid (RShr_half _ A1 wr HGR.out.1 (by have := HGR.out.2.2.1; omega))
                    have HEV := Lib.hid hev
                    clear hev HDA
                    generalize dg 65536 A1 0 = da at *
                    go_wp2_with fail
                    refine HSA.out.mono ?_
                    rintro e w2 ⟨r1, rfl, hr1, hb1⟩
                    have HFIN : Hid (GR m G' w (A1 / 2) C r1 (.slice (some ⟨bb, bo, none⟩) (nd 65536 C) bc) w2) := by
                      obtain ⟨h1, h2, h3, h4, h5, h6, h7⟩ := HGR.out
                      exact ⟨hr1, h2.below hb1, nd_halve h3, h4, h5, (gcd_two (by rw [h6]; exact HODD.out) HEV.out).trans h6, h7.trans (hb1.mono h7.size)⟩
                    have hd1 : A1 / 2 < A1 := by omega
                    have hd2 : 0 < A1 / 2 := by have := HEV.out; omega
                    have HDD : Hid (A1 / 2 < A1 ∧ 0 < A1 / 2 ∧ A1 / 2 ≤ A) := ⟨hd1, hd2, by omega⟩
                    clear hr1 hb1 hd1 hd2
                    go_wp2
                    go_roundg (A1 / 2)
                    case measure => exact HDD.out.1
                    case rel => exact ⟨HDD.out.2.1, HDD.out.2.2, HFIN.out⟩
                  · have q1 : (((dg 65536 A1 0 : Nat) : Int) % 2 == 0) = false := by have := HDA.out; simp; omega
                    have HEA := Lib.hid hev
                    clear hev HDA
                    generalize dg 65536 A1 0 = da at *
                    go_wp2
                    go_loopg [1] C (fun n y wr => 0 < n ∧ n ≤ C ∧ GR m G' w A1 n (.slice (some ⟨ab, ao, none⟩) (nd 65536 A1) ac) y wr)
                    case atStart => exact ⟨HHC.out, Nat.le_refl _, HGR.out⟩
                    case round =>
                      obtain ⟨hn2, hnC, hgr⟩ := hrel
                      obtain ⟨C1, rfl⟩ : ∃ C1, C1 = gk := ⟨_, rfl⟩
                      obtain ⟨bb, bo, bc, rfl, hcb, hlb⟩ := R.low hgr.2.1 hn2
                      have hlb4 : (0 : Int) < ((nd 65536 C1 : Nat) : Int) := by omega
                      have HDB := Lib.hid (low_dg C1)
                      have hdb := dg_lt (B := 65536) (by decide) C1 0
                      have HGR := Lib.hid hgr
                      clear hgr
                      by_cases hev : C1 % 2 = 0
                      · have q1 : (((dg 65536 C1 0 : Nat) : Int) % 2 == 0) = true := by have := HDB.out; simp; omega
                        have HSB := Lib.hid (RShr_half _ C1 wr HGR.out.2.1 (by have := HGR.out.2.2.2.1; omega))
                        have HEV := Lib.hid hev
                        clear hev HDB
                        generalize dg 65536 C1 0 = db at *
                        go_wp2_with fail
                        refine HSB.out.mono ?_
                        rintro e w2 ⟨r1, rfl, hr1, hb1⟩
                        have hd1 : C1 / 2 < C1 := by omega
                        have hd2 : 0 < C1 / 2 := by have := HEV.out; omega
                        have HDD : Hid (C1 / 2 < C1 ∧ 0 < C1 / 2 ∧ C1 / 2 ≤ C) := ⟨hd1, hd2, by omega⟩
                        have HFIN : Hid (GR m G' w A1 (C1 / 2) (.slice (some ⟨ab, ao, none⟩) (nd 65536 A1) ac) r1 w2) := by
                          obtain ⟨h1, h2, h3, h4, h5, h6, h7⟩ := HGR.out
                          exact ⟨h1.below hb1, hr1, h3, nd_halve h4, hd2, by rw [Nat.gcd_comm]; exact (gcd_two (by rw [Nat.gcd_comm, h6]; exact HODD.out) HEV.out).trans ((Nat.gcd_comm _ _).trans h6), h7.trans (hb1.mono h7.size)⟩
                        clear hr1 hb1 hd1 hd2
                        go_wp2
                        go_roundg (C1 / 2)
                        case measure => exact HDD.out.1
                        case rel => exact ⟨HDD.out.2.1, HDD.out.2.2, HFIN.out⟩
                      · have q1 : (((dg 65536 C1 0 : Nat) : Int) % 2 == 0) = false := by have := HDB.out; simp; omega
                        have HCM := Lib.hid (RCmp_any _ _ A1 C1 wr HGR.out.1 HGR.out.2.1 (by have := HGR.out.2.2.1; omega) (by have := HGR.out.2.2.2.1; omega))
                        clear hev HDB
                        generalize dg 65536 C1 0 = db at *
                        by_cases hle : C1 ≤ A1
                        · have hcm : (0 : Int) ≤ cmpN A1 C1 := by
                            rcases Nat.lt_or_eq_of_le hle with h | h
                            · rw [cmpN_gt (by omega)]; decide
                            · rw [cmpN_eq (by omega)]; decide
                          have HSU := Lib.hid (fun q => RSub_any _ _ A1 C1 (wr.drewN q) (HGR.out.1.below (below_drewN (Below.refl _ _) q)) (HGR.out.2.1.below (below_drewN (Below.refl _ _) q)) (by have := HGR.out.2.2.1; omega) (by have := HGR.out.2.2.2.1; omega) hle)
                          generalize cmpN A1 C1 = cc at *
                          have HLE := Lib.hid hle
                          clear hle
                          go_wp2_with fail
                          refine HCM.out.mono ?_
                          rintro e w3 ⟨rfl, q, rfl⟩
                          go_wp2_with fail
                          refine (HSU.out q).mono ?_
                          rintro e w4 ⟨r, rfl, hr, hb⟩
                          have HFIN : Hid (GR m G' w (A1 - C1) C1 r (.slice (some ⟨bb, bo, none⟩) (nd 65536 C1) bc) w4) := by
                            obtain ⟨h1, h2, h3, h4, h5, h6, h7⟩ := HGR.out
                            have hb2 := (below_drewN (Below.refl wr.heap.size wr) q).trans (hb.mono (below_drewN (Below.refl wr.heap.size wr) q).size)
                            exact ⟨hr, h2.below hb2, Nat.le_trans (nd_mono (by decide) (Nat.sub_le _ _)) h3, h4, h5, (gcd_sub' HLE.out).trans h6, h7.trans (hb2.mono h7.size)⟩
                          clear hr hb
                          go_wp2
                          go_roundg (A1 - C1 + C1)
                          case measure => have := HN.out; have := HHC.out; have := HLE.out; omega
                          case rel => exact ⟨A1 - C1, C1, rfl, HFIN.out⟩
                        · have hcm : cmpN A1 C1 < (0 : Int) := by rw [cmpN_lt (by omega)]; decide
                          have HSU := Lib.hid (fun q => RSub_any _ _ C1 A1 (wr.drewN q) (HGR.out.2.1.below (below_drewN (Below.refl _ _) q)) (HGR.out.1.below (below_drewN (Below.refl _ _) q)) (by have := HGR.out.2.2.2.1; omega) (by have := HGR.out.2.2.1; omega) (by omega))
                          generalize cmpN A1 C1 = cc at *
                          have HLE : Hid (A1 < C1) := by show _ < _; omega
                          clear hle
                          go_wp2_with fail
                          refine HCM.out.mono ?_
                          rintro e w3 ⟨rfl, q, rfl⟩
                          go_wp2_with fail
                          refine (HSU.out q).mono ?_
                          rintro e w4 ⟨r, rfl, hr, hb⟩
                          have HFIN : Hid (GR m G' w A1 (C1 - A1) (.slice (some ⟨ab, ao, none⟩) (nd 65536 A1) ac) r w4) := by
                            obtain ⟨h1, h2, h3, h4, h5, h6, h7⟩ := HGR.out
                            have hb2 := (below_drewN (Below.refl wr.heap.size wr) q).trans (hb.mono (below_drewN (Below.refl wr.heap.size wr) q).size)
                            exact ⟨h1.below hb2, hr, h3, Nat.le_trans (nd_mono (by decide) (Nat.sub_le _ _)) h4, by have := HLE.out; omega, (by rw [Nat.gcd_comm]; exact (gcd_sub' (Nat.le_of_lt HLE.out)).trans ((Nat.gcd_comm _ _).trans h6)), h7.trans (hb2.mono h7.size)⟩
                          clear hr hb
                          go_wp2
                          go_roundg (A1 + (C1 - A1))
                          case measure => have := HN.out; have := HHA.out; have := HLE.out; omega
                          case rel => exact ⟨A1, C1 - A1, rfl, HFIN.out⟩
end Go.Proofs.YteieedfigoihpaaGreatDoor
namespace Go.Proofs.YteieedfigoihpaaGreatDoor
open Go Go.RowKit Gu

/-- the slice lies in a block from base on, if it has a cell -/
def FR (base : Nat) (r : Value) (X : Nat) : Prop := ∀ bb o l c, r = .slice (some ⟨bb, o, none⟩) l c → 0 < X → base ≤ bb
theorem FR.mono {b b' : Nat} {r : Value} {X : Nat} (h : FR b' r X) (hb : b ≤ b') : FR b r X := fun bb o l c he h0 => Nat.le_trans hb (h bb o l c he h0)
theorem own_FR {k : IntKind} {B : Nat} {T : TypeId} {w : World} {base : Nat} {v : Value} {m x : Nat} (h : Own k B T w base v m x) (X : Nat) : FR base v X := by
  intro bb o l c he _
  rcases h.shape with ⟨rfl, _⟩ | ⟨g, cap, rfl, hb, _⟩
  · cases he
  · simp only [Value.slice.injEq, Option.some.injEq, Addr.mk.injEq, and_true] at he
    obtain ⟨⟨rfl, rfl⟩, _, _⟩ := he
    exact hb
theorem Trim_own_f (base k X : Nat) (v : Value) (w : World) (h : Own .i64 65536 3 w base v k X) (hX : X < 65536 ^ k) (hk : k ≤ 4611686018427387904) :
    Calls Tryz.prog 41 #[v] w fun e w' => ∃ r, e = .returned r ∧ R w' r X ∧ w = w' ∧ FR base r X := by
  rcases h.shape with ⟨rfl, rfl⟩ | ⟨g, cap, rfl, hb, _, hm, hc, hcell⟩
  · obtain rfl : X = 0 := by rw [Nat.pow_zero] at hX; omega
    exact (Trim_none w).mono fun e w' ⟨he, hw⟩ => ⟨_, he, IsN.zero _ _ _ _ _, hw, fun _ _ _ _ _ h0 => absurd h0 (Nat.lt_irrefl _)⟩
  · refine (Trim_any g k cap X w hcell hX hk hm).mono fun e w' ⟨he, hw⟩ => ⟨_, he, ?_, hw, ?_⟩
    · rw [← hw]
      rcases Nat.eq_zero_or_pos X with h0 | h0
      · subst h0; rw [nd_zero]; exact IsN.zero _ _ _ _ _
      · exact .inr ⟨h0, g, 0, cap, rfl, fun i hi => by rw [Nat.zero_add]; exact hcell i (Nat.lt_of_lt_of_le hi ((nd_le (by decide)).2 hX))⟩
    · intro bb o l c he _
      simp only [Value.slice.injEq, Option.some.injEq, Addr.mk.injEq, and_true] at he
      obtain ⟨⟨rfl, rfl⟩, _, _⟩ := he
      exact hb
/-- a store into another block leaves the number -/
theorem FR.setCell {r : Value} {X base g j : Nat} {w : World} {u : Value} (h : R w r X) (hf : FR base r X) (hg : g < base) : R (w.setCell ⟨g, j, none⟩ u) r X := by
  refine IsN.grown h (grownBy_setCell w g j u) (fun b o c l he h0 => ?_)
  have := hf b o l c
  have h1 := hf b o _ _ he h0
  omega
set_option maxHeartbeats 2000000 in
set_option maxRecDepth 100000 in
theorem RSub_f (v u : Value) (a b : Nat) (w : World) (hv : R w v a) (hu : R w u b) (ha : nd 65536 a ≤ 1048576) (hb : nd 65536 b ≤ 1048576) (hle : b ≤ a) :
    Calls Tryz.prog 63 #[v, u] w fun e w' => ∃ r, e = .returned r ∧ R w' r (a - b) ∧ Below w.heap.size w w' ∧ FR w.heap.size r (a - b) := by
  obtain ⟨i0, hi, hz0, hz1, hz2⟩ := info_parts Tryz.infoInt
  have hB : 2 ≤ 65536 := by decide
  obtain ⟨ao, ac, rfl, hcv⟩ := hv.shape
  obtain ⟨bo, bc, rfl, -⟩ := hu.shape
  have HU := Lib.hid hu
  have HC := Lib.hid hcv
  have HAB := Lib.hid hle
  clear hv hu hcv hle
  have HAl := Lib.hid (nd_lt hB a)
  have HNb : Hid (nd 65536 b ≤ 4611686018427387904) := by show _ ≤ _; omega
  generalize nd 65536 a = la at *
  obtain ⟨lb, hlb⟩ : ∃ lb, nd 65536 b = lb := ⟨_, rfl⟩
  rw [hlb] at hb HU ⊢
  clear hlb
  go_enter Tryz.func63, Tryz.ntmps63
  go_wp2
  go_loopg [5, 6, 7] la (fun m out c i wr => ∃ k X br : Nat, Hid (m + k = la) ∧ i = .int .i64 k ∧ c = .int .i64 br ∧ SbRel a b w k X br out wr)
  case atStart => exact ⟨0, 0, 0, rfl, rfl, rfl, by omega, by simp, by simp [Nat.mod_one], Own.nil _ _ _ _ _, Below.refl _ _⟩
  case round =>
    obtain ⟨k, X, br, HK, rfl, rfl, hrel⟩ := hrel
    have hkl : k ≤ la := by have := HK.out; omega
    obtain ⟨hbr, hX, hsum, hown, hbel⟩ := hrel
    by_cases hlt : k < la
    · have hlt' : (k : Int) < la := by omega
      have hB' := Lib.hid (fun q => Rat_any _ b k (wr.drewN q) (HU.out.below (below_drewN hbel q)) HNb.out)
      obtain ⟨gb, go, rfl, hca⟩ := HC.out k hlt
      have hca' : wr.cell? ⟨gb, go + k, none⟩ = some (.int .i64 (dg 65536 a k : Nat)) := by
        rw [hbel.cell (p := ⟨gb, go + k, none⟩) (World.block_lt_of_cell? _ _ hca)]; exact hca
      have hda := dg_lt (B := 65536) (by decide) a k
      have hdb := dg_lt (B := 65536) (by decide) b k
      obtain ⟨d, br', hd, hd1, hd2, hneg⟩ : ∃ d br' : Nat, d + dg 65536 b k + br = dg 65536 a k + 65536 * br' ∧ d < 65536 ∧ br' ≤ 1 ∧ ((br' = 1 ∧ (dg 65536 a k : Int) - (dg 65536 b k : Nat) - br < 0) ∨ (br' = 0 ∧ 0 ≤ (dg 65536 a k : Int) - (dg 65536 b k : Nat) - br)) := by
        by_cases h : dg 65536 b k + br ≤ dg 65536 a k
        · exact ⟨dg 65536 a k - dg 65536 b k - br, 0, by omega, by omega, by omega, .inr ⟨rfl, by omega⟩⟩
        · exact ⟨dg 65536 a k + 65536 - dg 65536 b k - br, 1, by omega, by omega, by omega, .inl ⟨rfl, by omega⟩⟩
      have HSR := Lib.hid (sub_round (B := 65536) hsum hd)
      have HPS := Lib.hid (pad_succ (by decide) hX hd1)
      have HLT2 := Lib.hid (snoc_lt hX hd1)
      have HB := Lib.hid hbel
      have hltw := hown.lt
      have HLT := Lib.hid hltw
      have hsz := hbel.size
      unfold Own at hown
      clear hbel hltw hsum hX hca
      generalize dg 65536 a k = da at *
      generalize dg 65536 b k = db at *
      rcases hneg with ⟨rfl, hneg⟩ | ⟨rfl, hneg⟩
      · go_wp2_with fail
        go_quiet ((go_at_call 40; exact Calls.quiet_of_same ((hB'.out _).mono fun _ _ ⟨h, h'⟩ => ⟨h, h'.symm⟩)))
        have hown' := ownsRow_below hown (below_drewN (Below.refl wr.heap.size wr) nq)
        have hsz2 : w.heap.size ≤ (wr.drewN nq).heap.size := by have := (below_drewN (Below.refl wr.heap.size wr) nq).size; omega
        have HB2 : Hid (Below w.heap.size w (wr.drewN nq)) := below_drewN HB.out nq
        have HLT3 := Lib.hid hown'.lt
        have HD : Hid (((d : Nat) : Int) = (da : Int) - db - br + 65536) := by show _ = _; omega
        generalize wr.drewN nq = wq at *
        go_wp2_with (at_builtin; refine wpList_append_own _ rfl _ _ 33 rfl w.heap.size 3 i0 (.int .i64 0) 1 8 Tryz.underlying33 hi hz0 hz1 hz2 rfl (by decide) _ _ _ rfl (hown'.alloc _) ⟨wq.heap.size, 0, none⟩ 1 1 [.int .i64 ((da : Int) - db - br + 65536)] rfl rfl ?c1 ?c2 ?c3 ?c4 ?c5 ?_)
        case c1 => exact cell_one_new _ _ _
        case c2 => intro u hu; simp at hu; subst hu; rfl
        case c3 => unfold maxLen; omega
        case c4 => omega
        case c5 => simp; omega
        intro v' w4 hown4 hgrow hnil
        have HFIN : Hid (SbRel a b w (k + 1) (X + 65536 ^ k * d) 1 v' w4) := by
          refine ⟨by omega, HLT2.out, HSR.out, ?_, ?_⟩
          · unfold Own
            rw [HPS.out, List.map_append]
            show w4.ownsRow _ _ _ _ _ (_ ++ [Value.int .i64 ((d : Nat) : Int)])
            rw [HD.out]
            exact hown4
          · refine Below.grown (HB2.out.alloc (by omega) _) hgrow (by simp; omega) ?_
            intro j hj
            exact (HLT3.out _ hj).1
        clear hown4 hgrow hnil
        go_wp2
        go_roundg (la - (k + 1))
        case measure => have := HK.out; omega
        case rel => exact ⟨k + 1, _, 1, by show _ = _; omega, by go_num, rfl, HFIN.out⟩
      · go_wp2_with fail
        go_quiet ((go_at_call 40; exact Calls.quiet_of_same ((hB'.out _).mono fun _ _ ⟨h, h'⟩ => ⟨h, h'.symm⟩)))
        have hown' := ownsRow_below hown (below_drewN (Below.refl wr.heap.size wr) nq)
        have hsz2 : w.heap.size ≤ (wr.drewN nq).heap.size := by have := (below_drewN (Below.refl wr.heap.size wr) nq).size; omega
        have HB2 : Hid (Below w.heap.size w (wr.drewN nq)) := below_drewN HB.out nq
        have HLT3 := Lib.hid hown'.lt
        have HD : Hid (((d : Nat) : Int) = (da : Int) - db - br) := by show _ = _; omega
        generalize wr.drewN nq = wq at *
        go_wp2_with (at_builtin; refine wpList_append_own _ rfl _ _ 33 rfl w.heap.size 3 i0 (.int .i64 0) 1 8 Tryz.underlying33 hi hz0 hz1 hz2 rfl (by decide) _ _ _ rfl (hown'.alloc _) ⟨wq.heap.size, 0, none⟩ 1 1 [.int .i64 ((da : Int) - db - br)] rfl rfl ?c1 ?c2 ?c3 ?c4 ?c5 ?_)
        case c1 => exact cell_one_new _ _ _
        case c2 => intro u hu; simp at hu; subst hu; rfl
        case c3 => unfold maxLen; omega
        case c4 => omega
        case c5 => simp; omega
        intro v' w4 hown4 hgrow hnil
        have HFIN : Hid (SbRel a b w (k + 1) (X + 65536 ^ k * d) 0 v' w4) := by
          refine ⟨by omega, HLT2.out, HSR.out, ?_, ?_⟩
          · unfold Own
            rw [HPS.out, List.map_append]
            show w4.ownsRow _ _ _ _ _ (_ ++ [Value.int .i64 ((d : Nat) : Int)])
            rw [HD.out]
            exact hown4
          · refine Below.grown (HB2.out.alloc (by omega) _) hgrow (by simp; omega) ?_
            intro j hj
            exact (HLT3.out _ hj).1
        clear hown4 hgrow hnil
        go_wp2
        go_roundg (la - (k + 1))
        case measure => have := HK.out; omega
        case rel => exact ⟨k + 1, _, 0, by show _ = _; omega, by go_num, rfl, HFIN.out⟩
    · obtain rfl : k = la := by omega
      have hb1 : b < 65536 ^ k := Nat.lt_of_le_of_lt HAB.out HAl.out
      rw [Nat.mod_eq_of_lt HAl.out, Nat.mod_eq_of_lt hb1] at hsum
      have hb0 : br = 0 := by
        rcases Nat.lt_or_ge br 1 with h | h
        · omega
        · have h1 : br = 1 := by omega
          subst h1
          have := HAB.out
          rw [Nat.mul_one] at hsum
          omega
      subst hb0
      have hXe : X = a - b := by rw [Nat.mul_zero] at hsum; omega
      subst hXe
      have HT := Lib.hid (Trim_own_f _ _ _ _ _ hown hX (by omega))
      have HB := Lib.hid hbel
      clear hown hbel hsum hX
      go_wp2_with fail
      refine HT.out.mono ?_
      rintro e w5 ⟨r, rfl, hr, rfl, hfrr⟩
      obtain ⟨ro, rc, rfl, -⟩ := hr.shape
      have HR := Lib.hid hr
      have HFR := Lib.hid hfrr
      clear hr hfrr
      go_wp2
      go_ret
      exact ⟨_, rfl, HR.out, HB.out, HFR.out⟩
set_option maxHeartbeats 2000000 in
set_option maxRecDepth 100000 in
theorem RAdd_f (v u : Value) (a b : Nat) (w : World) (hv : R w v a) (hu : R w u b) (ha : nd 65536 a ≤ 1048576) (hb : nd 65536 b ≤ 1048576) :
    Calls Tryz.prog 20 #[v, u] w fun e w' => ∃ r, e = .returned r ∧ R w' r (a + b) ∧ Below w.heap.size w w' ∧ FR w.heap.size r (a + b) := by
  obtain ⟨i0, hi, hz0, hz1, hz2⟩ := info_parts Tryz.infoInt
  have hB : 2 ≤ 65536 := by decide
  obtain ⟨ao, ac, rfl, -⟩ := hv.shape
  obtain ⟨bo, bc, rfl, -⟩ := hu.shape
  have HV := Lib.hid hv; have HU := Lib.hid hu
  clear hv hu
  have HAl := Lib.hid (nd_lt hB a); have HBl := Lib.hid (nd_lt hB b)
  have HNa : Hid (nd 65536 a ≤ 4611686018427387904) := by show _ ≤ _; omega
  have HNb : Hid (nd 65536 b ≤ 4611686018427387904) := by show _ ≤ _; omega
  obtain ⟨la, hla⟩ : ∃ la, nd 65536 a = la := ⟨_, rfl⟩
  obtain ⟨lb, hlb⟩ : ∃ lb, nd 65536 b = lb := ⟨_, rfl⟩
  have HLA := Lib.hid hla; have HLB := Lib.hid hlb
  rw [hla] at ha HV HAl ⊢
  rw [hlb] at hb HU HBl ⊢
  clear hla hlb
  obtain ⟨M, hM1, hM2, hM3⟩ : ∃ M, la ≤ M ∧ lb ≤ M ∧ (M = la ∨ M = lb) := ⟨max la lb, by omega, by omega, by omega⟩
  have HM3 := Lib.hid hM3
  have hM : M ≤ 1048576 := by omega
  clear hM3
  go_enter Tryz.func20, Tryz.ntmps20
  go_wp2
  go_loopg [5, 6, 7] (M + 1) (fun m out c i wr => ∃ k X cc : Nat, Hid (m + k = M + 1) ∧ i = .int .i64 k ∧ c = .int .i64 cc ∧ AddRel a b w k X cc out wr ∧ Hid (k ≤ M ∨ (65536 ^ M ≤ a + b ∧ cc = 0)))
  case atStart => exact ⟨0, 0, 0, rfl, rfl, rfl, ⟨by omega, by simp, by simp [Nat.mod_one], Own.nil _ _ _ _ _, Below.refl _ _⟩, .inl (Nat.zero_le _)⟩
  case round =>
    obtain ⟨k, X, c, HK, rfl, rfl, hrel, HKM⟩ := hrel
    have hc1 : c ≤ 1 := hrel.1
    have hk1 : k ≤ M + 1 := by have := HK.out; omega
    by_cases hcont : k < la ∨ k < lb ∨ 0 < c
    · have hkM : k ≤ M := by
        rcases HKM.out with h | ⟨_, h⟩
        · exact h
        · omega
      obtain ⟨-, hX, hsum, hown, hbel⟩ := hrel
      have hA := Lib.hid (Rat_any _ a k wr (HV.out.below hbel) HNa.out)
      have hB' := Lib.hid (Rat_any _ b k wr (HU.out.below hbel) HNb.out)
      have hda := dg_lt (B := 65536) (by decide) a k
      have hdb := dg_lt (B := 65536) (by decide) b k
      have hd : (c + dg 65536 a k + dg 65536 b k) % 65536 < 65536 := Nat.mod_lt _ (by decide)
      have HSR := Lib.hid (sum_round (B := 65536) hsum)
      have HPS := Lib.hid (pad_succ (by decide) hX hd)
      have HLT2 := Lib.hid (snoc_lt hX hd)
      have HKM2 : Hid (k + 1 ≤ M ∨ (65536 ^ M ≤ a + b ∧ (c + dg 65536 a k + dg 65536 b k) / 65536 = 0)) := by
        show _ ∨ _
        rcases Nat.lt_or_ge k M with h | h
        · exact .inl h
        · refine .inr ?_
          have hkM2 : k = M := by omega
          subst hkM2
          have h1 : a < 65536 ^ k := Nat.lt_of_lt_of_le HAl.out (Nat.pow_le_pow_right (by decide) hM1)
          have h2 : b < 65536 ^ k := Nat.lt_of_lt_of_le HBl.out (Nat.pow_le_pow_right (by decide) hM2)
          rw [Nat.mod_eq_of_lt h1, Nat.mod_eq_of_lt h2] at hsum
          have hcc : c = 1 := by omega
          subst hcc
          refine ⟨by omega, ?_⟩
          have h3 : dg 65536 a k = 0 := dg_high (by decide) h1 (Nat.le_refl _)
          have h4 : dg 65536 b k = 0 := dg_high (by decide) h2 (Nat.le_refl _)
          rw [h3, h4]
      have HB := Lib.hid hbel
      have hltw := hown.lt
      have HLT := Lib.hid hltw
      have hsz := hbel.size
      unfold Own at hown
      clear hbel hltw hsum hX
      generalize dg 65536 a k = da at *
      generalize dg 65536 b k = db at *
      have HE : Hid ((((c + da + db) % 65536 : Nat) : Int) = (c + (da + db) : Int) % 65536) := by show _ = _; omega
      have HE2 : Hid ((((c + da + db) / 65536 : Nat) : Int) = (c + (da + db) : Int) / 65536) := by show _ = _; omega
      have hcond : (k : Int) < la ∨ (¬ (k : Int) < la ∧ (k : Int) < lb) ∨ (¬ (k : Int) < la ∧ ¬ (k : Int) < lb ∧ (0 : Int) < c) := by omega
      clear hcont
      rcases hcond with hcond | ⟨hcond0, hcond⟩ | ⟨hcond0, hcond1, hcond⟩
      all_goals
        go_wp2_with fail
        refine hA.out.mono ?_
        rintro e w' ⟨rfl, rfl⟩
        go_wp2_with fail
        refine hB'.out.mono ?_
        rintro e w' ⟨rfl, rfl⟩
        go_wp2_with (at_builtin; refine wpList_append_own _ rfl _ _ 33 rfl w.heap.size 3 i0 (.int .i64 0) 1 8 Tryz.underlying33 hi hz0 hz1 hz2 rfl (by decide) _ _ _ rfl (hown.alloc _) ⟨wr.heap.size, 0, none⟩ 1 1 [.int .i64 ((c + (da + db) : Int) % 65536)] rfl rfl ?c1 ?c2 ?c3 ?c4 ?c5 ?_)
        case c1 => exact cell_one_new _ _ _
        case c2 => intro u hu; simp at hu; subst hu; rfl
        case c3 => unfold maxLen; omega
        case c4 => omega
        case c5 => simp; omega
        intro v' w4 hown4 hgrow hnil
        have HFIN : Hid (AddRel a b w (k + 1) (X + 65536 ^ k * ((c + da + db) % 65536)) ((c + da + db) / 65536) v' w4) := by
          refine ⟨by omega, HLT2.out, HSR.out, ?_, ?_⟩
          · unfold Own
            rw [HPS.out, List.map_append]
            show w4.ownsRow _ _ _ _ _ (_ ++ [Value.int .i64 (((c + da + db) % 65536 : Nat) : Int)])
            rw [HE.out]
            exact hown4
          · refine Below.grown (HB.out.alloc (by omega) _) hgrow (by simp; omega) ?_
            intro j hj
            exact (HLT.out _ hj).1
        clear hown4 hgrow hnil
        go_wp2
        go_roundg (M + 1 - (k + 1))
        case measure => have := HK.out; omega
        case rel => exact ⟨k + 1, _, _, by show _ = _; omega, by go_num, congrArg _ HE2.out.symm, HFIN.out, HKM2.out⟩
    · have hk : la ≤ k ∧ lb ≤ k ∧ c = 0 := by omega
      obtain ⟨hk2, hk3, hc0⟩ := hk
      subst hc0
      obtain ⟨-, hX, hsum, hown, hbel⟩ := hrel
      have h1 : a < 65536 ^ k := Nat.lt_of_lt_of_le HAl.out (Nat.pow_le_pow_right (by decide) hk2)
      have h2 : b < 65536 ^ k := Nat.lt_of_lt_of_le HBl.out (Nat.pow_le_pow_right (by decide) hk3)
      rw [Nat.mod_eq_of_lt h1, Nat.mod_eq_of_lt h2, Nat.mul_zero, Nat.add_zero] at hsum
      subst hsum
      have hnd : nd 65536 (a + b) = k := by
        refine add_len HLA.out HLB.out hX hk2 hk3 ?_
        rcases HKM.out with h | ⟨h, _⟩
        · have := HM3.out; omega
        · rcases Nat.lt_or_ge k (M + 1) with h' | h'
          · have := HM3.out; omega
          · have : k = M + 1 := by omega
            subst this
            exact .inr (.inr ⟨by omega, h⟩)
      have HIS := Lib.hid (hown.isN (by decide) hnd)
      have HFR := Lib.hid (own_FR hown (a + b))
      have HB := Lib.hid hbel
      have hn1 : ¬ (k : Int) < la := by omega
      have hn2 : ¬ (k : Int) < lb := by omega
      clear hX hown hbel hcont
      go_wp2
      go_ret
      exact ⟨_, rfl, HIS.out, HB.out, HFR.out⟩
set_option maxHeartbeats 2000000 in
set_option maxRecDepth 100000 in
theorem RShl_f (v : Value) (a n : Nat) (w : World) (hv : R w v a) (ha : nd 65536 a ≤ 500000) (hn : n ≤ 8000000) :
    Calls Tryz.prog 64 #[v, .int .i64 n] w fun e w' => ∃ r, e = .returned r ∧ R w' r (a * 2 ^ n) ∧ Below w.heap.size w w' ∧ FR w.heap.size r (a * 2 ^ n) := by
  obtain ⟨i0, hi, hz0, hz1, hz2⟩ := info_parts Tryz.infoInt
  have hB : 2 ≤ 65536 := by decide
  obtain ⟨ao, ac, rfl, hcv⟩ := hv.shape
  have HC := Lib.hid hcv
  clear hv hcv
  have HAl := Lib.hid (nd_lt hB a)
  generalize hna : nd 65536 a = la at *
  clear hna
  obtain ⟨wh, hwh⟩ : ∃ wh, wh = n / 16 := ⟨_, rfl⟩
  obtain ⟨s, hs⟩ : ∃ s, s = n % 16 := ⟨_, rfl⟩
  have hs16 : s < 16 := by omega
  have q1 : (n : Int) / 16 = wh := by omega
  have q2 : (n : Int) % 16 = s := by omega
  have HNW : Hid (n = 16 * wh + s) := by show _ = _; omega
  have hwl : wh ≤ 500000 := by omega
  clear hwh hs
  have hpp : 0 < 2 ^ s := Nat.pow_pos (by decide)
  have hpl : 2 ^ s ≤ 65536 := Nat.le_trans (Nat.pow_le_pow_right (by decide) (show s ≤ 16 by omega)) (by decide)
  have HP := Lib.hid (fun w => power_any s w (by omega))
  obtain ⟨p, hpe⟩ : ∃ p, p = 2 ^ s := ⟨_, rfl⟩
  have HPE := Lib.hid hpe
  rw [← hpe] at HP hpp hpl
  clear hpe
  have hmk := made_int wh (by omega)
  go_enter Tryz.func64, Tryz.ntmps64
  go_wp2_with fail
  refine (HP.out _).mono ?_
  rintro e w' ⟨rfl, rfl⟩
  have HPD : Hid (∀ c d : Nat, c < p → d < 65536 → c + d * p < 8589934592) := by
    intro c d h1 h2
    have h3 : d * p ≤ 65535 * 65536 := Nat.mul_le_mul (by omega) hpl
    omega
  go_wp2
  go_loopg [5, 6, 8] la (fun m out c x wr => ∃ k X cc : Nat, Hid (k + m = la) ∧ x = .int .i64 k ∧ c = .int .i64 cc ∧ RShlRel a s wh w k X cc out wr)
  case atStart => exact ⟨0, 0, 0, by show _ = _; omega, rfl, rfl, by rw [← HPE.out]; exact hpp, by simp, by simp [Nat.mod_one], by simpa using own_zeros wh (by omega), (Below.refl _ _).alloc (Nat.le_refl _) _⟩
  case round =>
    obtain ⟨k, X, c, HK, rfl, rfl, hc1, hX, hsum, hown, hbel⟩ := hrel
    have hkl : k ≤ la := by have := HK.out; omega
    rw [← HPE.out] at hc1 hsum
    by_cases hlt : k < la
    · have hlt' : (k : Int) < la := by omega
      obtain ⟨gb, go, rfl, hca⟩ := HC.out k hlt
      have hca' : wr.cell? ⟨gb, go + k, none⟩ = some (.int .i64 (dg 65536 a k : Nat)) := by
        rw [hbel.cell (p := ⟨gb, go + k, none⟩) (World.block_lt_of_cell? _ _ hca)]; exact hca
      have hda := dg_lt (B := 65536) (by decide) a k
      have hq := HPD.out c _ hc1 hda
      obtain ⟨q, hqe⟩ : ∃ q, q = c + dg 65536 a k * p := ⟨_, rfl⟩
      have hX2 : X + 65536 ^ k * (q % 65536) < 65536 ^ (k + 1) := snoc_lt hX (Nat.mod_lt _ (by decide))
      have hsum2 : (X + 65536 ^ k * (q % 65536)) + 65536 ^ (k + 1) * (q / 65536) = a % 65536 ^ (k + 1) * p := by rw [hqe]; exact shl_round hsum
      have hc2 : q / 65536 < p := by rw [hqe]; exact shl_carry hc1 hda
      have HPS := Lib.hid (pad_wh (wh := wh) hX (show q % 65536 < 65536 from Nat.mod_lt _ (by decide)))
      have HE : Hid (wrap64 ((c : Int) + wrap64 ((dg 65536 a k : Nat) * (p : Int))) = (q : Int)) := by
        show _ = _
        have hq2 := hqe
        have hq3 := hq
        rw [show ((dg 65536 a k : Nat) : Int) * (p : Int) = ((dg 65536 a k * p : Nat) : Int) from by simp]
        generalize dg 65536 a k * p = y at hq2 hq3 ⊢
        rw [IntWalk.wrap64_in (y : Int) (by omega), IntWalk.wrap64_in _ (by omega)]
        omega
      rw [← hqe] at hq
      have HS2 := Lib.hid (And.intro hc2 (And.intro hX2 hsum2))
      have HB := Lib.hid hbel
      have hltw := hown.lt
      have HLT := Lib.hid hltw
      have hsz := hbel.size
      unfold Own at hown
      have HONE : Hid (∀ x : Int, ∀ u ∈ [Value.int .i64 x], u.oneCell' = true) := by intro x u hu; simp at hu; subst hu; rfl
      clear hca hbel hltw hX hsum hqe hc2 hX2 hsum2
      generalize dg 65536 a k = da at *
      go_wp2_with (at_builtin; go_must (refine wpList_append_own _ rfl _ _ 33 rfl w.heap.size 3 i0 (.int .i64 0) 1 8 Tryz.underlying33 hi hz0 hz1 hz2 rfl (by decide) _ _ _ rfl (hown.alloc _) ⟨wr.heap.size, 0, none⟩ 1 1 [_] rfl rfl (cell_one_new _ _ _) (HONE.out _) ?c3 ?c4 ?c5 ?_))
      case c3 => unfold maxLen; omega
      case c4 => omega
      case c5 => simp; omega
      intro v' w4 hown4 hgrow hnil
      have hq0 : (q : Int).tmod 65536 = ((q % 65536 : Nat) : Int) := by rw [Int.tmod_eq_emod_of_nonneg (by omega)]; omega
      have hq4 : (q : Int).tdiv 65536 = ((q / 65536 : Nat) : Int) := by rw [Int.tdiv_eq_ediv_of_nonneg (by omega)]; omega
      have HFIN : Hid (RShlRel a s wh w (k + 1) (X + 65536 ^ k * (q % 65536)) (q / 65536) v' w4) := by
        rw [HE.out, hq0] at hown4
        refine ⟨by rw [← HPE.out]; exact HS2.out.1, HS2.out.2.1, by rw [← HPE.out]; exact HS2.out.2.2, ?_, ?_⟩
        · unfold Own
          rw [← Nat.add_assoc, HPS.out, List.map_append]
          exact hown4
        · refine Below.grown (HB.out.alloc (by omega) _) hgrow (by simp; omega) ?_
          intro j hj
          exact (HLT.out _ hj).1
      have HQ4 := Lib.hid hq4
      clear hown4 hgrow hnil hown hq0 hq4
      go_wp2
      rw [HE.out, HQ4.out]
      go_roundg (la - (k + 1))
      case measure => have := HK.out; omega
      case rel => exact ⟨k + 1, _, q / 65536, by have := HK.out; show _ = _; omega, by go_num, by first | rfl | (rw [IntWalk.wrap64_in _ (by omega)]) | go_num, HFIN.out⟩
    · obtain rfl : k = la := by omega
      have hnl : ¬ ((k : Int) < k) := by omega
      rw [Nat.mod_eq_of_lt HAl.out] at hsum
      have hval : 65536 ^ wh * (X + 65536 ^ k * c) = a * 2 ^ n := by
        rw [hsum, HPE.out, pow_n HNW.out, Nat.mul_left_comm]
      have hxl : a * 2 ^ n < 65536 ^ (wh + k + 1) := by
        rw [← hval, Nat.add_assoc, Nat.pow_add 65536 wh]
        exact Nat.mul_lt_mul_of_pos_left (snoc_lt hX (by omega)) (Nat.pow_pos (by decide))
      have HPS := Lib.hid (pad_wh (wh := wh) (d := c) hX (by omega))
      rw [hval] at HPS
      have HT := Lib.hid (fun v' w4 (h : Own .i64 65536 3 w4 w.heap.size v' (wh + k + 1) (a * 2 ^ n)) => Trim_own_f _ _ _ _ _ h hxl (by omega))
      have HB := Lib.hid hbel
      have hltw := hown.lt
      have HLT := Lib.hid hltw
      have hsz := hbel.size
      have HONE : Hid (∀ x : Int, ∀ u ∈ [Value.int .i64 x], u.oneCell' = true) := by intro x u hu; simp at hu; subst hu; rfl
      unfold Own at hown
      clear hbel hltw hX hsum hval hxl hlt
      go_wp2_with (at_builtin; go_must (refine wpList_append_own _ rfl _ _ 33 rfl w.heap.size 3 i0 (.int .i64 0) 1 8 Tryz.underlying33 hi hz0 hz1 hz2 rfl (by decide) _ _ _ rfl (hown.alloc _) ⟨wr.heap.size, 0, none⟩ 1 1 [_] rfl rfl (cell_one_new _ _ _) (HONE.out _) ?d3 ?d4 ?d5 ?_))
      case d3 => unfold maxLen; omega
      case d4 => omega
      case d5 => first | omega | (simp; omega)
      intro v' w4 hown4 hgrow hnil
      have HT2 : Hid (Below w.heap.size w w4) := by
        refine Below.grown (HB.out.alloc (by omega) _) hgrow (by simp; omega) ?_
        intro j hj
        exact (HLT.out _ hj).1
      have HO4 : Hid (Own .i64 65536 3 w4 w.heap.size v' (wh + k + 1) (a * 2 ^ n)) := by
        show Own _ _ _ _ _ _ _ _
        unfold Own
        rw [HPS.out, List.map_append]
        exact hown4
      clear hown4 hgrow hnil hown
      go_wp2_with fail
      refine (HT.out _ _ HO4.out).mono ?_
      rintro e w5 ⟨r, rfl, hr, rfl, hfrr⟩
      obtain ⟨ro, rc, rfl, -⟩ := hr.shape
      have HR := Lib.hid hr
      have HFR := Lib.hid hfrr
      clear hr hfrr
      go_wp2
      go_ret
      exact ⟨_, rfl, HR.out, HT2.out, HFR.out⟩
end Go.Proofs.YteieedfigoihpaaGreatDoor
