/- WHAT IS PROVED: for any two sizes and any two lists of updates: SpanDiffs returns true, and its arguments read as before. Conditions: none but the row's own. -/
import Derived.Test.YtjbenhmpeceaeaaTJxp1
import Derived.Test.YtjbenhmpeceaeaaZd
import Derived.Test.YtjbenhmpeceaeaaZg
import Derived.ShutString
import Derived.ChangeOld
import Derived.Below
namespace Go.Proofs.Ytjbenhmpeceaeaa
open Go Go.RowKit Go.Shelf Gs

attribute [local go_sem] Oper.semAt_some

/-- the changes within one run -/
def diff1 (x : R) (l : List R) : List Ch := (l.filter fun r => decide (r.tag ≠ x.tag)).map fun r => ⟨r.lo, r.hi, x.tag, r.tag⟩
/-- the changes from one list of runs to another -/
def diffE (la lb : List R) : List Ch := la.flatMap fun x => diff1 x (clip x.lo x.hi lb)
theorem diff1_snoc (x : R) (l : List R) (y : R) : diff1 x (l ++ [y]) = diff1 x l ++ (if y.tag = x.tag then [] else [⟨y.lo, y.hi, x.tag, y.tag⟩]) := by
  unfold diff1
  by_cases h : y.tag = x.tag
  · simp [h]
  · simp [h]
theorem diff1_len (x : R) (l : List R) : (diff1 x l).length ≤ l.length := by
  unfold diff1
  rw [List.length_map]
  exact List.length_filter_le _ _
theorem diffE_snoc (la : List R) (x : R) (lb : List R) : diffE (la ++ [x]) lb = diffE la lb ++ diff1 x (clip x.lo x.hi lb) := by
  unfold diffE
  rw [List.flatMap_append, List.flatMap_cons, List.flatMap_nil, List.append_nil]
theorem len_snoc {α : Type} (l : List α) (x : α) : (l ++ [x]).length = l.length + 1 := by simp
theorem cells4_new (w : World) (x y z u : Value) (t : TypeId) : ∀ j v, [x, y, z, u][j]? = some v → (w.alloc (.cells #[x, y, z, u] t)).cell? ((⟨w.heap.size, 0, none⟩ : Addr).add j) = some v := by
  intro j v hj
  match j, hj with
  | 0, hj => simp at hj; subst hj; exact World.cell?_alloc_at _ _ _ _ rfl
  | 1, hj => simp at hj; subst hj; exact World.cell?_alloc_at _ _ _ _ rfl
  | 2, hj => simp at hj; subst hj; exact World.cell?_alloc_at _ _ _ _ rfl
  | 3, hj => simp at hj; subst hj; exact World.cell?_alloc_at _ _ _ _ rfl
theorem infoCh : (Try.prog.info? 107).map (fun i => (i.zero, i.size, i.bytes)) = some (some (.agg #[.int .i64 0, .int .i64 0, .int .i64 0, .int .i64 0]), 4, 32) := by kernel_rfl
/-- a map's box, as a whole object -/
def Mh (W : World) (B : Nat) (p : Option Addr) (size : Int) : Prop := W.heap[B]? = some (.cells #[.pointer p, .int .i64 size] 27 (0, 0))
theorem Mh.lt {W : World} {B : Nat} {p : Option Addr} {size : Int} (h : Mh W B p size) : B < W.heap.size := (Array.getElem?_eq_some_iff.1 h).1
theorem Mh.kept {W W' : World} {row : Option Nat} {B : Nat} {p : Option Addr} {size : Int} (h : Mh W B p size) (hg : W.grownBy W' row) (hne : some B ≠ row) : Mh W' B p size := (hg.block B h.lt hne).trans h
theorem Mh.own (B : Nat) (p : Option Addr) (size : Int) : Own (fun (_ : Unit) W => Mh W B p size) := fun s X Y row hs hg hrow => hs.kept hg fun e' => by
  obtain ⟨o, ho, hc⟩ := hrow B e'.symm
  rw [show X.heap[B]? = _ from hs] at ho; cases ho; cases hc
theorem Mh.cell {W : World} {B : Nat} {p : Option Addr} {size : Int} (h : Mh W B p size) : W.cell? ⟨B, 0, none⟩ = some (.pointer p) := by
  have h' : W.heap[B]? = _ := h
  simp [World.cell?, h']
theorem Mh.alloc {W : World} {B : Nat} {p : Option Addr} {size : Int} (h : Mh W B p size) (o : Obj) : Mh (W.alloc o) B p size := (Below.heap_alloc W o B h.lt).trans h
theorem Rb.alloc {W : World} {B : Nat} {r : R} (h : Rb W B r) (o : Obj) : Rb (W.alloc o) B r := (Below.heap_alloc W o B h.lt).trans h
theorem Mh.other {W : World} {B B' : Nat} {p : Option Addr} {size : Int} (h : Mh W B p size) (hne : B ≠ B') (u : Value) : Mh (W.setCell ⟨B', 0, none⟩ u) B p size := h.kept (grownBy_setCell' W B' u) (fun e => hne (by cases e; rfl))
theorem Rb.other {W : World} {B B' : Nat} {r : R} (h : Rb W B r) (hne : B ≠ B') (u : Value) : Rb (W.setCell ⟨B', 0, none⟩ u) B r := h.kept (grownBy_setCell' W B' u) (fun e => hne (by cases e; rfl))
/-- a box of cells that is no row's block -/
theorem ne_row {W : World} {B : Nat} {cs : Array Value} {t e : TypeId} {fr : Nat × Nat} (h : W.heap[B]? = some (.cells cs t fr)) (hte : t ≠ e) {base size k : Nat} {v : Value} {xs : List Value} (hr : W.ownsRow base e size v k xs) : some B ≠ v.ownBlock := by
  rcases hr.2 with ⟨rfl, _⟩ | ⟨g, cap, cur, rfl, _, hgb, _⟩
  · simp [Value.ownBlock]
  · intro e'
    obtain rfl : B = g := by simpa [Value.ownBlock] using e'
    have := h.symm.trans hgb
    simp at this
    exact hte this.2.1
set_option maxRecDepth 100000 in
set_option maxHeartbeats 4000000 in
theorem Diff_any {f g : Int → Int} {size : Int} {W : World} {p q : Option Addr} (h : IsM f size W p) (h' : IsM g size W q) :
    ∃ La Lb, Gs.Can f 0 La size ∧ Gs.Can g 0 Lb size ∧ Calls Try.prog 29 #[.agg #[.pointer p, .int .i64 size], .agg #[.pointer q, .int .i64 size]] W fun e w' => ∃ v, e = .returned (.tuple #[v, .int .i64 0]) ∧
      Hid (w'.ownsRow W.heap.size 107 4 v (diffE La Lb).length ((diffE La Lb).flatMap encC)) ∧ Below W.heap.size W w' := by
  have hs := h.lo
  obtain ⟨bp, rfl⟩ := h.some
  obtain ⟨bq, rfl⟩ := h'.some
  obtain ⟨ta, a1, a2, a3⟩ := h.tr
  obtain ⟨tb, b1, b2, b3⟩ := h'.tr
  have hcl := Gs.Can.same (clip_can a2 (Int.le_refl 0) (by omega) (Int.le_refl size)) a2
  refine ⟨ta.L, tb.L, a2, b2, ?_⟩
  have hla : ta.L.length ≤ 4096 := by rw [← T.sz_eq]; exact a3
  have HLB : Hid (∀ lo hi, (clip lo hi tb.L).length ≤ 4096) := fun lo hi => Nat.le_trans (clip_len _ _ _) (by rw [← T.sz_eq]; exact b3)
  obtain ⟨w0, HW, hm, hr, hc, hlt, hb⟩ := two_maps W (some bp, size) (some bq, size) 27 27
  have hs0 : w0.heap.size = W.heap.size + 1 + 1 + 1 := by rw [HW]; simp
  have HCK : Hid (Calls Try.prog 57 #[.slice (some ⟨W.heap.size + 1 + 1, 0, none⟩) 2 2] w0 fun e w' => e = .returned (.int .i64 0) ∧ Below w0.heap.size w0 w') :=
    checkSizes_ok (W.heap.size + 1 + 1) 2 [(some bp, size), (some bq, size)] size 0 w0 hlt (fun j hj => by
      have : j = 0 ∨ j = 1 := by simp at hj; omega
      rcases this with rfl | rfl
      · exact ⟨hc 0 _ rfl, hc 1 _ rfl⟩
      · exact ⟨hc 2 _ rfl, hc 3 _ rfl⟩) (by simp) (by simp) (by simp) (hc 1 _ rfl) (fun _ => rfl) (by simp)
  have hmh : Mh w0 (W.heap.size + 1) (some ⟨bq, 0, none⟩) size := by
    have h2 := World.alloc_heap_new (W.alloc (.cells #[.pointer (some ⟨bp, 0, none⟩), .int .i64 size] 27)) (.cells #[.pointer (some ⟨bq, 0, none⟩), .int .i64 size] 27)
    rw [World.size_alloc] at h2
    rw [HW]
    exact (Below.heap_alloc _ _ _ (by simp)).trans h2
  have HM := Lib.hid hm; have HMH := Lib.hid hmh; have HB := Lib.hid hb; have HW' := Lib.hid HW; have HS0 := Lib.hid hs0
  have HTA : Hid (IsTB W.heap.size W ta (some ⟨bp, 0, none⟩)) := IsT.tb a1
  have HTB : Hid (IsTB W.heap.size W tb (some ⟨bq, 0, none⟩)) := IsT.tb b1
  have HA2 := Lib.hid a2; have HB2 := Lib.hid b2; have HCL := Lib.hid hcl
  have HMP : Hid ((MV.p (some bp, size)) = some ⟨bp, 0, none⟩) := rfl
  have HMQ : Hid ((MV.p (some bq, size)) = some ⟨bq, 0, none⟩) := rfl
  have HW2 : Hid (w0 = ((W.alloc (.cells #[.pointer (some ⟨bp, 0, none⟩), .int .i64 size] 27)).alloc (.cells #[.pointer (some ⟨bq, 0, none⟩), .int .i64 size] 27)).alloc (.cells #[.pointer (some ⟨bp, 0, none⟩), .int .i64 size, .pointer (some ⟨bq, 0, none⟩), .int .i64 size] 27)) := HW
  clear h h' a1 a2 a3 b1 b2 b3 hcl hm hr hc hlt hb hs0 hmh HW HW'
  refine (callsIn_wide (n := 20)).1 ?_
  refine callsIn_of_wp_marks Try.func29 rfl trivial ?_ rfl
  simp only [Try.ntmps29, List.size_toArray, List.length_cons, List.length_nil, Nat.reduceAdd, Nat.reduceSub, Array.replicate_succ, Array.replicate_zero, List.push_toArray, List.append_toArray, List.nil_append, List.cons_append]
  gi_wp2_with fail
  rw [← HW2.out]
  refine ⟨trivial, (callsIn_wide.2 HCK.out).mono ?_⟩
  rintro e w1 ⟨rfl, hb⟩
  have HM1 := Lib.hid (HM.out.next hb)
  have HMH1 : Hid (Mh w1 (W.heap.size + 1) (some ⟨bq, 0, none⟩) size) := (hb.block _ HMH.out.lt).trans HMH.out
  have HB1 := Lib.hid (HB.out.trans (hb.mono HB.out.size))
  have hs1 : W.heap.size + 1 + 1 + 1 ≤ w1.heap.size := by have := hb.size; have := HS0.out; omega
  obtain ⟨w2, HW2⟩ : ∃ w2, w2 = w1.alloc (.cells #[.slice none 0 0] 66) := ⟨_, rfl⟩
  have b2 : Below w1.heap.size w1 w2 := by rw [HW2]; exact (Below.refl _ _).alloc (Nat.le_refl _) _
  have o2 : Boxed w2 w1.heap.size 66 (.slice none 0 0) := by rw [HW2]; exact Boxed.new _ _ _
  have s2 : w2.heap.size = w1.heap.size + 1 := by rw [HW2]; simp
  obtain ⟨w3, HW3⟩ : ∃ w3, w3 = w2.alloc (.cells #[.pointer (some ⟨bp, 0, none⟩), .int .i64 size] 27) := ⟨_, rfl⟩
  have b3 : Below w2.heap.size w2 w3 := by rw [HW3]; exact (Below.refl _ _).alloc (Nat.le_refl _) _
  have s3 : w3.heap.size = w1.heap.size + 1 + 1 := by rw [HW3, World.size_alloc, s2]
  obtain ⟨q0, q1, q2, q3, q4⟩ := seq_cells w3 (some ⟨bp, 0, none⟩) 0 size
  rw [s3] at q0 q1 q2 q3
  have b4 := b3.trans (q4.mono b3.size)
  have HO4 : Hid (Boxed (seqW w3 (some ⟨bp, 0, none⟩) 0 size) w1.heap.size 66 (.slice none 0 0)) := (b4.block _ o2.lt).trans o2
  have b5 := b2.trans (b4.mono b2.size)
  have HMH4 : Hid (Mh (seqW w3 (some ⟨bp, 0, none⟩) 0 size) (W.heap.size + 1) (some ⟨bq, 0, none⟩) size) := (b5.block _ HMH1.out.lt).trans HMH1.out
  have HSB := Lib.hid (HB1.out.trans (b5.mono HB1.out.size))
  have HSQ := Lib.hid (seq_stops (n := 19) (n₀ := W.heap.size) (lo := 0) (hi := size) (by rw [q3]; omega) HSB.out.size q0 q1 q2 (HTA.out.below HSB.out) HA2.out)
  have HAL : Hid (CallsIn Fence.wide 19 Try.prog 58 #[.agg #[.pointer (some ⟨bp, 0, none⟩), .int .i64 size]] w2 fun e w' => e = .returned (seqV (w1.heap.size + 1 + 1)) ∧ w' = seqW w3 (some ⟨bp, 0, none⟩) 0 size) := callsIn_wide.2 (by rw [HW3, ← s2]; exact all_any _ _ w2)
  have HM2 := Lib.hid (HM1.out.next b2)
  have k0 := HM2.out.c0; have k1 := HM2.out.c1
  rw [HMP.out] at k0
  have HW2' := Lib.hid HW2
  generalize seqW w3 (some ⟨bp, 0, none⟩) 0 size = w4 at *
  clear hb b2 o2 s2 q0 q1 q2 q3 q4 b3 b4 b5 s3 HW2 HW3
  gi_upto_region 5 with fail
  rw [← HW2'.out]
  gi_wp2_with fail
  refine ⟨trivial, HAL.out.mono ?_⟩
  rintro e w' ⟨rfl, rfl⟩
  gi_wp2_with fail
  have hge : W.heap.size ≤ w'.heap.size := HSB.out.size
  have hBO : w1.heap.size < w'.heap.size := HO4.out.lt
  obtain ⟨i0, hi0, hz0, hz1, hz2⟩ := info_parts infoCh
  refine wpIn_rangeFunc_ownH rfl (by omega) (gf := 72) (lb := #[.pointer (some ⟨w1.heap.size + 1 + 1, 0, none⟩), .pointer (some ⟨w1.heap.size + 1 + 1 + 1, 0, none⟩), .pointer (some ⟨w1.heap.size + 1 + 1 + 1 + 1, 0, none⟩)]) rfl trivial (enters_of Try.func72 (by kernel_rfl) rfl)
    HSQ.out belowK_t (belowK_b hge) (Below.refl _ _) (fun _ => rfl)
    (fun pre W' => ((∃ v, Boxed W' w1.heap.size 66 v ∧ W'.ownsRow W.heap.size 107 4 v (diffE pre tb.L).length ((diffE pre tb.L).flatMap encC) ∧ True) ∧ Mh W' (W.heap.size + 1) (some ⟨bq, 0, none⟩) size ∧ (diffE pre tb.L).length ≤ pre.length * 4096) ∧ Below W.heap.size W W')
    (fun _ _ _ => False)
    (OwnFrom.and (Own.from (fun s A B row hs hg hr => ⟨holdsRow_own W.heap.size w1.heap.size 66 107 4 (fun pre : List R => (diffE pre tb.L).length) (fun pre => (diffE pre tb.L).flatMap encC) (fun _ _ => True) s A B row hs.1 hg hr, Mh.own (W.heap.size + 1) (some ⟨bq, 0, none⟩) size () A B row hs.2.1 hg hr, hs.2.2⟩) _) (ownFrom_below (Nat.le_refl _) hge))
    (fun _ _ _ _ _ hs _ _ => hs)
    ⟨⟨⟨_, HO4.out, World.ownsRow_nil _ _ _ _, trivial⟩, HMH4.out, Nat.zero_le _⟩, HSB.out⟩
    (fun x a' W' => ∃ Bx, w1.heap.size < Bx ∧ Rb W' Bx x ∧ a' = { tmps := #[.agg #[.pointer (some ⟨bp, 0, none⟩), .int .i64 size], .agg #[.pointer (some ⟨bq, 0, none⟩), .int .i64 size], .pointer (some ⟨W.heap.size, 0, none⟩), .pointer (some ⟨W.heap.size + 1, 0, none⟩), .slice none 0 0, .int .i64 0, .int .i64 0, .pointer (some ⟨w1.heap.size, 0, none⟩), .pointer (some ⟨Bx, 0, none⟩), undef, .agg #[.pointer (some ⟨bp, 0, none⟩), .int .i64 size], .agg #[.pointer (some ⟨bq, 0, none⟩), .int .i64 size], .slice (some ⟨W.heap.size + 1 + 1, 0, none⟩) 2 2, .int .i64 0, .int .i64 0, .bool false, undef, .agg #[.pointer (some ⟨bp, 0, none⟩), .int .i64 size], seqV (w1.heap.size + 1 + 1), .agg #[.int .i64 x.lo, .int .i64 x.hi, .int .i64 x.tag], undef, undef, undef, undef, undef, undef, undef, undef, undef, undef, undef, undef, undef, undef, undef, undef, undef, undef, undef, undef, undef, undef, undef, undef, undef, undef], defers := [] })
    (fun x a' => Own.from (fun s A B row hs hg hr => by
      obtain ⟨Bx, h1, h2, h3⟩ := hs
      exact ⟨Bx, h1, Rb.own Bx x () A B row h2 hg hr, h3⟩) _) ?assign ?body ?done ?stop
  case assign =>
    rintro l pre ⟨xa, xb, xc⟩ W' K ⟨⟨⟨v, g1, g2, -⟩, g3, g4⟩, g5⟩ hK
    unfold encR
    gi_wp2
    exact hK _ _ ((KeepsOthers.alloc _ _).from _) ((Below.refl _ W').alloc g5.size _) ⟨⟨⟨v, g1.alloc _, g2.alloc _, trivial⟩, g3.alloc _, g4⟩, g5.alloc g5.size _⟩ ⟨W'.heap.size, g1.lt, Rb.new W' ⟨xa, xb, xc⟩, rfl⟩
  case body =>
    rintro l pre ⟨xa, xb, xc⟩ a' W' hl ⟨r, hr⟩ ⟨⟨⟨v, g1, g2, -⟩, g3, g4⟩, g5⟩ ⟨Bx, hBx, bX, rfl⟩ hlt
    have hla2 : pre.length < 4096 := by rw [HCL.out] at hlt; omega
    have m0 := g3.cell
    obtain ⟨r0, r1, r2⟩ := bX.cells
    simp only at r0 r1 r2
    obtain ⟨q0, q1, q2, q3, q4⟩ := seq_cells W' (some ⟨bq, 0, none⟩) xa xb
    have HWI : Hid (CallsIn Fence.wide 17 Try.prog 47 #[.pointer (some ⟨bq, 0, none⟩), .int .i64 xa, .int .i64 xb] W' fun e w' => e = .returned (seqV W'.heap.size) ∧ w' = seqW W' (some ⟨bq, 0, none⟩) xa xb) := callsIn_wide.2 (within_any _ _ _ W')
    have i1 : Boxed (seqW W' (some ⟨bq, 0, none⟩) xa xb) w1.heap.size 66 v := ((g1.alloc _).alloc _).alloc _
    have i2 : (seqW W' (some ⟨bq, 0, none⟩) xa xb).ownsRow W.heap.size 107 4 v (diffE pre tb.L ++ diff1 ⟨xa, xb, xc⟩ []).length ((diffE pre tb.L ++ diff1 ⟨xa, xb, xc⟩ []).flatMap encC) := by
      rw [show diff1 ⟨xa, xb, xc⟩ [] = [] from rfl, List.append_nil]
      exact ((g2.alloc _).alloc _).alloc _
    have i3 : Mh (seqW W' (some ⟨bq, 0, none⟩) xa xb) (W.heap.size + 1) (some ⟨bq, 0, none⟩) size := ((g3.alloc _).alloc _).alloc _
    have i4 : Rb (seqW W' (some ⟨bq, 0, none⟩) xa xb) Bx ⟨xa, xb, xc⟩ := ((bX.alloc _).alloc _).alloc _
    have i5 : KeepsFrom w'.heap.size W' (seqW W' (some ⟨bq, 0, none⟩) xa xb) := (((KeepsOthers.alloc _ _).trans (KeepsOthers.alloc _ _)).trans (KeepsOthers.alloc _ _)).from _
    have hr' : (seqW W' (some ⟨bq, 0, none⟩) xa xb).heap[l]? = some (.loop r) := (q4.block l (Array.getElem?_eq_some_iff.1 hr).1).trans hr
    have i6 : Below W.heap.size W' (seqW W' (some ⟨bq, 0, none⟩) xa xb) := q4.mono g5.size
    have hsz5 := Nat.le_trans g5.size q4.size
    have i7 : W.heap.size ≤ (seqW W' (some ⟨bq, 0, none⟩) xa xb).heap.size := hsz5
    have i8 : w'.heap.size ≤ W'.heap.size := by have := (Array.getElem?_eq_some_iff.1 hr).1; omega
    have HSQ2 := Lib.hid (seq_stops (n := 17) (n₀ := W.heap.size) (lo := xa) (hi := xb) (w := seqW W' (some ⟨bq, 0, none⟩) xa xb) (B := W'.heap.size) (by rw [q3]; omega) hsz5 q0 q1 q2 (HTB.out.below (g5.trans i6)) HB2.out)
    have G5 := Lib.hid g5
    clear q0 q1 q2 q3 q4 g1 g2 bX hsz5 g5 hlt
    generalize seqW W' (some ⟨bq, 0, none⟩) xa xb = w5 at *
    gi_wp2_with (refine ⟨trivial, ?_⟩; gi_at_call 47; refine (CallsIn.inRound l HWI.out).mono ?_; rintro e w6 ⟨rfl, rfl⟩)
    refine wpIn_rangeFunc_ownN (l₀ := l) (r₀ := r) rfl hr' (by omega) (gf := 72) (lb := #[.pointer (some ⟨W'.heap.size, 0, none⟩), .pointer (some ⟨W'.heap.size + 1, 0, none⟩), .pointer (some ⟨W'.heap.size + 1 + 1, 0, none⟩)]) rfl trivial (enters_of Try.func72 (by kernel_rfl) rfl)
      (HSQ2.out.inRound l) belowK_t (belowK_b i7) (Below.refl _ _) (fun _ => rfl)
      (fun pre' W'' => ((∃ v, Boxed W'' w1.heap.size 66 v ∧ W''.ownsRow W.heap.size 107 4 v (diffE pre tb.L ++ diff1 ⟨xa, xb, xc⟩ pre').length ((diffE pre tb.L ++ diff1 ⟨xa, xb, xc⟩ pre').flatMap encC) ∧ True) ∧ (Mh W'' (W.heap.size + 1) (some ⟨bq, 0, none⟩) size ∧ Rb W'' Bx ⟨xa, xb, xc⟩) ∧ (diffE pre tb.L ++ diff1 ⟨xa, xb, xc⟩ pre').length ≤ pre.length * 4096 + pre'.length) ∧ (Below W.heap.size W' W'' ∧ KeepsFrom w'.heap.size W' W''))
      (fun _ _ _ => False)
      (OwnFrom.and (Own.from (fun s A B row hs hg hr => ⟨holdsRow_own W.heap.size w1.heap.size 66 107 4 (fun pre' : List R => (diffE pre tb.L ++ diff1 ⟨xa, xb, xc⟩ pre').length) (fun pre' => (diffE pre tb.L ++ diff1 ⟨xa, xb, xc⟩ pre').flatMap encC) (fun _ _ => True) s A B row hs.1 hg hr, ⟨Mh.own (W.heap.size + 1) (some ⟨bq, 0, none⟩) size () A B row hs.2.1.1 hg hr, Rb.own Bx ⟨xa, xb, xc⟩ () A B row hs.2.1.2 hg hr⟩, hs.2.2⟩) _) (OwnFrom.and (ownFrom_below G5.out.size i7) (ownFrom_keepsFrom i5.size)))
      (fun _ _ _ _ _ hs _ _ => hs)
      ⟨⟨⟨_, i1, i2, trivial⟩, ⟨i3, i4⟩, by rw [show diff1 ⟨xa, xb, xc⟩ [] = [] from rfl, List.append_nil]; exact g4⟩, i6, i5⟩
      (fun y a'' W'' => ∃ By, w1.heap.size < By ∧ Rb W'' By y ∧ a'' = { tmps := #[.agg #[.pointer (some ⟨bp, 0, none⟩), .int .i64 size], .agg #[.pointer (some ⟨bq, 0, none⟩), .int .i64 size], .pointer (some ⟨W.heap.size, 0, none⟩), .pointer (some ⟨W.heap.size + 1, 0, none⟩), .slice none 0 0, .int .i64 0, .int .i64 0, .pointer (some ⟨w1.heap.size, 0, none⟩), .pointer (some ⟨Bx, 0, none⟩), .pointer (some ⟨By, 0, none⟩), .agg #[.pointer (some ⟨bp, 0, none⟩), .int .i64 size], .agg #[.pointer (some ⟨bq, 0, none⟩), .int .i64 size], .slice (some ⟨W.heap.size + 1 + 1, 0, none⟩) 2 2, .int .i64 0, .int .i64 0, .bool false, undef, .agg #[.pointer (some ⟨bp, 0, none⟩), .int .i64 size], seqV (w1.heap.size + 1 + 1), .agg #[.int .i64 xa, .int .i64 xb, .int .i64 xc], .pointer (some ⟨W.heap.size + 1, 0, none⟩), .pointer (some ⟨bq, 0, none⟩), .pointer (some ⟨Bx, 0, none⟩), .int .i64 xa, .pointer (some ⟨Bx, 1, none⟩), .int .i64 xb, seqV W'.heap.size, .agg #[.int .i64 y.lo, .int .i64 y.hi, .int .i64 y.tag], undef, undef, undef, undef, undef, undef, undef, undef, undef, undef, undef, undef, undef, undef, undef, undef, undef, undef], defers := [] })
      (fun y a'' => Own.from (fun s A B row hs hg hr => by
        obtain ⟨By, h1, h2, h3⟩ := hs
        exact ⟨By, h1, Rb.own By y () A B row h2 hg hr, h3⟩) _) ?assign2 ?body2 ?done2 ?stop2
    case assign2 =>
      rintro l2 pre' ⟨ya, yb, yc⟩ W'' K ⟨⟨⟨v, c1, c2, -⟩, ⟨c3, c4⟩, c5⟩, hBW, hKF⟩ hK
      unfold encR
      gi_wp2
      exact hK _ _ ((KeepsOthers.alloc _ _).from _) ((Below.refl _ W'').alloc (Nat.le_trans G5.out.size hBW.size) _) ⟨⟨⟨v, c1.alloc _, c2.alloc _, trivial⟩, ⟨c3.alloc _, c4.alloc _⟩, c5⟩, hBW.alloc (Nat.le_trans G5.out.size hBW.size) _, hKF.trans ((KeepsOthers.alloc _ _).from _)⟩ ⟨W''.heap.size, c1.lt, Rb.new W'' ⟨ya, yb, yc⟩, rfl⟩
    case body2 =>
      rintro l2 pre' ⟨ya, yb, yc⟩ a'' W'' _ _ ⟨⟨⟨v, c1, c2, -⟩, ⟨c3, c4⟩, c5⟩, hBW, hKF⟩ ⟨By, hBy, bY, rfl⟩ hlt2
      have hl3 := HLB.out xa xb
      obtain ⟨XL, HXL⟩ : ∃ XL, XL = diffE pre tb.L ++ diff1 ⟨xa, xb, xc⟩ pre' := ⟨_, rfl⟩
      rw [← HXL] at c2 c5
      have HXL' := Lib.hid HXL
      clear HXL
      have HXL := HXL'
      clear HXL'
      have hml : XL.length + 1 ≤ maxLen := Nat.le_trans (show _ ≤ 20000000 by omega) (by decide)
      have hsz2 : W.heap.size ≤ W''.heap.size := Nat.le_trans G5.out.size hBW.size
      have hc0 := c1.cell
      obtain ⟨r0, r1, r2⟩ := c4.cells
      obtain ⟨y0, y1, y2⟩ := bY.cells
      simp only at r0 r1 r2 y0 y1 y2
      obtain ⟨va, vc, rfl⟩ := own_slice c2
      have hBXn : Bx ≠ w1.heap.size := by omega
      have hMn : W.heap.size + 1 ≠ w1.heap.size := by omega
      by_cases m : yc = xc
      · subst m
        have c2' : W''.ownsRow W.heap.size 107 4 (.slice va XL.length vc) (diffE pre tb.L ++ diff1 ⟨xa, xb, yc⟩ (pre' ++ [⟨ya, yb, yc⟩])).length ((diffE pre tb.L ++ diff1 ⟨xa, xb, yc⟩ (pre' ++ [⟨ya, yb, yc⟩])).flatMap encC) := by
          rw [diff1_snoc, if_pos rfl, List.append_nil, ← HXL.out]
          exact c2
        have c5' : (diffE pre tb.L ++ diff1 ⟨xa, xb, yc⟩ (pre' ++ [⟨ya, yb, yc⟩])).length ≤ pre.length * 4096 + (pre' ++ [(⟨ya, yb, yc⟩ : R)]).length := by
          rw [diff1_snoc, if_pos rfl, List.append_nil, ← HXL.out, len_snoc pre']
          omega
        clear c2 c5
        gi_wp2
        first
        | exact ⟨KeepsFrom.refl _ _, Below.refl _ _, ⟨⟨_, c1, c2'⟩, ⟨c3, c4⟩, c5'⟩, hBW, hKF⟩
        | exact ⟨KeepsFrom.refl _ _, Below.refl _ _, ⟨⟨_, c1, c2', trivial⟩, ⟨c3, c4⟩, c5'⟩, hBW, hKF⟩
      · have n3 : (yc == xc) = false := beq_eq_false_iff_ne.2 m
        have HM := Lib.hid m
        clear m
        gi_wp2_with (gi_at_builtin; refine wpListIn_append_own _ rfl _ _ 66 rfl W.heap.size 107 i0 (.agg #[.int .i64 0, .int .i64 0, .int .i64 0, .int .i64 0]) 4 32 Try.underlying66 hi0 hz0 hz1 hz2 rfl (by decide) _ _ _ rfl (c2.alloc _) ⟨W''.heap.size, 0, none⟩ 1 1 [.int .i64 ya, .int .i64 yb, .int .i64 xc, .int .i64 yc] rfl rfl (cells4_new _ _ _ _ _ _) (by simp [Value.oneCell']) (by omega) (by omega) (by simp; omega) ?_; intro v' w7 hown' hgrow _; obtain ⟨g', cap', rfl⟩ := ownsRow_succ hown'; obtain ⟨hv1, hv2, hr2, hk2, hb2⟩ := c1.appended (by decide) c2 hsz2 (by omega) hown' hgrow; have hc1 := hv1.cell; have hf1 := hv1.frozen)
        have hr3 : (w7.setCell ⟨w1.heap.size, 0, none⟩ (.slice (some ⟨g', 0, none⟩) (XL.length + 1) cap')).ownsRow W.heap.size 107 4 (.slice (some ⟨g', 0, none⟩) (XL.length + 1) cap') (diffE pre tb.L ++ diff1 ⟨xa, xb, xc⟩ (pre' ++ [⟨ya, yb, yc⟩])).length ((diffE pre tb.L ++ diff1 ⟨xa, xb, xc⟩ (pre' ++ [⟨ya, yb, yc⟩])).flatMap encC) := by
          rw [diff1_snoc, if_neg HM.out, ← List.append_assoc, ← HXL.out, len_snoc, List.flatMap_append (ys := [_])]
          exact hr2
        have c5' : (diffE pre tb.L ++ diff1 ⟨xa, xb, xc⟩ (pre' ++ [⟨ya, yb, yc⟩])).length ≤ pre.length * 4096 + (pre' ++ [(⟨ya, yb, yc⟩ : R)]).length := by
          rw [diff1_snoc, if_neg HM.out, ← List.append_assoc, ← HXL.out, len_snoc, len_snoc pre']
          omega
        have hmh : Mh (w7.setCell ⟨w1.heap.size, 0, none⟩ (.slice (some ⟨g', 0, none⟩) (XL.length + 1) cap')) (W.heap.size + 1) (some ⟨bq, 0, none⟩) size := ((c3.alloc _).kept hgrow (ne_row c3 (by decide) c2)).other hMn _
        have hrb : Rb (w7.setCell ⟨w1.heap.size, 0, none⟩ (.slice (some ⟨g', 0, none⟩) (XL.length + 1) cap')) Bx ⟨xa, xb, xc⟩ := ((c4.alloc _).kept hgrow (ne_row c4 (by decide) c2)).other hBXn _
        first
        | exact ⟨hk2.from _, hb2, ⟨⟨_, hv2, hr3⟩, ⟨hmh, hrb⟩, c5'⟩, hBW.trans hb2, hKF.trans (hk2.from _)⟩
        | exact ⟨hk2.from _, hb2, ⟨⟨_, hv2, hr3, trivial⟩, ⟨hmh, hrb⟩, c5'⟩, hBW.trans hb2, hKF.trans (hk2.from _)⟩
    case done2 =>
      rintro ys' W'' rfl ⟨⟨⟨v, c1, c2, -⟩, ⟨c3, c4⟩, c5⟩, hBW, hKF⟩
      have hl3 := HLB.out xa xb
      have c2' : W''.ownsRow W.heap.size 107 4 v (diffE (pre ++ [⟨xa, xb, xc⟩]) tb.L).length ((diffE (pre ++ [⟨xa, xb, xc⟩]) tb.L).flatMap encC) := by
        rw [diffE_snoc]
        exact c2
      have c5' : (diffE (pre ++ [⟨xa, xb, xc⟩]) tb.L).length ≤ (pre ++ [(⟨xa, xb, xc⟩ : R)]).length * 4096 := by
        rw [diffE_snoc, List.length_append, len_snoc pre, ← List.length_append]
        show (diffE pre tb.L ++ diff1 ⟨xa, xb, xc⟩ (clip xa xb tb.L)).length ≤ _
        omega
      clear c2 c5
      gi_wp2
      first
      | exact ⟨hKF, hBW, ⟨⟨_, c1, c2'⟩, c3, c5'⟩, G5.out.trans hBW⟩
      | exact ⟨hKF, hBW, ⟨⟨_, c1, c2', trivial⟩, c3, c5'⟩, G5.out.trans hBW⟩
    case stop2 =>
      rintro c pre' W'' _ h
      exact h.elim
  case done =>
    rintro D ys W' hD rfl ⟨⟨⟨v, g1, g2, -⟩, g3, g4⟩, g5⟩ hK
    have hc0 := g1.cell
    obtain ⟨va, vc, rfl⟩ := own_slice g2
    have HE := Lib.hid hc0
    have HK := Lib.hid hK
    gi_wp2
    refine ⟨by simp, .inl ⟨_, _, rfl, run_takeDeferred HK.out, ?_⟩⟩
    refine ⟨.tuple #[.slice va (diffE (clip 0 size ta.L) tb.L).length vc, .int .i64 0], by simp [results, Try.results29, go_sem], _, rfl, (by rw [HCL.out] at g2 ⊢; exact ownsRow_putObj g2 _ HK.out rfl), g5.trans (belowK_b (w := W) (Nat.le_refl _) W' D _ _ (by omega) HK.out rfl rfl)⟩
  case stop =>
    rintro D c pre' W' _ _ h _
    exact h.elim
end Go.Proofs.Ytjbenhmpeceaeaa
namespace Go.Proofs.Ytjbenhmpeceaeaa
open Go Go.RowKit Gs

/-- a list of changes, one behind the other, from f to g; elsewhere the two are the same -/
def Dfs (f g : Int → Int) : Int → List Ch → Int → Prop
  | a, [], b => ∀ p, a ≤ p → p < b → f p = g p
  | a, c :: D, b => a ≤ c.lo ∧ c.lo < c.hi ∧ c.hi ≤ b ∧ (∀ p, a ≤ p → p < c.lo → f p = g p) ∧ (∀ p, c.lo ≤ p → p < c.hi → f p = c.fr ∧ g p = c.tt) ∧ c.fr ≠ c.tt ∧ Dfs f g c.hi D b
theorem Dfs.back {f g : Int → Int} {a a' b : Int} (ha : a ≤ a') (h : ∀ p, a ≤ p → p < a' → f p = g p) : ∀ {D : List Ch}, Dfs f g a' D b → Dfs f g a D b
  | [], hd => fun p p1 p2 => if h' : p < a' then h p p1 h' else hd p (by omega) p2
  | c :: D, hd => by
    obtain ⟨h1, h2, h3, h4, h5, h6, h7⟩ := hd
    exact ⟨by omega, h2, h3, fun p p1 p2 => if h' : p < a' then h p p1 h' else h4 p (by omega) p2, h5, h6, h7⟩
/-- the pair of tags, as one number -/
def pr (f g : Int → Int) (p : Int) : Int := 16 * f p + g p
/-- the changes among runs of pairs -/
def dec (K : List R) : List Ch := (K.filter fun r => decide (r.tag / 16 ≠ r.tag % 16)).map fun r => ⟨r.lo, r.hi, r.tag / 16, r.tag % 16⟩
theorem dec_append (K L : List R) : dec (K ++ L) = dec K ++ dec L := by unfold dec; rw [List.filter_append, List.map_append]
theorem dec_cons (r : R) (K : List R) : dec (r :: K) = (if r.tag / 16 = r.tag % 16 then [] else [⟨r.lo, r.hi, r.tag / 16, r.tag % 16⟩]) ++ dec K := by
  by_cases h : r.tag / 16 = r.tag % 16 <;> simp [dec, h]
theorem dec_dfs {f g : Int → Int} : ∀ {K : List R} {a b : Int}, Fits (pr f g) a K b → (∀ p, a ≤ p → p < b → 0 ≤ f p ∧ f p < 16 ∧ 0 ≤ g p ∧ g p < 16) → Dfs f g a (dec K) b
  | [], a, b, h, _ => fun p p1 p2 => by
    have h : a = b := h
    omega
  | r :: K, a, b, h, hb => by
    have h1 := h.1; have h2 := h.2.1; have h3 := h.2.2.1; have h4 := h.2.2.2
    have hle := h4.le
    have hf : ∀ p, r.lo ≤ p → p < r.hi → f p = r.tag / 16 ∧ g p = r.tag % 16 := fun p p1 p2 => by
      have e := h3 p p1 p2
      have := hb p (by omega) (by omega)
      unfold pr at e
      omega
    have ih := dec_dfs h4 fun p p1 p2 => hb p (by omega) p2
    rw [dec_cons]
    by_cases e : r.tag / 16 = r.tag % 16
    · rw [if_pos e, List.nil_append]
      exact ih.back (by omega) fun p p1 p2 => by
        have := hf p (by omega) p2
        rw [this.1, this.2, e]
    · rw [if_neg e]
      exact ⟨by show a ≤ r.lo; omega, h2, hle, fun p p1 p2 => by have p2 : p < r.lo := p2; omega, hf, e, ih⟩
/-- the runs of pairs -/
def rl (la lb : List R) : List R := la.flatMap fun x => (clip x.lo x.hi lb).map fun r => ⟨r.lo, r.hi, 16 * x.tag + r.tag⟩
theorem Can.map {f h : Int → Int} (s : Int → Int) : ∀ {K : List R} {a b : Int}, Gs.Can f a K b → (∀ p, a ≤ p → p < b → h p = s (f p)) → (∀ p q, a ≤ p → p < b → a ≤ q → q < b → s (f p) = s (f q) → f p = f q) → Gs.Can h a (K.map fun r => ⟨r.lo, r.hi, s r.tag⟩) b
  | [], a, b, hc, _, _ => by
    have e : a = b := hc.1
    subst e
    exact Gs.Can.nil h a
  | r :: K, a, b, hc, hh, hi => by
    have h0 : Gs.Can f a ([] ++ r :: K) b := hc
    obtain ⟨m1, m2, m3, m4, _, m6⟩ := h0.mid
    have ea : a = r.lo := m1.1
    have hle := m2.le
    have ih := Can.map s m2 (fun p p1 p2 => hh p (by omega) p2) (fun p q p1 p2 q1 q2 => hi p q (by omega) p2 (by omega) q2)
    have := Gs.Can.make (f := h) (a := a) (b := b) (l := []) (k := K.map fun r => ⟨r.lo, r.hi, s r.tag⟩) (r := ⟨r.lo, r.hi, s r.tag⟩) (by show Gs.Can h a [] r.lo; rw [← ea]; exact Gs.Can.nil h a) ih m3 (fun p p1 p2 => by
      have p1 : r.lo ≤ p := p1
      have p2 : p < r.hi := p2
      show h p = s r.tag
      rw [hh p (by omega) (by omega), m4 p p1 p2]) (fun h' => by have h' : a < r.lo := h'; omega) (fun h' => by
      have h' : r.hi < b := h'
      show h (r.hi - 1) ≠ h r.hi
      rw [hh (r.hi - 1) (by omega) (by omega), hh r.hi (by omega) h']
      exact fun e => m6 h' (hi _ _ (by omega) (by omega) (by omega) h' e))
    exact this
theorem rl_can {f g : Int → Int} {lb : List R} {size : Int} (hlb : Gs.Can g 0 lb size) : ∀ {la : List R} {a : Int}, Gs.Can f a la size → 0 ≤ a → (∀ p, 0 ≤ p → p < size → 0 ≤ f p ∧ f p < 16 ∧ 0 ≤ g p ∧ g p < 16) → Gs.Can (pr f g) a (rl la lb) size
  | [], a, h, _, _ => by
    have e : a = size := h.1
    subst e
    exact Gs.Can.nil _ _
  | x :: la, a, h, ha, hb => by
    have h0 : Gs.Can f a ([] ++ x :: la) size := h
    obtain ⟨m1, m2, m3, m4, _, m6⟩ := h0.mid
    have ea : a = x.lo := m1.1
    have hle := m2.le
    have ih := rl_can hlb m2 (by omega) hb
    have hc := clip_can (lo := x.lo) (hi := x.hi) hlb (by omega) (by omega) (by omega)
    have hm := Can.map (h := pr f g) (fun t => 16 * x.tag + t) hc (fun p p1 p2 => by
      show 16 * f p + g p = 16 * x.tag + g p
      rw [m4 p p1 p2]) (fun p q _ _ _ _ e => by
      have e : 16 * x.tag + g p = 16 * x.tag + g q := e
      omega)
    rw [ea]
    show Gs.Can (pr f g) x.lo ((clip x.lo x.hi lb).map (fun r => ⟨r.lo, r.hi, 16 * x.tag + r.tag⟩) ++ rl la lb) size
    refine hm.join ih fun _ h' => ?_
    have := m6 h'
    have b1 := hb (x.hi - 1) (by omega) (by omega)
    have b2 := hb x.hi (by omega) h'
    unfold pr
    omega
theorem dec_enc (x : R) (hx : 0 ≤ x.tag ∧ x.tag < 16) : ∀ (l : List R), (∀ r ∈ l, 0 ≤ r.tag ∧ r.tag < 16) → dec (l.map fun r => ⟨r.lo, r.hi, 16 * x.tag + r.tag⟩) = diff1 x l
  | [], _ => rfl
  | r :: l, h => by
    have hr := h r (List.mem_cons_self ..)
    have ih := dec_enc x hx l fun y hy => h y (List.mem_cons_of_mem _ hy)
    rw [List.map_cons, dec_cons, ih]
    have e1 : (16 * x.tag + r.tag) / 16 = x.tag := by omega
    have e2 : (16 * x.tag + r.tag) % 16 = r.tag := by omega
    simp only [e1, e2]
    by_cases e : x.tag = r.tag
    · rw [if_pos e]; simp [diff1, e]
    · rw [if_neg e]; simp [diff1, Ne.symm e]
theorem fits_tags {f : Int → Int} {l : List R} {a b : Int} (h : Fits f a l b) (hb : ∀ p, a ≤ p → p < b → 0 ≤ f p ∧ f p < 16) : ∀ r ∈ l, 0 ≤ r.tag ∧ r.tag < 16 := by
  induction l generalizing a with
  | nil => intro r hr; cases hr
  | cons x l ih =>
    intro r hr
    have h2 := h.2.1; have h3 := h.2.2.1; have h4 := h.2.2.2; have h1 := h.1
    have hle := h4.le
    rcases List.mem_cons.1 hr with e | e
    · subst e
      rw [← h3 r.lo (Int.le_refl _) h2]
      exact hb _ (by omega) (by omega)
    · exact ih h4 (fun p p1 p2 => hb p (by omega) p2) r e
theorem clip_tags {l : List R} {lo hi : Int} (h : ∀ r ∈ l, 0 ≤ r.tag ∧ r.tag < 16) : ∀ r ∈ clip lo hi l, 0 ≤ r.tag ∧ r.tag < 16 := by
  intro r hr
  obtain ⟨x, hx, hr⟩ := List.mem_flatMap.1 hr
  unfold clip1 at hr
  split at hr
  · rw [List.mem_singleton.1 hr]; exact h x hx
  · cases hr
theorem diff_dec {lb : List R} (hb : ∀ r ∈ lb, 0 ≤ r.tag ∧ r.tag < 16) : ∀ {la : List R}, (∀ r ∈ la, 0 ≤ r.tag ∧ r.tag < 16) → diffE la lb = dec (rl la lb)
  | [], _ => rfl
  | x :: la, h => by
    show diff1 x (clip x.lo x.hi lb) ++ diffE la lb = dec ((clip x.lo x.hi lb).map (fun r => ⟨r.lo, r.hi, 16 * x.tag + r.tag⟩) ++ rl la lb)
    rw [dec_append, dec_enc x (h x (List.mem_cons_self ..)) _ (clip_tags hb), diff_dec hb fun y hy => h y (List.mem_cons_of_mem _ hy)]
/-- **the changes lead from f to g** -/
theorem diff_dfs {f g : Int → Int} {la lb : List R} {size : Int} (ha : Gs.Can f 0 la size) (hb : Gs.Can g 0 lb size) (cf : Ctx f 0 size) (cg : Ctx g 0 size) : Dfs f g 0 (diffE la lb) size := by
  have hB : ∀ p, 0 ≤ p → p < size → 0 ≤ f p ∧ f p < 16 ∧ 0 ≤ g p ∧ g p < 16 := fun p p1 p2 => ⟨(cf.2.2 p p1 p2).1, (cf.2.2 p p1 p2).2, (cg.2.2 p p1 p2).1, (cg.2.2 p p1 p2).2⟩
  rw [diff_dec (fits_tags hb.1 cg.2.2) (fits_tags ha.1 cf.2.2)]
  exact dec_dfs (rl_can hb ha (Int.le_refl 0) hB).1 hB
/-- a change the other way -/
def Ch.swap (c : Ch) : Ch := ⟨c.lo, c.hi, c.tt, c.fr⟩
theorem dec_swap : ∀ (K : List R), (∀ r ∈ K, 0 ≤ r.tag ∧ r.tag < 256) → dec (K.map fun r => ⟨r.lo, r.hi, 16 * (r.tag % 16) + r.tag / 16⟩) = (dec K).map Ch.swap
  | [], _ => rfl
  | r :: K, h => by
    have hr := h r (List.mem_cons_self ..)
    have ih := dec_swap K fun y hy => h y (List.mem_cons_of_mem _ hy)
    rw [List.map_cons, dec_cons, dec_cons, ih, List.map_append]
    have e1 : (16 * (r.tag % 16) + r.tag / 16) / 16 = r.tag % 16 := by omega
    have e2 : (16 * (r.tag % 16) + r.tag / 16) % 16 = r.tag / 16 := by omega
    simp only [e1, e2]
    by_cases e : r.tag / 16 = r.tag % 16
    · rw [if_pos e, if_pos e.symm]; rfl
    · rw [if_neg e, if_neg (fun h => e h.symm)]; rfl
/-- **the changes back are the changes exchanged** -/
theorem diff_swap {f g : Int → Int} {la lb : List R} {size : Int} (ha : Gs.Can f 0 la size) (hb : Gs.Can g 0 lb size) (cf : Ctx f 0 size) (cg : Ctx g 0 size) : diffE lb la = (diffE la lb).map Ch.swap := by
  have hB : ∀ p, 0 ≤ p → p < size → 0 ≤ f p ∧ f p < 16 ∧ 0 ≤ g p ∧ g p < 16 := fun p p1 p2 => ⟨(cf.2.2 p p1 p2).1, (cf.2.2 p p1 p2).2, (cg.2.2 p p1 p2).1, (cg.2.2 p p1 p2).2⟩
  have hB' : ∀ p, 0 ≤ p → p < size → 0 ≤ g p ∧ g p < 16 ∧ 0 ≤ f p ∧ f p < 16 := fun p p1 p2 => by have := hB p p1 p2; omega
  rw [diff_dec (fits_tags hb.1 cg.2.2) (fits_tags ha.1 cf.2.2), diff_dec (fits_tags ha.1 cf.2.2) (fits_tags hb.1 cg.2.2)]
  have h1 := rl_can hb ha (Int.le_refl 0) hB
  have h2 := rl_can ha hb (Int.le_refl 0) hB'
  have h3 := Can.map (h := pr g f) (fun t => 16 * (t % 16) + t / 16) h1 (fun p p1 p2 => by
    have := hB p p1 p2
    show 16 * g p + f p = 16 * ((16 * f p + g p) % 16) + (16 * f p + g p) / 16
    omega) (fun p q p1 p2 q1 q2 e => by
    have e : 16 * ((16 * f p + g p) % 16) + (16 * f p + g p) / 16 = 16 * ((16 * f q + g q) % 16) + (16 * f q + g q) / 16 := e
    have b1 := hB p p1 p2
    have b2 := hB q q1 q2
    show 16 * f p + g p = 16 * f q + g q
    omega)
  rw [h2.same h3]
  refine dec_swap _ fun r hr => ?_
  have : ∀ {K : List R} {a : Int}, 0 ≤ a → Fits (pr f g) a K size → ∀ r ∈ K, 0 ≤ r.tag ∧ r.tag < 256 := by
    intro K
    induction K with
    | nil => intro a _ _ r hr; cases hr
    | cons x K ih =>
      intro a ha hF r hr
      have f1 := hF.1; have f2 := hF.2.1; have f3 := hF.2.2.1; have f4 := hF.2.2.2
      have hle := f4.le
      rcases List.mem_cons.1 hr with e | e
      · subst e
        have := hB r.lo (by omega) (by omega)
        have e2 := f3 r.lo (Int.le_refl _) f2
        unfold pr at e2
        omega
      · exact ih (by omega) f4 r e
  exact this (Int.le_refl 0) h1.1 r hr
theorem Dfs.nil_iff {f g : Int → Int} {la lb : List R} {size : Int} (ha : Gs.Can f 0 la size) (hb : Gs.Can g 0 lb size) (h : Dfs f g 0 (diffE la lb) size) : diffE la lb = [] ↔ la = lb := by
  constructor
  · intro e
    rw [e] at h
    exact (ha.congr h).same hb
  · intro e
    subst e
    have hfg : ∀ p, 0 ≤ p → p < size → f p = g p := by
      have : ∀ {l : List R} {a b : Int}, Fits f a l b → Fits g a l b → ∀ p, a ≤ p → p < b → f p = g p := by
        intro l
        induction l with
        | nil => intro a b h1 _ p p1 p2; have h1 : a = b := h1; omega
        | cons x l ih =>
          intro a b h1 h2 p p1 p2
          have e1 := h1.1
          by_cases hp : p < x.hi
          · rw [h1.2.2.1 p (by omega) hp, h2.2.2.1 p (by omega) hp]
          · exact ih h1.2.2.2 h2.2.2.2 p (by omega) p2
      exact this ha.1 hb.1
    cases hD : diffE la la with
    | nil => rfl
    | cons c D =>
      rw [hD] at h
      obtain ⟨h1, h2, h3, _, h5, h6, _⟩ := h
      have e1 := h5 c.lo (Int.le_refl _) h2
      have e2 := hfg c.lo h1 (by omega)
      rw [e1.1, e1.2] at e2
      exact absurd e2 h6
/-- a canonical list is the shortest -/
theorem can_short {f : Int → Int} : ∀ {l k : List R} {a b : Int}, Gs.Can f a k b → Fits f a l b → k.length ≤ l.length
  | [], k, a, b, hk, hl => by
    have e : a = b := hl
    cases k with
    | nil => exact Nat.le_refl _
    | cons r k => have := hk.1.lt; omega
  | s :: l, [], a, b, hk, hl => Nat.zero_le _
  | s :: l, r :: k, a, b, hk, hl => by
    have h0 : Gs.Can f a ([] ++ r :: k) b := hk
    obtain ⟨m1, m2, m3, m4, _, m6⟩ := h0.mid
    have ea : a = r.lo := m1.1
    have hle := m2.le
    have s1 := hl.1; have s2 := hl.2.1; have s3 := hl.2.2.1; have s4 := hl.2.2.2
    have sle := s4.le
    have hsr : s.hi ≤ r.hi := by
      refine Int.not_lt.1 fun hlt => ?_
      have := m6 (by omega)
      rw [s3 (r.hi - 1) (by omega) (by omega), s3 r.hi (by omega) hlt] at this
      exact this rfl
    by_cases e : s.hi = r.hi
    · rw [e] at s4
      have := can_short m2 s4
      simp only [List.length_cons]
      omega
    · have hk2 : Gs.Can f s.hi ([] ++ ⟨s.hi, r.hi, r.tag⟩ :: k) b := Gs.Can.make (r := ⟨s.hi, r.hi, r.tag⟩) (Gs.Can.nil f s.hi) m2 (by show s.hi < r.hi; omega) (fun p p1 p2 => m4 p (by have p1 : s.hi ≤ p := p1; omega) p2) (fun h => by have h : s.hi < s.hi := h; omega) m6
      have := can_short hk2 s4
      simp only [List.nil_append, List.length_cons] at this ⊢
      omega
/-- **applying the changes from f to g to f yields g** -/
theorem apF_dfs {f g : Int → Int} {la lb : List R} {size : Int} (ha : Gs.Can f 0 la size) (hb : Gs.Can g 0 lb size) (cf : Ctx f 0 size) (cg : Ctx g 0 size) (hn : la.length + lb.length ≤ 4096) :
    ∀ {D : List Ch} {a : Int} {h : Int → Int}, 0 ≤ a → a ≤ size → Dfs f g a D size → (∀ p, 0 ≤ p → p < a → h p = g p) → (∀ p, a ≤ p → p < size → h p = f p) → ∃ h', apF size h D = (0, h') ∧ ∀ p, 0 ≤ p → p < size → h' p = g p
  | [], a, h, h0, h1, hd, e1, e2 => ⟨h, rfl, fun p p1 p2 => if hp : p < a then e1 p p1 hp else by rw [e2 p (by omega) p2]; exact hd p (by omega) p2⟩
  | c :: D, a, h, h0, h1, hd, e1, e2 => by
    obtain ⟨d1, d2, d3, d4, d5, d6, d7⟩ := hd
    have hput : ∀ p, 0 ≤ p → p < c.hi → put h c.lo c.hi c.tt p = g p := fun p p1 p2 => by
      unfold put
      by_cases hp : c.lo ≤ p ∧ p < c.hi
      · rw [if_pos hp, (d5 p hp.1 hp.2).2]
      · rw [if_neg hp]
        by_cases hpa : p < a
        · exact e1 p p1 hpa
        · rw [e2 p (by omega) (by omega)]
          exact d4 p (by omega) (by omega)
    have hput2 : ∀ p, c.hi ≤ p → p < size → put h c.lo c.hi c.tt p = f p := fun p p1 p2 => by
      unfold put
      rw [if_neg (by omega)]
      exact e2 p (by omega) p2
    obtain ⟨t1, t2⟩ := d5 c.lo (Int.le_refl _) d2
    have bf := cf.2.2 c.lo (by omega) (by omega)
    have bg := cg.2.2 c.lo (by omega) (by omega)
    have hE : chE size h c = 0 := by
      unfold chE
      rw [if_neg (by omega), if_pos ⟨decide_eq_true (by omega), decide_eq_true (by omega)⟩, if_pos]
      intro x x1 x2
      rw [e2 x (by omega) (by omega), (d5 x x1 x2).1]
    have hK : chK size h c = 0 := by
      unfold chK
      rw [if_neg (fun h => h hE), if_neg]
      rintro ⟨L, hL, hl⟩
      have f1 := clip_fits (lo := 0) (hi := c.hi) hb.1 (by omega)
      have f2 := clip_fits (lo := c.hi) (hi := size) ha.1 (by omega)
      rw [show max (0 : Int) 0 = 0 by omega, show min c.hi size = c.hi by omega] at f1
      rw [show max c.hi 0 = c.hi by omega, show min size size = size by omega] at f2
      have f3 : Fits (put h c.lo c.hi c.tt) 0 (clip 0 c.hi lb ++ clip c.hi size la) size := fits_append.2 ⟨c.hi, f1.congr fun p p1 p2 => (hput p p1 p2).symm, f2.congr fun p p1 p2 => (hput2 p p1 p2).symm⟩
      have := can_short hL f3
      have l1 := clip_len 0 c.hi lb
      have l2 := clip_len c.hi size la
      rw [List.length_append] at this
      omega
    rw [apF_ok hK]
    exact apF_dfs ha hb cf cg hn (by omega) d3 d7 hput hput2
/-- a cut adds one run -/
theorem clip_cut {f : Int → Int} {lo m hi : Int} (h1 : lo ≤ m) (h2 : m ≤ hi) : ∀ {l : List R} {a b : Int}, Fits f a l b → (clip lo m l).length + (clip m hi l).length ≤ (clip lo hi l).length + 1
  | [], _, _, _ => Nat.zero_le _
  | r :: l, a, b, h => by
    have e1 := h.1; have e2 := h.2.1; have e4 := h.2.2.2
    have ih := clip_cut h1 h2 e4
    have hc : ∀ x y : Int, (clip1 x y r).length ≤ 1 := fun x y => by unfold clip1; split <;> simp
    have h1' := hc lo m
    have h2' := hc m hi
    rw [clip_cons, clip_cons, clip_cons, List.length_append, List.length_append, List.length_append]
    by_cases c1 : m ≤ r.lo
    · have n1 : clip1 lo m r = [] := by unfold clip1; rw [if_neg (by omega)]
      have n2 : clip lo m l = [] := clip_out e4 (by omega)
      have n3 : clip1 m hi r = clip1 lo hi r := by
        unfold clip1
        rw [show max m r.lo = r.lo by omega, show max lo r.lo = r.lo by omega]
      have n4 : (clip m hi l).length ≤ (clip lo hi l).length + 1 := by rw [n2] at ih; simpa using ih
      have n5 : clip m hi l = clip lo hi l := by
        have := clip_right (lo := lo) (hi := hi) (m := m) e4 (by omega)
        rw [show max lo m = m by omega] at this
        exact this
      rw [n1, n2, n3, n5]
      simp
    · by_cases c2 : r.hi ≤ m
      · have n1 : clip1 m hi r = [] := by unfold clip1; rw [if_neg (by omega)]
        have n2 : clip1 lo m r = clip1 lo hi r := by
          unfold clip1
          rw [show min r.hi m = r.hi by omega, show min r.hi hi = r.hi by omega]
        rw [n1, n2]
        simp only [List.length_nil]
        omega
      · have n2 : clip lo m l = [] := clip_out e4 (by omega)
        have n5 : clip m hi l = clip lo hi l := by
          have := clip_right (lo := lo) (hi := hi) (m := m) e4 (by omega)
          rw [show max lo m = m by omega] at this
          exact this
        rw [n2, n5]
        simp only [List.length_nil]
        by_cases c3 : max lo r.lo < min r.hi hi
        · have : (clip1 lo hi r).length = 1 := by unfold clip1; rw [if_pos c3]; rfl
          omega
        · by_cases c4 : max lo r.lo < min r.hi m
          · omega
          · have : (clip1 lo m r).length = 0 := by unfold clip1; rw [if_neg c4]; rfl
            omega
theorem fits_map {f h : Int → Int} (s : Int → Int) : ∀ {K : List R} {a b : Int}, Fits f a K b → (∀ p, a ≤ p → p < b → h p = s (f p)) → Fits h a (K.map fun r => ⟨r.lo, r.hi, s r.tag⟩) b
  | [], _, _, h, _ => h
  | r :: K, a, b, hf, hh => by
    obtain ⟨h1, h2, h3, h4⟩ := hf
    have := h4.le
    exact ⟨h1, h2, fun p p1 p2 => by
      have p1 : r.lo ≤ p := p1
      have p2 : p < r.hi := p2
      show h p = s r.tag
      rw [hh p (by omega) (by omega), h3 p p1 p2], fits_map s h4 fun p p1 p2 => hh p (by have p1 : r.hi ≤ p := p1; omega) p2⟩
/-- an update adds two runs at most -/
theorem upd_runs {f h : Int → Int} (s : Int → Int) {lo hi size : Int} {l : List R} (hl : Fits f 0 l size) (h0 : 0 ≤ lo) (h1 : lo ≤ hi) (h2 : hi ≤ size) (hin : ∀ p, lo ≤ p → p < hi → h p = s (f p)) (hout : ∀ p, ¬ (lo ≤ p ∧ p < hi) → h p = f p) :
    ∃ k, Fits h 0 k size ∧ k.length ≤ l.length + 2 := by
  have f1 := clip_fits (lo := 0) (hi := lo) hl (by omega)
  have f2 := clip_fits (lo := lo) (hi := hi) hl (by omega)
  have f3 := clip_fits (lo := hi) (hi := size) hl (by omega)
  rw [show max (0 : Int) 0 = 0 by omega, show min lo size = lo by omega] at f1
  rw [show max lo 0 = lo by omega, show min hi size = hi by omega] at f2
  rw [show max hi 0 = hi by omega, show min size size = size by omega] at f3
  refine ⟨clip 0 lo l ++ ((clip lo hi l).map (fun r => ⟨r.lo, r.hi, s r.tag⟩) ++ clip hi size l), fits_append.2 ⟨lo, f1.congr fun p p1 p2 => (hout p (by omega)).symm, fits_append.2 ⟨hi, fits_map s f2 hin, f3.congr fun p p1 p2 => (hout p (by omega)).symm⟩⟩, ?_⟩
  have c1 := clip_cut (lo := 0) (m := lo) (hi := size) h0 (by omega) hl
  have c2 := clip_cut (lo := lo) (m := hi) (hi := size) h1 h2 hl
  have c3 := clip_len 0 size l
  rw [List.length_append, List.length_append, List.length_map]
  omega
theorem act_runs {size : Int} {f : Int → Int} {a : Act} {l : List R} (hl : Fits f 0 l size) (he : actE size a = 0) : ∃ k, Fits (actF a f) 0 k size ∧ k.length ≤ l.length + 2 := by
  have hr : 0 ≤ a.lo ∧ a.lo ≤ a.hi ∧ a.hi ≤ size := by
    unfold actE errOf at he
    split at he
    · cases he
    · omega
  unfold actF
  split
  · exact upd_runs (fun t => swp (fun _ => t) a.fr.toNat a.tt.toNat 0) hl hr.1 hr.2.1 hr.2.2 (fun p p1 p2 => by
      unfold swr
      rw [if_pos ⟨p1, p2⟩]
      rfl) (fun p hp => by unfold swr; rw [if_neg hp])
  · exact upd_runs (fun _ => a.tt) hl hr.1 hr.2.1 hr.2.2 (fun p p1 p2 => by
      unfold put
      rw [if_pos ⟨p1, p2⟩]) (fun p hp => by unfold put; rw [if_neg hp])
/-- **a map built by n updates has 2n + 1 runs at most** -/
theorem Mo.runs {size : Int} {f0 f : Int → Int} {l : List Act} (h : Mo size f0 l f) (h0 : ∃ k, Fits f0 0 k size ∧ k.length ≤ 1) : ∃ k, Fits f 0 k size ∧ k.length ≤ 2 * l.length + 1 := by
  induction h with
  | nil => simpa using h0
  | snoc _ h1 ih =>
    obtain ⟨k, hk, hl⟩ := ih
    rw [List.length_append, List.length_singleton]
    rcases h1 with ⟨rfl, he, _⟩ | ⟨rfl, _⟩
    · obtain ⟨k', hk', hl'⟩ := act_runs hk he
      exact ⟨k', hk', by omega⟩
    · exact ⟨k, hk, by omega⟩
theorem diffE_len : ∀ (la lb : List R), (diffE la lb).length ≤ la.length * lb.length
  | [], _ => Nat.zero_le _
  | x :: la, lb => by
    have ih := diffE_len la lb
    have h1 := diff1_len x (clip x.lo x.hi lb)
    have h2 := clip_len x.lo x.hi lb
    show (diff1 x (clip x.lo x.hi lb) ++ diffE la lb).length ≤ (la.length + 1) * lb.length
    rw [List.length_append, Nat.succ_mul]
    omega
end Go.Proofs.Ytjbenhmpeceaeaa
namespace Go.Proofs.Ytjbenhmpeceaeaa
open Go Go.RowKit Gs

theorem fits_ord {f : Int → Int} : ∀ {l : List R} {a b : Int}, Fits f a l b → ∀ i k (h : k < l.length) (hik : i < k), (l[i]'(by omega)).hi ≤ l[k].lo
  | r :: l, a, b, h, 0, k + 1, hk, _ => by
    have := (fits_at h.2.2.2 k (by simpa using hk)).1
    exact this
  | r :: l, a, b, h, i + 1, k + 1, hk, hik => by
    have := fits_ord h.2.2.2 i k (by simpa using hk) (by omega)
    exact this
set_option maxHeartbeats 1000000 in
/-- ref.next: the end of the run that holds x -/
theorem RNext_any {f : Int → Int} {size x : Int} {base : Nat} {v : Value} {L : List R} {W : World} (hrs : IsRs base W v L) (hL : Fits f 0 L size) (hlen : L.length ≤ 4096) (i : Nat) (hi : i < L.length) (x1 : L[i].lo ≤ x) (x2 : x < L[i].hi) :
    Calls Try.prog 59 #[.agg #[.int .i64 size, v], .int .i64 x] W fun e w' => e = .returned (.int .i64 L[i].hi) ∧ Below W.heap.size W w' := by
  have HRS := Lib.hid hrs
  obtain ⟨a, c, rfl, -⟩ := hrs
  obtain ⟨n, hn⟩ : ∃ n, n = L.length := ⟨_, rfl⟩
  rw [← hn] at HRS ⊢
  have hnb : n ≤ 4096 := by omega
  have hin : i < n := by omega
  have HN := Lib.hid hn
  obtain ⟨w0, HW⟩ : ∃ w0, w0 = W.alloc (.cells #[.int .i64 size, .slice a n c] 33) := ⟨_, rfl⟩
  have hm : M2 W.heap.size (.int .i64 size) (.slice a n c) w0 := by rw [HW]; exact M2.new _ _ _ _
  have hb : Below W.heap.size W w0 := by rw [HW]; exact (Below.refl _ _).alloc (Nat.le_refl _) _
  have HM := Lib.hid hm; have HB := Lib.hid hb; have HW' := Lib.hid HW
  have HORD : Hid (∀ j (h : j < L.length), j < i → L[j].hi ≤ x) := fun j h hj => by
    have := fits_ord hL j i hi hj
    omega
  obtain ⟨z, hz⟩ : ∃ z, z = L[i].hi := ⟨_, rfl⟩
  have HZ := Lib.hid hz
  rw [← hz] at x2 ⊢
  clear hm hb HW hn hlen hz hL x1
  go_enter Try.func59, Try.ntmps59
  go_upto_region 1 with fail
  rw [← HW'.out]
  go_wp2_with fail
  go_loopw [5] (fun iv wr => ∃ j : Nat, j ≤ i ∧ iv = .int .i64 j ∧ Hid (M2 W.heap.size (.int .i64 size) (.slice a n c) wr) ∧ Hid (Below W.heap.size W wr)) (fun i _ => n - (intOf i).toNat)
  case atStart => exact ⟨0, by omega, rfl, HM, HB⟩
  case round =>
    obtain ⟨j, hj, rfl, HMr, HBr⟩ := hrel
    have k0 := HMr.out.c0; have k1 := HMr.out.c1
    have hlt : j < n := by omega
    have hj2 : (j : Int) < n := by omega
    have hjl : j < L.length := by rw [← HN.out]; exact hlt
    obtain ⟨G, rfl, c0, c1, c2⟩ := (HRS.out.below HBr.out).at' hjl
    have HO := Lib.hid (HORD.out j hjl)
    by_cases hji : j = i
    · subst hji
      rw [← HZ.out] at c1
      have hgt : z > x := x2
      clear c0 c2
      go_wp2_with fail
      go_ret
      exact ⟨rfl, HBr.out⟩
    · have hle := HO.out (by omega)
      obtain ⟨y, hy⟩ : ∃ y, y = L[j].hi := ⟨_, rfl⟩
      rw [← hy] at c1 hle
      have hgt : ¬ y > x := by omega
      clear c0 c2 hy hle
      go_wp2_with fail
      go_roundw
      case rel => exact ⟨j + 1, by omega, by go_num, HMr, HBr⟩
      case measure => simp [intOf]; omega

theorem own_drewN {w : World} {base : Nat} {e : TypeId} {size : Nat} {v : Value} {n : Nat} {xs : List Value} (h : w.ownsRow base e size v n xs) : ∀ k, (w.drewN k).ownsRow base e size v n xs
  | 0 => h
  | k + 1 => own_drewN (w := w.drew) h.drew k
theorem own_at {w : World} {base : Nat} {e : TypeId} {size : Nat} {v : Value} {n : Nat} {xs : List Value} (h : w.ownsRow base e size v n xs) : ∀ j, v.ownBlock = some j → base ≤ j := by
  intro j ej
  rcases h.2 with ⟨rfl, _⟩ | ⟨g, cap, cur, rfl, hb, _, _⟩
  · simp [Value.ownBlock] at ej
  · obtain rfl : g = j := by simpa [Value.ownBlock] using ej
    exact hb
/-- the call's own row of changes -/
def RowC (base : Nat) (v : Value) (K : List Ch) (W : World) : Prop := W.ownsRow base 107 4 v K.length (K.flatMap encC)
/-- the box of a change -/
def Cx (B : Nat) (x : Ch) (W : World) : Prop := W.cell? ⟨B, 0, none⟩ = some (.int .i64 x.lo) ∧ W.cell? ⟨B, 1, none⟩ = some (.int .i64 x.hi) ∧ W.cell? ⟨B, 2, none⟩ = some (.int .i64 x.fr) ∧ W.cell? ⟨B, 3, none⟩ = some (.int .i64 x.tt)
theorem Cx.below {B : Nat} {x : Ch} {W W' : World} (h : Cx B x W) (hlt : B < W.heap.size) (hb : Below W.heap.size W W') : Cx B x W' :=
  ⟨(hb.cell (p := ⟨B, 0, none⟩) hlt).trans h.1, (hb.cell (p := ⟨B, 1, none⟩) hlt).trans h.2.1, (hb.cell (p := ⟨B, 2, none⟩) hlt).trans h.2.2.1, (hb.cell (p := ⟨B, 3, none⟩) hlt).trans h.2.2.2⟩
theorem Cx.new (W : World) (x : Ch) (t : TypeId) : Cx W.heap.size x (W.alloc (.cells #[.int .i64 x.lo, .int .i64 x.hi, .int .i64 x.fr, .int .i64 x.tt] t)) :=
  ⟨World.cell?_alloc_at _ _ _ _ rfl, World.cell?_alloc_at _ _ _ _ rfl, World.cell?_alloc_at _ _ _ _ rfl, World.cell?_alloc_at _ _ _ _ rfl⟩
set_option maxRecDepth 100000 in
set_option maxHeartbeats 1000000 in
/-- ref.link, where the last change and the new one are not joined -/
theorem Rlink_no {base : Nat} {v : Value} {K : List Ch} {x : Ch} {W : World} (hown : W.ownsRow base 107 4 v K.length (K.flatMap encC)) (hbase : base ≤ W.heap.size) (hlen : K.length ≤ 100000000) (hno : ∀ (m : Nat) (h : m < K.length), K.length = m + 1 → K[m].hi = x.lo → K[m].fr = x.fr → K[m].tt ≠ x.tt) :
    Calls Try.prog 60 #[v, .agg #[.int .i64 x.lo, .int .i64 x.hi, .int .i64 x.fr, .int .i64 x.tt]] W fun e w' => ∃ v', e = .returned v' ∧ Hid (RowC base v' (K ++ [x]) w') ∧ Below base W w' := by
  obtain ⟨va, vc, rfl⟩ := own_slice hown
  obtain ⟨w0, HW⟩ : ∃ w0, w0 = W.alloc (.cells #[.int .i64 x.lo, .int .i64 x.hi, .int .i64 x.fr, .int .i64 x.tt] 107) := ⟨_, rfl⟩
  have hm : Cx W.heap.size x w0 := by rw [HW]; exact Cx.new _ _ _
  have hb : Below W.heap.size W w0 := by rw [HW]; exact (Below.refl _ _).alloc (Nat.le_refl _) _
  have ho : w0.ownsRow base 107 4 (.slice va K.length vc) K.length (K.flatMap encC) := by rw [HW]; exact hown.alloc _
  have hlt : W.heap.size < w0.heap.size := by rw [HW]; simp
  have hcs := IsCs.of_row ho
  obtain ⟨n, hn⟩ : ∃ n, n = K.length := ⟨_, rfl⟩
  have HN := Lib.hid hn
  rw [← hn] at ho hcs hlen ⊢
  obtain ⟨XS, hXS⟩ : ∃ XS, XS = K.flatMap encC := ⟨_, rfl⟩
  rw [← hXS] at ho
  have HXS := Lib.hid hXS
  have HM := Lib.hid hm; have HB := Lib.hid hb; have HW' := Lib.hid HW; have HO := Lib.hid ho; have HNO := Lib.hid hno
  have hml : n + 1 ≤ maxLen := Nat.le_trans (show n + 1 ≤ 100000001 by omega) (by decide)
  have HEND : Hid (∀ (w7 : World) (v' : Value), w7.ownsRow base 107 4 v' (n + 1) (XS ++ [.int .i64 x.lo, .int .i64 x.hi, .int .i64 x.fr, .int .i64 x.tt]) → RowC base v' (K ++ [x]) w7) := fun w7 v' h => by
    unfold RowC
    rw [len_snoc, List.flatMap_append (ys := [x]), ← hXS, ← hn]
    exact h
  obtain ⟨xl, xh, xf, xt⟩ := x
  obtain ⟨i0, hi0, hz0, hz1, hz2⟩ := info_parts infoCh
  have hwl : base ≤ w0.heap.size := by omega
  simp only at *
  clear hm hb HW ho hn hXS hown hno
  go_enter Try.func60, Try.ntmps60
  go_upto_region 1 with fail
  rw [← HW'.out]
  by_cases hn0 : n = 0
  · have hgt : ¬ ((n : Int) > 0) := by omega
    have hd : decide ((n : Int) > 0) = false := decide_eq_false hgt
    have hd2 : decide (0 < n) = false := decide_eq_false (by omega)
    have hn1 : ¬ 0 < n := by omega
    clear hn0
    go_wp2_with fail
    go_quiet (fail)
    rename_i nq
    have HBn : Hid (Below w0.heap.size w0 (World.drewN w0 nq)) := below_drewN (Below.refl _ _) nq
    have HO2 := Lib.hid (own_drewN HO.out nq)
    have HCX := Lib.hid (HM.out.below hlt HBn.out)
    generalize hw : World.drewN w0 nq = w2 at HBn HO2 HCX ⊢
    clear hw
    obtain ⟨k0, k1, k2, k3⟩ : _ ∧ _ ∧ _ ∧ _ := HCX.out
    have hsz2 := HBn.out.size
    go_wp2_with (at_builtin; refine wpList_append_own _ rfl _ _ 66 rfl base 107 i0 (.agg #[.int .i64 0, .int .i64 0, .int .i64 0, .int .i64 0]) 4 32 Try.underlying66 hi0 hz0 hz1 hz2 rfl (by decide) _ _ _ rfl (HO2.out.alloc _) ⟨w2.heap.size, 0, none⟩ 1 1 [.int .i64 xl, .int .i64 xh, .int .i64 xf, .int .i64 xt] rfl rfl (cells4_new _ _ _ _ _ _) (by simp [Value.oneCell']) (by omega) (by omega) (by simp; omega) ?_; intro v' w7 hown' hgrow hbl)
    have HF := Lib.hid (HEND.out w7 v' hown')
    have HBF : Hid (Below base W w7) := (HB.out.mono hbase).trans (((HBn.out.mono hwl).alloc (Nat.le_trans hwl HBn.out.size) _).grown hgrow (by simp; omega) (own_at HO2.out))
    clear hown' hgrow hbl k0 k1 k2 k3
    go_wp2_with fail
    go_ret
    exact ⟨v', rfl, HF, HBF.out⟩
  · obtain ⟨m, hmn⟩ : ∃ m, n = m + 1 := ⟨n - 1, by omega⟩
    have hgt : (n : Int) > 0 := by omega
    have hd : decide ((n : Int) > 0) = true := decide_eq_true hgt
    have hd2 : decide (0 < n) = true := decide_eq_true (by omega)
    have hn1 : 0 < n := by omega
    have hwr : IntKind.i64.wrap ((n : Int) - 1) = (m : Int) := by rw [IntWalk.i64_in] <;> omega
    have hmk : m < K.length := by rw [← HN.out]; omega
    have hm2 : (m : Int) < n := by omega
    obtain ⟨B, o, rfl, c0, c1, c2, c3⟩ := IsCs.at' hcs hmk
    have HNO2 := Lib.hid (HNO.out m hmk (by rw [← HN.out]; exact hmn))
    obtain ⟨y, hy⟩ : ∃ y, y = K[m] := ⟨_, rfl⟩
    rw [← hy] at c0 c1 c2 c3 HNO2
    obtain ⟨ya, yb, yc, yd⟩ := y
    simp only at c0 c1 c2 c3 HNO2
    obtain ⟨m0, m1, m2, m3⟩ : _ ∧ _ ∧ _ ∧ _ := HM.out
    simp only at m0 m1 m2 m3
    clear hy hmn hn0
    by_cases e1 : yb = xl
    · by_cases e2 : yc = xf
      · have e3 := HNO2.out e1 e2
        have n3 : (yd == xt) = false := beq_eq_false_iff_ne.2 e3
        have e1 := e1.symm; have e2 := e2.symm; subst e1; subst e2
        clear e3 HNO2
        go_wp2_with fail
        go_quiet (fail)
        rename_i nq
        have HBn : Hid (Below w0.heap.size w0 (World.drewN w0 nq)) := below_drewN (Below.refl _ _) nq
        have HO2 := Lib.hid (own_drewN HO.out nq)
        have HCX := Lib.hid (HM.out.below hlt HBn.out)
        clear c0 c1 c2 c3 m0 m1 m2 m3
        generalize hw : World.drewN w0 nq = w2 at HBn HO2 HCX ⊢
        clear hw
        obtain ⟨k0, k1, k2, k3⟩ : _ ∧ _ ∧ _ ∧ _ := HCX.out
        have hsz2 := HBn.out.size
        go_wp2_with (at_builtin; refine wpList_append_own _ rfl _ _ 66 rfl base 107 i0 (.agg #[.int .i64 0, .int .i64 0, .int .i64 0, .int .i64 0]) 4 32 Try.underlying66 hi0 hz0 hz1 hz2 rfl (by decide) _ _ _ rfl (HO2.out.alloc _) ⟨w2.heap.size, 0, none⟩ 1 1 [.int .i64 xl, .int .i64 xh, .int .i64 xf, .int .i64 xt] rfl rfl (cells4_new _ _ _ _ _ _) (by simp [Value.oneCell']) (by omega) (by omega) (by simp; omega) ?_; intro v' w7 hown' hgrow hbl)
        have HF := Lib.hid (HEND.out w7 v' hown')
        have HBF : Hid (Below base W w7) := (HB.out.mono hbase).trans (((HBn.out.mono hwl).alloc (Nat.le_trans hwl HBn.out.size) _).grown hgrow (by simp; omega) (own_at HO2.out))
        clear hown' hgrow hbl k0 k1 k2 k3
        go_wp2_with fail
        go_ret
        exact ⟨v', rfl, HF, HBF.out⟩
      · have n2 : (yc == xf) = false := beq_eq_false_iff_ne.2 e2
        have e1 := e1.symm; subst e1
        clear e2 HNO2
        go_wp2_with fail
        go_quiet (fail)
        rename_i nq
        have HBn : Hid (Below w0.heap.size w0 (World.drewN w0 nq)) := below_drewN (Below.refl _ _) nq
        have HO2 := Lib.hid (own_drewN HO.out nq)
        have HCX := Lib.hid (HM.out.below hlt HBn.out)
        clear c0 c1 c2 c3 m0 m1 m2 m3
        generalize hw : World.drewN w0 nq = w2 at HBn HO2 HCX ⊢
        clear hw
        obtain ⟨k0, k1, k2, k3⟩ : _ ∧ _ ∧ _ ∧ _ := HCX.out
        have hsz2 := HBn.out.size
        go_wp2_with (at_builtin; refine wpList_append_own _ rfl _ _ 66 rfl base 107 i0 (.agg #[.int .i64 0, .int .i64 0, .int .i64 0, .int .i64 0]) 4 32 Try.underlying66 hi0 hz0 hz1 hz2 rfl (by decide) _ _ _ rfl (HO2.out.alloc _) ⟨w2.heap.size, 0, none⟩ 1 1 [.int .i64 xl, .int .i64 xh, .int .i64 xf, .int .i64 xt] rfl rfl (cells4_new _ _ _ _ _ _) (by simp [Value.oneCell']) (by omega) (by omega) (by simp; omega) ?_; intro v' w7 hown' hgrow hbl)
        have HF := Lib.hid (HEND.out w7 v' hown')
        have HBF : Hid (Below base W w7) := (HB.out.mono hbase).trans (((HBn.out.mono hwl).alloc (Nat.le_trans hwl HBn.out.size) _).grown hgrow (by simp; omega) (own_at HO2.out))
        clear hown' hgrow hbl k0 k1 k2 k3
        go_wp2_with fail
        go_ret
        exact ⟨v', rfl, HF, HBF.out⟩
    · have n1 : (yb == xl) = false := beq_eq_false_iff_ne.2 e1
      clear e1 HNO2
      go_wp2_with fail
      go_quiet (fail)
      rename_i nq
      have HBn : Hid (Below w0.heap.size w0 (World.drewN w0 nq)) := below_drewN (Below.refl _ _) nq
      have HO2 := Lib.hid (own_drewN HO.out nq)
      have HCX := Lib.hid (HM.out.below hlt HBn.out)
      clear c0 c1 c2 c3 m0 m1 m2 m3
      generalize hw : World.drewN w0 nq = w2 at HBn HO2 HCX ⊢
      clear hw
      obtain ⟨k0, k1, k2, k3⟩ : _ ∧ _ ∧ _ ∧ _ := HCX.out
      have hsz2 := HBn.out.size
      go_wp2_with (at_builtin; refine wpList_append_own _ rfl _ _ 66 rfl base 107 i0 (.agg #[.int .i64 0, .int .i64 0, .int .i64 0, .int .i64 0]) 4 32 Try.underlying66 hi0 hz0 hz1 hz2 rfl (by decide) _ _ _ rfl (HO2.out.alloc _) ⟨w2.heap.size, 0, none⟩ 1 1 [.int .i64 xl, .int .i64 xh, .int .i64 xf, .int .i64 xt] rfl rfl (cells4_new _ _ _ _ _ _) (by simp [Value.oneCell']) (by omega) (by omega) (by simp; omega) ?_; intro v' w7 hown' hgrow hbl)
      have HF := Lib.hid (HEND.out w7 v' hown')
      have HBF : Hid (Below base W w7) := (HB.out.mono hbase).trans (((HBn.out.mono hwl).alloc (Nat.le_trans hwl HBn.out.size) _).grown hgrow (by simp; omega) (own_at HO2.out))
      clear hown' hgrow hbl k0 k1 k2 k3
      go_wp2_with fail
      go_ret
      exact ⟨v', rfl, HF, HBF.out⟩
end Go.Proofs.Ytjbenhmpeceaeaa
namespace Go.Proofs.Ytjbenhmpeceaeaa
open Go Go.RowKit Gs

theorem RowC.next {base : Nat} {v : Value} {K : List Ch} {W W2 : World} (h : RowC base v K W) (hb : Below W.heap.size W W2) : RowC base v K W2 := by
  refine ⟨h.1, ?_⟩
  rcases h.2 with h0 | ⟨g, cap, cur, h1, h2, h3, h4⟩
  · exact .inl h0
  · exact .inr ⟨g, cap, cur, h1, h2, (hb.block g (Array.getElem?_eq_some_iff.1 h3).1).trans h3, h4⟩
theorem RowC.mono {base b2 : Nat} {v : Value} {K : List Ch} {W : World} (h : RowC base v K W) (hb : b2 ≤ base) : RowC b2 v K W := by
  refine ⟨h.1, ?_⟩
  rcases h.2 with h0 | ⟨g, cap, cur, h1, h2, h3, h4⟩
  · exact .inl h0
  · exact .inr ⟨g, cap, cur, h1, Nat.le_trans hb h2, h3, h4⟩
theorem RowC.nil (base : Nat) (W : World) : RowC base (.slice none 0 0) [] W := World.ownsRow_nil _ _ _ _
/-- a run of pairs ends where the first of its two runs ends -/
theorem rl_piece {f g : Int → Int} {la lb : List R} {size : Int} (ha : Fits f 0 la size) (hb : Fits g 0 lb size) {r : R} (hr : r ∈ rl la lb) (i k : Nat) (hi : i < la.length) (hk : k < lb.length) (h1 : la[i].lo ≤ r.lo) (h2 : r.lo < la[i].hi) (h3 : lb[k].lo ≤ r.lo) (h4 : r.lo < lb[k].hi) :
    r.hi = min la[i].hi lb[k].hi := by
  obtain ⟨x, hx, hr⟩ := List.mem_flatMap.1 hr
  obtain ⟨s, hs, rfl⟩ := List.mem_map.1 hr
  obtain ⟨y, hy, hs⟩ := List.mem_flatMap.1 hs
  unfold clip1 at hs
  split at hs
  · rename_i hc
    have hs := List.mem_singleton.1 hs
    subst hs
    simp only at h1 h2 h3 h4 ⊢
    have e1 := fits_one ha (List.getElem_mem hi) hx h1 h2 (by omega) (by omega)
    have e2 := fits_one hb (List.getElem_mem hk) hy h3 h4 (by omega) (by omega)
    rw [e1, e2]
    omega
  · cases hs
theorem dec_mem {K : List R} {c : Ch} (h : c ∈ dec K) : ∃ r ∈ K, r.hi = c.hi ∧ r.tag / 16 = c.fr ∧ r.tag % 16 = c.tt := by
  unfold dec at h
  obtain ⟨r, hr, rfl⟩ := List.mem_map.1 h
  exact ⟨r, (List.mem_filter.1 hr).1, rfl, rfl, rfl⟩
theorem dec_nolink {h : Int → Int} {K M : List R} {size at' : Int} (hc : Gs.Can h 0 (K ++ M) size) (h1 : Fits h 0 K at') (hlt : at' < size) : ∀ (m : Nat) (hm : m < (dec K).length), (dec K).length = m + 1 → (dec K)[m].hi = at' → (dec K)[m].fr = h at' / 16 → (dec K)[m].tt ≠ h at' % 16 := by
  intro m hm _ e1 e2 e3
  obtain ⟨r, hr, q1, q2, q3⟩ := dec_mem (List.getElem_mem hm)
  obtain ⟨m', p1, p2, p3⟩ := hc.part
  have := h1.ends p1.1
  subst this
  have hrg := fits_rng h1 r hr
  have e4 := p3 (by omega) hlt
  obtain ⟨j, hj, rfl⟩ := List.getElem_of_mem hr
  have h5 := (fits_at h1 j hj).2.2.2 (at' - 1) (by omega) (by omega)
  rw [h5] at e4
  apply e4
  omega
set_option maxRecDepth 100000 in
set_option maxHeartbeats 4000000 in
theorem RDiff_ok {f g : Int → Int} {size : Int} {B1 B2 : Nat} {v1 v2 : Value} {La Lb : List R} {W : World} (h1 : IsRs B1 W v1 La) (h2 : IsRs B2 W v2 Lb) (hLa : Gs.Can f 0 La size) (hLb : Gs.Can g 0 Lb size) (cf : Ctx f 0 size) (cg : Ctx g 0 size) (hs : 1 ≤ size) (hla : La.length ≤ 4096) (hlb : Lb.length ≤ 4096) :
    Calls Try.prog 30 #[.agg #[.int .i64 size, v1], .agg #[.int .i64 size, v2]] W fun e w' => ∃ v, e = .returned (.tuple #[v, .int .i64 0]) ∧ Hid (RowC W.heap.size v (diffE La Lb) w') ∧ Below W.heap.size W w' := by
  have hB : ∀ p, 0 ≤ p → p < size → 0 ≤ f p ∧ f p < 16 ∧ 0 ≤ g p ∧ g p < 16 := fun p p1 p2 => ⟨(cf.2.2 p p1 p2).1, (cf.2.2 p p1 p2).2, (cg.2.2 p p1 p2).1, (cg.2.2 p p1 p2).2⟩
  have hrl := rl_can hLb hLa (Int.le_refl 0) hB
  have hdd := diff_dec (fits_tags hLb.1 cg.2.2) (fits_tags hLa.1 cf.2.2)
  rw [hdd]
  have hne : ∀ {h : Int → Int} {L : List R}, Gs.Can h 0 L size → 0 < L.length := fun h => by
    rcases fits_cut h.1 with ⟨_, e⟩ | ⟨r, k, rfl⟩
    · omega
    · simp
  have hn1 := hne hLa
  have hn2 := hne hLb
  have hdl : (diffE La Lb).length ≤ 100000000 := Nat.le_trans (diffE_len La Lb) (Nat.le_trans (Nat.mul_le_mul hla hlb) (by decide))
  rw [hdd] at hdl
  have HSZ : Hid (size ≤ 1099511627776) := cf.2.1
  obtain ⟨w1, HW1⟩ : ∃ w1, w1 = W.alloc (.cells #[.int .i64 size, v1] 33) := ⟨_, rfl⟩
  obtain ⟨w0, HW0⟩ : ∃ w0, w0 = w1.alloc (.cells #[.int .i64 size, v2] 33) := ⟨_, rfl⟩
  have b1 : Below W.heap.size W w1 := by rw [HW1]; exact (Below.refl _ _).alloc (Nat.le_refl _) _
  have b2 : Below w1.heap.size w1 w0 := by rw [HW0]; exact (Below.refl _ _).alloc (Nat.le_refl _) _
  have s1 : w1.heap.size = W.heap.size + 1 := by rw [HW1]; simp
  have hb := b1.trans (b2.mono b1.size)
  have hm : M2 W.heap.size (.int .i64 size) v1 w0 := by
    have : M2 W.heap.size (.int .i64 size) v1 w1 := by rw [HW1]; exact M2.new _ _ _ _
    exact this.next b2
  have hv : M2 (W.heap.size + 1) (.int .i64 size) v2 w0 := by rw [← s1, HW0]; exact M2.new _ _ _ _
  have hi1 := h1.below hb
  have hi2 := h2.below hb
  rw [HW1] at HW0
  have HW' := Lib.hid HW0
  have HB := Lib.hid hb; have HM := Lib.hid hm; have HV := Lib.hid hv
  have HGT1 : Hid (∀ at' W', 0 ≤ at' → at' < size → Below w0.heap.size w0 W' → Calls Try.prog 19 #[.agg #[.int .i64 size, v1], .int .i64 at'] W' fun e w' => e = .returned (.tuple #[.int .i64 (f at'), .int .i64 0]) ∧ Below w0.heap.size w0 w' ∧ Below W'.heap.size W' w') := fun at' W' p1 p2 h => (RGet_any (hi1.below h) hLa hs hla).mono fun e w' ⟨he, hB⟩ => ⟨by rw [he]; unfold getT getE; rw [if_pos ⟨p1, p2⟩, if_pos ⟨p1, p2⟩], h.trans (hB.mono h.size), hB⟩
  have HGT2 : Hid (∀ at' W', 0 ≤ at' → at' < size → Below w0.heap.size w0 W' → Calls Try.prog 19 #[.agg #[.int .i64 size, v2], .int .i64 at'] W' fun e w' => e = .returned (.tuple #[.int .i64 (g at'), .int .i64 0]) ∧ Below w0.heap.size w0 w' ∧ Below W'.heap.size W' w') := fun at' W' p1 p2 h => (RGet_any (hi2.below h) hLb hs hlb).mono fun e w' ⟨he, hB⟩ => ⟨by rw [he]; unfold getT getE; rw [if_pos ⟨p1, p2⟩, if_pos ⟨p1, p2⟩], h.trans (hB.mono h.size), hB⟩
  have HLA := Lib.hid hLa; have HLB := Lib.hid hLb
  obtain ⟨a1, c1, hv1, -⟩ := h1
  obtain ⟨a2, c2, hv2, -⟩ := h2
  subst hv1; subst hv2
  have HUS1 : Hid (∀ W', Below w0.heap.size w0 W' → Calls Try.prog 42 #[.agg #[.int .i64 size, .slice a1 La.length c1]] W' fun e w' => e = .returned (.bool true) ∧ Below w0.heap.size w0 w') := fun W' h => by
    have := RUsable_any size a1 La.length c1 W'
    rw [decide_eq_true hn1] at this
    exact this.mono fun e w' ⟨he, hB⟩ => ⟨he, h.trans (hB.mono h.size)⟩
  have HUS2 : Hid (∀ W', Below w0.heap.size w0 W' → Calls Try.prog 42 #[.agg #[.int .i64 size, .slice a2 Lb.length c2]] W' fun e w' => e = .returned (.bool true) ∧ Below w0.heap.size w0 w') := fun W' h => by
    have := RUsable_any size a2 Lb.length c2 W'
    rw [decide_eq_true hn2] at this
    exact this.mono fun e w' ⟨he, hB⟩ => ⟨he, h.trans (hB.mono h.size)⟩
  obtain ⟨n1, hq1⟩ : ∃ n, n = La.length := ⟨_, rfl⟩
  obtain ⟨n2, hq2⟩ : ∃ n, n = Lb.length := ⟨_, rfl⟩
  have HNX1 : Hid (∀ at' i (hi : i < La.length), La[i].lo ≤ at' → at' < La[i].hi → ∀ W', Below w0.heap.size w0 W' → Calls Try.prog 59 #[.agg #[.int .i64 size, .slice a1 n1 c1], .int .i64 at'] W' fun e w' => e = .returned (.int .i64 La[i].hi) ∧ Below w0.heap.size w0 w' ∧ Below W'.heap.size W' w') := fun at' i hi x1 x2 W' h => by
    rw [hq1]
    exact (RNext_any (hi1.below h) hLa.1 hla i hi x1 x2).mono fun e w' ⟨he, hB⟩ => ⟨he, h.trans (hB.mono h.size), hB⟩
  have HNX2 : Hid (∀ at' i (hi : i < Lb.length), Lb[i].lo ≤ at' → at' < Lb[i].hi → ∀ W', Below w0.heap.size w0 W' → Calls Try.prog 59 #[.agg #[.int .i64 size, .slice a2 n2 c2], .int .i64 at'] W' fun e w' => e = .returned (.int .i64 Lb[i].hi) ∧ Below w0.heap.size w0 w' ∧ Below W'.heap.size W' w') := fun at' i hi x1 x2 W' h => by
    rw [hq2]
    exact (RNext_any (hi2.below h) hLb.1 hlb i hi x1 x2).mono fun e w' ⟨he, hB⟩ => ⟨he, h.trans (hB.mono h.size), hB⟩
  rw [← hq1] at HUS1 HGT1 HM HW' ⊢
  rw [← hq2] at HUS2 HGT2 HV HW' ⊢
  obtain ⟨RL, hRL⟩ : ∃ RL, RL = rl La Lb := ⟨_, rfl⟩
  rw [← hRL] at hrl hdl ⊢
  have HRL := Lib.hid hrl; have HRLE := Lib.hid hRL; have HBB := Lib.hid hB; have HDL := Lib.hid hdl
  have HALL : Hid (∀ W', Below w0.heap.size w0 W' → W'.cell? ⟨W.heap.size, 0, none⟩ = some (.int .i64 size) ∧ W'.cell? ⟨W.heap.size, 1, none⟩ = some (.slice a1 n1 c1) ∧ W'.cell? ⟨W.heap.size + 1, 0, none⟩ = some (.int .i64 size) ∧ W'.cell? ⟨W.heap.size + 1, 1, none⟩ = some (.slice a2 n2 c2)) := fun W' h => ⟨(HM.out.next h).c0, (HM.out.next h).c1, (HV.out.next h).c0, (HV.out.next h).c1⟩
  clear HM HV hLa hLb cf cg hla hlb hB hrl hdd hne hn1 hn2 hdl HW1 HW0 b1 b2 s1 hb hm hv hi1 hi2 hq1 hq2 hRL
  have HR0 : Hid (Below w0.heap.size w0 w0) := Below.refl _ _
  go_enter Try.func30, Try.ntmps30
  go_upto_region 1 with fail
  rw [← HW'.out]
  obtain ⟨k0, k1, k2, k3⟩ := HALL.out w0 HR0.out
  go_wp2_with fail
  refine (HUS1.out _ HR0.out).mono ?_
  rintro e w2 ⟨rfl, hb⟩
  have HR2 := Lib.hid hb
  clear hb k0 k1 k2 k3
  obtain ⟨k0, k1, k2, k3⟩ := HALL.out w2 HR2.out
  go_wp2_with fail
  refine (HUS2.out _ HR2.out).mono ?_
  rintro e w3 ⟨rfl, hb⟩
  have HR3 := Lib.hid hb
  clear hb k0 k1 k2 k3
  obtain ⟨k0, k1, k2, k3⟩ := HALL.out w3 HR3.out
  go_wp2_with fail
  clear k0 k1 k2 k3
  go_loopw [6, 7] (fun ov iv wr => ∃ (j : Nat) (at' : Int), iv = .int .i64 at' ∧ Hid (j ≤ RL.length) ∧ Hid (0 ≤ at' ∧ at' ≤ size) ∧ Hid (Fits (pr f g) 0 (RL.take j) at' ∧ Fits (pr f g) at' (RL.drop j) size) ∧ Hid (RowC w0.heap.size ov (dec (RL.take j)) wr) ∧ Hid (Below w0.heap.size w0 wr)) (fun _ i _ => (size - intOf i).toNat)
  case atStart => exact ⟨0, 0, rfl, Nat.zero_le _, ⟨Int.le_refl 0, by omega⟩, ⟨rfl, HRL.out.1⟩, RowC.nil _ _, HR3.out⟩
  case round =>
    obtain ⟨j, at', rfl, HJ, HAT, HF, HRW, HR⟩ := hrel
    obtain ⟨k0, k1, k2, k3⟩ := HALL.out wr HR.out
    by_cases hlt : at' < size
    · have hat0 := HAT.out.1
      have hjl : j < RL.length := by
        rcases Nat.lt_or_ge j RL.length with h | h
        · exact h
        · have h9 := HF.out.2
          rw [List.drop_of_length_le h] at h9
          have h9 : at' = size := h9
          omega
      obtain ⟨r, hr⟩ : ∃ r, r = RL[j] := ⟨_, rfl⟩
      have hdr : RL.drop j = r :: RL.drop (j + 1) := by rw [hr]; exact List.drop_eq_getElem_cons hjl
      have htk : RL.take (j + 1) = RL.take j ++ [r] := by rw [hr]; exact List.take_succ_eq_append_getElem hjl
      have hFd := HF.out.2
      rw [hdr] at hFd
      have q1 := hFd.1; have q2 := hFd.2.1; have q3 := hFd.2.2.1; have q4 := hFd.2.2.2
      have q5 := q4.le
      obtain ⟨i, hi, i1, i2⟩ := fits_idx HLA.out.1 hat0 hlt
      obtain ⟨k, hk, j1, j2⟩ := fits_idx HLB.out.1 hat0 hlt
      have hmin := rl_piece HLA.out.1 HLB.out.1 (r := r) (by rw [← HRLE.out, hr]; exact List.getElem_mem hjl) i k hi hk (by omega) (by omega) (by omega) (by omega)
      have htag := q3 at' (by omega) (by omega)
      have hbd := HBB.out at' hat0 hlt
      have hfx : f at' = r.tag / 16 := by unfold pr at htag; omega
      have hgx : g at' = r.tag % 16 := by unfold pr at htag; omega
      have hnl := dec_nolink (K := RL.take j) (M := RL.drop j) (by rw [List.take_append_drop]; exact HRL.out) HF.out.1 hlt
      rw [htag, ← hfx, ← hgx] at hnl
      have hdt : dec (RL.take (j + 1)) = dec (RL.take j) ++ (if f at' = g at' then [] else [⟨at', r.hi, f at', g at'⟩]) := by
        rw [htk, dec_append, dec_cons, ← hfx, ← hgx, q1]
        congr 1
        exact List.append_nil _
      have hlen : (dec (RL.take j)).length ≤ 100000000 := by
        have h9 := HDL.out
        rw [← List.take_append_drop j RL, dec_append, List.length_append] at h9
        omega
      have HF2 : Hid (Fits (pr f g) 0 (RL.take (j + 1)) r.hi ∧ Fits (pr f g) r.hi (RL.drop (j + 1)) size) := ⟨by rw [htk]; exact fits_append.2 ⟨at', HF.out.1, q1, q2, q3, rfl⟩, q4⟩
      have HN1 := Lib.hid (HNX1.out at' i hi i1 i2)
      have HN2 := Lib.hid (HNX2.out at' k hk j1 j2)
      have HG1 := Lib.hid (fun W' h => HGT1.out at' W' hat0 hlt h)
      have HG2 := Lib.hid (fun W' h => HGT2.out at' W' hat0 hlt h)
      have HLK : Hid (f at' ≠ g at' → ∀ W' ov, Below w0.heap.size w0 W' → RowC w0.heap.size ov (dec (RL.take j)) W' → Calls Try.prog 60 #[ov, .agg #[.int .i64 at', .int .i64 r.hi, .int .i64 (f at'), .int .i64 (g at')]] W' fun e w' => ∃ v', e = .returned v' ∧ Hid (RowC w0.heap.size v' (dec (RL.take (j + 1))) w') ∧ Below w0.heap.size w0 w') := fun hne W' ov h ho => by
        refine (Rlink_no (x := ⟨at', r.hi, f at', g at'⟩) ho h.size hlen hnl).mono ?_
        rintro e w' ⟨v', he, hr, hB⟩
        rw [hdt, if_neg hne]
        exact ⟨v', he, hr, h.trans hB⟩
      have HST : Hid (f at' = g at' → dec (RL.take (j + 1)) = dec (RL.take j)) := fun e => by rw [hdt, if_pos e, List.append_nil]
      have HRNG : Hid (0 ≤ r.hi ∧ r.hi ≤ size) := ⟨by omega, q5⟩
      have HJ2 : Hid (j + 1 ≤ RL.length) := hjl
      have hzat : at' < r.hi := by omega
      obtain ⟨z, hz⟩ : ∃ z, z = r.hi := ⟨_, rfl⟩
      obtain ⟨A, hA⟩ : ∃ A, A = La[i].hi := ⟨_, rfl⟩
      obtain ⟨B, hBq⟩ : ∃ B, B = Lb[k].hi := ⟨_, rfl⟩
      obtain ⟨x, hx⟩ : ∃ x, x = f at' := ⟨_, rfl⟩
      obtain ⟨y, hy⟩ : ∃ y, y = g at' := ⟨_, rfl⟩
      rw [← hz, ← hA, ← hBq] at hmin
      rw [← hA] at HN1
      rw [← hBq] at HN2
      rw [← hx] at HG1
      rw [← hy] at HG2
      rw [← hz, ← hx, ← hy] at HLK
      rw [← hx, ← hy] at HST
      rw [← hz] at HF2 HRNG hzat
      clear hdr htk hFd q1 q2 q3 q4 q5 i1 i2 j1 j2 htag hbd hfx hgx hnl hdt hlen hz hA hBq hx hy hi hk hr hjl HNX1 HNX2 HGT1 HGT2 HF HAT HJ
      rcases Int.lt_trichotomy A B with hab | hab | hab
      · have hAz : A = z := by omega
        subst hAz
        clear hmin
        have HALLr : Hid (∀ W', Below wr.heap.size wr W' → W'.cell? ⟨W.heap.size, 0, none⟩ = some (.int .i64 size) ∧ W'.cell? ⟨W.heap.size, 1, none⟩ = some (.slice a1 n1 c1) ∧ W'.cell? ⟨W.heap.size + 1, 0, none⟩ = some (.int .i64 size) ∧ W'.cell? ⟨W.heap.size + 1, 1, none⟩ = some (.slice a2 n2 c2)) := fun W' h => HALL.out W' (HR.out.trans (h.mono HR.out.size))
        have HN1r : Hid (∀ W', Below wr.heap.size wr W' → Calls Try.prog 59 #[.agg #[.int .i64 size, .slice a1 n1 c1], .int .i64 at'] W' fun e w' => e = .returned (.int .i64 A) ∧ Below wr.heap.size wr w') := fun W' h => (HN1.out W' (HR.out.trans (h.mono HR.out.size))).mono fun e w' ⟨he, _, hB⟩ => ⟨he, h.trans (hB.mono h.size)⟩
        have HN2r : Hid (∀ W', Below wr.heap.size wr W' → Calls Try.prog 59 #[.agg #[.int .i64 size, .slice a2 n2 c2], .int .i64 at'] W' fun e w' => e = .returned (.int .i64 B) ∧ Below wr.heap.size wr w') := fun W' h => (HN2.out W' (HR.out.trans (h.mono HR.out.size))).mono fun e w' ⟨he, _, hB⟩ => ⟨he, h.trans (hB.mono h.size)⟩
        have hs : Below wr.heap.size wr wr := Below.refl _ _
        have hs2 := hs.drew
        have hcl := HALLr.out _ hs2
        clear k0 k1 k2 k3 HN1 HN2
        have hc0 := HALLr.out _ hs
        go_wp2_with fail
        go_region_held3 (fun W' : World => W'.cell? ⟨W.heap.size, 0, none⟩ = some (.int .i64 size) ∧ W'.cell? ⟨W.heap.size, 1, none⟩ = some (.slice a1 n1 c1) ∧ W'.cell? ⟨W.heap.size + 1, 0, none⟩ = some (.int .i64 size) ∧ W'.cell? ⟨W.heap.size + 1, 1, none⟩ = some (.slice a2 n2 c2)) (first | assumption | fail) (first
          | (go_at_call 59; with_reducible refine (HN1r.out _ ?h).mono ?_; (case h => assumption); rintro e w' ⟨rfl, hs1'⟩; have hc1' := HALLr.out _ hs1')
          | (go_at_call 59; with_reducible refine (HN2r.out _ ?h).mono ?_; (case h => assumption); rintro e w' ⟨rfl, hs2'⟩; have hc2' := HALLr.out _ hs2') | fail)
        have HR1 := Lib.hid (HR.out.trans (hs2'.mono HR.out.size))
        have HRW1 := Lib.hid (HRW.out.next hs2')
        clear hs hs2 hcl hc0 hs1' hc1' hc2' hs2'
        obtain ⟨k0, k1, k2, k3⟩ := HALL.out _ HR1.out
        go_wp2_with fail
        refine (HG1.out _ HR1.out).mono ?_
        rintro e w5 ⟨rfl, hb, hb2⟩
        have HR5 := Lib.hid hb
        have HRW5 := Lib.hid (HRW1.out.next hb2)
        clear hb hb2 k0 k1 k2 k3
        obtain ⟨k0, k1, k2, k3⟩ := HALL.out _ HR5.out
        go_wp2_with fail
        refine (HG2.out _ HR5.out).mono ?_
        rintro e w6 ⟨rfl, hb, hb2⟩
        have HR6 := Lib.hid hb
        have HRW6 := Lib.hid (HRW5.out.next hb2)
        clear hb hb2 k0 k1 k2 k3
        by_cases hxy : x = y
        · have HRW7 : Hid (RowC w0.heap.size u6 (dec (RL.take (j + 1))) w6) := by
            rw [HST.out hxy]
            exact HRW6.out
          clear HST HLK
          subst hxy
          go_wp2_with fail
          go_roundw
          case rel => exact ⟨j + 1, _, rfl, HJ2, HRNG, HF2, HRW7, HR6⟩
          case measure => simp [intOf]; omega
        · have n3 : (x == y) = false := beq_eq_false_iff_ne.2 hxy
          have HL7 := Lib.hid (HLK.out hxy w6 u6 HR6.out HRW6.out)
          clear HST HLK hxy
          go_wp2_with fail
          refine HL7.out.mono ?_
          rintro e w7 ⟨v7, rfl, HRW7, hb⟩
          have HR7 := Lib.hid hb
          clear hb
          go_wp2_with fail
          go_roundw
          case rel => exact ⟨j + 1, _, rfl, HJ2, HRNG, HF2, HRW7, HR7⟩
          case measure => simp [intOf]; omega
      · have hAz : A = z := by omega
        subst hab
        subst hAz
        clear hmin
        have HALLr : Hid (∀ W', Below wr.heap.size wr W' → W'.cell? ⟨W.heap.size, 0, none⟩ = some (.int .i64 size) ∧ W'.cell? ⟨W.heap.size, 1, none⟩ = some (.slice a1 n1 c1) ∧ W'.cell? ⟨W.heap.size + 1, 0, none⟩ = some (.int .i64 size) ∧ W'.cell? ⟨W.heap.size + 1, 1, none⟩ = some (.slice a2 n2 c2)) := fun W' h => HALL.out W' (HR.out.trans (h.mono HR.out.size))
        have HN1r : Hid (∀ W', Below wr.heap.size wr W' → Calls Try.prog 59 #[.agg #[.int .i64 size, .slice a1 n1 c1], .int .i64 at'] W' fun e w' => e = .returned (.int .i64 A) ∧ Below wr.heap.size wr w') := fun W' h => (HN1.out W' (HR.out.trans (h.mono HR.out.size))).mono fun e w' ⟨he, _, hB⟩ => ⟨he, h.trans (hB.mono h.size)⟩
        have HN2r : Hid (∀ W', Below wr.heap.size wr W' → Calls Try.prog 59 #[.agg #[.int .i64 size, .slice a2 n2 c2], .int .i64 at'] W' fun e w' => e = .returned (.int .i64 A) ∧ Below wr.heap.size wr w') := fun W' h => (HN2.out W' (HR.out.trans (h.mono HR.out.size))).mono fun e w' ⟨he, _, hB⟩ => ⟨he, h.trans (hB.mono h.size)⟩
        have hs : Below wr.heap.size wr wr := Below.refl _ _
        have hs2 := hs.drew
        have hcl := HALLr.out _ hs2
        clear k0 k1 k2 k3 HN1 HN2
        have hc0 := HALLr.out _ hs
        go_wp2_with fail
        go_region_held3 (fun W' : World => W'.cell? ⟨W.heap.size, 0, none⟩ = some (.int .i64 size) ∧ W'.cell? ⟨W.heap.size, 1, none⟩ = some (.slice a1 n1 c1) ∧ W'.cell? ⟨W.heap.size + 1, 0, none⟩ = some (.int .i64 size) ∧ W'.cell? ⟨W.heap.size + 1, 1, none⟩ = some (.slice a2 n2 c2)) (first | assumption | fail) (first
          | (go_at_call 59; with_reducible refine (HN1r.out _ ?h).mono ?_; (case h => assumption); rintro e w' ⟨rfl, hs1'⟩; have hc1' := HALLr.out _ hs1')
          | (go_at_call 59; with_reducible refine (HN2r.out _ ?h).mono ?_; (case h => assumption); rintro e w' ⟨rfl, hs2'⟩; have hc2' := HALLr.out _ hs2') | fail)
        have HR1 := Lib.hid (HR.out.trans (hs2'.mono HR.out.size))
        have HRW1 := Lib.hid (HRW.out.next hs2')
        clear hs hs2 hcl hc0 hs1' hc1' hc2' hs2'
        obtain ⟨k0, k1, k2, k3⟩ := HALL.out _ HR1.out
        go_wp2_with fail
        refine (HG1.out _ HR1.out).mono ?_
        rintro e w5 ⟨rfl, hb, hb2⟩
        have HR5 := Lib.hid hb
        have HRW5 := Lib.hid (HRW1.out.next hb2)
        clear hb hb2 k0 k1 k2 k3
        obtain ⟨k0, k1, k2, k3⟩ := HALL.out _ HR5.out
        go_wp2_with fail
        refine (HG2.out _ HR5.out).mono ?_
        rintro e w6 ⟨rfl, hb, hb2⟩
        have HR6 := Lib.hid hb
        have HRW6 := Lib.hid (HRW5.out.next hb2)
        clear hb hb2 k0 k1 k2 k3
        by_cases hxy : x = y
        · have HRW7 : Hid (RowC w0.heap.size u6 (dec (RL.take (j + 1))) w6) := by
            rw [HST.out hxy]
            exact HRW6.out
          clear HST HLK
          subst hxy
          go_wp2_with fail
          go_roundw
          case rel => exact ⟨j + 1, _, rfl, HJ2, HRNG, HF2, HRW7, HR6⟩
          case measure => simp [intOf]; omega
        · have n3 : (x == y) = false := beq_eq_false_iff_ne.2 hxy
          have HL7 := Lib.hid (HLK.out hxy w6 u6 HR6.out HRW6.out)
          clear HST HLK hxy
          go_wp2_with fail
          refine HL7.out.mono ?_
          rintro e w7 ⟨v7, rfl, HRW7, hb⟩
          have HR7 := Lib.hid hb
          clear hb
          go_wp2_with fail
          go_roundw
          case rel => exact ⟨j + 1, _, rfl, HJ2, HRNG, HF2, HRW7, HR7⟩
          case measure => simp [intOf]; omega
      · have hBz : B = z := by omega
        subst hBz
        clear hmin
        have HALLr : Hid (∀ W', Below wr.heap.size wr W' → W'.cell? ⟨W.heap.size, 0, none⟩ = some (.int .i64 size) ∧ W'.cell? ⟨W.heap.size, 1, none⟩ = some (.slice a1 n1 c1) ∧ W'.cell? ⟨W.heap.size + 1, 0, none⟩ = some (.int .i64 size) ∧ W'.cell? ⟨W.heap.size + 1, 1, none⟩ = some (.slice a2 n2 c2)) := fun W' h => HALL.out W' (HR.out.trans (h.mono HR.out.size))
        have HN1r : Hid (∀ W', Below wr.heap.size wr W' → Calls Try.prog 59 #[.agg #[.int .i64 size, .slice a1 n1 c1], .int .i64 at'] W' fun e w' => e = .returned (.int .i64 A) ∧ Below wr.heap.size wr w') := fun W' h => (HN1.out W' (HR.out.trans (h.mono HR.out.size))).mono fun e w' ⟨he, _, hB⟩ => ⟨he, h.trans (hB.mono h.size)⟩
        have HN2r : Hid (∀ W', Below wr.heap.size wr W' → Calls Try.prog 59 #[.agg #[.int .i64 size, .slice a2 n2 c2], .int .i64 at'] W' fun e w' => e = .returned (.int .i64 B) ∧ Below wr.heap.size wr w') := fun W' h => (HN2.out W' (HR.out.trans (h.mono HR.out.size))).mono fun e w' ⟨he, _, hB⟩ => ⟨he, h.trans (hB.mono h.size)⟩
        have hs : Below wr.heap.size wr wr := Below.refl _ _
        have hs2 := hs.drew
        have hcl := HALLr.out _ hs2
        clear k0 k1 k2 k3 HN1 HN2
        have hc0 := HALLr.out _ hs
        go_wp2_with fail
        go_region_held3 (fun W' : World => W'.cell? ⟨W.heap.size, 0, none⟩ = some (.int .i64 size) ∧ W'.cell? ⟨W.heap.size, 1, none⟩ = some (.slice a1 n1 c1) ∧ W'.cell? ⟨W.heap.size + 1, 0, none⟩ = some (.int .i64 size) ∧ W'.cell? ⟨W.heap.size + 1, 1, none⟩ = some (.slice a2 n2 c2)) (first | assumption | fail) (first
          | (go_at_call 59; with_reducible refine (HN1r.out _ ?h).mono ?_; (case h => assumption); rintro e w' ⟨rfl, hs1'⟩; have hc1' := HALLr.out _ hs1')
          | (go_at_call 59; with_reducible refine (HN2r.out _ ?h).mono ?_; (case h => assumption); rintro e w' ⟨rfl, hs2'⟩; have hc2' := HALLr.out _ hs2') | fail)
        have HR1 := Lib.hid (HR.out.trans (hs2'.mono HR.out.size))
        have HRW1 := Lib.hid (HRW.out.next hs2')
        clear hs hs2 hcl hc0 hs1' hc1' hc2' hs2'
        obtain ⟨k0, k1, k2, k3⟩ := HALL.out _ HR1.out
        go_wp2_with fail
        refine (HG1.out _ HR1.out).mono ?_
        rintro e w5 ⟨rfl, hb, hb2⟩
        have HR5 := Lib.hid hb
        have HRW5 := Lib.hid (HRW1.out.next hb2)
        clear hb hb2 k0 k1 k2 k3
        obtain ⟨k0, k1, k2, k3⟩ := HALL.out _ HR5.out
        go_wp2_with fail
        refine (HG2.out _ HR5.out).mono ?_
        rintro e w6 ⟨rfl, hb, hb2⟩
        have HR6 := Lib.hid hb
        have HRW6 := Lib.hid (HRW5.out.next hb2)
        clear hb hb2 k0 k1 k2 k3
        by_cases hxy : x = y
        · have HRW7 : Hid (RowC w0.heap.size u6 (dec (RL.take (j + 1))) w6) := by
            rw [HST.out hxy]
            exact HRW6.out
          clear HST HLK
          subst hxy
          go_wp2_with fail
          go_roundw
          case rel => exact ⟨j + 1, _, rfl, HJ2, HRNG, HF2, HRW7, HR6⟩
          case measure => simp [intOf]; omega
        · have n3 : (x == y) = false := beq_eq_false_iff_ne.2 hxy
          have HL7 := Lib.hid (HLK.out hxy w6 u6 HR6.out HRW6.out)
          clear HST HLK hxy
          go_wp2_with fail
          refine HL7.out.mono ?_
          rintro e w7 ⟨v7, rfl, HRW7, hb⟩
          have HR7 := Lib.hid hb
          clear hb
          go_wp2_with fail
          go_roundw
          case rel => exact ⟨j + 1, _, rfl, HJ2, HRNG, HF2, HRW7, HR7⟩
          case measure => simp [intOf]; omega
    · have HE : Hid (RowC W.heap.size u6 (dec RL) wr) := by
        have h9 := HF.out.2
        have e : at' = size := by have := HAT.out.2; omega
        have hj : RL.drop j = [] := by
          cases hd : RL.drop j with
          | nil => rfl
          | cons s t => rw [hd] at h9; have := h9.lt; omega
        have hl : RL.take j = RL := by
          have := List.take_append_drop j RL
          rw [hj, List.append_nil] at this
          exact this
        have h8 := HRW.out
        rw [hl] at h8
        exact h8.mono HB.out.size
      have HFIN := Lib.hid (HB.out.trans (HR.out.mono HB.out.size))
      go_wp2_with fail
      refine bodyPost_ret (v := .tuple #[_, .int .i64 0]) (by simp [results, Try.results30, go_sem]; rfl) rfl ?_
      exact ⟨_, rfl, HE.out, HFIN.out⟩
end Go.Proofs.Ytjbenhmpeceaeaa
namespace Go.Proofs.Ytjbenhmpeceaeaa
open Go Go.RowKit Gs

theorem Diff_ne (bp bq : Nat) (s s2 : Int) (W : World) (h : s2 ≠ s) :
    Calls Try.prog 29 #[MV.v (some bp, s), MV.v (some bq, s2)] W fun e w' => e = .returned (.tuple #[.slice none 0 0, .int .i64 2]) ∧ Below W.heap.size W w' := by
  obtain ⟨w0, HW, hm, hr, hc, hlt, hb⟩ := two_maps W (some bp, s) (some bq, s2) 27 27
  have HCK : Hid (Calls Try.prog 57 #[.slice (some ⟨W.heap.size + 1 + 1, 0, none⟩) 2 2] w0 fun e w' => e = .returned (.int .i64 2) ∧ Below w0.heap.size w0 w') :=
    checkSizes_ok (W.heap.size + 1 + 1) 2 [(some bp, s), (some bq, s2)] s 2 w0 hlt (fun j hj => by
      have : j = 0 ∨ j = 1 := by simp at hj; omega
      rcases this with rfl | rfl
      · exact ⟨hc 0 _ rfl, hc 1 _ rfl⟩
      · exact ⟨hc 2 _ rfl, hc 3 _ rfl⟩) (by simp) (by simp) (by simp) (hc 1 _ rfl) (fun h' => absurd (h' (some bq, s2) (by simp)) h) (fun _ => rfl)
  have HB := Lib.hid hb; have HW' := Lib.hid HW
  clear hm hr hc hlt hb HW h
  unfold MV.v
  obtain ⟨xp, hxp⟩ : ∃ xp, xp = MV.p (some bp, s) := ⟨_, rfl⟩
  obtain ⟨yp, hyp⟩ : ∃ yp, yp = MV.p (some bq, s2) := ⟨_, rfl⟩
  rw [← hxp, ← hyp] at HW' ⊢
  clear hxp hyp
  go_enter Try.func29, Try.ntmps29
  go_wp2_with fail
  rw [← HW'.out]
  refine HCK.out.mono ?_
  rintro e w1 ⟨rfl, hb⟩
  have HB1 := Lib.hid (HB.out.trans (hb.mono HB.out.size))
  clear hb
  go_wp2_with fail
  refine bodyPost_ret (v := .tuple #[.slice none 0 0, .int .i64 2]) (by simp [results, Try.results29, go_sem]) rfl ?_
  exact ⟨rfl, HB1.out⟩
/-- ref.Diff where one map is unusable, or the sizes differ -/
theorem RDiff_no (s s2 : Int) (a1 a2 : Option Addr) (n1 c1 n2 c2 : Nat) (E : Int) (W : World) (h : (E = 1 ∧ (n1 = 0 ∨ n2 = 0)) ∨ (E = 2 ∧ 0 < n1 ∧ 0 < n2 ∧ s ≠ s2)) :
    Calls Try.prog 30 #[.agg #[.int .i64 s, .slice a1 n1 c1], .agg #[.int .i64 s2, .slice a2 n2 c2]] W fun e w' => e = .returned (.tuple #[.slice none 0 0, .int .i64 E]) ∧ Below W.heap.size W w' := by
  obtain ⟨w1, HW1⟩ : ∃ w1, w1 = W.alloc (.cells #[.int .i64 s, .slice a1 n1 c1] 33) := ⟨_, rfl⟩
  obtain ⟨w0, HW0⟩ : ∃ w0, w0 = w1.alloc (.cells #[.int .i64 s2, .slice a2 n2 c2] 33) := ⟨_, rfl⟩
  have b1 : Below W.heap.size W w1 := by rw [HW1]; exact (Below.refl _ _).alloc (Nat.le_refl _) _
  have b2 : Below w1.heap.size w1 w0 := by rw [HW0]; exact (Below.refl _ _).alloc (Nat.le_refl _) _
  have s1 : w1.heap.size = W.heap.size + 1 := by rw [HW1]; simp
  have hb := b1.trans (b2.mono b1.size)
  have hm : M2 W.heap.size (.int .i64 s) (.slice a1 n1 c1) w0 := by
    have : M2 W.heap.size (.int .i64 s) (.slice a1 n1 c1) w1 := by rw [HW1]; exact M2.new _ _ _ _
    exact this.next b2
  have hv : M2 (W.heap.size + 1) (.int .i64 s2) (.slice a2 n2 c2) w0 := by rw [← s1, HW0]; exact M2.new _ _ _ _
  rw [HW1] at HW0
  have HW' := Lib.hid HW0
  have HB := Lib.hid hb; have HM := Lib.hid hm; have HV := Lib.hid hv
  have HALL : Hid (∀ W', Below w0.heap.size w0 W' → W'.cell? ⟨W.heap.size, 0, none⟩ = some (.int .i64 s) ∧ W'.cell? ⟨W.heap.size, 1, none⟩ = some (.slice a1 n1 c1) ∧ W'.cell? ⟨W.heap.size + 1, 0, none⟩ = some (.int .i64 s2) ∧ W'.cell? ⟨W.heap.size + 1, 1, none⟩ = some (.slice a2 n2 c2)) := fun W' h => ⟨(HM.out.next h).c0, (HM.out.next h).c1, (HV.out.next h).c0, (HV.out.next h).c1⟩
  have HUS : Hid (∀ s a n c W' (b : Bool), decide (0 < n) = b → Below w0.heap.size w0 W' → Calls Try.prog 42 #[.agg #[.int .i64 s, .slice a n c]] W' fun e w' => e = .returned (.bool b) ∧ Below w0.heap.size w0 w') := fun s a n c W' b hb h => by
    have := RUsable_any s a n c W'
    rw [hb] at this
    exact this.mono fun e w' ⟨he, hB⟩ => ⟨he, h.trans (hB.mono h.size)⟩
  have HR0 : Hid (Below w0.heap.size w0 w0) := Below.refl _ _
  clear HW1 HW0 b1 b2 s1 hb hm hv HM HV
  go_enter Try.func30, Try.ntmps30
  go_upto_region 1 with fail
  rw [← HW'.out]
  obtain ⟨k0, k1, k2, k3⟩ := HALL.out w0 HR0.out
  by_cases h1 : n1 = 0
  · have HE : Hid (E = 1) := by rcases h with h | h <;> first | exact h.1 | (exfalso; omega)
    have HU1 := Lib.hid (HUS.out s a1 n1 c1 w0 false (decide_eq_false (by omega)) HR0.out)
    clear h h1
    go_wp2_with fail
    refine HU1.out.mono ?_
    rintro e w2 ⟨rfl, hb⟩
    have HFIN := Lib.hid (HB.out.trans (hb.mono HB.out.size))
    clear hb k0 k1 k2 k3
    go_wp2_with fail
    refine bodyPost_ret (v := .tuple #[.slice none 0 0, .int .i64 1]) (by simp [results, Try.results30, go_sem]) rfl ?_
    exact ⟨by rw [HE.out], HFIN.out⟩
  · have HU1 := Lib.hid (HUS.out s a1 n1 c1 w0 true (decide_eq_true (by omega)) HR0.out)
    by_cases h2 : n2 = 0
    · have HE : Hid (E = 1) := by rcases h with h | h <;> first | exact h.1 | (exfalso; omega)
      have HU2 := Lib.hid (fun W' => HUS.out s2 a2 n2 c2 W' false (decide_eq_false (by omega)))
      clear h h1 h2
      go_wp2_with fail
      refine HU1.out.mono ?_
      rintro e w2 ⟨rfl, hb⟩
      have HR2 := Lib.hid hb
      clear hb k0 k1 k2 k3
      obtain ⟨k0, k1, k2, k3⟩ := HALL.out w2 HR2.out
      go_wp2_with fail
      refine (HU2.out _ HR2.out).mono ?_
      rintro e w3 ⟨rfl, hb⟩
      have HFIN := Lib.hid (HB.out.trans (hb.mono HB.out.size))
      clear hb k0 k1 k2 k3
      go_wp2_with fail
      refine bodyPost_ret (v := .tuple #[.slice none 0 0, .int .i64 1]) (by simp [results, Try.results30, go_sem]) rfl ?_
      exact ⟨by rw [HE.out], HFIN.out⟩
    · have HE : Hid (E = 2 ∧ s ≠ s2) := by rcases h with h | h <;> first | exact ⟨h.1, h.2.2.2⟩ | (exfalso; omega)
      have HU2 := Lib.hid (fun W' => HUS.out s2 a2 n2 c2 W' true (decide_eq_true (by omega)))
      have hne : (s == s2) = false := beq_eq_false_iff_ne.2 HE.out.2
      clear h h1 h2
      go_wp2_with fail
      refine HU1.out.mono ?_
      rintro e w2 ⟨rfl, hb⟩
      have HR2 := Lib.hid hb
      clear hb k0 k1 k2 k3
      obtain ⟨k0, k1, k2, k3⟩ := HALL.out w2 HR2.out
      go_wp2_with fail
      refine (HU2.out _ HR2.out).mono ?_
      rintro e w3 ⟨rfl, hb⟩
      have HR3 := Lib.hid hb
      have HFIN := Lib.hid (HB.out.trans (hb.mono HB.out.size))
      clear hb k0 k1 k2 k3
      obtain ⟨k0, k1, k2, k3⟩ := HALL.out w3 HR3.out
      go_wp2_with fail
      refine bodyPost_ret (v := .tuple #[.slice none 0 0, .int .i64 2]) (by simp [results, Try.results30, go_sem]) rfl ?_
      exact ⟨by rw [HE.out.1], HFIN.out⟩
end Go.Proofs.Ytjbenhmpeceaeaa
namespace Go.Proofs.Ytjbenhmpeceaeaa
open Go Go.RowKit Gs

end Go.Proofs.Ytjbenhmpeceaeaa
namespace Go.Proofs.Ytjbenhmpeceaeaa
open Go Go.RowKit Gs

theorem Diff_same {f g : Int → Int} {size : Int} {W : World} {p q : Option Addr} {La Lb : List R} {N : Nat} (h : IsM f size W p) (h' : IsM g size W q) (ha : Gs.Can f 0 La size) (hb : Gs.Can g 0 Lb size) (hN : N = (diffE La Lb).length) :
    Calls Try.prog 29 #[.agg #[.pointer p, .int .i64 size], .agg #[.pointer q, .int .i64 size]] W fun e w' => ∃ a c, e = .returned (.tuple #[.slice a N c, .int .i64 0]) ∧ Hid (IsCs w' (.slice a N c) (diffE La Lb)) ∧ Below W.heap.size W w' := by
  obtain ⟨La', Lb', h1, h2, h3⟩ := Diff_any h h'
  have e1 := h1.same ha
  have e2 := h2.same hb
  subst e1; subst e2; subst hN
  refine h3.mono ?_
  rintro e w' ⟨v, he, hr, hB⟩
  have hc := IsCs.of_row hr.out
  have hc2 := hc
  obtain ⟨a, c, rfl, -⟩ := hc
  exact ⟨a, c, he, hc2, hB⟩
theorem Apply_same {f g : Int → Int} {size : Int} {W : World} {p a : Option Addr} {c : Nat} {l : List Ch} (h : IsM f size W p) (hl : IsCs W (.slice a l.length c) l) (hn : l.length ≤ 100000) (hg : apF size f l = (0, g)) {N : Nat} (hN : N = l.length) :
    Calls Try.prog 34 #[.agg #[.pointer p, .int .i64 size], .slice a N c] W fun e w' => ∃ q, e = .returned (.tuple #[.agg #[.pointer q, .int .i64 size], .int .i64 0]) ∧ Hid (IsM g size w' q) ∧ Below W.heap.size W w' := by
  subst hN
  refine (Apply_any h hl hn).mono ?_
  rintro e w' ⟨q, s, e2, rfl, hp, hB⟩
  obtain ⟨h1, h2⟩ := hp.out
  rw [hg] at h1 h2
  have h1 : e2 = 0 := h1
  subst h1
  rcases h2 with ⟨h3, _⟩ | ⟨_, rfl, h4⟩
  · exact absurd rfl h3
  · exact ⟨q, rfl, h4, hB⟩
theorem Equal_true {f g : Int → Int} {size : Int} {W : World} {p q : Option Addr} (h : IsM f size W p) (h' : IsM g size W q) (he : ∀ x, 0 ≤ x → x < size → f x = g x) :
    Calls Try.prog 32 #[.agg #[.pointer p, .int .i64 size], .agg #[.pointer q, .int .i64 size]] W fun e w' => e = .returned (.bool true) ∧ Below W.heap.size W w' := by
  obtain ⟨La, Lb, h1, h2, h3⟩ := Equal_any h h'
  refine h3.mono ?_
  rintro e w' ⟨b, rfl, hb, hB⟩
  have := hb.out.2 ((h1.congr he).same h2)
  subst this
  exact ⟨rfl, hB⟩
theorem Equal_same {f g : Int → Int} {size : Int} {W : World} {p q : Option Addr} {La Lb : List R} {E : Bool} (h : IsM f size W p) (h' : IsM g size W q) (ha : Gs.Can f 0 La size) (hb : Gs.Can g 0 Lb size) (he : E = true ↔ La = Lb) :
    Calls Try.prog 32 #[.agg #[.pointer p, .int .i64 size], .agg #[.pointer q, .int .i64 size]] W fun e w' => e = .returned (.bool E) ∧ Below W.heap.size W w' := by
  obtain ⟨La', Lb', h1, h2, h3⟩ := Equal_any h h'
  have e1 := h1.same ha
  have e2 := h2.same hb
  subst e1; subst e2
  refine h3.mono ?_
  rintro e w' ⟨b, rfl, hb, hB⟩
  have : b = E := by
    have h9 := hb.out.trans he.symm
    cases b <;> cases E <;> simp_all
  subst this
  exact ⟨rfl, hB⟩
end Go.Proofs.Ytjbenhmpeceaeaa
namespace Go.Proofs.Ytjbenhmpeceaeaa
open Go Go.RowKit Gs

theorem rl_len {f g : Int → Int} {lb : List R} {size : Int} (hb : Fits g 0 lb size) : ∀ {la : List R} {a : Int}, Fits f a la size → (rl la lb).length ≤ (clip a size lb).length + la.length
  | [], _, _ => Nat.zero_le _
  | x :: la, a, h => by
    have e1 := h.1; have e2 := h.2.1; have e4 := h.2.2.2
    have hle := e4.le
    have ih := rl_len hb e4
    have hc := clip_cut (lo := x.lo) (m := x.hi) (hi := size) (by omega) hle hb
    show ((clip x.lo x.hi lb).map (fun r => (⟨r.lo, r.hi, 16 * x.tag + r.tag⟩ : R)) ++ rl la lb).length ≤ _
    rw [List.length_append, List.length_map, List.length_cons, ← e1]
    omega
theorem dec_len (K : List R) : (dec K).length ≤ K.length := by
  unfold dec
  rw [List.length_map]
  exact List.length_filter_le _ _
theorem diff_len {f g : Int → Int} {la lb : List R} {size : Int} (ha : Gs.Can f 0 la size) (hb : Gs.Can g 0 lb size) (cf : Ctx f 0 size) (cg : Ctx g 0 size) : (diffE la lb).length ≤ lb.length + la.length := by
  rw [diff_dec (fits_tags hb.1 cg.2.2) (fits_tags ha.1 cf.2.2)]
  have h1 := dec_len (rl la lb)
  have h2 := rl_len hb.1 ha.1
  have h3 := clip_len 0 size lb
  omega
theorem cs_nil (W : World) : IsCs W (.slice none 0 0) [] := ⟨none, 0, rfl, fun h => absurd h (by simp)⟩
theorem rs_nil (B : Nat) (W : World) : IsRs B W (.slice none 0 0) [] := ⟨none, 0, rfl, fun h => absurd h (by simp)⟩
/-- the two Diffs agree; Equal and Same agree, whichever map comes first -/
theorem both_Diff {W : World} {p q : Option Addr} {z z2 s s2 : Int} {a1 a2 : Option Addr} {n1 c1 n2 c2 : Nat} (hp : Dual 0 W p z s (.slice a1 n1 c1)) (hq : Dual 0 W q z2 s2 (.slice a2 n2 c2)) : ∃ (code : Int) (D : List Ch) (E : Bool), D.length ≤ 100000 ∧
    Hid (∀ W', Below W.heap.size W W' → Calls Try.prog 29 #[.agg #[.pointer p, .int .i64 z], .agg #[.pointer q, .int .i64 z2]] W' fun e w' => ∃ a n c, e = .returned (.tuple #[.slice a n c, .int .i64 code]) ∧ Hid (IsCs w' (.slice a n c) D) ∧ Below W'.heap.size W' w') ∧
    Hid (∀ W', Below W.heap.size W W' → Calls Try.prog 30 #[.agg #[.int .i64 s, .slice a1 n1 c1], .agg #[.int .i64 s2, .slice a2 n2 c2]] W' fun e w' => ∃ a n c, e = .returned (.tuple #[.slice a n c, .int .i64 code]) ∧ Hid (IsCs w' (.slice a n c) D) ∧ Below W'.heap.size W' w') ∧
    Hid (∀ W', Below W.heap.size W W' → Calls Try.prog 32 #[.agg #[.pointer p, .int .i64 z], .agg #[.pointer q, .int .i64 z2]] W' fun e w' => e = .returned (.bool E) ∧ Below W'.heap.size W' w') ∧
    Hid (∀ W', Below W.heap.size W W' → Calls Try.prog 32 #[.agg #[.pointer q, .int .i64 z2], .agg #[.pointer p, .int .i64 z]] W' fun e w' => e = .returned (.bool E) ∧ Below W'.heap.size W' w') ∧
    Hid (∀ W', Below W.heap.size W W' → Calls Try.prog 32 #[.agg #[.pointer p, .int .i64 z], .agg #[.pointer p, .int .i64 z]] W' fun e w' => e = .returned (.bool true) ∧ Below W'.heap.size W' w') ∧
    Hid (∀ W', Below W.heap.size W W' → Calls Try.prog 33 #[.agg #[.int .i64 s, .slice a1 n1 c1], .agg #[.int .i64 s2, .slice a2 n2 c2]] W' fun e w' => e = .returned (.bool E) ∧ Below W'.heap.size W' w') := by
  rcases hp with ⟨rfl, rfl, rfl, hv⟩ | ⟨f, La, hf, hLa, hrs, rfl⟩
  · injection hv with h1 h2 h3
    subst h1; subst h2; subst h3
    rcases hq with ⟨rfl, rfl, rfl, hv⟩ | ⟨g, Lb, hg, hLb, hrs2, rfl⟩
    · injection hv with h1 h2 h3
      subst h1; subst h2; subst h3
      refine ⟨1, [], true, by simp, fun W' h => ?_, fun W' h => ?_, fun W' h => Equal_un none 0 W', fun W' h => Equal_un none 0 W', fun W' h => Equal_un none 0 W', fun W' h => ?_⟩
      · exact (Diff_un (none, 0) (none, 0) W' (.inl rfl)).mono fun e w' ⟨he, hB⟩ => ⟨_, _, _, he, cs_nil _, hB⟩
      · exact (RDiff_no 0 0 none none 0 0 0 0 1 W' (.inl ⟨rfl, .inl rfl⟩)).mono fun e w' ⟨he, hB⟩ => ⟨_, _, _, he, cs_nil _, hB⟩
      · exact (RSame_any (E := true) (rs_nil 0 W') (rs_nil 0 W') (by simp) (by simp) (by simp)).mono fun e w' ⟨he, hB⟩ => ⟨he, hB.out⟩
    · obtain ⟨bq, rfl⟩ := hg.some
      have hz := hg.lo
      obtain ⟨K, hK, hk⟩ := hg.can
      have := hK.same hLb
      subst this
      refine ⟨1, [], false, by simp, fun W' h => ?_, fun W' h => ?_, fun W' h => Equal_ne _ _ _ _ _ (by omega), fun W' h => Equal_ne _ _ _ _ _ (by omega), fun W' h => Equal_un none 0 W', fun W' h => ?_⟩
      · exact (Diff_un (none, 0) (some bq, s2) W' (.inl rfl)).mono fun e w' ⟨he, hB⟩ => ⟨_, _, _, he, cs_nil _, hB⟩
      · exact (RDiff_no 0 s2 none a2 0 0 n2 c2 1 W' (.inl ⟨rfl, .inl rfl⟩)).mono fun e w' ⟨he, hB⟩ => ⟨_, _, _, he, cs_nil _, hB⟩
      · exact (RSame_any (E := false) (rs_nil 0 W') (hrs2.below h) (by simp) (by omega) ⟨fun h9 => by (cases h9), fun h9 => absurd h9.1 (by omega)⟩).mono fun e w' ⟨he, hB⟩ => ⟨he, hB.out⟩
  · obtain ⟨bp, rfl⟩ := hf.some
    have hz := hf.lo
    obtain ⟨K, hK, hk⟩ := hf.can
    have := hK.same hLa
    subst this
    have hEE : Hid (∀ W', Below W.heap.size W W' → Calls Try.prog 32 #[.agg #[.pointer (some ⟨bp, 0, none⟩), .int .i64 s], .agg #[.pointer (some ⟨bp, 0, none⟩), .int .i64 s]] W' fun e w' => e = .returned (.bool true) ∧ Below W'.heap.size W' w') := fun W' h => Equal_true (hf.below h) (hf.below h) fun _ _ _ => rfl
    rcases hq with ⟨rfl, rfl, rfl, hv⟩ | ⟨g, Lb, hg, hLb, hrs2, rfl⟩
    · injection hv with h1 h2 h3
      subst h1; subst h2; subst h3
      refine ⟨1, [], false, by simp, fun W' h => ?_, fun W' h => ?_, fun W' h => Equal_ne _ _ _ _ _ (by omega), fun W' h => Equal_ne _ _ _ _ _ (by omega), hEE, fun W' h => ?_⟩
      · exact (Diff_un (some bp, s) (none, 0) W' (.inr rfl)).mono fun e w' ⟨he, hB⟩ => ⟨_, _, _, he, cs_nil _, hB⟩
      · exact (RDiff_no s 0 a1 none n1 c1 0 0 1 W' (.inl ⟨rfl, .inr rfl⟩)).mono fun e w' ⟨he, hB⟩ => ⟨_, _, _, he, cs_nil _, hB⟩
      · exact (RSame_any (E := false) (hrs.below h) (rs_nil 0 W') (by omega) (by simp) ⟨fun h9 => by (cases h9), fun h9 => absurd h9.1 (by omega)⟩).mono fun e w' ⟨he, hB⟩ => ⟨he, hB.out⟩
    · obtain ⟨bq, rfl⟩ := hg.some
      have hz2 := hg.lo
      obtain ⟨K2, hK2, hk2⟩ := hg.can
      have := hK2.same hLb
      subst this
      have hne : ∀ {h : Int → Int} {L : List R} {z : Int}, Gs.Can h 0 L z → 1 ≤ z → 0 < L.length := fun h hz => by
        rcases fits_cut h.1 with ⟨_, e⟩ | ⟨r, k, rfl⟩
        · omega
        · simp
      have hp1 := hne hLa hz
      have hp2 := hne hLb hz2
      by_cases hzz : s = s2
      · subst hzz
        obtain ⟨E, hE⟩ : ∃ E : Bool, E = decide (K = K2) := ⟨_, rfl⟩
        have hE2 : E = true ↔ K = K2 := by rw [hE]; simp
        have hE3 : E = true ↔ K2 = K := by rw [hE2]; exact eq_comm
        have hdl := diff_len hLa hLb hf.ctx hg.ctx
        refine ⟨0, diffE K K2, E, by omega, fun W' h => ?_, fun W' h => ?_, fun W' h => Equal_same (hf.below h) (hg.below h) hLa hLb hE2, fun W' h => Equal_same (hg.below h) (hf.below h) hLb hLa hE3, hEE, fun W' h => ?_⟩
        · exact (Diff_same (hf.below h) (hg.below h) hLa hLb rfl).mono fun e w' ⟨a, c, he, hc, hB⟩ => ⟨_, _, _, he, hc, hB⟩
        · refine (RDiff_ok (hrs.below h) (hrs2.below h) hLa hLb hf.ctx hg.ctx hz hk hk2).mono ?_
          rintro e w' ⟨v, he, hr, hB⟩
          have hc := IsCs.of_row hr.out
          have hc2 := hc
          obtain ⟨a, c, rfl, -⟩ := hc
          exact ⟨a, _, c, he, hc2, hB⟩
        · exact (RSame_any (E := E) (hrs.below h) (hrs2.below h) (by omega) (by omega) (by rw [hE2]; simp)).mono fun e w' ⟨he, hB⟩ => ⟨he, hB.out⟩
      · have e1 : n1 = K.length := by obtain ⟨_, _, hv, _⟩ := hrs; injection hv
        have e2 : n2 = K2.length := by obtain ⟨_, _, hv, _⟩ := hrs2; injection hv
        refine ⟨2, [], false, by simp, fun W' h => ?_, fun W' h => ?_, fun W' h => Equal_ne _ _ _ _ _ hzz, fun W' h => Equal_ne _ _ _ _ _ (fun e => hzz e.symm), hEE, fun W' h => ?_⟩
        · exact (Diff_ne bp bq s s2 W' (fun e => hzz e.symm)).mono fun e w' ⟨he, hB⟩ => ⟨_, _, _, he, cs_nil _, hB⟩
        · exact (RDiff_no s s2 a1 a2 n1 c1 n2 c2 2 W' (.inr ⟨rfl, by omega, by omega, hzz⟩)).mono fun e w' ⟨he, hB⟩ => ⟨_, _, _, he, cs_nil _, hB⟩
        · exact (RSame_any (E := false) (hrs.below h) (hrs2.below h) (by omega) (by omega) ⟨fun h9 => by (cases h9), fun h9 => absurd h9.1 hzz⟩).mono fun e w' ⟨he, hB⟩ => ⟨he, hB.out⟩
end Go.Proofs.Ytjbenhmpeceaeaa
namespace Go.Proofs.Ytjbenhmpeceaeaa
open Go Go.RowKit Gs

set_option maxRecDepth 100000 in
set_option maxHeartbeats 4000000 in
theorem spanDiffs_walk (size other : Int) (v : Value) (l : List Act) (v2 : Value) (k : List Act) (W : World) (hl : IsAs W v l) (hk : IsAs W v2 k) :
    Calls Try.prog 6 #[.int .i64 size, .int .i64 other, v, v2] W fun e w' => e = .returned (.bool true) ∧ Below W.heap.size W w' := by
  have HAW := Lib.hid (fun W' => awake_any W')
  have HAS := Lib.hid hl; have HBS := Lib.hid hk
  obtain ⟨ao, c, rfl, -⟩ := hl
  obtain ⟨bo, d, rfl, -⟩ := hk
  obtain ⟨n, hnn⟩ : ∃ n, n = l.length := ⟨_, rfl⟩
  obtain ⟨m, hmm⟩ : ∃ m, m = k.length := ⟨_, rfl⟩
  have HN := Lib.hid hnn; have HM := Lib.hid hmm
  rw [← hnn] at HAS ⊢
  rw [← hmm] at HBS ⊢
  have HFEW : Hid (∀ a n c W' (b : Bool), decide (n ≤ 60) = b → Calls Try.prog 11 #[.slice a n c] W' fun e w' => e = .returned (.bool b) ∧ W' = w') := fun a n c W' b hb => by
    have := few_any a n c W'
    rwa [hb] at this
  clear hnn hmm
  by_cases hf : n ≤ 60
  · have HF1 := Lib.hid (fun W' => HFEW.out ao n c W' true (decide_eq_true hf))
    by_cases hg : m ≤ 60
    · have HF2 := Lib.hid (fun W' => HFEW.out bo m d W' true (decide_eq_true hg))
      have HPL := Lib.hid (played_any (size := size) HAS.out (by have := HN.out; omega))
      have HPK := Lib.hid (fun W' (h : Below W.heap.size W W') => played_any (size := other) (HBS.out.below h) (by have := HM.out; omega))
      clear hf hg HFEW
      go_enter Try.func6, Try.ntmps6
      go_wp2_with fail
      refine (HF1.out _).mono ?_
      rintro e w1 ⟨rfl, rfl⟩
      go_wp2_with fail
      refine (HF2.out _).mono ?_
      rintro e w1 ⟨rfl, rfl⟩
      go_wp2_with fail
      refine HPL.out.mono ?_
      rintro e w2 ⟨p, z, s, v', rfl, hd, hb⟩
      obtain ⟨va, vn, vc, rfl⟩ := hd.out.shape
      obtain ⟨w3, HW3⟩ : ∃ w3, w3 = (w2.alloc (.cells #[.pointer p, .int .i64 z] 27)).alloc (.cells #[.int .i64 s, .slice va vn vc] 33) := ⟨_, rfl⟩
      have b3 : Below w2.heap.size w2 w3 := by rw [HW3]; exact (alloc_below _ _).alloc (by simp) _
      have n2 : Bx w2.heap.size [.pointer p, .int .i64 z] w3 := by rw [HW3]; exact (Bx.new w2 [.pointer p, .int .i64 z] 27 (by simp)).next (alloc_below _ _)
      have n3 : Bx (w2.heap.size + 1) [.int .i64 s, .slice va vn vc] w3 := by
        have := Bx.new (w2.alloc (.cells #[.pointer p, .int .i64 z] 27)) [.int .i64 s, .slice va vn vc] 33 (by simp)
        rw [World.size_alloc, ← HW3] at this
        exact this
      have HD3 := Lib.hid (hd.out.below b3)
      have b03 := hb.trans (b3.mono hb.size)
      have G2 := Lib.hid n2; have G3 := Lib.hid n3
      have HB3 := Lib.hid b03
      have HW3' := Lib.hid HW3
      clear hb HW3 b3 n2 n3 hd b03
      go_upto_region 4 with fail
      rw [← HW3'.out]
      clear HW3'
      go_wp2_with fail
      refine (HPK.out w3 HB3.out).mono ?_
      rintro e w4 ⟨q, z2, s2, v2', rfl, hd, hb⟩
      obtain ⟨ua, un, uc, rfl⟩ := hd.out.shape
      obtain ⟨w5, HW5⟩ : ∃ w5, w5 = (w4.alloc (.cells #[.pointer q, .int .i64 z2] 27)).alloc (.cells #[.int .i64 s2, .slice ua un uc] 33) := ⟨_, rfl⟩
      have b5 : Below w4.heap.size w4 w5 := by rw [HW5]; exact (alloc_below _ _).alloc (by simp) _
      have n4 : Bx w4.heap.size [.pointer q, .int .i64 z2] w5 := by rw [HW5]; exact (Bx.new w4 [.pointer q, .int .i64 z2] 27 (by simp)).next (alloc_below _ _)
      have n5 : Bx (w4.heap.size + 1) [.int .i64 s2, .slice ua un uc] w5 := by
        have := Bx.new (w4.alloc (.cells #[.pointer q, .int .i64 z2] 27)) [.int .i64 s2, .slice ua un uc] 33 (by simp)
        rw [World.size_alloc, ← HW5] at this
        exact this
      have b35 := hb.trans (b5.mono hb.size)
      have L2 := Lib.hid (G2.out.next b35); have L3 := Lib.hid (G3.out.next b35); have L4 := Lib.hid n4; have L5 := Lib.hid n5
      have HDP := Lib.hid (HD3.out.below b35); have HDQ := Lib.hid (hd.out.below b5)
      have HB5 := Lib.hid (HB3.out.trans (b35.mono HB3.out.size))
      have HW5' := Lib.hid HW5
      clear hb HW5 b5 n4 n5 hd b35 G2 G3 HD3 HB3
      obtain ⟨code, D, E, hD, HDF, HRD, HE1, HE2, HE3, HSM⟩ := both_Diff HDP.out HDQ.out
      have HDL := Lib.hid hD
      have HALL : Hid (∀ W', Below w5.heap.size w5 W' → (W'.cell? ⟨w2.heap.size, 0, none⟩ = some (.pointer p) ∧ W'.cell? ⟨w2.heap.size, 1, none⟩ = some (.int .i64 z)) ∧ (W'.cell? ⟨w2.heap.size + 1, 0, none⟩ = some (.int .i64 s) ∧ W'.cell? ⟨w2.heap.size + 1, 1, none⟩ = some (.slice va vn vc)) ∧ (W'.cell? ⟨w4.heap.size, 0, none⟩ = some (.pointer q) ∧ W'.cell? ⟨w4.heap.size, 1, none⟩ = some (.int .i64 z2)) ∧ (W'.cell? ⟨w4.heap.size + 1, 0, none⟩ = some (.int .i64 s2) ∧ W'.cell? ⟨w4.heap.size + 1, 1, none⟩ = some (.slice ua un uc))) := fun W' h =>
        ⟨⟨(L2.out.next h).c2.1, (L2.out.next h).c2.2.1⟩, ⟨(L3.out.next h).c2.1, (L3.out.next h).c2.2.1⟩, ⟨(L4.out.next h).c2.1, (L4.out.next h).c2.2.1⟩, ⟨(L5.out.next h).c2.1, (L5.out.next h).c2.2.1⟩⟩
      clear hD HDP HDQ L2 L3 L4 L5 HPL HPK HF1 HF2 HAS HBS HN HM
      go_upto_region 5 with fail
      rw [← HW5'.out]
      clear HW5'
      have HR5 : Hid (Below w5.heap.size w5 w5) := Below.refl _ _
      obtain ⟨⟨a0, a1⟩, ⟨a2, a3⟩, ⟨a4, a5⟩, ⟨a6, a7⟩⟩ := HALL.out _ HR5.out
      go_wp2_with fail
      refine (HDF.out _ HR5.out).mono ?_
      rintro e w6 ⟨da, dn, dc, rfl, HC6, hb⟩
      have HR6 := Lib.hid hb
      clear hb a0 a1 a2 a3 a4 a5 a6 a7
      obtain ⟨⟨a0, a1⟩, ⟨a2, a3⟩, ⟨a4, a5⟩, ⟨a6, a7⟩⟩ := HALL.out _ HR6.out
      go_wp2_with fail
      refine (HRD.out _ HR6.out).mono ?_
      rintro e w7 ⟨ea, en, ec, rfl, HC7, hb⟩
      have HR7 := Lib.hid (HR6.out.trans (hb.mono HR6.out.size))
      have HC6' := Lib.hid (HC6.out.below hb)
      clear hb a0 a1 a2 a3 a4 a5 a6 a7 HC6
      have HCH : Hid (∀ W', Below w7.heap.size w7 W' → Calls Try.prog 31 #[.slice da dn dc, .slice ea en ec] W' fun e w' => e = .returned (.bool true) ∧ Below w7.heap.size w7 w') := fun W' h => (RChanged_same (HC6'.out.below h) (HC7.out.below h) HDL.out).mono fun e w' ⟨he, hB⟩ => ⟨he, h.trans (hB.out.mono h.size)⟩
      have HX1 : Hid (∀ W', Below w7.heap.size w7 W' → Calls Try.prog 32 #[.agg #[.pointer p, .int .i64 z], .agg #[.pointer q, .int .i64 z2]] W' fun e w' => e = .returned (.bool E) ∧ Below w7.heap.size w7 w') := fun W' h => (HE1.out W' (HR7.out.trans (h.mono HR7.out.size))).mono fun e w' ⟨he, hB⟩ => ⟨he, h.trans (hB.mono h.size)⟩
      have HX2 : Hid (∀ W', Below w7.heap.size w7 W' → Calls Try.prog 32 #[.agg #[.pointer q, .int .i64 z2], .agg #[.pointer p, .int .i64 z]] W' fun e w' => e = .returned (.bool E) ∧ Below w7.heap.size w7 w') := fun W' h => (HE2.out W' (HR7.out.trans (h.mono HR7.out.size))).mono fun e w' ⟨he, hB⟩ => ⟨he, h.trans (hB.mono h.size)⟩
      have HX3 : Hid (∀ W', Below w7.heap.size w7 W' → Calls Try.prog 32 #[.agg #[.pointer p, .int .i64 z], .agg #[.pointer p, .int .i64 z]] W' fun e w' => e = .returned (.bool true) ∧ Below w7.heap.size w7 w') := fun W' h => (HE3.out W' (HR7.out.trans (h.mono HR7.out.size))).mono fun e w' ⟨he, hB⟩ => ⟨he, h.trans (hB.mono h.size)⟩
      have HX4 : Hid (∀ W', Below w7.heap.size w7 W' → Calls Try.prog 33 #[.agg #[.int .i64 s, .slice va vn vc], .agg #[.int .i64 s2, .slice ua un uc]] W' fun e w' => e = .returned (.bool E) ∧ Below w7.heap.size w7 w') := fun W' h => (HSM.out W' (HR7.out.trans (h.mono HR7.out.size))).mono fun e w' ⟨he, hB⟩ => ⟨he, h.trans (hB.mono h.size)⟩
      have HX5 : Hid (∀ W', Below w7.heap.size w7 W' → Calls Try.prog 12 #[] W' fun e w' => e = .returned (.bool true) ∧ Below w7.heap.size w7 w') := fun W' h => (HAW.out W').mono fun e w' ⟨he, hB⟩ => ⟨he, h.trans (hB.mono h.size)⟩
      have HAL7 : Hid (∀ W', Below w7.heap.size w7 W' → (W'.cell? ⟨w2.heap.size, 0, none⟩ = some (.pointer p) ∧ W'.cell? ⟨w2.heap.size, 1, none⟩ = some (.int .i64 z) ∧ W'.cell? ⟨w2.heap.size + 1, 0, none⟩ = some (.int .i64 s) ∧ W'.cell? ⟨w2.heap.size + 1, 1, none⟩ = some (.slice va vn vc) ∧ W'.cell? ⟨w4.heap.size, 0, none⟩ = some (.pointer q) ∧ W'.cell? ⟨w4.heap.size, 1, none⟩ = some (.int .i64 z2) ∧ W'.cell? ⟨w4.heap.size + 1, 0, none⟩ = some (.int .i64 s2) ∧ W'.cell? ⟨w4.heap.size + 1, 1, none⟩ = some (.slice ua un uc))) := fun W' h => by
        obtain ⟨⟨a0, a1⟩, ⟨a2, a3⟩, ⟨a4, a5⟩, ⟨a6, a7⟩⟩ := HALL.out _ (HR7.out.trans (h.mono HR7.out.size))
        exact ⟨a0, a1, a2, a3, a4, a5, a6, a7⟩
      have HB7 := Lib.hid (HB5.out.trans (HR7.out.mono HB5.out.size))
      clear HDF HRD HE1 HE2 HE3 HSM HALL HR5 HR6 HR7 HC6' HC7 HDL HAW HB5
      have hs : Below w7.heap.size w7 w7 := Below.refl _ _
      have hs2 := hs.drew
      have hcl := HAL7.out _ hs2
      have hc0 := HAL7.out _ hs
      go_wp2_with fail
      go_region_held3 (fun W' : World => W'.cell? ⟨w2.heap.size, 0, none⟩ = some (.pointer p) ∧ W'.cell? ⟨w2.heap.size, 1, none⟩ = some (.int .i64 z) ∧ W'.cell? ⟨w2.heap.size + 1, 0, none⟩ = some (.int .i64 s) ∧ W'.cell? ⟨w2.heap.size + 1, 1, none⟩ = some (.slice va vn vc) ∧ W'.cell? ⟨w4.heap.size, 0, none⟩ = some (.pointer q) ∧ W'.cell? ⟨w4.heap.size, 1, none⟩ = some (.int .i64 z2) ∧ W'.cell? ⟨w4.heap.size + 1, 0, none⟩ = some (.int .i64 s2) ∧ W'.cell? ⟨w4.heap.size + 1, 1, none⟩ = some (.slice ua un uc)) (first | assumption | fail) (first
        | (go_at_call 31; with_reducible refine (HCH.out _ ?h).mono ?_; (case h => assumption); rintro e w' ⟨rfl, hs1'⟩; have hc1' := HAL7.out _ hs1')
        | (go_at_call 32; with_reducible refine (HX1.out _ ?h).mono ?_; (case h => assumption); rintro e w' ⟨rfl, hs2'⟩; have hc2' := HAL7.out _ hs2')
        | (go_at_call 32; with_reducible refine (HX2.out _ ?h).mono ?_; (case h => assumption); rintro e w' ⟨rfl, hs3'⟩; have hc3' := HAL7.out _ hs3')
        | (go_at_call 32; with_reducible refine (HX3.out _ ?h).mono ?_; (case h => assumption); rintro e w' ⟨rfl, hs4'⟩; have hc4' := HAL7.out _ hs4')
        | (go_at_call 33; with_reducible refine (HX4.out _ ?h).mono ?_; (case h => assumption); rintro e w' ⟨rfl, hs5'⟩; have hc5' := HAL7.out _ hs5')
        | (go_at_call 12; with_reducible refine (HX5.out _ ?h).mono ?_; (case h => assumption); rintro e w' ⟨rfl, hs6'⟩; have hc6' := HAL7.out _ hs6') | fail)
      have HF := Lib.hid (HB7.out.trans (hs6'.mono HB7.out.size))
      clear hs hs2 hcl hc0 hs1' hc1' hs2' hc2' hs3' hc3' hs4' hc4' hs5' hc5' hs6' hc6'
      go_wp2_with fail
      go_ret
      exact ⟨rfl, HF.out⟩
    · have HF2 := Lib.hid (fun W' => HFEW.out bo m d W' false (decide_eq_false hg))
      clear hf hg HFEW
      go_enter Try.func6, Try.ntmps6
      go_wp2_with fail
      refine (HF1.out _).mono ?_
      rintro e w1 ⟨rfl, rfl⟩
      go_wp2_with fail
      refine (HF2.out _).mono ?_
      rintro e w1 ⟨rfl, rfl⟩
      go_wp2_with fail
      refine (HAW.out _).mono ?_
      rintro e w2 ⟨rfl, hb⟩
      have HB2 := Lib.hid hb
      clear hb
      go_wp2_with fail
      go_ret
      exact ⟨rfl, HB2.out⟩
  · have HF1 := Lib.hid (fun W' => HFEW.out ao n c W' false (decide_eq_false hf))
    clear hf HFEW
    go_enter Try.func6, Try.ntmps6
    go_wp2_with fail
    refine (HF1.out _).mono ?_
    rintro e w1 ⟨rfl, rfl⟩
    go_wp2_with fail
    refine (HAW.out _).mono ?_
    rintro e w2 ⟨rfl, hb⟩
    have HB2 := Lib.hid hb
    clear hb
    go_wp2_with fail
    go_ret
    exact ⟨rfl, HB2.out⟩
end Go.Proofs.Ytjbenhmpeceaeaa
namespace Go.Proofs.Ytjbenhmpeceaeaa
open Go Go.ChangeShapes Go.WideShapes Go.ChangeAt Go.RowKit Gs
set_option linter.unusedVariables false

set_option maxRecDepth 100000 in
theorem spanDiffs_lifted (os : Os) (started : os.Started) (H : Type) (enc : TypeId × Value → H) :
    ReturnsInHanded {} Try.checked os 6 .any (Rows.spanDiffsSpec.pre6 enc Try.prog Try.f6 Rows.spanDiffsRow.domain false) (Rows.spanDiffsSpec.post enc Try.prog Try.f6 false true false false) := by
  refine returnsInHanded_of_change (C := Try.checked) own started (by kernel_rfl) Try.func6
    (ChangeSpec.witness6 (enc := enc) (C := Try.checked) false ⟨#[], #[.int .i64 0, .int .i64 0, .slice none 0 0, .slice none 0 0], []⟩ 8 (by kernel_rfl) (by kernel_rfl) (by kernel_rfl) (by kernel_rfl)) ?_
  intro W base args ds gs before hval0 hW hcnd _
  have hval : ∀ (j : Nat) t v, Try.f6.params[j]? = some t → args[j]? = some v → Value.okWide Try.prog W .any base t v := hval0
  have hW' := hW
  obtain ⟨p, q, hA0, hV, rfl, hfz, hnd⟩ := hW
  have hA : DataW.TrodAll enc Try.prog W 0 (fun _ => true) true Try.f6.params.toList args.toList ds p := hA0
  rw [Try.params6] at hA hval
  obtain ⟨v0, vs0, d0, ds0, p0, q0, hargs, rfl, rfl, h0, r0⟩ := trodAll_cons hA
  obtain ⟨v1, vs1, d1, ds1, p1, q1, rfl, rfl, rfl, h1, r1⟩ := trodAll_cons r0
  obtain ⟨v2, vs2, d2, ds2, p2, q2, rfl, rfl, rfl, h2, r2⟩ := trodAll_cons r1
  obtain ⟨v3, vs3, d3, ds3, p3, q3, rfl, rfl, rfl, h3, r3⟩ := trodAll_cons r2
  obtain ⟨rfl, rfl, rfl⟩ := trodAll_nil r3
  obtain rfl : args = #[v0, v1, v2, v3] := by cases args; simp_all
  obtain ⟨rfl, rfl⟩ := trodVars_none hV
  have k0 := h0
  have lt0 : ∀ x ∈ p0, x.block < W.heap.size := by obtain ⟨m, hm⟩ := k0; exact DataW.trod_lt m _ _ _ hm
  obtain ⟨i0, rfl, rfl, rfl, w0⟩ := open_int Try.underlying3 (hval 0 3 v0 rfl rfl) h0
  have k1 := h1
  have lt1 : ∀ x ∈ p1, x.block < W.heap.size := by obtain ⟨m, hm⟩ := k1; exact DataW.trod_lt m _ _ _ hm
  obtain ⟨i1, rfl, rfl, rfl, w1⟩ := open_int Try.underlying3 (hval 1 3 v1 rfl rfl) h1
  have k2 := h2
  have lt2 : ∀ x ∈ p2, x.block < W.heap.size := by obtain ⟨m, hm⟩ := k2; exact DataW.trod_lt m _ _ _ hm
  obtain ⟨l2, hl2⟩ := acts_of h2 (okWide_slice Try.underlying22 (hval 2 22 v2 rfl rfl))
  have k3 := h3
  have lt3 : ∀ x ∈ p3, x.block < W.heap.size := by obtain ⟨m, hm⟩ := k3; exact DataW.trod_lt m _ _ _ hm
  obtain ⟨l3, hl3⟩ := acts_of h3 (okWide_slice Try.underlying22 (hval 3 22 v3 rfl rfl))
  clear hA0 hval0
  refine (spanDiffs_walk i0 i1 _ l2 _ l3 W hl2 hl3).mono fun e W' ⟨he, bel⟩ => ?_
  subst he
  exact ⟨_, rfl, _, _, _, [], _, [], hW', trodAll_mk1 (shut_bool Try.underlying4 _), (trodAll_cons_mk (shut_int Try.underlying3 w0) (trodAll_cons_mk (shut_int Try.underlying3 w1) (trodAll_cons_mk (Below.trod laidOut' (by kernel_rfl) (of_decide_eq_true (by kernel_rfl)) k2 bel lt2) (trodAll_cons_mk (Below.trod laidOut' (by kernel_rfl) (of_decide_eq_true (by kernel_rfl)) k3 bel lt3) trodAll_mk0)))), rfl, bel.frame _, fun h => by cases h⟩
theorem spanDiffs_holds : Rows.SpanDiffsSaid :=
  OpenClaim.holds_of_wide 6 Try.f6 rfl rfl rfl rfl rfl rfl rfl ⟨rfl, rfl, rfl, rfl, rfl⟩ rfl rfl rfl rfl rfl (by kernel_rfl) Try.func6 (by kernel_rfl)
    (of_decide_eq_true (by kernel_rfl)) (by unfold Func.isWrapper; first | (rw [if_pos (by decide +kernel)]; kernel_rfl) | (rw [if_neg (by decide +kernel)]; exact ⟨rfl, rfl⟩))
    (fun os started H enc _ => spanDiffs_lifted os started H enc)
#print axioms spanDiffs_holds
end Go.Proofs.Ytjbenhmpeceaeaa
