/- The iterator over the runs of a range; the contract of Runs. -/
import Derived.RangeFuncBox
import Derived.RangeFuncNested
import Derived.Maps.AppendAt
import Derived.Test.YtahgfggcpmnnaaaZi
import Derived.Test.YtahgfggcpmnnaaaYw
namespace Go.Proofs.Ytahgfggcpmnnaaa
open Go Go.RowKit Go.Shelf Gs

attribute [local go_sem] Oper.semAt_some

set_option maxHeartbeats 1000000 in
/-- **what within answers gives the runs of the range, one after the other** -/
theorem seq_stops {f : Int → Int} {t : T} {p : Option Addr} {a b lo hi : Int} {B n₀ n : Nat} {w : World} (hB : B + 1 + 1 < w.heap.size) (hn : n₀ ≤ w.heap.size)
    (c0 : w.cell? ⟨B, 0, none⟩ = some (.pointer p)) (c1 : w.cell? ⟨B + 1, 0, none⟩ = some (.int .i64 lo)) (c2 : w.cell? ⟨B + 1 + 1, 0, none⟩ = some (.int .i64 hi)) (ht : IsTB n₀ w t p) (hc : Gs.Can f a t.L b) :
    SeqStopsK Fence.wide n Try.prog 72 #[.pointer (some ⟨B, 0, none⟩), .pointer (some ⟨B + 1, 0, none⟩), .pointer (some ⟨B + 1 + 1, 0, none⟩)] encR (Below n₀) (fun ys => ys = clip lo hi t.L) (fun q => q <+: clip lo hi t.L) (clip lo hi t.L).length w := fun l J Jx W hW hJ hJx hY h0 => by
  have hp := visit_in f l n₀ (clip lo hi t.L).length J Jx (fun s W W' hs hg => hJ s W W' none hs hg (fun r e => by cases e)) (fun s W W' hs hg => hJx s W W' none hs hg (fun r e => by cases e))
    (fun m pre x W1 hj hl => YieldAt.deep rfl m (hY pre x W1 hj hl)) t (n - 1) p a b lo hi [] W (ht.below (hW.mono hn)) (Nat.le_trans hn hW.size) hc h0 (by simp)
  have k0 : W.cell? ⟨B, 0, none⟩ = some (.pointer p) := (hW.cell (p := ⟨B, 0, none⟩) (by show B < _; omega)).trans c0
  have k1 : W.cell? ⟨B + 1, 0, none⟩ = some (.int .i64 lo) := (hW.cell (p := ⟨B + 1, 0, none⟩) (by show B + 1 < _; omega)).trans c1
  have k2 : W.cell? ⟨B + 1 + 1, 0, none⟩ = some (.int .i64 hi) := (hW.cell (p := ⟨B + 1 + 1, 0, none⟩) (by show B + 1 + 1 < _; omega)).trans c2
  clear c0 c1 c2 hW hY
  refine callsIn_of_wp Try.func72 rfl trivial ?_ rfl
  simp only [Try.ntmps72, List.size_toArray, List.length_cons, List.length_nil, Nat.reduceAdd, Nat.reduceSub, Array.replicate_succ, Array.replicate_zero, List.push_toArray, List.append_toArray, List.nil_append, List.cons_append]
  gi_wp2_with fail
  refine ⟨trivial, (fun h => by cases h), hp.mono ?_⟩
  rintro e W1 (⟨rfl, hJ1, _⟩ | ⟨rfl, q, hq, hx⟩)
  · gi_wp2_with fail
    go_end0
    exact ⟨⟨_, rfl⟩, .inl ⟨_, rfl, by simpa using hJ1⟩⟩
  · gi_wp2_with fail
    go_end0
    exact ⟨⟨_, rfl⟩, .inr ⟨q, hq, by simpa using hx⟩⟩

/-- the cells of a run -/
def encL (r : R) : List Value := [.int .i64 r.lo, .int .i64 r.hi, .int .i64 r.tag]
/-- a run's box -/
def Rb (W : World) (B : Nat) (r : R) : Prop := W.heap[B]? = some (.cells #[.int .i64 r.lo, .int .i64 r.hi, .int .i64 r.tag] 64 (0, 0))
theorem Rb.lt {W : World} {B : Nat} {r : R} (h : Rb W B r) : B < W.heap.size := (Array.getElem?_eq_some_iff.1 h).1
theorem Rb.kept {W W' : World} {row : Option Nat} {B : Nat} {r : R} (h : Rb W B r) (hg : W.grownBy W' row) (hne : some B ≠ row) : Rb W' B r := (hg.block B h.lt hne).trans h
theorem Rb.own (B : Nat) (r : R) : Own (fun (_ : Unit) W => Rb W B r) := fun s X Y row hs hg hrow => hs.kept hg fun e' => by
  obtain ⟨o, ho, hc⟩ := hrow B e'.symm
  rw [show X.heap[B]? = _ from hs] at ho; cases ho; cases hc
theorem Rb.cells {W : World} {B : Nat} {r : R} (h : Rb W B r) : W.cell? ⟨B, 0, none⟩ = some (.int .i64 r.lo) ∧ W.cell? ⟨B, 1, none⟩ = some (.int .i64 r.hi) ∧ W.cell? ⟨B, 2, none⟩ = some (.int .i64 r.tag) := by
  have h' : W.heap[B]? = _ := h
  refine ⟨?_, ?_, ?_⟩ <;> simp [World.cell?, h']
theorem Rb.new (W : World) (r : R) : Rb (W.alloc (.cells #[.int .i64 r.lo, .int .i64 r.hi, .int .i64 r.tag] 64)) W.heap.size r := World.alloc_heap_new W _

theorem cells3_new (w : World) (x y z : Value) (t : TypeId) : ∀ j u, [x, y, z][j]? = some u → (w.alloc (.cells #[x, y, z] t)).cell? ((⟨w.heap.size, 0, none⟩ : Addr).add j) = some u := by
  intro j u hj
  match j, hj with
  | 0, hj => simp at hj; subst hj; exact World.cell?_alloc_at _ _ _ _ rfl
  | 1, hj => simp at hj; subst hj; exact World.cell?_alloc_at _ _ _ _ rfl
  | 2, hj => simp at hj; subst hj; exact World.cell?_alloc_at _ _ _ _ rfl
theorem own_slice {W : World} {base : Nat} {e : TypeId} {size : Nat} {v : Value} {k : Nat} {xs : List Value} (h : W.ownsRow base e size v k xs) : ∃ a c, v = .slice a k c := by
  rcases h.2 with ⟨rfl, rfl⟩ | ⟨g, cap, cur, rfl, _⟩
  · exact ⟨_, _, rfl⟩
  · exact ⟨_, _, rfl⟩
theorem infoRun : (Try.prog.info? 64).map (fun i => (i.zero, i.size, i.bytes)) = some (some (.agg #[.int .i64 0, .int .i64 0, .int .i64 0]), 3, 24) := by kernel_rfl
set_option maxRecDepth 100000 in
set_option maxHeartbeats 2000000 in
theorem Runs_any {f : Int → Int} {size lo hi most : Int} {W : World} {p : Option Addr} (h : IsM f size W p) (h1 : 0 ≤ lo) (h2 : lo ≤ hi) (h3 : hi ≤ size) :
    ∃ L, Gs.Can f 0 L size ∧ L.length ≤ 4096 ∧ Calls Try.prog 20 #[.agg #[.pointer p, .int .i64 size], .int .i64 lo, .int .i64 hi, .int .i64 most] W fun e w' => ∃ v, e = .returned (.tuple #[v, .int .i64 0]) ∧
      Hid (w'.ownsRow W.heap.size 64 3 v ((clip lo hi L).take most.toNat).length (((clip lo hi L).take most.toNat).flatMap encL)) ∧ Below W.heap.size W w' := by
  obtain ⟨b, rfl⟩ := h.some
  obtain ⟨t, t1, t2, t3⟩ := h.tr
  refine ⟨t.L, t2, by rw [← T.sz_eq]; exact t3, ?_⟩
  obtain ⟨w0, HW⟩ : ∃ w0, w0 = (W.alloc (.cells #[.pointer (some ⟨b, 0, none⟩), .int .i64 size] 27)).alloc (.cells #[.int .i64 most] 3) := ⟨_, rfl⟩
  have hm : Mb W.heap.size (some ⟨b, 0, none⟩) size w0 := by rw [HW]; exact (Mb.new W (some ⟨b, 0, none⟩) size 27).next ((Below.refl _ _).alloc (Nat.le_refl _) _)
  have hb0 : Below W.heap.size W w0 := by rw [HW]; exact ((Below.refl _ _).alloc (Nat.le_refl _) _).alloc (by simp) _
  have hx0 : Boxed w0 (W.heap.size + 1) 3 (.int .i64 most) := by rw [HW, show W.heap.size + 1 = (W.alloc (.cells #[.pointer (some ⟨b, 0, none⟩), .int .i64 size] 27)).heap.size by simp]; exact Boxed.new _ _ _
  have HCK : Hid (Calls Try.prog 46 #[.agg #[.pointer (some ⟨b, 0, none⟩), .int .i64 size], .int .i64 lo, .int .i64 hi, .slice none 0 0] w0 fun e w' => e = .returned (.int .i64 0) ∧ Below w0.heap.size w0 w') := check_nil b size lo hi w0 (by omega) (by omega) (by omega)
  have hmax : (clip lo hi t.L).length ≤ 4096 := Nat.le_trans (clip_len _ _ _) (by rw [← T.sz_eq]; exact t3)
  have HTB : Hid (IsTB W.heap.size W t (some ⟨b, 0, none⟩)) := IsT.tb t1
  have HT2 := Lib.hid t2
  have HM := Lib.hid hm; have HB := Lib.hid hb0; have HX := Lib.hid hx0; have HW' := Lib.hid HW
  clear h t1 t2 t3 hm hb0 hx0 HW
  refine (callsIn_wide (n := 9)).1 ?_
  refine callsIn_of_wp_marks Try.func20 rfl trivial ?_ rfl
  simp only [Try.ntmps20, List.size_toArray, List.length_cons, List.length_nil, Nat.reduceAdd, Nat.reduceSub, Array.replicate_succ, Array.replicate_zero, List.push_toArray, List.append_toArray, List.nil_append, List.cons_append]
  gi_wp2_with fail
  rw [← HW'.out]
  refine ⟨trivial, (callsIn_wide.2 HCK.out).mono ?_⟩
  rintro e w1 ⟨rfl, hb⟩
  have HM1 := Lib.hid (HM.out.next hb)
  have HB1 := Lib.hid (HB.out.trans (hb.mono HB.out.size))
  have HX1 : Hid (Boxed w1 (W.heap.size + 1) 3 (.int .i64 most)) := (hb.block _ HX.out.lt).trans HX.out
  obtain ⟨w2, HW2⟩ : ∃ w2, w2 = w1.alloc (.cells #[.slice none 0 0] 31) := ⟨_, rfl⟩
  have b2 : Below w1.heap.size w1 w2 := by rw [HW2]; exact (Below.refl _ _).alloc (Nat.le_refl _) _
  have o2 : Boxed w2 w1.heap.size 31 (.slice none 0 0) := by rw [HW2]; exact Boxed.new _ _ _
  have s2 : w2.heap.size = w1.heap.size + 1 := by rw [HW2]; simp
  obtain ⟨q0, q1, q2, q3, q4⟩ := seq_cells w2 (some ⟨b, 0, none⟩) lo hi
  rw [s2] at q0 q1 q2 q3
  have b3 := b2.trans (q4.mono b2.size)
  have HM2 := Lib.hid (HM1.out.next b2)
  have HSB := Lib.hid (HB1.out.trans (b3.mono HB1.out.size))
  have HO3 : Hid (Boxed (seqW w2 (some ⟨b, 0, none⟩) lo hi) w1.heap.size 31 (.slice none 0 0)) := (q4.block _ o2.lt).trans o2
  have HX3 : Hid (Boxed (seqW w2 (some ⟨b, 0, none⟩) lo hi) (W.heap.size + 1) 3 (.int .i64 most)) := (b3.block _ HX1.out.lt).trans HX1.out
  have HSQ := Lib.hid (seq_stops (n := 8) (n₀ := W.heap.size) (lo := lo) (hi := hi) (by rw [q3]; omega) HSB.out.size q0 q1 q2 (HTB.out.below HSB.out) HT2.out)
  have HWI : Hid (CallsIn Fence.wide 8 Try.prog 47 #[.pointer (some ⟨b, 0, none⟩), .int .i64 lo, .int .i64 hi] w2 fun e w' => e = .returned (seqV (w1.heap.size + 1)) ∧ w' = seqW w2 (some ⟨b, 0, none⟩) lo hi) := callsIn_wide.2 (by rw [← s2]; exact within_any _ _ _ w2)
  have HQ3 := Lib.hid q3
  have k0 := HM2.out.c0; have k1 := HM2.out.c1
  have HW2' := Lib.hid HW2
  generalize seqW w2 (some ⟨b, 0, none⟩) lo hi = w3 at *
  clear hb b2 o2 s2 q0 q1 q2 q3 q4 b3 HW2
  gi_upto_region 5 with fail
  rw [← HW2'.out]
  gi_wp2_with fail
  refine ⟨trivial, HWI.out.mono ?_⟩
  rintro e w' ⟨rfl, rfl⟩
  gi_wp2_with fail
  have hge : W.heap.size ≤ w'.heap.size := HSB.out.size
  have hlt1 : W.heap.size + 1 < w1.heap.size := HX1.out.lt
  have hBO : w1.heap.size < w'.heap.size := HO3.out.lt
  obtain ⟨i0, hi0, hz0, hz1, hz2⟩ := info_parts infoRun
  refine wpIn_rangeFunc_ownH rfl (by omega) (gf := 72) (lb := #[.pointer (some ⟨w1.heap.size + 1, 0, none⟩), .pointer (some ⟨w1.heap.size + 1 + 1, 0, none⟩), .pointer (some ⟨w1.heap.size + 1 + 1 + 1, 0, none⟩)]) rfl trivial (enters_of Try.func72 (by kernel_rfl) rfl)
    HSQ.out belowK_t (belowK_b hge) (Below.refl _ _) (fun _ => rfl)
    (fun pre W' => ((∃ v, Boxed W' w1.heap.size 31 v ∧ W'.ownsRow W.heap.size 64 3 v pre.length (pre.flatMap encL) ∧ True) ∧ Boxed W' (W.heap.size + 1) 3 (.int .i64 most) ∧ pre.length ≤ most.toNat) ∧ Below W.heap.size W W')
    (fun c pre' W' => (c = .exit 0 ∧ ∃ pre x, pre' = pre ++ [x] ∧ pre.length = most.toNat ∧ ∃ v, Boxed W' w1.heap.size 31 v ∧ W'.ownsRow W.heap.size 64 3 v pre.length (pre.flatMap encL) ∧ True) ∧ Below W.heap.size W W')
    (OwnFrom.and (Own.from (fun s A B row hs hg hr => ⟨holdsRow_own W.heap.size w1.heap.size 31 64 3 (fun pre : List R => pre.length) (fun pre => pre.flatMap encL) (fun _ _ => True) s A B row hs.1 hg hr, boxed_own (W.heap.size + 1) 3 (fun (_ : Unit) => .int .i64 most) () A B row hs.2.1 hg hr, hs.2.2⟩) _) (ownFrom_below (Nat.le_refl _) hge))
    (fun c => OwnFrom.and (Own.from (fun s A B row hs hg hr => by
      obtain ⟨hc, pre, x, hp, hl, hv⟩ := hs
      exact ⟨hc, pre, x, hp, hl, holdsRow_own W.heap.size w1.heap.size 31 64 3 (fun pre : List R => pre.length) (fun pre => pre.flatMap encL) (fun _ _ => True) pre A B row hv hg hr⟩) _) (ownFrom_below (Nat.le_refl _) hge))
    ⟨⟨⟨_, HO3.out, World.ownsRow_nil _ _ _ _, trivial⟩, HX3.out, Nat.zero_le _⟩, HSB.out⟩
    (fun x a' W' => ∃ Bx, w1.heap.size < Bx ∧ Rb W' Bx x ∧ a' = { tmps := #[.agg #[.pointer (some ⟨b, 0, none⟩), .int .i64 size], .int .i64 lo, .int .i64 hi, .int .i64 most, .pointer (some ⟨W.heap.size, 0, none⟩), undef, undef, .pointer (some ⟨W.heap.size + 1, 0, none⟩), .slice none 0 0, .int .i64 0, .int .i64 0, .pointer (some ⟨w1.heap.size, 0, none⟩), .pointer (some ⟨Bx, 0, none⟩), .agg #[.pointer (some ⟨b, 0, none⟩), .int .i64 size], .int .i64 lo, .int .i64 hi, .int .i64 0, .int .i64 0, .bool false, undef, .pointer (some ⟨W.heap.size, 0, none⟩), .pointer (some ⟨b, 0, none⟩), .int .i64 lo, .int .i64 hi, seqV (w1.heap.size + 1), .agg #[.int .i64 x.lo, .int .i64 x.hi, .int .i64 x.tag], undef, undef, undef, undef, undef, undef, undef, undef, undef], defers := [] })
    (fun x a' => Own.from (fun s A B row hs hg hr => by
      obtain ⟨Bx, h1, h2, h3⟩ := hs
      exact ⟨Bx, h1, Rb.own Bx x () A B row h2 hg hr, h3⟩) _) ?assign ?body ?done ?stop
  case assign =>
    rintro l pre ⟨xa, xb, xc⟩ W' K ⟨⟨⟨v, g1, g2, -⟩, g3, g4⟩, g5⟩ hK
    unfold encR
    gi_wp2
    exact hK _ _ ((KeepsOthers.alloc _ _).from _) ((Below.refl _ W').alloc g5.size _) ⟨⟨⟨v, g1.alloc _, g2.alloc _, trivial⟩, g3.alloc _, g4⟩, g5.alloc g5.size _⟩ ⟨W'.heap.size, g1.lt, Rb.new W' ⟨xa, xb, xc⟩, rfl⟩
  case body =>
    rintro l pre ⟨xa, xb, xc⟩ a' W' hl ⟨r, hr⟩ ⟨⟨⟨v, g1, g2, -⟩, g3, g4⟩, g5⟩ ⟨Bx, hBx, bX, rfl⟩ hlt
    have hml : pre.length + 1 ≤ maxLen := Nat.le_trans (show pre.length + 1 ≤ 4096 by omega) (by decide)
    have hc0 := g1.cell
    have hc3 := g3.cell
    obtain ⟨k0, k1, k2⟩ := bX.cells
    simp only at k0 k1 k2
    obtain ⟨va, vc, rfl⟩ := own_slice g2
    by_cases hge2 : most ≤ (pre.length : Int)
    · have hge3 : (pre.length : Int) ≥ most := hge2
      gi_wp2
      exact ⟨KeepsFrom.refl _ _, ⟨rfl, pre, ⟨xa, xb, xc⟩, rfl, by omega, _, g1, g2, trivial⟩, g5⟩
    · have hge3 : ¬ (pre.length : Int) ≥ most := hge2
      gi_wp2_with (gi_at_builtin; refine wpListIn_append_own _ rfl _ _ 31 rfl W.heap.size 64 i0 (.agg #[.int .i64 0, .int .i64 0, .int .i64 0]) 3 24 Try.underlying31 hi0 hz0 hz1 hz2 rfl (by decide) _ _ _ rfl (g2.alloc _) ⟨W'.heap.size, 0, none⟩ 1 1 [.int .i64 xa, .int .i64 xb, .int .i64 xc] rfl rfl (cells3_new _ _ _ _ _) (by simp [Value.oneCell']) (by omega) (by omega) (by have := g5.size; simp; omega) ?_; intro v' w4 hown' hgrow _; obtain ⟨g', cap', rfl⟩ := ownsRow_succ hown'; obtain ⟨hv1, hv2, hr2, hk2, hb2⟩ := g1.appended (by decide) g2 g5.size (by omega) hown' hgrow; have hc1 := hv1.cell; have hf1 := hv1.frozen)
      have hr3 : (w4.setCell ⟨w1.heap.size, 0, none⟩ (.slice (some ⟨g', 0, none⟩) (pre.length + 1) cap')).ownsRow W.heap.size 64 3 (.slice (some ⟨g', 0, none⟩) (pre.length + 1) cap') (pre ++ [(⟨xa, xb, xc⟩ : R)]).length ((pre ++ [(⟨xa, xb, xc⟩ : R)]).flatMap encL) := by
        rw [List.length_append, List.length_singleton, List.flatMap_append]
        exact hr2
      first
      | exact ⟨hk2.from _, hb2, ⟨⟨_, hv2, hr3⟩, ((g3.alloc _).kept hgrow (g3.not_row (by decide) g2)).other (by omega) _, by rw [List.length_append, List.length_singleton]; omega⟩, g5.trans hb2⟩
      | exact ⟨hk2.from _, hb2, ⟨⟨_, hv2, hr3, trivial⟩, ((g3.alloc _).kept hgrow (g3.not_row (by decide) g2)).other (by omega) _, by rw [List.length_append, List.length_singleton]; omega⟩, g5.trans hb2⟩
  case done =>
    rintro D ys W' hD rfl ⟨⟨⟨v, g1, g2, -⟩, g3, g4⟩, g5⟩ hK
    have hc0 := g1.cell
    have he : (clip lo hi t.L).take most.toNat = clip lo hi t.L := List.take_of_length_le g4
    obtain ⟨va, vc, rfl⟩ := own_slice g2
    have HE := Lib.hid he
    have HK := Lib.hid hK
    clear he
    gi_wp2
    refine ⟨by simp, .inl ⟨_, _, rfl, run_takeDeferred HK.out, ?_⟩⟩
    refine ⟨.tuple #[.slice va (clip lo hi t.L).length vc, .int .i64 0], by simp [results, Try.results20, go_sem], _, rfl, (by rw [HE.out]; exact ownsRow_putObj g2 _ HK.out rfl), g5.trans (belowK_b (w := W) (Nat.le_refl _) W' D _ _ (by omega) HK.out rfl rfl)⟩
  case stop =>
    rintro D c pre' W' hD hSp ⟨⟨rfl, pre, x, rfl, hl, v, g1, g2, -⟩, g5⟩ hK
    have hc0 := g1.cell
    have he : (clip lo hi t.L).take most.toNat = pre := by rw [← hl]; exact (List.prefix_iff_eq_take.1 ((List.prefix_append pre [x]).trans hSp)).symm
    obtain ⟨va, vc, rfl⟩ := own_slice g2
    have HE := Lib.hid he
    have HK := Lib.hid hK
    clear he
    gi_wp2
    refine ⟨by simp, .inl ⟨_, _, rfl, run_takeDeferred HK.out, ?_⟩⟩
    refine ⟨.tuple #[.slice va pre.length vc, .int .i64 0], by simp [results, Try.results20, go_sem, hl], _, rfl, (by rw [HE.out]; exact ownsRow_putObj g2 _ HK.out rfl), g5.trans (belowK_b (w := W) (Nat.le_refl _) W' D _ _ (by omega) HK.out rfl rfl)⟩
end Go.Proofs.Ytahgfggcpmnnaaa
