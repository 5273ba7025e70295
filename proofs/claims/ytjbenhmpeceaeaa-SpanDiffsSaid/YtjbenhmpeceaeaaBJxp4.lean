/- Contracts and lemmas (several texts merged into one). -/
import Derived.RangeFuncBox
import Derived.RangeFuncNested
import Derived.Maps.AppendAt
import Derived.Test.YtjbenhmpeceaeaaBJxp3
import Derived.Deep.OwnRows
import Derived.Deep.CutRange
import Derived.BigQuiet
import Derived.Deep.RegionHeld
import Derived.Test.YtjbenhmpeceaeaaBJxp1
import Derived.WalkSmall
import Derived.Deep.QuietTactic
namespace Go.Proofs.Ytjbenhmpeceaeaa
open Go Go.RowKit Go.Shelf Gs

attribute [local go_sem] Oper.semAt_some

set_option maxHeartbeats 1000000 in
/-- **what within answers gives the runs of the range, one after the other** -/
theorem seq_stops {f : Int → Int} {t : T} {p : Option Addr} {a b lo hi : Int} {B n₀ n : Nat} {w : World} (hB : B + 1 + 1 < w.heap.size) (hn : n₀ ≤ w.heap.size)
    (c0 : w.cell? ⟨B, 0, none⟩ = some (.pointer p)) (c1 : w.cell? ⟨B + 1, 0, none⟩ = some (.int .i64 lo)) (c2 : w.cell? ⟨B + 1 + 1, 0, none⟩ = some (.int .i64 hi)) (ht : IsTB n₀ w t p) (hc : Gs.Can f a t.L b) :
    SeqStopsK Fence.wide n Try.prog 72 #[.pointer (some ⟨B, 0, none⟩), .pointer (some ⟨B + 1, 0, none⟩), .pointer (some ⟨B + 1 + 1, 0, none⟩)] encR (Below n₀) (fun ys => ys = clip lo hi t.L) (fun q => q <+: clip lo hi t.L) (clip lo hi t.L).length w := fun l J Jx W hW hJ hJx hY h0 => by
  have hp := visit_in f l n₀ (clip lo hi t.L).length J Jx (fun s W W' hs hg => hJ s W W' none hs hg (fun r e => by cases e)) (fun s W W' hs hg => hJx s W W' none hs hg (fun r e => by cases e))
    (fun m pre x W1 hj hl => YieldAt.deep rfl m (hY pre x W1 hj hl)) t (n - 1) p a b lo hi [] W (ht.below (hW.mono hn)) (Nat.le_trans hn hW.size) hc h0 (by simp)
  have k0 : W.cell? ⟨B, 0, none⟩ = some (.pointer p) := (hW.cell (p := ⟨B, 0, none⟩) (by show B < _; omega)).trans c0
  have k1 : W.cell? ⟨B + 1, 0, none⟩ = some (.int .i64 lo) := (hW.cell (p := ⟨B + 1, 0, none⟩) (by show B + 1 < _; omega)).trans c1
  have k2 : W.cell? ⟨B + 1 + 1, 0, none⟩ = some (.int .i64 hi) := (hW.cell (p := ⟨B + 1 + 1, 0, none⟩) (by show B + 1 + 1 < _; omega)).trans c2
  clear c0 c1 c2 hW hY
  refine callsIn_of_wp Try.func72 rfl trivial ?_ rfl
  simp only [Try.ntmps72, List.size_toArray, List.length_cons, List.length_nil, Nat.reduceAdd, Nat.reduceSub, Array.replicate_succ, Array.replicate_zero, List.push_toArray, List.append_toArray, List.nil_append, List.cons_append]
  gi_wp2_with fail
  refine ⟨trivial, (fun h => by cases h), hp.mono ?_⟩
  rintro e W1 (⟨rfl, hJ1, _⟩ | ⟨rfl, q, hq, hx⟩)
  · gi_wp2_with fail
    go_end0
    exact ⟨⟨_, rfl⟩, .inl ⟨_, rfl, by simpa using hJ1⟩⟩
  · gi_wp2_with fail
    go_end0
    exact ⟨⟨_, rfl⟩, .inr ⟨q, hq, by simpa using hx⟩⟩

/-- the cells of a run -/
def encL (r : R) : List Value := [.int .i64 r.lo, .int .i64 r.hi, .int .i64 r.tag]
/-- a run's box -/
def Rb (W : World) (B : Nat) (r : R) : Prop := W.heap[B]? = some (.cells #[.int .i64 r.lo, .int .i64 r.hi, .int .i64 r.tag] 64 (0, 0))
theorem Rb.lt {W : World} {B : Nat} {r : R} (h : Rb W B r) : B < W.heap.size := (Array.getElem?_eq_some_iff.1 h).1
theorem Rb.kept {W W' : World} {row : Option Nat} {B : Nat} {r : R} (h : Rb W B r) (hg : W.grownBy W' row) (hne : some B ≠ row) : Rb W' B r := (hg.block B h.lt hne).trans h
theorem Rb.own (B : Nat) (r : R) : Own (fun (_ : Unit) W => Rb W B r) := fun s X Y row hs hg hrow => hs.kept hg fun e' => by
  obtain ⟨o, ho, hc⟩ := hrow B e'.symm
  rw [show X.heap[B]? = _ from hs] at ho; cases ho; cases hc
theorem Rb.cells {W : World} {B : Nat} {r : R} (h : Rb W B r) : W.cell? ⟨B, 0, none⟩ = some (.int .i64 r.lo) ∧ W.cell? ⟨B, 1, none⟩ = some (.int .i64 r.hi) ∧ W.cell? ⟨B, 2, none⟩ = some (.int .i64 r.tag) := by
  have h' : W.heap[B]? = _ := h
  refine ⟨?_, ?_, ?_⟩ <;> simp [World.cell?, h']
theorem Rb.new (W : World) (r : R) : Rb (W.alloc (.cells #[.int .i64 r.lo, .int .i64 r.hi, .int .i64 r.tag] 64)) W.heap.size r := World.alloc_heap_new W _

theorem cells3_new (w : World) (x y z : Value) (t : TypeId) : ∀ j u, [x, y, z][j]? = some u → (w.alloc (.cells #[x, y, z] t)).cell? ((⟨w.heap.size, 0, none⟩ : Addr).add j) = some u := by
  intro j u hj
  match j, hj with
  | 0, hj => simp at hj; subst hj; exact World.cell?_alloc_at _ _ _ _ rfl
  | 1, hj => simp at hj; subst hj; exact World.cell?_alloc_at _ _ _ _ rfl
  | 2, hj => simp at hj; subst hj; exact World.cell?_alloc_at _ _ _ _ rfl
theorem own_slice {W : World} {base : Nat} {e : TypeId} {size : Nat} {v : Value} {k : Nat} {xs : List Value} (h : W.ownsRow base e size v k xs) : ∃ a c, v = .slice a k c := by
  rcases h.2 with ⟨rfl, rfl⟩ | ⟨g, cap, cur, rfl, _⟩
  · exact ⟨_, _, rfl⟩
  · exact ⟨_, _, rfl⟩
theorem infoRun : (Try.prog.info? 64).map (fun i => (i.zero, i.size, i.bytes)) = some (some (.agg #[.int .i64 0, .int .i64 0, .int .i64 0]), 3, 24) := by kernel_rfl
set_option maxRecDepth 100000 in
set_option maxHeartbeats 2000000 in
theorem Runs_any {f : Int → Int} {size lo hi most : Int} {W : World} {p : Option Addr} (h : IsM f size W p) (h1 : 0 ≤ lo) (h2 : lo ≤ hi) (h3 : hi ≤ size) :
    ∃ L, Gs.Can f 0 L size ∧ L.length ≤ 4096 ∧ Calls Try.prog 20 #[.agg #[.pointer p, .int .i64 size], .int .i64 lo, .int .i64 hi, .int .i64 most] W fun e w' => ∃ v, e = .returned (.tuple #[v, .int .i64 0]) ∧
      Hid (w'.ownsRow W.heap.size 64 3 v ((clip lo hi L).take most.toNat).length (((clip lo hi L).take most.toNat).flatMap encL)) ∧ Below W.heap.size W w' := by
  obtain ⟨b, rfl⟩ := h.some
  obtain ⟨t, t1, t2, t3⟩ := h.tr
  refine ⟨t.L, t2, by rw [← T.sz_eq]; exact t3, ?_⟩
  obtain ⟨w0, HW⟩ : ∃ w0, w0 = (W.alloc (.cells #[.pointer (some ⟨b, 0, none⟩), .int .i64 size] 27)).alloc (.cells #[.int .i64 most] 3) := ⟨_, rfl⟩
  have hm : Mb W.heap.size (some ⟨b, 0, none⟩) size w0 := by rw [HW]; exact (Mb.new W (some ⟨b, 0, none⟩) size 27).next ((Below.refl _ _).alloc (Nat.le_refl _) _)
  have hb0 : Below W.heap.size W w0 := by rw [HW]; exact ((Below.refl _ _).alloc (Nat.le_refl _) _).alloc (by simp) _
  have hx0 : Boxed w0 (W.heap.size + 1) 3 (.int .i64 most) := by rw [HW, show W.heap.size + 1 = (W.alloc (.cells #[.pointer (some ⟨b, 0, none⟩), .int .i64 size] 27)).heap.size by simp]; exact Boxed.new _ _ _
  have HCK : Hid (Calls Try.prog 46 #[.agg #[.pointer (some ⟨b, 0, none⟩), .int .i64 size], .int .i64 lo, .int .i64 hi, .slice none 0 0] w0 fun e w' => e = .returned (.int .i64 0) ∧ Below w0.heap.size w0 w') := check_nil b size lo hi w0 (by omega) (by omega) (by omega)
  have hmax : (clip lo hi t.L).length ≤ 4096 := Nat.le_trans (clip_len _ _ _) (by rw [← T.sz_eq]; exact t3)
  have HTB : Hid (IsTB W.heap.size W t (some ⟨b, 0, none⟩)) := IsT.tb t1
  have HT2 := Lib.hid t2
  have HM := Lib.hid hm; have HB := Lib.hid hb0; have HX := Lib.hid hx0; have HW' := Lib.hid HW
  clear h t1 t2 t3 hm hb0 hx0 HW
  refine (callsIn_wide (n := 9)).1 ?_
  refine callsIn_of_wp_marks Try.func20 rfl trivial ?_ rfl
  simp only [Try.ntmps20, List.size_toArray, List.length_cons, List.length_nil, Nat.reduceAdd, Nat.reduceSub, Array.replicate_succ, Array.replicate_zero, List.push_toArray, List.append_toArray, List.nil_append, List.cons_append]
  gi_wp2_with fail
  rw [← HW'.out]
  refine ⟨trivial, (callsIn_wide.2 HCK.out).mono ?_⟩
  rintro e w1 ⟨rfl, hb⟩
  have HM1 := Lib.hid (HM.out.next hb)
  have HB1 := Lib.hid (HB.out.trans (hb.mono HB.out.size))
  have HX1 : Hid (Boxed w1 (W.heap.size + 1) 3 (.int .i64 most)) := (hb.block _ HX.out.lt).trans HX.out
  obtain ⟨w2, HW2⟩ : ∃ w2, w2 = w1.alloc (.cells #[.slice none 0 0] 31) := ⟨_, rfl⟩
  have b2 : Below w1.heap.size w1 w2 := by rw [HW2]; exact (Below.refl _ _).alloc (Nat.le_refl _) _
  have o2 : Boxed w2 w1.heap.size 31 (.slice none 0 0) := by rw [HW2]; exact Boxed.new _ _ _
  have s2 : w2.heap.size = w1.heap.size + 1 := by rw [HW2]; simp
  obtain ⟨q0, q1, q2, q3, q4⟩ := seq_cells w2 (some ⟨b, 0, none⟩) lo hi
  rw [s2] at q0 q1 q2 q3
  have b3 := b2.trans (q4.mono b2.size)
  have HM2 := Lib.hid (HM1.out.next b2)
  have HSB := Lib.hid (HB1.out.trans (b3.mono HB1.out.size))
  have HO3 : Hid (Boxed (seqW w2 (some ⟨b, 0, none⟩) lo hi) w1.heap.size 31 (.slice none 0 0)) := (q4.block _ o2.lt).trans o2
  have HX3 : Hid (Boxed (seqW w2 (some ⟨b, 0, none⟩) lo hi) (W.heap.size + 1) 3 (.int .i64 most)) := (b3.block _ HX1.out.lt).trans HX1.out
  have HSQ := Lib.hid (seq_stops (n := 8) (n₀ := W.heap.size) (lo := lo) (hi := hi) (by rw [q3]; omega) HSB.out.size q0 q1 q2 (HTB.out.below HSB.out) HT2.out)
  have HWI : Hid (CallsIn Fence.wide 8 Try.prog 47 #[.pointer (some ⟨b, 0, none⟩), .int .i64 lo, .int .i64 hi] w2 fun e w' => e = .returned (seqV (w1.heap.size + 1)) ∧ w' = seqW w2 (some ⟨b, 0, none⟩) lo hi) := callsIn_wide.2 (by rw [← s2]; exact within_any _ _ _ w2)
  have HQ3 := Lib.hid q3
  have k0 := HM2.out.c0; have k1 := HM2.out.c1
  have HW2' := Lib.hid HW2
  generalize seqW w2 (some ⟨b, 0, none⟩) lo hi = w3 at *
  clear hb b2 o2 s2 q0 q1 q2 q3 q4 b3 HW2
  gi_upto_region 5 with fail
  rw [← HW2'.out]
  gi_wp2_with fail
  refine ⟨trivial, HWI.out.mono ?_⟩
  rintro e w' ⟨rfl, rfl⟩
  gi_wp2_with fail
  have hge : W.heap.size ≤ w'.heap.size := HSB.out.size
  have hlt1 : W.heap.size + 1 < w1.heap.size := HX1.out.lt
  have hBO : w1.heap.size < w'.heap.size := HO3.out.lt
  obtain ⟨i0, hi0, hz0, hz1, hz2⟩ := info_parts infoRun
  refine wpIn_rangeFunc_ownH rfl (by omega) (gf := 72) (lb := #[.pointer (some ⟨w1.heap.size + 1, 0, none⟩), .pointer (some ⟨w1.heap.size + 1 + 1, 0, none⟩), .pointer (some ⟨w1.heap.size + 1 + 1 + 1, 0, none⟩)]) rfl trivial (enters_of Try.func72 (by kernel_rfl) rfl)
    HSQ.out belowK_t (belowK_b hge) (Below.refl _ _) (fun _ => rfl)
    (fun pre W' => ((∃ v, Boxed W' w1.heap.size 31 v ∧ W'.ownsRow W.heap.size 64 3 v pre.length (pre.flatMap encL) ∧ True) ∧ Boxed W' (W.heap.size + 1) 3 (.int .i64 most) ∧ pre.length ≤ most.toNat) ∧ Below W.heap.size W W')
    (fun c pre' W' => (c = .exit 0 ∧ ∃ pre x, pre' = pre ++ [x] ∧ pre.length = most.toNat ∧ ∃ v, Boxed W' w1.heap.size 31 v ∧ W'.ownsRow W.heap.size 64 3 v pre.length (pre.flatMap encL) ∧ True) ∧ Below W.heap.size W W')
    (OwnFrom.and (Own.from (fun s A B row hs hg hr => ⟨holdsRow_own W.heap.size w1.heap.size 31 64 3 (fun pre : List R => pre.length) (fun pre => pre.flatMap encL) (fun _ _ => True) s A B row hs.1 hg hr, boxed_own (W.heap.size + 1) 3 (fun (_ : Unit) => .int .i64 most) () A B row hs.2.1 hg hr, hs.2.2⟩) _) (ownFrom_below (Nat.le_refl _) hge))
    (fun c => OwnFrom.and (Own.from (fun s A B row hs hg hr => by
      obtain ⟨hc, pre, x, hp, hl, hv⟩ := hs
      exact ⟨hc, pre, x, hp, hl, holdsRow_own W.heap.size w1.heap.size 31 64 3 (fun pre : List R => pre.length) (fun pre => pre.flatMap encL) (fun _ _ => True) pre A B row hv hg hr⟩) _) (ownFrom_below (Nat.le_refl _) hge))
    ⟨⟨⟨_, HO3.out, World.ownsRow_nil _ _ _ _, trivial⟩, HX3.out, Nat.zero_le _⟩, HSB.out⟩
    (fun x a' W' => ∃ Bx, w1.heap.size < Bx ∧ Rb W' Bx x ∧ a' = { tmps := #[.agg #[.pointer (some ⟨b, 0, none⟩), .int .i64 size], .int .i64 lo, .int .i64 hi, .int .i64 most, .pointer (some ⟨W.heap.size, 0, none⟩), undef, undef, .pointer (some ⟨W.heap.size + 1, 0, none⟩), .slice none 0 0, .int .i64 0, .int .i64 0, .pointer (some ⟨w1.heap.size, 0, none⟩), .pointer (some ⟨Bx, 0, none⟩), .agg #[.pointer (some ⟨b, 0, none⟩), .int .i64 size], .int .i64 lo, .int .i64 hi, .int .i64 0, .int .i64 0, .bool false, undef, .pointer (some ⟨W.heap.size, 0, none⟩), .pointer (some ⟨b, 0, none⟩), .int .i64 lo, .int .i64 hi, seqV (w1.heap.size + 1), .agg #[.int .i64 x.lo, .int .i64 x.hi, .int .i64 x.tag], undef, undef, undef, undef, undef, undef, undef, undef, undef], defers := [] })
    (fun x a' => Own.from (fun s A B row hs hg hr => by
      obtain ⟨Bx, h1, h2, h3⟩ := hs
      exact ⟨Bx, h1, Rb.own Bx x () A B row h2 hg hr, h3⟩) _) ?assign ?body ?done ?stop
  case assign =>
    rintro l pre ⟨xa, xb, xc⟩ W' K ⟨⟨⟨v, g1, g2, -⟩, g3, g4⟩, g5⟩ hK
    unfold encR
    gi_wp2
    exact hK _ _ ((KeepsOthers.alloc _ _).from _) ((Below.refl _ W').alloc g5.size _) ⟨⟨⟨v, g1.alloc _, g2.alloc _, trivial⟩, g3.alloc _, g4⟩, g5.alloc g5.size _⟩ ⟨W'.heap.size, g1.lt, Rb.new W' ⟨xa, xb, xc⟩, rfl⟩
  case body =>
    rintro l pre ⟨xa, xb, xc⟩ a' W' hl ⟨r, hr⟩ ⟨⟨⟨v, g1, g2, -⟩, g3, g4⟩, g5⟩ ⟨Bx, hBx, bX, rfl⟩ hlt
    have hml : pre.length + 1 ≤ maxLen := Nat.le_trans (show pre.length + 1 ≤ 4096 by omega) (by decide)
    have hc0 := g1.cell
    have hc3 := g3.cell
    obtain ⟨k0, k1, k2⟩ := bX.cells
    simp only at k0 k1 k2
    obtain ⟨va, vc, rfl⟩ := own_slice g2
    by_cases hge2 : most ≤ (pre.length : Int)
    · have hge3 : (pre.length : Int) ≥ most := hge2
      gi_wp2
      exact ⟨KeepsFrom.refl _ _, ⟨rfl, pre, ⟨xa, xb, xc⟩, rfl, by omega, _, g1, g2, trivial⟩, g5⟩
    · have hge3 : ¬ (pre.length : Int) ≥ most := hge2
      gi_wp2_with (gi_at_builtin; refine wpListIn_append_own _ rfl _ _ 31 rfl W.heap.size 64 i0 (.agg #[.int .i64 0, .int .i64 0, .int .i64 0]) 3 24 Try.underlying31 hi0 hz0 hz1 hz2 rfl (by decide) _ _ _ rfl (g2.alloc _) ⟨W'.heap.size, 0, none⟩ 1 1 [.int .i64 xa, .int .i64 xb, .int .i64 xc] rfl rfl (cells3_new _ _ _ _ _) (by simp [Value.oneCell']) (by omega) (by omega) (by have := g5.size; simp; omega) ?_; intro v' w4 hown' hgrow _; obtain ⟨g', cap', rfl⟩ := ownsRow_succ hown'; obtain ⟨hv1, hv2, hr2, hk2, hb2⟩ := g1.appended (by decide) g2 g5.size (by omega) hown' hgrow; have hc1 := hv1.cell; have hf1 := hv1.frozen)
      have hr3 : (w4.setCell ⟨w1.heap.size, 0, none⟩ (.slice (some ⟨g', 0, none⟩) (pre.length + 1) cap')).ownsRow W.heap.size 64 3 (.slice (some ⟨g', 0, none⟩) (pre.length + 1) cap') (pre ++ [(⟨xa, xb, xc⟩ : R)]).length ((pre ++ [(⟨xa, xb, xc⟩ : R)]).flatMap encL) := by
        rw [List.length_append, List.length_singleton, List.flatMap_append]
        exact hr2
      first
      | exact ⟨hk2.from _, hb2, ⟨⟨_, hv2, hr3⟩, ((g3.alloc _).kept hgrow (g3.not_row (by decide) g2)).other (by omega) _, by rw [List.length_append, List.length_singleton]; omega⟩, g5.trans hb2⟩
      | exact ⟨hk2.from _, hb2, ⟨⟨_, hv2, hr3, trivial⟩, ((g3.alloc _).kept hgrow (g3.not_row (by decide) g2)).other (by omega) _, by rw [List.length_append, List.length_singleton]; omega⟩, g5.trans hb2⟩
  case done =>
    rintro D ys W' hD rfl ⟨⟨⟨v, g1, g2, -⟩, g3, g4⟩, g5⟩ hK
    have hc0 := g1.cell
    have he : (clip lo hi t.L).take most.toNat = clip lo hi t.L := List.take_of_length_le g4
    obtain ⟨va, vc, rfl⟩ := own_slice g2
    have HE := Lib.hid he
    have HK := Lib.hid hK
    clear he
    gi_wp2
    refine ⟨by simp, .inl ⟨_, _, rfl, run_takeDeferred HK.out, ?_⟩⟩
    refine ⟨.tuple #[.slice va (clip lo hi t.L).length vc, .int .i64 0], by simp [results, Try.results20, go_sem], _, rfl, (by rw [HE.out]; exact ownsRow_putObj g2 _ HK.out rfl), g5.trans (belowK_b (w := W) (Nat.le_refl _) W' D _ _ (by omega) HK.out rfl rfl)⟩
  case stop =>
    rintro D c pre' W' hD hSp ⟨⟨rfl, pre, x, rfl, hl, v, g1, g2, -⟩, g5⟩ hK
    have hc0 := g1.cell
    have he : (clip lo hi t.L).take most.toNat = pre := by rw [← hl]; exact (List.prefix_iff_eq_take.1 ((List.prefix_append pre [x]).trans hSp)).symm
    obtain ⟨va, vc, rfl⟩ := own_slice g2
    have HE := Lib.hid he
    have HK := Lib.hid hK
    clear he
    gi_wp2
    refine ⟨by simp, .inl ⟨_, _, rfl, run_takeDeferred HK.out, ?_⟩⟩
    refine ⟨.tuple #[.slice va pre.length vc, .int .i64 0], by simp [results, Try.results20, go_sem, hl], _, rfl, (by rw [HE.out]; exact ownsRow_putObj g2 _ HK.out rfl), g5.trans (belowK_b (w := W) (Nat.le_refl _) W' D _ _ (by omega) HK.out rfl rfl)⟩
end Go.Proofs.Ytjbenhmpeceaeaa
namespace Go.Proofs.Ytjbenhmpeceaeaa
open Go Go.RowKit Gs

theorem clip_out {f : Int → Int} {lo hi : Int} : ∀ {l : List R} {a b : Int}, Fits f a l b → hi ≤ a → clip lo hi l = []
  | [], _, _, _, _ => rfl
  | r :: l, a, b, h, hm => by
    have h1 := h.1; have h3 := h.2.1
    rw [clip_cons, clip_out h.2.2.2 (by omega), List.append_nil]
    unfold clip1
    rw [if_neg (by omega)]
theorem clip_fits {f : Int → Int} {lo hi : Int} : ∀ {l : List R} {a b : Int}, Fits f a l b → max lo a ≤ min hi b → Fits f (max lo a) (clip lo hi l) (min hi b)
  | [], a, b, h, hm => by
    have h : a = b := h
    subst h
    show max lo a = min hi a
    omega
  | r :: l, a, b, h, hm => by
    have h1 := h.1; have h3 := h.2.1; have h4 := h.2.2.1; have h5 := h.2.2.2
    have hle := h5.le
    rw [clip_cons]
    unfold clip1
    by_cases hc : max lo r.lo < min r.hi hi
    · rw [if_pos hc]
      show max lo r.lo = max lo a ∧ max lo r.lo < min r.hi hi ∧ (∀ p, max lo r.lo ≤ p → p < min r.hi hi → f p = r.tag) ∧ Fits f (min r.hi hi) (clip lo hi l) (min hi b)
      refine ⟨by omega, hc, fun p p1 p2 => h4 p (by omega) (by omega), ?_⟩
      by_cases hh : r.hi ≤ hi
      · have := clip_fits (lo := lo) (hi := hi) h5 (by omega)
        rw [show max lo r.hi = min r.hi hi by omega] at this
        exact this
      · rw [clip_out h5 (by omega)]
        show min r.hi hi = min hi b
        omega
    · rw [if_neg hc, List.nil_append]
      by_cases hh : r.hi ≤ lo
      · have := clip_fits (lo := lo) (hi := hi) h5 (by omega)
        rw [show max lo r.hi = max lo a by omega] at this
        exact this
      · rw [clip_out h5 (by omega)]
        show max lo a = min hi b
        omega
theorem clip_alt {f : Int → Int} {lo hi : Int} : ∀ {l : List R} {a b : Int}, Fits f a l b → Alt l → Alt (clip lo hi l)
  | [], _, _, _, _ => trivial
  | r :: l, a, b, h, hl => by
    have h1 := h.1; have h3 := h.2.1; have h5 := h.2.2.2
    have hle := h5.le
    have ih := clip_alt (lo := lo) (hi := hi) h5 hl.tail
    rw [clip_cons]
    unfold clip1
    by_cases hc : max lo r.lo < min r.hi hi
    · rw [if_pos hc]
      show Alt (⟨max lo r.lo, min r.hi hi, r.tag⟩ :: clip lo hi l)
      refine alt_cons ih fun y hy => ?_
      show r.tag ≠ y.tag
      by_cases hh : r.hi < hi
      · cases l with
        | nil => cases hy
        | cons s m =>
          have hb := h5.lt
          have hf := clip_fits (lo := lo) (hi := hi) h5 (by omega)
          have e1 := hf.first hy
          have e2 := h5.first (y := s) rfl
          rw [show max lo r.hi = r.hi by omega] at e1
          rw [← e1.1, e2.1]
          exact hl.1
      · rw [clip_out h5 (by omega)] at hy
        cases hy
    · rw [if_neg hc]
      exact ih
theorem clip_can {f : Int → Int} {lo hi size : Int} {l : List R} (h : Gs.Can f 0 l size) (h1 : 0 ≤ lo) (h2 : lo ≤ hi) (h3 : hi ≤ size) : Gs.Can f lo (clip lo hi l) hi := by
  have := clip_fits (lo := lo) (hi := hi) h.1 (by omega)
  rw [show max lo 0 = lo by omega, show min hi size = hi by omega] at this
  exact ⟨this, clip_alt h.1 h.2⟩
theorem cnt_clip (k : Int) {lo hi : Int} (hle : lo ≤ hi) : ∀ {l : List R}, (∀ r ∈ l, r.lo < r.hi) → cnt k (clip lo hi l) = cb hi k l - cb lo k l
  | [], _ => rfl
  | r :: l, h => by
    have h1 := h r (List.mem_cons_self ..)
    have ih := cnt_clip k hle (fun x hx => h x (List.mem_cons_of_mem _ hx))
    rw [clip_cons, cnt_append, ih]
    unfold clip1
    show _ = ((if r.tag = k then max 0 (min hi r.hi - r.lo) else 0) + cb hi k l) - ((if r.tag = k then max 0 (min lo r.hi - r.lo) else 0) + cb lo k l)
    by_cases hc : max lo r.lo < min r.hi hi
    · rw [if_pos hc]
      show (if r.tag = k then min r.hi hi - max lo r.lo else 0) + 0 + _ = _
      by_cases hk : r.tag = k
      · rw [if_pos hk, if_pos hk, if_pos hk]; omega
      · rw [if_neg hk, if_neg hk, if_neg hk]; omega
    · rw [if_neg hc]
      show 0 + _ = _
      by_cases hk : r.tag = k
      · rw [if_pos hk, if_pos hk]; omega
      · rw [if_neg hk, if_neg hk]; omega
/-- the sum of the counts of the tags below n -/
def sumc (l : List R) : Nat → Int
  | 0 => 0
  | n + 1 => sumc l n + cnt n l
theorem sumc_cons (r : R) (l : List R) (ht : 0 ≤ r.tag) : ∀ n : Nat, sumc (r :: l) n = sumc l n + if r.tag < n then r.hi - r.lo else 0
  | 0 => by
    rw [if_neg (by omega)]; rfl
  | n + 1 => by
    show sumc (r :: l) n + ((if r.tag = n then r.hi - r.lo else 0) + cnt n l) = sumc l n + cnt n l + _
    rw [sumc_cons r l ht n]
    by_cases e : r.tag = n
    · rw [if_pos e, if_neg (by omega), if_pos (by omega)]; omega
    · by_cases e2 : r.tag < n
      · rw [if_neg e, if_pos e2, if_pos (by omega)]; omega
      · rw [if_neg e, if_neg e2, if_neg (by omega)]; omega
theorem sumc_all {f : Int → Int} : ∀ {l : List R} {a b : Int}, Fits f a l b → (∀ r ∈ l, 0 ≤ r.tag ∧ r.tag < 16) → sumc l 16 = b - a
  | [], a, b, h, _ => by
    have h : a = b := h
    subst h
    show sumc [] 16 = _
    rw [show sumc [] 16 = 0 by decide]; omega
  | r :: l, a, b, h, ht => by
    have h0 := ht r (List.mem_cons_self ..)
    rw [sumc_cons r l h0.1, sumc_all h.2.2.2 (fun x hx => ht x (List.mem_cons_of_mem _ hx)), if_pos (show r.tag < (16 : Nat) by omega)]
    have := h.1
    omega
theorem sumc_nn {l : List R} (h : ∀ k : Nat, 0 ≤ cnt k l) : ∀ n m : Nat, n ≤ m → sumc l n ≤ sumc l m
  | n, 0, hnm => by rw [Nat.le_zero.1 hnm]; exact Int.le_refl _
  | n, m + 1, hnm => by
    by_cases e : n = m + 1
    · rw [e]; exact Int.le_refl _
    · have := sumc_nn h n m (by omega)
      have h2 := h m
      show _ ≤ sumc l m + cnt m l
      omega
/-- a list of runs lies at a slice -/
def IsRs (base : Nat) (W : World) (v : Value) (l : List R) : Prop :=
  ∃ ao c, v = .slice ao l.length c ∧ (0 < l.length → ∃ B, ao = some ⟨B, 0, none⟩ ∧ (base ≤ B ∧ B < W.heap.size) ∧ ∀ j (h : j < l.length),
    W.cell? ⟨B, j * 3, none⟩ = some (.int .i64 l[j].lo) ∧ W.cell? ⟨B, j * 3 + 1, none⟩ = some (.int .i64 l[j].hi) ∧ W.cell? ⟨B, j * 3 + 2, none⟩ = some (.int .i64 l[j].tag))
theorem IsRs.below {base : Nat} {W W' : World} {v : Value} {l : List R} (h : IsRs base W v l) (hb : Below W.heap.size W W') : IsRs base W' v l := by
  obtain ⟨ao, c, hv, h⟩ := h
  refine ⟨ao, c, hv, fun hp => ?_⟩
  obtain ⟨B, e, hB, hc⟩ := h hp
  refine ⟨B, e, ⟨hB.1, Nat.lt_of_lt_of_le hB.2 hb.size⟩, fun j hj => ?_⟩
  obtain ⟨h0, h1, h2⟩ := hc j hj
  exact ⟨(hb.cell (p := ⟨B, _, none⟩) hB.2).trans h0, (hb.cell (p := ⟨B, _, none⟩) hB.2).trans h1, (hb.cell (p := ⟨B, _, none⟩) hB.2).trans h2⟩
theorem IsRs.set {base : Nat} {W : World} {v : Value} {l : List R} (h : IsRs base W v l) (p : Addr) (hp : p.block < base) (x : Value) : IsRs base (W.setCell p x) v l := by
  obtain ⟨ao, c, hv, h⟩ := h
  refine ⟨ao, c, hv, fun hl => ?_⟩
  obtain ⟨B, e, hB, hc⟩ := h hl
  refine ⟨B, e, ⟨hB.1, by rw [World.size_setCell]; exact hB.2⟩, fun j hj => ?_⟩
  obtain ⟨h0, h1, h2⟩ := hc j hj
  have hne : ∀ q : Addr, q.block = B → q ≠ p := fun q e1 e2 => by rw [← e2, e1] at hp; omega
  exact ⟨(World.cell?_setCell_other _ _ _ _ (hne _ rfl).symm).trans h0, (World.cell?_setCell_other _ _ _ _ (hne _ rfl).symm).trans h1, (World.cell?_setCell_other _ _ _ _ (hne _ rfl).symm).trans h2⟩
theorem encL_get : ∀ (l : List R) (j : Nat) (h : j < l.length), (l.flatMap encL)[j * 3]? = some (.int .i64 l[j].lo) ∧ (l.flatMap encL)[j * 3 + 1]? = some (.int .i64 l[j].hi) ∧ (l.flatMap encL)[j * 3 + 2]? = some (.int .i64 l[j].tag)
  | r :: l, 0, _ => ⟨rfl, rfl, rfl⟩
  | r :: l, j + 1, h => by
    have ih := encL_get l j (by simpa using h)
    have e : ∀ i, ((r :: l).flatMap encL)[i + 3]? = (l.flatMap encL)[i]? := fun i => rfl
    rw [show (j + 1) * 3 = j * 3 + 3 by omega, show j * 3 + 3 + 1 = j * 3 + 1 + 3 by omega, show j * 3 + 3 + 2 = j * 3 + 2 + 3 by omega, e, e, e]
    exact ih
theorem add_zero' (g j : Nat) : (⟨g, 0, none⟩ : Addr).add j = ⟨g, j, none⟩ := by
  by_cases e : j = 0
  · subst e; rfl
  · simp [Addr.add, e]
theorem IsRs.of_row {W : World} {base : Nat} {v : Value} {l : List R} (h : W.ownsRow base 64 3 v l.length (l.flatMap encL)) : IsRs base W v l := by
  have hcs := fun g hg => h.cells (g := g) hg
  have hlt := h.lt
  rcases h.2 with ⟨rfl, h0⟩ | ⟨g, cap, cur, rfl, _⟩
  · exact ⟨none, 0, by rw [h0], fun hp => by omega⟩
  · refine ⟨some ⟨g, 0, none⟩, cap, rfl, fun hp => ⟨g, rfl, hlt g rfl, fun j hj => ?_⟩⟩
    obtain ⟨e0, e1, e2⟩ := encL_get l j hj
    have c0 := hcs g rfl _ _ e0
    have c1 := hcs g rfl _ _ e1
    have c2 := hcs g rfl _ _ e2
    rw [add_zero'] at c0 c1 c2
    exact ⟨c0, c1, c2⟩
/-- an array of sixteen counts -/
structure Arr (B : Nat) (g : Nat → Int) (W : World) : Prop where
  c : ∀ k, k < 16 → W.cell? ⟨B, k, none⟩ = some (.int .i64 (g k))
  f : ∀ k, k < 16 → W.frozen? ⟨B, k, none⟩ = false
  lt : B < W.heap.size
theorem Arr.next {B : Nat} {g : Nat → Int} {W W' : World} (h : Arr B g W) (hb : Below W.heap.size W W') : Arr B g W' :=
  ⟨fun k hk => (hb.cell (p := ⟨B, k, none⟩) h.lt).trans (h.c k hk), fun k hk => (hb.frozen (p := ⟨B, k, none⟩) h.lt).trans (h.f k hk), Nat.lt_of_lt_of_le h.lt hb.size⟩
theorem Arr.put {B : Nat} {g g' : Nat → Int} {W : World} (h : Arr B g W) (t : Nat) (x : Int) (ht : t < 16) (e : ∀ k, k < 16 → g' k = if k = t then x else g k) : Arr B g' (W.setCell ⟨B, t, none⟩ (.int .i64 x)) := by
  refine ⟨fun k hk => ?_, fun k hk => (World.frozen?_setCell _ _ _ _).trans (h.f k hk), by rw [World.size_setCell]; exact h.lt⟩
  rw [e k hk]
  by_cases hkt : k = t
  · subst hkt
    rw [if_pos rfl]
    exact World.cell?_setCell_same _ _ _ (h.c k hk)
  · rw [if_neg hkt]
    exact (World.cell?_setCell_other _ _ _ _ (by intro e; injection e with _ e2; exact hkt e2.symm)).trans (h.c k hk)
theorem Arr.same {B : Nat} {g g' : Nat → Int} {W : World} (h : Arr B g W) (e : ∀ k, k < 16 → g' k = g k) : Arr B g' W := ⟨fun k hk => by rw [e k hk]; exact h.c k hk, h.f, h.lt⟩
end Go.Proofs.Ytjbenhmpeceaeaa
namespace Go.Proofs.Ytjbenhmpeceaeaa
open Go Go.RowKit Gs

/-- the runs with one behind them: of the same tag it is a part of the last one -/
def joinL (l : List R) (x : R) : List R :=
  if x.hi ≤ x.lo then l else match l.getLast? with
    | some y => if y.tag = x.tag then l.dropLast ++ [⟨y.lo, x.hi, x.tag⟩] else l ++ [x]
    | none => [x]
abbrev rowR (W : World) (base : Nat) (v : Value) (l : List R) : Prop := W.ownsRow base 64 3 v l.length (l.flatMap encL)
theorem row_snoc {W : World} {base : Nat} {v : Value} {l : List R} {x : R} (h : W.ownsRow base 64 3 v (l.length + 1) (l.flatMap encL ++ encL x)) : rowR W base v (l ++ [x]) := by
  unfold rowR
  rw [List.length_append, List.length_singleton, List.flatMap_append, List.flatMap_singleton]
  exact h
/-- what Join leaves: the list owns its row, what lay below base lies, what is not the old row's lies, and the new row is the old one's or new -/
structure JP (W : World) (base : Nat) (v : Value) (l : List R) (v' : Value) (w' : World) : Prop where
  own : rowR w' base v' l
  bel : Below base W w'
  keep : ∀ k, k < W.heap.size → some k ≠ v.ownBlock → w'.heap[k]? = W.heap[k]?
  at' : ∀ k, v'.ownBlock = some k → v.ownBlock = some k ∨ W.heap.size ≤ k
theorem row_mono {W : World} {base base' : Nat} {e : TypeId} {size : Nat} {v : Value} {n : Nat} {xs : List Value} (h : W.ownsRow base e size v n xs) (hb : base' ≤ base) : W.ownsRow base' e size v n xs := by
  refine ⟨h.1, ?_⟩
  rcases h.2 with h2 | ⟨g, cap, cur, h2, h3, h4⟩
  · exact .inl h2
  · exact .inr ⟨g, cap, cur, h2, Nat.le_trans hb h3, h4⟩
set_option maxHeartbeats 1000000 in
theorem Join_no {base : Nat} {v : Value} {l : List R} (xa xb xc : Int) {W : World} (h : rowR W base v l) (hx : xb ≤ xa) (hb : base ≤ W.heap.size) :
    Calls Try.prog 49 #[v, .agg #[.int .i64 xa, .int .i64 xb, .int .i64 xc]] W fun e w' => ∃ v', e = .returned v' ∧ Hid (JP W base v l v' w') := by
  have hge : xa ≥ xb := hx
  have HR : Hid (∀ o, JP W base v l v (W.alloc o)) := fun o => ⟨h.alloc o, (Below.refl _ _).alloc hb _, fun k hk _ => ((Below.refl W.heap.size W).alloc (Nat.le_refl _) o).block k hk, fun k hk => .inl hk⟩
  obtain ⟨a, c, rfl⟩ := own_slice h
  clear h hx
  go_enter Try.func49, Try.ntmps49
  go_wp2_with fail
  go_ret
  exact ⟨_, rfl, HR.out _⟩
/-- what Join's walk carries: the new run's box, the list, all that lies below base -/
structure Jn (W : World) (base : Nat) (v : Value) (n : Nat) (xs : List Value) (xa xb xc : Int) (W' : World) : Prop where
  c0 : W'.cell? ⟨W.heap.size, 0, none⟩ = some (.int .i64 xa)
  c1 : W'.cell? ⟨W.heap.size, 1, none⟩ = some (.int .i64 xb)
  c2 : W'.cell? ⟨W.heap.size, 2, none⟩ = some (.int .i64 xc)
  own : W'.ownsRow base 64 3 v n xs
  bel : Below base W W'
  lt : W.heap.size < W'.heap.size
  bw : Below W.heap.size W W'
theorem Jn.new {W : World} {base : Nat} {v : Value} {n : Nat} {xs : List Value} (xa xb xc : Int) (h : W.ownsRow base 64 3 v n xs) (hb : base ≤ W.heap.size) : Jn W base v n xs xa xb xc (W.alloc (.cells #[.int .i64 xa, .int .i64 xb, .int .i64 xc] 64)) :=
  ⟨World.cell?_alloc_at _ _ _ _ rfl, World.cell?_alloc_at _ _ _ _ rfl, World.cell?_alloc_at _ _ _ _ rfl, h.alloc _, (Below.refl _ _).alloc hb _, by simp, (Below.refl _ _).alloc (Nat.le_refl _) _⟩
theorem Jn.next {W W' W2 : World} {base : Nat} {v : Value} {n : Nat} {xs : List Value} {xa xb xc : Int} (h : Jn W base v n xs xa xb xc W') (hb : Below W'.heap.size W' W2) (ho : W2.ownsRow base 64 3 v n xs) (hw : base ≤ W.heap.size) : Jn W base v n xs xa xb xc W2 :=
  ⟨(hb.cell (p := ⟨W.heap.size, 0, none⟩) h.lt).trans h.c0, (hb.cell (p := ⟨W.heap.size, 1, none⟩) h.lt).trans h.c1, (hb.cell (p := ⟨W.heap.size, 2, none⟩) h.lt).trans h.c2, ho, h.bel.trans (hb.mono (Nat.le_trans hw (Nat.le_of_lt h.lt))), Nat.lt_of_lt_of_le h.lt hb.size, h.bw.trans (hb.mono (Nat.le_of_lt h.lt))⟩
theorem row_drewN {W : World} {base : Nat} {e : TypeId} {size : Nat} {v : Value} {n : Nat} {xs : List Value} (h : W.ownsRow base e size v n xs) (k : Nat) : (W.drewN k).ownsRow base e size v n xs := by
  have e1 : (W.drewN k).heap = W.heap := by simp
  unfold World.ownsRow at h ⊢
  rw [e1]
  exact h
theorem Jn.drewN {W W' : World} {base : Nat} {v : Value} {n : Nat} {xs : List Value} {xa xb xc : Int} (h : Jn W base v n xs xa xb xc W') (hw : base ≤ W.heap.size) (k : Nat) : Jn W base v n xs xa xb xc (W'.drewN k) :=
  h.next (below_drewN (Below.refl _ _) k) (row_drewN h.own k) hw
set_option maxHeartbeats 1000000 in
theorem Join_add {base : Nat} {v : Value} {l : List R} (xa xb xc : Int) {W : World} (h : rowR W base v l) (hx : xa < xb) (hb : base ≤ W.heap.size) (hl : l.length ≤ 100000) (hy : ∀ y, l.getLast? = some y → y.tag ≠ xc) :
    Calls Try.prog 49 #[v, .agg #[.int .i64 xa, .int .i64 xb, .int .i64 xc]] W fun e w' => ∃ v', e = .returned v' ∧ Hid (JP W base v (l ++ [⟨xa, xb, xc⟩]) v' w') := by
  obtain ⟨i0, hi, hz0, hz1, hz2⟩ := info_parts infoRun
  have hlt : ¬ xa ≥ xb := by omega
  have hown := h
  obtain ⟨a, c, rfl⟩ := own_slice h
  unfold rowR at hown
  obtain ⟨n, hn⟩ : ∃ n, n = l.length := ⟨_, rfl⟩
  rw [← hn] at hown ⊢
  have hml : n + 1 ≤ maxLen := by unfold maxLen; omega
  have hmb : (n + 1) * 24 ≤ 140737488355328 := by omega
  obtain ⟨W1, HW1⟩ : ∃ W1, W1 = W.alloc (.cells #[.int .i64 xa, .int .i64 xb, .int .i64 xc] 64) := ⟨_, rfl⟩
  have HJ : Hid (Jn W base (.slice a n c) n (l.flatMap encL) xa xb xc W1) := by rw [HW1]; exact Jn.new xa xb xc hown hb
  have HW1' := Lib.hid HW1
  have HN := Lib.hid hn
  have HTO : Hid (∀ (W' : World) v', W'.ownsRow base 64 3 v' (n + 1) (l.flatMap encL ++ encL ⟨xa, xb, xc⟩) → rowR W' base v' (l ++ [⟨xa, xb, xc⟩])) := fun W' v' h => row_snoc (by rw [← hn]; exact h)
  clear HW1 hn hl hown
  rcases List.eq_nil_or_concat l with rfl | ⟨l', y, hl'⟩
  · obtain rfl : n = 0 := HN.out
    have k0 := HJ.out.c0; have k1 := HJ.out.c1; have k2 := HJ.out.c2
    clear HN hy h
    go_enter Try.func49, Try.ntmps49
    go_upto_region 1 with fail
    rw [← HW1'.out]
    go_wp2_with fail
    go_quiet (fail)
    rename_i nq
    have hj := HJ.out.drewN hb nq
    clear k0 k1 k2
    generalize hw : World.drewN _ nq = w2 at hj ⊢
    clear hw
    have k0 := hj.c0; have k1 := hj.c1; have k2 := hj.c2
    have hown := hj.own
    have HLT := Lib.hid hj.own.lt
    have hsz : base ≤ w2.heap.size := Nat.le_trans hb (Nat.le_of_lt hj.lt)
    have HJ2 := Lib.hid hj
    clear hj
    go_wp2_with (at_builtin; refine wpList_append_own_at _ rfl _ _ 31 rfl base 64 i0 (.agg #[.int .i64 0, .int .i64 0, .int .i64 0]) 3 24 Try.underlying31 hi hz0 hz1 hz2 rfl (by decide) _ _ _ rfl (hown.alloc _) ⟨w2.heap.size, 0, none⟩ 1 1 [.int .i64 xa, .int .i64 xb, .int .i64 xc] rfl rfl ?c1 ?c2 ?c3 ?c4 ?c5 ?_)
    case c1 => exact cells3_new _ _ _ _ _
    case c2 => intro u hu; simp at hu; rcases hu with rfl | rfl | rfl <;> rfl
    case c3 => exact hml
    case c4 => exact hmb
    case c5 => simp; omega
    intro v' w4 hown4 hgrow _ hat
    have HF : Hid (JP W base (.slice a 0 c) ([] ++ [⟨xa, xb, xc⟩]) v' w4) := ⟨HTO.out w4 v' hown4, (HJ2.out.bel.alloc hsz _).grown hgrow (by simp; omega) (fun j hj => (HLT.out _ hj).1),
      fun k hk hne => (hgrow.block k (Nat.lt_of_lt_of_le (Nat.lt_trans hk HJ2.out.lt) (by rw [World.size_alloc]; exact Nat.le_succ _)) hne).trans ((((Below.refl w2.heap.size w2).alloc (Nat.le_refl _) _).block k (Nat.lt_trans hk HJ2.out.lt)).trans (HJ2.out.bw.block k hk)),
      fun k hk => by
        rcases hat with h1 | h1
        · exact .inl (h1.symm.trans hk)
        · rw [h1] at hk
          injection hk with hk
          exact .inr (by have := HJ2.out.lt; omega)⟩
    clear hown4 hgrow hown k0 k1 k2 hat
    go_wp2_with fail
    go_ret
    exact ⟨_, rfl, HF.out⟩
  · rw [List.concat_eq_append] at hl'
    subst hl'
    obtain ⟨m, hm⟩ : ∃ m, m = l'.length := ⟨_, rfl⟩
    obtain rfl : n = m + 1 := by rw [HN.out, hm]; simp
    have hrs := IsRs.of_row (show W1.ownsRow base 64 3 (.slice a (m + 1) c) (l' ++ [y]).length ((l' ++ [y]).flatMap encL) by rw [← HN.out]; exact HJ.out.own)
    obtain ⟨a', c', hv, hcs⟩ := hrs
    obtain ⟨G, e1, -, hcs2⟩ := hcs (by simp)
    clear hcs
    injection hv with hv1 hv2 hv3
    clear hv2 hv3
    subst hv1
    subst e1
    have hlast := (hcs2 m (by rw [hm]; simp)).2.2
    have hlv : (l' ++ [y])[m]'(by rw [hm]; simp) = y := by subst hm; simp
    rw [hlv] at hlast
    have hne : (y.tag == xc) = false := beq_eq_false_iff_ne.2 (hy y (by simp))
    have hw1 : IntKind.i64.wrap (((m + 1 : Nat) : Int) - 1) = (m : Int) := by rw [show (((m + 1 : Nat) : Int) - 1) = (m : Int) by omega]; exact IntWalk.i64_in _ (by unfold maxLen at hml; omega)
    have hgt : ((m + 1 : Nat) : Int) > 0 := by omega
    have k0 := HJ.out.c0; have k1 := HJ.out.c1; have k2 := HJ.out.c2
    clear HN hy h hcs2 hlv hm
    generalize y.tag = yt at *
    go_enter Try.func49, Try.ntmps49
    go_upto_region 1 with fail
    rw [← HW1'.out]
    go_wp2_with fail
    go_quiet (fail)
    rename_i nq
    have hj := HJ.out.drewN hb nq
    clear k0 k1 k2 hlast
    generalize hw : World.drewN _ nq = w2 at hj ⊢
    clear hw
    have k0 := hj.c0; have k1 := hj.c1; have k2 := hj.c2
    have hown := hj.own
    have HLT := Lib.hid hj.own.lt
    have hsz : base ≤ w2.heap.size := Nat.le_trans hb (Nat.le_of_lt hj.lt)
    have HJ2 := Lib.hid hj
    clear hj
    go_wp2_with (at_builtin; refine wpList_append_own_at _ rfl _ _ 31 rfl base 64 i0 (.agg #[.int .i64 0, .int .i64 0, .int .i64 0]) 3 24 Try.underlying31 hi hz0 hz1 hz2 rfl (by decide) _ _ _ rfl (hown.alloc _) ⟨w2.heap.size, 0, none⟩ 1 1 [.int .i64 xa, .int .i64 xb, .int .i64 xc] rfl rfl ?c1 ?c2 ?c3 ?c4 ?c5 ?_)
    case c1 => exact cells3_new _ _ _ _ _
    case c2 => intro u hu; simp at hu; rcases hu with rfl | rfl | rfl <;> rfl
    case c3 => exact hml
    case c4 => exact hmb
    case c5 => simp; omega
    intro v' w4 hown4 hgrow _ hat
    have HF : Hid (JP W base (.slice (some ⟨G, 0, none⟩) (m + 1) c) (l' ++ [y] ++ [⟨xa, xb, xc⟩]) v' w4) := ⟨HTO.out w4 v' (by rw [List.flatMap_append, List.flatMap_singleton, List.append_assoc]; exact hown4), (HJ2.out.bel.alloc hsz _).grown hgrow (by simp; omega) (fun j hj => (HLT.out _ hj).1),
      fun k hk hne => (hgrow.block k (Nat.lt_of_lt_of_le (Nat.lt_trans hk HJ2.out.lt) (by rw [World.size_alloc]; exact Nat.le_succ _)) hne).trans ((((Below.refl w2.heap.size w2).alloc (Nat.le_refl _) _).block k (Nat.lt_trans hk HJ2.out.lt)).trans (HJ2.out.bw.block k hk)),
      fun k hk => by
        rcases hat with h1 | h1
        · exact .inl (h1.symm.trans hk)
        · rw [h1] at hk
          injection hk with hk
          exact .inr (by have := HJ2.out.lt; omega)⟩
    clear hown4 hgrow hown k0 k1 k2 hat
    go_wp2_with fail
    go_ret
    exact ⟨_, rfl, HF.out⟩
/-- an append as one step of a drawn region -/
theorem step_append_row {P : Program} {ops : Array Oper} {o : Oper} {a : Act} {w : World} {K : Act → World → Prop} {Q : Exit → Act → World → Prop} {E : Prop} (hg : o.guard = none) (s x : Operand) (t : TypeId)
    (ho : o.op = Op.call { callee := Callee.builtin Builtin.append, args := #[s, x], argTypes := #[t, t] })
    (base : Nat) (e : TypeId) (i : TypeInfo) (z : Value) (size bytes : Nat) (ht : P.underlying t = some (.slice e)) (hi : P.info? e = some i) (hz : i.zero = some z)
    (hsize : i.size = size) (hby : i.bytes = bytes) (hzs : z.cells.size = size) (hsz : 0 < size)
    (v : Value) (n : Nat) (xs : List Value) (hs : a.eval s = v) (hown : w.ownsRow base e size v n xs)
    (ad : Addr) (m c : Nat) (news : List Value) (hx : a.eval x = .slice (some ad) m c) (hl : news.length = m * size) (hnews : ∀ j u, news[j]? = some u → w.cell? (ad.add j) = some u) (h1 : ∀ u ∈ news, u.oneCell' = true)
    (h63 : n + m ≤ maxLen) (hbytes : (n + m) * bytes ≤ 140737488355328) (hbase : base ≤ w.heap.size)
    (hK : ∀ v' w', w'.ownsRow base e size v' (n + m) (xs ++ news) → w.grownBy w' v.ownBlock → (v' = .slice none 0 0 ↔ v = .slice none 0 0 ∧ m = 0) → K (a.put o.dst v') w') :
    if Region.wanted o (yielded ops a.tmps) = true then Oper.wp P o a w K Q else E := by
  have hw : Region.wanted o (yielded ops a.tmps) = true := by simp [Region.wanted, hg]
  rw [if_pos hw]
  exact wp_append_own w s x t ho base e i z size bytes ht hi hz hsize hby hzs hsz v n xs hs hown ad m c news hx hl hnews h1 h63 hbytes hbase hK
theorem encL_one (l : List R) : ∀ u ∈ l.flatMap encL, u.oneCell' = true := by
  intro u hu
  obtain ⟨r, _, hr⟩ := List.mem_flatMap.1 hu
  simp [encL] at hr
  rcases hr with rfl | rfl | rfl <;> rfl
theorem encL_len (l : List R) : (l.flatMap encL).length = l.length * 3 := by
  induction l with
  | nil => rfl
  | cons r l ih => rw [List.flatMap_cons, List.length_append, ih, List.length_cons]; simp [encL]; omega
set_option maxRecDepth 100000 in
set_option maxHeartbeats 2000000 in
theorem Join_same {base : Nat} {v : Value} {l' : List R} {y : R} (xa xb xc : Int) {W : World} (h : rowR W base v (l' ++ [y])) (hx : xa < xb) (hb : base ≤ W.heap.size) (hl : l'.length ≤ 100000) (hy : y.tag = xc) :
    Calls Try.prog 49 #[v, .agg #[.int .i64 xa, .int .i64 xb, .int .i64 xc]] W fun e w' => ∃ v', e = .returned v' ∧ Hid (JP W base v (l' ++ [⟨y.lo, xb, xc⟩]) v' w') := by
  obtain ⟨i0, hi, hz0, hz1, hz2⟩ := info_parts infoRun
  have hlt : ¬ xa ≥ xb := by omega
  obtain ⟨yl, yh, yt⟩ := y
  simp only at hy
  subst hy
  have hown := h
  have hcells := fun g hg => h.cells (g := g) hg
  rcases h.2 with ⟨_, h0⟩ | ⟨G, c, cur, rfl, hG, hGh, hcap, -⟩
  · rw [List.length_append] at h0; cases h0
  have hGl : G < W.heap.size := (Array.getElem?_eq_some_iff.1 hGh).1
  unfold rowR at hown
  obtain ⟨m, hm⟩ : ∃ m, m = l'.length := ⟨_, rfl⟩
  have hlen : (l' ++ [(⟨yl, yh, yt⟩ : R)]).length = m + 1 := by rw [hm]; simp
  rw [hlen] at hown hcap ⊢
  obtain ⟨W1, HW1⟩ : ∃ W1, W1 = W.alloc (.cells #[.int .i64 xa, .int .i64 xb, .int .i64 yt] 64) := ⟨_, rfl⟩
  have hj := Jn.new xa xb yt hown hb
  rw [← HW1] at hj
  have HJ := Lib.hid hj
  have HW1' := Lib.hid HW1
  -- the cells of the list, in every later world
  have HCL : Hid (∀ (W' : World), Below W.heap.size W W' → (∀ j u, (l'.flatMap encL)[j]? = some u → W'.cell? ((⟨G, 0, none⟩ : Addr).add j) = some u) ∧ W'.cell? ⟨G, m * 3, none⟩ = some (.int .i64 yl) ∧ W'.cell? ⟨G, m * 3 + 2, none⟩ = some (.int .i64 yt)) := fun W' hb' => by
    have hk : ∀ j u, ((l' ++ [(⟨yl, yh, yt⟩ : R)]).flatMap encL)[j]? = some u → W'.cell? ⟨G, j, none⟩ = some u := fun j u hu => by
      have := hcells G rfl j u hu
      rw [add_zero'] at this
      exact (hb'.cell (p := ⟨G, j, none⟩) hGl).trans this
    obtain ⟨g0, _, g2⟩ := encL_get (l' ++ [(⟨yl, yh, yt⟩ : R)]) m (by rw [hlen]; omega)
    have e1 : (l' ++ [(⟨yl, yh, yt⟩ : R)])[m]'(by rw [hlen]; omega) = ⟨yl, yh, yt⟩ := by subst hm; simp
    rw [e1] at g0 g2
    refine ⟨fun j u hu => ?_, hk _ _ g0, hk _ _ g2⟩
    rw [add_zero']
    refine hk j u ?_
    rw [List.flatMap_append, List.getElem?_append_left (List.getElem?_eq_some_iff.1 hu).1]
    exact hu
  have hml : m + 1 ≤ maxLen := by unfold maxLen; omega
  have hmb : (m + 1) * 24 ≤ 140737488355328 := by omega
  have hw1 : IntKind.i64.wrap (((m + 1 : Nat) : Int) - 1) = (m : Int) := by rw [show (((m + 1 : Nat) : Int) - 1) = (m : Int) by omega]; exact IntWalk.i64_in _ (by omega)
  have hgt : ((m + 1 : Nat) : Int) > 0 := by omega
  have hw2 : IntKind.i64.wrap ((m : Int) + 1 - 1) = (m : Int) := by rw [show ((m : Int) + 1 - 1) = (m : Int) by omega]; exact IntWalk.i64_in _ (by omega)
  have hw3 : IntKind.i64.wrap (m : Int) = (m : Int) := IntWalk.i64_in _ (by omega)
  have hi1 : (0 : Int) ≤ (m : Int) := by omega
  have hi2 : (m : Int) < ((m + 1 : Nat) : Int) := by omega
  have hi3 : (m : Int) < (m : Int) + 1 := by omega
  have hmc : (m : Int) ≤ (c : Int) := by omega
  have HLL : Hid ((l'.flatMap encL).length = m * 3) := by show _ = _; rw [hm]; exact encL_len l'
  have HTO : Hid (∀ (W' : World) v', W'.ownsRow base 64 3 v' (m + 1) (l'.flatMap encL ++ encL ⟨yl, xb, yt⟩) → rowR W' base v' (l' ++ [⟨yl, xb, yt⟩])) := fun W' v' h => row_snoc (by rw [← hm]; exact h)
  have HONE := Lib.hid (encL_one l')
  have hlast := (HCL.out W1 (by rw [HW1]; exact (Below.refl _ _).alloc (Nat.le_refl _) _)).2.2
  have hBW1 : Hid (Below W.heap.size W W1) := by rw [HW1]; exact (Below.refl _ _).alloc (Nat.le_refl _) _
  have k0 := HJ.out.c0; have k1 := HJ.out.c1; have k2 := HJ.out.c2
  clear hj HW1 hm h hcells hown hlen hGh hl
  go_enter Try.func49, Try.ntmps49
  go_upto_region 1 with fail
  rw [← HW1'.out]
  go_wp2_with fail
  go_quiet (fail)
  rename_i nq
  have hj := HJ.out.drewN hb nq
  have hb2 : Below W.heap.size W (W1.drewN nq) := hBW1.out.trans (below_drewN (Below.refl _ _) nq)
  clear k0 k1 k2 hlast
  generalize hw : World.drewN _ nq = w2 at hj hb2 ⊢
  clear hw
  have k1 := hj.c1; have k2 := hj.c2
  have HJ2 := Lib.hid hj
  have HB2 := Lib.hid hb2
  have hsz : base ≤ w2.heap.size := Nat.le_trans hb (Nat.le_of_lt hj.lt)
  clear hj hb2
  go_wp2_with (at_builtin; refine wpList_append_own _ rfl _ _ 31 rfl w2.heap.size 64 i0 (.agg #[.int .i64 0, .int .i64 0, .int .i64 0]) 3 24 Try.underlying31 hi hz0 hz1 hz2 rfl (by decide) _ _ _ rfl (World.ownsRow_nil _ _ _ _) ⟨G, 0, none⟩ m c (l'.flatMap encL) rfl ?c0 ?c1 ?c2 ?c3 ?c4 ?c5 ?_)
  case c0 => exact HLL.out
  case c1 => exact (HCL.out _ HB2.out).1
  case c2 => exact HONE.out
  case c3 => omega
  case c4 => omega
  case c5 => exact Nat.le_refl _
  intro v5 w5 hown5' hgrow5 _
  have hown5 : w5.ownsRow w2.heap.size 64 3 v5 m (l'.flatMap encL) := by simpa using hown5'
  have hb5 : Below W.heap.size W w5 := HB2.out.grown hgrow5 (Nat.le_of_lt HJ2.out.lt) (fun j e => by cases e)
  have x1 : w5.cell? ⟨W.heap.size, 1, none⟩ = some (.int .i64 xb) := hgrow5.cell k1 (fun e => by cases e)
  have x2 : w5.cell? ⟨W.heap.size, 2, none⟩ = some (.int .i64 yt) := hgrow5.cell k2 (fun e => by cases e)
  have x3 := (HCL.out w5 hb5).2.1
  have hlt5 : W.heap.size < w5.heap.size := Nat.lt_of_lt_of_le HJ2.out.lt hgrow5.size
  have HLT5 := Lib.hid hown5.lt
  have hs25 : w2.heap.size ≤ w5.heap.size := hgrow5.size
  obtain ⟨a5, c5, rfl⟩ := own_slice hown5
  have HAL : Hid (∀ o, (w5.drew.alloc o).cell? ⟨W.heap.size, 1, none⟩ = some (.int .i64 xb) ∧ (w5.drew.alloc o).cell? ⟨W.heap.size, 2, none⟩ = some (.int .i64 yt) ∧ (w5.drew.alloc o).cell? ⟨G, m * 3, none⟩ = some (.int .i64 yl)) := fun o => by
    have hb' : Below w5.heap.size w5 (w5.drew.alloc o) := (Below.refl _ _).drew.alloc (by show w5.heap.size ≤ w5.heap.size; exact Nat.le_refl _) _
    exact ⟨(hb'.cell (p := ⟨W.heap.size, 1, none⟩) hlt5).trans x1, (hb'.cell (p := ⟨W.heap.size, 2, none⟩) hlt5).trans x2, (hb'.cell (p := ⟨G, m * 3, none⟩) (Nat.lt_trans hGl hlt5)).trans x3⟩
  have HONE3 : Hid (∀ x y z : Int, ∀ u ∈ [Value.int .i64 x, .int .i64 y, .int .i64 z], u.oneCell' = true) := by intro x y z u hu; simp at hu; rcases hu with rfl | rfl | rfl <;> rfl
  have HSZ : Hid (∀ o, w2.heap.size ≤ (w5.drew.alloc o).heap.size) := fun o => Nat.le_trans hs25 (by rw [World.size_alloc]; exact Nat.le_succ _)
  have HG2 : Hid (W.heap.size < w2.heap.size ∧ G < w2.heap.size) := ⟨HJ2.out.lt, Nat.lt_trans hGl HJ2.out.lt⟩
  have HB5 : Hid (Below base W w5) := HJ2.out.bel.grown hgrow5 hsz (fun j e => by cases e)
  have HBW5 := Lib.hid hb5
  clear hown5' hgrow5 hb5 k1 k2
  have hc5 : w5.cell? ⟨W.heap.size, 1, none⟩ = some (.int .i64 xb) ∧ w5.cell? ⟨W.heap.size, 2, none⟩ = some (.int .i64 yt) ∧ w5.cell? ⟨G, m * 3, none⟩ = some (.int .i64 yl) := ⟨x1, x2, x3⟩
  have hcd : w5.drew.cell? ⟨W.heap.size, 1, none⟩ = some (.int .i64 xb) ∧ w5.drew.cell? ⟨W.heap.size, 2, none⟩ = some (.int .i64 yt) ∧ w5.drew.cell? ⟨G, m * 3, none⟩ = some (.int .i64 yl) := hc5
  go_wp2_with fail
  go_region_held3 (fun W' : World => W'.cell? ⟨W.heap.size, 1, none⟩ = some (.int .i64 xb) ∧ W'.cell? ⟨W.heap.size, 2, none⟩ = some (.int .i64 yt) ∧ W'.cell? ⟨G, m * 3, none⟩ = some (.int .i64 yl)) (first | assumption | exact HAL.out _ | fail) (first
    | (refine step_append_row rfl (.tmp 34) (.tmp 46) 31 rfl w2.heap.size 64 i0 (.agg #[.int .i64 0, .int .i64 0, .int .i64 0]) 3 24 Try.underlying31 hi hz0 hz1 hz2 rfl (by decide) _ _ _ (by rfl) (hown5.drew.alloc _) ⟨w5.heap.size, 0, none⟩ 1 1 [_, _, _] rfl rfl (cells3_new _ _ _ _ _) (HONE3.out _ _ _) hml hmb (HSZ.out _) ?_; intro v6 w6 hown6 hgrow6 hnil6; have hca6 : w6.cell? ⟨W.heap.size, 1, none⟩ = some (.int .i64 xb) ∧ w6.cell? ⟨W.heap.size, 2, none⟩ = some (.int .i64 yt) ∧ w6.cell? ⟨G, m * 3, none⟩ = some (.int .i64 yl) := ⟨hgrow6.cell (HAL.out _).1 (fun e => Nat.not_lt_of_le (HLT5.out _ e.symm).1 HG2.out.1), hgrow6.cell (HAL.out _).2.1 (fun e => Nat.not_lt_of_le (HLT5.out _ e.symm).1 HG2.out.1), hgrow6.cell (HAL.out _).2.2 (fun e => Nat.not_lt_of_le (HLT5.out _ e.symm).1 HG2.out.2)⟩) | fail)
  have HF : Hid (JP W base (.slice (some ⟨G, 0, none⟩) (m + 1) c) (l' ++ [⟨yl, xb, yt⟩]) v6 w6) := ⟨HTO.out w6 v6 (row_mono hown6 hsz), (HB5.out.drew.alloc (Nat.le_trans hsz hs25) _).grown hgrow6 (Nat.le_trans hsz (HSZ.out _)) (fun j hj => Nat.le_trans hsz (HLT5.out _ hj).1),
    fun k hk _ => (hgrow6.block k (Nat.lt_of_lt_of_le (Nat.lt_trans hk HG2.out.1) (HSZ.out _)) (fun e => by have := (HLT5.out k e.symm).1; have := HG2.out.1; omega)).trans ((((Below.refl w5.heap.size w5).drew.alloc (by show w5.heap.size ≤ w5.heap.size; exact Nat.le_refl _) _).block k (Nat.lt_trans hk hlt5)).trans (HBW5.out.block k hk)),
    fun k hk => .inr (by have := (hown6.lt k hk).1; have := HG2.out.1; omega)⟩
  clear hown6 hgrow6 hown5 hca6 hcd hc5 x1 x2 x3
  go_wp2_with fail
  go_ret
  exact ⟨_, rfl, HF.out⟩
theorem Join_any {base : Nat} {v : Value} {l : List R} (x : R) {W : World} (h : rowR W base v l) (hb : base ≤ W.heap.size) (hl : l.length ≤ 100000) :
    Calls Try.prog 49 #[v, .agg #[.int .i64 x.lo, .int .i64 x.hi, .int .i64 x.tag]] W fun e w' => ∃ v', e = .returned v' ∧ Hid (JP W base v (joinL l x) v' w') := by
  obtain ⟨xa, xb, xc⟩ := x
  unfold joinL
  by_cases hx : xb ≤ xa
  · rw [if_pos hx]
    exact Join_no xa xb xc h hx hb
  · rw [if_neg hx]
    rcases List.eq_nil_or_concat l with rfl | ⟨l', y, hl'⟩
    · exact Join_add xa xb xc h (by omega) hb hl (fun y hy => by cases hy)
    · rw [List.concat_eq_append] at hl'
      subst hl'
      rw [List.getLast?_concat]
      by_cases ht : y.tag = xc
      · simp only
        rw [if_pos ht, List.dropLast_concat]
        exact Join_same xa xb xc h (by omega) hb (by simp at hl; omega) ht
      · simp only
        rw [if_neg ht]
        exact Join_add xa xb xc h (by omega) hb hl (fun z hz => by rw [List.getLast?_concat] at hz; cases hz; exact ht)
end Go.Proofs.Ytjbenhmpeceaeaa
namespace Go.Proofs.Ytjbenhmpeceaeaa
open Go Go.RowKit Gs

/-- a box of two cells -/
structure M2 (B : Nat) (x y : Value) (W' : World) : Prop where
  c0 : W'.cell? ⟨B, 0, none⟩ = some x
  c1 : W'.cell? ⟨B, 1, none⟩ = some y
  f0 : W'.frozen? ⟨B, 0, none⟩ = false
  f1 : W'.frozen? ⟨B, 1, none⟩ = false
  lt : B < W'.heap.size
section
variable {B : Nat} {x y : Value} {W' W2 : World}
theorem M2.next (h : M2 B x y W') (hb : Below W'.heap.size W' W2) : M2 B x y W2 :=
  ⟨(hb.cell (p := ⟨B, 0, none⟩) h.lt).trans h.c0, (hb.cell (p := ⟨B, 1, none⟩) h.lt).trans h.c1, (hb.frozen (p := ⟨B, 0, none⟩) h.lt).trans h.f0, (hb.frozen (p := ⟨B, 1, none⟩) h.lt).trans h.f1, Nat.lt_of_lt_of_le h.lt hb.size⟩
theorem M2.new (W : World) (x y : Value) (Ty : TypeId) : M2 W.heap.size x y (W.alloc (.cells #[x, y] Ty)) :=
  ⟨World.cell?_alloc_at _ _ _ _ rfl, World.cell?_alloc_at _ _ _ _ rfl, World.frozen?_alloc_at _ _ _ _ rfl, World.frozen?_alloc_at _ _ _ _ rfl, by simp⟩
theorem M2.put (h : M2 B x y W') (u v : Value) : M2 B u v ((W'.setCell ⟨B, 0, none⟩ u).setCell ⟨B, 1, none⟩ v) :=
  ⟨(World.cell?_setCell_other _ _ _ _ (by intro e; cases e)).trans (World.cell?_setCell_same _ _ _ h.c0), World.cell?_setCell_same _ _ _ ((World.cell?_setCell_other _ _ _ _ (by intro e; cases e)).trans h.c1),
   (World.frozen?_setCell _ _ _ _).trans ((World.frozen?_setCell _ _ _ _).trans h.f0), (World.frozen?_setCell _ _ _ _).trans ((World.frozen?_setCell _ _ _ _).trans h.f1), by rw [World.size_setCell, World.size_setCell]; exact h.lt⟩
end
theorem RUsable_any (s : Int) (a : Option Addr) (n c : Nat) (W : World) : Calls Try.prog 42 #[.agg #[.int .i64 s, .slice a n c]] W fun e w' => e = .returned (.bool (decide (0 < n))) ∧ Below W.heap.size W w' := by
  have HB : Hid (∀ o, Below W.heap.size W (W.alloc o)) := fun o => (Below.refl _ _).alloc (Nat.le_refl _) _
  go_enter Try.func42, Try.ntmps42
  go_wp2_with fail
  go_ret
  exact ⟨rfl, HB.out _⟩
theorem Rvalid_any (s lo hi : Int) (v : Value) (W : World) : Calls Try.prog 48 #[.agg #[.int .i64 s, v], .int .i64 lo, .int .i64 hi] W fun e w' => e = .returned (.bool (decide (0 ≤ lo ∧ lo ≤ hi ∧ hi ≤ s))) ∧ Below W.heap.size W w' := by
  have HB : Hid (∀ o, Below W.heap.size W (W.alloc o)) := fun o => (Below.refl _ _).alloc (Nat.le_refl _) _
  by_cases h1 : 0 ≤ lo
  · by_cases h2 : lo ≤ hi
    · by_cases h3 : hi ≤ s
      · have HE : Hid (decide (0 ≤ lo ∧ lo ≤ hi ∧ hi ≤ s) = true) := decide_eq_true ⟨h1, h2, h3⟩
        generalize decide (0 ≤ lo ∧ lo ≤ hi ∧ hi ≤ s) = d at *
        go_enter Try.func48, Try.ntmps48
        go_wp2_with fail
        go_ret
        exact ⟨by rw [HE.out]; rfl, HB.out _⟩
      · have HE : Hid (decide (0 ≤ lo ∧ lo ≤ hi ∧ hi ≤ s) = false) := decide_eq_false (fun h => h3 h.2.2)
        generalize decide (0 ≤ lo ∧ lo ≤ hi ∧ hi ≤ s) = d at *
        go_enter Try.func48, Try.ntmps48
        go_wp2_with fail
        go_ret
        exact ⟨by rw [HE.out]; rfl, HB.out _⟩
    · have HE : Hid (decide (0 ≤ lo ∧ lo ≤ hi ∧ hi ≤ s) = false) := decide_eq_false (fun h => h2 h.2.1)
      generalize decide (0 ≤ lo ∧ lo ≤ hi ∧ hi ≤ s) = d at *
      go_enter Try.func48, Try.ntmps48
      go_wp2_with fail
      go_ret
      exact ⟨by rw [HE.out]; rfl, HB.out _⟩
  · have HE : Hid (decide (0 ≤ lo ∧ lo ≤ hi ∧ hi ≤ s) = false) := decide_eq_false (fun h => h1 h.1)
    generalize decide (0 ≤ lo ∧ lo ≤ hi ∧ hi ≤ s) = d at *
    go_enter Try.func48, Try.ntmps48
    go_wp2_with fail
    go_ret
    exact ⟨by rw [HE.out]; rfl, HB.out _⟩
theorem RTag_any (t : Int) (W : World) : Calls Try.prog 51 #[.int .i64 t] W fun e w' => e = .returned (.bool (isT t)) ∧ W = w' := by
  by_cases h0 : 0 ≤ t
  · by_cases h1 : t < 16
    · have HE : Hid (isT t = true) := decide_eq_true ⟨h0, h1⟩
      have h2 : t ≥ 0 := h0
      go_enter Try.func51, Try.ntmps51
      go_wp2_with fail
      go_ret
      exact ⟨by rw [HE.out]; rfl, rfl⟩
    · have HE : Hid (isT t = false) := decide_eq_false (fun h => h1 h.2)
      have h2 : t ≥ 0 := h0
      go_enter Try.func51, Try.ntmps51
      go_wp2_with fail
      go_ret
      exact ⟨by rw [HE.out]; rfl, rfl⟩
  · have HE : Hid (isT t = false) := decide_eq_false (fun h => h0 h.1)
    have h2 : ¬ t ≥ 0 := h0
    go_enter Try.func51, Try.ntmps51
    go_wp2_with fail
    go_ret
    exact ⟨by rw [HE.out]; rfl, rfl⟩
/-- the boxes of a map and of a result behind it -/
theorem boxesR (W : World) (s : Int) (v : Value) (Ty : TypeId) : ∃ w0, w0 = (W.alloc (.cells #[.int .i64 s, v] Ty)).alloc (.cells #[.int .i64 0, .slice none 0 0] Ty) ∧ M2 W.heap.size (.int .i64 s) v w0 ∧ M2 (W.heap.size + 1) (.int .i64 0) (.slice none 0 0) w0 ∧ Below W.heap.size W w0 := by
  have h1 := M2.new W (.int .i64 s) v Ty
  have h2 := M2.new (W.alloc (.cells #[.int .i64 s, v] Ty)) (.int .i64 0) (.slice none 0 0) Ty
  rw [show (W.alloc (.cells #[.int .i64 s, v] Ty)).heap.size = W.heap.size + 1 by simp] at h2
  exact ⟨_, rfl, h1.next ((Below.refl _ _).alloc (Nat.le_refl _) _), h2, ((Below.refl _ _).alloc (Nat.le_refl _) _).alloc (by simp) _⟩
set_option maxHeartbeats 1000000 in
theorem Rfull_any (s : Int) (u : Value) (a : Option Addr) (n c : Nat) (W : World) : Calls Try.prog 65 #[.agg #[.int .i64 s, u], .slice a n c] W fun e w' => ∃ s' v e2, e = .returned (.tuple #[.agg #[.int .i64 s', v], .int .i64 e2]) ∧ Hid ((4096 < n ∧ s' = 0 ∧ v = .slice none 0 0 ∧ e2 = 5) ∨ (n ≤ 4096 ∧ s' = s ∧ v = .slice a n c ∧ e2 = 0)) ∧ Below W.heap.size W w' ∧ ∀ k, k < W.heap.size → w'.heap[k]? = W.heap[k]? := by
  obtain ⟨w0, HW, hm, hr, hb⟩ := boxesR W s u 33
  have HM := Lib.hid hm; have HR := Lib.hid hr; have HB := Lib.hid hb; have HW' := Lib.hid HW
  have k0 := HM.out.c0; have k1 := HM.out.c1
  have d0 := HR.out.c0; have d1 := HR.out.c1; have d2 := HR.out.f0; have d3 := HR.out.f1
  clear HW hm hr hb
  by_cases hn : 4096 < n
  · have h1 : (n : Int) > 4096 := by omega
    obtain ⟨u0, u1⟩ : _ ∧ _ := ⟨(HR.out.put (.int .i64 0) (.slice none 0 0)).c0, (HR.out.put (.int .i64 0) (.slice none 0 0)).c1⟩
    go_enter Try.func65, Try.ntmps65
    go_upto_region 1 with fail
    rw [← HW'.out]
    go_wp2_with fail
    refine bodyPost_ret (v := .tuple #[.agg #[.int .i64 0, .slice none 0 0], .int .i64 5]) (by simp [results, Try.results65, go_sem, u0, u1]) rfl ?_
    have HBF := below_put HB.out (B := W.heap.size + 1) (by omega) (.int .i64 0) (.slice none 0 0)
    first
    | exact ⟨0, _, 5, rfl, Or.inl ⟨hn, rfl, rfl, rfl⟩, HB.out, HB.out.block⟩
    | exact ⟨0, _, 5, rfl, Or.inl ⟨hn, rfl, rfl, rfl⟩, HBF, HBF.block⟩
  · have h1 : ¬ (n : Int) > 4096 := by omega
    obtain ⟨u0, u1⟩ : _ ∧ _ := ⟨(HR.out.put (.int .i64 s) (.slice a n c)).c0, (HR.out.put (.int .i64 s) (.slice a n c)).c1⟩
    go_enter Try.func65, Try.ntmps65
    go_upto_region 1 with fail
    rw [← HW'.out]
    go_wp2_with fail
    refine bodyPost_ret (v := .tuple #[.agg #[.int .i64 s, .slice a n c], .int .i64 0]) (by simp [results, Try.results65, go_sem, u0, u1]) rfl ?_
    have HBF := below_put HB.out (B := W.heap.size + 1) (by omega) (.int .i64 s) (.slice a n c)
    first
    | exact ⟨s, _, 0, rfl, ⟨by omega, rfl, rfl, rfl⟩, HBF, HBF.block⟩
    | exact ⟨s, _, 0, rfl, Or.inr ⟨by omega, rfl, rfl, rfl⟩, HBF, HBF.block⟩
end Go.Proofs.Ytjbenhmpeceaeaa
namespace Go.Proofs.Ytjbenhmpeceaeaa
open Go Go.RowKit Gs

/-- the function behind the document's Swap -/
def gS (f : Int → Int) (lo hi fr tt : Int) (any : Bool) (x : Int) : Int := if lo ≤ x ∧ x < hi ∧ (any = true ∨ f x = fr) then tt else f x
theorem join_can {g : Int → Int} {s m : Int} {l : List R} {x : R} (h : Gs.Can g s l m) (h1 : x.lo = m) (h2 : m ≤ x.hi) (h3 : ∀ p, x.lo ≤ p → p < x.hi → g p = x.tag) : Gs.Can g s (joinL l x) x.hi := by
  unfold joinL
  by_cases hx : x.hi ≤ x.lo
  · rw [if_pos hx]
    have : m = x.hi := by omega
    rw [← this]; exact h
  · rw [if_neg hx]
    have hone : Gs.Can g m [x] x.hi := by
      have := Gs.Can.one (f := g) (r := x) (by omega) h3
      rwa [h1] at this
    rcases List.eq_nil_or_concat l with rfl | ⟨l', y, hl'⟩
    · have e : s = m := h.1
      rw [e]
      exact hone
    · rw [List.concat_eq_append] at hl'
      subst hl'
      rw [List.getLast?_concat]
      obtain ⟨m1, m2, m3, m4, m5, m6⟩ := h.mid
      have hym : y.hi = m := m2.1
      by_cases ht : y.tag = x.tag
      · simp only
        rw [if_pos ht, List.dropLast_concat]
        exact Gs.Can.make (r := ⟨y.lo, x.hi, x.tag⟩) (k := []) m1 (Gs.Can.nil _ _) (show y.lo < x.hi by omega) (fun p p1 p2 => by
          by_cases hp : p < y.hi
          · exact (m4 p p1 hp).trans ht
          · exact h3 p (by omega) p2) m5 (fun h => absurd h (Int.lt_irrefl _))
      · simp only
        rw [if_neg ht]
        refine Gs.Can.join h hone fun e1 e2 => ?_
        have a1 := m4 (m - 1) (by omega) (by omega)
        have a2 := h3 m (by omega) (by omega)
        rw [a1, a2]
        exact ht
def stepA (x : R) (lo : Int) : Int := max x.lo (min lo x.hi)
def stepB (x : R) (hi : Int) : Int := min x.hi (max hi x.lo)
def stepT (x : R) (fr tt : Int) (any : Bool) : Int := if any = true ∨ x.tag = fr then tt else x.tag
/-- what one round of the document's Swap does -/
def stepL (l : List R) (x : R) (lo hi fr tt : Int) (any : Bool) : List R :=
  joinL (joinL (joinL l ⟨x.lo, stepA x lo, x.tag⟩) ⟨stepA x lo, stepB x hi, stepT x fr tt any⟩) ⟨max (stepA x lo) (stepB x hi), x.hi, x.tag⟩
theorem joinL_len (l : List R) (x : R) : (joinL l x).length ≤ l.length + 1 := by
  unfold joinL
  split
  · omega
  · split
    · rename_i y hy
      split
      · rw [List.length_append, List.length_dropLast, List.length_singleton]; omega
      · simp
    · simp
theorem step_can {f : Int → Int} {lo hi fr tt m : Int} {any : Bool} {l : List R} {x : R} (h : Gs.Can (gS f lo hi fr tt any) 0 l m) (h1 : x.lo = m) (h2 : x.lo < x.hi) (h3 : ∀ p, x.lo ≤ p → p < x.hi → f p = x.tag) (hle : lo ≤ hi) :
    Gs.Can (gS f lo hi fr tt any) 0 (stepL l x lo hi fr tt any) x.hi := by
  have hA : x.lo ≤ stepA x lo ∧ stepA x lo ≤ x.hi := by unfold stepA; omega
  have hB : x.lo ≤ stepB x hi ∧ stepB x hi ≤ x.hi := by unfold stepB; omega
  have hAB : stepA x lo ≤ stepB x hi := by unfold stepA stepB; omega
  have k1 := join_can (x := ⟨x.lo, stepA x lo, x.tag⟩) h h1 (by show m ≤ stepA x lo; omega) (fun p p1 p2 => by
    have p2 : p < stepA x lo := p2
    have p1 : x.lo ≤ p := p1
    have hn : ¬ (lo ≤ p ∧ p < hi ∧ (any = true ∨ f p = fr)) := fun h => by unfold stepA at p2; omega
    show (if _ then _ else _) = _
    rw [if_neg hn]
    exact h3 p p1 (by omega))
  have k2 := join_can (x := ⟨stepA x lo, stepB x hi, stepT x fr tt any⟩) k1 rfl hAB (fun p p1 p2 => by
    have p1 : stepA x lo ≤ p := p1
    have p2 : p < stepB x hi := p2
    have e := h3 p (by omega) (by omega)
    have hin : lo ≤ p ∧ p < hi := by unfold stepA at p1; unfold stepB at p2; omega
    show (if _ then _ else _) = stepT x fr tt any
    unfold stepT
    rw [e]
    by_cases hc : any = true ∨ x.tag = fr
    · rw [if_pos ⟨hin.1, hin.2, hc⟩, if_pos hc]
    · rw [if_neg (fun h => hc h.2.2), if_neg hc])
  exact join_can (x := ⟨max (stepA x lo) (stepB x hi), x.hi, x.tag⟩) k2 (by show max (stepA x lo) (stepB x hi) = stepB x hi; omega) (by show stepB x hi ≤ x.hi; omega) (fun p p1 p2 => by
    have p1 : max (stepA x lo) (stepB x hi) ≤ p := p1
    have p2 : p < x.hi := p2
    have hn : ¬ (lo ≤ p ∧ p < hi ∧ (any = true ∨ f p = fr)) := fun h => by unfold stepB at p1; omega
    show (if _ then _ else _) = _
    rw [if_neg hn]
    exact h3 p (by omega) p2)
theorem stepL_len (l : List R) (x : R) (lo hi fr tt : Int) (any : Bool) : (stepL l x lo hi fr tt any).length ≤ l.length + 3 := by
  unfold stepL
  have h1 := joinL_len l ⟨x.lo, stepA x lo, x.tag⟩
  have h2 := joinL_len (joinL l ⟨x.lo, stepA x lo, x.tag⟩) ⟨stepA x lo, stepB x hi, stepT x fr tt any⟩
  have h3 := joinL_len (joinL (joinL l ⟨x.lo, stepA x lo, x.tag⟩) ⟨stepA x lo, stepB x hi, stepT x fr tt any⟩) ⟨max (stepA x lo) (stepB x hi), x.hi, x.tag⟩
  omega
/-- the count of one round -/
theorem step_cnt (x : R) (k lo hi : Int) (h : x.lo < x.hi) (hle : lo ≤ hi) : cnt k (clip1 lo hi x) = if x.tag = k then max 0 (stepB x hi - stepA x lo) else 0 := by
  unfold clip1 stepA stepB
  by_cases hc : max lo x.lo < min x.hi hi
  · rw [if_pos hc]
    show (if x.tag = k then min x.hi hi - max lo x.lo else 0) + 0 = _
    split <;> omega
  · rw [if_neg hc]
    show 0 = _
    split <;> omega
/-- Set and Swap, as the program's own contracts name them -/
theorem gS_put (f : Int → Int) (lo hi fr tt : Int) : gS f lo hi fr tt true = put f lo hi tt := by
  funext x
  show (if lo ≤ x ∧ x < hi ∧ (true = true ∨ f x = fr) then tt else f x) = if lo ≤ x ∧ x < hi then tt else f x
  by_cases h : lo ≤ x ∧ x < hi
  · rw [if_pos ⟨h.1, h.2, .inl rfl⟩, if_pos h]
  · rw [if_neg (fun h' => h ⟨h'.1, h'.2.1⟩), if_neg h]
end Go.Proofs.Ytjbenhmpeceaeaa
namespace Go.Proofs.Ytjbenhmpeceaeaa
open Go Go.RowKit Gs

set_option maxHeartbeats 1000000 in
theorem countBelow_any (f : Int → Int) (at' : Int) (k : Nat) (hk : k < 16) : ∀ (t : T) (a b : Int) (p : Option Addr) (W : World), IsT W t (.pointer p) → Gs.Can f a t.L b → Ctx f a b →
    Calls Try.prog 50 #[.pointer p, .int .i64 at', .int .i64 k] W fun e w' => e = .returned (.int .i64 (cb at' k t.L)) ∧ Below W.heap.size W w' := by
  intro t
  induction t with
  | nil =>
    intro a b p W h hc hx
    have h1 : Value.pointer p = .pointer none := h
    injection h1 with h1
    subst h1
    clear h hc hx hk
    go_enter Try.func50, Try.ntmps50
    go_wp2_with fail
    go_ret
    exact ⟨rfl, Below.refl _ _⟩
  | node c r d ihc ihd =>
    intro a b p W h hc hx
    obtain ⟨lo, hi, tag⟩ := r
    obtain ⟨m1, m2, m3, m4, m5, m6⟩ := hc.mid
    simp only at m1 m2 m3 m4 m5 m6
    have q1 := m1.le; have q2 := m2.le
    have x1 := hx.1; have x2 := hx.2.1
    obtain ⟨b0, u, v, rfl, hlt, h1, h2, hcs⟩ := h.open
    have HU := Lib.hid h1
    have HV := Lib.hid h2
    have HCS := Lib.hid hcs
    by_cases g : at' ≤ lo
    · have HE : Hid (cb at' k (T.node c ⟨lo, hi, tag⟩ d).L = cb at' k c.L) := cb_left hc g
      have HI : Hid (Calls Try.prog 50 #[.pointer u, .int .i64 at', .int .i64 k] W fun e w' => e = .returned (.int .i64 (cb at' k c.L)) ∧ Below W.heap.size W w') := ihc a lo u W h1 m1 (hx.sub (by omega) (by omega))
      obtain ⟨d0, d1, d2, d3, d4⟩ := hcs W (Below.refl _ _)
      clear h hc hx m1 m2 m3 m4 m5 m6 h1 h2 hcs ihc ihd
      go_enter Try.func50, Try.ntmps50
      go_wp2_with fail
      refine HI.out.mono ?_
      rintro e w1 ⟨rfl, hb⟩
      have HB := Lib.hid hb
      clear hb d0 d1 d2 d3 d4
      go_wp2_with fail
      go_ret
      exact ⟨by rw [HE.out]; rfl, HB.out⟩
    · have hcr := cb_right (at' := at') (k := k) hc (by show lo < at'; omega)
      have z1 := cb_bd at' k m1.1; have z2 := cb_bd at' k m2.1; have z3 := cb_bd at' k hc.1
      have HCN : Hid (∀ W', Below W.heap.size W W' → Calls Try.prog 53 #[.pointer u, .int .i64 k] W' fun e w' => e = .returned (.int .i64 (cnt k c.L)) ∧ W' = w') := fun W' h => count_any c _ W' k hk (IsT.below h h1)
      have HI : Hid (∀ W', Below W.heap.size W W' → Calls Try.prog 50 #[.pointer v, .int .i64 at', .int .i64 k] W' fun e w' => e = .returned (.int .i64 (cb at' k d.L)) ∧ Below W.heap.size W w') := fun W' h => (ihd hi b v W' (IsT.below h h2) m2 (hx.sub (by omega) (by omega))).mono fun e w' ⟨he, hB⟩ => ⟨he, h.trans (hB.mono h.size)⟩
      have HE := Lib.hid hcr
      simp only [T.L] at HE z3 ⊢
      generalize cb at' k (c.L ++ ⟨lo, hi, tag⟩ :: d.L) = full at *
      clear hcr h hc hx m1 m2 m4 m5 m6 h1 h2 ihc ihd hcs
      generalize cnt k c.L = cl at *
      generalize cb at' k d.L = cr at *
      generalize cb at' k c.L = c1 at *
      generalize cnt k d.L = c2 at *
      clear z3
      have y1 : -1000000000000000 ≤ cl ∧ cl ≤ 1000000000000000 := by omega
      have y2 : -1000000000000000 ≤ cr ∧ cr ≤ 1000000000000000 := by omega
      clear z1 z2
      obtain ⟨y1, y3⟩ := y1
      obtain ⟨y2, y4⟩ := y2
      have hw : IntKind.i64.wrap (cl + cr) = cl + cr := IntWalk.i64_in _ (by omega)
      have hs : Below W.heap.size W W := Below.refl _ _
      have hs2 := hs.drew
      have hcl := HCS.out _ hs2
      have hc0 := HCS.out _ hs
      unfold Cs at hcl hc0 HCS
      by_cases gt : (k : Int) = tag
      · have HE2 : Hid (full = cl + cr + (min at' hi - lo)) := by
          show _ = _
          rw [HE.out, if_pos gt.symm]
        subst gt
        clear HE
        go_enter Try.func50, Try.ntmps50
        go_wp2_with fail
        go_region_held3 (fun W' : World => (W'.cell? ⟨b0, 0, none⟩ = some (.pointer u) ∧ W'.cell? ⟨b0, 1, none⟩ = some (.int .i64 lo) ∧ W'.cell? ⟨b0, 2, none⟩ = some (.int .i64 hi) ∧ W'.cell? ⟨b0, 3, none⟩ = some (.int .i64 k) ∧ W'.cell? ⟨b0, 4, none⟩ = some (.pointer v)) ∧ Below W.heap.size W W') (first | (refine And.intro ?_ ?_ <;> assumption) | fail) (first
          | (go_at_call 53; with_reducible refine (HCN.out _ ?h).mono ?_; (case h => assumption); rintro e w' ⟨rfl, rfl⟩)
          | (go_at_call 50; with_reducible refine (HI.out _ ?h).mono ?_; (case h => assumption); rintro e w' ⟨rfl, hs'⟩; have hc' := HCS.out _ hs') | fail)
        all_goals
          have HB := Lib.hid hs'
          clear hs hs2 hcl hc0 hs'
          obtain ⟨e0, e1, e2, e3, e4⟩ := hc'
          by_cases gm : hi < at'
          · have HE3 : Hid (full = cl + cr + (hi - lo)) := by show _ = _; rw [HE2.out]; omega
            go_wp2_with fail
            go_region
            all_goals
              go_wp2_with fail
              go_ret
              exact ⟨by rw [HE3.out]; rfl, by first | exact HB.out | exact HB.out.drew | exact below_drewN HB.out _⟩
          · have HE3 : Hid (full = cl + cr + (at' - lo)) := by show _ = _; rw [HE2.out]; omega
            go_wp2_with fail
            go_region
            all_goals
              go_wp2_with fail
              go_ret
              exact ⟨by rw [HE3.out]; rfl, by first | exact HB.out | exact HB.out.drew | exact below_drewN HB.out _⟩
      · have HE2 : Hid (full = cl + cr) := by
          show _ = _
          rw [HE.out, if_neg (fun h => gt h.symm)]; omega
        have gb : (tag == (k : Int)) = false := beq_eq_false_iff_ne.2 (fun h => gt h.symm)
        clear HE
        go_enter Try.func50, Try.ntmps50
        go_wp2_with fail
        go_region_held3 (fun W' : World => (W'.cell? ⟨b0, 0, none⟩ = some (.pointer u) ∧ W'.cell? ⟨b0, 1, none⟩ = some (.int .i64 lo) ∧ W'.cell? ⟨b0, 2, none⟩ = some (.int .i64 hi) ∧ W'.cell? ⟨b0, 3, none⟩ = some (.int .i64 tag) ∧ W'.cell? ⟨b0, 4, none⟩ = some (.pointer v)) ∧ Below W.heap.size W W') (first | (refine And.intro ?_ ?_ <;> assumption) | fail) (first
          | (go_at_call 53; with_reducible refine (HCN.out _ ?h).mono ?_; (case h => assumption); rintro e w' ⟨rfl, rfl⟩)
          | (go_at_call 50; with_reducible refine (HI.out _ ?h).mono ?_; (case h => assumption); rintro e w' ⟨rfl, hs'⟩; have hc' := HCS.out _ hs') | fail)
        all_goals
          have HB := Lib.hid hs'
          clear hs hs2 hcl hc0 hs'
          obtain ⟨e0, e1, e2, e3, e4⟩ := hc'
          go_wp2_with fail
          go_ret
          exact ⟨by rw [HE2.out]; rfl, HB.out⟩
set_option maxHeartbeats 1000000 in
theorem find_any (f : Int → Int) (k : Nat) (hk : k < 16) : ∀ (t : T) (a b n : Int) (p : Option Addr) (W : World), IsT W t (.pointer p) → Gs.Can f a t.L b → Ctx f a b → 0 ≤ n → n < cnt k t.L →
    Calls Try.prog 54 #[.pointer p, .int .i64 k, .int .i64 n] W fun e w' => ∃ x, e = .returned (.int .i64 x) ∧ Hid (a ≤ x ∧ x < b ∧ f x = k ∧ cb x k t.L = n) ∧ Below W.heap.size W w' := by
  intro t
  induction t with
  | nil =>
    intro a b n p W h hc hx h0 hn
    simp only [T.L, cnt] at hn
    omega
  | node c r d ihc ihd =>
    intro a b n p W h hc hx h0 hn
    obtain ⟨lo, hi, tag⟩ := r
    obtain ⟨m1, m2, m3, m4, m5, m6⟩ := hc.mid
    simp only at m1 m2 m3 m4 m5 m6
    have q1 := m1.le; have q2 := m2.le
    have x1 := hx.1; have x2 := hx.2.1
    obtain ⟨b0, u, v, rfl, hlt, h1, h2, hcs⟩ := h.open
    have hcnt : cnt k (T.node c ⟨lo, hi, tag⟩ d).L = cnt k c.L + (if tag = k then hi - lo else 0) + cnt k d.L := by simp only [T.L, cnt_append, cnt]; omega
    rw [hcnt] at hn
    have z1 := cb_bd a k m1.1; have z2 := cb_bd a k m2.1
    have HCN : Hid (∀ W', Below W.heap.size W W' → Calls Try.prog 53 #[.pointer u, .int .i64 k] W' fun e w' => e = .returned (.int .i64 (cnt k c.L)) ∧ W' = w') := fun W' h => count_any c _ W' k hk (IsT.below h h1)
    have HCL : Hid (∀ m, 0 ≤ m → m < cnt k c.L → Calls Try.prog 54 #[.pointer u, .int .i64 k, .int .i64 m] W fun e w' => ∃ x, e = .returned (.int .i64 x) ∧ Hid (a ≤ x ∧ x < lo ∧ f x = k ∧ cb x k c.L = m) ∧ Below W.heap.size W w') := fun m g1 g2 => ihc a lo m u W h1 m1 (hx.sub (by omega) (by omega)) g1 g2
    have HDL : Hid (∀ W' m, Below W.heap.size W W' → 0 ≤ m → m < cnt k d.L → Calls Try.prog 54 #[.pointer v, .int .i64 k, .int .i64 m] W' fun e w' => ∃ x, e = .returned (.int .i64 x) ∧ Hid (hi ≤ x ∧ x < b ∧ f x = k ∧ cb x k d.L = m) ∧ Below W'.heap.size W' w') := fun W' m hb g1 g2 => ihd hi b m v W' (IsT.below hb h2) m2 (hx.sub (by omega) (by omega)) g1 g2
    have HLO : Hid (∀ x, a ≤ x → x < lo → cb x k (T.node c ⟨lo, hi, tag⟩ d).L = cb x k c.L) := fun x _ g2 => cb_left hc (by show x ≤ lo; omega)
    have HMI : Hid (∀ x, lo ≤ x → x < hi → cb x k (T.node c ⟨lo, hi, tag⟩ d).L = cnt k c.L + (if tag = k then x - lo else 0) ∧ f x = tag) := fun x g1 g2 => ⟨cb_mid hc g1 (by show x ≤ hi; omega), m4 x g1 g2⟩
    have HHI : Hid (∀ x, hi ≤ x → cb x k (T.node c ⟨lo, hi, tag⟩ d).L = cnt k c.L + (if tag = k then hi - lo else 0) + cb x k d.L) := fun x g1 => cb_past hc g1
    obtain ⟨d0, d1, d2, d3, d4⟩ := hcs W (Below.refl _ _)
    clear h hc hx m1 m2 m4 m5 m6 h1 h2 hcs hcnt ihc ihd
    generalize (T.node c ⟨lo, hi, tag⟩ d).L = FL at *
    generalize cnt k c.L = cl at *
    generalize cnt k d.L = cr at *
    obtain ⟨y1, y2⟩ : 0 ≤ cl ∧ cl ≤ 1099511627776 := by omega
    obtain ⟨y3, y4⟩ : 0 ≤ cr ∧ cr ≤ 1099511627776 := by omega
    clear z1 z2
    by_cases g : n < cl
    · clear hn
      go_enter Try.func54, Try.ntmps54
      go_wp2_with fail
      refine (HCN.out _ (Below.refl _ _)).mono ?_
      rintro e w1 ⟨rfl, rfl⟩
      go_wp2_with fail
      refine (HCL.out n h0 g).mono ?_
      rintro e w2 ⟨x, rfl, HX, hb⟩
      have HB := Lib.hid hb
      clear hb
      go_wp2_with fail
      go_ret
      have hx := HX.out
      exact ⟨x, rfl, ⟨hx.1, by omega, hx.2.2.1, by rw [HLO.out x hx.1 hx.2.1]; exact hx.2.2.2⟩, HB.out⟩
    · by_cases gt : (k : Int) = tag
      · subst gt
        rw [if_pos rfl] at hn
        have HMI2 : Hid (∀ x, lo ≤ x → x < hi → cb x k FL = cl + (x - lo) ∧ f x = k) := fun x g1 g2 => by
          have h := HMI.out x g1 g2; rw [if_pos rfl] at h; exact h
        have HHI2 : Hid (∀ x, hi ≤ x → cb x k FL = cl + (hi - lo) + cb x k d.L) := fun x g1 => by
          have h := HHI.out x g1; rw [if_pos rfl] at h; exact h
        clear HMI HHI
        by_cases g2 : n - cl < hi - lo
        · go_enter Try.func54, Try.ntmps54
          go_wp2_with fail
          refine (HCN.out _ (Below.refl _ _)).mono ?_
          rintro e w1 ⟨rfl, rfl⟩
          go_wp2_with fail
          go_quiet (fail)
          go_wp2_with fail
          go_ret
          have hx := HMI2.out (lo + (n - cl)) (by omega) (by omega)
          exact ⟨lo + (n - cl), rfl, ⟨by omega, by omega, hx.2, by rw [hx.1]; omega⟩, below_drewN (Below.refl _ _) _⟩
        · go_enter Try.func54, Try.ntmps54
          go_wp2_with fail
          refine (HCN.out _ (Below.refl _ _)).mono ?_
          rintro e w1 ⟨rfl, rfl⟩
          go_wp2_with fail
          go_quiet (fail)
          go_wp2_with fail
          go_quiet (fail)
          go_wp2_with fail
          refine (HDL.out _ (n - cl - (hi - lo)) (below_drewN (Below.refl _ _) _) (by omega) (by omega)).mono ?_
          rintro e w2 ⟨x, rfl, HX, hb⟩
          have HB := Lib.hid (hb.mono (below_drewN (Below.refl W.heap.size W) _).size)
          clear hb
          go_wp2_with fail
          go_ret
          have hx := HX.out
          exact ⟨x, rfl, ⟨by omega, hx.2.1, hx.2.2.1, by rw [HHI2.out x hx.1, hx.2.2.2]; omega⟩, (below_drewN (Below.refl _ _) _).trans HB.out⟩
      · have gb : (tag == (k : Int)) = false := beq_eq_false_iff_ne.2 (fun h => gt h.symm)
        rw [if_neg (fun h => gt h.symm)] at hn
        have HHI2 : Hid (∀ x, hi ≤ x → cb x k FL = cl + 0 + cb x k d.L) := fun x g1 => by
          have h := HHI.out x g1; rw [if_neg (fun h => gt h.symm)] at h; exact h
        clear HMI HHI gt
        go_enter Try.func54, Try.ntmps54
        go_wp2_with fail
        refine (HCN.out _ (Below.refl _ _)).mono ?_
        rintro e w1 ⟨rfl, rfl⟩
        go_wp2_with fail
        refine (HDL.out _ (n - cl) (Below.refl _ _) (by omega) (by omega)).mono ?_
        rintro e w2 ⟨x, rfl, HX, hb⟩
        have HB := Lib.hid hb
        clear hb
        go_wp2_with fail
        go_ret
        have hx := HX.out
        exact ⟨x, rfl, ⟨by omega, hx.2.1, hx.2.2.1, by rw [HHI2.out x hx.1, hx.2.2.2]; omega⟩, HB.out⟩
end Go.Proofs.Ytjbenhmpeceaeaa
namespace Go.Proofs.Ytjbenhmpeceaeaa
open Go Go.RowKit Gs

set_option maxRecDepth 100000 in
set_option maxHeartbeats 1000000 in
theorem Get_ok {f : Int → Int} {size at' : Int} {W : World} {p : Option Addr} (h : IsM f size W p) (h1 : 0 ≤ at') (h2 : at' < size) :
    Calls Try.prog 18 #[.agg #[.pointer p, .int .i64 size], .int .i64 at'] W fun e w' => e = .returned (.tuple #[.int .i64 (f at'), .int .i64 0]) ∧ Below W.heap.size W w' := by
  obtain ⟨b, rfl⟩ := h.some
  obtain ⟨t, t1, t2, t3⟩ := h.tr
  obtain ⟨w0, HW⟩ : ∃ w0, w0 = W.alloc (.cells #[.pointer (some ⟨b, 0, none⟩), .int .i64 size] 27) := ⟨_, rfl⟩
  have hq : Mq W (some ⟨b, 0, none⟩) size w0 := by rw [HW]; exact Mq.new _ _ _ _
  have HUS := Lib.hid (isUsable_any b size w0)
  have HAT : Hid (∀ W', Below W.heap.size W W' → Calls Try.prog 45 #[.pointer (some ⟨b, 0, none⟩), .int .i64 at'] W' fun e w' => ∃ lo hi, e = .returned (.agg #[.int .i64 lo, .int .i64 hi, .int .i64 (f at')]) ∧ Below W'.heap.size W' w') := fun W' hb => by
    refine (at_any f 0 size t _ W' at' (IsT.below hb t1) t2 h1 h2).mono ?_
    rintro e w' ⟨l, lo, hi, tag, k, rfl, hk, hB⟩
    obtain ⟨e1, e2, e3⟩ := hk.out
    rw [e1] at t2
    have := t2.mid.2.2.2.1 at' e2 e3
    simp only at this
    rw [this]
    exact ⟨lo, hi, rfl, hB⟩
  have HQ := Lib.hid hq
  have HW' := Lib.hid HW
  have hfl2 : ∀ (x y z : Int) (w : World), (Instr.field 64 (.agg #[.int .i64 x, .int .i64 y, .int .i64 z]) 2).run Try.prog w = .ok (.int .i64 z) w := fun _ _ _ _ => rfl
  have h3 : ¬ at' < 0 := by omega
  have h4 : ¬ at' ≥ size := by omega
  clear h t1 t2 t3 hq HW h1 h2
  generalize f at' = fa at *
  go_enter Try.func18, Try.ntmps18
  go_wp2_with fail
  rw [← HW'.out]
  refine HUS.out.mono ?_
  rintro e w1 ⟨rfl, hb⟩
  have HQ1 := Lib.hid (HQ.out.next hb)
  have c0 := HQ1.out.c0; have c1 := HQ1.out.c1
  clear hb
  go_wp2_with fail
  refine (HAT.out _ HQ1.out.bel).mono ?_
  rintro e w2 ⟨lo, hi, rfl, hb⟩
  have HB := Lib.hid (HQ1.out.bel.trans (hb.mono HQ1.out.bel.size))
  clear hb
  go_wp2_with fail
  refine bodyPost_ret (v := .tuple #[.int .i64 fa, .int .i64 0]) (by simp [results, Try.results18, go_sem]) rfl ?_
  exact ⟨rfl, HB.out⟩
set_option maxHeartbeats 1000000 in
theorem Count_ok {f : Int → Int} {size lo hi : Int} {k : Nat} {W : World} {p : Option Addr} (h : IsM f size W p) (h1 : 0 ≤ lo) (h2 : lo ≤ hi) (h3 : hi ≤ size) (hk : k < 16) :
    ∃ L, Gs.Can f 0 L size ∧ Calls Try.prog 22 #[.agg #[.pointer p, .int .i64 size], .int .i64 lo, .int .i64 hi, .int .i64 k] W fun e w' => e = .returned (.tuple #[.int .i64 (cb hi k L - cb lo k L), .int .i64 0]) ∧ Below W.heap.size W w' := by
  obtain ⟨b, rfl⟩ := h.some
  obtain ⟨t, t1, t2, t3⟩ := h.tr
  refine ⟨t.L, t2, ?_⟩
  have hcx := h.ctx
  have hhi := h.hi
  obtain ⟨w0, HW⟩ : ∃ w0, w0 = (W.alloc (.cells #[.pointer (some ⟨b, 0, none⟩), .int .i64 size] 27)).alloc (.cells #[.int .i64 k] 3) := ⟨_, rfl⟩
  have hm1 := Mb.new W (some ⟨b, 0, none⟩) size 27
  have hb1 : Below (W.alloc (.cells #[.pointer (some ⟨b, 0, none⟩), .int .i64 size] 27)).heap.size (W.alloc (.cells #[.pointer (some ⟨b, 0, none⟩), .int .i64 size] 27)) w0 := by rw [HW]; exact (Below.refl _ _).alloc (Nat.le_refl _) _
  have hm : Mb W.heap.size (some ⟨b, 0, none⟩) size w0 := hm1.next hb1
  have hb0 : Below W.heap.size W w0 := by rw [HW]; exact ((Below.refl _ _).alloc (Nat.le_refl _) _).alloc (by simp) _
  have hlt : W.heap.size + 1 < w0.heap.size := by rw [HW]; simp
  have hc : w0.cell? ⟨W.heap.size + 1, 0, none⟩ = some (.int .i64 k) := by rw [HW]; exact World.cell?_alloc_at _ _ _ _ (by simp)
  have hek : errOf size lo hi [(k : Int)] = 0 := by
    unfold errOf
    rw [if_neg (by omega), if_pos]
    simp only [List.all_cons, List.all_nil, Bool.and_true, isT]
    exact decide_eq_true ⟨by omega, by omega⟩
  have HCK : Hid (Calls Try.prog 46 #[.agg #[.pointer (some ⟨b, 0, none⟩), .int .i64 size], .int .i64 lo, .int .i64 hi, .slice (some ⟨W.heap.size + 1, 0, none⟩) 1 1] w0 fun e w' => e = .returned (.int .i64 (errOf size lo hi [(k : Int)])) ∧ Below w0.heap.size w0 w') :=
    check_any b (W.heap.size + 1) 1 size lo hi [(k : Int)] w0 hlt (fun i hi => by
      have : i = 0 := by simp at hi; exact hi
      subst this
      exact hc) (by simp)
  rw [hek] at HCK
  have HCB : Hid (∀ x W', Below W.heap.size W W' → Calls Try.prog 50 #[.pointer (some ⟨b, 0, none⟩), .int .i64 x, .int .i64 k] W' fun e w' => e = .returned (.int .i64 (cb x k t.L)) ∧ Below W'.heap.size W' w') := fun x W' hb => countBelow_any f x k hk t 0 size _ W' (IsT.below hb t1) t2 hcx
  have z1 := cb_bd lo k t2.1; have z2 := cb_bd hi k t2.1
  have HM := Lib.hid hm; have HB := Lib.hid hb0; have HW' := Lib.hid HW
  clear h t1 t2 t3 hm1 hb1 hm hb0 hlt hc hek hk HW hcx
  have y : (-2000000000000 ≤ cb lo k t.L ∧ cb lo k t.L ≤ 2000000000000) ∧ -2000000000000 ≤ cb hi k t.L ∧ cb hi k t.L ≤ 2000000000000 := by omega
  obtain ⟨⟨y1, y2⟩, y3, y4⟩ := y
  clear z1 z2
  have HCH := Lib.hid (HCB.out hi)
  have HCL := Lib.hid (HCB.out lo)
  clear HCB
  generalize cb lo k t.L = cl at *
  generalize cb hi k t.L = ch at *
  have hw : IntKind.i64.wrap (ch - cl) = ch - cl := IntWalk.i64_in _ (by omega)
  go_enter Try.func22, Try.ntmps22
  go_wp2_with fail
  rw [← HW'.out]
  refine HCK.out.mono ?_
  rintro e w1 ⟨rfl, hb⟩
  have HM1 := Lib.hid (HM.out.next hb)
  have HB1 := Lib.hid (HB.out.trans (hb.mono HB.out.size))
  clear hb
  have HALL : Hid (∀ W', Below w1.heap.size w1 W' → W'.cell? ⟨W.heap.size, 0, none⟩ = some (.pointer (some ⟨b, 0, none⟩)) ∧ W'.cell? ⟨W.heap.size, 1, none⟩ = some (.int .i64 size)) := fun W' h => ⟨(HM1.out.next h).c0, (HM1.out.next h).c1⟩
  have HCH2 : Hid (∀ W', Below w1.heap.size w1 W' → Calls Try.prog 50 #[.pointer (some ⟨b, 0, none⟩), .int .i64 hi, .int .i64 k] W' fun e w' => e = .returned (.int .i64 ch) ∧ Below w1.heap.size w1 w') := fun W' h => (HCH.out W' (HB1.out.trans (h.mono HB1.out.size))).mono fun e w' ⟨he, hB⟩ => ⟨he, h.trans (hB.mono h.size)⟩
  have HCL2 : Hid (∀ W', Below w1.heap.size w1 W' → Calls Try.prog 50 #[.pointer (some ⟨b, 0, none⟩), .int .i64 lo, .int .i64 k] W' fun e w' => e = .returned (.int .i64 cl) ∧ Below w1.heap.size w1 w') := fun W' h => (HCL.out W' (HB1.out.trans (h.mono HB1.out.size))).mono fun e w' ⟨he, hB⟩ => ⟨he, h.trans (hB.mono h.size)⟩
  have hs : Below w1.heap.size w1 w1 := Below.refl _ _
  have hs2 := hs.drew
  have hcl := HALL.out _ hs2
  have hc0 := HALL.out _ hs
  go_wp2_with fail
  go_region_held3 (fun W' : World => W'.cell? ⟨W.heap.size, 0, none⟩ = some (.pointer (some ⟨b, 0, none⟩)) ∧ W'.cell? ⟨W.heap.size, 1, none⟩ = some (.int .i64 size)) (first | assumption | fail) (first
    | (go_at_call 50; with_reducible refine (HCH2.out _ ?h).mono ?_; (case h => assumption); rintro e w' ⟨rfl, hs1'⟩; have hc1' := HALL.out _ hs1')
    | (go_at_call 50; with_reducible refine (HCL2.out _ ?h).mono ?_; (case h => assumption); rintro e w' ⟨rfl, hs2'⟩; have hc2' := HALL.out _ hs2') | fail)
  all_goals
    have HBF := Lib.hid (HB1.out.trans (hs2'.mono HB1.out.size))
    clear hs hs2 hcl hc0 hs1' hs2' hc1' hc2'
    go_wp2_with fail
    refine bodyPost_ret (v := .tuple #[.int .i64 (ch - cl), .int .i64 0]) (by simp [results, Try.results22, go_sem]) rfl ?_
    exact ⟨rfl, HBF.out⟩
set_option maxHeartbeats 1000000 in
theorem Count_err {f : Int → Int} {size lo hi k : Int} {W : World} {p : Option Addr} (h : IsM f size W p) (her : errOf size lo hi [k] ≠ 0) :
    Calls Try.prog 22 #[.agg #[.pointer p, .int .i64 size], .int .i64 lo, .int .i64 hi, .int .i64 k] W fun e w' => e = .returned (.tuple #[.int .i64 0, .int .i64 (errOf size lo hi [k])]) ∧ Below W.heap.size W w' := by
  obtain ⟨b, rfl⟩ := h.some
  obtain ⟨w0, HW⟩ : ∃ w0, w0 = (W.alloc (.cells #[.pointer (some ⟨b, 0, none⟩), .int .i64 size] 27)).alloc (.cells #[.int .i64 k] 3) := ⟨_, rfl⟩
  have hb0 : Below W.heap.size W w0 := by rw [HW]; exact ((Below.refl _ _).alloc (Nat.le_refl _) _).alloc (by simp) _
  have hlt : W.heap.size + 1 < w0.heap.size := by rw [HW]; simp
  have hc : w0.cell? ⟨W.heap.size + 1, 0, none⟩ = some (.int .i64 k) := by rw [HW]; exact World.cell?_alloc_at _ _ _ _ (by simp)
  have HCK : Hid (Calls Try.prog 46 #[.agg #[.pointer (some ⟨b, 0, none⟩), .int .i64 size], .int .i64 lo, .int .i64 hi, .slice (some ⟨W.heap.size + 1, 0, none⟩) 1 1] w0 fun e w' => e = .returned (.int .i64 (errOf size lo hi [k])) ∧ Below w0.heap.size w0 w') :=
    check_any b (W.heap.size + 1) 1 size lo hi [k] w0 hlt (fun i hi => by
      have : i = 0 := by simp at hi; exact hi
      subst this
      exact hc) (by simp)
  have HB := Lib.hid hb0; have HW' := Lib.hid HW
  have hne : (errOf size lo hi [k] == 0) = false := beq_eq_false_iff_ne.2 her
  clear h hb0 hlt hc HW her
  generalize errOf size lo hi [k] = er at *
  go_enter Try.func22, Try.ntmps22
  go_wp2_with fail
  rw [← HW'.out]
  refine HCK.out.mono ?_
  rintro e w1 ⟨rfl, hb⟩
  have HB1 := Lib.hid (HB.out.trans (hb.mono HB.out.size))
  clear hb
  go_wp2_with fail
  refine bodyPost_ret (v := .tuple #[.int .i64 0, .int .i64 er]) (by simp [results, Try.results22, go_sem]) rfl ?_
  exact ⟨rfl, HB1.out⟩
theorem cntL_of {f : Int → Int} {n : Nat} {W : World} {p : Option Addr} {size : Int} (h : Tr f 0 size n W p) (k : Nat) (hk : k < 16) : ∃ L, Gs.Can f 0 L size ∧ ∀ W', Below W.heap.size W W' → Calls Try.prog 53 #[.pointer p, .int .i64 k] W' fun e w' => e = .returned (.int .i64 (cnt k L)) ∧ W' = w' := by
  obtain ⟨t, t1, t2, t3⟩ := h
  exact ⟨t.L, t2, fun W' hb => count_any t _ W' k hk (IsT.below hb t1)⟩
end Go.Proofs.Ytjbenhmpeceaeaa
namespace Go.Proofs.Ytjbenhmpeceaeaa
open Go Go.RowKit Gs

/-- what Find answers -/
def FindOf (f : Int → Int) (size tag k : Int) (L : List R) (x : Int) (is : Bool) : Prop :=
  (is = true ∧ isT tag = true ∧ 0 ≤ k ∧ k < cnt tag L ∧ 0 ≤ x ∧ x < size ∧ f x = tag ∧ cb x tag L = k) ∨ (is = false ∧ x = 0 ∧ (isT tag = false ∨ k < 0 ∨ cnt tag L ≤ k))
set_option maxHeartbeats 1000000 in
theorem Find_any {f : Int → Int} {size tag k : Int} {W : World} {p : Option Addr} (h : IsM f size W p) :
    ∃ L, Gs.Can f 0 L size ∧ Calls Try.prog 24 #[.agg #[.pointer p, .int .i64 size], .int .i64 tag, .int .i64 k] W fun e w' => ∃ x is, e = .returned (.tuple #[.int .i64 x, .bool is]) ∧ Hid (FindOf f size tag k L x is) ∧ Below W.heap.size W w' := by
  obtain ⟨b, rfl⟩ := h.some
  obtain ⟨t, t1, t2, t3⟩ := h.tr
  refine ⟨t.L, t2, ?_⟩
  have hcx := h.ctx
  obtain ⟨w0, HW⟩ : ∃ w0, w0 = W.alloc (.cells #[.pointer (some ⟨b, 0, none⟩), .int .i64 size] 27) := ⟨_, rfl⟩
  have hq : Mq W (some ⟨b, 0, none⟩) size w0 := by rw [HW]; exact Mq.new _ _ _ _
  have HTG := Lib.hid (isTag_any tag w0)
  have HQ := Lib.hid hq
  have HW' := Lib.hid HW
  by_cases g1 : isT tag = true
  · obtain ⟨e1, e2⟩ : 0 ≤ tag ∧ tag < 16 := of_decide_eq_true g1
    obtain ⟨j, rfl⟩ : ∃ j : Nat, tag = j := ⟨tag.toNat, by omega⟩
    have hj : j < 16 := by omega
    have HCN := Lib.hid (count_any t (.pointer (some ⟨b, 0, none⟩)) w0 j hj (IsT.below hq.bel t1))
    have HG1 := Lib.hid g1
    rw [g1] at HTG
    by_cases g2 : k < 0
    · have HF : Hid (FindOf f size j k t.L 0 false) := .inr ⟨rfl, rfl, .inr (.inl g2)⟩
      clear h t1 t2 t3 hcx hq HW g1
      go_enter Try.func24, Try.ntmps24
      go_wp2_with fail
      rw [← HW'.out]
      refine HTG.out.mono ?_
      rintro e w1 ⟨rfl, rfl⟩
      go_wp2_with fail
      refine bodyPost_ret (v := .tuple #[.int .i64 0, .bool false]) (by simp [results, Try.results24, go_sem]) rfl ?_
      exact ⟨0, false, rfl, HF, HQ.out.bel⟩
    · by_cases g3 : k < cnt j t.L
      · have HFI : Hid (Calls Try.prog 54 #[.pointer (some ⟨b, 0, none⟩), .int .i64 j, .int .i64 k] w0 fun e w' => ∃ x, e = .returned (.int .i64 x) ∧ Hid (0 ≤ x ∧ x < size ∧ f x = j ∧ cb x j t.L = k) ∧ Below w0.heap.size w0 w') := find_any f j hj t 0 size k _ w0 (IsT.below hq.bel t1) t2 hcx (by omega) g3
        have HF : Hid (∀ x, (0 ≤ x ∧ x < size ∧ f x = j ∧ cb x j t.L = k) → FindOf f size j k t.L x true) := fun x hx => .inl ⟨rfl, HG1.out, by omega, g3, hx.1, hx.2.1, hx.2.2.1, hx.2.2.2⟩
        have g4 : ¬ k ≥ cnt j t.L := by omega
        clear h t1 t2 t3 hcx hq HW g1 g3
        generalize cnt j t.L = CN at *
        have k0 := HQ.out.c0; have k1 := HQ.out.c1
        go_enter Try.func24, Try.ntmps24
        go_wp2_with fail
        rw [← HW'.out]
        refine HTG.out.mono ?_
        rintro e w1 ⟨rfl, rfl⟩
        go_wp2_with fail
        refine HCN.out.mono ?_
        rintro e w1 ⟨rfl, rfl⟩
        go_wp2_with fail
        refine HFI.out.mono ?_
        rintro e w2 ⟨x, rfl, HX, hb⟩
        have HB := Lib.hid (HQ.out.bel.trans (hb.mono HQ.out.bel.size))
        clear hb k0 k1
        go_wp2_with fail
        refine bodyPost_ret (v := .tuple #[.int .i64 x, .bool true]) (by simp [results, Try.results24, go_sem]) rfl ?_
        exact ⟨x, true, rfl, HF.out x HX.out, HB.out⟩
      · have HF : Hid (FindOf f size j k t.L 0 false) := .inr ⟨rfl, rfl, .inr (.inr (by omega))⟩
        have g4 : k ≥ cnt j t.L := by omega
        clear h t1 t2 t3 hcx hq HW g1 g3
        generalize cnt j t.L = CN at *
        have k0 := HQ.out.c0; have k1 := HQ.out.c1
        go_enter Try.func24, Try.ntmps24
        go_wp2_with fail
        rw [← HW'.out]
        refine HTG.out.mono ?_
        rintro e w1 ⟨rfl, rfl⟩
        go_wp2_with fail
        refine HCN.out.mono ?_
        rintro e w1 ⟨rfl, rfl⟩
        go_wp2_with fail
        refine bodyPost_ret (v := .tuple #[.int .i64 0, .bool false]) (by simp [results, Try.results24, go_sem]) rfl ?_
        exact ⟨0, false, rfl, HF, HQ.out.bel⟩
  · have HF : Hid (FindOf f size tag k t.L 0 false) := .inr ⟨rfl, rfl, .inl (Bool.eq_false_iff.2 g1)⟩
    rw [Bool.eq_false_iff.2 g1] at HTG
    clear h t1 t2 t3 hcx hq HW g1
    go_enter Try.func24, Try.ntmps24
    go_wp2_with fail
    rw [← HW'.out]
    refine HTG.out.mono ?_
    rintro e w1 ⟨rfl, rfl⟩
    go_wp2_with fail
    refine bodyPost_ret (v := .tuple #[.int .i64 0, .bool false]) (by simp [results, Try.results24, go_sem]) rfl ?_
    exact ⟨0, false, rfl, HF, HQ.out.bel⟩
end Go.Proofs.Ytjbenhmpeceaeaa
