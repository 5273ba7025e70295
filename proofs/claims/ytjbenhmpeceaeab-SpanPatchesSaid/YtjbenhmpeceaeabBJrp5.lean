/- Contracts and lemmas (several texts merged into one). -/
import Derived.RangeFuncBox
import Derived.RangeFuncNested
import Derived.Maps.AppendAt
import Derived.Test.YtjbenhmpeceaeabBJrp4
import Derived.Test.YtjbenhmpeceaeabBJrp3
import Derived.Test.YtjbenhmpeceaeabBJrp2
import Derived.Deep.OwnRows
import Derived.Deep.CutRange
import Derived.BigQuiet
import Derived.Deep.RegionHeld
import Derived.BigRegion
namespace Go.Proofs.Ytjbenhmpeceaeab
open Go Go.RowKit Go.Shelf Gs

attribute [local go_sem] Oper.semAt_some

set_option maxHeartbeats 1000000 in
/-- **what within answers gives the runs of the range, one after the other** -/
theorem seq_stops {f : Int → Int} {t : T} {p : Option Addr} {a b lo hi : Int} {B n₀ n : Nat} {w : World} (hB : B + 1 + 1 < w.heap.size) (hn : n₀ ≤ w.heap.size)
    (c0 : w.cell? ⟨B, 0, none⟩ = some (.pointer p)) (c1 : w.cell? ⟨B + 1, 0, none⟩ = some (.int .i64 lo)) (c2 : w.cell? ⟨B + 1 + 1, 0, none⟩ = some (.int .i64 hi)) (ht : IsTB n₀ w t p) (hc : Gs.Can f a t.L b) :
    SeqStopsK Fence.wide n Try.prog 55 #[.pointer (some ⟨B, 0, none⟩), .pointer (some ⟨B + 1, 0, none⟩), .pointer (some ⟨B + 1 + 1, 0, none⟩)] encR (Below n₀) (fun ys => ys = clip lo hi t.L) (fun q => q <+: clip lo hi t.L) (clip lo hi t.L).length w := fun l J Jx W hW hJ hJx hY h0 => by
  have hp := visit_in f l n₀ (clip lo hi t.L).length J Jx (fun s W W' hs hg => hJ s W W' none hs hg (fun r e => by cases e)) (fun s W W' hs hg => hJx s W W' none hs hg (fun r e => by cases e))
    (fun m pre x W1 hj hl => YieldAt.deep rfl m (hY pre x W1 hj hl)) t (n - 1) p a b lo hi [] W (ht.below (hW.mono hn)) (Nat.le_trans hn hW.size) hc h0 (by simp)
  have k0 : W.cell? ⟨B, 0, none⟩ = some (.pointer p) := (hW.cell (p := ⟨B, 0, none⟩) (by show B < _; omega)).trans c0
  have k1 : W.cell? ⟨B + 1, 0, none⟩ = some (.int .i64 lo) := (hW.cell (p := ⟨B + 1, 0, none⟩) (by show B + 1 < _; omega)).trans c1
  have k2 : W.cell? ⟨B + 1 + 1, 0, none⟩ = some (.int .i64 hi) := (hW.cell (p := ⟨B + 1 + 1, 0, none⟩) (by show B + 1 + 1 < _; omega)).trans c2
  clear c0 c1 c2 hW hY
  refine callsIn_of_wp Try.func55 rfl trivial ?_ rfl
  simp only [Try.ntmps55, List.size_toArray, List.length_cons, List.length_nil, Nat.reduceAdd, Nat.reduceSub, Array.replicate_succ, Array.replicate_zero, List.push_toArray, List.append_toArray, List.nil_append, List.cons_append]
  gi_wp2_with fail
  refine ⟨trivial, (fun h => by cases h), hp.mono ?_⟩
  rintro e W1 (⟨rfl, hJ1, _⟩ | ⟨rfl, q, hq, hx⟩)
  · gi_wp2_with fail
    go_end0
    exact ⟨⟨_, rfl⟩, .inl ⟨_, rfl, by simpa using hJ1⟩⟩
  · gi_wp2_with fail
    go_end0
    exact ⟨⟨_, rfl⟩, .inr ⟨q, hq, by simpa using hx⟩⟩

/-- the cells of a run -/
def encL (r : R) : List Value := [.int .i64 r.lo, .int .i64 r.hi, .int .i64 r.tag]
/-- a run's box -/
def Rb (W : World) (B : Nat) (r : R) : Prop := W.heap[B]? = some (.cells #[.int .i64 r.lo, .int .i64 r.hi, .int .i64 r.tag] 46 (0, 0))
theorem Rb.lt {W : World} {B : Nat} {r : R} (h : Rb W B r) : B < W.heap.size := (Array.getElem?_eq_some_iff.1 h).1
theorem Rb.kept {W W' : World} {row : Option Nat} {B : Nat} {r : R} (h : Rb W B r) (hg : W.grownBy W' row) (hne : some B ≠ row) : Rb W' B r := (hg.block B h.lt hne).trans h
theorem Rb.own (B : Nat) (r : R) : Own (fun (_ : Unit) W => Rb W B r) := fun s X Y row hs hg hrow => hs.kept hg fun e' => by
  obtain ⟨o, ho, hc⟩ := hrow B e'.symm
  rw [show X.heap[B]? = _ from hs] at ho; cases ho; cases hc
theorem Rb.cells {W : World} {B : Nat} {r : R} (h : Rb W B r) : W.cell? ⟨B, 0, none⟩ = some (.int .i64 r.lo) ∧ W.cell? ⟨B, 1, none⟩ = some (.int .i64 r.hi) ∧ W.cell? ⟨B, 2, none⟩ = some (.int .i64 r.tag) := by
  have h' : W.heap[B]? = _ := h
  refine ⟨?_, ?_, ?_⟩ <;> simp [World.cell?, h']
theorem Rb.new (W : World) (r : R) : Rb (W.alloc (.cells #[.int .i64 r.lo, .int .i64 r.hi, .int .i64 r.tag] 46)) W.heap.size r := World.alloc_heap_new W _

theorem cells3_new (w : World) (x y z : Value) (t : TypeId) : ∀ j u, [x, y, z][j]? = some u → (w.alloc (.cells #[x, y, z] t)).cell? ((⟨w.heap.size, 0, none⟩ : Addr).add j) = some u := by
  intro j u hj
  match j, hj with
  | 0, hj => simp at hj; subst hj; exact World.cell?_alloc_at _ _ _ _ rfl
  | 1, hj => simp at hj; subst hj; exact World.cell?_alloc_at _ _ _ _ rfl
  | 2, hj => simp at hj; subst hj; exact World.cell?_alloc_at _ _ _ _ rfl
theorem own_slice {W : World} {base : Nat} {e : TypeId} {size : Nat} {v : Value} {k : Nat} {xs : List Value} (h : W.ownsRow base e size v k xs) : ∃ a c, v = .slice a k c := by
  rcases h.2 with ⟨rfl, rfl⟩ | ⟨g, cap, cur, rfl, _⟩
  · exact ⟨_, _, rfl⟩
  · exact ⟨_, _, rfl⟩
theorem infoRun : (Try.prog.info? 46).map (fun i => (i.zero, i.size, i.bytes)) = some (some (.agg #[.int .i64 0, .int .i64 0, .int .i64 0]), 3, 24) := by kernel_rfl
set_option maxRecDepth 100000 in
set_option maxHeartbeats 2000000 in
theorem Runs_any {f : Int → Int} {size lo hi most : Int} {W : World} {p : Option Addr} (h : IsM f size W p) (h1 : 0 ≤ lo) (h2 : lo ≤ hi) (h3 : hi ≤ size) :
    ∃ L, Gs.Can f 0 L size ∧ L.length ≤ 4096 ∧ Calls Try.prog 17 #[.agg #[.pointer p, .int .i64 size], .int .i64 lo, .int .i64 hi, .int .i64 most] W fun e w' => ∃ v, e = .returned (.tuple #[v, .int .i64 0]) ∧
      Hid (w'.ownsRow W.heap.size 46 3 v ((clip lo hi L).take most.toNat).length (((clip lo hi L).take most.toNat).flatMap encL)) ∧ Below W.heap.size W w' := by
  obtain ⟨b, rfl⟩ := h.some
  obtain ⟨t, t1, t2, t3⟩ := h.tr
  refine ⟨t.L, t2, by rw [← T.sz_eq]; exact t3, ?_⟩
  obtain ⟨w0, HW⟩ : ∃ w0, w0 = (W.alloc (.cells #[.pointer (some ⟨b, 0, none⟩), .int .i64 size] 27)).alloc (.cells #[.int .i64 most] 3) := ⟨_, rfl⟩
  have hm : Mb W.heap.size (some ⟨b, 0, none⟩) size w0 := by rw [HW]; exact (Mb.new W (some ⟨b, 0, none⟩) size 27).next ((Below.refl _ _).alloc (Nat.le_refl _) _)
  have hb0 : Below W.heap.size W w0 := by rw [HW]; exact ((Below.refl _ _).alloc (Nat.le_refl _) _).alloc (by simp) _
  have hx0 : Boxed w0 (W.heap.size + 1) 3 (.int .i64 most) := by rw [HW, show W.heap.size + 1 = (W.alloc (.cells #[.pointer (some ⟨b, 0, none⟩), .int .i64 size] 27)).heap.size by simp]; exact Boxed.new _ _ _
  have HCK : Hid (Calls Try.prog 31 #[.agg #[.pointer (some ⟨b, 0, none⟩), .int .i64 size], .int .i64 lo, .int .i64 hi, .slice none 0 0] w0 fun e w' => e = .returned (.int .i64 0) ∧ Below w0.heap.size w0 w') := check_nil b size lo hi w0 (by omega) (by omega) (by omega)
  have hmax : (clip lo hi t.L).length ≤ 4096 := Nat.le_trans (clip_len _ _ _) (by rw [← T.sz_eq]; exact t3)
  have HTB : Hid (IsTB W.heap.size W t (some ⟨b, 0, none⟩)) := IsT.tb t1
  have HT2 := Lib.hid t2
  have HM := Lib.hid hm; have HB := Lib.hid hb0; have HX := Lib.hid hx0; have HW' := Lib.hid HW
  clear h t1 t2 t3 hm hb0 hx0 HW
  refine (callsIn_wide (n := 9)).1 ?_
  refine callsIn_of_wp_marks Try.func17 rfl trivial ?_ rfl
  simp only [Try.ntmps17, List.size_toArray, List.length_cons, List.length_nil, Nat.reduceAdd, Nat.reduceSub, Array.replicate_succ, Array.replicate_zero, List.push_toArray, List.append_toArray, List.nil_append, List.cons_append]
  gi_wp2_with fail
  rw [← HW'.out]
  refine ⟨trivial, (callsIn_wide.2 HCK.out).mono ?_⟩
  rintro e w1 ⟨rfl, hb⟩
  have HM1 := Lib.hid (HM.out.next hb)
  have HB1 := Lib.hid (HB.out.trans (hb.mono HB.out.size))
  have HX1 : Hid (Boxed w1 (W.heap.size + 1) 3 (.int .i64 most)) := (hb.block _ HX.out.lt).trans HX.out
  obtain ⟨w2, HW2⟩ : ∃ w2, w2 = w1.alloc (.cells #[.slice none 0 0] 42) := ⟨_, rfl⟩
  have b2 : Below w1.heap.size w1 w2 := by rw [HW2]; exact (Below.refl _ _).alloc (Nat.le_refl _) _
  have o2 : Boxed w2 w1.heap.size 42 (.slice none 0 0) := by rw [HW2]; exact Boxed.new _ _ _
  have s2 : w2.heap.size = w1.heap.size + 1 := by rw [HW2]; simp
  obtain ⟨q0, q1, q2, q3, q4⟩ := seq_cells w2 (some ⟨b, 0, none⟩) lo hi
  rw [s2] at q0 q1 q2 q3
  have b3 := b2.trans (q4.mono b2.size)
  have HM2 := Lib.hid (HM1.out.next b2)
  have HSB := Lib.hid (HB1.out.trans (b3.mono HB1.out.size))
  have HO3 : Hid (Boxed (seqW w2 (some ⟨b, 0, none⟩) lo hi) w1.heap.size 42 (.slice none 0 0)) := (q4.block _ o2.lt).trans o2
  have HX3 : Hid (Boxed (seqW w2 (some ⟨b, 0, none⟩) lo hi) (W.heap.size + 1) 3 (.int .i64 most)) := (b3.block _ HX1.out.lt).trans HX1.out
  have HSQ := Lib.hid (seq_stops (n := 8) (n₀ := W.heap.size) (lo := lo) (hi := hi) (by rw [q3]; omega) HSB.out.size q0 q1 q2 (HTB.out.below HSB.out) HT2.out)
  have HWI : Hid (CallsIn Fence.wide 8 Try.prog 39 #[.pointer (some ⟨b, 0, none⟩), .int .i64 lo, .int .i64 hi] w2 fun e w' => e = .returned (seqV (w1.heap.size + 1)) ∧ w' = seqW w2 (some ⟨b, 0, none⟩) lo hi) := callsIn_wide.2 (by rw [← s2]; exact within_any _ _ _ w2)
  have HQ3 := Lib.hid q3
  have k0 := HM2.out.c0; have k1 := HM2.out.c1
  have HW2' := Lib.hid HW2
  generalize seqW w2 (some ⟨b, 0, none⟩) lo hi = w3 at *
  clear hb b2 o2 s2 q0 q1 q2 q3 q4 b3 HW2
  gi_upto_region 5 with fail
  rw [← HW2'.out]
  gi_wp2_with fail
  refine ⟨trivial, HWI.out.mono ?_⟩
  rintro e w' ⟨rfl, rfl⟩
  gi_wp2_with fail
  have hge : W.heap.size ≤ w'.heap.size := HSB.out.size
  have hlt1 : W.heap.size + 1 < w1.heap.size := HX1.out.lt
  have hBO : w1.heap.size < w'.heap.size := HO3.out.lt
  obtain ⟨i0, hi0, hz0, hz1, hz2⟩ := info_parts infoRun
  refine wpIn_rangeFunc_ownH rfl (by omega) (gf := 55) (lb := #[.pointer (some ⟨w1.heap.size + 1, 0, none⟩), .pointer (some ⟨w1.heap.size + 1 + 1, 0, none⟩), .pointer (some ⟨w1.heap.size + 1 + 1 + 1, 0, none⟩)]) rfl trivial (enters_of Try.func55 (by kernel_rfl) rfl)
    HSQ.out belowK_t (belowK_b hge) (Below.refl _ _) (fun _ => rfl)
    (fun pre W' => ((∃ v, Boxed W' w1.heap.size 42 v ∧ W'.ownsRow W.heap.size 46 3 v pre.length (pre.flatMap encL) ∧ True) ∧ Boxed W' (W.heap.size + 1) 3 (.int .i64 most) ∧ pre.length ≤ most.toNat) ∧ Below W.heap.size W W')
    (fun c pre' W' => (c = .exit 0 ∧ ∃ pre x, pre' = pre ++ [x] ∧ pre.length = most.toNat ∧ ∃ v, Boxed W' w1.heap.size 42 v ∧ W'.ownsRow W.heap.size 46 3 v pre.length (pre.flatMap encL) ∧ True) ∧ Below W.heap.size W W')
    (OwnFrom.and (Own.from (fun s A B row hs hg hr => ⟨holdsRow_own W.heap.size w1.heap.size 42 46 3 (fun pre : List R => pre.length) (fun pre => pre.flatMap encL) (fun _ _ => True) s A B row hs.1 hg hr, boxed_own (W.heap.size + 1) 3 (fun (_ : Unit) => .int .i64 most) () A B row hs.2.1 hg hr, hs.2.2⟩) _) (ownFrom_below (Nat.le_refl _) hge))
    (fun c => OwnFrom.and (Own.from (fun s A B row hs hg hr => by
      obtain ⟨hc, pre, x, hp, hl, hv⟩ := hs
      exact ⟨hc, pre, x, hp, hl, holdsRow_own W.heap.size w1.heap.size 42 46 3 (fun pre : List R => pre.length) (fun pre => pre.flatMap encL) (fun _ _ => True) pre A B row hv hg hr⟩) _) (ownFrom_below (Nat.le_refl _) hge))
    ⟨⟨⟨_, HO3.out, World.ownsRow_nil _ _ _ _, trivial⟩, HX3.out, Nat.zero_le _⟩, HSB.out⟩
    (fun x a' W' => ∃ Bx, w1.heap.size < Bx ∧ Rb W' Bx x ∧ a' = { tmps := #[.agg #[.pointer (some ⟨b, 0, none⟩), .int .i64 size], .int .i64 lo, .int .i64 hi, .int .i64 most, .pointer (some ⟨W.heap.size, 0, none⟩), undef, undef, .pointer (some ⟨W.heap.size + 1, 0, none⟩), .slice none 0 0, .int .i64 0, .int .i64 0, .pointer (some ⟨w1.heap.size, 0, none⟩), .pointer (some ⟨Bx, 0, none⟩), .agg #[.pointer (some ⟨b, 0, none⟩), .int .i64 size], .int .i64 lo, .int .i64 hi, .int .i64 0, .int .i64 0, .bool false, undef, .pointer (some ⟨W.heap.size, 0, none⟩), .pointer (some ⟨b, 0, none⟩), .int .i64 lo, .int .i64 hi, seqV (w1.heap.size + 1), .agg #[.int .i64 x.lo, .int .i64 x.hi, .int .i64 x.tag], undef, undef, undef, undef, undef, undef, undef, undef, undef], defers := [] })
    (fun x a' => Own.from (fun s A B row hs hg hr => by
      obtain ⟨Bx, h1, h2, h3⟩ := hs
      exact ⟨Bx, h1, Rb.own Bx x () A B row h2 hg hr, h3⟩) _) ?assign ?body ?done ?stop
  case assign =>
    rintro l pre ⟨xa, xb, xc⟩ W' K ⟨⟨⟨v, g1, g2, -⟩, g3, g4⟩, g5⟩ hK
    unfold encR
    gi_wp2
    exact hK _ _ ((KeepsOthers.alloc _ _).from _) ((Below.refl _ W').alloc g5.size _) ⟨⟨⟨v, g1.alloc _, g2.alloc _, trivial⟩, g3.alloc _, g4⟩, g5.alloc g5.size _⟩ ⟨W'.heap.size, g1.lt, Rb.new W' ⟨xa, xb, xc⟩, rfl⟩
  case body =>
    rintro l pre ⟨xa, xb, xc⟩ a' W' hl ⟨r, hr⟩ ⟨⟨⟨v, g1, g2, -⟩, g3, g4⟩, g5⟩ ⟨Bx, hBx, bX, rfl⟩ hlt
    have hml : pre.length + 1 ≤ maxLen := Nat.le_trans (show pre.length + 1 ≤ 4096 by omega) (by decide)
    have hc0 := g1.cell
    have hc3 := g3.cell
    obtain ⟨k0, k1, k2⟩ := bX.cells
    simp only at k0 k1 k2
    obtain ⟨va, vc, rfl⟩ := own_slice g2
    by_cases hge2 : most ≤ (pre.length : Int)
    · have hge3 : (pre.length : Int) ≥ most := hge2
      gi_wp2
      exact ⟨KeepsFrom.refl _ _, ⟨rfl, pre, ⟨xa, xb, xc⟩, rfl, by omega, _, g1, g2, trivial⟩, g5⟩
    · have hge3 : ¬ (pre.length : Int) ≥ most := hge2
      gi_wp2_with (gi_at_builtin; refine wpListIn_append_own _ rfl _ _ 42 rfl W.heap.size 46 i0 (.agg #[.int .i64 0, .int .i64 0, .int .i64 0]) 3 24 Try.underlying42 hi0 hz0 hz1 hz2 rfl (by decide) _ _ _ rfl (g2.alloc _) ⟨W'.heap.size, 0, none⟩ 1 1 [.int .i64 xa, .int .i64 xb, .int .i64 xc] rfl rfl (cells3_new _ _ _ _ _) (by simp [Value.oneCell']) (by omega) (by omega) (by have := g5.size; simp; omega) ?_; intro v' w4 hown' hgrow _; obtain ⟨g', cap', rfl⟩ := ownsRow_succ hown'; obtain ⟨hv1, hv2, hr2, hk2, hb2⟩ := g1.appended (by decide) g2 g5.size (by omega) hown' hgrow; have hc1 := hv1.cell; have hf1 := hv1.frozen)
      have hr3 : (w4.setCell ⟨w1.heap.size, 0, none⟩ (.slice (some ⟨g', 0, none⟩) (pre.length + 1) cap')).ownsRow W.heap.size 46 3 (.slice (some ⟨g', 0, none⟩) (pre.length + 1) cap') (pre ++ [(⟨xa, xb, xc⟩ : R)]).length ((pre ++ [(⟨xa, xb, xc⟩ : R)]).flatMap encL) := by
        rw [List.length_append, List.length_singleton, List.flatMap_append]
        exact hr2
      first
      | exact ⟨hk2.from _, hb2, ⟨⟨_, hv2, hr3⟩, ((g3.alloc _).kept hgrow (g3.not_row (by decide) g2)).other (by omega) _, by rw [List.length_append, List.length_singleton]; omega⟩, g5.trans hb2⟩
      | exact ⟨hk2.from _, hb2, ⟨⟨_, hv2, hr3, trivial⟩, ((g3.alloc _).kept hgrow (g3.not_row (by decide) g2)).other (by omega) _, by rw [List.length_append, List.length_singleton]; omega⟩, g5.trans hb2⟩
  case done =>
    rintro D ys W' hD rfl ⟨⟨⟨v, g1, g2, -⟩, g3, g4⟩, g5⟩ hK
    have hc0 := g1.cell
    have he : (clip lo hi t.L).take most.toNat = clip lo hi t.L := List.take_of_length_le g4
    obtain ⟨va, vc, rfl⟩ := own_slice g2
    have HE := Lib.hid he
    have HK := Lib.hid hK
    clear he
    gi_wp2
    refine ⟨by simp, .inl ⟨_, _, rfl, run_takeDeferred HK.out, ?_⟩⟩
    refine ⟨.tuple #[.slice va (clip lo hi t.L).length vc, .int .i64 0], by simp [results, Try.results17, go_sem], _, rfl, (by rw [HE.out]; exact ownsRow_putObj g2 _ HK.out rfl), g5.trans (belowK_b (w := W) (Nat.le_refl _) W' D _ _ (by omega) HK.out rfl rfl)⟩
  case stop =>
    rintro D c pre' W' hD hSp ⟨⟨rfl, pre, x, rfl, hl, v, g1, g2, -⟩, g5⟩ hK
    have hc0 := g1.cell
    have he : (clip lo hi t.L).take most.toNat = pre := by rw [← hl]; exact (List.prefix_iff_eq_take.1 ((List.prefix_append pre [x]).trans hSp)).symm
    obtain ⟨va, vc, rfl⟩ := own_slice g2
    have HE := Lib.hid he
    have HK := Lib.hid hK
    clear he
    gi_wp2
    refine ⟨by simp, .inl ⟨_, _, rfl, run_takeDeferred HK.out, ?_⟩⟩
    refine ⟨.tuple #[.slice va pre.length vc, .int .i64 0], by simp [results, Try.results17, go_sem, hl], _, rfl, (by rw [HE.out]; exact ownsRow_putObj g2 _ HK.out rfl), g5.trans (belowK_b (w := W) (Nat.le_refl _) W' D _ _ (by omega) HK.out rfl rfl)⟩
end Go.Proofs.Ytjbenhmpeceaeab
namespace Go.Proofs.Ytjbenhmpeceaeab
open Go Go.RowKit Gs

theorem clip_out {f : Int → Int} {lo hi : Int} : ∀ {l : List R} {a b : Int}, Fits f a l b → hi ≤ a → clip lo hi l = []
  | [], _, _, _, _ => rfl
  | r :: l, a, b, h, hm => by
    have h1 := h.1; have h3 := h.2.1
    rw [clip_cons, clip_out h.2.2.2 (by omega), List.append_nil]
    unfold clip1
    rw [if_neg (by omega)]
theorem clip_fits {f : Int → Int} {lo hi : Int} : ∀ {l : List R} {a b : Int}, Fits f a l b → max lo a ≤ min hi b → Fits f (max lo a) (clip lo hi l) (min hi b)
  | [], a, b, h, hm => by
    have h : a = b := h
    subst h
    show max lo a = min hi a
    omega
  | r :: l, a, b, h, hm => by
    have h1 := h.1; have h3 := h.2.1; have h4 := h.2.2.1; have h5 := h.2.2.2
    have hle := h5.le
    rw [clip_cons]
    unfold clip1
    by_cases hc : max lo r.lo < min r.hi hi
    · rw [if_pos hc]
      show max lo r.lo = max lo a ∧ max lo r.lo < min r.hi hi ∧ (∀ p, max lo r.lo ≤ p → p < min r.hi hi → f p = r.tag) ∧ Fits f (min r.hi hi) (clip lo hi l) (min hi b)
      refine ⟨by omega, hc, fun p p1 p2 => h4 p (by omega) (by omega), ?_⟩
      by_cases hh : r.hi ≤ hi
      · have := clip_fits (lo := lo) (hi := hi) h5 (by omega)
        rw [show max lo r.hi = min r.hi hi by omega] at this
        exact this
      · rw [clip_out h5 (by omega)]
        show min r.hi hi = min hi b
        omega
    · rw [if_neg hc, List.nil_append]
      by_cases hh : r.hi ≤ lo
      · have := clip_fits (lo := lo) (hi := hi) h5 (by omega)
        rw [show max lo r.hi = max lo a by omega] at this
        exact this
      · rw [clip_out h5 (by omega)]
        show max lo a = min hi b
        omega
theorem clip_alt {f : Int → Int} {lo hi : Int} : ∀ {l : List R} {a b : Int}, Fits f a l b → Alt l → Alt (clip lo hi l)
  | [], _, _, _, _ => trivial
  | r :: l, a, b, h, hl => by
    have h1 := h.1; have h3 := h.2.1; have h5 := h.2.2.2
    have hle := h5.le
    have ih := clip_alt (lo := lo) (hi := hi) h5 hl.tail
    rw [clip_cons]
    unfold clip1
    by_cases hc : max lo r.lo < min r.hi hi
    · rw [if_pos hc]
      show Alt (⟨max lo r.lo, min r.hi hi, r.tag⟩ :: clip lo hi l)
      refine alt_cons ih fun y hy => ?_
      show r.tag ≠ y.tag
      by_cases hh : r.hi < hi
      · cases l with
        | nil => cases hy
        | cons s m =>
          have hb := h5.lt
          have hf := clip_fits (lo := lo) (hi := hi) h5 (by omega)
          have e1 := hf.first hy
          have e2 := h5.first (y := s) rfl
          rw [show max lo r.hi = r.hi by omega] at e1
          rw [← e1.1, e2.1]
          exact hl.1
      · rw [clip_out h5 (by omega)] at hy
        cases hy
    · rw [if_neg hc]
      exact ih
theorem clip_can {f : Int → Int} {lo hi size : Int} {l : List R} (h : Gs.Can f 0 l size) (h1 : 0 ≤ lo) (h2 : lo ≤ hi) (h3 : hi ≤ size) : Gs.Can f lo (clip lo hi l) hi := by
  have := clip_fits (lo := lo) (hi := hi) h.1 (by omega)
  rw [show max lo 0 = lo by omega, show min hi size = hi by omega] at this
  exact ⟨this, clip_alt h.1 h.2⟩
theorem cnt_clip (k : Int) {lo hi : Int} (hle : lo ≤ hi) : ∀ {l : List R}, (∀ r ∈ l, r.lo < r.hi) → cnt k (clip lo hi l) = cb hi k l - cb lo k l
  | [], _ => rfl
  | r :: l, h => by
    have h1 := h r (List.mem_cons_self ..)
    have ih := cnt_clip k hle (fun x hx => h x (List.mem_cons_of_mem _ hx))
    rw [clip_cons, cnt_append, ih]
    unfold clip1
    show _ = ((if r.tag = k then max 0 (min hi r.hi - r.lo) else 0) + cb hi k l) - ((if r.tag = k then max 0 (min lo r.hi - r.lo) else 0) + cb lo k l)
    by_cases hc : max lo r.lo < min r.hi hi
    · rw [if_pos hc]
      show (if r.tag = k then min r.hi hi - max lo r.lo else 0) + 0 + _ = _
      by_cases hk : r.tag = k
      · rw [if_pos hk, if_pos hk, if_pos hk]; omega
      · rw [if_neg hk, if_neg hk, if_neg hk]; omega
    · rw [if_neg hc]
      show 0 + _ = _
      by_cases hk : r.tag = k
      · rw [if_pos hk, if_pos hk]; omega
      · rw [if_neg hk, if_neg hk]; omega
/-- the sum of the counts of the tags below n -/
def sumc (l : List R) : Nat → Int
  | 0 => 0
  | n + 1 => sumc l n + cnt n l
theorem sumc_cons (r : R) (l : List R) (ht : 0 ≤ r.tag) : ∀ n : Nat, sumc (r :: l) n = sumc l n + if r.tag < n then r.hi - r.lo else 0
  | 0 => by
    rw [if_neg (by omega)]; rfl
  | n + 1 => by
    show sumc (r :: l) n + ((if r.tag = n then r.hi - r.lo else 0) + cnt n l) = sumc l n + cnt n l + _
    rw [sumc_cons r l ht n]
    by_cases e : r.tag = n
    · rw [if_pos e, if_neg (by omega), if_pos (by omega)]; omega
    · by_cases e2 : r.tag < n
      · rw [if_neg e, if_pos e2, if_pos (by omega)]; omega
      · rw [if_neg e, if_neg e2, if_neg (by omega)]; omega
theorem sumc_all {f : Int → Int} : ∀ {l : List R} {a b : Int}, Fits f a l b → (∀ r ∈ l, 0 ≤ r.tag ∧ r.tag < 16) → sumc l 16 = b - a
  | [], a, b, h, _ => by
    have h : a = b := h
    subst h
    show sumc [] 16 = _
    rw [show sumc [] 16 = 0 by decide]; omega
  | r :: l, a, b, h, ht => by
    have h0 := ht r (List.mem_cons_self ..)
    rw [sumc_cons r l h0.1, sumc_all h.2.2.2 (fun x hx => ht x (List.mem_cons_of_mem _ hx)), if_pos (show r.tag < (16 : Nat) by omega)]
    have := h.1
    omega
theorem sumc_nn {l : List R} (h : ∀ k : Nat, 0 ≤ cnt k l) : ∀ n m : Nat, n ≤ m → sumc l n ≤ sumc l m
  | n, 0, hnm => by rw [Nat.le_zero.1 hnm]; exact Int.le_refl _
  | n, m + 1, hnm => by
    by_cases e : n = m + 1
    · rw [e]; exact Int.le_refl _
    · have := sumc_nn h n m (by omega)
      have h2 := h m
      show _ ≤ sumc l m + cnt m l
      omega
/-- a list of runs lies at a slice -/
def IsRs (base : Nat) (W : World) (v : Value) (l : List R) : Prop :=
  ∃ ao c, v = .slice ao l.length c ∧ (0 < l.length → ∃ B, ao = some ⟨B, 0, none⟩ ∧ (base ≤ B ∧ B < W.heap.size) ∧ ∀ j (h : j < l.length),
    W.cell? ⟨B, j * 3, none⟩ = some (.int .i64 l[j].lo) ∧ W.cell? ⟨B, j * 3 + 1, none⟩ = some (.int .i64 l[j].hi) ∧ W.cell? ⟨B, j * 3 + 2, none⟩ = some (.int .i64 l[j].tag))
theorem IsRs.below {base : Nat} {W W' : World} {v : Value} {l : List R} (h : IsRs base W v l) (hb : Below W.heap.size W W') : IsRs base W' v l := by
  obtain ⟨ao, c, hv, h⟩ := h
  refine ⟨ao, c, hv, fun hp => ?_⟩
  obtain ⟨B, e, hB, hc⟩ := h hp
  refine ⟨B, e, ⟨hB.1, Nat.lt_of_lt_of_le hB.2 hb.size⟩, fun j hj => ?_⟩
  obtain ⟨h0, h1, h2⟩ := hc j hj
  exact ⟨(hb.cell (p := ⟨B, _, none⟩) hB.2).trans h0, (hb.cell (p := ⟨B, _, none⟩) hB.2).trans h1, (hb.cell (p := ⟨B, _, none⟩) hB.2).trans h2⟩
theorem IsRs.set {base : Nat} {W : World} {v : Value} {l : List R} (h : IsRs base W v l) (p : Addr) (hp : p.block < base) (x : Value) : IsRs base (W.setCell p x) v l := by
  obtain ⟨ao, c, hv, h⟩ := h
  refine ⟨ao, c, hv, fun hl => ?_⟩
  obtain ⟨B, e, hB, hc⟩ := h hl
  refine ⟨B, e, ⟨hB.1, by rw [World.size_setCell]; exact hB.2⟩, fun j hj => ?_⟩
  obtain ⟨h0, h1, h2⟩ := hc j hj
  have hne : ∀ q : Addr, q.block = B → q ≠ p := fun q e1 e2 => by rw [← e2, e1] at hp; omega
  exact ⟨(World.cell?_setCell_other _ _ _ _ (hne _ rfl).symm).trans h0, (World.cell?_setCell_other _ _ _ _ (hne _ rfl).symm).trans h1, (World.cell?_setCell_other _ _ _ _ (hne _ rfl).symm).trans h2⟩
theorem encL_get : ∀ (l : List R) (j : Nat) (h : j < l.length), (l.flatMap encL)[j * 3]? = some (.int .i64 l[j].lo) ∧ (l.flatMap encL)[j * 3 + 1]? = some (.int .i64 l[j].hi) ∧ (l.flatMap encL)[j * 3 + 2]? = some (.int .i64 l[j].tag)
  | r :: l, 0, _ => ⟨rfl, rfl, rfl⟩
  | r :: l, j + 1, h => by
    have ih := encL_get l j (by simpa using h)
    have e : ∀ i, ((r :: l).flatMap encL)[i + 3]? = (l.flatMap encL)[i]? := fun i => rfl
    rw [show (j + 1) * 3 = j * 3 + 3 by omega, show j * 3 + 3 + 1 = j * 3 + 1 + 3 by omega, show j * 3 + 3 + 2 = j * 3 + 2 + 3 by omega, e, e, e]
    exact ih
theorem add_zero' (g j : Nat) : (⟨g, 0, none⟩ : Addr).add j = ⟨g, j, none⟩ := by
  by_cases e : j = 0
  · subst e; rfl
  · simp [Addr.add, e]
theorem IsRs.of_row {W : World} {base : Nat} {v : Value} {l : List R} (h : W.ownsRow base 46 3 v l.length (l.flatMap encL)) : IsRs base W v l := by
  have hcs := fun g hg => h.cells (g := g) hg
  have hlt := h.lt
  rcases h.2 with ⟨rfl, h0⟩ | ⟨g, cap, cur, rfl, _⟩
  · exact ⟨none, 0, by rw [h0], fun hp => by omega⟩
  · refine ⟨some ⟨g, 0, none⟩, cap, rfl, fun hp => ⟨g, rfl, hlt g rfl, fun j hj => ?_⟩⟩
    obtain ⟨e0, e1, e2⟩ := encL_get l j hj
    have c0 := hcs g rfl _ _ e0
    have c1 := hcs g rfl _ _ e1
    have c2 := hcs g rfl _ _ e2
    rw [add_zero'] at c0 c1 c2
    exact ⟨c0, c1, c2⟩
/-- an array of sixteen counts -/
structure Arr (B : Nat) (g : Nat → Int) (W : World) : Prop where
  c : ∀ k, k < 16 → W.cell? ⟨B, k, none⟩ = some (.int .i64 (g k))
  f : ∀ k, k < 16 → W.frozen? ⟨B, k, none⟩ = false
  lt : B < W.heap.size
theorem Arr.next {B : Nat} {g : Nat → Int} {W W' : World} (h : Arr B g W) (hb : Below W.heap.size W W') : Arr B g W' :=
  ⟨fun k hk => (hb.cell (p := ⟨B, k, none⟩) h.lt).trans (h.c k hk), fun k hk => (hb.frozen (p := ⟨B, k, none⟩) h.lt).trans (h.f k hk), Nat.lt_of_lt_of_le h.lt hb.size⟩
theorem Arr.put {B : Nat} {g g' : Nat → Int} {W : World} (h : Arr B g W) (t : Nat) (x : Int) (ht : t < 16) (e : ∀ k, k < 16 → g' k = if k = t then x else g k) : Arr B g' (W.setCell ⟨B, t, none⟩ (.int .i64 x)) := by
  refine ⟨fun k hk => ?_, fun k hk => (World.frozen?_setCell _ _ _ _).trans (h.f k hk), by rw [World.size_setCell]; exact h.lt⟩
  rw [e k hk]
  by_cases hkt : k = t
  · subst hkt
    rw [if_pos rfl]
    exact World.cell?_setCell_same _ _ _ (h.c k hk)
  · rw [if_neg hkt]
    exact (World.cell?_setCell_other _ _ _ _ (by intro e; injection e with _ e2; exact hkt e2.symm)).trans (h.c k hk)
theorem Arr.same {B : Nat} {g g' : Nat → Int} {W : World} (h : Arr B g W) (e : ∀ k, k < 16 → g' k = g k) : Arr B g' W := ⟨fun k hk => by rw [e k hk]; exact h.c k hk, h.f, h.lt⟩
end Go.Proofs.Ytjbenhmpeceaeab
namespace Go.Proofs.Ytjbenhmpeceaeab
open Go Go.RowKit Go.Shelf Gs

attribute [local go_sem] Oper.semAt_some

/-- of lists that cover the same pieces, one whose runs are all among the other's is the other -/
theorem fits_sub {f g : Int → Int} : ∀ {l k : List R} {a b : Int}, Fits f a l b → Fits g a k b → (∀ r ∈ l, r ∈ k) → l = k
  | [], k, a, b, h, h', _ => by
    have h : a = b := h
    subst h
    cases k with
    | nil => rfl
    | cons s k => have := h'.lt; omega
  | r :: l, k, a, b, h, h', hs => by
    have hlt := h.lt
    cases k with
    | nil => have h' : a = b := h'; omega
    | cons s k =>
      have hr := hs r (List.mem_cons_self ..)
      have e1 := h.1; have s1 := h'.1; have s2 := h'.2.1
      have hrs : r = s := by
        rcases List.mem_cons.1 hr with h1 | h1
        · exact h1
        · exfalso
          have : ∀ {k : List R} {c : Int}, Fits g c k b → ∀ x ∈ k, c ≤ x.lo := by
            intro k
            induction k with
            | nil => intro c _ x hx; cases hx
            | cons y k ih =>
              intro c hc x hx
              rcases List.mem_cons.1 hx with h2 | h2
              · subst h2; have := hc.1; omega
              · have := ih hc.2.2.2 x h2; have := hc.1; have := hc.2.1; omega
          have := this h'.2.2.2 r h1
          omega
      subst hrs
      have hno : ∀ {l : List R} {c : Int}, Fits f c l b → ∀ x ∈ l, c ≤ x.lo := by
        intro l
        induction l with
        | nil => intro c _ x hx; cases hx
        | cons y k ih =>
          intro c hc x hx
          rcases List.mem_cons.1 hx with h2 | h2
          · subst h2; have := hc.1; omega
          · have := ih hc.2.2.2 x h2; have := hc.1; have := hc.2.1; omega
      rw [fits_sub h.2.2.2 h'.2.2.2 fun x hx => by
        rcases List.mem_cons.1 (hs x (List.mem_cons_of_mem _ hx)) with h2 | h2
        · exfalso
          have q1 := hno h.2.2.2 x hx
          have q2 := h.2.1
          rw [h2] at q1
          omega
        · exact h2]
/-- two runs that hold a piece are one -/
theorem fits_one {f : Int → Int} : ∀ {l : List R} {a b : Int} {r s : R} {p : Int}, Fits f a l b → r ∈ l → s ∈ l → r.lo ≤ p → p < r.hi → s.lo ≤ p → p < s.hi → r = s
  | [], _, _, _, _, _, _, hr, _, _, _, _, _ => by cases hr
  | x :: l, a, b, r, s, p, h, hr, hs, r1, r2, s1, s2 => by
    have hno : ∀ {l : List R} {c : Int}, Fits f c l b → ∀ x ∈ l, c ≤ x.lo := by
      intro l
      induction l with
      | nil => intro c _ x hx; cases hx
      | cons y k ih =>
        intro c hc x hx
        rcases List.mem_cons.1 hx with h2 | h2
        · subst h2; have := hc.1; omega
        · have := ih hc.2.2.2 x h2; have := hc.1; have := hc.2.1; omega
    rcases List.mem_cons.1 hr with h1 | h1
    · rcases List.mem_cons.1 hs with h2 | h2
      · rw [h1, h2]
      · have := hno h.2.2.2 s h2; rw [h1] at r2; omega
    · rcases List.mem_cons.1 hs with h2 | h2
      · have := hno h.2.2.2 r h1; rw [h2] at s2; omega
      · exact fits_one h.2.2.2 h1 h2 r1 r2 s1 s2
theorem fits_find {f : Int → Int} : ∀ {l : List R} {a b : Int} {p : Int}, Fits f a l b → a ≤ p → p < b → ∃ r ∈ l, r.lo ≤ p ∧ p < r.hi
  | [], a, b, p, h, h1, h2 => by have h : a = b := h; omega
  | x :: l, a, b, p, h, h1, h2 => by
    have e := h.1
    by_cases hp : p < x.hi
    · exact ⟨x, List.mem_cons_self .., by omega, hp⟩
    · obtain ⟨r, hr, h3⟩ := fits_find h.2.2.2 (by omega) h2
      exact ⟨r, List.mem_cons_of_mem _ hr, h3⟩
theorem fits_rng {f : Int → Int} : ∀ {l : List R} {a b : Int}, Fits f a l b → ∀ r ∈ l, a ≤ r.lo ∧ r.lo < r.hi ∧ r.hi ≤ b
  | [], _, _, _, _, hr => by cases hr
  | x :: l, a, b, h, r, hr => by
    have h1 := h.1; have h2 := h.2.1; have h3 := h.2.2.2.le
    rcases List.mem_cons.1 hr with e | e
    · subst e; omega
    · have := fits_rng h.2.2.2 r e; omega
set_option maxHeartbeats 1000000 in
/-- the iterator's contract, where a round is told that its run is one of the range's -/
theorem seqP_stops {f : Int → Int} {t : T} {p : Option Addr} {a b lo hi : Int} {B n₀ n : Nat} {w : World} (C : List R) (hC : clip lo hi t.L = C) (hB : B + 1 + 1 < w.heap.size) (hn : n₀ ≤ w.heap.size)
    (c0 : w.cell? ⟨B, 0, none⟩ = some (.pointer p)) (c1 : w.cell? ⟨B + 1, 0, none⟩ = some (.int .i64 lo)) (c2 : w.cell? ⟨B + 1 + 1, 0, none⟩ = some (.int .i64 hi)) (ht : IsTB n₀ w t p) (hc : Gs.Can f a t.L b) :
    SeqStopsK Fence.wide n Try.prog 55 #[.pointer (some ⟨B, 0, none⟩), .pointer (some ⟨B + 1, 0, none⟩), .pointer (some ⟨B + 1 + 1, 0, none⟩)] (fun x : { r : R // r ∈ C } => encR x.1) (Below n₀) (fun ys => ys.map (·.1) = C) (fun q => q.map (·.1) <+: C) C.length w := fun l J Jx W hW hJ hJx hY h0 => by
  have hp := visitP_in (fun r => r ∈ C) f l n₀ C.length (fun pre W => ∃ us : List { r : R // r ∈ C }, us.map (·.1) = pre ∧ J us W) (fun pre W => ∃ us : List { r : R // r ∈ C }, us.map (·.1) = pre ∧ Jx us W)
    (fun s W W' ⟨us, e, hs⟩ hg => ⟨us, e, hJ us W W' none hs hg (fun r e => by cases e)⟩) (fun s W W' ⟨us, e, hs⟩ hg => ⟨us, e, hJx us W W' none hs hg (fun r e => by cases e)⟩)
    (fun m pre x W1 ⟨us, e, hj⟩ hl hx => YieldAt.mono (YieldAt.deep rfl m (hY us ⟨x, hx⟩ W1 hj (by rw [← e, List.length_map] at hl; exact hl))) fun e' W2 h => h.elim (fun ⟨he, hj2, hk⟩ => .inl ⟨he, ⟨us ++ [⟨x, hx⟩], by rw [List.map_append, e]; rfl, hj2⟩, hk⟩) fun ⟨he, hj2⟩ => .inr ⟨he, ⟨us ++ [⟨x, hx⟩], by rw [List.map_append, e]; rfl, hj2⟩⟩)
    t (n - 1) p a b lo hi [] W (ht.below (hW.mono hn)) (Nat.le_trans hn hW.size) hc ⟨[], rfl, h0⟩ (by simp [hC]) (fun x hx => by rw [hC] at hx; exact hx)
  rw [hC] at hp
  have k0 : W.cell? ⟨B, 0, none⟩ = some (.pointer p) := (hW.cell (p := ⟨B, 0, none⟩) (by show B < _; omega)).trans c0
  have k1 : W.cell? ⟨B + 1, 0, none⟩ = some (.int .i64 lo) := (hW.cell (p := ⟨B + 1, 0, none⟩) (by show B + 1 < _; omega)).trans c1
  have k2 : W.cell? ⟨B + 1 + 1, 0, none⟩ = some (.int .i64 hi) := (hW.cell (p := ⟨B + 1 + 1, 0, none⟩) (by show B + 1 + 1 < _; omega)).trans c2
  clear c0 c1 c2 hW hY hC
  refine callsIn_of_wp Try.func55 rfl trivial ?_ rfl
  simp only [Try.ntmps55, List.size_toArray, List.length_cons, List.length_nil, Nat.reduceAdd, Nat.reduceSub, Array.replicate_succ, Array.replicate_zero, List.push_toArray, List.append_toArray, List.nil_append, List.cons_append]
  gi_wp2_with fail
  refine ⟨trivial, (fun h => by cases h), hp.mono ?_⟩
  rintro e W1 (⟨rfl, ⟨us, h1, h2⟩, _⟩ | ⟨rfl, q, hq, us, h1, h2⟩)
  · gi_wp2_with fail
    go_end0
    exact ⟨⟨_, rfl⟩, .inl ⟨us, by simpa using h1, h2⟩⟩
  · gi_wp2_with fail
    go_end0
    exact ⟨⟨_, rfl⟩, .inr ⟨us, by rw [h1]; simpa using hq, h2⟩⟩
theorem IsM.tree {f : Int → Int} {size : Int} {W : World} {p : Option Addr} (h : IsM f size W p) : ∃ t, IsT W t (.pointer p) ∧ Gs.Can f 0 t.L size := by
  obtain ⟨t, t1, t2, _⟩ := h.tr
  exact ⟨t, t1, t2⟩
set_option maxRecDepth 100000 in
set_option maxHeartbeats 2000000 in
theorem Equal_any {f g : Int → Int} {size : Int} {W : World} {p q : Option Addr} (h : IsM f size W p) (h' : IsM g size W q) :
    ∃ La Lb, Gs.Can f 0 La size ∧ Gs.Can g 0 Lb size ∧ Calls Try.prog 21 #[.agg #[.pointer p, .int .i64 size], .agg #[.pointer q, .int .i64 size]] W fun e w' => ∃ b, e = .returned (.bool b) ∧ Hid (b = true ↔ La = Lb) ∧ Below W.heap.size W w' := by
  have hs := h.lo
  obtain ⟨ta, a1, a2⟩ := IsM.tree h
  obtain ⟨tb, b1, b2⟩ := IsM.tree h'
  have hcl := Gs.Can.same (clip_can a2 (Int.le_refl 0) (by omega) (Int.le_refl size)) a2
  refine ⟨ta.L, tb.L, a2, b2, ?_⟩
  obtain ⟨w0, HW⟩ : ∃ w0, w0 = ((W.alloc (.cells #[.pointer p, .int .i64 size] 27)).alloc (.cells #[.pointer q, .int .i64 size] 27)).alloc (.cells #[.bool false] 4) := ⟨_, rfl⟩
  have hsz : w0.heap.size = W.heap.size + 1 + 1 + 1 := by rw [HW]; simp
  have hc : Boxed w0 (W.heap.size + 1 + 1) 4 (.bool false) := by
    have := Boxed.new ((W.alloc (.cells #[.pointer p, .int .i64 size] 27)).alloc (.cells #[.pointer q, .int .i64 size] 27)) 4 (.bool false)
    rw [← HW] at this
    simpa using this
  have hq : w0.heap[W.heap.size + 1]? = some (.cells #[.pointer q, .int .i64 size] 27 (0, 0)) := by
    rw [HW, Below.heap_alloc _ _ _ (by simp)]
    have := World.alloc_heap_new (W.alloc (.cells #[.pointer p, .int .i64 size] 27)) (.cells #[.pointer q, .int .i64 size] 27)
    rwa [World.size_alloc] at this
  have hb : Below W.heap.size W w0 := by rw [HW]; exact (((Below.refl _ _).alloc (Nat.le_refl _) _).alloc (by simp) _).alloc (by simp; omega) _
  obtain ⟨w1, HW1⟩ : ∃ w1, w1 = w0.alloc (.cells #[.pointer p, .int .i64 size] 27) := ⟨_, rfl⟩
  have c1 : Below w0.heap.size w0 w1 := by rw [HW1]; exact (Below.refl _ _).alloc (Nat.le_refl _) _
  have e1 : w1.heap.size = w0.heap.size + 1 := by rw [HW1]; simp
  obtain ⟨q0, q1, q2, q3, q4⟩ := seq_cells w1 p 0 size
  have c2 := c1.trans (q4.mono c1.size)
  have hc2 : Boxed (seqW w1 p 0 size) (W.heap.size + 1 + 1) 4 (.bool false) := (c2.block _ (by omega)).trans hc
  have hq2 : (seqW w1 p 0 size).heap[W.heap.size + 1]? = some (.cells #[.pointer q, .int .i64 size] 27 (0, 0)) := (c2.block _ (by omega)).trans hq
  have hb2 : Below W.heap.size W (seqW w1 p 0 size) := hb.trans (c2.mono hb.size)
  have HAL : Hid (CallsIn Fence.wide 8 Try.prog 43 #[.agg #[.pointer p, .int .i64 size]] w0 fun e w' => e = .returned (seqV w1.heap.size) ∧ w' = seqW w1 p 0 size) := callsIn_wide.2 (by rw [e1, HW1]; exact all_any p size w0)
  have hge : W.heap.size ≤ (seqW w1 p 0 size).heap.size := hb2.size
  have HSQ := Lib.hid (seqP_stops (n := 8) (n₀ := W.heap.size) (lo := 0) (hi := size) ta.L hcl (by rw [q3]; omega) hge q0 q1 q2 ((IsT.tb a1).below hb2) a2)
  have HATB : Hid (∀ W' x, Below W.heap.size W W' → 0 ≤ x → x < size → CallsIn Fence.wide 6 Try.prog 30 #[.pointer q, .int .i64 x] W' fun e w' => ∃ lo hi tag, e = .returned (.agg #[.int .i64 lo, .int .i64 hi, .int .i64 tag]) ∧ Hid ((⟨lo, hi, tag⟩ : R) ∈ tb.L ∧ lo ≤ x ∧ x < hi) ∧ Below W'.heap.size W' w') := fun W' x hB x1 x2 => callsIn_wide.2 ((at_any g 0 size tb q W' x (IsT.below hB b1) b2 x1 x2).mono fun e w' ⟨l, lo, hi, tag, k, he, hk, hB⟩ => ⟨lo, hi, tag, he, ⟨by rw [hk.out.1]; simp, hk.out.2⟩, hB⟩)
  have HFA := Lib.hid a2
  have HFB := Lib.hid b2
  have HW' := Lib.hid HW
  rw [hsz] at e1
  rw [e1] at HSQ HAL
  generalize seqW w1 p 0 size = w2 at *
  clear h h' hs q0 q1 q2 q3 q4 c1 c2 HW hc hq hb HW1 e1 hsz a1 a2 b1 b2 hcl
  refine (callsIn_wide (n := 9)).1 ?_
  refine callsIn_of_wp_marks Try.func21 rfl trivial ?_ rfl
  simp only [Try.ntmps21, List.size_toArray, List.length_cons, List.length_nil, Nat.reduceAdd, Nat.reduceSub, Array.replicate_succ, Array.replicate_zero, List.push_toArray, List.append_toArray, List.nil_append, List.cons_append]
  gi_wp2_with (refine ⟨trivial, ?_⟩; gi_at_call 43; rw [← HW'.out]; refine HAL.out.mono ?_; rintro e w' ⟨rfl, rfl⟩)
  refine wpIn_rangeFunc_ownH rfl (by omega) (gf := 55) (lb := #[.pointer (some ⟨W.heap.size + 1 + 1 + 1 + 1, 0, none⟩), .pointer (some ⟨W.heap.size + 1 + 1 + 1 + 1 + 1, 0, none⟩), .pointer (some ⟨W.heap.size + 1 + 1 + 1 + 1 + 1 + 1, 0, none⟩)]) rfl trivial (enters_of Try.func55 (by kernel_rfl) rfl)
    HSQ.out belowK_t (belowK_b hge) (Below.refl _ _) (fun _ => rfl)
    (fun pre W' => ((Boxed W' (W.heap.size + 1 + 1) 4 (.bool false) ∧ W'.heap[W.heap.size + 1]? = some (.cells #[.pointer q, .int .i64 size] 27 (0, 0))) ∧ ∀ r ∈ pre, r.1 ∈ tb.L) ∧ Below W.heap.size W W')
    (fun c pre' W' => (c = .ret ∧ Boxed W' (W.heap.size + 1 + 1) 4 (.bool false) ∧ ∃ r ∈ pre', r.1 ∉ tb.L) ∧ Below W.heap.size W W')
    (OwnFrom.and (Own.from (fun s A B row hs hg hr => ⟨⟨boxed_own (W.heap.size + 1 + 1) 4 (fun (_ : Unit) => .bool false) () A B row hs.1.1 hg hr, (hg.block _ (Array.getElem?_eq_some_iff.1 hs.1.2).1 (fun e => by obtain ⟨o, ho, hc⟩ := hr _ e.symm; rw [hs.1.2] at ho; cases ho; cases hc)).trans hs.1.2⟩, hs.2⟩) _) (ownFrom_below (Nat.le_refl _) hge))
    (fun c => OwnFrom.and (Own.from (fun s A B row hs hg hr => ⟨hs.1, boxed_own (W.heap.size + 1 + 1) 4 (fun (_ : Unit) => .bool false) () A B row hs.2.1 hg hr, hs.2.2⟩) _) (ownFrom_below (Nat.le_refl _) hge))
    ⟨⟨⟨hc2, hq2⟩, fun r hr => by cases hr⟩, hb2⟩
    (fun x a' W' => ∃ Bx, W.heap.size + 1 + 1 < Bx ∧ Rb W' Bx x.1 ∧ a' = { tmps := #[.agg #[.pointer p, .int .i64 size], .agg #[.pointer q, .int .i64 size], .pointer (some ⟨W.heap.size, 0, none⟩), .pointer (some ⟨W.heap.size + 1, 0, none⟩), .pointer (some ⟨W.heap.size + 1 + 1, 0, none⟩), .pointer (some ⟨Bx, 0, none⟩), .pointer (some ⟨W.heap.size, 1, none⟩), .int .i64 size, .pointer (some ⟨W.heap.size + 1, 1, none⟩), .int .i64 size, .bool false, .agg #[.pointer p, .int .i64 size], seqV (W.heap.size + 1 + 1 + 1 + 1), .agg #[.int .i64 x.1.lo, .int .i64 x.1.hi, .int .i64 x.1.tag], undef, undef, undef, undef, undef, undef, undef], defers := [] })
    (fun x a' => Own.from (fun s A B row hs hg hr => by
      obtain ⟨Bx, h1, h2, h3⟩ := hs
      exact ⟨Bx, h1, Rb.own Bx x.1 () A B row h2 hg hr, h3⟩) _) ?assign ?body ?done ?stop
  case assign =>
    rintro l pre ⟨⟨xa, xb, xc⟩, hxm⟩ W' K ⟨⟨⟨g1, g2⟩, g3⟩, g4⟩ hK
    unfold encR
    gi_wp2
    exact hK _ _ ((KeepsOthers.alloc _ _).from _) ((Below.refl _ W').alloc g4.size _) ⟨⟨⟨g1.alloc _, ((Below.refl W'.heap.size W').alloc (Nat.le_refl _) _).block _ (Nat.lt_trans (Nat.lt_succ_self _) g1.lt) |>.trans g2⟩, g3⟩, g4.alloc g4.size _⟩ ⟨W'.heap.size, g1.lt, Rb.new W' ⟨xa, xb, xc⟩, rfl⟩
  case body =>
    rintro l pre ⟨⟨xa, xb, xc⟩, hxm⟩ a' W' hl ⟨r, hr⟩ ⟨⟨⟨g1, g2⟩, g3⟩, g4⟩ ⟨Bx, hBx, bX, rfl⟩ hlt
    have hrg := fits_rng HFA.out.1 _ hxm
    simp only at hrg
    have hc0 := g1.cell; have hf0 := g1.frozen
    have k0 : W'.cell? ⟨W.heap.size + 1, 0, none⟩ = some (.pointer q) := by simp [World.cell?, g2]
    obtain ⟨r0, r1, r2⟩ := bX.cells
    simp only at r0 r1 r2
    obtain ⟨⟨ya, yb, yc⟩, hym, hy1, hy2⟩ := fits_find (p := xa) HFB.out.1 hrg.1 (by omega)
    simp only at hy1 hy2
    have HAT : Hid (CallsIn Fence.wide 6 Try.prog 30 #[.pointer q, .int .i64 xa] W'.drew fun e w' => e = .returned (.agg #[.int .i64 ya, .int .i64 yb, .int .i64 yc]) ∧ Below W'.drew.heap.size W'.drew w') := (HATB.out W'.drew xa g4.drew hrg.1 (by omega)).mono fun e w' ⟨lo, hi, tag, he, hm, hB⟩ => by
      have := fits_one HFB.out.1 hm.out.1 hym hm.out.2.1 hm.out.2.2 hy1 hy2
      cases this
      exact ⟨he, hB⟩
    have HXC : Hid (∀ w5, Below W'.drew.heap.size W'.drew w5 → w5.cell? ⟨Bx, 0, none⟩ = some (.int .i64 xa) ∧ w5.cell? ⟨Bx, 1, none⟩ = some (.int .i64 xb) ∧ w5.cell? ⟨Bx, 2, none⟩ = some (.int .i64 xc)) := fun w5 h => ⟨(h.cell (p := ⟨Bx, 0, none⟩) bX.lt).trans r0, (h.cell (p := ⟨Bx, 1, none⟩) bX.lt).trans r1, (h.cell (p := ⟨Bx, 2, none⟩) bX.lt).trans r2⟩
    have HNEXT : Hid ((⟨xa, xb, xc⟩ : R) = ⟨ya, yb, yc⟩ → ∀ r ∈ pre ++ [(⟨⟨xa, xb, xc⟩, hxm⟩ : { r : R // r ∈ ta.L })], r.1 ∈ tb.L) := fun e r hr => by
      rcases List.mem_append.1 hr with h1 | h1
      · exact g3 r h1
      · rw [List.mem_singleton.1 h1]; show (⟨xa, xb, xc⟩ : R) ∈ tb.L; rw [e]; exact hym
    have HSTOP : Hid ((⟨xa, xb, xc⟩ : R) ≠ ⟨ya, yb, yc⟩ → ∃ r ∈ pre ++ [(⟨⟨xa, xb, xc⟩, hxm⟩ : { r : R // r ∈ ta.L })], r.1 ∉ tb.L) := fun e => ⟨⟨⟨xa, xb, xc⟩, hxm⟩, List.mem_append_right _ (List.mem_singleton.2 rfl), fun h => e (fits_one HFB.out.1 h hym (Int.le_refl _) hrg.2.1 hy1 hy2)⟩
    have hG1 := Lib.hid g1; have hG2 := Lib.hid g2; have hG4 := Lib.hid g4
    have HBX : Hid (∀ w5, Below W'.drew.heap.size W'.drew w5 → Boxed w5 (W.heap.size + 1 + 1) 4 (.bool false)) := fun w5 h => (h.block _ g1.lt).trans g1
    by_cases m1 : xa = ya
    · by_cases m2 : xb = yb
      · by_cases m3 : xc = yc
        · subst m1; subst m2; subst m3
          gi_wp2_with fail
          gi_region_with (first | (refine ⟨trivial, ?_⟩; with_reducible refine (CallsIn.inRound l HAT.out).mono ?_; clear HAT; rintro e w5 ⟨rfl, hb5⟩; obtain ⟨s0, s1, s2⟩ := HXC.out _ hb5; obtain ⟨b0, b1⟩ : _ ∧ _ := ⟨(HBX.out _ hb5).cell, (HBX.out _ hb5).frozen⟩) | fail)
          all_goals
            have HB5 := Lib.hid hb5
            clear s0 s1 s2 hb5
            go_simp
            gi_wp2_with fail
            exact ⟨⟨HB5.out.size, fun j o _ hj _ => (HB5.out.block j (Array.getElem?_eq_some_iff.1 hj).1).trans hj⟩, (Below.refl W'.heap.size W').drew.trans HB5.out |>.mono hG4.out.size, ⟨⟨HBX.out _ HB5.out, (HB5.out.block _ (Array.getElem?_eq_some_iff.1 hG2.out).1).trans hG2.out⟩, HNEXT.out (by first | rfl | trivial)⟩, hG4.out.trans ((Below.refl W'.heap.size W').drew.trans HB5.out |>.mono hG4.out.size)⟩
        · have n3 : (xc == yc) = false := beq_eq_false_iff_ne.2 m3
          have HNE : Hid ((⟨xa, xb, xc⟩ : R) ≠ ⟨ya, yb, yc⟩) := fun e => m3 (by injection e)
          subst m1; subst m2
          clear m3
          gi_wp2_with fail
          gi_region_with (first | (refine ⟨trivial, ?_⟩; with_reducible refine (CallsIn.inRound l HAT.out).mono ?_; clear HAT; rintro e w5 ⟨rfl, hb5⟩; obtain ⟨s0, s1, s2⟩ := HXC.out _ hb5; obtain ⟨b0, b1⟩ : _ ∧ _ := ⟨(HBX.out _ hb5).cell, (HBX.out _ hb5).frozen⟩) | fail)
          all_goals
            have HB5 := Lib.hid hb5
            clear s0 s1 s2 hb5
            go_simp
            gi_wp2_with fail
            have hK5 : KeepsFrom w'.heap.size W' w5 := ⟨HB5.out.size, fun j o _ hj _ => (HB5.out.block j (Array.getElem?_eq_some_iff.1 hj).1).trans hj⟩
            have hI5 := hG4.out.trans ((Below.refl W'.heap.size W').drew.trans HB5.out |>.mono hG4.out.size)
            first
            | exact ⟨hK5, ⟨rfl, HBX.out _ HB5.out, HSTOP.out HNE.out⟩, hI5⟩
            | exact ⟨hK5.trans ((KeepsOthers.setCell w5 _ _).from _), ⟨rfl, (HBX.out _ HB5.out).set _, HSTOP.out HNE.out⟩, hI5.setCell (p := ⟨W.heap.size + 1 + 1, 0, none⟩) (by show _ ≤ W.heap.size + 1 + 1; omega) _⟩
      · have n2 : (xb == yb) = false := beq_eq_false_iff_ne.2 m2
        have HNE : Hid ((⟨xa, xb, xc⟩ : R) ≠ ⟨ya, yb, yc⟩) := fun e => m2 (by injection e)
        subst m1
        clear m2
        gi_wp2_with fail
        gi_region_with (first | (refine ⟨trivial, ?_⟩; with_reducible refine (CallsIn.inRound l HAT.out).mono ?_; clear HAT; rintro e w5 ⟨rfl, hb5⟩; obtain ⟨s0, s1, s2⟩ := HXC.out _ hb5; obtain ⟨b0, b1⟩ : _ ∧ _ := ⟨(HBX.out _ hb5).cell, (HBX.out _ hb5).frozen⟩) | fail)
        all_goals
          have HB5 := Lib.hid hb5
          clear s0 s1 s2 hb5
          go_simp
          gi_wp2_with fail
          have hK5 : KeepsFrom w'.heap.size W' w5 := ⟨HB5.out.size, fun j o _ hj _ => (HB5.out.block j (Array.getElem?_eq_some_iff.1 hj).1).trans hj⟩
          have hI5 := hG4.out.trans ((Below.refl W'.heap.size W').drew.trans HB5.out |>.mono hG4.out.size)
          first
          | exact ⟨hK5, ⟨rfl, HBX.out _ HB5.out, HSTOP.out HNE.out⟩, hI5⟩
          | exact ⟨hK5.trans ((KeepsOthers.setCell w5 _ _).from _), ⟨rfl, (HBX.out _ HB5.out).set _, HSTOP.out HNE.out⟩, hI5.setCell (p := ⟨W.heap.size + 1 + 1, 0, none⟩) (by show _ ≤ W.heap.size + 1 + 1; omega) _⟩
    · have n1 : (xa == ya) = false := beq_eq_false_iff_ne.2 m1
      have HNE : Hid ((⟨xa, xb, xc⟩ : R) ≠ ⟨ya, yb, yc⟩) := fun e => m1 (by injection e)
      clear m1
      gi_wp2_with fail
      gi_region_with (first | (refine ⟨trivial, ?_⟩; with_reducible refine (CallsIn.inRound l HAT.out).mono ?_; clear HAT; rintro e w5 ⟨rfl, hb5⟩; obtain ⟨s0, s1, s2⟩ := HXC.out _ hb5; obtain ⟨b0, b1⟩ : _ ∧ _ := ⟨(HBX.out _ hb5).cell, (HBX.out _ hb5).frozen⟩) | fail)
      all_goals
        have HB5 := Lib.hid hb5
        clear s0 s1 s2 hb5
        go_simp
        gi_wp2_with fail
        have hK5 : KeepsFrom w'.heap.size W' w5 := ⟨HB5.out.size, fun j o _ hj _ => (HB5.out.block j (Array.getElem?_eq_some_iff.1 hj).1).trans hj⟩
        have hI5 := hG4.out.trans ((Below.refl W'.heap.size W').drew.trans HB5.out |>.mono hG4.out.size)
        first
        | exact ⟨hK5, ⟨rfl, HBX.out _ HB5.out, HSTOP.out HNE.out⟩, hI5⟩
        | exact ⟨hK5.trans ((KeepsOthers.setCell w5 _ _).from _), ⟨rfl, (HBX.out _ HB5.out).set _, HSTOP.out HNE.out⟩, hI5.setCell (p := ⟨W.heap.size + 1 + 1, 0, none⟩) (by show _ ≤ W.heap.size + 1 + 1; omega) _⟩
  case done =>
    rintro D ys W' hD hys ⟨⟨⟨g1, g2⟩, g3⟩, g4⟩ hK
    have hcell := g1.cell; have hfr := g1.frozen
    have HEQ : Hid (ta.L = tb.L) := fits_sub HFA.out.1 HFB.out.1 fun r hr => by
      rw [← hys] at hr
      obtain ⟨x, hx, rfl⟩ := List.mem_map.1 hr
      exact g3 x hx
    have HD := Lib.hid hD; have HK := Lib.hid hK; have H4 := Lib.hid g4; have H1 := Lib.hid g1.cell
    clear hys g1 g2 g3 g4 hK hD
    gi_wp2
    have hK2 := (KeepsOthers.setCell W' ⟨W.heap.size + 1 + 1, 0, none⟩ (.bool true)).same D _ HK.out rfl
    have hcell2 := cell_kept (World.cell?_setCell_same _ _ (.bool true) H1.out) (grownBy_putObj' _ D (.deferred none)) (fun r e => by cases e; exact ⟨_, hK2, rfl⟩)
    refine ⟨by simp, .inl ⟨_, _, rfl, run_takeDeferred hK2, ?_⟩⟩
    refine ⟨.bool true, by simp [results, Try.results21, go_sem, hcell2], true, rfl, ⟨fun _ => HEQ.out, fun _ => rfl⟩, ?_⟩
    exact (H4.out.setCell (p := ⟨W.heap.size + 1 + 1, 0, none⟩) (by show _ ≤ W.heap.size + 1 + 1; omega) _).trans (belowK_b (w := W) (Nat.le_refl _) _ D _ _ (by have := HD.out; have := hge; omega) hK2 rfl rfl)
  case stop =>
    rintro D c pre' W' hD hSp ⟨⟨rfl, g1, g2⟩, g4⟩ hK
    have HNE : Hid (¬ ta.L = tb.L) := fun e => by
      obtain ⟨r, _, hr⟩ := g2
      exact hr (by rw [← e]; exact r.2)
    have HD := Lib.hid hD; have HK := Lib.hid hK; have H4 := Lib.hid g4; have H1 := Lib.hid g1.cell
    clear hSp g1 g2 g4 hK hD
    gi_wp2
    have hcell2 := cell_kept H1.out (grownBy_putObj' _ D (.deferred none)) (fun r e => by cases e; exact ⟨_, HK.out, rfl⟩)
    refine ⟨by simp, .inl ⟨_, _, rfl, run_takeDeferred HK.out, ?_⟩⟩
    refine ⟨.bool false, by simp [results, Try.results21, go_sem, hcell2], false, rfl, ⟨fun h => (by cases h), fun h => absurd h HNE.out⟩, ?_⟩
    exact H4.out.trans (belowK_b (w := W) (Nat.le_refl _) _ D _ _ (by have := HD.out; have := hge; omega) HK.out rfl rfl)
end Go.Proofs.Ytjbenhmpeceaeab
namespace Go.Proofs.Ytjbenhmpeceaeab
open Go Go.RowKit Gs

/-- the runs with one behind them: of the same tag it is a part of the last one -/
def joinL (l : List R) (x : R) : List R :=
  if x.hi ≤ x.lo then l else match l.getLast? with
    | some y => if y.tag = x.tag then l.dropLast ++ [⟨y.lo, x.hi, x.tag⟩] else l ++ [x]
    | none => [x]
abbrev rowR (W : World) (base : Nat) (v : Value) (l : List R) : Prop := W.ownsRow base 46 3 v l.length (l.flatMap encL)
theorem row_snoc {W : World} {base : Nat} {v : Value} {l : List R} {x : R} (h : W.ownsRow base 46 3 v (l.length + 1) (l.flatMap encL ++ encL x)) : rowR W base v (l ++ [x]) := by
  unfold rowR
  rw [List.length_append, List.length_singleton, List.flatMap_append, List.flatMap_singleton]
  exact h
/-- what Join leaves: the list owns its row, what lay below base lies, what is not the old row's lies, and the new row is the old one's or new -/
structure JP (W : World) (base : Nat) (v : Value) (l : List R) (v' : Value) (w' : World) : Prop where
  own : rowR w' base v' l
  bel : Below base W w'
  keep : ∀ k, k < W.heap.size → some k ≠ v.ownBlock → w'.heap[k]? = W.heap[k]?
  at' : ∀ k, v'.ownBlock = some k → v.ownBlock = some k ∨ W.heap.size ≤ k
theorem row_mono {W : World} {base base' : Nat} {e : TypeId} {size : Nat} {v : Value} {n : Nat} {xs : List Value} (h : W.ownsRow base e size v n xs) (hb : base' ≤ base) : W.ownsRow base' e size v n xs := by
  refine ⟨h.1, ?_⟩
  rcases h.2 with h2 | ⟨g, cap, cur, h2, h3, h4⟩
  · exact .inl h2
  · exact .inr ⟨g, cap, cur, h2, Nat.le_trans hb h3, h4⟩
/-- what Join's walk carries: the new run's box, the list, all that lies below base -/
structure Jn (W : World) (base : Nat) (v : Value) (n : Nat) (xs : List Value) (xa xb xc : Int) (W' : World) : Prop where
  c0 : W'.cell? ⟨W.heap.size, 0, none⟩ = some (.int .i64 xa)
  c1 : W'.cell? ⟨W.heap.size, 1, none⟩ = some (.int .i64 xb)
  c2 : W'.cell? ⟨W.heap.size, 2, none⟩ = some (.int .i64 xc)
  own : W'.ownsRow base 46 3 v n xs
  bel : Below base W W'
  lt : W.heap.size < W'.heap.size
  bw : Below W.heap.size W W'
theorem Jn.new {W : World} {base : Nat} {v : Value} {n : Nat} {xs : List Value} (xa xb xc : Int) (h : W.ownsRow base 46 3 v n xs) (hb : base ≤ W.heap.size) : Jn W base v n xs xa xb xc (W.alloc (.cells #[.int .i64 xa, .int .i64 xb, .int .i64 xc] 46)) :=
  ⟨World.cell?_alloc_at _ _ _ _ rfl, World.cell?_alloc_at _ _ _ _ rfl, World.cell?_alloc_at _ _ _ _ rfl, h.alloc _, (Below.refl _ _).alloc hb _, by simp, (Below.refl _ _).alloc (Nat.le_refl _) _⟩
theorem Jn.next {W W' W2 : World} {base : Nat} {v : Value} {n : Nat} {xs : List Value} {xa xb xc : Int} (h : Jn W base v n xs xa xb xc W') (hb : Below W'.heap.size W' W2) (ho : W2.ownsRow base 46 3 v n xs) (hw : base ≤ W.heap.size) : Jn W base v n xs xa xb xc W2 :=
  ⟨(hb.cell (p := ⟨W.heap.size, 0, none⟩) h.lt).trans h.c0, (hb.cell (p := ⟨W.heap.size, 1, none⟩) h.lt).trans h.c1, (hb.cell (p := ⟨W.heap.size, 2, none⟩) h.lt).trans h.c2, ho, h.bel.trans (hb.mono (Nat.le_trans hw (Nat.le_of_lt h.lt))), Nat.lt_of_lt_of_le h.lt hb.size, h.bw.trans (hb.mono (Nat.le_of_lt h.lt))⟩
theorem row_drewN {W : World} {base : Nat} {e : TypeId} {size : Nat} {v : Value} {n : Nat} {xs : List Value} (h : W.ownsRow base e size v n xs) (k : Nat) : (W.drewN k).ownsRow base e size v n xs := by
  have e1 : (W.drewN k).heap = W.heap := by simp
  unfold World.ownsRow at h ⊢
  rw [e1]
  exact h
theorem Jn.drewN {W W' : World} {base : Nat} {v : Value} {n : Nat} {xs : List Value} {xa xb xc : Int} (h : Jn W base v n xs xa xb xc W') (hw : base ≤ W.heap.size) (k : Nat) : Jn W base v n xs xa xb xc (W'.drewN k) :=
  h.next (below_drewN (Below.refl _ _) k) (row_drewN h.own k) hw
/-- an append as one step of a drawn region -/
theorem step_append_row {P : Program} {ops : Array Oper} {o : Oper} {a : Act} {w : World} {K : Act → World → Prop} {Q : Exit → Act → World → Prop} {E : Prop} (hg : o.guard = none) (s x : Operand) (t : TypeId)
    (ho : o.op = Op.call { callee := Callee.builtin Builtin.append, args := #[s, x], argTypes := #[t, t] })
    (base : Nat) (e : TypeId) (i : TypeInfo) (z : Value) (size bytes : Nat) (ht : P.underlying t = some (.slice e)) (hi : P.info? e = some i) (hz : i.zero = some z)
    (hsize : i.size = size) (hby : i.bytes = bytes) (hzs : z.cells.size = size) (hsz : 0 < size)
    (v : Value) (n : Nat) (xs : List Value) (hs : a.eval s = v) (hown : w.ownsRow base e size v n xs)
    (ad : Addr) (m c : Nat) (news : List Value) (hx : a.eval x = .slice (some ad) m c) (hl : news.length = m * size) (hnews : ∀ j u, news[j]? = some u → w.cell? (ad.add j) = some u) (h1 : ∀ u ∈ news, u.oneCell' = true)
    (h63 : n + m ≤ maxLen) (hbytes : (n + m) * bytes ≤ 140737488355328) (hbase : base ≤ w.heap.size)
    (hK : ∀ v' w', w'.ownsRow base e size v' (n + m) (xs ++ news) → w.grownBy w' v.ownBlock → (v' = .slice none 0 0 ↔ v = .slice none 0 0 ∧ m = 0) → K (a.put o.dst v') w') :
    if Region.wanted o (yielded ops a.tmps) = true then Oper.wp P o a w K Q else E := by
  have hw : Region.wanted o (yielded ops a.tmps) = true := by simp [Region.wanted, hg]
  rw [if_pos hw]
  exact wp_append_own w s x t ho base e i z size bytes ht hi hz hsize hby hzs hsz v n xs hs hown ad m c news hx hl hnews h1 h63 hbytes hbase hK
theorem encL_one (l : List R) : ∀ u ∈ l.flatMap encL, u.oneCell' = true := by
  intro u hu
  obtain ⟨r, _, hr⟩ := List.mem_flatMap.1 hu
  simp [encL] at hr
  rcases hr with rfl | rfl | rfl <;> rfl
theorem encL_len (l : List R) : (l.flatMap encL).length = l.length * 3 := by
  induction l with
  | nil => rfl
  | cons r l ih => rw [List.flatMap_cons, List.length_append, ih, List.length_cons]; simp [encL]; omega
end Go.Proofs.Ytjbenhmpeceaeab
namespace Go.Proofs.Ytjbenhmpeceaeab
open Go Go.RowKit Gs

/-- a box of two cells -/
structure M2 (B : Nat) (x y : Value) (W' : World) : Prop where
  c0 : W'.cell? ⟨B, 0, none⟩ = some x
  c1 : W'.cell? ⟨B, 1, none⟩ = some y
  f0 : W'.frozen? ⟨B, 0, none⟩ = false
  f1 : W'.frozen? ⟨B, 1, none⟩ = false
  lt : B < W'.heap.size
section
variable {B : Nat} {x y : Value} {W' W2 : World}
theorem M2.next (h : M2 B x y W') (hb : Below W'.heap.size W' W2) : M2 B x y W2 :=
  ⟨(hb.cell (p := ⟨B, 0, none⟩) h.lt).trans h.c0, (hb.cell (p := ⟨B, 1, none⟩) h.lt).trans h.c1, (hb.frozen (p := ⟨B, 0, none⟩) h.lt).trans h.f0, (hb.frozen (p := ⟨B, 1, none⟩) h.lt).trans h.f1, Nat.lt_of_lt_of_le h.lt hb.size⟩
theorem M2.new (W : World) (x y : Value) (Ty : TypeId) : M2 W.heap.size x y (W.alloc (.cells #[x, y] Ty)) :=
  ⟨World.cell?_alloc_at _ _ _ _ rfl, World.cell?_alloc_at _ _ _ _ rfl, World.frozen?_alloc_at _ _ _ _ rfl, World.frozen?_alloc_at _ _ _ _ rfl, by simp⟩
theorem M2.put (h : M2 B x y W') (u v : Value) : M2 B u v ((W'.setCell ⟨B, 0, none⟩ u).setCell ⟨B, 1, none⟩ v) :=
  ⟨(World.cell?_setCell_other _ _ _ _ (by intro e; cases e)).trans (World.cell?_setCell_same _ _ _ h.c0), World.cell?_setCell_same _ _ _ ((World.cell?_setCell_other _ _ _ _ (by intro e; cases e)).trans h.c1),
   (World.frozen?_setCell _ _ _ _).trans ((World.frozen?_setCell _ _ _ _).trans h.f0), (World.frozen?_setCell _ _ _ _).trans ((World.frozen?_setCell _ _ _ _).trans h.f1), by rw [World.size_setCell, World.size_setCell]; exact h.lt⟩
end
/-- the boxes of a map and of a result behind it -/
theorem boxesR (W : World) (s : Int) (v : Value) (Ty : TypeId) : ∃ w0, w0 = (W.alloc (.cells #[.int .i64 s, v] Ty)).alloc (.cells #[.int .i64 0, .slice none 0 0] Ty) ∧ M2 W.heap.size (.int .i64 s) v w0 ∧ M2 (W.heap.size + 1) (.int .i64 0) (.slice none 0 0) w0 ∧ Below W.heap.size W w0 := by
  have h1 := M2.new W (.int .i64 s) v Ty
  have h2 := M2.new (W.alloc (.cells #[.int .i64 s, v] Ty)) (.int .i64 0) (.slice none 0 0) Ty
  rw [show (W.alloc (.cells #[.int .i64 s, v] Ty)).heap.size = W.heap.size + 1 by simp] at h2
  exact ⟨_, rfl, h1.next ((Below.refl _ _).alloc (Nat.le_refl _) _), h2, ((Below.refl _ _).alloc (Nat.le_refl _) _).alloc (by simp) _⟩
end Go.Proofs.Ytjbenhmpeceaeab
namespace Go.Proofs.Ytjbenhmpeceaeab
open Go Go.RowKit Gs

/-- the function behind the document's Swap -/
def gS (f : Int → Int) (lo hi fr tt : Int) (any : Bool) (x : Int) : Int := if lo ≤ x ∧ x < hi ∧ (any = true ∨ f x = fr) then tt else f x
theorem join_can {g : Int → Int} {s m : Int} {l : List R} {x : R} (h : Gs.Can g s l m) (h1 : x.lo = m) (h2 : m ≤ x.hi) (h3 : ∀ p, x.lo ≤ p → p < x.hi → g p = x.tag) : Gs.Can g s (joinL l x) x.hi := by
  unfold joinL
  by_cases hx : x.hi ≤ x.lo
  · rw [if_pos hx]
    have : m = x.hi := by omega
    rw [← this]; exact h
  · rw [if_neg hx]
    have hone : Gs.Can g m [x] x.hi := by
      have := Gs.Can.one (f := g) (r := x) (by omega) h3
      rwa [h1] at this
    rcases List.eq_nil_or_concat l with rfl | ⟨l', y, hl'⟩
    · have e : s = m := h.1
      rw [e]
      exact hone
    · rw [List.concat_eq_append] at hl'
      subst hl'
      rw [List.getLast?_concat]
      obtain ⟨m1, m2, m3, m4, m5, m6⟩ := h.mid
      have hym : y.hi = m := m2.1
      by_cases ht : y.tag = x.tag
      · simp only
        rw [if_pos ht, List.dropLast_concat]
        exact Gs.Can.make (r := ⟨y.lo, x.hi, x.tag⟩) (k := []) m1 (Gs.Can.nil _ _) (show y.lo < x.hi by omega) (fun p p1 p2 => by
          by_cases hp : p < y.hi
          · exact (m4 p p1 hp).trans ht
          · exact h3 p (by omega) p2) m5 (fun h => absurd h (Int.lt_irrefl _))
      · simp only
        rw [if_neg ht]
        refine Gs.Can.join h hone fun e1 e2 => ?_
        have a1 := m4 (m - 1) (by omega) (by omega)
        have a2 := h3 m (by omega) (by omega)
        rw [a1, a2]
        exact ht
def stepA (x : R) (lo : Int) : Int := max x.lo (min lo x.hi)
def stepB (x : R) (hi : Int) : Int := min x.hi (max hi x.lo)
def stepT (x : R) (fr tt : Int) (any : Bool) : Int := if any = true ∨ x.tag = fr then tt else x.tag
/-- what one round of the document's Swap does -/
def stepL (l : List R) (x : R) (lo hi fr tt : Int) (any : Bool) : List R :=
  joinL (joinL (joinL l ⟨x.lo, stepA x lo, x.tag⟩) ⟨stepA x lo, stepB x hi, stepT x fr tt any⟩) ⟨max (stepA x lo) (stepB x hi), x.hi, x.tag⟩
theorem joinL_len (l : List R) (x : R) : (joinL l x).length ≤ l.length + 1 := by
  unfold joinL
  split
  · omega
  · split
    · rename_i y hy
      split
      · rw [List.length_append, List.length_dropLast, List.length_singleton]; omega
      · simp
    · simp
theorem step_can {f : Int → Int} {lo hi fr tt m : Int} {any : Bool} {l : List R} {x : R} (h : Gs.Can (gS f lo hi fr tt any) 0 l m) (h1 : x.lo = m) (h2 : x.lo < x.hi) (h3 : ∀ p, x.lo ≤ p → p < x.hi → f p = x.tag) (hle : lo ≤ hi) :
    Gs.Can (gS f lo hi fr tt any) 0 (stepL l x lo hi fr tt any) x.hi := by
  have hA : x.lo ≤ stepA x lo ∧ stepA x lo ≤ x.hi := by unfold stepA; omega
  have hB : x.lo ≤ stepB x hi ∧ stepB x hi ≤ x.hi := by unfold stepB; omega
  have hAB : stepA x lo ≤ stepB x hi := by unfold stepA stepB; omega
  have k1 := join_can (x := ⟨x.lo, stepA x lo, x.tag⟩) h h1 (by show m ≤ stepA x lo; omega) (fun p p1 p2 => by
    have p2 : p < stepA x lo := p2
    have p1 : x.lo ≤ p := p1
    have hn : ¬ (lo ≤ p ∧ p < hi ∧ (any = true ∨ f p = fr)) := fun h => by unfold stepA at p2; omega
    show (if _ then _ else _) = _
    rw [if_neg hn]
    exact h3 p p1 (by omega))
  have k2 := join_can (x := ⟨stepA x lo, stepB x hi, stepT x fr tt any⟩) k1 rfl hAB (fun p p1 p2 => by
    have p1 : stepA x lo ≤ p := p1
    have p2 : p < stepB x hi := p2
    have e := h3 p (by omega) (by omega)
    have hin : lo ≤ p ∧ p < hi := by unfold stepA at p1; unfold stepB at p2; omega
    show (if _ then _ else _) = stepT x fr tt any
    unfold stepT
    rw [e]
    by_cases hc : any = true ∨ x.tag = fr
    · rw [if_pos ⟨hin.1, hin.2, hc⟩, if_pos hc]
    · rw [if_neg (fun h => hc h.2.2), if_neg hc])
  exact join_can (x := ⟨max (stepA x lo) (stepB x hi), x.hi, x.tag⟩) k2 (by show max (stepA x lo) (stepB x hi) = stepB x hi; omega) (by show stepB x hi ≤ x.hi; omega) (fun p p1 p2 => by
    have p1 : max (stepA x lo) (stepB x hi) ≤ p := p1
    have p2 : p < x.hi := p2
    have hn : ¬ (lo ≤ p ∧ p < hi ∧ (any = true ∨ f p = fr)) := fun h => by unfold stepB at p1; omega
    show (if _ then _ else _) = _
    rw [if_neg hn]
    exact h3 p (by omega) p2)
theorem stepL_len (l : List R) (x : R) (lo hi fr tt : Int) (any : Bool) : (stepL l x lo hi fr tt any).length ≤ l.length + 3 := by
  unfold stepL
  have h1 := joinL_len l ⟨x.lo, stepA x lo, x.tag⟩
  have h2 := joinL_len (joinL l ⟨x.lo, stepA x lo, x.tag⟩) ⟨stepA x lo, stepB x hi, stepT x fr tt any⟩
  have h3 := joinL_len (joinL (joinL l ⟨x.lo, stepA x lo, x.tag⟩) ⟨stepA x lo, stepB x hi, stepT x fr tt any⟩) ⟨max (stepA x lo) (stepB x hi), x.hi, x.tag⟩
  omega
/-- the count of one round -/
theorem step_cnt (x : R) (k lo hi : Int) (h : x.lo < x.hi) (hle : lo ≤ hi) : cnt k (clip1 lo hi x) = if x.tag = k then max 0 (stepB x hi - stepA x lo) else 0 := by
  unfold clip1 stepA stepB
  by_cases hc : max lo x.lo < min x.hi hi
  · rw [if_pos hc]
    show (if x.tag = k then min x.hi hi - max lo x.lo else 0) + 0 = _
    split <;> omega
  · rw [if_neg hc]
    show 0 = _
    split <;> omega
/-- Set and Swap, as the program's own contracts name them -/
theorem gS_put (f : Int → Int) (lo hi fr tt : Int) : gS f lo hi fr tt true = put f lo hi tt := by
  funext x
  show (if lo ≤ x ∧ x < hi ∧ (true = true ∨ f x = fr) then tt else f x) = if lo ≤ x ∧ x < hi then tt else f x
  by_cases h : lo ≤ x ∧ x < hi
  · rw [if_pos ⟨h.1, h.2, .inl rfl⟩, if_pos h]
  · rw [if_neg (fun h' => h ⟨h'.1, h'.2.1⟩), if_neg h]
end Go.Proofs.Ytjbenhmpeceaeab
namespace Go.Proofs.Ytjbenhmpeceaeab
open Go Go.RowKit Gs

/-- what ref.New answers -/
def RNP (size : Int) (B : Nat) (s : Int) (v : Value) (e : Int) (W : World) : Prop :=
  (e = 0 ∧ s = size ∧ 1 ≤ size ∧ size ≤ 1099511627776 ∧ IsRs B W v [⟨0, size, 0⟩]) ∨ (e = 2 ∧ s = 0 ∧ v = .slice none 0 0 ∧ (size < 1 ∨ 1099511627776 < size))
set_option maxHeartbeats 1000000 in
/-- ref.Alike, of two lists that are the same -/
theorem RAlike_same {B1 B2 : Nat} {W : World} {u v : Value} {L : List R} (h1 : IsRs B1 W u L) (h2 : IsRs B2 W v L) (hlen : L.length ≤ 100000) : Calls Try.prog 26 #[u, v] W fun e w' => e = .returned (.bool true) ∧ Hid (Below W.heap.size W w') := by
  have HU := Lib.hid h1; have HV := Lib.hid h2
  obtain ⟨a, c, rfl, -⟩ := h1
  obtain ⟨a', c', rfl, -⟩ := h2
  obtain ⟨n, hn⟩ : ∃ n, n = L.length := ⟨_, rfl⟩
  rw [← hn] at HU HV ⊢
  have hnb : n ≤ 100000 := by omega
  have HN := Lib.hid hn
  clear hn hlen
  go_enter Try.func26, Try.ntmps26
  go_wp2_with fail
  go_loopw [5] (fun iv wr => ∃ j : Nat, j ≤ n ∧ iv = .int .i64 j ∧ Hid (Below W.heap.size W wr)) (fun i _ => n - (intOf i).toNat)
  case atStart => exact ⟨0, by omega, rfl, Below.refl _ _⟩
  case round =>
    obtain ⟨j, hj, rfl, HB⟩ := hrel
    by_cases hlt : j < n
    · have hj2 : (j : Int) < n := by omega
      have hj0 : (0 : Int) ≤ (j : Int) := by omega
      have hjl : j < L.length := by rw [← HN.out]; exact hlt
      obtain ⟨b, d, hv, hcs⟩ := HU.out.below HB.out
      injection hv with hv1 hv2 hv3
      clear hv2 hv3
      subst hv1
      obtain ⟨G, e1, -, hcs2⟩ := hcs (by omega)
      clear hcs
      subst e1
      obtain ⟨c0, c1, c2⟩ := hcs2 j hjl
      clear hcs2
      obtain ⟨b', d', hv, hcs⟩ := HV.out.below HB.out
      injection hv with hv1 hv2 hv3
      clear hv2 hv3
      subst hv1
      obtain ⟨G', e1, -, hcs2⟩ := hcs (by omega)
      clear hcs
      subst e1
      obtain ⟨d0, d1, d2⟩ := hcs2 j hjl
      clear hcs2
      generalize L[j] = x at *
      obtain ⟨xa, xb, xc⟩ := x
      simp only at c0 c1 c2 d0 d1 d2
      go_wp2_with fail
      go_quiet (fail)
      rename_i nq
      have HBn : Hid (Below W.heap.size W (World.drewN wr nq)) := below_drewN HB.out nq
      clear c0 c1 c2 d0 d1 d2
      generalize hw : World.drewN _ nq = w2 at HBn ⊢
      clear hw
      go_wp2_with fail
      go_roundw
      case rel => exact ⟨j + 1, by omega, by go_num, HBn.out⟩
      case measure => simp [intOf]; omega
    · have hj2 : ¬ (j : Int) < n := by omega
      go_wp2_with fail
      go_ret
      exact ⟨rfl, HB.out⟩
end Go.Proofs.Ytjbenhmpeceaeab
namespace Go.Proofs.Ytjbenhmpeceaeab
open Go Go.RowKit Gs

theorem Runs_full {f : Int → Int} {size : Int} {W : World} {p : Option Addr} {L : List R} (h : IsM f size W p) (hL : Gs.Can f 0 L size) :
    L.length ≤ 4096 ∧ Calls Try.prog 17 #[.agg #[.pointer p, .int .i64 size], .int .i64 0, .int .i64 size, .int .i64 1048576] W fun e w' => ∃ v, e = .returned (.tuple #[v, .int .i64 0]) ∧ Hid (IsRs W.heap.size w' v L) ∧ Below W.heap.size W w' := by
  have hs := h.lo
  obtain ⟨L', h4, h5, h6⟩ := Runs_any (most := 1048576) h (Int.le_refl 0) (by omega) (Int.le_refl size)
  have e := Gs.Can.same h4 hL
  subst e
  have e2 := Gs.Can.same (clip_can h4 (Int.le_refl 0) (by omega) (Int.le_refl size)) h4
  refine ⟨h5, h6.mono ?_⟩
  rintro e w' ⟨v, he, hr, hb⟩
  rw [e2] at hr
  have e1 : L'.take (1048576 : Int).toNat = L' := List.take_of_length_le (Nat.le_trans h5 (by decide))
  rw [e1] at hr
  exact ⟨v, he, IsRs.of_row hr.out, hb⟩
theorem Len_same {f : Int → Int} {size : Int} {W : World} {p : Option Addr} {L : List R} (h : IsM f size W p) (hL : Gs.Can f 0 L size) : Calls Try.prog 25 #[.agg #[.pointer p, .int .i64 size]] W fun e w' => e = .returned (.int .i64 L.length) ∧ Below W.heap.size W w' := by
  obtain ⟨L', h1, _, h2⟩ := Len_any (s := size) h.tr
  have e := Gs.Can.same h1 hL
  subst e
  exact h2
end Go.Proofs.Ytjbenhmpeceaeab
namespace Go.Proofs.Ytjbenhmpeceaeab
open Go Go.RowKit Gs

/-- what the document's Swap answers, where nothing is refused -/
def RU (f : Int → Int) (size lo hi fr tt : Int) (any : Bool) (L : List R) (B : Nat) (s : Int) (v : Value) (n e : Int) (W : World) : Prop :=
  ∃ L', Gs.Can (gS f lo hi fr tt any) 0 L' size ∧ ((4096 < L'.length ∧ s = 0 ∧ v = .slice none 0 0 ∧ n = 0 ∧ e = 5) ∨ (L'.length ≤ 4096 ∧ s = size ∧ e = 0 ∧ IsRs B W v L' ∧ (any = false → n = cnt fr (clip lo hi L))))
theorem Rb.keep {W W' : World} {B : Nat} {r : R} (h : Rb W B r) (e : W'.heap[B]? = W.heap[B]?) : Rb W' B r := e.trans h
theorem IsRs.mono {base base' : Nat} {W : World} {v : Value} {l : List R} (h : IsRs base W v l) (hb : base' ≤ base) : IsRs base' W v l := by
  obtain ⟨ao, c, hv, h⟩ := h
  exact ⟨ao, c, hv, fun hl => by obtain ⟨B, e, h1, h2⟩ := h hl; exact ⟨B, e, ⟨Nat.le_trans hb h1.1, h1.2⟩, h2⟩⟩
theorem JP.box {W W' : World} {base k : Nat} {v v' : Value} {l : List R} {r : R} (h : JP W base v l v' W') (hb : Rb W k r) (hv : ∀ g, v.ownBlock = some g → g ≠ k) : Rb W' k r ∧ ∀ g, v'.ownBlock = some g → g ≠ k := by
  refine ⟨hb.keep (h.keep k hb.lt (fun e => hv k e.symm rfl)), fun g hg e => ?_⟩
  subst e
  rcases h.at' _ hg with h1 | h1
  · exact hv _ h1 rfl
  · exact absurd hb.lt (by omega)
end Go.Proofs.Ytjbenhmpeceaeab
namespace Go.Proofs.Ytjbenhmpeceaeab
open Go Go.RowKit Gs

end Go.Proofs.Ytjbenhmpeceaeab
namespace Go.Proofs.Ytjbenhmpeceaeab
open Go Go.RowKit Gs

/-- in a range one tag becomes another one -/
def swr (f : Int → Int) (lo hi : Int) (fr tt : Nat) (x : Int) : Int := if lo ≤ x ∧ x < hi then swp f fr tt x else f x
theorem swr_ctx {f : Int → Int} {a b lo hi : Int} {fr tt : Nat} (h : Ctx f a b) (h1 : tt < 16) : Ctx (swr f lo hi fr tt) a b := by
  refine ⟨h.1, h.2.1, fun p p1 p2 => ?_⟩
  have e1 := h.2.2 p p1 p2
  have e2 := (swp_ctx (fr := fr) h h1).2.2 p p1 p2
  simp only [swr]
  split <;> omega
/-- a map that was laid behind a world -/
structure Mt (w2 : World) (X : Nat) (p : Option Addr) (size : Int) (W' : World) : Prop where
  mb : Mb X p size W'
  ge : w2.heap.size ≤ X
  bel : Below w2.heap.size w2 W'
theorem Mt.next {w2 W' W2 : World} {X : Nat} {p : Option Addr} {size : Int} (h : Mt w2 X p size W') (hb : Below W'.heap.size W' W2) : Mt w2 X p size W2 := ⟨h.mb.next hb, h.ge, h.bel.trans (hb.mono h.bel.size)⟩
theorem Mt.drew {w2 W' : World} {X : Nat} {p : Option Addr} {size : Int} (h : Mt w2 X p size W') : Mt w2 X p size W'.drew := h.next (Below.refl _ _).drew
theorem Mt.new {w2 W' : World} (h : Below w2.heap.size w2 W') (p : Option Addr) (size : Int) (Ty : TypeId) : Mt w2 W'.heap.size p size (W'.alloc (.cells #[.pointer p, .int .i64 size] Ty)) := ⟨Mb.new _ _ _ _, h.size, h.alloc h.size _⟩
theorem Mt.put {w2 W' : World} {X : Nat} {p : Option Addr} {size : Int} (h : Mt w2 X p size W') (q : Option Addr) (s : Int) : Mt w2 X q s ((W'.setCell ⟨X, 0, none⟩ (.pointer q)).setCell ⟨X, 1, none⟩ (.int .i64 s)) := ⟨h.mb.put q s, h.ge, (h.bel.setCell h.ge _).setCell h.ge _⟩
theorem bUp2 {w2 W' : World} (h : Below w2.heap.size w2 W') (o : Obj) : Below w2.heap.size w2 (W'.alloc o) := h.alloc h.size _
theorem Upd.alloc {f g : Int → Int} {size er s e : Int} {q : Option Addr} {W : World} (h : Upd f g size er q s e W) (o : Obj) : Upd f g size er q s e (W.alloc o) := h.below ((Below.refl _ _).alloc (Nat.le_refl _) _)
set_option maxHeartbeats 1000000 in
theorem Swap_err {f : Int → Int} {size lo hi fr tt : Int} {W : World} {p : Option Addr} (h : IsM f size W p) (her : errOf size lo hi [fr, tt] ≠ 0) :
    Calls Try.prog 13 #[.agg #[.pointer p, .int .i64 size], .int .i64 lo, .int .i64 hi, .int .i64 fr, .int .i64 tt] W fun e w' => e = .returned (.tuple #[.agg #[.pointer none, .int .i64 0], .int .i64 0, .int .i64 (errOf size lo hi [fr, tt])]) ∧ Below W.heap.size W w' := by
  obtain ⟨b, rfl⟩ := h.some
  obtain ⟨w0, HW, hm, hr, hc, hlt, hb⟩ := boxes3 W (some ⟨b, 0, none⟩) size 27 #[.int .i64 fr, .int .i64 tt] 3
  have HCK : Hid (Calls Try.prog 31 #[.agg #[.pointer (some ⟨b, 0, none⟩), .int .i64 size], .int .i64 lo, .int .i64 hi, .slice (some ⟨W.heap.size + 1 + 1, 0, none⟩) 2 2] w0 fun e w' => e = .returned (.int .i64 (errOf size lo hi [fr, tt])) ∧ Below w0.heap.size w0 w') :=
    check_any b (W.heap.size + 1 + 1) 2 size lo hi [fr, tt] w0 hlt (fun i hi => by
      have : i = 0 ∨ i = 1 := by simp at hi; omega
      rcases this with rfl | rfl
      · exact hc 0 _ rfl
      · exact hc 1 _ rfl) (by simp)
  have HR := Lib.hid hr; have HB := Lib.hid hb; have HW' := Lib.hid HW
  have hne : (errOf size lo hi [fr, tt] == 0) = false := beq_eq_false_iff_ne.2 her
  clear hm hr hb HW hc hlt h her
  generalize errOf size lo hi [fr, tt] = er at *
  go_enter Try.func13, Try.ntmps13
  go_wp2_with fail
  rw [← HW'.out]
  refine HCK.out.mono ?_
  rintro e w1 ⟨rfl, hb⟩
  have HR1 := Lib.hid (HR.out.next hb)
  have HB1 := Lib.hid (HB.out.trans (hb.mono HB.out.size))
  have d0 := HR1.out.c0; have d1 := HR1.out.c1; have d2 := HR1.out.f0; have d3 := HR1.out.f1
  obtain ⟨u0, u1⟩ : _ ∧ _ := ⟨(HR1.out.put none 0).c0, (HR1.out.put none 0).c1⟩
  clear hb
  go_wp2_with fail
  refine bodyPost_ret (v := .tuple #[.agg #[.pointer none, .int .i64 0], .int .i64 0, .int .i64 er]) (by simp [results, Try.results13, go_sem, u0, u1]) rfl ?_
  have HBF := below_put HB1.out (B := W.heap.size + 1) (by omega) (.pointer none) (.int .i64 0)
  exact ⟨rfl, by first | exact HB1.out | exact HBF⟩
set_option maxHeartbeats 2000000 in
theorem Swap_ok {f : Int → Int} {size lo hi : Int} {fr tt : Nat} {W : World} {p : Option Addr} (h : IsM f size W p) (her : errOf size lo hi [(fr : Int), (tt : Int)] = 0) :
    Calls Try.prog 13 #[.agg #[.pointer p, .int .i64 size], .int .i64 lo, .int .i64 hi, .int .i64 fr, .int .i64 tt] W fun e w' => ∃ q s n e2, e = .returned (.tuple #[.agg #[.pointer q, .int .i64 s], .int .i64 n, .int .i64 e2]) ∧ Hid (Upd f (swr f lo hi fr tt) size 0 q s e2 w') ∧ Hid ((e2 = 0 ∧ ∃ L, Gs.Can f lo L hi ∧ n = cnt fr L) ∨ (e2 ≠ 0 ∧ n = 0)) ∧ Below W.heap.size W w' := by
  obtain ⟨r1, r2, r3, r4⟩ := errOf_zero her
  have r5 := (r4 fr (by simp)).2
  have r6 := (r4 tt (by simp)).2
  have hfr : fr < 16 := by omega
  have htt : tt < 16 := by omega
  have hlo := h.lo
  have htr := h.tr
  have hcx := h.ctx
  have hpx : Ctx (swr f lo hi fr tt) 0 size := swr_ctx hcx htt
  obtain ⟨b, rfl⟩ := h.some
  obtain ⟨w0, HW, hm, hr, hc, hlt, hb⟩ := boxes3 W (some ⟨b, 0, none⟩) size 27 #[.int .i64 fr, .int .i64 tt] 3
  have HCK : Hid (Calls Try.prog 31 #[.agg #[.pointer (some ⟨b, 0, none⟩), .int .i64 size], .int .i64 lo, .int .i64 hi, .slice (some ⟨W.heap.size + 1 + 1, 0, none⟩) 2 2] w0 fun e w' => e = .returned (.int .i64 (errOf size lo hi [(fr : Int), (tt : Int)])) ∧ Below w0.heap.size w0 w') :=
    check_any b (W.heap.size + 1 + 1) 2 size lo hi [(fr : Int), (tt : Int)] w0 hlt (fun i hi => by
      have : i = 0 ∨ i = 1 := by simp at hi; omega
      rcases this with rfl | rfl
      · exact hc 0 _ rfl
      · exact hc 1 _ rfl) (by simp)
  rw [her] at HCK
  have HCT : Hid (∀ W', Below W.heap.size W W' → Calls Try.prog 32 #[.agg #[.pointer (some ⟨b, 0, none⟩), .int .i64 size], .int .i64 lo, .int .i64 hi] W' fun e w' => ∃ x y z, e = .returned (.tuple #[.pointer x, .pointer y, .pointer z]) ∧ Hid (Tr f 0 lo 4096 w' x) ∧ Hid (Tr f lo hi 4096 w' y) ∧ Hid (Tr f hi size 4096 w' z) ∧ Below W'.heap.size W' w') := fun W' hb => cut_any (htr.below hb) hcx (by omega) r1 r2 r3
  have HRT : Hid (∀ y W', Tr f lo hi 4096 W' y → Calls Try.prog 35 #[.pointer y, .int .i64 fr, .int .i64 tt] W' fun e w' => ∃ x, e = .returned (.pointer x) ∧ Hid (Tr (swr f lo hi fr tt) lo hi 4096 w' x) ∧ Below W'.heap.size W' w') := fun y W' hy =>
    (hy.retag (hcx.sub r1 r3) hfr htt (by omega)).mono fun e w' ⟨x, he, ht, hB⟩ => ⟨x, he, ht.out.congr fun z z1 z2 => by simp only [swr]; rw [if_pos ⟨z1, z2⟩], hB⟩
  have HC1 : Hid (∀ x y W', Tr f 0 lo 4096 W' x → Tr (swr f lo hi fr tt) lo hi 4096 W' y → Calls Try.prog 34 #[.pointer x, .pointer y] W' fun e w' => ∃ g, e = .returned (.pointer g) ∧ Hid (Tr (swr f lo hi fr tt) 0 hi 8193 w' g) ∧ Below W'.heap.size W' w') := fun x y W' hx hy =>
    Tr.concat (n := 4096) (k := 4096) (hx.congr fun z z1 z2 => by simp only [swr]; rw [if_neg (by omega)]) hy (hpx.sub (Int.le_refl _) r3) (by omega)
  have HC2 : Hid (∀ x y W', Tr (swr f lo hi fr tt) 0 hi 8193 W' x → Tr f hi size 4096 W' y → Calls Try.prog 34 #[.pointer x, .pointer y] W' fun e w' => ∃ g, e = .returned (.pointer g) ∧ Hid (Tr (swr f lo hi fr tt) 0 size 12290 w' g) ∧ Below W'.heap.size W' w') := fun x y W' hx hy =>
    Tr.concat (n := 8193) (k := 4096) hx (hy.congr fun z z1 z2 => by simp only [swr]; rw [if_neg (by omega)]) hpx (by omega)
  have HWI : Hid (∀ g W', Tr (swr f lo hi fr tt) 0 size 12290 W' g → Calls Try.prog 33 #[.agg #[.pointer (some ⟨b, 0, none⟩), .int .i64 size], .pointer g] W' fun e w' => ∃ q s e2, e = .returned (.tuple #[.agg #[.pointer q, .int .i64 s], .int .i64 e2]) ∧ Hid (Upd f (swr f lo hi fr tt) size 0 q s e2 w') ∧ Below W'.heap.size W' w') := fun g W' hg => with_any hg hpx hlo (by omega)
  have HCN : Hid (∀ y W', Tr f lo hi 4096 W' y → ∃ n, Hid (∃ L, Gs.Can f lo L hi ∧ n = cnt fr L) ∧ ∀ W'', Below W'.heap.size W' W'' → Calls Try.prog 36 #[.pointer y, .int .i64 fr] W'' fun e w' => e = .returned (.int .i64 n) ∧ W'' = w') := fun y W' ⟨t, t1, t2, _⟩ => ⟨cnt fr t.L, ⟨t.L, t2, rfl⟩, fun W'' hb => count_any t _ W'' fr hfr (IsT.below hb t1)⟩
  have HM := Lib.hid hm; have HR := Lib.hid hr; have HB := Lib.hid hb; have HW' := Lib.hid HW
  clear hm hr hb HW hc hlt h her r1 r2 r3 r4 r5 r6 hlo htr hcx hpx hfr htt
  go_enter Try.func13, Try.ntmps13
  go_wp2_with fail
  rw [← HW'.out]
  refine HCK.out.mono ?_
  rintro e w1 ⟨rfl, hb⟩
  have HR1 := Lib.hid (HR.out.next hb)
  have HM1 := Lib.hid (HM.out.next hb)
  have HB1 := Lib.hid (HB.out.trans (hb.mono HB.out.size))
  have k0 := HM1.out.c0; have k1 := HM1.out.c1
  clear hb
  go_wp2_with fail
  refine (HCT.out _ HB1.out).mono ?_
  rintro e w2 ⟨x, y, z, rfl, HX, HY, HZ, hb⟩
  have HR2 := Lib.hid (HR1.out.next hb)
  have HM2 := Lib.hid (HM1.out.next hb)
  have HB2 := Lib.hid (HB1.out.trans (hb.mono HB1.out.size))
  clear hb k0 k1
  have HALL : Hid (∀ W', Below w2.heap.size w2 W' → W'.cell? ⟨W.heap.size, 0, none⟩ = some (.pointer (some ⟨b, 0, none⟩)) ∧ W'.cell? ⟨W.heap.size, 1, none⟩ = some (.int .i64 size)) := fun W' h => ⟨(HM2.out.next h).c0, (HM2.out.next h).c1⟩
  have HAL : Hid (∀ W' o, Below w2.heap.size w2 W' → (W'.alloc o).cell? ⟨W.heap.size, 0, none⟩ = some (.pointer (some ⟨b, 0, none⟩)) ∧ (W'.alloc o).cell? ⟨W.heap.size, 1, none⟩ = some (.int .i64 size)) := fun W' o h => HALL.out _ (bUp2 h o)
  have HALD : Hid (∀ W' o, Below w2.heap.size w2 W' → (W'.alloc o).drew.cell? ⟨W.heap.size, 0, none⟩ = some (.pointer (some ⟨b, 0, none⟩)) ∧ (W'.alloc o).drew.cell? ⟨W.heap.size, 1, none⟩ = some (.int .i64 size)) := fun W' o h => HALL.out _ (bUp2 h o).drew
  have HST : Hid (∀ W' X u v, Below w2.heap.size w2 W' → w2.heap.size ≤ X → ((W'.setCell ⟨X, 0, none⟩ u).setCell ⟨X, 1, none⟩ v).cell? ⟨W.heap.size, 0, none⟩ = some (.pointer (some ⟨b, 0, none⟩)) ∧ ((W'.setCell ⟨X, 0, none⟩ u).setCell ⟨X, 1, none⟩ v).cell? ⟨W.heap.size, 1, none⟩ = some (.int .i64 size)) := fun W' X u v h hX => HALL.out _ ((h.setCell hX u).setCell hX v)
  have HRT2 : Hid (∀ W', Below w2.heap.size w2 W' → Calls Try.prog 35 #[.pointer y, .int .i64 fr, .int .i64 tt] W' fun e w' => ∃ x, e = .returned (.pointer x) ∧ Hid (Tr (swr f lo hi fr tt) lo hi 4096 w' x) ∧ Below W'.heap.size W' w' ∧ Below w2.heap.size w2 w') := fun W' h => (HRT.out y W' (HY.out.below h)).mono fun e w' ⟨g, he, ht, hB⟩ => ⟨g, he, ht, hB, h.trans (hB.mono h.size)⟩
  have HC12 : Hid (∀ g W', Below w2.heap.size w2 W' → Hid (Tr (swr f lo hi fr tt) lo hi 4096 W' g) → Calls Try.prog 34 #[.pointer x, .pointer g] W' fun e w' => ∃ g, e = .returned (.pointer g) ∧ Hid (Tr (swr f lo hi fr tt) 0 hi 8193 w' g) ∧ Below W'.heap.size W' w' ∧ Below w2.heap.size w2 w') := fun g W' h hg => (HC1.out x g W' (HX.out.below h) hg.out).mono fun e w' ⟨g, he, ht, hB⟩ => ⟨g, he, ht, hB, h.trans (hB.mono h.size)⟩
  have HC22 : Hid (∀ g W', Below w2.heap.size w2 W' → Hid (Tr (swr f lo hi fr tt) 0 hi 8193 W' g) → Calls Try.prog 34 #[.pointer g, .pointer z] W' fun e w' => ∃ g, e = .returned (.pointer g) ∧ Hid (Tr (swr f lo hi fr tt) 0 size 12290 w' g) ∧ Below W'.heap.size W' w' ∧ Below w2.heap.size w2 w') := fun g W' h hg => (HC2.out g z W' hg.out (HZ.out.below h)).mono fun e w' ⟨g, he, ht, hB⟩ => ⟨g, he, ht, hB, h.trans (hB.mono h.size)⟩
  have HWI2 : Hid (∀ g W', Below w2.heap.size w2 W' → Hid (Tr (swr f lo hi fr tt) 0 size 12290 W' g) → Calls Try.prog 33 #[.agg #[.pointer (some ⟨b, 0, none⟩), .int .i64 size], .pointer g] W' fun e w' => ∃ q s e2, e = .returned (.tuple #[.agg #[.pointer q, .int .i64 s], .int .i64 e2]) ∧ Hid (Upd f (swr f lo hi fr tt) size 0 q s e2 w') ∧ Below W'.heap.size W' w' ∧ Below w2.heap.size w2 w') := fun g W' h ht => (HWI.out g W' ht.out).mono fun e w' ⟨q, s, e2, he, hu, hB⟩ => ⟨q, s, e2, he, hu, hB, h.trans (hB.mono h.size)⟩
  have HTA : Hid (∀ a b n q W' o, Hid (Tr (swr f lo hi fr tt) a b n W' q) → Hid (Tr (swr f lo hi fr tt) a b n (W'.alloc o) q)) := fun a b n q W' o h => h.out.below ((Below.refl _ _).alloc (Nat.le_refl _) _)
  have hs : Below w2.heap.size w2 w2 := Below.refl _ _
  have hs2 := hs.drew
  have hcl := HALL.out _ hs2
  have hc0 := HALL.out _ hs
  go_upto_region 5 with fail
  go_cut [17, 18] from 38 to 50 (fun s17 s18 wx => ∃ X q s e2, s17 = .pointer (some ⟨X, 0, none⟩) ∧ s18 = .int .i64 e2 ∧ Hid (Mt w2 X q s wx) ∧ Hid (Upd f (swr f lo hi fr tt) size 0 q s e2 wx))
  case first =>
    go_region_held3 (fun W' : World => W'.cell? ⟨W.heap.size, 0, none⟩ = some (.pointer (some ⟨b, 0, none⟩)) ∧ W'.cell? ⟨W.heap.size, 1, none⟩ = some (.int .i64 size)) (first | assumption | (with_reducible exact HAL.out _ _ (by assumption)) | (with_reducible exact HALD.out _ _ (by assumption)) | (with_reducible exact HST.out _ _ _ _ (by assumption) zA.ge) | fail) (first
      | (go_at_call 35; with_reducible refine (HRT2.out _ ?h).mono ?_; (case h => (first | assumption | exact bUp2 (by assumption) _ | exact (bUp2 (by assumption) _).drew | fail)); rintro e w' ⟨g1, rfl, hg1, hb1, hs1'⟩; have hc1' := HALL.out _ hs1'; (first | (have zA := Mt.next (Mt.new (by assumption) none 0 _) hb1) | (have zA := Mt.next (Mt.drew (Mt.new (by assumption) none 0 _)) hb1) | skip); (first | (have z0 := zA.mb.c0; have z1 := zA.mb.c1; have z2 := zA.mb.f0; have z3 := zA.mb.f1) | skip))
      | (go_at_call 34; with_reducible refine (HC12.out _ _ ?h ?r).mono ?_; (case h => (first | assumption | exact bUp2 (by assumption) _ | fail)); (case r => (first | assumption | (with_reducible exact HTA.out _ _ _ _ _ _ (by assumption)) | fail)); rintro e w' ⟨g2, rfl, hg2, hb2, hs2'⟩; have hc2' := HALL.out _ hs2'; (first | (have zA := Mt.next (Mt.new (by assumption) none 0 _) hb2) | (have zA := Mt.next zA hb2) | skip); (first | (have z0 := zA.mb.c0; have z1 := zA.mb.c1; have z2 := zA.mb.f0; have z3 := zA.mb.f1) | skip))
      | (go_at_call 34; with_reducible refine (HC22.out _ _ ?h ?r).mono ?_; (case h => (first | assumption | exact bUp2 (by assumption) _ | fail)); (case r => (first | assumption | (with_reducible exact HTA.out _ _ _ _ _ _ (by assumption)) | fail)); rintro e w' ⟨g3, rfl, hg3, hb3, hs3'⟩; have hc3' := HALL.out _ hs3'; (first | (have zA := Mt.next (Mt.new (by assumption) none 0 _) hb3) | (have zA := Mt.next zA hb3) | skip); (first | (have z0 := zA.mb.c0; have z1 := zA.mb.c1; have z2 := zA.mb.f0; have z3 := zA.mb.f1) | skip))
      | (go_at_call 33; with_reducible refine (HWI2.out _ _ ?h ?r).mono ?_; (case h => (first | assumption | exact bUp2 (by assumption) _ | fail)); (case r => (first | assumption | (with_reducible exact HTA.out _ _ _ _ _ _ (by assumption)) | fail)); rintro e w' ⟨q, s, e2, rfl, hu, hb4, hs4'⟩; have hc4' := HALL.out _ hs4'; (first | (have zA := Mt.next (Mt.new (by assumption) none 0 _) hb4) | (have zA := Mt.next zA hb4) | skip); (first | (have z0 := zA.mb.c0; have z1 := zA.mb.c1; have z2 := zA.mb.f0; have z3 := zA.mb.f1) | skip)) | fail)
    all_goals
      go_wp2_with fail
      go_meet
      case rel => exact ⟨_, q, s, e2, rfl, rfl, by first | exact Mt.put zA q s | exact Mt.new (by assumption) q s _ | fail, by first | exact Mb.upd zA.mb hu.out _ _ | exact hu.out.alloc _ | fail⟩
  case rest =>
    obtain ⟨X, q, s, e2, rfl, rfl, HT, HU⟩ := hcut
    have HRX := Lib.hid (HR2.out.next HT.out.bel)
    have HBX : Hid (Below W.heap.size W wc) := HB2.out.trans (HT.out.bel.mono HB2.out.size)
    obtain ⟨n, HN, hcnt⟩ := HCN.out y w2 HY.out
    have HCT2 : Hid (∀ W', Below wc.heap.size wc W' → Calls Try.prog 36 #[.pointer y, .int .i64 fr] W' fun e w' => e = .returned (.int .i64 n) ∧ W' = w') := fun W' h => hcnt W' (HT.out.bel.trans (h.mono HT.out.bel.size))
    have d0 := HRX.out.c0; have d1 := HRX.out.c1; have d2 := HRX.out.f0; have d3 := HRX.out.f1
    have k0 := HT.out.mb.c0; have k1 := HT.out.mb.c1
    clear hcnt hs hs2 hcl hc0
    rcases HU.out with ⟨h1, _⟩ | ⟨_, rfl, rfl, rfl, h4⟩ | ⟨_, rfl, rfl, h4⟩
    · exact absurd rfl h1
    · have HL := Lib.hid h4
      clear h4
      obtain ⟨u0, u1⟩ : _ ∧ _ := ⟨(HRX.out.put none 0).c0, (HRX.out.put none 0).c1⟩
      go_wp2_with fail
      refine bodyPost_ret (v := .tuple #[.agg #[.pointer none, .int .i64 0], .int .i64 0, .int .i64 5]) (by simp [results, Try.results13, go_sem, u0, u1]) rfl ?_
      have HBF := below_put HBX.out (B := W.heap.size + 1) (by omega) (.pointer none) (.int .i64 0)
      exact ⟨none, 0, 0, 5, rfl, .inr (.inl ⟨rfl, rfl, rfl, rfl, HL.out⟩), .inr ⟨by decide, rfl⟩, by first | exact HBX.out | exact HBF⟩
    · have HI := Lib.hid h4
      clear h4
      have hne : W.heap.size + 1 ≠ X := by have h1 := HT.out.ge; have h2 := HR2.out.lt; omega
      have HNE := Lib.hid hne
      have HRD := Lib.hid HRX.out.drew
      have hp' := HRX.out.put q s
      have v0 := hp'.drew.c0; have v1 := hp'.drew.c1; have v2 := hp'.c0; have v3 := hp'.c1
      have HST3 : Hid (∀ u v, ((wc.setCell ⟨W.heap.size + 1, 0, none⟩ u).setCell ⟨W.heap.size + 1, 1, none⟩ v).drew.cell? ⟨X, 0, none⟩ = some (.pointer q) ∧ ((wc.setCell ⟨W.heap.size + 1, 0, none⟩ u).setCell ⟨W.heap.size + 1, 1, none⟩ v).drew.cell? ⟨X, 1, none⟩ = some (.int .i64 s)) := fun u v => ⟨(HT.out.mb.other HNE.out u v).drew.c0, (HT.out.mb.other HNE.out u v).drew.c1⟩
      have HST2 : Hid (∀ W' u v, Below wc.heap.size wc W' → ((W'.setCell ⟨W.heap.size + 1, 0, none⟩ u).setCell ⟨W.heap.size + 1, 1, none⟩ v).cell? ⟨X, 0, none⟩ = some (.pointer q) ∧ ((W'.setCell ⟨W.heap.size + 1, 0, none⟩ u).setCell ⟨W.heap.size + 1, 1, none⟩ v).cell? ⟨X, 1, none⟩ = some (.int .i64 s)) := fun W' u v h => ⟨((HT.out.mb.next h).other HNE.out u v).c0, ((HT.out.mb.next h).other HNE.out u v).c1⟩
      have HBF := Lib.hid (below_put HBX.out (B := W.heap.size + 1) (by omega) (.pointer q) (.int .i64 s)).drew
      have HUF := Lib.hid ((HRX.out.upd HU.out (.pointer q) (.int .i64 s)).below (Below.refl _ _).drew)
      have hs : Below wc.heap.size wc wc := Below.refl _ _
      have hs2 := hs.drew
      have hcl : wc.cell? ⟨X, 0, none⟩ = some (.pointer q) ∧ wc.cell? ⟨X, 1, none⟩ = some (.int .i64 s) := ⟨HT.out.mb.c0, HT.out.mb.c1⟩
      have hcl2 : wc.drew.cell? ⟨X, 0, none⟩ = some (.pointer q) ∧ wc.drew.cell? ⟨X, 1, none⟩ = some (.int .i64 s) := hcl
      have e0 := HRD.out.c0; have e1 := HRD.out.c1; have e2 := HRD.out.f0; have e3 := HRD.out.f1
      clear hne hp'
      go_wp2_with fail
      go_region_held3 (fun W' : World => W'.cell? ⟨X, 0, none⟩ = some (.pointer q) ∧ W'.cell? ⟨X, 1, none⟩ = some (.int .i64 s)) (first | assumption | (with_reducible exact HST2.out _ _ _ (by assumption)) | (with_reducible exact HST3.out _ _) | fail) (first
        | (go_at_call 36; with_reducible refine (HCT2.out _ ?h).mono ?_; (case h => assumption); rintro e w' ⟨rfl, rfl⟩) | fail)
      all_goals
        go_wp2_with fail
        refine bodyPost_ret (v := .tuple #[.agg #[.pointer q, .int .i64 s], .int .i64 n, .int .i64 0]) (by simp [results, Try.results13, go_sem, v0, v1]) rfl ?_
        exact ⟨q, s, n, 0, rfl, HUF, .inl ⟨rfl, HN.out⟩, HBF.out⟩
/-- Swap, of a usable map -/
theorem Swap_any {f : Int → Int} {size lo hi fr tt : Int} {W : World} {p : Option Addr} (h : IsM f size W p) :
    Calls Try.prog 13 #[.agg #[.pointer p, .int .i64 size], .int .i64 lo, .int .i64 hi, .int .i64 fr, .int .i64 tt] W fun e w' => ∃ q s n e2, e = .returned (.tuple #[.agg #[.pointer q, .int .i64 s], .int .i64 n, .int .i64 e2]) ∧ Hid (Upd f (swr f lo hi fr.toNat tt.toNat) size (errOf size lo hi [fr, tt]) q s e2 w') ∧ Hid ((e2 = 0 ∧ 0 ≤ fr ∧ ∃ L, Gs.Can f lo L hi ∧ n = cnt fr L) ∨ (e2 ≠ 0 ∧ n = 0)) ∧ Below W.heap.size W w' := by
  by_cases her : errOf size lo hi [fr, tt] = 0
  · obtain ⟨r1, r2, r3, r4⟩ := errOf_zero her
    have r5 := (r4 fr (by simp)).1
    have r6 := (r4 tt (by simp)).1
    obtain ⟨a, rfl⟩ : ∃ a : Nat, fr = a := ⟨fr.toNat, by omega⟩
    obtain ⟨b, rfl⟩ : ∃ b : Nat, tt = b := ⟨tt.toNat, by omega⟩
    refine (Swap_ok h her).mono ?_
    rintro e w' ⟨q, s, n, e2, rfl, hu, hn, hB⟩
    refine ⟨q, s, n, e2, rfl, ?_, ?_, hB⟩
    · rw [her]; exact hu
    · rcases hn.out with ⟨h1, h2⟩ | h1
      · exact .inl ⟨h1, r5, h2⟩
      · exact .inr h1
  · refine (Swap_err h her).mono ?_
    rintro e w' ⟨rfl, hB⟩
    exact ⟨none, 0, 0, _, rfl, .inl ⟨her, rfl, rfl, rfl⟩, .inr ⟨her, rfl⟩, hB⟩
end Go.Proofs.Ytjbenhmpeceaeab
namespace Go.Proofs.Ytjbenhmpeceaeab
open Go Go.RowKit Gs

theorem gS_swr (f : Int → Int) (lo hi : Int) (fr tt : Nat) : gS f lo hi fr tt false = swr f lo hi fr tt := by
  funext x
  show (if lo ≤ x ∧ x < hi ∧ (false = true ∨ f x = fr) then (tt : Int) else f x) = if lo ≤ x ∧ x < hi then (if f x = fr then (tt : Int) else f x) else f x
  by_cases h : lo ≤ x ∧ x < hi
  · by_cases h2 : f x = fr
    · rw [if_pos ⟨h.1, h.2, .inr h2⟩, if_pos h, if_pos h2]
    · rw [if_neg (fun h' => h'.2.2.elim (fun h => by cases h) h2), if_pos h, if_neg h2]
  · rw [if_neg (fun h' => h ⟨h'.1, h'.2.1⟩), if_neg h]
end Go.Proofs.Ytjbenhmpeceaeab
