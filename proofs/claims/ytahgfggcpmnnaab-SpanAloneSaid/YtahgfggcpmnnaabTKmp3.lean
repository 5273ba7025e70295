/- WHAT IS PROVED: for any size and any two lists of updates: SpanAlone returns true, and its arguments read as before. Conditions: none but the row's own. -/
import Derived.Test.YtahgfggcpmnnaabTKmp2
import Derived.Test.YtahgfggcpmnnaabZs
import Derived.BigQuiet
import Derived.Maps.AppendAt
import Derived.Laws.OwnMore
import Derived.Test.YtahgfggcpmnnaabTKmp1
import Derived.ShutString
import Derived.ChangeOld
import Derived.Below
namespace Go.Proofs.Ytahgfggcpmnnaab
open Go Go.RowKit Go.Shelf Gs

attribute [local go_sem] Oper.semAt_some

theorem IsT.keep {W W' : World} (hk : ∀ b, (W.cell? ⟨b, 22, none⟩).isSome = true → W'.heap[b]? = W.heap[b]?) : ∀ {t : T} {v : Value}, IsT W t v → IsT W' t v
  | .nil, _, h => h
  | .node _ _ _, _, ⟨b, x, y, hv, hr, hl, hr2⟩ => ⟨b, x, y, hv, hr.of_block (hk b (by rw [hr.cell (i := 22) (by decide)]; rfl)), IsT.keep hk hl, IsT.keep hk hr2⟩
theorem then_false {K : Go.Act → World → Prop} {Q : Exit → Go.Act → World → Prop} : ∀ e a w, Exit.then K (fun _ _ _ => False) e a w → Exit.then K Q e a w := by
  intro e a w h
  cases e <;> first | exact h | exact False.elim h
theorem ro_row {W : World} {base : Nat} {v : Value} {l : List R} (h : rowR W base v l) : IsRo W v l := by
  have hcs := fun g hg => h.cells (g := g) hg
  rcases h.2 with ⟨rfl, h0⟩ | ⟨g, cap, cur, rfl, _, hgb, hcap, _⟩
  · exact ⟨none, 0, by rw [h0], by omega, fun hp => by omega⟩
  · refine ⟨some ⟨g, 0, none⟩, cap, rfl, by omega, fun hp => ⟨g, 0, rfl, (Array.getElem?_eq_some_iff.1 hgb).1, fun j hj => ?_⟩⟩
    obtain ⟨e0, e1, e2⟩ := encL_get l j hj
    have c0 := hcs g rfl _ _ e0; have c1 := hcs g rfl _ _ e1; have c2 := hcs g rfl _ _ e2
    rw [add_zero'] at c0 c1 c2
    exact ⟨by rw [Nat.zero_add]; exact c0, by rw [Nat.zero_add]; exact c1, by rw [Nat.zero_add]; exact c2⟩
set_option maxRecDepth 100000 in
set_option maxHeartbeats 8000000 in
theorem Merge_any {o x y : Int → Int} {size : Int} {W : World} {p q r : Option Addr} (h : IsM o size W p) (h' : IsM x size W q) (h'' : IsM y size W r) :
    ∃ La Lx Ly, Gs.Can o 0 La size ∧ Gs.Can x 0 Lx size ∧ Gs.Can y 0 Ly size ∧ La.length ≤ 4096 ∧ Lx.length ≤ 4096 ∧ Ly.length ≤ 4096 ∧
      Calls Try.prog 24 #[.agg #[.pointer p, .int .i64 size], .agg #[.pointer q, .int .i64 size], .agg #[.pointer r, .int .i64 size]] W fun e w' => ∃ mp ms u E, e = .returned (.tuple #[.agg #[.pointer mp, .int .i64 ms], u, .int .i64 E]) ∧
        Hid (Upd o (mg o x y) size 0 mp ms E w') ∧ Hid ((E = 5 ∧ u = .slice none 0 0) ∨ (E = 0 ∧ RowC W.heap.size u (mC (m3 La Lx Ly)) w')) ∧ Below W.heap.size W w' := by
  have hs := h.lo
  obtain ⟨bp, rfl⟩ := h.some
  obtain ⟨bq, rfl⟩ := h'.some
  obtain ⟨br, rfl⟩ := h''.some
  obtain ⟨ta, a1, a2, a3⟩ := h.tr
  obtain ⟨tb, b1, b2, b3⟩ := h'.tr
  obtain ⟨tc, c1, c2, c3⟩ := h''.tr
  have hcl := Gs.Can.same (clip_can a2 (Int.le_refl 0) (by omega) (Int.le_refl size)) a2
  have hB3 := B3.of h.ctx h'.ctx h''.ctx
  have hla : ta.L.length ≤ 4096 := by rw [← T.sz_eq]; exact a3
  have hlb : tb.L.length ≤ 4096 := by rw [← T.sz_eq]; exact b3
  have hlc : tc.L.length ≤ 4096 := by rw [← T.sz_eq]; exact c3
  refine ⟨ta.L, tb.L, tc.L, a2, b2, c2, hla, hlb, hlc, ?_⟩
  have HLB : Hid (∀ lo hi, (clip lo hi tb.L).length ≤ 4096) := fun lo hi => Nat.le_trans (clip_len _ _ _) hlb
  have HLC : Hid (∀ lo hi, (clip lo hi tc.L).length ≤ 4096) := fun lo hi => Nat.le_trans (clip_len _ _ _) hlc
  have HCAN : Hid (Gs.Can (mg o x y) 0 (mR (m3 ta.L tb.L tc.L)) size) := mR_can (m3_f3 a2 b2 c2 hB3)
  have HCTX : Hid (Ctx (mg o x y) 0 size) := ⟨Int.le_refl 0, h.ctx.2.1, fun p p1 p2 => by
    obtain ⟨q1, q2, q3⟩ := hB3 p p1 p2
    unfold mg mt
    split
    · exact q2
    · split
      · exact q3
      · exact q1⟩
  obtain ⟨w0, HW, hm0, hm1, hm2, hm3, hc, hlt, hb⟩ := three_maps W (some bp, size) (some bq, size) (some br, size) 27 27
  have hs0 : w0.heap.size = W.heap.size + 1 + 1 + 1 + 1 + 1 := by rw [HW]; simp
  have HCK : Hid (Calls Try.prog 42 #[.slice (some ⟨W.heap.size + 1 + 1 + 1 + 1, 0, none⟩) 3 3] w0 fun e w' => e = .returned (.int .i64 0) ∧ Below w0.heap.size w0 w') :=
    checkSizes_ok (W.heap.size + 1 + 1 + 1 + 1) 3 [(some bp, size), (some bq, size), (some br, size)] size 0 w0 hlt (fun j hj => by
      have : j = 0 ∨ j = 1 ∨ j = 2 := by simp at hj; omega
      rcases this with rfl | rfl | rfl
      · exact ⟨hc 0 _ rfl, hc 1 _ rfl⟩
      · exact ⟨hc 2 _ rfl, hc 3 _ rfl⟩
      · exact ⟨hc 4 _ rfl, hc 5 _ rfl⟩) (by simp) (by simp) (by simp) (hc 1 _ rfl) (fun _ => rfl) (by simp)
  have HMH : Hid (Mhs w0 W.heap.size (some ⟨bp, 0, none⟩) (some ⟨bq, 0, none⟩) (some ⟨br, 0, none⟩) size) := by rw [HW]; exact four_maps W _ _ _ size _
  have HB := Lib.hid hb; have HS0 := Lib.hid hs0
  have HTA : Hid (IsTB W.heap.size W ta (some ⟨bp, 0, none⟩)) := IsT.tb a1
  have HTB : Hid (IsTB W.heap.size W tb (some ⟨bq, 0, none⟩)) := IsT.tb b1
  have HTC : Hid (IsTB W.heap.size W tc (some ⟨br, 0, none⟩)) := IsT.tb c1
  have HA2 := Lib.hid a2; have HB2 := Lib.hid b2; have HC2 := Lib.hid c2; have HCL := Lib.hid hcl
  have HW2 : Hid (w0 = ((((W.alloc (.cells #[.pointer (some ⟨bp, 0, none⟩), .int .i64 size] 27)).alloc (.cells #[.pointer (some ⟨bq, 0, none⟩), .int .i64 size] 27)).alloc (.cells #[.pointer (some ⟨br, 0, none⟩), .int .i64 size] 27)).alloc (.cells #[.pointer none, .int .i64 0] 27)).alloc (.cells #[.pointer (some ⟨bp, 0, none⟩), .int .i64 size, .pointer (some ⟨bq, 0, none⟩), .int .i64 size, .pointer (some ⟨br, 0, none⟩), .int .i64 size] 27)) := HW
  clear h h' h'' a1 a2 a3 b1 b2 b3 c1 c2 c3 hcl hm0 hm1 hm2 hm3 hc hlt hb hs0 HW hB3
  refine (callsIn_wide (n := 20)).1 ?_
  refine callsIn_of_wp_marks Try.func24 rfl trivial ?_ rfl
  simp only [Try.ntmps24, List.size_toArray, List.length_cons, List.length_nil, Nat.reduceAdd, Nat.reduceSub, Array.replicate_succ, Array.replicate_zero, List.push_toArray, List.append_toArray, List.nil_append, List.cons_append]
  gi_wp2_with fail
  rw [← HW2.out]
  refine ⟨trivial, (callsIn_wide.2 HCK.out).mono ?_⟩
  rintro e w1 ⟨rfl, hb⟩
  have hs1 : W.heap.size + 1 + 1 + 1 + 1 + 1 ≤ w1.heap.size := by have := hb.size; have := HS0.out; omega
  have HMH1 : Hid (Mhs w1 W.heap.size (some ⟨bp, 0, none⟩) (some ⟨bq, 0, none⟩) (some ⟨br, 0, none⟩) size) := HMH.out.next fun k hk _ _ => hb.block k hk
  have HB1 := Lib.hid (HB.out.trans (hb.mono HB.out.size))
  obtain ⟨w2, HW2⟩ : ∃ w2, w2 = (w1.alloc (.cells #[.slice none 0 0] 42)).alloc (.cells #[.slice none 0 0] 53) := ⟨_, rfl⟩
  have b2 : Below w1.heap.size w1 w2 := by rw [HW2]; exact ((Below.refl _ _).alloc (Nat.le_refl _) _).alloc (by simp) _
  have o2 : Boxed w2 w1.heap.size 42 (.slice none 0 0) := by rw [HW2]; exact (Boxed.new _ _ _).alloc _
  have o3 : Boxed w2 (w1.heap.size + 1) 53 (.slice none 0 0) := by
    have := Boxed.new (w1.alloc (.cells #[.slice none 0 0] 42)) 53 (.slice none 0 0)
    rw [World.size_alloc] at this
    rw [HW2]; exact this
  have s2 : w2.heap.size = w1.heap.size + 1 + 1 := by rw [HW2]; simp
  have hmst : Mst W.heap.size w1.heap.size (w1.heap.size + 1) (some ⟨bp, 0, none⟩) (some ⟨bq, 0, none⟩) (some ⟨br, 0, none⟩) size [] (m3 [] tb.L tc.L) (.slice none 0 0) (.slice none 0 0) w2 :=
    ⟨⟨o2, o3, World.ownsRow_nil _ _ _ _, World.ownsRow_nil _ _ _ _, fun k ek => by simp [Value.ownBlock] at ek⟩, HMH1.out.next fun k hk _ _ => b2.block k hk, fun b hb => (by cases hb), fun b hb => (by cases hb), by omega, Nat.lt_succ_self _⟩
  obtain ⟨w3, HW3⟩ : ∃ w3, w3 = w2.alloc (.cells #[.pointer (some ⟨bp, 0, none⟩), .int .i64 size] 27) := ⟨_, rfl⟩
  have b3 : Below w2.heap.size w2 w3 := by rw [HW3]; exact (Below.refl _ _).alloc (Nat.le_refl _) _
  have s3 : w3.heap.size = w1.heap.size + 1 + 1 + 1 := by rw [HW3, World.size_alloc, s2]
  obtain ⟨q0, q1, q2, q3, q4⟩ := seq_cells w3 (some ⟨bp, 0, none⟩) 0 size
  rw [s3] at q0 q1 q2 q3
  have b4 := b3.trans (q4.mono b3.size)
  have HST4 : Hid (Mst W.heap.size w1.heap.size (w1.heap.size + 1) (some ⟨bp, 0, none⟩) (some ⟨bq, 0, none⟩) (some ⟨br, 0, none⟩) size [] (m3 [] tb.L tc.L) (.slice none 0 0) (.slice none 0 0) (seqW w3 (some ⟨bp, 0, none⟩) 0 size)) := hmst.next b4
  have b5 := b2.trans (b4.mono b2.size)
  have HSB := Lib.hid (HB1.out.trans (b5.mono HB1.out.size))
  have HSQ := Lib.hid (seq_stops (n := 19) (n₀ := W.heap.size) (lo := 0) (hi := size) (by rw [q3]; omega) HSB.out.size q0 q1 q2 (HTA.out.below HSB.out) HA2.out)
  have HAL : Hid (CallsIn Fence.wide 19 Try.prog 43 #[.agg #[.pointer (some ⟨bp, 0, none⟩), .int .i64 size]] w2 fun e w' => e = .returned (seqV (w1.heap.size + 1 + 1 + 1)) ∧ w' = seqW w3 (some ⟨bp, 0, none⟩) 0 size) := callsIn_wide.2 (by rw [HW3, ← s2]; exact all_any _ _ w2)
  have hm2 : Mh w2 W.heap.size (some ⟨bp, 0, none⟩) size := hmst.maps.m0
  have k0 : w2.cell? ⟨W.heap.size, 0, none⟩ = some (.pointer (some ⟨bp, 0, none⟩)) := hm2.cell
  have k1 : w2.cell? ⟨W.heap.size, 1, none⟩ = some (.int .i64 size) := by
    have h9 : w2.heap[W.heap.size]? = _ := hm2
    simp [World.cell?, h9]
  have HW2' := Lib.hid HW2
  have hge0 : w1.heap.size + 1 < (seqW w3 (some ⟨bp, 0, none⟩) 0 size).heap.size := by rw [q3]; omega
  generalize seqW w3 (some ⟨bp, 0, none⟩) 0 size = w4 at *
  clear hb b2 o2 o3 s2 q0 q1 q2 q3 q4 b3 b4 b5 s3 HW2 HW3 hmst hm2
  gi_upto_region 6 with fail
  rw [← HW2'.out]
  gi_wp2_with fail
  refine ⟨trivial, HAL.out.mono ?_⟩
  rintro e w' ⟨rfl, rfl⟩
  gi_wp2_with fail
  have hge : W.heap.size ≤ w'.heap.size := HSB.out.size
  obtain ⟨i0, hi0, hz0, hz1, hz2⟩ := info_parts infoCh
  refine wpIn_rangeFunc_ownH rfl (by omega) (gf := 55) (lb := #[.pointer (some ⟨w1.heap.size + 1 + 1 + 1, 0, none⟩), .pointer (some ⟨w1.heap.size + 1 + 1 + 1 + 1, 0, none⟩), .pointer (some ⟨w1.heap.size + 1 + 1 + 1 + 1 + 1, 0, none⟩)]) rfl trivial (enters_of Try.func55 (by kernel_rfl) rfl)
    HSQ.out belowK_t (belowK_b hge) (Below.refl _ _) (fun _ => rfl)
    (fun pre W2 => ((∃ v u, Mst W.heap.size w1.heap.size (w1.heap.size + 1) (some ⟨bp, 0, none⟩) (some ⟨bq, 0, none⟩) (some ⟨br, 0, none⟩) size [] (m3 pre tb.L tc.L) v u W2) ∧ (m3 pre tb.L tc.L).length ≤ pre.length * 16777216) ∧ Below W.heap.size W W2)
    (fun _ _ _ => False)
    (OwnFrom.and (Own.from (fun s A B row hs hg hr => ⟨Mst.own () A B row hs.1 hg hr, hs.2⟩) _) (ownFrom_below (Nat.le_refl _) hge))
    (fun _ _ _ _ _ hs _ _ => hs)
    ⟨⟨⟨_, _, HST4.out⟩, Nat.zero_le _⟩, HSB.out⟩
    (fun x a' W2 => ∃ Bo, Bx1 w1.heap.size (w1.heap.size + 1) Bo x W2 ∧ a' = { tmps := #[.agg #[.pointer (some ⟨bp, 0, none⟩), .int .i64 size], .agg #[.pointer (some ⟨bq, 0, none⟩), .int .i64 size], .agg #[.pointer (some ⟨br, 0, none⟩), .int .i64 size], .pointer (some ⟨W.heap.size, 0, none⟩), .pointer (some ⟨W.heap.size + 1, 0, none⟩), .pointer (some ⟨W.heap.size + 1 + 1, 0, none⟩), .pointer (some ⟨W.heap.size + 1 + 1 + 1, 0, none⟩), .slice none 0 0, .int .i64 0, .int .i64 0, .pointer (some ⟨w1.heap.size, 0, none⟩), .pointer (some ⟨w1.heap.size + 1, 0, none⟩), .pointer (some ⟨Bo, 0, none⟩), undef, undef, undef, undef, .agg #[.pointer (some ⟨bp, 0, none⟩), .int .i64 size], .agg #[.pointer (some ⟨bq, 0, none⟩), .int .i64 size], .agg #[.pointer (some ⟨br, 0, none⟩), .int .i64 size], .slice (some ⟨W.heap.size + 1 + 1 + 1 + 1, 0, none⟩) 3 3, .int .i64 0, .int .i64 0, .bool false, undef, undef, .agg #[.pointer (some ⟨bp, 0, none⟩), .int .i64 size], seqV (w1.heap.size + 1 + 1 + 1), .agg #[.int .i64 x.lo, .int .i64 x.hi, .int .i64 x.tag], undef, undef, undef, undef, undef, undef, undef, undef, undef, undef, undef, undef, undef, undef, undef, undef, undef, undef, undef, undef, undef, undef, undef, undef, undef, undef, undef, undef, undef, undef, undef, undef, undef, undef, undef, undef, undef, undef, undef, undef, undef, undef, undef, undef, undef, undef, undef, undef, undef, undef, undef, undef, undef, undef, undef, undef, undef], defers := [] })
    (fun x a' => Own.from (fun s A B row hs hg hr => by
      obtain ⟨Bo, h1, h2⟩ := hs
      exact ⟨Bo, Bx1.own () A B row h1 hg hr, h2⟩) _) ?assign ?body ?done ?stop
  case assign =>
    rintro l pre ⟨xa, xb, xc⟩ W2 K ⟨⟨⟨v, u, g1⟩, g4⟩, g5⟩ hK
    unfold encR
    gi_wp2
    exact hK _ _ ((KeepsOthers.alloc _ _).from _) ((Below.refl _ W2).alloc g5.size _) ⟨⟨⟨v, u, g1.alloc _⟩, g4⟩, g5.alloc g5.size _⟩ ⟨W2.heap.size, (g1.box ⟨xa, xb, xc⟩).un, rfl⟩
  case body =>
    rintro l pre ⟨xa, xb, xc⟩ a' W2 hl ⟨r, hr⟩ ⟨⟨⟨v, u, g1⟩, g4⟩, g5⟩ ⟨Bo, hBo, rfl⟩ hlt
    have hla2 : pre.length < 4096 := by rw [HCL.out] at hlt; omega
    have m := g1.and hBo
    have m0 := m.maps.m1.cell
    obtain ⟨r0, r1, r2⟩ := (m.rbs _ (List.mem_cons_self ..)).1.cells
    simp only at r0 r1 r2
    obtain ⟨q0, q1, q2, q3, q4⟩ := seq_cells W2 (some ⟨bq, 0, none⟩) xa xb
    have HWI : Hid (CallsIn Fence.wide 17 Try.prog 39 #[.pointer (some ⟨bq, 0, none⟩), .int .i64 xa, .int .i64 xb] W2 fun e w' => e = .returned (seqV W2.heap.size) ∧ w' = seqW W2 (some ⟨bq, 0, none⟩) xa xb) := callsIn_wide.2 (within_any _ _ _ W2)
    have i1 : Mst W.heap.size w1.heap.size (w1.heap.size + 1) (some ⟨bp, 0, none⟩) (some ⟨bq, 0, none⟩) (some ⟨br, 0, none⟩) size [(Bo, ⟨xa, xb, xc⟩)] (m3 pre tb.L tc.L ++ m3x ⟨xa, xb, xc⟩ [] tc.L) v u (seqW W2 (some ⟨bq, 0, none⟩) xa xb) := by
      rw [show m3x ⟨xa, xb, xc⟩ [] tc.L = [] from rfl, List.append_nil]
      exact m.next q4
    have i2 : (m3 pre tb.L tc.L ++ m3x ⟨xa, xb, xc⟩ [] tc.L).length ≤ pre.length * 16777216 + 0 * 4096 := by
      rw [show m3x ⟨xa, xb, xc⟩ [] tc.L = [] from rfl, List.append_nil]
      exact Nat.le_trans g4 (Nat.le_add_right _ _)
    have i5 : KeepsFrom w'.heap.size W2 (seqW W2 (some ⟨bq, 0, none⟩) xa xb) := (keeps_below q4).from _
    have hr' : (seqW W2 (some ⟨bq, 0, none⟩) xa xb).heap[l]? = some (.loop r) := (q4.block l (Array.getElem?_eq_some_iff.1 hr).1).trans hr
    have i6 : Below W.heap.size W2 (seqW W2 (some ⟨bq, 0, none⟩) xa xb) := q4.mono g5.size
    have hsz5 := Nat.le_trans g5.size q4.size
    have i7 : W.heap.size ≤ (seqW W2 (some ⟨bq, 0, none⟩) xa xb).heap.size := hsz5
    have i8 : w'.heap.size ≤ W2.heap.size := by have := (Array.getElem?_eq_some_iff.1 hr).1; omega
    have i9 : W2.heap.size ≤ (seqW W2 (some ⟨bq, 0, none⟩) xa xb).heap.size := q4.size
    have HSQ2 := Lib.hid (seq_stops (n := 17) (n₀ := W.heap.size) (lo := xa) (hi := xb) (w := seqW W2 (some ⟨bq, 0, none⟩) xa xb) (B := W2.heap.size) (by rw [q3]; omega) hsz5 q0 q1 q2 (HTB.out.below (g5.trans i6)) HB2.out)
    have G5 := Lib.hid g5
    clear q0 q1 q2 q3 q4 g1 hBo hsz5 g5 hlt m g4
    generalize seqW W2 (some ⟨bq, 0, none⟩) xa xb = w5 at *
    gi_wp2_with (refine ⟨trivial, ?_⟩; gi_at_call 39; refine (CallsIn.inRound l HWI.out).mono ?_; rintro e w6 ⟨rfl, rfl⟩)
    refine wpIn_rangeFunc_ownN (l₀ := l) (r₀ := r) rfl hr' (by omega) (gf := 55) (lb := #[.pointer (some ⟨W2.heap.size, 0, none⟩), .pointer (some ⟨W2.heap.size + 1, 0, none⟩), .pointer (some ⟨W2.heap.size + 1 + 1, 0, none⟩)]) rfl trivial (enters_of Try.func55 (by kernel_rfl) rfl)
      (HSQ2.out.inRound l) belowK_t (belowK_b i7) (Below.refl _ _) (fun _ => rfl)
      (fun pre2 W3 => ((∃ v u, Mst W.heap.size w1.heap.size (w1.heap.size + 1) (some ⟨bp, 0, none⟩) (some ⟨bq, 0, none⟩) (some ⟨br, 0, none⟩) size [(Bo, ⟨xa, xb, xc⟩)] (m3 pre tb.L tc.L ++ m3x ⟨xa, xb, xc⟩ pre2 tc.L) v u W3) ∧ (m3 pre tb.L tc.L ++ m3x ⟨xa, xb, xc⟩ pre2 tc.L).length ≤ pre.length * 16777216 + pre2.length * 4096) ∧ (Below W.heap.size W2 W3 ∧ KeepsFrom w'.heap.size W2 W3))
      (fun _ _ _ => False)
      (OwnFrom.and (Own.from (fun s A B row hs hg hr => ⟨Mst.own () A B row hs.1 hg hr, hs.2⟩) _) (OwnFrom.and (ownFrom_below G5.out.size i7) (ownFrom_keepsFrom i5.size)))
      (fun _ _ _ _ _ hs _ _ => hs)
      ⟨⟨⟨_, _, i1⟩, i2⟩, i6, i5⟩
      (fun y a2 W3 => ∃ By, Bx1 w1.heap.size (w1.heap.size + 1) By y W3 ∧ a2 = { tmps := #[.agg #[.pointer (some ⟨bp, 0, none⟩), .int .i64 size], .agg #[.pointer (some ⟨bq, 0, none⟩), .int .i64 size], .agg #[.pointer (some ⟨br, 0, none⟩), .int .i64 size], .pointer (some ⟨W.heap.size, 0, none⟩), .pointer (some ⟨W.heap.size + 1, 0, none⟩), .pointer (some ⟨W.heap.size + 1 + 1, 0, none⟩), .pointer (some ⟨W.heap.size + 1 + 1 + 1, 0, none⟩), .slice none 0 0, .int .i64 0, .int .i64 0, .pointer (some ⟨w1.heap.size, 0, none⟩), .pointer (some ⟨w1.heap.size + 1, 0, none⟩), .pointer (some ⟨Bo, 0, none⟩), .pointer (some ⟨By, 0, none⟩), undef, undef, undef, .agg #[.pointer (some ⟨bp, 0, none⟩), .int .i64 size], .agg #[.pointer (some ⟨bq, 0, none⟩), .int .i64 size], .agg #[.pointer (some ⟨br, 0, none⟩), .int .i64 size], .slice (some ⟨W.heap.size + 1 + 1 + 1 + 1, 0, none⟩) 3 3, .int .i64 0, .int .i64 0, .bool false, undef, undef, .agg #[.pointer (some ⟨bp, 0, none⟩), .int .i64 size], seqV (w1.heap.size + 1 + 1 + 1), .agg #[.int .i64 xa, .int .i64 xb, .int .i64 xc], .pointer (some ⟨W.heap.size + 1, 0, none⟩), .pointer (some ⟨bq, 0, none⟩), .pointer (some ⟨Bo, 0, none⟩), .int .i64 xa, .pointer (some ⟨Bo, 1, none⟩), .int .i64 xb, seqV W2.heap.size, .agg #[.int .i64 y.lo, .int .i64 y.hi, .int .i64 y.tag], undef, undef, undef, undef, undef, undef, undef, undef, undef, undef, undef, undef, undef, undef, undef, undef, undef, undef, undef, undef, undef, undef, undef, undef, undef, undef, undef, undef, undef, undef, undef, undef, undef, undef, undef, undef, undef, undef, undef, undef, undef, undef, undef, undef, undef, undef, undef, undef, undef], defers := [] })
      (fun y a2 => Own.from (fun s A B row hs hg hr => by
        obtain ⟨By, h1, h2⟩ := hs
        exact ⟨By, Bx1.own () A B row h1 hg hr, h2⟩) _) ?assign2 ?body2 ?done2 ?stop2
    case assign2 =>
      rintro l2 pre2 ⟨ya, yb, yc⟩ W3 K ⟨⟨⟨v, u, c1⟩, c4⟩, hBW, hKF⟩ hK
      unfold encR
      gi_wp2
      exact hK _ _ ((KeepsOthers.alloc _ _).from _) ((Below.refl _ W3).alloc (Nat.le_trans G5.out.size hBW.size) _) ⟨⟨⟨v, u, c1.alloc _⟩, c4⟩, hBW.alloc (Nat.le_trans G5.out.size hBW.size) _, hKF.trans ((KeepsOthers.alloc _ _).from _)⟩ ⟨W3.heap.size, (c1.box ⟨ya, yb, yc⟩).un, rfl⟩
    case body2 =>
      rintro l2 pre2 ⟨ya, yb, yc⟩ a2 W3 hl2 ⟨r2, hr2⟩ ⟨⟨⟨v, u, c1⟩, c4⟩, hBW, hKF⟩ ⟨By, hBy, rfl⟩ hlt2
      have hl3 := HLB.out xa xb
      have hpl2 : pre2.length < 4096 := by omega
      have m := c1.and hBy
      have n0 := m.maps.m2.cell
      obtain ⟨y0, y1, y2⟩ := (m.rbs _ (List.mem_cons_self ..)).1.cells
      simp only at y0 y1 y2
      obtain ⟨q0, q1, q2, q3, q4⟩ := seq_cells W3 (some ⟨br, 0, none⟩) ya yb
      have HWI2 : Hid (CallsIn Fence.wide 15 Try.prog 39 #[.pointer (some ⟨br, 0, none⟩), .int .i64 ya, .int .i64 yb] W3 fun e w' => e = .returned (seqV W3.heap.size) ∧ w' = seqW W3 (some ⟨br, 0, none⟩) ya yb) := callsIn_wide.2 (within_any _ _ _ W3)
      have j1 : Mst W.heap.size w1.heap.size (w1.heap.size + 1) (some ⟨bp, 0, none⟩) (some ⟨bq, 0, none⟩) (some ⟨br, 0, none⟩) size [(By, ⟨ya, yb, yc⟩), (Bo, ⟨xa, xb, xc⟩)] (m3 pre tb.L tc.L ++ m3x ⟨xa, xb, xc⟩ pre2 tc.L ++ m3y ⟨xa, xb, xc⟩ ⟨ya, yb, yc⟩ []) v u (seqW W3 (some ⟨br, 0, none⟩) ya yb) := by
        rw [show m3y ⟨xa, xb, xc⟩ ⟨ya, yb, yc⟩ [] = [] from rfl, List.append_nil]
        exact m.next q4
      have j2 : (m3 pre tb.L tc.L ++ m3x ⟨xa, xb, xc⟩ pre2 tc.L ++ m3y ⟨xa, xb, xc⟩ ⟨ya, yb, yc⟩ []).length ≤ pre.length * 16777216 + pre2.length * 4096 + 0 := by
        rw [show m3y ⟨xa, xb, xc⟩ ⟨ya, yb, yc⟩ [] = [] from rfl, List.append_nil]
        exact Nat.le_trans c4 (Nat.le_add_right _ _)
      have hsW3 : W.heap.size ≤ W3.heap.size := Nat.le_trans G5.out.size hBW.size
      have j5 : KeepsFrom w'.heap.size W3 (seqW W3 (some ⟨br, 0, none⟩) ya yb) := (keeps_below q4).from _
      have hr2' : (seqW W3 (some ⟨br, 0, none⟩) ya yb).heap[l2]? = some (.loop r2) := (q4.block l2 (Array.getElem?_eq_some_iff.1 hr2).1).trans hr2
      have j6 : Below W.heap.size W3 (seqW W3 (some ⟨br, 0, none⟩) ya yb) := q4.mono hsW3
      have hsz6 := Nat.le_trans hsW3 q4.size
      have j7 : W.heap.size ≤ (seqW W3 (some ⟨br, 0, none⟩) ya yb).heap.size := hsz6
      have j9 : W3.heap.size ≤ (seqW W3 (some ⟨br, 0, none⟩) ya yb).heap.size := q4.size
      have j8 : w6.heap.size ≤ W3.heap.size := by have := (Array.getElem?_eq_some_iff.1 hr2).1; omega
      have HSQ3 := Lib.hid (seq_stops (n := 15) (n₀ := W.heap.size) (lo := ya) (hi := yb) (w := seqW W3 (some ⟨br, 0, none⟩) ya yb) (B := W3.heap.size) (by rw [q3]; omega) hsz6 q0 q1 q2 (HTC.out.below ((G5.out.trans hBW).trans j6)) HC2.out)
      have HBW := Lib.hid hBW; have HKF := Lib.hid hKF
      clear q0 q1 q2 q3 q4 c1 hBy hsz6 hlt2 m c4 hBW hKF
      generalize seqW W3 (some ⟨br, 0, none⟩) ya yb = w7 at *
      gi_wp2_with (refine ⟨trivial, ?_⟩; gi_at_call 39; refine (CallsIn.inRound l2 (CallsIn.inRound l HWI2.out)).mono ?_; rintro e w8 ⟨rfl, rfl⟩)
      refine wpIn_rangeFunc_ownN (l₀ := l2) (r₀ := r2) rfl hr2' (by omega) (gf := 55) (lb := #[.pointer (some ⟨W3.heap.size, 0, none⟩), .pointer (some ⟨W3.heap.size + 1, 0, none⟩), .pointer (some ⟨W3.heap.size + 1 + 1, 0, none⟩)]) rfl trivial (enters_of Try.func55 (by kernel_rfl) rfl)
        ((HSQ3.out.inRound l).inRound l2) belowK_t (belowK_b j7) (Below.refl _ _) (fun _ => rfl)
        (fun pre3 W4 => ((∃ v u, Mst W.heap.size w1.heap.size (w1.heap.size + 1) (some ⟨bp, 0, none⟩) (some ⟨bq, 0, none⟩) (some ⟨br, 0, none⟩) size [(By, ⟨ya, yb, yc⟩), (Bo, ⟨xa, xb, xc⟩)] (m3 pre tb.L tc.L ++ m3x ⟨xa, xb, xc⟩ pre2 tc.L ++ m3y ⟨xa, xb, xc⟩ ⟨ya, yb, yc⟩ pre3) v u W4) ∧ (m3 pre tb.L tc.L ++ m3x ⟨xa, xb, xc⟩ pre2 tc.L ++ m3y ⟨xa, xb, xc⟩ ⟨ya, yb, yc⟩ pre3).length ≤ pre.length * 16777216 + pre2.length * 4096 + pre3.length) ∧ (Below W.heap.size W3 W4 ∧ KeepsFrom w'.heap.size W3 W4))
        (fun _ _ _ => False)
        (OwnFrom.and (Own.from (fun s A B row hs hg hr => ⟨Mst.own () A B row hs.1 hg hr, hs.2⟩) _) (OwnFrom.and (ownFrom_below hsW3 j7) (ownFrom_keepsFrom j5.size)))
        (fun _ _ _ _ _ hs _ _ => hs)
        ⟨⟨⟨_, _, j1⟩, j2⟩, j6, j5⟩
        (fun z a3 W4 => ∃ Bz, Bx1 w1.heap.size (w1.heap.size + 1) Bz z W4 ∧ a3 = { tmps := #[.agg #[.pointer (some ⟨bp, 0, none⟩), .int .i64 size], .agg #[.pointer (some ⟨bq, 0, none⟩), .int .i64 size], .agg #[.pointer (some ⟨br, 0, none⟩), .int .i64 size], .pointer (some ⟨W.heap.size, 0, none⟩), .pointer (some ⟨W.heap.size + 1, 0, none⟩), .pointer (some ⟨W.heap.size + 1 + 1, 0, none⟩), .pointer (some ⟨W.heap.size + 1 + 1 + 1, 0, none⟩), .slice none 0 0, .int .i64 0, .int .i64 0, .pointer (some ⟨w1.heap.size, 0, none⟩), .pointer (some ⟨w1.heap.size + 1, 0, none⟩), .pointer (some ⟨Bo, 0, none⟩), .pointer (some ⟨By, 0, none⟩), .pointer (some ⟨Bz, 0, none⟩), undef, undef, .agg #[.pointer (some ⟨bp, 0, none⟩), .int .i64 size], .agg #[.pointer (some ⟨bq, 0, none⟩), .int .i64 size], .agg #[.pointer (some ⟨br, 0, none⟩), .int .i64 size], .slice (some ⟨W.heap.size + 1 + 1 + 1 + 1, 0, none⟩) 3 3, .int .i64 0, .int .i64 0, .bool false, undef, undef, .agg #[.pointer (some ⟨bp, 0, none⟩), .int .i64 size], seqV (w1.heap.size + 1 + 1 + 1), .agg #[.int .i64 xa, .int .i64 xb, .int .i64 xc], .pointer (some ⟨W.heap.size + 1, 0, none⟩), .pointer (some ⟨bq, 0, none⟩), .pointer (some ⟨Bo, 0, none⟩), .int .i64 xa, .pointer (some ⟨Bo, 1, none⟩), .int .i64 xb, seqV W2.heap.size, .agg #[.int .i64 ya, .int .i64 yb, .int .i64 yc], .pointer (some ⟨W.heap.size + 1 + 1, 0, none⟩), .pointer (some ⟨br, 0, none⟩), .pointer (some ⟨By, 0, none⟩), .int .i64 ya, .pointer (some ⟨By, 1, none⟩), .int .i64 yb, seqV W3.heap.size, .agg #[.int .i64 z.lo, .int .i64 z.hi, .int .i64 z.tag], undef, undef, undef, undef, undef, undef, undef, undef, undef, undef, undef, undef, undef, undef, undef, undef, undef, undef, undef, undef, undef, undef, undef, undef, undef, undef, undef, undef, undef, undef, undef, undef, undef, undef, undef, undef, undef, undef, undef, undef, undef], defers := [] })
        (fun z a3 => Own.from (fun s A B row hs hg hr => by
          obtain ⟨Bz, h1, h2⟩ := hs
          exact ⟨Bz, Bx1.own () A B row h1 hg hr, h2⟩) _) ?assign3 ?body3 ?done3 ?stop3
      case assign3 =>
        rintro l3 pre3 ⟨za, zb, zc⟩ W4 K ⟨⟨⟨v, u, d1⟩, d4⟩, hBW4, hKF4⟩ hK
        unfold encR
        gi_wp2
        exact hK _ _ ((KeepsOthers.alloc _ _).from _) ((Below.refl _ W4).alloc (Nat.le_trans hsW3 hBW4.size) _) ⟨⟨⟨v, u, d1.alloc _⟩, d4⟩, hBW4.alloc (Nat.le_trans hsW3 hBW4.size) _, hKF4.trans ((KeepsOthers.alloc _ _).from _)⟩ ⟨W4.heap.size, (d1.box ⟨za, zb, zc⟩).un, rfl⟩
      case body3 =>
        rintro l3 pre3 ⟨za, zb, zc⟩ a3 W4 _ _ ⟨⟨⟨v, u, d1⟩, d4⟩, hBW4, hKF4⟩ ⟨Bz, hBz, rfl⟩ hlt3
        have hl4 := HLC.out ya yb
        have m := d1.and hBz
        obtain ⟨TL, HTL⟩ : ∃ TL, TL = (m3 pre tb.L tc.L ++ m3x ⟨xa, xb, xc⟩ pre2 tc.L ++ m3y ⟨xa, xb, xc⟩ ⟨ya, yb, yc⟩ pre3) := ⟨_, rfl⟩
        rw [← HTL] at m d4
        have HT3 : Hid ((m3 pre tb.L tc.L ++ m3x ⟨xa, xb, xc⟩ pre2 tc.L ++ m3y ⟨xa, xb, xc⟩ ⟨ya, yb, yc⟩ (pre3 ++ [⟨za, zb, zc⟩])) = TL ++ [⟨za, zb, xc, yc, zc⟩]) := by
          rw [m3y_snoc, ← List.append_assoc, ← HTL]
          first | done | rfl
        have HLN : Hid ((m3 pre tb.L tc.L ++ m3x ⟨xa, xb, xc⟩ pre2 tc.L ++ m3y ⟨xa, xb, xc⟩ ⟨ya, yb, yc⟩ (pre3 ++ [⟨za, zb, zc⟩])).length ≤ pre.length * 16777216 + pre2.length * 4096 + (pre3 ++ [(⟨za, zb, zc⟩ : R)]).length) := by
          rw [HT3.out, len_snoc TL, len_snoc pre3, ← Nat.add_assoc]
          exact Nat.succ_le_succ d4
        clear HTL
        have hTL : TL.length ≤ 100000000000 := by omega
        have hRL : (mR TL).length ≤ 200000000000 := Nat.le_trans (mR_len TL) (by omega)
        have hCL : (mC TL).length ≤ 200000000000 := Nat.le_trans (mC_len TL) (by omega)
        have hsW4 : W.heap.size ≤ W4.heap.size := Nat.le_trans hsW3 hBW4.size
        have HMT : ∀ b, b = mtb xc yc zc → Hid (CallsIn Fence.wide 13 Try.prog 45 #[.int .i64 xc, .int .i64 yc, .int .i64 zc] W4 fun e w' => e = .returned (.tuple #[.int .i64 (mt xc yc zc), .bool b]) ∧ Below W4.heap.size W4 w') := fun b hb => by rw [hb]; exact callsIn_wide.2 (mergeTags_any xc yc zc W4)
        have hmc : mC (TL ++ [(⟨za, zb, xc, yc, zc⟩ : M3)]) = if mtb xc yc zc = true then mC TL else joinC (mC TL) ⟨za, zb, yc, zc⟩ := mC_snoc TL _
        obtain ⟨t, ht⟩ : ∃ t, t = mt xc yc zc := ⟨_, rfl⟩
        have hmr : mR (TL ++ [(⟨za, zb, xc, yc, zc⟩ : M3)]) = addR (mR TL) ⟨za, zb, t⟩ := by rw [ht]; exact mR_snoc TL _
        rw [← ht] at HMT
        have HMR := Lib.hid hmr; have HMC := Lib.hid hmc
        have HBW4 := Lib.hid hBW4; have HKF4 := Lib.hid hKF4
        have HM := Lib.hid m
        have x2 := (m.rbs (Bo, ⟨xa, xb, xc⟩) (by simp)).1.cells.2.2
        have y2' := (m.rbs (By, ⟨ya, yb, yc⟩) (by simp)).1.cells.2.2
        have z2 := (m.rbs (Bz, ⟨za, zb, zc⟩) (by simp)).1.cells.2.2
        simp only at x2 y2' z2
        obtain ⟨va, vc, rfl⟩ := own_slice m.two.rv
        obtain ⟨ua, uc, rfl⟩ := own_slice m.two.ru
        clear d1 m hBz hlt3 ht hmr hmc hBW4 hKF4 d4 hl4
        rcases hb : mtb xc yc zc with _ | _
        · have HMTb := HMT _ hb.symm
          have HCE : Hid (mC (TL ++ [(⟨za, zb, xc, yc, zc⟩ : M3)]) = joinC (mC TL) ⟨za, zb, yc, zc⟩) := by rw [HMC.out, hb]; rfl
          clear HMT hb
          gi_wp2_with fail
          refine ⟨trivial, (CallsIn.inRound l3 (CallsIn.inRound l2 (CallsIn.inRound l HMTb.out))).mono ?_⟩
          rintro e w9 ⟨rfl, hb9⟩
          have HM9 := Lib.hid (HM.out.next hb9)
          have HB9 := Lib.hid hb9
          have v0 := HM9.out.two.bv.cell
          obtain ⟨z0, z1, z2'⟩ := (HM9.out.rbs (Bz, ⟨za, zb, zc⟩) (by simp)).1.cells
          simp only at z0 z1 z2'
          have HAR : Hid (CallsIn Fence.wide 13 Try.prog 46 #[.slice va (mR TL).length vc, .agg #[.int .i64 za, .int .i64 zb, .int .i64 t]] w9 fun e w' => ∃ v', e = .returned v' ∧ Hid (JP w9 W.heap.size (.slice va (mR TL).length vc) (addR (mR TL) ⟨za, zb, t⟩) v' w')) := callsIn_wide.2 (addRun_any za zb t HM9.out.two.rv (Nat.le_trans hsW4 hb9.size) hRL)
          clear hb9 x2 y2' z2 z2'
          gi_wp2_with fail
          refine ⟨trivial, (CallsIn.inRound l3 (CallsIn.inRound l2 (CallsIn.inRound l HAR.out))).mono ?_⟩
          rintro e w10 ⟨v', rfl, HJ⟩
          obtain ⟨va', vc', rfl⟩ := own_slice HJ.out.own
          obtain ⟨k1, k2, k3, k4, k5, k6⟩ := HM9.out.run HJ.out
          have hc1 := k1.cell; have hf1 := k1.frozen
          have u0 := k2.bu.cell
          obtain ⟨z0, z1, z2'⟩ := (k4 (Bz, ⟨za, zb, zc⟩) (by simp)).1.cells
          have y2 := (k4 (By, ⟨ya, yb, yc⟩) (by simp)).1.cells.2.2
          simp only at z0 z1 z2' y2
          have HK2 := Lib.hid k2; have HK3 := Lib.hid k3
          have HK4 : Hid (∀ b ∈ [(Bz, (⟨za, zb, zc⟩ : R)), (By, ⟨ya, yb, yc⟩), (Bo, ⟨xa, xb, xc⟩)], Rb (w10.setCell ⟨w1.heap.size, 0, none⟩ (.slice va' (addR (mR TL) ⟨za, zb, t⟩).length vc')) b.1 b.2 ∧ w1.heap.size + 1 < b.1) := fun b hb => ⟨(k4 b hb).1, (HM9.out.rbs b hb).2⟩
          have HAP : Hid (∀ b ∈ [(Bz, (⟨za, zb, zc⟩ : R)), (By, ⟨ya, yb, yc⟩), (Bo, ⟨xa, xb, xc⟩)], (Value.slice va' (addR (mR TL) ⟨za, zb, t⟩).length vc').ownBlock ≠ some b.1) := fun b hb => (k4 b hb).2
          have HK5 := Lib.hid ((HB9.out.mono hsW4).trans k5)
          have HK6 := Lib.hid ((keeps_below HB9.out).trans k6)
          have HAC : Hid (CallsIn Fence.wide 13 Try.prog 47 #[.slice ua (mC TL).length uc, .agg #[.int .i64 za, .int .i64 zb, .int .i64 yc, .int .i64 zc]] (w10.setCell ⟨w1.heap.size, 0, none⟩ (.slice va' (addR (mR TL) ⟨za, zb, t⟩).length vc')) fun e w' => ∃ v', e = .returned v' ∧ Hid (JC (w10.setCell ⟨w1.heap.size, 0, none⟩ (.slice va' (addR (mR TL) ⟨za, zb, t⟩).length vc')) W.heap.size (.slice ua (mC TL).length uc) (joinC (mC TL) ⟨za, zb, yc, zc⟩) v' w')) := callsIn_wide.2 (addChange_any za zb yc zc HK2.out.ru (Nat.le_trans hsW4 HK5.out.size) hCL)
          clear u0 z0 z1 z2' y2 k1 k2 k3 k4 k5 k6
          have u0 := HK2.out.bu.cell
          obtain ⟨z0, z1, z2'⟩ := (HK4.out (Bz, ⟨za, zb, zc⟩) (by simp)).1.cells
          have y2 := (HK4.out (By, ⟨ya, yb, yc⟩) (by simp)).1.cells.2.2
          simp only at z0 z1 z2' y2
          gi_wp2_with fail
          refine ⟨trivial, (CallsIn.inRound l3 (CallsIn.inRound l2 (CallsIn.inRound l HAC.out))).mono ?_⟩
          rintro e w11 ⟨u', rfl, HJC⟩
          obtain ⟨ua', uc', rfl⟩ := own_slice HJC.out.own
          obtain ⟨k1, k2, k3, k4, k5, k6⟩ := Two.last HK2.out HK3.out HK4.out HM9.out.hB HM9.out.hC HJC.out
          have hc2 := k1.cell; have hf2 := k1.frozen
          have hfin : Mst W.heap.size w1.heap.size (w1.heap.size + 1) (some ⟨bp, 0, none⟩) (some ⟨bq, 0, none⟩) (some ⟨br, 0, none⟩) size [(Bz, ⟨za, zb, zc⟩), (By, ⟨ya, yb, yc⟩), (Bo, ⟨xa, xb, xc⟩)] (m3 pre tb.L tc.L ++ m3x ⟨xa, xb, xc⟩ pre2 tc.L ++ m3y ⟨xa, xb, xc⟩ ⟨ya, yb, yc⟩ (pre3 ++ [⟨za, zb, zc⟩])) (.slice va' (addR (mR TL) ⟨za, zb, t⟩).length vc') (.slice ua' (joinC (mC TL) ⟨za, zb, yc, zc⟩).length uc') (w11.setCell ⟨w1.heap.size + 1, 0, none⟩ (.slice ua' (joinC (mC TL) ⟨za, zb, yc, zc⟩).length uc')) :=
            ⟨by rw [HT3.out, HMR.out, HCE.out]; exact k2, k3, fun b hb => ⟨k4 b hb, (HK4.out b hb).2⟩, HAP.out, HM9.out.hB, HM9.out.hC⟩
          have hp := hfin.pop
          have hbl := HK5.out.trans k5
          have hkp := HK6.out.trans k6
          clear hfin k1 k2 k3 k4 k5 k6 u0 z0 z1 z2' y2
          gi_wp2
          exact ⟨hkp.from _, hbl, ⟨⟨_, _, hp⟩, HLN.out⟩, HBW4.out.trans hbl, HKF4.out.trans (hkp.from _)⟩
        · have HMTb := HMT _ hb.symm
          have HCE : Hid (mC (TL ++ [(⟨za, zb, xc, yc, zc⟩ : M3)]) = mC TL) := by rw [HMC.out, hb]; rfl
          clear HMT hb
          gi_wp2_with fail
          refine ⟨trivial, (CallsIn.inRound l3 (CallsIn.inRound l2 (CallsIn.inRound l HMTb.out))).mono ?_⟩
          rintro e w9 ⟨rfl, hb9⟩
          have HM9 := Lib.hid (HM.out.next hb9)
          have HB9 := Lib.hid hb9
          have v0 := HM9.out.two.bv.cell
          obtain ⟨z0, z1, z2'⟩ := (HM9.out.rbs (Bz, ⟨za, zb, zc⟩) (by simp)).1.cells
          simp only at z0 z1 z2'
          have HAR : Hid (CallsIn Fence.wide 13 Try.prog 46 #[.slice va (mR TL).length vc, .agg #[.int .i64 za, .int .i64 zb, .int .i64 t]] w9 fun e w' => ∃ v', e = .returned v' ∧ Hid (JP w9 W.heap.size (.slice va (mR TL).length vc) (addR (mR TL) ⟨za, zb, t⟩) v' w')) := callsIn_wide.2 (addRun_any za zb t HM9.out.two.rv (Nat.le_trans hsW4 hb9.size) hRL)
          clear hb9 x2 y2' z2 z2'
          gi_wp2_with fail
          refine ⟨trivial, (CallsIn.inRound l3 (CallsIn.inRound l2 (CallsIn.inRound l HAR.out))).mono ?_⟩
          rintro e w10 ⟨v', rfl, HJ⟩
          obtain ⟨va', vc', rfl⟩ := own_slice HJ.out.own
          obtain ⟨k1, k2, k3, k4, k5, k6⟩ := HM9.out.run HJ.out
          have hc1 := k1.cell; have hf1 := k1.frozen
          have hfin : Mst W.heap.size w1.heap.size (w1.heap.size + 1) (some ⟨bp, 0, none⟩) (some ⟨bq, 0, none⟩) (some ⟨br, 0, none⟩) size [(Bz, ⟨za, zb, zc⟩), (By, ⟨ya, yb, yc⟩), (Bo, ⟨xa, xb, xc⟩)] (m3 pre tb.L tc.L ++ m3x ⟨xa, xb, xc⟩ pre2 tc.L ++ m3y ⟨xa, xb, xc⟩ ⟨ya, yb, yc⟩ (pre3 ++ [⟨za, zb, zc⟩])) (.slice va' (addR (mR TL) ⟨za, zb, t⟩).length vc') (.slice ua (mC TL).length uc) (w10.setCell ⟨w1.heap.size, 0, none⟩ (.slice va' (addR (mR TL) ⟨za, zb, t⟩).length vc')) :=
            ⟨by rw [HT3.out, HMR.out, HCE.out]; exact k2, k3, fun b hb => ⟨(k4 b hb).1, (HM9.out.rbs b hb).2⟩, fun b hb => (k4 b hb).2, HM9.out.hB, HM9.out.hC⟩
          have hp := hfin.pop
          have hbl := (HB9.out.mono hsW4).trans k5
          have hkp := (keeps_below HB9.out).trans k6
          clear hfin k1 k2 k3 k4 k5 k6 z0 z1 v0
          gi_wp2
          exact ⟨hkp.from _, hbl, ⟨⟨_, _, hp⟩, HLN.out⟩, HBW4.out.trans hbl, HKF4.out.trans (hkp.from _)⟩
      case done3 =>
        rintro ys3 W4 rfl ⟨⟨⟨v, u, d1⟩, d4⟩, hBW4, hKF4⟩
        have hl4 := HLC.out ya yb
        have hT : (m3 pre tb.L tc.L ++ m3x ⟨xa, xb, xc⟩ pre2 tc.L ++ m3y ⟨xa, xb, xc⟩ ⟨ya, yb, yc⟩ (clip ya yb tc.L)) = (m3 pre tb.L tc.L ++ m3x ⟨xa, xb, xc⟩ (pre2 ++ [⟨ya, yb, yc⟩]) tc.L) := by rw [m3x_snoc, List.append_assoc]
        rw [hT] at d1 d4
        have d5 : (m3 pre tb.L tc.L ++ m3x ⟨xa, xb, xc⟩ (pre2 ++ [⟨ya, yb, yc⟩]) tc.L).length ≤ pre.length * 16777216 + (pre2 ++ [(⟨ya, yb, yc⟩ : R)]).length * 4096 := by
          rw [len_snoc pre2, Nat.succ_mul, ← Nat.add_assoc]
          exact Nat.le_trans d4 (Nat.add_le_add_left hl4 _)
        have d6 := d1.pop
        have d7 := HBW.out.trans hBW4
        have d8 := HKF.out.trans hKF4
        have d9 : KeepsFrom w6.heap.size W3 W4 := KeepsFrom.up hKF4 (Nat.le_trans i8 i9)
        clear d1 d4 hT
        gi_wp2
        exact ⟨d9, hBW4, ⟨⟨_, _, d6⟩, d5⟩, d7, d8⟩
      case stop3 =>
        rintro c pre3 W4 _ h
        exact h.elim
    case done2 =>
      rintro ys2 W3 rfl ⟨⟨⟨v, u, c1⟩, c4⟩, hBW, hKF⟩
      have hl3 := HLB.out xa xb
      have hT : (m3 pre tb.L tc.L ++ m3x ⟨xa, xb, xc⟩ (clip xa xb tb.L) tc.L) = m3 (pre ++ [⟨xa, xb, xc⟩]) tb.L tc.L := by rw [m3_snoc]
      rw [hT] at c1 c4
      have c5 : (m3 (pre ++ [⟨xa, xb, xc⟩]) tb.L tc.L).length ≤ (pre ++ [(⟨xa, xb, xc⟩ : R)]).length * 16777216 := by
        rw [len_snoc pre, Nat.succ_mul]
        exact Nat.le_trans c4 (Nat.add_le_add_left (Nat.mul_le_mul_right 4096 hl3) _)
      have c6 := c1.pop
      have c7 := G5.out.trans hBW
      clear c1 c4 hT
      gi_wp2
      exact ⟨hKF, hBW, ⟨⟨_, _, c6⟩, c5⟩, c7⟩
    case stop2 =>
      rintro c pre2 W3 _ h
      exact h.elim
  case done =>
    rintro D ys W2 hD rfl ⟨⟨⟨v, u, g1⟩, g4⟩, g5⟩ hK
    rw [HCL.out] at g1
    obtain ⟨TT, hTT⟩ : ∃ TT, TT = m3 ta.L tb.L tc.L := ⟨_, rfl⟩
    rw [← hTT] at g1 HCAN
    have HTT := Lib.hid hTT
    have hv0 := g1.two.bv.cell; have hu0 := g1.two.bu.cell
    obtain ⟨va, vc, rfl⟩ := own_slice g1.two.rv
    obtain ⟨ua, uc, rfl⟩ := own_slice g1.two.ru
    have HG := Lib.hid g1
    have HK := Lib.hid hK
    have hr3 := g1.maps.m3.mb
    have d0 := hr3.c0; have d1 := hr3.c1; have d2 := hr3.f0; have d3 := hr3.f1
    have hm0 := g1.maps.m0.mb
    have b0 := hm0.c0; have b1 := hm0.c1
    have hDn : W.heap.size + 1 + 1 + 1 < D := by have := HSB.out.size; have := HST4.out.hB; have := HST4.out.two.bv.lt; omega
    have HFIN : Hid (∀ (W4 : World) (x y : Value), Below W2.heap.size W2 W4 → (((W4.setCell ⟨W.heap.size + 1 + 1 + 1, 0, none⟩ x).setCell ⟨W.heap.size + 1 + 1 + 1, 1, none⟩ y).heap[D]? = some (.deferred (some []))) ∧ ∀ o', Below W.heap.size W (((W4.setCell ⟨W.heap.size + 1 + 1 + 1, 0, none⟩ x).setCell ⟨W.heap.size + 1 + 1 + 1, 1, none⟩ y).putObj D o') ∧
        (((W4.setCell ⟨W.heap.size + 1 + 1 + 1, 0, none⟩ x).setCell ⟨W.heap.size + 1 + 1 + 1, 1, none⟩ y).putObj D o').cell? ⟨W.heap.size + 1 + 1 + 1, 0, none⟩ = some x ∧ (((W4.setCell ⟨W.heap.size + 1 + 1 + 1, 0, none⟩ x).setCell ⟨W.heap.size + 1 + 1 + 1, 1, none⟩ y).putObj D o').cell? ⟨W.heap.size + 1 + 1 + 1, 1, none⟩ = some y ∧
        (∀ k, k ≠ W.heap.size + 1 + 1 + 1 → k ≠ D → (((W4.setCell ⟨W.heap.size + 1 + 1 + 1, 0, none⟩ x).setCell ⟨W.heap.size + 1 + 1 + 1, 1, none⟩ y).putObj D o').heap[k]? = W4.heap[k]?)) := fun W4 x y hb4 => by
      obtain ⟨W5, hW5⟩ : ∃ W5, W5 = (W4.setCell ⟨W.heap.size + 1 + 1 + 1, 0, none⟩ x).setCell ⟨W.heap.size + 1 + 1 + 1, 1, none⟩ y := ⟨_, rfl⟩
      have hlt2 := (Array.getElem?_eq_some_iff.1 HK.out).1
      have hk5 : ∀ k, k ≠ W.heap.size + 1 + 1 + 1 → W5.heap[k]? = W4.heap[k]? := fun k hk => by rw [hW5]; exact (Below.heap_setCell _ _ _ k hk).trans (Below.heap_setCell _ _ _ k hk)
      have hD5 : W5.heap[D]? = some (.deferred (some [])) := (hk5 D (by omega)).trans ((hb4.block D hlt2).trans HK.out)
      have hb5 : Below W.heap.size W W5 := by rw [hW5]; exact below_put (g5.trans (hb4.mono g5.size)) (B := W.heap.size + 1 + 1 + 1) (by omega) x y
      have hm5 : Mb (W.heap.size + 1 + 1 + 1) none 0 W4 := hr3.next hb4
      have hq0 : W5.cell? ⟨W.heap.size + 1 + 1 + 1, 0, none⟩ = some x := by rw [hW5]; exact (World.cell?_setCell_other _ _ _ _ (by intro e; cases e)).trans (World.cell?_setCell_same _ _ _ hm5.c0)
      have hq1 : W5.cell? ⟨W.heap.size + 1 + 1 + 1, 1, none⟩ = some y := by rw [hW5]; exact World.cell?_setCell_same _ _ _ ((World.cell?_setCell_other _ _ _ _ (by intro e; cases e)).trans hm5.c1)
      rw [← hW5]
      refine ⟨hD5, fun o' => ⟨hb5.trans (belowK_b (w := W) (Nat.le_refl _) W5 D _ o' (by omega) hD5 rfl rfl), ?_, ?_, fun k h1 h2 => (World.putObj_heap_other h2).trans (hk5 k h1)⟩⟩
      · exact (World.cell?_of_block (w := W5) (World.putObj_heap_other (by show W.heap.size + 1 + 1 + 1 ≠ D; omega))).trans hq0
      · exact (World.cell?_of_block (w := W5) (World.putObj_heap_other (by show W.heap.size + 1 + 1 + 1 ≠ D; omega))).trans hq1
    by_cases hfull : 4096 < (mR TT).length
    · have hgt : ((mR TT).length : Int) > 4096 := by omega
      obtain ⟨hD3, hA3⟩ := HFIN.out W2 (.pointer none) (.int .i64 0) (Below.refl _ _)
      have HU : Hid (Upd o (mg o x y) size 0 none 0 5 W2) := .inr (.inl ⟨rfl, rfl, rfl, rfl, _, HCAN.out, hfull⟩)
      have HD3 := Lib.hid hD3; have HA3 := Lib.hid hA3
      clear g1 g4 hTT hD3 hA3 HFIN
      gi_wp2
      refine ⟨by simp, .inl ⟨_, _, rfl, run_takeDeferred HD3.out, ?_⟩⟩
      have h5 := HA3.out (.deferred none)
      obtain ⟨z1, z2, z3, z4⟩ := h5
      refine ⟨.tuple #[.agg #[.pointer none, .int .i64 0], .slice none 0 0, .int .i64 5], by simp [results, Try.results24, go_sem, z2, z3], none, 0, _, 5, rfl, ?_, .inl ⟨rfl, rfl⟩, z1⟩
      rcases HU.out with h | ⟨q1, q2, q3, q4, q5⟩ | ⟨_, h, _⟩
      · exact absurd rfl h.1
      · exact .inr (.inl ⟨q1, q2, q3, q4, q5⟩)
      · cases h
    · have hgt : ¬ ((mR TT).length : Int) > 4096 := by omega
      have hbd : Bd (mR TT) := ⟨by omega, Gs.Fits.bd HCAN.out.1 HCTX.out⟩
      have HRO : Hid (IsRo W2 (.slice va (mR TT).length vc) (mR TT)) := ro_row g1.two.rv
      have HBU : Hid (∀ W', Below W2.heap.size W2 W' → CallsIn Fence.wide 19 Try.prog 48 #[.slice va (mR TT).length vc] W' fun e w' => ∃ p, e = .returned (.pointer p) ∧ Hid (TrOf (mR TT) w' p) ∧ Below W2.heap.size W2 w') := fun W' h => callsIn_wide.2 ((build_any (mR TT).length (mR TT) va vc W' rfl (by obtain ⟨_, c', e, hc', _⟩ := HRO.out; injection e with _ _ e3; omega) (HRO.out.below h) hbd).mono fun e w' ⟨p, he, ht, hb⟩ => ⟨p, he, ht, h.trans (hb.mono h.size)⟩)
      have HAL2 : Hid (∀ W', Below W2.heap.size W2 W' → W'.cell? ⟨w1.heap.size, 0, none⟩ = some (.slice va (mR TT).length vc) ∧ W'.cell? ⟨w1.heap.size + 1, 0, none⟩ = some (.slice ua (mC TT).length uc) ∧ W'.cell? ⟨W.heap.size, 1, none⟩ = some (.int .i64 size) ∧ Mb (W.heap.size + 1 + 1 + 1) none 0 W') := fun W' h => ⟨(HG.out.two.next h).bv.cell, (HG.out.two.next h).bu.cell, (hm0.next h).c1, hr3.next h⟩
      have hs2 : Below W2.heap.size W2 W2.drew := (Below.refl _ _).drew
      clear g1 g4 hTT hu0 d0 d1 d2 d3 b0 b1
      gi_wp2
      clear hv0
      obtain ⟨t0, t1, t2, t3⟩ := HAL2.out _ hs2
      have t4 := t3.c0; have t5 := t3.c1; have t6 := t3.f0; have t7 := t3.f1
      clear t3
      gi_cut [7, 8] from 80 (fun s7 s8 W1 => s7 = .slice ua (mC TT).length uc ∧ s8 = .int .i64 0 ∧ ∃ p W4, Hid (TrOf (mR TT) W4 p) ∧ Hid (Below W2.heap.size W2 W4) ∧ W1 = (W4.setCell ⟨W.heap.size + 1 + 1 + 1, 0, none⟩ (.pointer p)).setCell ⟨W.heap.size + 1 + 1 + 1, 1, none⟩ (.int .i64 size))
      case first =>
        refine wpIn_mono ?_ (then_false (Q := _))
        gi_region_with (first | (refine ⟨trivial, ?_⟩; with_reducible refine (HBU.out _ ?h).mono ?_; (case h => assumption); rintro e w4 ⟨p, rfl, HT, hb4⟩; obtain ⟨t0, t1, t2, t3⟩ := HAL2.out _ hb4; have t4 := t3.c0; have t5 := t3.c1; have t6 := t3.f0; have t7 := t3.f1) | fail)
        all_goals
          go_simp
          gi_wp2_with fail
          gi_meet
          first | exact ⟨rfl, rfl, p, w4, HT, hb4, rfl⟩ | (case rel => exact ⟨rfl, rfl, p, w4, HT, hb4, rfl⟩)
      case rest =>
        obtain ⟨rfl, rfl, p, W4, HT, HB4, rfl⟩ := hcut
        obtain ⟨hD3, hA3⟩ := HFIN.out W4 (.pointer p) (.int .i64 size) HB4.out
        have HD3 := Lib.hid hD3; have HA3 := Lib.hid hA3
        clear hD3 hA3 HFIN
        gi_wp2
        refine ⟨by simp, .inl ⟨_, _, rfl, run_takeDeferred HD3.out, ?_⟩⟩
        have h5 := HA3.out (.deferred none)
        obtain ⟨z1, z2, z3, z4⟩ := h5
        refine ⟨.tuple #[.agg #[.pointer p, .int .i64 size], .slice ua (mC TT).length uc, .int .i64 0], by simp [results, Try.results24, go_sem, z2, z3], p, size, _, 0, rfl, ?_, .inr ⟨rfl, ?_⟩, z1⟩
        · refine .inr (.inr ⟨rfl, rfl, rfl, ?_⟩)
          obtain ⟨t9, e9, i9⟩ := HT.out
          refine ⟨hs, HCTX.out, t9, ?_, by rw [e9]; exact HCAN.out, by rw [T.sz_eq, e9]; omega⟩
          refine IsT.keep (fun b hb => z4 b (fun e => ?_) fun e => ?_) i9
          · subst e
            rw [(HAL2.out _ HB4.out).2.2.2.c22] at hb
            cases hb
          · subst e
            have h7 : W4.heap[b]? = some (.deferred (some [])) := (HB4.out.block b (Array.getElem?_eq_some_iff.1 HK.out).1).trans HK.out
            simp [World.cell?, h7] at hb
        · rw [← HTT.out]
          refine row_keep HG.out.two.ru fun k hk ek => (z4 k (fun e => ?_) fun e => ?_).trans (HB4.out.block k hk)
          · exact ne_row HG.out.maps.m3 (by decide) HG.out.two.ru (by rw [ek, e])
          · have h8 := own_cells HG.out.two.ru k _ ek (by rw [e]; exact HK.out)
            cases h8
  case stop =>
    rintro D c pre W2 _ _ h _
    exact h.elim
end Go.Proofs.Ytahgfggcpmnnaab
namespace Go.Proofs.Ytahgfggcpmnnaab
open Go Go.RowKit Gs

theorem Mo.runs2 {size : Int} {c : Nat} {f0 f : Int → Int} {l : List Act} (h : Mo size f0 l f) (h0 : ∃ k, Fits f0 0 k size ∧ k.length ≤ c) : ∃ k, Fits f 0 k size ∧ k.length ≤ 2 * l.length + c := by
  induction h with
  | nil => simpa using h0
  | snoc _ h1 ih =>
    obtain ⟨k, hk, hl⟩ := ih
    rw [List.length_append, List.length_singleton]
    rcases h1 with ⟨rfl, he, _⟩ | ⟨rfl, _⟩
    · obtain ⟨k', hk', hl'⟩ := act_runs hk he
      exact ⟨k', hk', by omega⟩
    · exact ⟨k, hk, by omega⟩
/-- a map that further updates have made of one with few runs has few runs -/
theorem Mo.short {size : Int} {c : Nat} {f0 f : Int → Int} {l : List Act} {L0 L : List R} (h : Mo size f0 l f) (h0 : Fits f0 0 L0 size) (hc : L0.length ≤ c) (hL : Gs.Can f 0 L size) : L.length ≤ 2 * l.length + c := by
  obtain ⟨k, a1, a2⟩ := h.runs2 ⟨L0, h0, hc⟩
  exact Nat.le_trans (can_short hL a1) a2
/-- Merge, where there is room -/
theorem Merge_same {o x y : Int → Int} {size : Int} {W : World} {p q r : Option Addr} {La Lx Ly : List R} {N : Nat} (h : IsM o size W p) (h' : IsM x size W q) (h'' : IsM y size W r) (ho : Gs.Can o 0 La size) (hx : Gs.Can x 0 Lx size) (hy : Gs.Can y 0 Ly size) (hroom : La.length + Lx.length + Ly.length ≤ 4096) (hN : N = (mC (m3 La Lx Ly)).length) :
    Calls Try.prog 24 #[.agg #[.pointer p, .int .i64 size], .agg #[.pointer q, .int .i64 size], .agg #[.pointer r, .int .i64 size]] W fun e w' => ∃ mp a c, e = .returned (.tuple #[.agg #[.pointer mp, .int .i64 size], .slice a N c, .int .i64 0]) ∧
      Hid (IsM (mg o x y) size w' mp) ∧ Hid (RowC W.heap.size (.slice a N c) (mC (m3 La Lx Ly)) w') ∧ Below W.heap.size W w' := by
  have hlen := m3_len ho hx hy (B3.of h.ctx h'.ctx h''.ctx)
  have hcan := mR_can (m3_f3 ho hx hy (B3.of h.ctx h'.ctx h''.ctx))
  obtain ⟨La', Lx', Ly', h1, h2, h3, -, -, -, h4⟩ := Merge_any h h' h''
  have e1 := h1.same ho
  have e2 := h2.same hx
  have e3 := h3.same hy
  subst e1; subst e2; subst e3; subst hN
  refine h4.mono ?_
  rintro e w' ⟨mp, ms, u, E, rfl, hU, hC, hB⟩
  rcases hU.out with ⟨h5, _⟩ | ⟨_, _, _, _, L, hL, hl⟩ | ⟨_, rfl, rfl, hm⟩
  · exact absurd rfl h5
  · have := hL.same hcan
    subst this
    have := mR_len (m3 La' Lx' Ly')
    omega
  · rcases hC.out with ⟨h5, _⟩ | ⟨_, hr⟩
    · cases h5
    · have hr2 := hr
      obtain ⟨a, c, rfl⟩ := own_slice hr
      exact ⟨mp, a, c, rfl, hm, hr2, hB⟩
theorem row_cs {base : Nat} {v : Value} {K : List Ch} {W : World} (h : RowC base v K W) : IsCs W v K := IsCs.of_row h
end Go.Proofs.Ytahgfggcpmnnaab
namespace Gs
/-- where the runs end, if they are those of a map -/
def chk : Int → Int → List R → Option Int
  | at', _, [] => some at'
  | at', last, r :: l => if r.lo ≠ at' ∨ r.hi ≤ r.lo ∨ ¬ (0 ≤ r.tag ∧ r.tag < 16) ∨ r.tag = last then none else chk r.hi r.tag l
theorem chk_no {at' last : Int} {r : R} {l : List R} (h : r.lo ≠ at' ∨ r.hi ≤ r.lo ∨ ¬ (0 ≤ r.tag ∧ r.tag < 16) ∨ r.tag = last) : chk at' last (r :: l) = none := by
  show (if _ then _ else _) = _
  rw [if_pos h]
theorem chk_yes {at' last : Int} {r : R} {l : List R} (h : ¬ (r.lo ≠ at' ∨ r.hi ≤ r.lo ∨ ¬ (0 ≤ r.tag ∧ r.tag < 16) ∨ r.tag = last)) : chk at' last (r :: l) = chk r.hi r.tag l := by
  show (if _ then _ else _) = _
  rw [if_neg h]
theorem chk_can : ∀ {l : List R} {at' last b : Int}, chk at' last l = some b → ∃ f : Int → Int, Can f at' l b ∧ (∀ p, at' ≤ p → p < b → 0 ≤ f p ∧ f p < 16) ∧ (∀ y, l.head? = some y → y.tag ≠ last)
  | [], at', last, b, h => by
    have h : some at' = some b := h
    injection h with h
    subst h
    exact ⟨fun _ => 0, Can.nil _ _, fun p h1 h2 => absurd h1 (by omega), fun y hy => by simp at hy⟩
  | r :: l, at', last, b, h => by
    by_cases hc : r.lo ≠ at' ∨ r.hi ≤ r.lo ∨ ¬ (0 ≤ r.tag ∧ r.tag < 16) ∨ r.tag = last
    · rw [chk_no hc] at h
      cases h
    · rw [chk_yes hc] at h
      obtain ⟨f, h1, h2, h3⟩ := chk_can h
      have hle := h1.le
      refine ⟨fun p => if p < r.hi then r.tag else f p, ⟨⟨by omega, by omega, fun p p1 p2 => if_pos p2, ?_⟩, ?_⟩, fun p p1 p2 => ?_, fun y hy => ?_⟩
      · exact h1.1.congr fun p p1 p2 => (if_neg (by omega)).symm
      · exact alt_cons h1.2 fun y hy => (h3 y hy).symm
      · by_cases hp : p < r.hi
        · simp only [hp, if_true]; omega
        · simp only [hp, if_false]; exact h2 p (by omega) p2
      · simp at hy
        subst hy
        omega
end Gs
namespace Go.Proofs.Ytahgfggcpmnnaab
open Go Go.RowKit Gs

theorem IsRo.at' {W : World} {a : Option Addr} {n c : Nat} {L : List R} (h : IsRo W (.slice a n c) L) {j : Nat} (hj : j < L.length) :
    ∃ B o, a = some ⟨B, o, none⟩ ∧ W.cell? ⟨B, o + j * 3, none⟩ = some (.int .i64 L[j].lo) ∧ W.cell? ⟨B, o + j * 3 + 1, none⟩ = some (.int .i64 L[j].hi) ∧ W.cell? ⟨B, o + j * 3 + 2, none⟩ = some (.int .i64 L[j].tag) := by
  obtain ⟨a', c', hv, _, hcs⟩ := h
  injection hv with hv1 hv2 hv3
  subst hv1
  obtain ⟨B, o, e1, -, hcs2⟩ := hcs (by omega)
  exact ⟨B, o, e1, hcs2 j hj⟩
theorem IsRo.len {W : World} {a : Option Addr} {n c : Nat} {l : List R} (h : IsRo W (.slice a n c) l) : n = l.length := by
  obtain ⟨_, _, hv, _⟩ := h
  injection hv
set_option maxRecDepth 100000 in
set_option maxHeartbeats 2000000 in
theorem areRuns_any {size : Int} {W : World} {v : Value} {l : List R} (hl : IsRo W v l) (hn : l.length ≤ 100000) :
    Calls Try.prog 58 #[.int .i64 size, v] W fun e w' => ∃ b, e = .returned (.bool b) ∧ Hid (b = true ↔ chk 0 (-1) l = some size) ∧ Below W.heap.size W w' := by
  have HRO := Lib.hid hl
  obtain ⟨ao, c, rfl, -⟩ := hl
  obtain ⟨n, hnn⟩ : ∃ n, n = l.length := ⟨_, rfl⟩
  have HN := Lib.hid hnn
  rw [← hnn] at hn HRO ⊢
  have HT : Hid (∀ t W', Calls Try.prog 40 #[.int .i64 t] W' fun e w' => e = .returned (.bool (isT t)) ∧ W' = w') := fun t W' => isTag_any t W'
  have HR : Hid (Below W.heap.size W W) := Below.refl _ _
  clear hnn
  go_enter Try.func58, Try.ntmps58
  go_wp2_with fail
  go_loopw [5, 6, 11] (fun s5 s6 s11 wr => ∃ (j : Nat) (at' last : Int), j ≤ n ∧ s11 = .int .i64 j ∧ s5 = .int .i64 at' ∧ s6 = .int .i64 last ∧ Hid (chk 0 (-1) l = chk at' last (l.drop j)) ∧ Hid (Below W.heap.size W wr)) (fun _ _ i _ => n - (intOf i).toNat)
  case atStart => exact ⟨0, 0, -1, by omega, rfl, rfl, rfl, rfl, HR⟩
  case round =>
    obtain ⟨j, at', last, hj, rfl, rfl, rfl, HCK, HB⟩ := hrel
    by_cases hlt : j < n
    · have hj2 : (j : Int) < n := by omega
      have hjl : j < l.length := by have := HN.out; omega
      obtain ⟨B, o, rfl, c0, c1, c2⟩ := (HRO.out.below HB.out).at' hjl
      have HDR : Hid (l.drop j = l[j] :: l.drop (j + 1)) := List.drop_eq_getElem_cons hjl
      generalize l[j] = r at *
      obtain ⟨ra, rb, rc⟩ := r
      simp only at c0 c1 c2
      obtain ⟨w1, HW1⟩ : ∃ w1, w1 = wr.alloc (.cells #[.int .i64 ra, .int .i64 rb, .int .i64 rc] 46) := ⟨_, rfl⟩
      have b1 : Below wr.heap.size wr w1 := by rw [HW1]; exact alloc_below _ _
      have n1 : Bx wr.heap.size [.int .i64 ra, .int .i64 rb, .int .i64 rc] w1 := by rw [HW1]; exact Bx.new wr [.int .i64 ra, .int .i64 rb, .int .i64 rc] 46 (by simp)
      have k0 := (n1.c 0 _ rfl).1; have k1 := (n1.c 1 _ rfl).1; have k2 := (n1.c 2 _ rfl).1
      have HB1 := Lib.hid (HB.out.trans (b1.mono HB.out.size))
      have HW1' := Lib.hid HW1
      have HNO : Hid ((ra ≠ at' ∨ rb ≤ ra ∨ ¬ (0 ≤ rc ∧ rc < 16) ∨ rc = last) → chk 0 (-1) l ≠ some size) := fun h => by
        rw [HCK.out, HDR.out, chk_no h]
        exact fun h => by cases h
      clear HW1 b1 n1
      go_upto_region 5 with fail
      rw [← HW1'.out]
      clear c0 c1 c2 HW1'
      by_cases h1 : ra = at'
      · subst h1
        by_cases h2 : rb ≤ ra
        · have HX := HNO.out (.inr (.inl h2))
          have HXX := Lib.hid HX
          clear HX
          go_wp2_with fail
          go_ret
          first
          | exact ⟨false, rfl, ⟨(fun h => by cases h), fun h => absurd h HXX.out⟩, HB1.out⟩
          | exact .inl ⟨rfl, HXX.out, HB1.out⟩
          | exact ⟨rfl, HXX.out, HB1.out⟩
          | exact .inl ⟨rfl, HB1.out⟩
          | exact .inr ⟨rfl, HB1.out⟩
        · by_cases h3 : isT rc = true
          · have HT1 : Hid (∀ W', Calls Try.prog 40 #[.int .i64 rc] W' fun e w' => e = .returned (.bool true) ∧ W' = w') := fun W' => by
              have := HT.out rc W'
              rwa [h3] at this
            have HTR : Hid (0 ≤ rc ∧ rc < 16) := (show 0 ≤ rc ∧ rc < 16 from of_decide_eq_true h3)
            by_cases h4 : rc = last
            · subst h4
              have HXX := Lib.hid (HNO.out (.inr (.inr (.inr rfl))))
              clear h3
              go_wp2_with fail
              refine (HT1.out _).mono ?_
              rintro e w2 ⟨rfl, rfl⟩
              go_wp2_with fail
              go_ret
              first
              | exact ⟨false, rfl, ⟨(fun h => by cases h), fun h => absurd h HXX.out⟩, HB1.out⟩
              | exact .inl ⟨rfl, HXX.out, HB1.out⟩
              | exact ⟨rfl, HXX.out, HB1.out⟩
              | exact .inl ⟨rfl, HB1.out⟩
              | exact .inr ⟨rfl, HB1.out⟩
            · have HC2 : Hid (chk 0 (-1) l = chk rb rc (l.drop (j + 1))) := by
                show _ = _
                rw [HCK.out, HDR.out]
                have := HTR.out
                exact chk_yes (r := ⟨ra, rb, rc⟩) (by simp; omega)
              have hbe : (rc == last) = false := beq_eq_false_iff_ne.2 h4
              clear h3
              go_wp2_with fail
              refine (HT1.out _).mono ?_
              rintro e w2 ⟨rfl, rfl⟩
              go_wp2_with fail
              go_quiet (fail)
              rename_i nq
              have HBn : Hid (Below W.heap.size W (World.drewN w1 nq)) := below_drewN HB1.out nq
              clear k0 k1 k2
              generalize hw : World.drewN _ nq = w3 at HBn ⊢
              clear hw
              go_wp2_with fail
              go_roundw
              case rel => exact ⟨j + 1, rb, rc, by omega, by go_num, rfl, rfl, HC2.out, HBn.out⟩
              case measure => simp [intOf]; omega
          · have h3 := Bool.eq_false_iff.2 h3
            have HT1 : Hid (∀ W', Calls Try.prog 40 #[.int .i64 rc] W' fun e w' => e = .returned (.bool false) ∧ W' = w') := fun W' => by
              have := HT.out rc W'
              rwa [h3] at this
            have HXX := Lib.hid (HNO.out (.inr (.inr (.inl (of_decide_eq_false h3)))))
            clear h3
            go_wp2_with fail
            refine (HT1.out _).mono ?_
            rintro e w2 ⟨rfl, rfl⟩
            go_wp2_with fail
            go_ret
            first
            | exact ⟨false, rfl, ⟨(fun h => by cases h), fun h => absurd h HXX.out⟩, HB1.out⟩
            | exact .inl ⟨rfl, HXX.out, HB1.out⟩
            | exact ⟨rfl, HXX.out, HB1.out⟩
            | exact .inl ⟨rfl, HB1.out⟩
            | exact .inr ⟨rfl, HB1.out⟩
      · have HXX := Lib.hid (HNO.out (.inl h1))
        have hbe : (ra == at') = false := beq_eq_false_iff_ne.2 h1
        go_wp2_with fail
        go_ret
        first
        | exact ⟨false, rfl, ⟨(fun h => by cases h), fun h => absurd h HXX.out⟩, HB1.out⟩
        | exact .inl ⟨rfl, HXX.out, HB1.out⟩
        | exact ⟨rfl, HXX.out, HB1.out⟩
        | exact .inl ⟨rfl, HB1.out⟩
        | exact .inr ⟨rfl, HB1.out⟩
    · have hj2 : ¬ (j : Int) < n := by omega
      have HF : Hid (chk 0 (-1) l = some at') := by
        have := HCK.out
        rw [List.drop_eq_nil_of_le (by have := HN.out; omega)] at this
        exact this
      by_cases he : at' = size
      · subst he
        go_wp2_with fail
        go_ret
        first
        | exact ⟨true, rfl, ⟨fun _ => HF.out, fun _ => rfl⟩, HB.out⟩
        | exact .inr ⟨rfl, HF.out, HB.out⟩
        | exact ⟨rfl, HF.out, HB.out⟩
        | exact .inl ⟨rfl, HB.out⟩
        | exact .inr ⟨rfl, HB.out⟩
      · have hbe : (at' == size) = false := beq_eq_false_iff_ne.2 he
        have HXX : Hid (chk 0 (-1) l ≠ some size) := by
          show _ ≠ _
          rw [HF.out]
          intro h
          injection h with h
          exact he h
        go_wp2_with fail
        go_ret
        first
        | exact ⟨false, rfl, ⟨(fun h => by cases h), fun h => absurd h HXX.out⟩, HB.out⟩
        | exact .inl ⟨rfl, HXX.out, HB.out⟩
        | exact ⟨rfl, HXX.out, HB.out⟩
        | exact .inl ⟨rfl, HB.out⟩
        | exact .inr ⟨rfl, HB.out⟩
end Go.Proofs.Ytahgfggcpmnnaab
namespace Go.Proofs.Ytahgfggcpmnnaab
open Go Go.RowKit Gs

def good (size : Int) (l : List R) : Prop := 1 ≤ size ∧ size ≤ 1099511627776 ∧ chk 0 (-1) l = some size
/-- what From answers -/
def FromP (size : Int) (l : List R) (q : Option Addr) (s e : Int) (W : World) : Prop :=
  (e = 2 ∧ q = none ∧ s = 0 ∧ ¬ good size l) ∨ (e = 5 ∧ q = none ∧ s = 0 ∧ good size l ∧ 4096 < l.length) ∨ (e = 0 ∧ good size l ∧ l.length ≤ 4096 ∧ s = size ∧ ∃ f, IsM f size W q ∧ Gs.Can f 0 l size)
set_option maxRecDepth 100000 in
set_option maxHeartbeats 4000000 in
theorem From_any {size : Int} {W : World} {v : Value} {l : List R} (hl : IsRo W v l) (hn : l.length ≤ 100000) :
    Calls Try.prog 50 #[.int .i64 size, v] W fun e w' => ∃ q s e2, e = .returned (.tuple #[.agg #[.pointer q, .int .i64 s], .int .i64 e2]) ∧ Hid (FromP size l q s e2 w') ∧ Below W.heap.size W w' := by
  obtain ⟨w0, HW⟩ : ∃ w0, w0 = W.alloc (.cells #[.pointer none, .int .i64 0] 27) := ⟨_, rfl⟩
  have hb : Below W.heap.size W w0 := by rw [HW]; exact alloc_below _ _
  have n1 : Bx W.heap.size [.pointer none, .int .i64 0] w0 := by rw [HW]; exact Bx.new W [.pointer none, .int .i64 0] 27 (by simp)
  have HRO := Lib.hid (hl.below hb)
  have HAR := Lib.hid (areRuns_any (size := size) HRO.out hn)
  obtain ⟨ao, c, rfl, hcap, -⟩ := hl
  obtain ⟨n, hnn⟩ : ∃ n, n = l.length := ⟨_, rfl⟩
  have HN := Lib.hid hnn
  rw [← hnn] at hn HRO HAR hcap ⊢
  have HCAP := Lib.hid hcap
  have H1 := Lib.hid n1; have HB := Lib.hid hb; have HW' := Lib.hid HW
  have HBF : Hid (∀ W' x y, Below W.heap.size W W' → Below W.heap.size W ((W'.setCell ⟨W.heap.size, 0, none⟩ x).setCell ⟨W.heap.size, 1, none⟩ y)) := fun W' x y h => below_put h (Nat.le_refl _) _ _
  have HBAD : Hid (¬ good size l → ∀ W', FromP size l none 0 2 W') := fun h W' => .inl ⟨rfl, rfl, rfl, h⟩
  clear hnn hb HW hcap
  by_cases h1 : size < 1
  · have HX := Lib.hid (HBAD.out (fun h => by have := h.1; omega))
    obtain ⟨x0, x1, x2, x3⟩ := n1.c2
    obtain ⟨u0, u1, -, -⟩ := (n1.two (.pointer none) (.int .i64 0)).c2
    clear n1
    go_enter Try.func50, Try.ntmps50
    go_upto_region 1 with fail
    rw [← HW'.out]
    go_wp2_with fail
    refine bodyPost_ret (v := .tuple #[.agg #[.pointer none, .int .i64 0], .int .i64 2]) (by simp [results, Try.results50, go_sem, u0, u1]) rfl ?_
    first
    | exact ⟨none, 0, 2, rfl, HX.out _, HB.out⟩
    | exact ⟨none, 0, 2, rfl, HX.out _, HBF.out _ _ _ HB.out⟩
  · by_cases h2 : size > 1099511627776
    · have HX := Lib.hid (HBAD.out (fun h => by have := h.2.1; omega))
      obtain ⟨x0, x1, x2, x3⟩ := n1.c2
      obtain ⟨u0, u1, -, -⟩ := (n1.two (.pointer none) (.int .i64 0)).c2
      clear n1
      go_enter Try.func50, Try.ntmps50
      go_upto_region 1 with fail
      rw [← HW'.out]
      go_wp2_with fail
      refine bodyPost_ret (v := .tuple #[.agg #[.pointer none, .int .i64 0], .int .i64 2]) (by simp [results, Try.results50, go_sem, u0, u1]) rfl ?_
      first
      | exact ⟨none, 0, 2, rfl, HX.out _, HB.out⟩
      | exact ⟨none, 0, 2, rfl, HX.out _, HBF.out _ _ _ HB.out⟩
    · have HSZ : Hid (1 ≤ size ∧ size ≤ 1099511627776) := ⟨by omega, by omega⟩
      clear n1
      go_enter Try.func50, Try.ntmps50
      go_upto_region 1 with fail
      rw [← HW'.out]
      go_wp2_with fail
      refine HAR.out.mono ?_
      rintro e w1 ⟨b, rfl, HIF, hb⟩
      have G1 := Lib.hid (H1.out.next hb)
      have HB1 := Lib.hid (HB.out.trans (hb.mono HB.out.size))
      have HRO1 := Lib.hid (HRO.out.below hb)
      clear hb
      obtain ⟨x0, x1, x2, x3⟩ := G1.out.c2
      cases b with
      | false =>
        have HX := Lib.hid (HBAD.out (fun h => by have := HIF.out.2 h.2.2; cases this))
        obtain ⟨u0, u1, -, -⟩ := (G1.out.two (.pointer none) (.int .i64 0)).c2
        go_wp2_with fail
        refine bodyPost_ret (v := .tuple #[.agg #[.pointer none, .int .i64 0], .int .i64 2]) (by simp [results, Try.results50, go_sem, u0, u1]) rfl ?_
        first
        | exact ⟨none, 0, 2, rfl, HX.out _, HB1.out⟩
        | exact ⟨none, 0, 2, rfl, HX.out _, HBF.out _ _ _ HB1.out⟩
      | true =>
        have HG : Hid (good size l) := ⟨HSZ.out.1, HSZ.out.2, HIF.out.1 rfl⟩
        by_cases h3 : 4096 < n
        · have h4 : (n : Int) > 4096 := by omega
          have HX : Hid (∀ W', FromP size l none 0 5 W') := fun W' => .inr (.inl ⟨rfl, rfl, rfl, HG.out, by rw [← HN.out]; exact h3⟩)
          obtain ⟨u0, u1, -, -⟩ := (G1.out.two (.pointer none) (.int .i64 0)).c2
          go_wp2_with fail
          refine bodyPost_ret (v := .tuple #[.agg #[.pointer none, .int .i64 0], .int .i64 5]) (by simp [results, Try.results50, go_sem, u0, u1]) rfl ?_
          first
          | exact ⟨none, 0, 5, rfl, HX.out _, HB1.out⟩
          | exact ⟨none, 0, 5, rfl, HX.out _, HBF.out _ _ _ HB1.out⟩
        · have h4 : ¬ (n : Int) > 4096 := by omega
          obtain ⟨f, hcan, hctx, -⟩ := chk_can HG.out.2.2
          have HCX : Hid (Gs.Can f 0 l size ∧ Ctx f 0 size) := ⟨hcan, Int.le_refl _, HSZ.out.2, hctx⟩
          have HBU := Lib.hid (build_any n l ao c w1 HN.out.symm HCAP.out HRO1.out ⟨by rw [← HN.out]; omega, HCX.out.1.1.bd HCX.out.2⟩)
          clear hcan hctx
          go_wp2_with fail
          refine HBU.out.mono ?_
          rintro e w2 ⟨p, rfl, HT, hb⟩
          have G2 := Lib.hid (G1.out.next hb)
          have HB2 := Lib.hid (HB1.out.trans (hb.mono HB1.out.size))
          clear hb x0 x1 x2 x3
          obtain ⟨x0, x1, x2, x3⟩ := G2.out.c2
          obtain ⟨u0, u1, -, -⟩ := (G2.out.two (.pointer p) (.int .i64 size)).c2
          have HI : Hid (IsM f size w2 p) := by
            obtain ⟨t, t1, t2⟩ := HT.out
            exact ⟨HSZ.out.1, HCX.out.2, t, t2, by rw [t1]; exact HCX.out.1, by rw [T.sz_eq, t1, ← HN.out]; omega⟩
          have HI2 : Hid (IsM f size ((w2.setCell ⟨W.heap.size, 0, none⟩ (.pointer p)).setCell ⟨W.heap.size, 1, none⟩ (.int .i64 size)) p) := ⟨HI.out.lo, HI.out.ctx, (HI.out.tr.set G2.out.c22 _).set (G2.out.put (i := 0) (by simp) (by decide) _).c22 _⟩
          have HX : Hid (FromP size l p size 0 ((w2.setCell ⟨W.heap.size, 0, none⟩ (.pointer p)).setCell ⟨W.heap.size, 1, none⟩ (.int .i64 size))) := .inr (.inr ⟨rfl, HG.out, by rw [← HN.out]; omega, rfl, f, HI2.out, HCX.out.1⟩)
          go_wp2_with fail
          refine bodyPost_ret (v := .tuple #[.agg #[.pointer p, .int .i64 size], .int .i64 0]) (by simp [results, Try.results50, go_sem, u0, u1]) rfl ?_
          exact ⟨p, size, 0, rfl, HX, HBF.out _ _ _ HB2.out⟩
/-- the cells of a list of runs, in a row -/
theorem IsRo.news {W : World} {B o n c : Nat} {l : List R} (h : IsRo W (.slice (some ⟨B, o, none⟩) n c) l) : ∀ j u, (l.flatMap encL)[j]? = some u → W.cell? ((⟨B, o, none⟩ : Addr).add j) = some u := by
  intro j u hj
  have hlt : j < l.length * 3 := by
    rw [← encL_len]
    exact (List.getElem?_eq_some_iff.1 hj).1
  obtain ⟨B', o', e, c0, c1, c2⟩ := h.at' (j := j / 3) (by omega)
  injection e with e
  injection e with e1 e2
  subst e1; subst e2
  obtain ⟨e0, e1, e2⟩ := encL_get l (j / 3) (by omega)
  rw [show (⟨B, o, none⟩ : Addr).add j = ⟨B, o + j, none⟩ by unfold Addr.add; split <;> simp_all]
  have hr : j % 3 = 0 ∨ j % 3 = 1 ∨ j % 3 = 2 := by omega
  rcases hr with hr | hr | hr
  · have ej : j = j / 3 * 3 := by omega
    rw [ej, e0] at hj
    rw [ej]; cases hj; exact c0
  · have ej : j = j / 3 * 3 + 1 := by omega
    rw [ej, e1] at hj
    rw [ej, ← Nat.add_assoc]; cases hj; exact c1
  · have ej : j = j / 3 * 3 + 2 := by omega
    rw [ej, e2] at hj
    rw [ej, ← Nat.add_assoc]; cases hj; exact c2
/-- a copy of a list of runs: an append to an empty list -/
theorem wpList_copyR {w3 : World} {ops : Array Oper} {rest : List Oper} {o : Oper} {a : Go.Act} {Q : Exit → Go.Act → World → Prop} (hgd : o.guard = none) (s x : Operand)
    (ho : o.op = .call { callee := .builtin .append, args := #[s, x], argTypes := #[42, 42] }) {cv : Value} {k : List R} {m : Nat} (hmk : m = k.length)
    (hs : a.eval s = .slice (some ⟨w3.heap.size, 0, none⟩) 0 0) (hx : a.eval x = cv) (hk : IsRo w3 cv k) (hkv : cv = .slice none 0 0 ∨ ∃ a m c, cv = .slice (some a) m c) (hm : m ≤ 100000)
    (h : ∀ a2 c2 w5, w5.ownsRow w3.heap.size 46 3 (.slice a2 m c2) m (k.flatMap encL) → Below w3.heap.size w3 w5 → wpList Try.prog ops Q rest (a.put o.dst (.slice a2 m c2)) w5) : wpList Try.prog ops Q (o :: rest) a (w3.alloc (.cells #[] 46)) := by
  obtain ⟨i0, hi0, hz0, hz1, hz2⟩ := info_parts infoRun
  have hown : (w3.alloc (.cells #[] 46)).ownsRow w3.heap.size 46 3 (.slice (some ⟨w3.heap.size, 0, none⟩) 0 0) 0 [] := World.ownsRow_lit w3 #[] 0 (Nat.le_refl _) (by decide) (by simp)
  have hb := alloc_below w3 (.cells #[] 46)
  rcases hkv with rfl | ⟨a0, m0, c0, rfl⟩
  · have hk0 : m = 0 := hmk.trans hk.len.symm
    subst hk0
    refine wpList_append_nil hgd s x _ ho w3.heap.size _ i0 3 Try.underlying42 hi0 _ 0 [] hs hown hx ?_
    have hk1 : k = [] := List.eq_nil_of_length_eq_zero hmk.symm
    subst hk1
    exact h _ _ _ hown hb
  · have hm0 : m0 = m := hk.len.trans hmk.symm
    subst hm0
    have hnw : ∀ j u, (k.flatMap encL)[j]? = some u → (w3.alloc (.cells #[] 46)).cell? (a0.add j) = some u := by
      by_cases hz : k = []
      · subst hz
        intro j u hj
        simp at hj
      · obtain ⟨B, o', e, _⟩ := hk.at' (j := 0) (List.length_pos_iff.2 hz)
        injection e with e
        subst e
        exact (hk.below hb).news
    refine wpList_append_own_at _ hgd s x _ ho w3.heap.size _ i0 _ 3 24 Try.underlying42 hi0 hz0 hz1 hz2 rfl (by decide) _ 0 [] hs hown a0 m0 c0 (k.flatMap encL) hx (by rw [encL_len, hmk]) hnw (encL_one k) (by rw [Nat.zero_add]; exact Nat.le_trans hm (by decide)) (by omega) hb.size ?_
    intro v' w5 hown' hgrow _ _
    rw [Nat.zero_add, List.nil_append] at hown'
    obtain ⟨a2, c2, rfl⟩ := own_slice hown'
    exact h _ _ _ hown' (hb.grown hgrow hb.size (fun j hj => by cases hj; exact Nat.le_refl _))
/-- what the document's From answers -/
def RFromP (size : Int) (l : List R) (B : Nat) (s : Int) (v : Value) (e : Int) (W : World) : Prop :=
  (e = 2 ∧ s = 0 ∧ v = .slice none 0 0 ∧ ¬ good size l) ∨ (e = 5 ∧ s = 0 ∧ v = .slice none 0 0 ∧ good size l ∧ 4096 < l.length) ∨ (e = 0 ∧ good size l ∧ l.length ≤ 4096 ∧ s = size ∧ IsRs B W v l)
theorem from_dual {size : Int} {l : List R} {B : Nat} {q : Option Addr} {s e s' e' : Int} {v' : Value} {W : World} (h1 : FromP size l q s e W) (h2 : RFromP size l B s' v' e' W) : e = e' ∧ Dual B W q s s' v' := by
  rcases h1 with ⟨rfl, rfl, rfl, h⟩ | ⟨rfl, rfl, rfl, h, h3⟩ | ⟨rfl, h, h3, rfl, f, h4, h5⟩
  · rcases h2 with ⟨rfl, rfl, rfl, _⟩ | ⟨_, _, _, g, _⟩ | ⟨_, g, _⟩
    · exact ⟨rfl, .inl ⟨rfl, rfl, rfl, rfl⟩⟩
    · exact absurd g h
    · exact absurd g h
  · rcases h2 with ⟨_, _, _, g⟩ | ⟨rfl, rfl, rfl, _⟩ | ⟨_, _, g, _⟩
    · exact absurd h g
    · exact ⟨rfl, .inl ⟨rfl, rfl, rfl, rfl⟩⟩
    · omega
  · rcases h2 with ⟨_, _, _, g⟩ | ⟨_, _, _, _, g⟩ | ⟨rfl, _, _, rfl, g⟩
    · exact absurd h g
    · omega
    · exact ⟨rfl, .inr ⟨f, l, h4, h5, g, rfl⟩⟩
theorem RFromP.shape {size : Int} {l : List R} {B : Nat} {s e : Int} {v : Value} {W : World} (h : RFromP size l B s v e W) : ∃ a n c, v = .slice a n c := by
  rcases h with ⟨_, _, h, _⟩ | ⟨_, _, h, _⟩ | ⟨_, _, _, _, ⟨_, _, h, _⟩⟩
  · exact ⟨_, _, _, h⟩
  · exact ⟨_, _, _, h⟩
  · exact ⟨_, _, _, h⟩
theorem RFromP.below {size : Int} {l : List R} {B : Nat} {s e : Int} {v : Value} {W W' : World} (h : RFromP size l B s v e W) (hb : Below W.heap.size W W') : RFromP size l B s v e W' := by
  rcases h with h | h | ⟨h1, h2, h3, h4, h5⟩
  · exact .inl h
  · exact .inr (.inl h)
  · exact .inr (.inr ⟨h1, h2, h3, h4, h5.below hb⟩)
theorem FromP.below {size : Int} {l : List R} {q : Option Addr} {s e : Int} {W W' : World} (h : FromP size l q s e W) (hb : Below W.heap.size W W') : FromP size l q s e W' := by
  rcases h with h | h | ⟨h1, h2, h3, h4, f, h5, h6⟩
  · exact .inl h
  · exact .inr (.inl h)
  · exact .inr (.inr ⟨h1, h2, h3, h4, f, h5.below hb, h6⟩)
end Go.Proofs.Ytahgfggcpmnnaab
namespace Go.Proofs.Ytahgfggcpmnnaab
open Go Go.RowKit Gs

theorem Runs_all {f : Int → Int} {size : Int} {W : World} {p : Option Addr} {L : List R} (h : IsM f size W p) (hL : Gs.Can f 0 L size) :
    Calls Try.prog 17 #[.agg #[.pointer p, .int .i64 size], .int .i64 0, .int .i64 size, .int .i64 1048576] W fun e w' => ∃ a c, e = .returned (.tuple #[.slice a L.length c, .int .i64 0]) ∧ Hid (rowR w' W.heap.size (.slice a L.length c) L) ∧ Below W.heap.size W w' := by
  have hs := h.lo
  obtain ⟨L', h4, h5, h6⟩ := Runs_any (most := 1048576) h (Int.le_refl 0) (by omega) (Int.le_refl size)
  have := Gs.Can.same h4 hL
  subst this
  have hcl := Gs.Can.same (clip_can h4 (Int.le_refl 0) (by omega) (Int.le_refl size)) h4
  have htk : (clip 0 size L').take (1048576 : Int).toNat = L' := by rw [hcl]; exact List.take_of_length_le (Nat.le_trans h5 (by decide))
  rw [htk] at h6
  refine h6.mono ?_
  rintro e w' ⟨v, rfl, hr, hB⟩
  have hr2 := hr.out
  obtain ⟨a, c, rfl⟩ := own_slice hr2
  exact ⟨a, c, rfl, hr2, hB⟩
theorem Diff_row {f g : Int → Int} {size : Int} {W : World} {p q : Option Addr} {La Lb : List R} {N : Nat} (h : IsM f size W p) (h' : IsM g size W q) (ha : Gs.Can f 0 La size) (hb : Gs.Can g 0 Lb size) (hN : N = (diffE La Lb).length) :
    Calls Try.prog 19 #[.agg #[.pointer p, .int .i64 size], .agg #[.pointer q, .int .i64 size]] W fun e w' => ∃ a c, e = .returned (.tuple #[.slice a N c, .int .i64 0]) ∧ Hid (RowC W.heap.size (.slice a N c) (diffE La Lb) w') ∧ Below W.heap.size W w' := by
  obtain ⟨La', Lb', h1, h2, h3⟩ := Diff_any h h'
  have e1 := h1.same ha
  have e2 := h2.same hb
  subst e1; subst e2; subst hN
  refine h3.mono ?_
  rintro e w' ⟨v, rfl, hr, hB⟩
  have hr2 := hr.out
  obtain ⟨a, c, rfl⟩ := own_slice hr2
  exact ⟨a, c, rfl, hr2, hB⟩
/-- a copy of a list of changes: an append to an empty list -/
theorem wpList_copyRow {w3 : World} {ops : Array Oper} {rest : List Oper} {o : Oper} {a : Go.Act} {Q : Exit → Go.Act → World → Prop} (hgd : o.guard = none) (s x : Operand)
    (ho : o.op = .call { callee := .builtin .append, args := #[s, x], argTypes := #[53, 53] }) {b : Nat} {cv : Value} {k : List Ch} {m : Nat} (hmk : m = k.length)
    (hs : a.eval s = .slice (some ⟨w3.heap.size, 0, none⟩) 0 0) (hx : a.eval x = cv) (hk : RowC b cv k w3) (hm : m ≤ 100000)
    (h : ∀ a2 c2 w5, w5.ownsRow w3.heap.size 59 4 (.slice a2 m c2) m (k.flatMap encC) → Below w3.heap.size w3 w5 → wpList Try.prog ops Q rest (a.put o.dst (.slice a2 m c2)) w5) : wpList Try.prog ops Q (o :: rest) a (w3.alloc (.cells #[] 59)) := by
  obtain ⟨i0, hi0, hz0, hz1, hz2⟩ := info_parts infoCh
  have hown : (w3.alloc (.cells #[] 59)).ownsRow w3.heap.size 59 4 (.slice (some ⟨w3.heap.size, 0, none⟩) 0 0) 0 [] := World.ownsRow_lit w3 #[] 0 (Nat.le_refl _) (by decide) (by simp)
  have hb : Below w3.heap.size w3 (w3.alloc (.cells #[] 59)) := (Below.refl _ _).alloc (Nat.le_refl _) _
  have hk2 : RowC b cv k (w3.alloc (.cells #[] 59)) := World.ownsRow.alloc hk _
  have hcs := fun g hg => hk2.cells (g := g) hg
  rcases hk.2 with ⟨rfl, hk0⟩ | ⟨g, cap, cur, rfl, _⟩
  · have : m = 0 := by omega
    subst this
    have hk1 : k = [] := List.eq_nil_of_length_eq_zero hmk.symm
    subst hk1
    refine wpList_append_nil hgd s x _ ho w3.heap.size _ i0 4 Try.underlying53 hi0 _ 0 [] hs hown hx ?_
    exact h _ _ _ hown hb
  · subst hmk
    refine wpList_append_own_at _ hgd s x _ ho w3.heap.size _ i0 _ 4 32 Try.underlying53 hi0 hz0 hz1 hz2 rfl (by decide) _ 0 [] hs hown ⟨g, 0, none⟩ k.length cap (k.flatMap encC) hx (encC_len k) (hcs g rfl) (encC_one k) (by rw [Nat.zero_add]; exact Nat.le_trans hm (by decide)) (by omega) hb.size ?_
    intro v' w5 hown' hgrow _ _
    rw [Nat.zero_add, List.nil_append] at hown'
    obtain ⟨a2, c2, rfl⟩ := own_slice hown'
    exact h _ _ _ hown' (hb.grown hgrow hb.size (fun j hj => by cases hj; exact Nat.le_refl _))
/-- a row of numbers, its block from b on and below hi -/
def MutR (e : TypeId) (sz b hi : Nat) (v : Value) (n : Nat) (W : World) : Prop := ∃ xs, W.ownsRow b e sz v n xs ∧ (∀ u ∈ xs, ∃ i, u = .int .i64 i) ∧ ∀ k, v.ownBlock = some k → k < hi
theorem MutR.keep {e : TypeId} {sz b hi : Nat} {v : Value} {n : Nat} {W W' : World} (h : MutR e sz b hi v n W) (hk : ∀ k, k < W.heap.size → b ≤ k → k < hi → W'.heap[k]? = W.heap[k]?) : MutR e sz b hi v n W' := by
  obtain ⟨xs, h1, h2, h3⟩ := h
  exact ⟨xs, row_keep h1 fun k hlt ek => hk k hlt (own_at h1 k ek) (h3 k ek), h2, h3⟩
theorem MutR.runs {b hi : Nat} {v : Value} {L : List R} {W : World} (h : rowR W b v L) (hh : W.heap.size ≤ hi) : MutR 46 3 b hi v L.length W :=
  ⟨_, h, fun u hu => by
    obtain ⟨r, _, hr⟩ := List.mem_flatMap.1 hu
    simp [encL] at hr
    rcases hr with rfl | rfl | rfl <;> exact ⟨_, rfl⟩, fun k ek => Nat.lt_of_lt_of_le (own_lt h k ek) hh⟩
theorem MutR.changes {b hi : Nat} {v : Value} {K : List Ch} {W : World} (h : RowC b v K W) (hh : W.heap.size ≤ hi) : MutR 59 4 b hi v K.length W :=
  ⟨_, h, fun u hu => by
    obtain ⟨r, _, hr⟩ := List.mem_flatMap.1 hu
    simp [encC] at hr
    rcases hr with rfl | rfl | rfl | rfl <;> exact ⟨_, rfl⟩, fun k ek => Nat.lt_of_lt_of_le (own_lt h k ek) hh⟩
/-- an element's cell: it can be read, and written -/
theorem MutR.at' {e : TypeId} {sz b hi : Nat} {a : Option Addr} {n c : Nat} {W : World} (h : MutR e sz b hi (.slice a n c) n W) {i : Nat} (hi' : i < n * sz) :
    ∃ G x, a = some ⟨G, 0, none⟩ ∧ W.cell? ⟨G, i, none⟩ = some (.int .i64 x) ∧ W.frozen? ⟨G, i, none⟩ = false ∧ b ≤ G ∧ G < hi ∧ ∀ y, MutR e sz b hi (.slice a n c) n (W.setCell ⟨G, i, none⟩ (.int .i64 y)) := by
  obtain ⟨xs, h1, h2, h3⟩ := h
  rcases h1.2 with ⟨e1, h0⟩ | ⟨g, cap, cur, e1, hg, _⟩
  · injection e1 with _ e2
    subst e2
    omega
  · injection e1 with e2 e3 e4
    subst e2
    have hc := h1.cellAt i hi'
    have hl : i < xs.length := by rw [h1.1]; exact hi'
    rw [List.getElem?_eq_getElem hl] at hc
    obtain ⟨x, hx⟩ := h2 xs[i] (List.getElem_mem hl)
    rw [hx] at hc
    refine ⟨g, x, rfl, hc, h1.frozenAt i, hg, h3 g (by simp [Value.ownBlock]), fun y => ⟨xs.set i (.int .i64 y), (h1.stored i _).1, fun u hu => ?_, h3⟩⟩
    rcases List.mem_or_eq_of_mem_set hu with h | h
    · exact h2 u h
    · exact ⟨y, h⟩
/-- the five lists of SpanAlone -/
structure Al (b0 b1 b2 b3 b4 : Nat) (vr vd vc vf vh : Value) (nr nd nc : Nat) (L : List R) (D : List Ch) (W : World) : Prop where
  r : MutR 46 3 b0 b1 vr nr W
  d : MutR 59 4 b1 b2 vd nd W
  c : MutR 59 4 b2 b3 vc nc W
  f : rowR W b3 vf L
  h : RowC b4 vh D W
  le1 : b0 ≤ b1
  le2 : b1 ≤ b2
  le3 : b2 ≤ b3
  le4 : b3 ≤ b4
section
variable {b0 b1 b2 b3 b4 : Nat} {vr vd vc vf vh : Value} {nr nd nc : Nat} {L : List R} {D : List Ch} {W W' : World}
theorem Al.next (h : Al b0 b1 b2 b3 b4 vr vd vc vf vh nr nd nc L D W) (hb : Below W.heap.size W W') : Al b0 b1 b2 b3 b4 vr vd vc vf vh nr nd nc L D W' :=
  ⟨h.r.keep fun k hk _ _ => hb.block k hk, h.d.keep fun k hk _ _ => hb.block k hk, h.c.keep fun k hk _ _ => hb.block k hk, row_keep h.f fun k hk _ => hb.block k hk, row_keep h.h fun k hk _ => hb.block k hk, h.le1, h.le2, h.le3, h.le4⟩
theorem Al.put {G i : Nat} {u : Value} (h : Al b0 b1 b2 b3 b4 vr vd vc vf vh nr nd nc L D W) (hG : G < b3)
    (h0 : MutR 46 3 b0 b1 vr nr (W.setCell ⟨G, i, none⟩ u) ∨ ¬ (b0 ≤ G ∧ G < b1)) (h1 : MutR 59 4 b1 b2 vd nd (W.setCell ⟨G, i, none⟩ u) ∨ ¬ (b1 ≤ G ∧ G < b2)) (h2 : MutR 59 4 b2 b3 vc nc (W.setCell ⟨G, i, none⟩ u) ∨ ¬ (b2 ≤ G ∧ G < b3)) :
    Al b0 b1 b2 b3 b4 vr vd vc vf vh nr nd nc L D (W.setCell ⟨G, i, none⟩ u) := by
  have hk : ∀ k, k ≠ G → (W.setCell ⟨G, i, none⟩ u).heap[k]? = W.heap[k]? := fun k hk => Below.heap_setCell _ _ _ k hk
  refine ⟨?_, ?_, ?_, row_keep h.f fun k _ ek => hk k (fun e => ?_), row_keep h.h fun k _ ek => hk k (fun e => ?_), h.le1, h.le2, h.le3, h.le4⟩
  · rcases h0 with h0 | h0
    · exact h0
    · exact h.r.keep fun k _ k1 k2 => hk k (fun e => h0 ⟨by omega, by omega⟩)
  · rcases h1 with h0 | h0
    · exact h0
    · exact h.d.keep fun k _ k1 k2 => hk k (fun e => h0 ⟨by omega, by omega⟩)
  · rcases h2 with h0 | h0
    · exact h0
    · exact h.c.keep fun k _ k1 k2 => hk k (fun e => h0 ⟨by omega, by omega⟩)
  · have := own_at h.f k ek
    omega
  · have := own_at h.h k ek
    have := h.le4
    omega
end
end Go.Proofs.Ytahgfggcpmnnaab
namespace Go.Proofs.Ytahgfggcpmnnaab
open Go Go.RowKit Gs

set_option maxRecDepth 100000 in
set_option maxHeartbeats 4000000 in
theorem spanAlone_walk (size : Int) (v : Value) (l : List Act) (v2 : Value) (k : List Act) (W : World) (hl : IsAs W v l) (hk : IsAs W v2 k) :
    Calls Try.prog 9 #[.int .i64 size, v, v2] W fun e w' => e = .returned (.bool true) ∧ Below W.heap.size W w' := by
  have HBU := Lib.hid (built_any (size := size) hl)
  have HBU2 := Lib.hid (fun W' (h : Below W.heap.size W W') => built_any (size := size) (W := W') (hk.below h))
  have HAW : Hid (∀ W', Below W.heap.size W W' → Calls Try.prog 11 #[] W' fun e w' => e = .returned (.bool true) ∧ Hid (Below W.heap.size W w')) := fun W' h => (awake_any W').mono fun e w' ⟨he, hB⟩ => ⟨he, h.trans (hB.mono h.size)⟩
  obtain ⟨ao, c, rfl, -⟩ := hl
  obtain ⟨ao2, c2, rfl, -⟩ := hk
  obtain ⟨n, hnn⟩ : ∃ n, n = l.length := ⟨_, rfl⟩
  obtain ⟨n2, hnn2⟩ : ∃ n2, n2 = k.length := ⟨_, rfl⟩
  rw [← hnn] at HBU ⊢
  rw [← hnn2] at HBU2 ⊢
  have HN := Lib.hid hnn; have HN2 := Lib.hid hnn2
  clear hnn hnn2
  go_enter Try.func9, Try.ntmps9
  go_wp2_with fail
  refine HBU.out.mono ?_
  rintro e w1 ⟨p, s, ok, rfl, HOK, -, hb⟩
  have HB1 := Lib.hid hb
  clear hb
  obtain ⟨w2, HW2⟩ : ∃ w2, w2 = w1.alloc (.cells #[.pointer p, .int .i64 s] 27) := ⟨_, rfl⟩
  have b2 : Below w1.heap.size w1 w2 := by rw [HW2]; exact (Below.refl _ _).alloc (Nat.le_refl _) _
  have m2 : Mb w1.heap.size p s w2 := by rw [HW2]; exact Mb.new _ _ _ _
  have HB2 := Lib.hid (HB1.out.trans (b2.mono HB1.out.size))
  have HM2 := Lib.hid m2
  have HS2 := Lib.hid b2
  have HW2' := Lib.hid HW2
  clear HW2 b2 m2
  go_upto_region 2 with fail
  rw [← HW2'.out]
  go_wp2_with fail
  refine (HBU2.out w2 HB2.out).mono ?_
  rintro e w3 ⟨q, s2, ok2, rfl, HOK2, -, hb⟩
  have HS3 := Lib.hid hb
  have HB3 := Lib.hid (HB2.out.trans (hb.mono HB2.out.size))
  have HM3 := Lib.hid (HM2.out.next hb)
  clear hb
  obtain ⟨w4, HW4⟩ : ∃ w4, w4 = w3.alloc (.cells #[.pointer q, .int .i64 s2] 27) := ⟨_, rfl⟩
  have b4 : Below w3.heap.size w3 w4 := by rw [HW4]; exact (Below.refl _ _).alloc (Nat.le_refl _) _
  have m4 : Mb w3.heap.size q s2 w4 := by rw [HW4]; exact Mb.new _ _ _ _
  have HB4 := Lib.hid (HB3.out.trans (b4.mono HB3.out.size))
  have HM4 := Lib.hid (HM3.out.next b4)
  have HN4 := Lib.hid m4
  have HS4 := Lib.hid b4
  have HW4' := Lib.hid HW4
  clear HW4 b4 m4
  go_upto_region 3 with fail
  rw [← HW4'.out]
  cases ok with
  | false =>
    go_wp2_with fail
    refine (HAW.out _ HB4.out).mono ?_
    rintro e w9 ⟨rfl, HF⟩
    go_wp2_with fail
    go_ret
    exact ⟨rfl, HF.out⟩
  | true =>
    cases ok2 with
    | false =>
      go_wp2_with fail
      refine (HAW.out _ HB4.out).mono ?_
      rintro e w9 ⟨rfl, HF⟩
      go_wp2_with fail
      go_ret
      exact ⟨rfl, HF.out⟩
    | true =>
      obtain ⟨hl60, hs1, f, hf, hmo⟩ := HOK.out rfl
      obtain ⟨hk60, hs2, g, hg, hmo2⟩ := HOK2.out rfl
      subst hs1
      subst hs2
      obtain ⟨La, hLa, -⟩ := hf.can
      obtain ⟨Lb, hLb, -⟩ := hg.can
      have hz : ∃ k : List R, Fits (fun _ => (0 : Int)) 0 k s2 ∧ k.length ≤ 1 := ⟨[⟨0, s2, 0⟩], ⟨rfl, by have := hf.lo; show (0 : Int) < s2; omega, fun _ _ _ => rfl, rfl⟩, by simp⟩
      have hcnt2 : La.length ≤ 121 ∧ Lb.length ≤ 121 := by
        obtain ⟨k1, a1, a2⟩ := hmo.runs hz
        obtain ⟨k2, b1, b2⟩ := hmo2.runs hz
        have e1 := can_short hLa a1
        have e2 := can_short hLb b1
        have := HN.out; have := HN2.out
        omega
      have hlen : (diffE La Lb).length ≤ 100000 := Nat.le_trans (diffE_len La Lb) (Nat.le_trans (Nat.mul_le_mul hcnt2.1 hcnt2.2) (by decide))
      have hb3 := B3.of hf.ctx hg.ctx hf.ctx
      have hkl : (mC (m3 La Lb La)).length ≤ 100000 := by
        have e1 := mC_len (m3 La Lb La)
        have e2 := m3_len hLa hLb hLa hb3
        omega
      obtain ⟨D, hD⟩ : ∃ D, D = diffE La Lb := ⟨_, rfl⟩
      obtain ⟨C, hC⟩ : ∃ C, C = mC (m3 La Lb La) := ⟨_, rfl⟩
      obtain ⟨nr, hnr⟩ : ∃ n, n = La.length := ⟨_, rfl⟩
      obtain ⟨nd, hnd⟩ : ∃ n, n = D.length := ⟨_, rfl⟩
      obtain ⟨nc, hnc⟩ : ∃ n, n = C.length := ⟨_, rfl⟩
      have hIP : ∀ W', Below w4.heap.size w4 W' → IsM f s2 W' p := fun W' h => ((((hf.below HS2.out).below HS3.out).below HS4.out).below h)
      have hIQ : ∀ W', Below w4.heap.size w4 W' → IsM g s2 W' q := fun W' h => ((hg.below HS4.out).below h)
      have HALL : Hid (∀ W', Below w4.heap.size w4 W' → W'.cell? ⟨w1.heap.size, 0, none⟩ = some (.pointer p) ∧ W'.cell? ⟨w1.heap.size, 1, none⟩ = some (.int .i64 s2) ∧ W'.cell? ⟨w3.heap.size, 0, none⟩ = some (.pointer q) ∧ W'.cell? ⟨w3.heap.size, 1, none⟩ = some (.int .i64 s2)) := fun W' h => ⟨(HM4.out.next h).c0, (HM4.out.next h).c1, (HN4.out.next h).c0, (HN4.out.next h).c1⟩
      have HRU : Hid (∀ W', Below w4.heap.size w4 W' → Calls Try.prog 17 #[.agg #[.pointer p, .int .i64 s2], .int .i64 0, .int .i64 s2, .int .i64 1048576] W' fun e w' => ∃ a c, e = .returned (.tuple #[.slice a nr c, .int .i64 0]) ∧ Hid (rowR w' W'.heap.size (.slice a nr c) La) ∧ Below W'.heap.size W' w') := fun W' h => by rw [hnr]; exact Runs_all (hIP W' h) hLa
      have HDI : Hid (∀ W', Below w4.heap.size w4 W' → Calls Try.prog 19 #[.agg #[.pointer p, .int .i64 s2], .agg #[.pointer q, .int .i64 s2]] W' fun e w' => ∃ a c, e = .returned (.tuple #[.slice a nd c, .int .i64 0]) ∧ Hid (RowC W'.heap.size (.slice a nd c) D w') ∧ Below W'.heap.size W' w') := fun W' h => by rw [hD] at hnd ⊢; exact Diff_row (hIP W' h) (hIQ W' h) hLa hLb hnd
      have HMG : Hid (∀ W', Below w4.heap.size w4 W' → Calls Try.prog 24 #[.agg #[.pointer p, .int .i64 s2], .agg #[.pointer q, .int .i64 s2], .agg #[.pointer p, .int .i64 s2]] W' fun e w' => ∃ mp a c, e = .returned (.tuple #[.agg #[.pointer mp, .int .i64 s2], .slice a nc c, .int .i64 0]) ∧ Hid (RowC W'.heap.size (.slice a nc c) C w') ∧ Below W'.heap.size W' w') := fun W' h => by
        rw [hC] at hnc ⊢
        exact (Merge_same (hIP W' h) (hIQ W' h) (hIP W' h) hLa hLb hLa (by omega) hnc).mono fun e w' ⟨mp, a, c, he, _, h2, h3⟩ => ⟨mp, a, c, he, h2, h3⟩
      have HNR := Lib.hid hnr; have HND := Lib.hid hnd; have HNC := Lib.hid hnc
      have HB100 : Hid (nr ≤ 100000 ∧ nd ≤ 100000 ∧ nc ≤ 100000) := ⟨by omega, by rw [hnd, hD]; exact hlen, by rw [hnc, hC]; exact hkl⟩
      have HAW4 : Hid (∀ W', Below w4.heap.size w4 W' → Calls Try.prog 11 #[] W' fun e w' => e = .returned (.bool true) ∧ Hid (Below W.heap.size W w')) := fun W' h => HAW.out W' (HB4.out.trans (h.mono HB4.out.size))
      clear hl60 hk60 hf hg hmo hmo2 hLa hLb hz hcnt2 hlen hb3 hkl hD hC hnr hnd hnc hIP hIQ HOK HOK2 HM2 HM3 HM4 HN4 HB1 HB2 HB3 HS2 HS3 HS4 HW2' HW4' HBU HBU2
      have HR4 : Hid (Below w4.heap.size w4 w4) := Below.refl _ _
      obtain ⟨k0, k1, k2, k3⟩ := HALL.out w4 HR4.out
      go_wp2_with fail
      refine (HRU.out w4 HR4.out).mono ?_
      rintro e w5 ⟨ra, rc, rfl, HRW5, hb⟩
      have HR5 := Lib.hid hb
      clear hb k0 k1 k2 k3
      obtain ⟨k0, k1, k2, k3⟩ := HALL.out w5 HR5.out
      go_wp2_with fail
      refine (HDI.out w5 HR5.out).mono ?_
      rintro e w6 ⟨da, dc, rfl, HDW6, hb⟩
      have HB56 := Lib.hid hb
      have HR6 := Lib.hid (HR5.out.trans (hb.mono HR5.out.size))
      clear hb k0 k1 k2 k3
      obtain ⟨k0, k1, k2, k3⟩ := HALL.out w6 HR6.out
      go_wp2_with fail
      refine (HMG.out w6 HR6.out).mono ?_
      rintro e w7 ⟨mp, ca, cc, rfl, HCW7, hb⟩
      have HB67 := Lib.hid hb
      clear hb k0 k1 k2 k3
      obtain ⟨w8, HW8⟩ : ∃ w8, w8 = w7.alloc (.cells #[.pointer mp, .int .i64 s2] 27) := ⟨_, rfl⟩
      have b78 : Below w7.heap.size w7 w8 := by rw [HW8]; exact (Below.refl _ _).alloc (Nat.le_refl _) _
      have HB68 := Lib.hid (HB67.out.trans (b78.mono HB67.out.size))
      have HB58 := Lib.hid (HB56.out.trans (HB68.out.mono HB56.out.size))
      have HR8 := Lib.hid (HR6.out.trans (HB68.out.mono HR6.out.size))
      have HCW8 : Hid (RowC w6.heap.size (.slice ca nc cc) C w8) := HCW7.out.next b78
      have HRW8 : Hid (rowR w8 w4.heap.size (.slice ra nr rc) La) := row_keep HRW5.out fun k hk _ => HB58.out.block k hk
      have HDW8 : Hid (RowC w5.heap.size (.slice da nd dc) D w8) := HDW6.out.next HB68.out
      have HRO8 : Hid (IsRo w8 (.slice ra nr rc) La) := ro_row HRW8.out
      have HLR : Hid (∀ k, (Value.slice ra nr rc).ownBlock = some k → k < w5.heap.size) := own_lt HRW5.out
      have HLD : Hid (∀ k, (Value.slice da nd dc).ownBlock = some k → k < w6.heap.size) := own_lt HDW6.out
      have HLC : Hid (∀ k, (Value.slice ca nc cc).ownBlock = some k → k < w8.heap.size) := own_lt HCW8.out
      have HKV : Hid ((Value.slice ra nr rc) = .slice none 0 0 ∨ ∃ a m c, (Value.slice ra nr rc) = .slice (some a) m c) := by
        rcases HRW8.out.2 with ⟨h, _⟩ | ⟨g, cap, cur, h, _⟩
        · exact .inl h
        · exact .inr ⟨_, _, _, h⟩
      have HW8' := Lib.hid HW8
      clear HW8 b78 HRW5 HDW6 HCW7
      go_upto_region 8 with fail
      rw [← HW8'.out]
      clear HW8'
      go_wp2_with (first | (at_builtin; refine wpList_copyR (w3 := w8) (cv := .slice ra nr rc) ?g1 (.tmp 66) (.tmp 67) ?g2 HNR.out ?g3 ?g4 HRO8.out HKV.out HB100.out.1 ?_; (case g1 => rfl); (case g2 => rfl); (case g3 => rfl); (case g4 => rfl); intro fa fc w9 hown9 hb9; have HDW9 : Hid (RowC w5.heap.size (.slice da nd dc) D w9) := HDW8.out.next hb9) | (at_builtin; refine wpList_copyRow (cv := .slice da nd dc) ?g1 (.tmp 69) (.tmp 70) ?g2 HND.out ?g3 ?g4 HDW9.out HB100.out.2.1 ?_; (case g1 => rfl); (case g2 => rfl); (case g3 => rfl); (case g4 => rfl); intro ha hc w10 hown10 hb10) | fail)
      have HF9 : Hid (rowR w9 w8.heap.size (.slice fa nr fc) La) := by show World.ownsRow _ _ _ _ _ _ _; rw [← HNR.out]; exact hown9
      have HB89 := Lib.hid hb9
      have HH10 : Hid (RowC w9.heap.size (.slice ha nd hc) D w10) := by show World.ownsRow _ _ _ _ _ _ _; rw [← HND.out]; exact hown10
      have HB9A := Lib.hid hb10
      have HB8A := Lib.hid (HB89.out.trans (hb10.mono HB89.out.size))
      have HR10 := Lib.hid (HR8.out.trans (HB8A.out.mono HR8.out.size))
      have HA0 : Hid (Al w4.heap.size w5.heap.size w6.heap.size w8.heap.size w9.heap.size (.slice ra nr rc) (.slice da nd dc) (.slice ca nc cc) (.slice fa nr fc) (.slice ha nd hc) nr nd nc La D w10) := by
        have l1 := HR5.out.size; have l2 := HB56.out.size; have l3 := HB68.out.size; have l4 := HB89.out.size
        have r1 : rowR w10 w4.heap.size (.slice ra nr rc) La := row_keep HRW8.out fun k hk _ => HB8A.out.block k hk
        have r2 : RowC w5.heap.size (.slice da nd dc) D w10 := HDW8.out.next HB8A.out
        have r3 : RowC w6.heap.size (.slice ca nc cc) C w10 := HCW8.out.next HB8A.out
        have r4 : rowR w10 w8.heap.size (.slice fa nr fc) La := row_keep HF9.out fun k hk _ => HB9A.out.block k hk
        refine ⟨?_, ?_, ?_, r4, HH10.out, l1, l2, l3, l4⟩
        · obtain ⟨xs, x1, x2, _⟩ := MutR.runs r1 (Nat.le_refl _)
          rw [← HNR.out] at x1
          exact ⟨xs, x1, x2, HLR.out⟩
        · obtain ⟨xs, x1, x2, _⟩ := MutR.changes r2 (Nat.le_refl _)
          rw [← HND.out] at x1
          exact ⟨xs, x1, x2, HLD.out⟩
        · obtain ⟨xs, x1, x2, _⟩ := MutR.changes r3 (Nat.le_refl _)
          rw [← HNC.out] at x1
          exact ⟨xs, x1, x2, HLC.out⟩
      clear hown10 hb10 HF9 HDW9 HH10 HRW8 HDW8 HCW8 HRO8 HKV HLR HLD HLC HB89 HB9A HB8A HB58 HB68 HB67 HB56 HR8 HR6 hb9 hown9
      go_loopw [20] (fun i wr => ∃ j : Nat, j ≤ nr ∧ i = .int .i64 j ∧ Hid (Al w4.heap.size w5.heap.size w6.heap.size w8.heap.size w9.heap.size (.slice ra nr rc) (.slice da nd dc) (.slice ca nc cc) (.slice fa nr fc) (.slice ha nd hc) nr nd nc La D wr) ∧ Hid (Below w4.heap.size w4 wr)) (fun i _ => nr - (intOf i).toNat)
      case atStart => exact ⟨0, by omega, rfl, HA0, HR10⟩
      case round =>
        obtain ⟨j, hj, rfl, HA1, HRr1⟩ := hrel
        by_cases hlt : j < nr
        · have hj2 : (j : Int) < nr := by omega
          have hn9 := HB100.out
          obtain ⟨G, x, e1, h2, h3, h4, h5, h6⟩ := HA1.out.r.at' (i := j * 3 + 1) (by omega)
          have l1 := HA1.out.le1; have l2 := HA1.out.le2; have l3 := HA1.out.le3
          have hgw : w4.heap.size ≤ G := by omega
          have HPUT : Hid (∀ y, Al w4.heap.size w5.heap.size w6.heap.size w8.heap.size w9.heap.size (.slice ra nr rc) (.slice da nd dc) (.slice ca nc cc) (.slice fa nr fc) (.slice ha nd hc) nr nd nc La D (wr.setCell ⟨G, j * 3 + 1, none⟩ (.int .i64 y)) ∧ Below w4.heap.size w4 (wr.setCell ⟨G, j * 3 + 1, none⟩ (.int .i64 y))) := fun y => ⟨HA1.out.put (by omega) (.inl (h6 _)) (.inr (by omega)) (.inr (by omega)), HRr1.out.setCell (p := ⟨G, j * 3 + 1, none⟩) hgw _⟩
          clear h6 hgw l1 l2 l3 h4 h5
          subst e1
          go_wp2_with fail
          go_roundw
          case rel => exact ⟨j + 1, by omega, by go_num, (HPUT.out _).1, (HPUT.out _).2⟩
          case measure => simp [intOf]; omega
        · have hlt' : ¬ ((j : Int) < nr) := by omega
          generalize wr = wr1 at *
          clear hlt hj
          go_wp2_with fail
          go_loopw [21] (fun i wr => ∃ j : Nat, j ≤ nd ∧ i = .int .i64 j ∧ Hid (Al w4.heap.size w5.heap.size w6.heap.size w8.heap.size w9.heap.size (.slice ra nr rc) (.slice da nd dc) (.slice ca nc cc) (.slice fa nr fc) (.slice ha nd hc) nr nd nc La D wr) ∧ Hid (Below w4.heap.size w4 wr)) (fun i _ => nd - (intOf i).toNat)
          case atStart => exact ⟨0, by omega, rfl, HA1, HRr1⟩
          case round =>
            obtain ⟨j, hj, rfl, HA2, HRr2⟩ := hrel
            by_cases hlt : j < nd
            · have hj2 : (j : Int) < nd := by omega
              have hn9 := HB100.out
              obtain ⟨G, x, e1, h2, h3, h4, h5, h6⟩ := HA2.out.d.at' (i := j * 4 + 3) (by omega)
              have l1 := HA2.out.le1; have l2 := HA2.out.le2; have l3 := HA2.out.le3
              have hgw : w4.heap.size ≤ G := by omega
              have HPUT : Hid (∀ y, Al w4.heap.size w5.heap.size w6.heap.size w8.heap.size w9.heap.size (.slice ra nr rc) (.slice da nd dc) (.slice ca nc cc) (.slice fa nr fc) (.slice ha nd hc) nr nd nc La D (wr.setCell ⟨G, j * 4 + 3, none⟩ (.int .i64 y)) ∧ Below w4.heap.size w4 (wr.setCell ⟨G, j * 4 + 3, none⟩ (.int .i64 y))) := fun y => ⟨HA2.out.put (by omega) (.inr (by omega)) (.inl (h6 _)) (.inr (by omega)), HRr2.out.setCell (p := ⟨G, j * 4 + 3, none⟩) hgw _⟩
              clear h6 hgw l1 l2 l3 h4 h5
              subst e1
              go_wp2_with fail
              go_roundw
              case rel => exact ⟨j + 1, by omega, by go_num, (HPUT.out _).1, (HPUT.out _).2⟩
              case measure => simp [intOf]; omega
            · have hlt' : ¬ ((j : Int) < nd) := by omega
              generalize wr = wr2 at *
              clear hlt hj
              go_wp2_with fail
              go_loopw [22] (fun i wr => ∃ j : Nat, j ≤ nc ∧ i = .int .i64 j ∧ Hid (Al w4.heap.size w5.heap.size w6.heap.size w8.heap.size w9.heap.size (.slice ra nr rc) (.slice da nd dc) (.slice ca nc cc) (.slice fa nr fc) (.slice ha nd hc) nr nd nc La D wr) ∧ Hid (Below w4.heap.size w4 wr)) (fun i _ => nc - (intOf i).toNat)
              case atStart => exact ⟨0, by omega, rfl, HA2, HRr2⟩
              case round =>
                obtain ⟨j, hj, rfl, HA3, HRr3⟩ := hrel
                by_cases hlt : j < nc
                · have hj2 : (j : Int) < nc := by omega
                  have hn9 := HB100.out
                  obtain ⟨G, x, e1, h2, h3, h4, h5, h6⟩ := HA3.out.c.at' (i := j * 4 + 2) (by omega)
                  have l1 := HA3.out.le1; have l2 := HA3.out.le2; have l3 := HA3.out.le3
                  have hgw : w4.heap.size ≤ G := by omega
                  have HPUT : Hid (∀ y, Al w4.heap.size w5.heap.size w6.heap.size w8.heap.size w9.heap.size (.slice ra nr rc) (.slice da nd dc) (.slice ca nc cc) (.slice fa nr fc) (.slice ha nd hc) nr nd nc La D (wr.setCell ⟨G, j * 4 + 2, none⟩ (.int .i64 y)) ∧ Below w4.heap.size w4 (wr.setCell ⟨G, j * 4 + 2, none⟩ (.int .i64 y))) := fun y => ⟨HA3.out.put (by omega) (.inr (by omega)) (.inr (by omega)) (.inl (h6 _)), HRr3.out.setCell (p := ⟨G, j * 4 + 2, none⟩) hgw _⟩
                  clear h6 hgw l1 l2 l3 h4 h5
                  subst e1
                  go_wp2_with fail
                  go_roundw
                  case rel => exact ⟨j + 1, by omega, by go_num, (HPUT.out _).1, (HPUT.out _).2⟩
                  case measure => simp [intOf]; omega
                · have hlt' : ¬ ((j : Int) < nc) := by omega
                  generalize wr = wr3 at *
                  clear hlt hj
                  obtain ⟨k0, k1, k2, k3⟩ := HALL.out wr3 HRr3.out
                  go_wp2_with fail
                  refine (HRU.out wr3 HRr3.out).mono ?_
                  rintro e w11 ⟨sa, sc, rfl, HS11, hb⟩
                  have HR11 := Lib.hid (HRr3.out.trans (hb.mono HRr3.out.size))
                  have HA11 := Lib.hid (HA3.out.next hb)
                  clear hb k0 k1 k2 k3
                  obtain ⟨k0, k1, k2, k3⟩ := HALL.out w11 HR11.out
                  go_wp2_with fail
                  refine (HDI.out w11 HR11.out).mono ?_
                  rintro e w12 ⟨ta, tc, rfl, HT12, hb⟩
                  have HR12 := Lib.hid (HR11.out.trans (hb.mono HR11.out.size))
                  have HA12 := Lib.hid (HA11.out.next hb)
                  have HS12 : Hid (IsRs 0 w12 (.slice sa nr sc) La) := ((IsRs.of_row HS11.out).mono (Nat.zero_le _)).below hb
                  have HF12 : Hid (IsRs 0 w12 (.slice fa nr fc) La) := (IsRs.of_row HA12.out.f).mono (Nat.zero_le _)
                  clear hb k0 k1 k2 k3
                  have HLK : Hid (La.length ≤ 100000 ∧ D.length ≤ 100000) := ⟨by rw [← HNR.out]; exact HB100.out.1, by rw [← HND.out]; exact HB100.out.2.1⟩
                  have HAK := Lib.hid (RAlike_same HF12.out HS12.out HLK.out.1)
                  go_wp2_with fail
                  refine HAK.out.mono ?_
                  rintro e w13 ⟨rfl, hb⟩
                  have HR13 := Lib.hid (HR12.out.trans (hb.out.mono HR12.out.size))
                  have HCK := Lib.hid (RChanged_same ((row_cs HA12.out.h).below hb.out) ((row_cs HT12.out).below hb.out) HLK.out.2)
                  clear hb
                  go_wp2_with fail
                  refine HCK.out.mono ?_
                  rintro e w14 ⟨rfl, hb⟩
                  have HR14 := Lib.hid (HR13.out.trans (hb.out.mono HR13.out.size))
                  clear hb
                  go_wp2_with fail
                  refine (HAW4.out w14 HR14.out).mono ?_
                  rintro e w15 ⟨rfl, HF⟩
                  go_wp2_with fail
                  go_ret
                  exact ⟨rfl, HF.out⟩
end Go.Proofs.Ytahgfggcpmnnaab
namespace Go.Proofs.Ytahgfggcpmnnaab
open Go Go.ChangeShapes Go.WideShapes Go.ChangeAt Go.RowKit Gs
set_option linter.unusedVariables false

set_option maxRecDepth 100000 in
theorem spanAlone_lifted (os : Os) (started : os.Started) (H : Type) (enc : TypeId × Value → H) :
    ReturnsInHanded {} Try.checked os 9 .any (Rows.spanAloneSpec.pre6 enc Try.prog Try.f9 Rows.spanAloneRow.domain false) (Rows.spanAloneSpec.post enc Try.prog Try.f9 false true false false) := by
  refine returnsInHanded_of_change (C := Try.checked) own started (by kernel_rfl) Try.func9
    (ChangeSpec.witness6 (enc := enc) (C := Try.checked) false ⟨#[], #[.int .i64 0, .slice none 0 0, .slice none 0 0], []⟩ 8 (by kernel_rfl) (by kernel_rfl) (by kernel_rfl) (by kernel_rfl)) ?_
  intro W base args ds gs before hval0 hW hcnd _
  have hval : ∀ (j : Nat) t v, Try.f9.params[j]? = some t → args[j]? = some v → Value.okWide Try.prog W .any base t v := hval0
  have hW' := hW
  obtain ⟨p, q, hA0, hV, rfl, hfz, hnd⟩ := hW
  have hA : DataW.TrodAll enc Try.prog W 0 (fun _ => true) true Try.f9.params.toList args.toList ds p := hA0
  rw [Try.params9] at hA hval
  obtain ⟨v0, vs0, d0, ds0, p0, q0, hargs, rfl, rfl, h0, r0⟩ := trodAll_cons hA
  obtain ⟨v1, vs1, d1, ds1, p1, q1, rfl, rfl, rfl, h1, r1⟩ := trodAll_cons r0
  obtain ⟨v2, vs2, d2, ds2, p2, q2, rfl, rfl, rfl, h2, r2⟩ := trodAll_cons r1
  obtain ⟨rfl, rfl, rfl⟩ := trodAll_nil r2
  obtain rfl : args = #[v0, v1, v2] := by cases args; simp_all
  obtain ⟨rfl, rfl⟩ := trodVars_none hV
  have k0 := h0
  have lt0 : ∀ x ∈ p0, x.block < W.heap.size := by obtain ⟨m, hm⟩ := k0; exact DataW.trod_lt m _ _ _ hm
  obtain ⟨i0, rfl, rfl, rfl, w0⟩ := open_int Try.underlying3 (hval 0 3 v0 rfl rfl) h0
  have k1 := h1
  have lt1 : ∀ x ∈ p1, x.block < W.heap.size := by obtain ⟨m, hm⟩ := k1; exact DataW.trod_lt m _ _ _ hm
  obtain ⟨l1, hl1⟩ := acts_of h1 (okWide_slice Try.underlying22 (hval 1 22 v1 rfl rfl))
  have k2 := h2
  have lt2 : ∀ x ∈ p2, x.block < W.heap.size := by obtain ⟨m, hm⟩ := k2; exact DataW.trod_lt m _ _ _ hm
  obtain ⟨l2, hl2⟩ := acts_of h2 (okWide_slice Try.underlying22 (hval 2 22 v2 rfl rfl))
  clear hA0 hval0
  refine (spanAlone_walk i0 _ l1 _ l2 W hl1 hl2).mono fun e W' ⟨he, bel⟩ => ?_
  subst he
  exact ⟨_, rfl, _, _, _, [], _, [], hW', trodAll_mk1 (shut_bool Try.underlying4 _), (trodAll_cons_mk (shut_int Try.underlying3 w0) (trodAll_cons_mk (Below.trod laidOut' (by kernel_rfl) (of_decide_eq_true (by kernel_rfl)) k1 bel lt1) (trodAll_cons_mk (Below.trod laidOut' (by kernel_rfl) (of_decide_eq_true (by kernel_rfl)) k2 bel lt2) trodAll_mk0))), rfl, bel.frame _, fun h => by cases h⟩
theorem spanAlone_holds : Rows.SpanAloneSaid :=
  OpenClaim.holds_of_wide 9 Try.f9 rfl rfl rfl rfl rfl rfl rfl ⟨rfl, rfl, rfl, rfl, rfl⟩ rfl rfl rfl rfl rfl (by kernel_rfl) Try.func9 (by kernel_rfl)
    (of_decide_eq_true (by kernel_rfl)) (by unfold Func.isWrapper; first | (rw [if_pos (by decide +kernel)]; kernel_rfl) | (rw [if_neg (by decide +kernel)]; exact ⟨rfl, rfl⟩))
    (fun os started H enc _ => spanAlone_lifted os started H enc)
#print axioms spanAlone_holds
end Go.Proofs.Ytahgfggcpmnnaab
