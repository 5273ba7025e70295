/- WHAT IS PROVED: for any size, any list of updates and any two updates: SpanDisjoint returns true, and its arguments read as before. Conditions: none but the row's own. -/
import Derived.Test.YtahgfggcpmnnaabTKpp2
import Derived.Test.YtahgfggcpmnnaabZs
import Derived.RegionTactic
import Derived.Test.YtahgfggcpmnnaabTKpp1
import Derived.ShutString
import Derived.ChangeOld
import Derived.Below
namespace Go.Proofs.Ytahgfggcpmnnaab
open Go Go.RowKit Go.Shelf Gs

attribute [local go_sem] Oper.semAt_some

theorem IsT.keep {W W' : World} (hk : ∀ b, (W.cell? ⟨b, 22, none⟩).isSome = true → W'.heap[b]? = W.heap[b]?) : ∀ {t : T} {v : Value}, IsT W t v → IsT W' t v
  | .nil, _, h => h
  | .node _ _ _, _, ⟨b, x, y, hv, hr, hl, hr2⟩ => ⟨b, x, y, hv, hr.of_block (hk b (by rw [hr.cell (i := 22) (by decide)]; rfl)), IsT.keep hk hl, IsT.keep hk hr2⟩
theorem then_false {K : Go.Act → World → Prop} {Q : Exit → Go.Act → World → Prop} : ∀ e a w, Exit.then K (fun _ _ _ => False) e a w → Exit.then K Q e a w := by
  intro e a w h
  cases e <;> first | exact h | exact False.elim h
theorem ro_row {W : World} {base : Nat} {v : Value} {l : List R} (h : rowR W base v l) : IsRo W v l := by
  have hcs := fun g hg => h.cells (g := g) hg
  rcases h.2 with ⟨rfl, h0⟩ | ⟨g, cap, cur, rfl, _, hgb, hcap, _⟩
  · exact ⟨none, 0, by rw [h0], by omega, fun hp => by omega⟩
  · refine ⟨some ⟨g, 0, none⟩, cap, rfl, by omega, fun hp => ⟨g, 0, rfl, (Array.getElem?_eq_some_iff.1 hgb).1, fun j hj => ?_⟩⟩
    obtain ⟨e0, e1, e2⟩ := encL_get l j hj
    have c0 := hcs g rfl _ _ e0; have c1 := hcs g rfl _ _ e1; have c2 := hcs g rfl _ _ e2
    rw [add_zero'] at c0 c1 c2
    exact ⟨by rw [Nat.zero_add]; exact c0, by rw [Nat.zero_add]; exact c1, by rw [Nat.zero_add]; exact c2⟩
set_option maxRecDepth 100000 in
set_option maxHeartbeats 8000000 in
theorem Merge_any {o x y : Int → Int} {size : Int} {W : World} {p q r : Option Addr} (h : IsM o size W p) (h' : IsM x size W q) (h'' : IsM y size W r) :
    ∃ La Lx Ly, Gs.Can o 0 La size ∧ Gs.Can x 0 Lx size ∧ Gs.Can y 0 Ly size ∧ La.length ≤ 4096 ∧ Lx.length ≤ 4096 ∧ Ly.length ≤ 4096 ∧
      Calls Try.prog 24 #[.agg #[.pointer p, .int .i64 size], .agg #[.pointer q, .int .i64 size], .agg #[.pointer r, .int .i64 size]] W fun e w' => ∃ mp ms u E, e = .returned (.tuple #[.agg #[.pointer mp, .int .i64 ms], u, .int .i64 E]) ∧
        Hid (Upd o (mg o x y) size 0 mp ms E w') ∧ Hid ((E = 5 ∧ u = .slice none 0 0) ∨ (E = 0 ∧ RowC W.heap.size u (mC (m3 La Lx Ly)) w')) ∧ Below W.heap.size W w' := by
  have hs := h.lo
  obtain ⟨bp, rfl⟩ := h.some
  obtain ⟨bq, rfl⟩ := h'.some
  obtain ⟨br, rfl⟩ := h''.some
  obtain ⟨ta, a1, a2, a3⟩ := h.tr
  obtain ⟨tb, b1, b2, b3⟩ := h'.tr
  obtain ⟨tc, c1, c2, c3⟩ := h''.tr
  have hcl := Gs.Can.same (clip_can a2 (Int.le_refl 0) (by omega) (Int.le_refl size)) a2
  have hB3 := B3.of h.ctx h'.ctx h''.ctx
  have hla : ta.L.length ≤ 4096 := by rw [← T.sz_eq]; exact a3
  have hlb : tb.L.length ≤ 4096 := by rw [← T.sz_eq]; exact b3
  have hlc : tc.L.length ≤ 4096 := by rw [← T.sz_eq]; exact c3
  refine ⟨ta.L, tb.L, tc.L, a2, b2, c2, hla, hlb, hlc, ?_⟩
  have HLB : Hid (∀ lo hi, (clip lo hi tb.L).length ≤ 4096) := fun lo hi => Nat.le_trans (clip_len _ _ _) hlb
  have HLC : Hid (∀ lo hi, (clip lo hi tc.L).length ≤ 4096) := fun lo hi => Nat.le_trans (clip_len _ _ _) hlc
  have HCAN : Hid (Gs.Can (mg o x y) 0 (mR (m3 ta.L tb.L tc.L)) size) := mR_can (m3_f3 a2 b2 c2 hB3)
  have HCTX : Hid (Ctx (mg o x y) 0 size) := ⟨Int.le_refl 0, h.ctx.2.1, fun p p1 p2 => by
    obtain ⟨q1, q2, q3⟩ := hB3 p p1 p2
    unfold mg mt
    split
    · exact q2
    · split
      · exact q3
      · exact q1⟩
  obtain ⟨w0, HW, hm0, hm1, hm2, hm3, hc, hlt, hb⟩ := three_maps W (some bp, size) (some bq, size) (some br, size) 27 27
  have hs0 : w0.heap.size = W.heap.size + 1 + 1 + 1 + 1 + 1 := by rw [HW]; simp
  have HCK : Hid (Calls Try.prog 42 #[.slice (some ⟨W.heap.size + 1 + 1 + 1 + 1, 0, none⟩) 3 3] w0 fun e w' => e = .returned (.int .i64 0) ∧ Below w0.heap.size w0 w') :=
    checkSizes_ok (W.heap.size + 1 + 1 + 1 + 1) 3 [(some bp, size), (some bq, size), (some br, size)] size 0 w0 hlt (fun j hj => by
      have : j = 0 ∨ j = 1 ∨ j = 2 := by simp at hj; omega
      rcases this with rfl | rfl | rfl
      · exact ⟨hc 0 _ rfl, hc 1 _ rfl⟩
      · exact ⟨hc 2 _ rfl, hc 3 _ rfl⟩
      · exact ⟨hc 4 _ rfl, hc 5 _ rfl⟩) (by simp) (by simp) (by simp) (hc 1 _ rfl) (fun _ => rfl) (by simp)
  have HMH : Hid (Mhs w0 W.heap.size (some ⟨bp, 0, none⟩) (some ⟨bq, 0, none⟩) (some ⟨br, 0, none⟩) size) := by rw [HW]; exact four_maps W _ _ _ size _
  have HB := Lib.hid hb; have HS0 := Lib.hid hs0
  have HTA : Hid (IsTB W.heap.size W ta (some ⟨bp, 0, none⟩)) := IsT.tb a1
  have HTB : Hid (IsTB W.heap.size W tb (some ⟨bq, 0, none⟩)) := IsT.tb b1
  have HTC : Hid (IsTB W.heap.size W tc (some ⟨br, 0, none⟩)) := IsT.tb c1
  have HA2 := Lib.hid a2; have HB2 := Lib.hid b2; have HC2 := Lib.hid c2; have HCL := Lib.hid hcl
  have HW2 : Hid (w0 = ((((W.alloc (.cells #[.pointer (some ⟨bp, 0, none⟩), .int .i64 size] 27)).alloc (.cells #[.pointer (some ⟨bq, 0, none⟩), .int .i64 size] 27)).alloc (.cells #[.pointer (some ⟨br, 0, none⟩), .int .i64 size] 27)).alloc (.cells #[.pointer none, .int .i64 0] 27)).alloc (.cells #[.pointer (some ⟨bp, 0, none⟩), .int .i64 size, .pointer (some ⟨bq, 0, none⟩), .int .i64 size, .pointer (some ⟨br, 0, none⟩), .int .i64 size] 27)) := HW
  clear h h' h'' a1 a2 a3 b1 b2 b3 c1 c2 c3 hcl hm0 hm1 hm2 hm3 hc hlt hb hs0 HW hB3
  refine (callsIn_wide (n := 20)).1 ?_
  refine callsIn_of_wp_marks Try.func24 rfl trivial ?_ rfl
  simp only [Try.ntmps24, List.size_toArray, List.length_cons, List.length_nil, Nat.reduceAdd, Nat.reduceSub, Array.replicate_succ, Array.replicate_zero, List.push_toArray, List.append_toArray, List.nil_append, List.cons_append]
  gi_wp2_with fail
  rw [← HW2.out]
  refine ⟨trivial, (callsIn_wide.2 HCK.out).mono ?_⟩
  rintro e w1 ⟨rfl, hb⟩
  have hs1 : W.heap.size + 1 + 1 + 1 + 1 + 1 ≤ w1.heap.size := by have := hb.size; have := HS0.out; omega
  have HMH1 : Hid (Mhs w1 W.heap.size (some ⟨bp, 0, none⟩) (some ⟨bq, 0, none⟩) (some ⟨br, 0, none⟩) size) := HMH.out.next fun k hk _ _ => hb.block k hk
  have HB1 := Lib.hid (HB.out.trans (hb.mono HB.out.size))
  obtain ⟨w2, HW2⟩ : ∃ w2, w2 = (w1.alloc (.cells #[.slice none 0 0] 42)).alloc (.cells #[.slice none 0 0] 53) := ⟨_, rfl⟩
  have b2 : Below w1.heap.size w1 w2 := by rw [HW2]; exact ((Below.refl _ _).alloc (Nat.le_refl _) _).alloc (by simp) _
  have o2 : Boxed w2 w1.heap.size 42 (.slice none 0 0) := by rw [HW2]; exact (Boxed.new _ _ _).alloc _
  have o3 : Boxed w2 (w1.heap.size + 1) 53 (.slice none 0 0) := by
    have := Boxed.new (w1.alloc (.cells #[.slice none 0 0] 42)) 53 (.slice none 0 0)
    rw [World.size_alloc] at this
    rw [HW2]; exact this
  have s2 : w2.heap.size = w1.heap.size + 1 + 1 := by rw [HW2]; simp
  have hmst : Mst W.heap.size w1.heap.size (w1.heap.size + 1) (some ⟨bp, 0, none⟩) (some ⟨bq, 0, none⟩) (some ⟨br, 0, none⟩) size [] (m3 [] tb.L tc.L) (.slice none 0 0) (.slice none 0 0) w2 :=
    ⟨⟨o2, o3, World.ownsRow_nil _ _ _ _, World.ownsRow_nil _ _ _ _, fun k ek => by simp [Value.ownBlock] at ek⟩, HMH1.out.next fun k hk _ _ => b2.block k hk, fun b hb => (by cases hb), fun b hb => (by cases hb), by omega, Nat.lt_succ_self _⟩
  obtain ⟨w3, HW3⟩ : ∃ w3, w3 = w2.alloc (.cells #[.pointer (some ⟨bp, 0, none⟩), .int .i64 size] 27) := ⟨_, rfl⟩
  have b3 : Below w2.heap.size w2 w3 := by rw [HW3]; exact (Below.refl _ _).alloc (Nat.le_refl _) _
  have s3 : w3.heap.size = w1.heap.size + 1 + 1 + 1 := by rw [HW3, World.size_alloc, s2]
  obtain ⟨q0, q1, q2, q3, q4⟩ := seq_cells w3 (some ⟨bp, 0, none⟩) 0 size
  rw [s3] at q0 q1 q2 q3
  have b4 := b3.trans (q4.mono b3.size)
  have HST4 : Hid (Mst W.heap.size w1.heap.size (w1.heap.size + 1) (some ⟨bp, 0, none⟩) (some ⟨bq, 0, none⟩) (some ⟨br, 0, none⟩) size [] (m3 [] tb.L tc.L) (.slice none 0 0) (.slice none 0 0) (seqW w3 (some ⟨bp, 0, none⟩) 0 size)) := hmst.next b4
  have b5 := b2.trans (b4.mono b2.size)
  have HSB := Lib.hid (HB1.out.trans (b5.mono HB1.out.size))
  have HSQ := Lib.hid (seq_stops (n := 19) (n₀ := W.heap.size) (lo := 0) (hi := size) (by rw [q3]; omega) HSB.out.size q0 q1 q2 (HTA.out.below HSB.out) HA2.out)
  have HAL : Hid (CallsIn Fence.wide 19 Try.prog 43 #[.agg #[.pointer (some ⟨bp, 0, none⟩), .int .i64 size]] w2 fun e w' => e = .returned (seqV (w1.heap.size + 1 + 1 + 1)) ∧ w' = seqW w3 (some ⟨bp, 0, none⟩) 0 size) := callsIn_wide.2 (by rw [HW3, ← s2]; exact all_any _ _ w2)
  have hm2 : Mh w2 W.heap.size (some ⟨bp, 0, none⟩) size := hmst.maps.m0
  have k0 : w2.cell? ⟨W.heap.size, 0, none⟩ = some (.pointer (some ⟨bp, 0, none⟩)) := hm2.cell
  have k1 : w2.cell? ⟨W.heap.size, 1, none⟩ = some (.int .i64 size) := by
    have h9 : w2.heap[W.heap.size]? = _ := hm2
    simp [World.cell?, h9]
  have HW2' := Lib.hid HW2
  have hge0 : w1.heap.size + 1 < (seqW w3 (some ⟨bp, 0, none⟩) 0 size).heap.size := by rw [q3]; omega
  generalize seqW w3 (some ⟨bp, 0, none⟩) 0 size = w4 at *
  clear hb b2 o2 o3 s2 q0 q1 q2 q3 q4 b3 b4 b5 s3 HW2 HW3 hmst hm2
  gi_upto_region 6 with fail
  rw [← HW2'.out]
  gi_wp2_with fail
  refine ⟨trivial, HAL.out.mono ?_⟩
  rintro e w' ⟨rfl, rfl⟩
  gi_wp2_with fail
  have hge : W.heap.size ≤ w'.heap.size := HSB.out.size
  obtain ⟨i0, hi0, hz0, hz1, hz2⟩ := info_parts infoCh
  refine wpIn_rangeFunc_ownH rfl (by omega) (gf := 55) (lb := #[.pointer (some ⟨w1.heap.size + 1 + 1 + 1, 0, none⟩), .pointer (some ⟨w1.heap.size + 1 + 1 + 1 + 1, 0, none⟩), .pointer (some ⟨w1.heap.size + 1 + 1 + 1 + 1 + 1, 0, none⟩)]) rfl trivial (enters_of Try.func55 (by kernel_rfl) rfl)
    HSQ.out belowK_t (belowK_b hge) (Below.refl _ _) (fun _ => rfl)
    (fun pre W2 => ((∃ v u, Mst W.heap.size w1.heap.size (w1.heap.size + 1) (some ⟨bp, 0, none⟩) (some ⟨bq, 0, none⟩) (some ⟨br, 0, none⟩) size [] (m3 pre tb.L tc.L) v u W2) ∧ (m3 pre tb.L tc.L).length ≤ pre.length * 16777216) ∧ Below W.heap.size W W2)
    (fun _ _ _ => False)
    (OwnFrom.and (Own.from (fun s A B row hs hg hr => ⟨Mst.own () A B row hs.1 hg hr, hs.2⟩) _) (ownFrom_below (Nat.le_refl _) hge))
    (fun _ _ _ _ _ hs _ _ => hs)
    ⟨⟨⟨_, _, HST4.out⟩, Nat.zero_le _⟩, HSB.out⟩
    (fun x a' W2 => ∃ Bo, Bx1 w1.heap.size (w1.heap.size + 1) Bo x W2 ∧ a' = { tmps := #[.agg #[.pointer (some ⟨bp, 0, none⟩), .int .i64 size], .agg #[.pointer (some ⟨bq, 0, none⟩), .int .i64 size], .agg #[.pointer (some ⟨br, 0, none⟩), .int .i64 size], .pointer (some ⟨W.heap.size, 0, none⟩), .pointer (some ⟨W.heap.size + 1, 0, none⟩), .pointer (some ⟨W.heap.size + 1 + 1, 0, none⟩), .pointer (some ⟨W.heap.size + 1 + 1 + 1, 0, none⟩), .slice none 0 0, .int .i64 0, .int .i64 0, .pointer (some ⟨w1.heap.size, 0, none⟩), .pointer (some ⟨w1.heap.size + 1, 0, none⟩), .pointer (some ⟨Bo, 0, none⟩), undef, undef, undef, undef, .agg #[.pointer (some ⟨bp, 0, none⟩), .int .i64 size], .agg #[.pointer (some ⟨bq, 0, none⟩), .int .i64 size], .agg #[.pointer (some ⟨br, 0, none⟩), .int .i64 size], .slice (some ⟨W.heap.size + 1 + 1 + 1 + 1, 0, none⟩) 3 3, .int .i64 0, .int .i64 0, .bool false, undef, undef, .agg #[.pointer (some ⟨bp, 0, none⟩), .int .i64 size], seqV (w1.heap.size + 1 + 1 + 1), .agg #[.int .i64 x.lo, .int .i64 x.hi, .int .i64 x.tag], undef, undef, undef, undef, undef, undef, undef, undef, undef, undef, undef, undef, undef, undef, undef, undef, undef, undef, undef, undef, undef, undef, undef, undef, undef, undef, undef, undef, undef, undef, undef, undef, undef, undef, undef, undef, undef, undef, undef, undef, undef, undef, undef, undef, undef, undef, undef, undef, undef, undef, undef, undef, undef, undef, undef, undef, undef], defers := [] })
    (fun x a' => Own.from (fun s A B row hs hg hr => by
      obtain ⟨Bo, h1, h2⟩ := hs
      exact ⟨Bo, Bx1.own () A B row h1 hg hr, h2⟩) _) ?assign ?body ?done ?stop
  case assign =>
    rintro l pre ⟨xa, xb, xc⟩ W2 K ⟨⟨⟨v, u, g1⟩, g4⟩, g5⟩ hK
    unfold encR
    gi_wp2
    exact hK _ _ ((KeepsOthers.alloc _ _).from _) ((Below.refl _ W2).alloc g5.size _) ⟨⟨⟨v, u, g1.alloc _⟩, g4⟩, g5.alloc g5.size _⟩ ⟨W2.heap.size, (g1.box ⟨xa, xb, xc⟩).un, rfl⟩
  case body =>
    rintro l pre ⟨xa, xb, xc⟩ a' W2 hl ⟨r, hr⟩ ⟨⟨⟨v, u, g1⟩, g4⟩, g5⟩ ⟨Bo, hBo, rfl⟩ hlt
    have hla2 : pre.length < 4096 := by rw [HCL.out] at hlt; omega
    have m := g1.and hBo
    have m0 := m.maps.m1.cell
    obtain ⟨r0, r1, r2⟩ := (m.rbs _ (List.mem_cons_self ..)).1.cells
    simp only at r0 r1 r2
    obtain ⟨q0, q1, q2, q3, q4⟩ := seq_cells W2 (some ⟨bq, 0, none⟩) xa xb
    have HWI : Hid (CallsIn Fence.wide 17 Try.prog 39 #[.pointer (some ⟨bq, 0, none⟩), .int .i64 xa, .int .i64 xb] W2 fun e w' => e = .returned (seqV W2.heap.size) ∧ w' = seqW W2 (some ⟨bq, 0, none⟩) xa xb) := callsIn_wide.2 (within_any _ _ _ W2)
    have i1 : Mst W.heap.size w1.heap.size (w1.heap.size + 1) (some ⟨bp, 0, none⟩) (some ⟨bq, 0, none⟩) (some ⟨br, 0, none⟩) size [(Bo, ⟨xa, xb, xc⟩)] (m3 pre tb.L tc.L ++ m3x ⟨xa, xb, xc⟩ [] tc.L) v u (seqW W2 (some ⟨bq, 0, none⟩) xa xb) := by
      rw [show m3x ⟨xa, xb, xc⟩ [] tc.L = [] from rfl, List.append_nil]
      exact m.next q4
    have i2 : (m3 pre tb.L tc.L ++ m3x ⟨xa, xb, xc⟩ [] tc.L).length ≤ pre.length * 16777216 + 0 * 4096 := by
      rw [show m3x ⟨xa, xb, xc⟩ [] tc.L = [] from rfl, List.append_nil]
      exact Nat.le_trans g4 (Nat.le_add_right _ _)
    have i5 : KeepsFrom w'.heap.size W2 (seqW W2 (some ⟨bq, 0, none⟩) xa xb) := (keeps_below q4).from _
    have hr' : (seqW W2 (some ⟨bq, 0, none⟩) xa xb).heap[l]? = some (.loop r) := (q4.block l (Array.getElem?_eq_some_iff.1 hr).1).trans hr
    have i6 : Below W.heap.size W2 (seqW W2 (some ⟨bq, 0, none⟩) xa xb) := q4.mono g5.size
    have hsz5 := Nat.le_trans g5.size q4.size
    have i7 : W.heap.size ≤ (seqW W2 (some ⟨bq, 0, none⟩) xa xb).heap.size := hsz5
    have i8 : w'.heap.size ≤ W2.heap.size := by have := (Array.getElem?_eq_some_iff.1 hr).1; omega
    have i9 : W2.heap.size ≤ (seqW W2 (some ⟨bq, 0, none⟩) xa xb).heap.size := q4.size
    have HSQ2 := Lib.hid (seq_stops (n := 17) (n₀ := W.heap.size) (lo := xa) (hi := xb) (w := seqW W2 (some ⟨bq, 0, none⟩) xa xb) (B := W2.heap.size) (by rw [q3]; omega) hsz5 q0 q1 q2 (HTB.out.below (g5.trans i6)) HB2.out)
    have G5 := Lib.hid g5
    clear q0 q1 q2 q3 q4 g1 hBo hsz5 g5 hlt m g4
    generalize seqW W2 (some ⟨bq, 0, none⟩) xa xb = w5 at *
    gi_wp2_with (refine ⟨trivial, ?_⟩; gi_at_call 39; refine (CallsIn.inRound l HWI.out).mono ?_; rintro e w6 ⟨rfl, rfl⟩)
    refine wpIn_rangeFunc_ownN (l₀ := l) (r₀ := r) rfl hr' (by omega) (gf := 55) (lb := #[.pointer (some ⟨W2.heap.size, 0, none⟩), .pointer (some ⟨W2.heap.size + 1, 0, none⟩), .pointer (some ⟨W2.heap.size + 1 + 1, 0, none⟩)]) rfl trivial (enters_of Try.func55 (by kernel_rfl) rfl)
      (HSQ2.out.inRound l) belowK_t (belowK_b i7) (Below.refl _ _) (fun _ => rfl)
      (fun pre2 W3 => ((∃ v u, Mst W.heap.size w1.heap.size (w1.heap.size + 1) (some ⟨bp, 0, none⟩) (some ⟨bq, 0, none⟩) (some ⟨br, 0, none⟩) size [(Bo, ⟨xa, xb, xc⟩)] (m3 pre tb.L tc.L ++ m3x ⟨xa, xb, xc⟩ pre2 tc.L) v u W3) ∧ (m3 pre tb.L tc.L ++ m3x ⟨xa, xb, xc⟩ pre2 tc.L).length ≤ pre.length * 16777216 + pre2.length * 4096) ∧ (Below W.heap.size W2 W3 ∧ KeepsFrom w'.heap.size W2 W3))
      (fun _ _ _ => False)
      (OwnFrom.and (Own.from (fun s A B row hs hg hr => ⟨Mst.own () A B row hs.1 hg hr, hs.2⟩) _) (OwnFrom.and (ownFrom_below G5.out.size i7) (ownFrom_keepsFrom i5.size)))
      (fun _ _ _ _ _ hs _ _ => hs)
      ⟨⟨⟨_, _, i1⟩, i2⟩, i6, i5⟩
      (fun y a2 W3 => ∃ By, Bx1 w1.heap.size (w1.heap.size + 1) By y W3 ∧ a2 = { tmps := #[.agg #[.pointer (some ⟨bp, 0, none⟩), .int .i64 size], .agg #[.pointer (some ⟨bq, 0, none⟩), .int .i64 size], .agg #[.pointer (some ⟨br, 0, none⟩), .int .i64 size], .pointer (some ⟨W.heap.size, 0, none⟩), .pointer (some ⟨W.heap.size + 1, 0, none⟩), .pointer (some ⟨W.heap.size + 1 + 1, 0, none⟩), .pointer (some ⟨W.heap.size + 1 + 1 + 1, 0, none⟩), .slice none 0 0, .int .i64 0, .int .i64 0, .pointer (some ⟨w1.heap.size, 0, none⟩), .pointer (some ⟨w1.heap.size + 1, 0, none⟩), .pointer (some ⟨Bo, 0, none⟩), .pointer (some ⟨By, 0, none⟩), undef, undef, undef, .agg #[.pointer (some ⟨bp, 0, none⟩), .int .i64 size], .agg #[.pointer (some ⟨bq, 0, none⟩), .int .i64 size], .agg #[.pointer (some ⟨br, 0, none⟩), .int .i64 size], .slice (some ⟨W.heap.size + 1 + 1 + 1 + 1, 0, none⟩) 3 3, .int .i64 0, .int .i64 0, .bool false, undef, undef, .agg #[.pointer (some ⟨bp, 0, none⟩), .int .i64 size], seqV (w1.heap.size + 1 + 1 + 1), .agg #[.int .i64 xa, .int .i64 xb, .int .i64 xc], .pointer (some ⟨W.heap.size + 1, 0, none⟩), .pointer (some ⟨bq, 0, none⟩), .pointer (some ⟨Bo, 0, none⟩), .int .i64 xa, .pointer (some ⟨Bo, 1, none⟩), .int .i64 xb, seqV W2.heap.size, .agg #[.int .i64 y.lo, .int .i64 y.hi, .int .i64 y.tag], undef, undef, undef, undef, undef, undef, undef, undef, undef, undef, undef, undef, undef, undef, undef, undef, undef, undef, undef, undef, undef, undef, undef, undef, undef, undef, undef, undef, undef, undef, undef, undef, undef, undef, undef, undef, undef, undef, undef, undef, undef, undef, undef, undef, undef, undef, undef, undef, undef], defers := [] })
      (fun y a2 => Own.from (fun s A B row hs hg hr => by
        obtain ⟨By, h1, h2⟩ := hs
        exact ⟨By, Bx1.own () A B row h1 hg hr, h2⟩) _) ?assign2 ?body2 ?done2 ?stop2
    case assign2 =>
      rintro l2 pre2 ⟨ya, yb, yc⟩ W3 K ⟨⟨⟨v, u, c1⟩, c4⟩, hBW, hKF⟩ hK
      unfold encR
      gi_wp2
      exact hK _ _ ((KeepsOthers.alloc _ _).from _) ((Below.refl _ W3).alloc (Nat.le_trans G5.out.size hBW.size) _) ⟨⟨⟨v, u, c1.alloc _⟩, c4⟩, hBW.alloc (Nat.le_trans G5.out.size hBW.size) _, hKF.trans ((KeepsOthers.alloc _ _).from _)⟩ ⟨W3.heap.size, (c1.box ⟨ya, yb, yc⟩).un, rfl⟩
    case body2 =>
      rintro l2 pre2 ⟨ya, yb, yc⟩ a2 W3 hl2 ⟨r2, hr2⟩ ⟨⟨⟨v, u, c1⟩, c4⟩, hBW, hKF⟩ ⟨By, hBy, rfl⟩ hlt2
      have hl3 := HLB.out xa xb
      have hpl2 : pre2.length < 4096 := by omega
      have m := c1.and hBy
      have n0 := m.maps.m2.cell
      obtain ⟨y0, y1, y2⟩ := (m.rbs _ (List.mem_cons_self ..)).1.cells
      simp only at y0 y1 y2
      obtain ⟨q0, q1, q2, q3, q4⟩ := seq_cells W3 (some ⟨br, 0, none⟩) ya yb
      have HWI2 : Hid (CallsIn Fence.wide 15 Try.prog 39 #[.pointer (some ⟨br, 0, none⟩), .int .i64 ya, .int .i64 yb] W3 fun e w' => e = .returned (seqV W3.heap.size) ∧ w' = seqW W3 (some ⟨br, 0, none⟩) ya yb) := callsIn_wide.2 (within_any _ _ _ W3)
      have j1 : Mst W.heap.size w1.heap.size (w1.heap.size + 1) (some ⟨bp, 0, none⟩) (some ⟨bq, 0, none⟩) (some ⟨br, 0, none⟩) size [(By, ⟨ya, yb, yc⟩), (Bo, ⟨xa, xb, xc⟩)] (m3 pre tb.L tc.L ++ m3x ⟨xa, xb, xc⟩ pre2 tc.L ++ m3y ⟨xa, xb, xc⟩ ⟨ya, yb, yc⟩ []) v u (seqW W3 (some ⟨br, 0, none⟩) ya yb) := by
        rw [show m3y ⟨xa, xb, xc⟩ ⟨ya, yb, yc⟩ [] = [] from rfl, List.append_nil]
        exact m.next q4
      have j2 : (m3 pre tb.L tc.L ++ m3x ⟨xa, xb, xc⟩ pre2 tc.L ++ m3y ⟨xa, xb, xc⟩ ⟨ya, yb, yc⟩ []).length ≤ pre.length * 16777216 + pre2.length * 4096 + 0 := by
        rw [show m3y ⟨xa, xb, xc⟩ ⟨ya, yb, yc⟩ [] = [] from rfl, List.append_nil]
        exact Nat.le_trans c4 (Nat.le_add_right _ _)
      have hsW3 : W.heap.size ≤ W3.heap.size := Nat.le_trans G5.out.size hBW.size
      have j5 : KeepsFrom w'.heap.size W3 (seqW W3 (some ⟨br, 0, none⟩) ya yb) := (keeps_below q4).from _
      have hr2' : (seqW W3 (some ⟨br, 0, none⟩) ya yb).heap[l2]? = some (.loop r2) := (q4.block l2 (Array.getElem?_eq_some_iff.1 hr2).1).trans hr2
      have j6 : Below W.heap.size W3 (seqW W3 (some ⟨br, 0, none⟩) ya yb) := q4.mono hsW3
      have hsz6 := Nat.le_trans hsW3 q4.size
      have j7 : W.heap.size ≤ (seqW W3 (some ⟨br, 0, none⟩) ya yb).heap.size := hsz6
      have j9 : W3.heap.size ≤ (seqW W3 (some ⟨br, 0, none⟩) ya yb).heap.size := q4.size
      have j8 : w6.heap.size ≤ W3.heap.size := by have := (Array.getElem?_eq_some_iff.1 hr2).1; omega
      have HSQ3 := Lib.hid (seq_stops (n := 15) (n₀ := W.heap.size) (lo := ya) (hi := yb) (w := seqW W3 (some ⟨br, 0, none⟩) ya yb) (B := W3.heap.size) (by rw [q3]; omega) hsz6 q0 q1 q2 (HTC.out.below ((G5.out.trans hBW).trans j6)) HC2.out)
      have HBW := Lib.hid hBW; have HKF := Lib.hid hKF
      clear q0 q1 q2 q3 q4 c1 hBy hsz6 hlt2 m c4 hBW hKF
      generalize seqW W3 (some ⟨br, 0, none⟩) ya yb = w7 at *
      gi_wp2_with (refine ⟨trivial, ?_⟩; gi_at_call 39; refine (CallsIn.inRound l2 (CallsIn.inRound l HWI2.out)).mono ?_; rintro e w8 ⟨rfl, rfl⟩)
      refine wpIn_rangeFunc_ownN (l₀ := l2) (r₀ := r2) rfl hr2' (by omega) (gf := 55) (lb := #[.pointer (some ⟨W3.heap.size, 0, none⟩), .pointer (some ⟨W3.heap.size + 1, 0, none⟩), .pointer (some ⟨W3.heap.size + 1 + 1, 0, none⟩)]) rfl trivial (enters_of Try.func55 (by kernel_rfl) rfl)
        ((HSQ3.out.inRound l).inRound l2) belowK_t (belowK_b j7) (Below.refl _ _) (fun _ => rfl)
        (fun pre3 W4 => ((∃ v u, Mst W.heap.size w1.heap.size (w1.heap.size + 1) (some ⟨bp, 0, none⟩) (some ⟨bq, 0, none⟩) (some ⟨br, 0, none⟩) size [(By, ⟨ya, yb, yc⟩), (Bo, ⟨xa, xb, xc⟩)] (m3 pre tb.L tc.L ++ m3x ⟨xa, xb, xc⟩ pre2 tc.L ++ m3y ⟨xa, xb, xc⟩ ⟨ya, yb, yc⟩ pre3) v u W4) ∧ (m3 pre tb.L tc.L ++ m3x ⟨xa, xb, xc⟩ pre2 tc.L ++ m3y ⟨xa, xb, xc⟩ ⟨ya, yb, yc⟩ pre3).length ≤ pre.length * 16777216 + pre2.length * 4096 + pre3.length) ∧ (Below W.heap.size W3 W4 ∧ KeepsFrom w'.heap.size W3 W4))
        (fun _ _ _ => False)
        (OwnFrom.and (Own.from (fun s A B row hs hg hr => ⟨Mst.own () A B row hs.1 hg hr, hs.2⟩) _) (OwnFrom.and (ownFrom_below hsW3 j7) (ownFrom_keepsFrom j5.size)))
        (fun _ _ _ _ _ hs _ _ => hs)
        ⟨⟨⟨_, _, j1⟩, j2⟩, j6, j5⟩
        (fun z a3 W4 => ∃ Bz, Bx1 w1.heap.size (w1.heap.size + 1) Bz z W4 ∧ a3 = { tmps := #[.agg #[.pointer (some ⟨bp, 0, none⟩), .int .i64 size], .agg #[.pointer (some ⟨bq, 0, none⟩), .int .i64 size], .agg #[.pointer (some ⟨br, 0, none⟩), .int .i64 size], .pointer (some ⟨W.heap.size, 0, none⟩), .pointer (some ⟨W.heap.size + 1, 0, none⟩), .pointer (some ⟨W.heap.size + 1 + 1, 0, none⟩), .pointer (some ⟨W.heap.size + 1 + 1 + 1, 0, none⟩), .slice none 0 0, .int .i64 0, .int .i64 0, .pointer (some ⟨w1.heap.size, 0, none⟩), .pointer (some ⟨w1.heap.size + 1, 0, none⟩), .pointer (some ⟨Bo, 0, none⟩), .pointer (some ⟨By, 0, none⟩), .pointer (some ⟨Bz, 0, none⟩), undef, undef, .agg #[.pointer (some ⟨bp, 0, none⟩), .int .i64 size], .agg #[.pointer (some ⟨bq, 0, none⟩), .int .i64 size], .agg #[.pointer (some ⟨br, 0, none⟩), .int .i64 size], .slice (some ⟨W.heap.size + 1 + 1 + 1 + 1, 0, none⟩) 3 3, .int .i64 0, .int .i64 0, .bool false, undef, undef, .agg #[.pointer (some ⟨bp, 0, none⟩), .int .i64 size], seqV (w1.heap.size + 1 + 1 + 1), .agg #[.int .i64 xa, .int .i64 xb, .int .i64 xc], .pointer (some ⟨W.heap.size + 1, 0, none⟩), .pointer (some ⟨bq, 0, none⟩), .pointer (some ⟨Bo, 0, none⟩), .int .i64 xa, .pointer (some ⟨Bo, 1, none⟩), .int .i64 xb, seqV W2.heap.size, .agg #[.int .i64 ya, .int .i64 yb, .int .i64 yc], .pointer (some ⟨W.heap.size + 1 + 1, 0, none⟩), .pointer (some ⟨br, 0, none⟩), .pointer (some ⟨By, 0, none⟩), .int .i64 ya, .pointer (some ⟨By, 1, none⟩), .int .i64 yb, seqV W3.heap.size, .agg #[.int .i64 z.lo, .int .i64 z.hi, .int .i64 z.tag], undef, undef, undef, undef, undef, undef, undef, undef, undef, undef, undef, undef, undef, undef, undef, undef, undef, undef, undef, undef, undef, undef, undef, undef, undef, undef, undef, undef, undef, undef, undef, undef, undef, undef, undef, undef, undef, undef, undef, undef, undef], defers := [] })
        (fun z a3 => Own.from (fun s A B row hs hg hr => by
          obtain ⟨Bz, h1, h2⟩ := hs
          exact ⟨Bz, Bx1.own () A B row h1 hg hr, h2⟩) _) ?assign3 ?body3 ?done3 ?stop3
      case assign3 =>
        rintro l3 pre3 ⟨za, zb, zc⟩ W4 K ⟨⟨⟨v, u, d1⟩, d4⟩, hBW4, hKF4⟩ hK
        unfold encR
        gi_wp2
        exact hK _ _ ((KeepsOthers.alloc _ _).from _) ((Below.refl _ W4).alloc (Nat.le_trans hsW3 hBW4.size) _) ⟨⟨⟨v, u, d1.alloc _⟩, d4⟩, hBW4.alloc (Nat.le_trans hsW3 hBW4.size) _, hKF4.trans ((KeepsOthers.alloc _ _).from _)⟩ ⟨W4.heap.size, (d1.box ⟨za, zb, zc⟩).un, rfl⟩
      case body3 =>
        rintro l3 pre3 ⟨za, zb, zc⟩ a3 W4 _ _ ⟨⟨⟨v, u, d1⟩, d4⟩, hBW4, hKF4⟩ ⟨Bz, hBz, rfl⟩ hlt3
        have hl4 := HLC.out ya yb
        have m := d1.and hBz
        obtain ⟨TL, HTL⟩ : ∃ TL, TL = (m3 pre tb.L tc.L ++ m3x ⟨xa, xb, xc⟩ pre2 tc.L ++ m3y ⟨xa, xb, xc⟩ ⟨ya, yb, yc⟩ pre3) := ⟨_, rfl⟩
        rw [← HTL] at m d4
        have HT3 : Hid ((m3 pre tb.L tc.L ++ m3x ⟨xa, xb, xc⟩ pre2 tc.L ++ m3y ⟨xa, xb, xc⟩ ⟨ya, yb, yc⟩ (pre3 ++ [⟨za, zb, zc⟩])) = TL ++ [⟨za, zb, xc, yc, zc⟩]) := by
          rw [m3y_snoc, ← List.append_assoc, ← HTL]
          first | done | rfl
        have HLN : Hid ((m3 pre tb.L tc.L ++ m3x ⟨xa, xb, xc⟩ pre2 tc.L ++ m3y ⟨xa, xb, xc⟩ ⟨ya, yb, yc⟩ (pre3 ++ [⟨za, zb, zc⟩])).length ≤ pre.length * 16777216 + pre2.length * 4096 + (pre3 ++ [(⟨za, zb, zc⟩ : R)]).length) := by
          rw [HT3.out, len_snoc TL, len_snoc pre3, ← Nat.add_assoc]
          exact Nat.succ_le_succ d4
        clear HTL
        have hTL : TL.length ≤ 100000000000 := by omega
        have hRL : (mR TL).length ≤ 200000000000 := Nat.le_trans (mR_len TL) (by omega)
        have hCL : (mC TL).length ≤ 200000000000 := Nat.le_trans (mC_len TL) (by omega)
        have hsW4 : W.heap.size ≤ W4.heap.size := Nat.le_trans hsW3 hBW4.size
        have HMT : ∀ b, b = mtb xc yc zc → Hid (CallsIn Fence.wide 13 Try.prog 45 #[.int .i64 xc, .int .i64 yc, .int .i64 zc] W4 fun e w' => e = .returned (.tuple #[.int .i64 (mt xc yc zc), .bool b]) ∧ Below W4.heap.size W4 w') := fun b hb => by rw [hb]; exact callsIn_wide.2 (mergeTags_any xc yc zc W4)
        have hmc : mC (TL ++ [(⟨za, zb, xc, yc, zc⟩ : M3)]) = if mtb xc yc zc = true then mC TL else joinC (mC TL) ⟨za, zb, yc, zc⟩ := mC_snoc TL _
        obtain ⟨t, ht⟩ : ∃ t, t = mt xc yc zc := ⟨_, rfl⟩
        have hmr : mR (TL ++ [(⟨za, zb, xc, yc, zc⟩ : M3)]) = addR (mR TL) ⟨za, zb, t⟩ := by rw [ht]; exact mR_snoc TL _
        rw [← ht] at HMT
        have HMR := Lib.hid hmr; have HMC := Lib.hid hmc
        have HBW4 := Lib.hid hBW4; have HKF4 := Lib.hid hKF4
        have HM := Lib.hid m
        have x2 := (m.rbs (Bo, ⟨xa, xb, xc⟩) (by simp)).1.cells.2.2
        have y2' := (m.rbs (By, ⟨ya, yb, yc⟩) (by simp)).1.cells.2.2
        have z2 := (m.rbs (Bz, ⟨za, zb, zc⟩) (by simp)).1.cells.2.2
        simp only at x2 y2' z2
        obtain ⟨va, vc, rfl⟩ := own_slice m.two.rv
        obtain ⟨ua, uc, rfl⟩ := own_slice m.two.ru
        clear d1 m hBz hlt3 ht hmr hmc hBW4 hKF4 d4 hl4
        rcases hb : mtb xc yc zc with _ | _
        · have HMTb := HMT _ hb.symm
          have HCE : Hid (mC (TL ++ [(⟨za, zb, xc, yc, zc⟩ : M3)]) = joinC (mC TL) ⟨za, zb, yc, zc⟩) := by rw [HMC.out, hb]; rfl
          clear HMT hb
          gi_wp2_with fail
          refine ⟨trivial, (CallsIn.inRound l3 (CallsIn.inRound l2 (CallsIn.inRound l HMTb.out))).mono ?_⟩
          rintro e w9 ⟨rfl, hb9⟩
          have HM9 := Lib.hid (HM.out.next hb9)
          have HB9 := Lib.hid hb9
          have v0 := HM9.out.two.bv.cell
          obtain ⟨z0, z1, z2'⟩ := (HM9.out.rbs (Bz, ⟨za, zb, zc⟩) (by simp)).1.cells
          simp only at z0 z1 z2'
          have HAR : Hid (CallsIn Fence.wide 13 Try.prog 46 #[.slice va (mR TL).length vc, .agg #[.int .i64 za, .int .i64 zb, .int .i64 t]] w9 fun e w' => ∃ v', e = .returned v' ∧ Hid (JP w9 W.heap.size (.slice va (mR TL).length vc) (addR (mR TL) ⟨za, zb, t⟩) v' w')) := callsIn_wide.2 (addRun_any za zb t HM9.out.two.rv (Nat.le_trans hsW4 hb9.size) hRL)
          clear hb9 x2 y2' z2 z2'
          gi_wp2_with fail
          refine ⟨trivial, (CallsIn.inRound l3 (CallsIn.inRound l2 (CallsIn.inRound l HAR.out))).mono ?_⟩
          rintro e w10 ⟨v', rfl, HJ⟩
          obtain ⟨va', vc', rfl⟩ := own_slice HJ.out.own
          obtain ⟨k1, k2, k3, k4, k5, k6⟩ := HM9.out.run HJ.out
          have hc1 := k1.cell; have hf1 := k1.frozen
          have u0 := k2.bu.cell
          obtain ⟨z0, z1, z2'⟩ := (k4 (Bz, ⟨za, zb, zc⟩) (by simp)).1.cells
          have y2 := (k4 (By, ⟨ya, yb, yc⟩) (by simp)).1.cells.2.2
          simp only at z0 z1 z2' y2
          have HK2 := Lib.hid k2; have HK3 := Lib.hid k3
          have HK4 : Hid (∀ b ∈ [(Bz, (⟨za, zb, zc⟩ : R)), (By, ⟨ya, yb, yc⟩), (Bo, ⟨xa, xb, xc⟩)], Rb (w10.setCell ⟨w1.heap.size, 0, none⟩ (.slice va' (addR (mR TL) ⟨za, zb, t⟩).length vc')) b.1 b.2 ∧ w1.heap.size + 1 < b.1) := fun b hb => ⟨(k4 b hb).1, (HM9.out.rbs b hb).2⟩
          have HAP : Hid (∀ b ∈ [(Bz, (⟨za, zb, zc⟩ : R)), (By, ⟨ya, yb, yc⟩), (Bo, ⟨xa, xb, xc⟩)], (Value.slice va' (addR (mR TL) ⟨za, zb, t⟩).length vc').ownBlock ≠ some b.1) := fun b hb => (k4 b hb).2
          have HK5 := Lib.hid ((HB9.out.mono hsW4).trans k5)
          have HK6 := Lib.hid ((keeps_below HB9.out).trans k6)
          have HAC : Hid (CallsIn Fence.wide 13 Try.prog 47 #[.slice ua (mC TL).length uc, .agg #[.int .i64 za, .int .i64 zb, .int .i64 yc, .int .i64 zc]] (w10.setCell ⟨w1.heap.size, 0, none⟩ (.slice va' (addR (mR TL) ⟨za, zb, t⟩).length vc')) fun e w' => ∃ v', e = .returned v' ∧ Hid (JC (w10.setCell ⟨w1.heap.size, 0, none⟩ (.slice va' (addR (mR TL) ⟨za, zb, t⟩).length vc')) W.heap.size (.slice ua (mC TL).length uc) (joinC (mC TL) ⟨za, zb, yc, zc⟩) v' w')) := callsIn_wide.2 (addChange_any za zb yc zc HK2.out.ru (Nat.le_trans hsW4 HK5.out.size) hCL)
          clear u0 z0 z1 z2' y2 k1 k2 k3 k4 k5 k6
          have u0 := HK2.out.bu.cell
          obtain ⟨z0, z1, z2'⟩ := (HK4.out (Bz, ⟨za, zb, zc⟩) (by simp)).1.cells
          have y2 := (HK4.out (By, ⟨ya, yb, yc⟩) (by simp)).1.cells.2.2
          simp only at z0 z1 z2' y2
          gi_wp2_with fail
          refine ⟨trivial, (CallsIn.inRound l3 (CallsIn.inRound l2 (CallsIn.inRound l HAC.out))).mono ?_⟩
          rintro e w11 ⟨u', rfl, HJC⟩
          obtain ⟨ua', uc', rfl⟩ := own_slice HJC.out.own
          obtain ⟨k1, k2, k3, k4, k5, k6⟩ := Two.last HK2.out HK3.out HK4.out HM9.out.hB HM9.out.hC HJC.out
          have hc2 := k1.cell; have hf2 := k1.frozen
          have hfin : Mst W.heap.size w1.heap.size (w1.heap.size + 1) (some ⟨bp, 0, none⟩) (some ⟨bq, 0, none⟩) (some ⟨br, 0, none⟩) size [(Bz, ⟨za, zb, zc⟩), (By, ⟨ya, yb, yc⟩), (Bo, ⟨xa, xb, xc⟩)] (m3 pre tb.L tc.L ++ m3x ⟨xa, xb, xc⟩ pre2 tc.L ++ m3y ⟨xa, xb, xc⟩ ⟨ya, yb, yc⟩ (pre3 ++ [⟨za, zb, zc⟩])) (.slice va' (addR (mR TL) ⟨za, zb, t⟩).length vc') (.slice ua' (joinC (mC TL) ⟨za, zb, yc, zc⟩).length uc') (w11.setCell ⟨w1.heap.size + 1, 0, none⟩ (.slice ua' (joinC (mC TL) ⟨za, zb, yc, zc⟩).length uc')) :=
            ⟨by rw [HT3.out, HMR.out, HCE.out]; exact k2, k3, fun b hb => ⟨k4 b hb, (HK4.out b hb).2⟩, HAP.out, HM9.out.hB, HM9.out.hC⟩
          have hp := hfin.pop
          have hbl := HK5.out.trans k5
          have hkp := HK6.out.trans k6
          clear hfin k1 k2 k3 k4 k5 k6 u0 z0 z1 z2' y2
          gi_wp2
          exact ⟨hkp.from _, hbl, ⟨⟨_, _, hp⟩, HLN.out⟩, HBW4.out.trans hbl, HKF4.out.trans (hkp.from _)⟩
        · have HMTb := HMT _ hb.symm
          have HCE : Hid (mC (TL ++ [(⟨za, zb, xc, yc, zc⟩ : M3)]) = mC TL) := by rw [HMC.out, hb]; rfl
          clear HMT hb
          gi_wp2_with fail
          refine ⟨trivial, (CallsIn.inRound l3 (CallsIn.inRound l2 (CallsIn.inRound l HMTb.out))).mono ?_⟩
          rintro e w9 ⟨rfl, hb9⟩
          have HM9 := Lib.hid (HM.out.next hb9)
          have HB9 := Lib.hid hb9
          have v0 := HM9.out.two.bv.cell
          obtain ⟨z0, z1, z2'⟩ := (HM9.out.rbs (Bz, ⟨za, zb, zc⟩) (by simp)).1.cells
          simp only at z0 z1 z2'
          have HAR : Hid (CallsIn Fence.wide 13 Try.prog 46 #[.slice va (mR TL).length vc, .agg #[.int .i64 za, .int .i64 zb, .int .i64 t]] w9 fun e w' => ∃ v', e = .returned v' ∧ Hid (JP w9 W.heap.size (.slice va (mR TL).length vc) (addR (mR TL) ⟨za, zb, t⟩) v' w')) := callsIn_wide.2 (addRun_any za zb t HM9.out.two.rv (Nat.le_trans hsW4 hb9.size) hRL)
          clear hb9 x2 y2' z2 z2'
          gi_wp2_with fail
          refine ⟨trivial, (CallsIn.inRound l3 (CallsIn.inRound l2 (CallsIn.inRound l HAR.out))).mono ?_⟩
          rintro e w10 ⟨v', rfl, HJ⟩
          obtain ⟨va', vc', rfl⟩ := own_slice HJ.out.own
          obtain ⟨k1, k2, k3, k4, k5, k6⟩ := HM9.out.run HJ.out
          have hc1 := k1.cell; have hf1 := k1.frozen
          have hfin : Mst W.heap.size w1.heap.size (w1.heap.size + 1) (some ⟨bp, 0, none⟩) (some ⟨bq, 0, none⟩) (some ⟨br, 0, none⟩) size [(Bz, ⟨za, zb, zc⟩), (By, ⟨ya, yb, yc⟩), (Bo, ⟨xa, xb, xc⟩)] (m3 pre tb.L tc.L ++ m3x ⟨xa, xb, xc⟩ pre2 tc.L ++ m3y ⟨xa, xb, xc⟩ ⟨ya, yb, yc⟩ (pre3 ++ [⟨za, zb, zc⟩])) (.slice va' (addR (mR TL) ⟨za, zb, t⟩).length vc') (.slice ua (mC TL).length uc) (w10.setCell ⟨w1.heap.size, 0, none⟩ (.slice va' (addR (mR TL) ⟨za, zb, t⟩).length vc')) :=
            ⟨by rw [HT3.out, HMR.out, HCE.out]; exact k2, k3, fun b hb => ⟨(k4 b hb).1, (HM9.out.rbs b hb).2⟩, fun b hb => (k4 b hb).2, HM9.out.hB, HM9.out.hC⟩
          have hp := hfin.pop
          have hbl := (HB9.out.mono hsW4).trans k5
          have hkp := (keeps_below HB9.out).trans k6
          clear hfin k1 k2 k3 k4 k5 k6 z0 z1 v0
          gi_wp2
          exact ⟨hkp.from _, hbl, ⟨⟨_, _, hp⟩, HLN.out⟩, HBW4.out.trans hbl, HKF4.out.trans (hkp.from _)⟩
      case done3 =>
        rintro ys3 W4 rfl ⟨⟨⟨v, u, d1⟩, d4⟩, hBW4, hKF4⟩
        have hl4 := HLC.out ya yb
        have hT : (m3 pre tb.L tc.L ++ m3x ⟨xa, xb, xc⟩ pre2 tc.L ++ m3y ⟨xa, xb, xc⟩ ⟨ya, yb, yc⟩ (clip ya yb tc.L)) = (m3 pre tb.L tc.L ++ m3x ⟨xa, xb, xc⟩ (pre2 ++ [⟨ya, yb, yc⟩]) tc.L) := by rw [m3x_snoc, List.append_assoc]
        rw [hT] at d1 d4
        have d5 : (m3 pre tb.L tc.L ++ m3x ⟨xa, xb, xc⟩ (pre2 ++ [⟨ya, yb, yc⟩]) tc.L).length ≤ pre.length * 16777216 + (pre2 ++ [(⟨ya, yb, yc⟩ : R)]).length * 4096 := by
          rw [len_snoc pre2, Nat.succ_mul, ← Nat.add_assoc]
          exact Nat.le_trans d4 (Nat.add_le_add_left hl4 _)
        have d6 := d1.pop
        have d7 := HBW.out.trans hBW4
        have d8 := HKF.out.trans hKF4
        have d9 : KeepsFrom w6.heap.size W3 W4 := KeepsFrom.up hKF4 (Nat.le_trans i8 i9)
        clear d1 d4 hT
        gi_wp2
        exact ⟨d9, hBW4, ⟨⟨_, _, d6⟩, d5⟩, d7, d8⟩
      case stop3 =>
        rintro c pre3 W4 _ h
        exact h.elim
    case done2 =>
      rintro ys2 W3 rfl ⟨⟨⟨v, u, c1⟩, c4⟩, hBW, hKF⟩
      have hl3 := HLB.out xa xb
      have hT : (m3 pre tb.L tc.L ++ m3x ⟨xa, xb, xc⟩ (clip xa xb tb.L) tc.L) = m3 (pre ++ [⟨xa, xb, xc⟩]) tb.L tc.L := by rw [m3_snoc]
      rw [hT] at c1 c4
      have c5 : (m3 (pre ++ [⟨xa, xb, xc⟩]) tb.L tc.L).length ≤ (pre ++ [(⟨xa, xb, xc⟩ : R)]).length * 16777216 := by
        rw [len_snoc pre, Nat.succ_mul]
        exact Nat.le_trans c4 (Nat.add_le_add_left (Nat.mul_le_mul_right 4096 hl3) _)
      have c6 := c1.pop
      have c7 := G5.out.trans hBW
      clear c1 c4 hT
      gi_wp2
      exact ⟨hKF, hBW, ⟨⟨_, _, c6⟩, c5⟩, c7⟩
    case stop2 =>
      rintro c pre2 W3 _ h
      exact h.elim
  case done =>
    rintro D ys W2 hD rfl ⟨⟨⟨v, u, g1⟩, g4⟩, g5⟩ hK
    rw [HCL.out] at g1
    obtain ⟨TT, hTT⟩ : ∃ TT, TT = m3 ta.L tb.L tc.L := ⟨_, rfl⟩
    rw [← hTT] at g1 HCAN
    have HTT := Lib.hid hTT
    have hv0 := g1.two.bv.cell; have hu0 := g1.two.bu.cell
    obtain ⟨va, vc, rfl⟩ := own_slice g1.two.rv
    obtain ⟨ua, uc, rfl⟩ := own_slice g1.two.ru
    have HG := Lib.hid g1
    have HK := Lib.hid hK
    have hr3 := g1.maps.m3.mb
    have d0 := hr3.c0; have d1 := hr3.c1; have d2 := hr3.f0; have d3 := hr3.f1
    have hm0 := g1.maps.m0.mb
    have b0 := hm0.c0; have b1 := hm0.c1
    have hDn : W.heap.size + 1 + 1 + 1 < D := by have := HSB.out.size; have := HST4.out.hB; have := HST4.out.two.bv.lt; omega
    have HFIN : Hid (∀ (W4 : World) (x y : Value), Below W2.heap.size W2 W4 → (((W4.setCell ⟨W.heap.size + 1 + 1 + 1, 0, none⟩ x).setCell ⟨W.heap.size + 1 + 1 + 1, 1, none⟩ y).heap[D]? = some (.deferred (some []))) ∧ ∀ o', Below W.heap.size W (((W4.setCell ⟨W.heap.size + 1 + 1 + 1, 0, none⟩ x).setCell ⟨W.heap.size + 1 + 1 + 1, 1, none⟩ y).putObj D o') ∧
        (((W4.setCell ⟨W.heap.size + 1 + 1 + 1, 0, none⟩ x).setCell ⟨W.heap.size + 1 + 1 + 1, 1, none⟩ y).putObj D o').cell? ⟨W.heap.size + 1 + 1 + 1, 0, none⟩ = some x ∧ (((W4.setCell ⟨W.heap.size + 1 + 1 + 1, 0, none⟩ x).setCell ⟨W.heap.size + 1 + 1 + 1, 1, none⟩ y).putObj D o').cell? ⟨W.heap.size + 1 + 1 + 1, 1, none⟩ = some y ∧
        (∀ k, k ≠ W.heap.size + 1 + 1 + 1 → k ≠ D → (((W4.setCell ⟨W.heap.size + 1 + 1 + 1, 0, none⟩ x).setCell ⟨W.heap.size + 1 + 1 + 1, 1, none⟩ y).putObj D o').heap[k]? = W4.heap[k]?)) := fun W4 x y hb4 => by
      obtain ⟨W5, hW5⟩ : ∃ W5, W5 = (W4.setCell ⟨W.heap.size + 1 + 1 + 1, 0, none⟩ x).setCell ⟨W.heap.size + 1 + 1 + 1, 1, none⟩ y := ⟨_, rfl⟩
      have hlt2 := (Array.getElem?_eq_some_iff.1 HK.out).1
      have hk5 : ∀ k, k ≠ W.heap.size + 1 + 1 + 1 → W5.heap[k]? = W4.heap[k]? := fun k hk => by rw [hW5]; exact (Below.heap_setCell _ _ _ k hk).trans (Below.heap_setCell _ _ _ k hk)
      have hD5 : W5.heap[D]? = some (.deferred (some [])) := (hk5 D (by omega)).trans ((hb4.block D hlt2).trans HK.out)
      have hb5 : Below W.heap.size W W5 := by rw [hW5]; exact below_put (g5.trans (hb4.mono g5.size)) (B := W.heap.size + 1 + 1 + 1) (by omega) x y
      have hm5 : Mb (W.heap.size + 1 + 1 + 1) none 0 W4 := hr3.next hb4
      have hq0 : W5.cell? ⟨W.heap.size + 1 + 1 + 1, 0, none⟩ = some x := by rw [hW5]; exact (World.cell?_setCell_other _ _ _ _ (by intro e; cases e)).trans (World.cell?_setCell_same _ _ _ hm5.c0)
      have hq1 : W5.cell? ⟨W.heap.size + 1 + 1 + 1, 1, none⟩ = some y := by rw [hW5]; exact World.cell?_setCell_same _ _ _ ((World.cell?_setCell_other _ _ _ _ (by intro e; cases e)).trans hm5.c1)
      rw [← hW5]
      refine ⟨hD5, fun o' => ⟨hb5.trans (belowK_b (w := W) (Nat.le_refl _) W5 D _ o' (by omega) hD5 rfl rfl), ?_, ?_, fun k h1 h2 => (World.putObj_heap_other h2).trans (hk5 k h1)⟩⟩
      · exact (World.cell?_of_block (w := W5) (World.putObj_heap_other (by show W.heap.size + 1 + 1 + 1 ≠ D; omega))).trans hq0
      · exact (World.cell?_of_block (w := W5) (World.putObj_heap_other (by show W.heap.size + 1 + 1 + 1 ≠ D; omega))).trans hq1
    by_cases hfull : 4096 < (mR TT).length
    · have hgt : ((mR TT).length : Int) > 4096 := by omega
      obtain ⟨hD3, hA3⟩ := HFIN.out W2 (.pointer none) (.int .i64 0) (Below.refl _ _)
      have HU : Hid (Upd o (mg o x y) size 0 none 0 5 W2) := .inr (.inl ⟨rfl, rfl, rfl, rfl, _, HCAN.out, hfull⟩)
      have HD3 := Lib.hid hD3; have HA3 := Lib.hid hA3
      clear g1 g4 hTT hD3 hA3 HFIN
      gi_wp2
      refine ⟨by simp, .inl ⟨_, _, rfl, run_takeDeferred HD3.out, ?_⟩⟩
      have h5 := HA3.out (.deferred none)
      obtain ⟨z1, z2, z3, z4⟩ := h5
      refine ⟨.tuple #[.agg #[.pointer none, .int .i64 0], .slice none 0 0, .int .i64 5], by simp [results, Try.results24, go_sem, z2, z3], none, 0, _, 5, rfl, ?_, .inl ⟨rfl, rfl⟩, z1⟩
      rcases HU.out with h | ⟨q1, q2, q3, q4, q5⟩ | ⟨_, h, _⟩
      · exact absurd rfl h.1
      · exact .inr (.inl ⟨q1, q2, q3, q4, q5⟩)
      · cases h
    · have hgt : ¬ ((mR TT).length : Int) > 4096 := by omega
      have hbd : Bd (mR TT) := ⟨by omega, Gs.Fits.bd HCAN.out.1 HCTX.out⟩
      have HRO : Hid (IsRo W2 (.slice va (mR TT).length vc) (mR TT)) := ro_row g1.two.rv
      have HBU : Hid (∀ W', Below W2.heap.size W2 W' → CallsIn Fence.wide 19 Try.prog 48 #[.slice va (mR TT).length vc] W' fun e w' => ∃ p, e = .returned (.pointer p) ∧ Hid (TrOf (mR TT) w' p) ∧ Below W2.heap.size W2 w') := fun W' h => callsIn_wide.2 ((build_any (mR TT).length (mR TT) va vc W' rfl (by obtain ⟨_, c', e, hc', _⟩ := HRO.out; injection e with _ _ e3; omega) (HRO.out.below h) hbd).mono fun e w' ⟨p, he, ht, hb⟩ => ⟨p, he, ht, h.trans (hb.mono h.size)⟩)
      have HAL2 : Hid (∀ W', Below W2.heap.size W2 W' → W'.cell? ⟨w1.heap.size, 0, none⟩ = some (.slice va (mR TT).length vc) ∧ W'.cell? ⟨w1.heap.size + 1, 0, none⟩ = some (.slice ua (mC TT).length uc) ∧ W'.cell? ⟨W.heap.size, 1, none⟩ = some (.int .i64 size) ∧ Mb (W.heap.size + 1 + 1 + 1) none 0 W') := fun W' h => ⟨(HG.out.two.next h).bv.cell, (HG.out.two.next h).bu.cell, (hm0.next h).c1, hr3.next h⟩
      have hs2 : Below W2.heap.size W2 W2.drew := (Below.refl _ _).drew
      clear g1 g4 hTT hu0 d0 d1 d2 d3 b0 b1
      gi_wp2
      clear hv0
      obtain ⟨t0, t1, t2, t3⟩ := HAL2.out _ hs2
      have t4 := t3.c0; have t5 := t3.c1; have t6 := t3.f0; have t7 := t3.f1
      clear t3
      gi_cut [7, 8] from 80 (fun s7 s8 W1 => s7 = .slice ua (mC TT).length uc ∧ s8 = .int .i64 0 ∧ ∃ p W4, Hid (TrOf (mR TT) W4 p) ∧ Hid (Below W2.heap.size W2 W4) ∧ W1 = (W4.setCell ⟨W.heap.size + 1 + 1 + 1, 0, none⟩ (.pointer p)).setCell ⟨W.heap.size + 1 + 1 + 1, 1, none⟩ (.int .i64 size))
      case first =>
        refine wpIn_mono ?_ (then_false (Q := _))
        gi_region_with (first | (refine ⟨trivial, ?_⟩; with_reducible refine (HBU.out _ ?h).mono ?_; (case h => assumption); rintro e w4 ⟨p, rfl, HT, hb4⟩; obtain ⟨t0, t1, t2, t3⟩ := HAL2.out _ hb4; have t4 := t3.c0; have t5 := t3.c1; have t6 := t3.f0; have t7 := t3.f1) | fail)
        all_goals
          go_simp
          gi_wp2_with fail
          gi_meet
          first | exact ⟨rfl, rfl, p, w4, HT, hb4, rfl⟩ | (case rel => exact ⟨rfl, rfl, p, w4, HT, hb4, rfl⟩)
      case rest =>
        obtain ⟨rfl, rfl, p, W4, HT, HB4, rfl⟩ := hcut
        obtain ⟨hD3, hA3⟩ := HFIN.out W4 (.pointer p) (.int .i64 size) HB4.out
        have HD3 := Lib.hid hD3; have HA3 := Lib.hid hA3
        clear hD3 hA3 HFIN
        gi_wp2
        refine ⟨by simp, .inl ⟨_, _, rfl, run_takeDeferred HD3.out, ?_⟩⟩
        have h5 := HA3.out (.deferred none)
        obtain ⟨z1, z2, z3, z4⟩ := h5
        refine ⟨.tuple #[.agg #[.pointer p, .int .i64 size], .slice ua (mC TT).length uc, .int .i64 0], by simp [results, Try.results24, go_sem, z2, z3], p, size, _, 0, rfl, ?_, .inr ⟨rfl, ?_⟩, z1⟩
        · refine .inr (.inr ⟨rfl, rfl, rfl, ?_⟩)
          obtain ⟨t9, e9, i9⟩ := HT.out
          refine ⟨hs, HCTX.out, t9, ?_, by rw [e9]; exact HCAN.out, by rw [T.sz_eq, e9]; omega⟩
          refine IsT.keep (fun b hb => z4 b (fun e => ?_) fun e => ?_) i9
          · subst e
            rw [(HAL2.out _ HB4.out).2.2.2.c22] at hb
            cases hb
          · subst e
            have h7 : W4.heap[b]? = some (.deferred (some [])) := (HB4.out.block b (Array.getElem?_eq_some_iff.1 HK.out).1).trans HK.out
            simp [World.cell?, h7] at hb
        · rw [← HTT.out]
          refine row_keep HG.out.two.ru fun k hk ek => (z4 k (fun e => ?_) fun e => ?_).trans (HB4.out.block k hk)
          · exact ne_row HG.out.maps.m3 (by decide) HG.out.two.ru (by rw [ek, e])
          · have h8 := own_cells HG.out.two.ru k _ ek (by rw [e]; exact HK.out)
            cases h8
  case stop =>
    rintro D c pre W2 _ _ h _
    exact h.elim
end Go.Proofs.Ytahgfggcpmnnaab
namespace Go.Proofs.Ytahgfggcpmnnaab
open Go Go.RowKit Gs

theorem Mo.runs2 {size : Int} {c : Nat} {f0 f : Int → Int} {l : List Act} (h : Mo size f0 l f) (h0 : ∃ k, Fits f0 0 k size ∧ k.length ≤ c) : ∃ k, Fits f 0 k size ∧ k.length ≤ 2 * l.length + c := by
  induction h with
  | nil => simpa using h0
  | snoc _ h1 ih =>
    obtain ⟨k, hk, hl⟩ := ih
    rw [List.length_append, List.length_singleton]
    rcases h1 with ⟨rfl, he, _⟩ | ⟨rfl, _⟩
    · obtain ⟨k', hk', hl'⟩ := act_runs hk he
      exact ⟨k', hk', by omega⟩
    · exact ⟨k, hk, by omega⟩
/-- a map that further updates have made of one with few runs has few runs -/
theorem Mo.short {size : Int} {c : Nat} {f0 f : Int → Int} {l : List Act} {L0 L : List R} (h : Mo size f0 l f) (h0 : Fits f0 0 L0 size) (hc : L0.length ≤ c) (hL : Gs.Can f 0 L size) : L.length ≤ 2 * l.length + c := by
  obtain ⟨k, a1, a2⟩ := h.runs2 ⟨L0, h0, hc⟩
  exact Nat.le_trans (can_short hL a1) a2
/-- Merge, where there is room -/
theorem Merge_same {o x y : Int → Int} {size : Int} {W : World} {p q r : Option Addr} {La Lx Ly : List R} {N : Nat} (h : IsM o size W p) (h' : IsM x size W q) (h'' : IsM y size W r) (ho : Gs.Can o 0 La size) (hx : Gs.Can x 0 Lx size) (hy : Gs.Can y 0 Ly size) (hroom : La.length + Lx.length + Ly.length ≤ 4096) (hN : N = (mC (m3 La Lx Ly)).length) :
    Calls Try.prog 24 #[.agg #[.pointer p, .int .i64 size], .agg #[.pointer q, .int .i64 size], .agg #[.pointer r, .int .i64 size]] W fun e w' => ∃ mp a c, e = .returned (.tuple #[.agg #[.pointer mp, .int .i64 size], .slice a N c, .int .i64 0]) ∧
      Hid (IsM (mg o x y) size w' mp) ∧ Hid (RowC W.heap.size (.slice a N c) (mC (m3 La Lx Ly)) w') ∧ Below W.heap.size W w' := by
  have hlen := m3_len ho hx hy (B3.of h.ctx h'.ctx h''.ctx)
  have hcan := mR_can (m3_f3 ho hx hy (B3.of h.ctx h'.ctx h''.ctx))
  obtain ⟨La', Lx', Ly', h1, h2, h3, -, -, -, h4⟩ := Merge_any h h' h''
  have e1 := h1.same ho
  have e2 := h2.same hx
  have e3 := h3.same hy
  subst e1; subst e2; subst e3; subst hN
  refine h4.mono ?_
  rintro e w' ⟨mp, ms, u, E, rfl, hU, hC, hB⟩
  rcases hU.out with ⟨h5, _⟩ | ⟨_, _, _, _, L, hL, hl⟩ | ⟨_, rfl, rfl, hm⟩
  · exact absurd rfl h5
  · have := hL.same hcan
    subst this
    have := mR_len (m3 La' Lx' Ly')
    omega
  · rcases hC.out with ⟨h5, _⟩ | ⟨_, hr⟩
    · cases h5
    · have hr2 := hr
      obtain ⟨a, c, rfl⟩ := own_slice hr
      exact ⟨mp, a, c, rfl, hm, hr2, hB⟩
theorem row_cs {base : Nat} {v : Value} {K : List Ch} {W : World} (h : RowC base v K W) : IsCs W v K := IsCs.of_row h
end Go.Proofs.Ytahgfggcpmnnaab
namespace Go.Proofs.Ytahgfggcpmnnaab
open Go Go.RowKit Gs

/-- what lay in w lies -/
def Kw (w W : World) : Prop := Below w.heap.size w W
/-- a box at or above w's end that holds no map yet -/
structure Zm (w : World) (X : Nat) (W : World) : Prop where
  ge : w.heap.size ≤ X
  mb : Mb X none 0 W
theorem Mb.put2 {B : Nat} {p0 : Option Addr} {s0 : Int} {W : World} (h : Mb B p0 s0 W) (p : Option Addr) (s : Int) : Mb B p s ((W.setCell ⟨B, 0, none⟩ (.pointer p)).setCell ⟨B, 1, none⟩ (.int .i64 s)) :=
  ⟨(World.cell?_setCell_other _ _ _ _ (by intro e; cases e)).trans (World.cell?_setCell_same _ _ _ h.c0), World.cell?_setCell_same _ _ _ ((World.cell?_setCell_other _ _ _ _ (by intro e; cases e)).trans h.c1),
   (World.frozen?_setCell _ _ _ _).trans ((World.frozen?_setCell _ _ _ _).trans h.f0), (World.frozen?_setCell _ _ _ _).trans ((World.frozen?_setCell _ _ _ _).trans h.f1),
   (World.cell?_setCell_other _ _ _ _ (by intro e; cases e)).trans ((World.cell?_setCell_other _ _ _ _ (by intro e; cases e)).trans h.c22), by rw [World.size_setCell, World.size_setCell]; exact h.lt⟩
theorem Mb.far {A B : Nat} {p : Option Addr} {s : Int} {W : World} (h : Mb A p s W) (hne : A ≠ B) (u v : Value) : Mb A p s ((W.setCell ⟨B, 0, none⟩ u).setCell ⟨B, 1, none⟩ v) := by
  have e : ∀ (i j : Nat), (⟨B, j, none⟩ : Addr) ≠ ⟨A, i, none⟩ := fun i j e => hne (by injection e with e1; exact e1.symm)
  have e' : ∀ (i j : Nat), (⟨A, i, none⟩ : Addr) ≠ ⟨B, j, none⟩ := fun i j h => e i j h.symm
  exact ⟨(World.cell?_setCell_other _ _ _ _ (by first | exact e 0 1 | exact e' 0 1)).trans ((World.cell?_setCell_other _ _ _ _ (by first | exact e 0 0 | exact e' 0 0)).trans h.c0), (World.cell?_setCell_other _ _ _ _ (by first | exact e 1 1 | exact e' 1 1)).trans ((World.cell?_setCell_other _ _ _ _ (by first | exact e 1 0 | exact e' 1 0)).trans h.c1),
   (World.frozen?_setCell _ _ _ _).trans ((World.frozen?_setCell _ _ _ _).trans h.f0), (World.frozen?_setCell _ _ _ _).trans ((World.frozen?_setCell _ _ _ _).trans h.f1),
   (World.cell?_setCell_other _ _ _ _ (by first | exact e 22 1 | exact e' 22 1)).trans ((World.cell?_setCell_other _ _ _ _ (by first | exact e 22 0 | exact e' 22 0)).trans h.c22), by rw [World.size_setCell, World.size_setCell]; exact h.lt⟩
section
variable {w W W' : World} {X Y : Nat} {f : Int → Int} {s : Int} {q : Option Addr}
theorem Kw.alloc (h : Kw w W) (o : Obj) : Kw w (W.alloc o) := Below.alloc h h.size o
theorem Kw.drew (h : Kw w W) : Kw w W.drew := Below.drew h
theorem Kw.put2 (h : Kw w W) (hz : w.heap.size ≤ X) (u v : Value) : Kw w ((W.setCell ⟨X, 0, none⟩ u).setCell ⟨X, 1, none⟩ v) := Below.setCell (Below.setCell h (p := ⟨X, 0, none⟩) hz u) (p := ⟨X, 1, none⟩) hz v
theorem Kw.next (h : Kw w W) (hb : Below W.heap.size W W') : Kw w W' := Below.trans h (hb.mono h.size)
theorem Zm.top (h : Kw w W) : Zm w W.heap.size (W.alloc (.cells #[.pointer none, .int .i64 0] 27)) := ⟨h.size, Mb.new _ _ _ _⟩
theorem Zm.next (h : Zm w X W) (hb : Below W.heap.size W W') : Zm w X W' := ⟨h.ge, h.mb.next hb⟩
theorem Zm.alloc (h : Zm w X W) (o : Obj) : Zm w X (W.alloc o) := h.next ((Below.refl _ _).alloc (Nat.le_refl _) _)
theorem Zm.drew (h : Zm w X W) : Zm w X W.drew := h.next ((Below.refl _ _).drew)
theorem Zm.top1 (h : Kw w W) (o : Obj) : Zm w (W.heap.size + 1) ((W.alloc o).alloc (.cells #[.pointer none, .int .i64 0] 27)) := by
  have := Zm.top (h.alloc o)
  rwa [World.size_alloc] at this
theorem Zm.top2 (h : Kw w W) (o o' : Obj) : Zm w (W.heap.size + 1 + 1) (((W.alloc o).alloc o').alloc (.cells #[.pointer none, .int .i64 0] 27)) := by
  have := Zm.top ((h.alloc o).alloc o')
  rwa [World.size_alloc, World.size_alloc] at this
theorem Zm.far (h : Zm w X W) (hne : X ≠ Y) (u v : Value) : Zm w X ((W.setCell ⟨Y, 0, none⟩ u).setCell ⟨Y, 1, none⟩ v) := ⟨h.ge, h.mb.far hne u v⟩
theorem IsM.alloc (h : IsM f s W q) (o : Obj) : IsM f s (W.alloc o) q := h.below ((Below.refl _ _).alloc (Nat.le_refl _) _)
theorem IsM.drew (h : IsM f s W q) : IsM f s W.drew q := h.below (Below.refl _ _).drew
theorem IsM.put2 {p0 : Option Addr} {s0 : Int} (h : IsM f s W q) (hz : Mb X p0 s0 W) (u v : Value) : IsM f s ((W.setCell ⟨X, 0, none⟩ u).setCell ⟨X, 1, none⟩ v) q :=
  ⟨h.lo, h.ctx, (h.tr.set hz.c22 u).set ((World.cell?_setCell_other _ _ _ _ (by intro e; cases e)).trans hz.c22) v⟩
theorem Kw.size (h : Kw w W) : w.heap.size ≤ W.heap.size := Below.size h
theorem Mb.putz (h : Zm w X W) (p : Option Addr) (s : Int) : Mb X p s ((W.setCell ⟨X, 0, none⟩ (.pointer p)).setCell ⟨X, 1, none⟩ (.int .i64 s)) := h.mb.put2 p s
theorem Mb.allocm {p : Option Addr} (h : Mb X p s W) (o : Obj) : Mb X p s (W.alloc o) := h.next ((Below.refl _ _).alloc (Nat.le_refl _) _)
theorem Mb.new1 (W : World) (o : Obj) (p : Option Addr) (s : Int) (T : TypeId) : Mb (W.heap.size + 1) p s ((W.alloc o).alloc (.cells #[.pointer p, .int .i64 s] T)) := by
  have := Mb.new (W.alloc o) p s T
  rwa [World.size_alloc] at this
theorem IsM.putz (h : IsM f s W q) (hz : Zm w X W) (u v : Value) : IsM f s ((W.setCell ⟨X, 0, none⟩ u).setCell ⟨X, 1, none⟩ v) q := h.put2 hz.mb u v
end
/-- two maps in their boxes -/
structure Pm (w : World) (A B : Nat) (qa qb : Option Addr) (fa fb : Int → Int) (s : Int) (W : World) : Prop where
  k : Kw w W
  ia : IsM fa s W qa
  ib : IsM fb s W qb
  ma : Mb A qa s W
  mb : Mb B qb s W
end Go.Proofs.Ytahgfggcpmnnaab
namespace Go.Proofs.Ytahgfggcpmnnaab
open Go Go.RowKit Gs

/-- the operations that operation i waits for -/
def rdeps (md : Region.Mode) (ops : Array Oper) (i : Nat) : List Nat := match ops[i]? with
  | some o => (o.after.toList.filter fun e => Region.binds md e).map fun e => e.on
  | none => []
/-- those that it waits for, by way of others -/
def rreach (md : Region.Mode) (ops : Array Oper) : Nat → Nat → List Nat
  | 0, _ => []
  | f + 1, i => rdeps md ops i ++ (rdeps md ops i).flatMap (rreach md ops f)
def upd (x : Nat → Value) (i : Nat) (v : Value) : Nat → Value := fun j => if j = i then v else x j
theorem upd_same (x : Nat → Value) (i : Nat) (v : Value) : upd x i v i = v := if_pos rfl
theorem upd_other {x : Nat → Value} {i j : Nat} (v : Value) (h : j ≠ i) : upd x i v j = x j := if_neg h
/-- how many of the first m are not listed -/
def left (listed : Array Bool) (m : Nat) : Nat := ((List.range m).filter fun i => !listed.getD i true).length
theorem left_zero {listed : Array Bool} {m : Nat} (h : left listed m = 0) : ∀ i, i < m → listed.getD i true = true := by
  intro i hi
  have h1 := List.eq_nil_of_length_eq_zero h
  have h2 := List.filter_eq_nil_iff.1 h1 i (List.mem_range.2 hi)
  simpa using h2
theorem left_pos {listed : Array Bool} : ∀ {m : Nat}, left listed m ≠ 0 → ∃ i, i < m ∧ listed.getD i true = false ∧ ∀ j, j < i → listed.getD j true = true
  | 0, h => absurd rfl h
  | m + 1, h => by
    by_cases h0 : left listed m = 0
    · refine ⟨m, Nat.lt_succ_self m, ?_, left_zero h0⟩
      unfold left at h h0
      rw [List.range_succ, List.filter_append, List.length_append, h0] at h
      cases hx : listed.getD m true with
      | false => rfl
      | true =>
        simp only [List.filter_cons, List.filter_nil, hx] at h
        exact absurd rfl h
    · obtain ⟨i, h1, h2, h3⟩ := left_pos h0
      exact ⟨i, by omega, h2, h3⟩
theorem getD_set {listed : Array Bool} {i j : Nat} {d : Bool} (hi : i < listed.size) : (listed.setIfInBounds i true).getD j d = if j = i then true else listed.getD j d := by
  by_cases e : j = i
  · subst e
    rw [if_pos rfl]
    simp [Array.getD, hi]
  · rw [if_neg e]
    unfold Array.getD
    simp only [Array.size_setIfInBounds]
    split
    · rename_i h
      exact Array.getElem_setIfInBounds_ne h (Ne.symm e)
    · rfl
theorem left_set {listed : Array Bool} {i : Nat} (hi : i < listed.size) (h0 : listed.getD i true = false) : ∀ {m : Nat}, i < m → left listed m = left (listed.setIfInBounds i true) m + 1
  | 0, h => absurd h (Nat.not_lt_zero _)
  | m + 1, h => by
    unfold left
    rw [List.range_succ, List.filter_append, List.filter_append, List.length_append, List.length_append]
    by_cases e : i = m
    · subst e
      have h1 : ((List.range i).filter fun k => !(listed.setIfInBounds i true).getD k true) = (List.range i).filter fun k => !listed.getD k true := by
        refine List.filter_congr fun k hk => ?_
        rw [getD_set hi, if_neg (by have := List.mem_range.1 hk; omega)]
      rw [h1]
      have h2 : (listed.setIfInBounds i true).getD i true = true := by rw [getD_set hi, if_pos rfl]
      simp only [List.filter_cons, List.filter_nil, h0, h2]
      simp
    · have h1 := left_set hi h0 (m := m) (by omega)
      unfold left at h1
      have h2 : (listed.setIfInBounds i true).getD m true = listed.getD m true := by rw [getD_set hi, if_neg (fun h => e h.symm)]
      simp only [List.filter_cons, List.filter_nil, h2]
      omega
/-- **EACH OPERATION OF THE HEAD (the first m) SAYS ONCE WHAT IT YIELDS (T), FROM WHATEVER WORLD THAT KEEPS w0 AND FROM WHAT IT WAITS FOR; what is said of one abides what the others do.** Behind the head the tail begins, whatever the order was. -/
theorem region_each {P : Program} {md : Region.Mode} {ops : Array Oper} {Q : Exit → Go.Act → World → Prop} (w0 : World) (m : Nat) (F : (Nat → Value) → Go.Act) (T : Nat → Value → World → Prop) (G : Nat → Nat → Value → Value → Prop)
    (hm : m ≤ ops.size) (hdag : ∀ i, i < m → ∀ j ∈ rdeps md ops i, j < i) (htail : ∀ i, i < ops.size → m ≤ i → ∀ j, j < m → j ∈ rreach md ops 6 i)
    (hT : ∀ i v w w', T i v w → Below w.heap.size w w' → T i v w')
    (hspec : ∀ i, i < m → ∃ o, ops[i]? = some o ∧ ∀ x w, Kw w0 w → (∀ j ∈ rdeps md ops i, T j (x j) w) → ∀ K' : Go.Act → World → Prop, (∀ v w', T i v w' → Below w.heap.size w w' → (∀ j u, T j u w → G i j v u ∧ G j i u v) → K' (F (upd x i v)) w') →
      if Region.wanted o (yielded ops (F x).tmps) = true then Oper.wp P o (F x) w K' Q else K' ((F x).put o.dst undef) w)
    (hfin : ∀ x w listed, Kw w0 w → (∀ i, i < m → T i (x i) w) → (∀ i j, i < m → j < m → i ≠ j → G i j (x i) (x j)) → listed = Array.replicate m true ++ Array.replicate (ops.size - m) false → wpAny P md ops Q (ops.size - m) listed (F x) w) :
    ∀ c listed x w, Kw w0 w → left listed m = c → listed.size = ops.size → (∀ i, m ≤ i → i < ops.size → listed.getD i true = false) → (∀ i, i < ops.size → listed.getD i true = true → ∀ j ∈ rdeps md ops i, listed.getD j true = true) →
      (∀ i, i < m → listed.getD i true = true → T i (x i) w) → (∀ i j, i < m → j < m → i ≠ j → listed.getD i true = true → listed.getD j true = true → G i j (x i) (x j)) → wpAny P md ops Q (c + (ops.size - m)) listed (F x) w := by
  intro c
  induction c with
  | zero =>
    intro listed x w hk hc hsz htl hid hTl hG
    have hall := left_zero hc
    rw [Nat.zero_add]
    refine hfin x w listed hk (fun i hi => hTl i hi (hall i hi)) (fun i j hi hj hne => hG i j hi hj hne (hall i hi) (hall j hj)) ?_
    refine Array.ext (by simp; omega) fun i h1 h2 => ?_
    have hg : listed.getD i true = listed[i] := by simp [Array.getD, h1]
    by_cases h3 : i < m
    · rw [← hg, hall i h3, Array.getElem_append_left (by simpa using h3)]
      simp
    · rw [← hg, htl i (by omega) (by omega), Array.getElem_append_right (by simp; omega)]
      simp
  | succ c ih =>
    intro listed x w hk hc hsz htl hid hTl hG
    have hdep : ∀ {i : Nat} {o : Oper}, ops[i]? = some o → (∀ e ∈ o.after, Region.binds md e = true → listed.getD e.on false = true) → ∀ j ∈ rdeps md ops i, listed.getD j true = true := fun {i o} ho h j hj => by
      unfold rdeps at hj
      rw [ho] at hj
      obtain ⟨e, he, rfl⟩ := List.mem_map.1 hj
      obtain ⟨h1, h2⟩ := List.mem_filter.1 he
      have h3 := h e (Array.mem_toList_iff.1 h1) h2
      unfold Array.getD at h3 ⊢
      by_cases hs : e.on < listed.size
      · rw [dif_pos hs] at h3 ⊢; exact h3
      · rw [dif_neg hs] at h3; cases h3
    have hrch : ∀ f i, (∀ j ∈ rdeps md ops i, listed.getD j true = true) → ∀ j ∈ rreach md ops f i, listed.getD j true = true := by
      intro f
      induction f with
      | zero => intro i _ j hj; cases hj
      | succ f ihf =>
        intro i hi j hj
        rcases List.mem_append.1 hj with h | h
        · exact hi j h
        · obtain ⟨k, hk1, hk2⟩ := List.mem_flatMap.1 h
          refine ihf k (fun j' hj' => ?_) j hk2
          by_cases hks : k < ops.size
          · exact hid k hks (hi k hk1) j' hj'
          · unfold rdeps at hj'
            rw [Array.getElem?_eq_none (by omega)] at hj'
            cases hj'
    have hne : left listed m ≠ 0 := by omega
    rw [Nat.succ_add]
    refine ⟨fun hr => ?_, fun i hi => ?_⟩
    · exfalso
      obtain ⟨i, h1, h2, h3⟩ := left_pos hne
      obtain ⟨o, ho, -⟩ := hspec i h1
      have : i ∈ Region.ready md ops listed := mem_ready.2 ⟨h2, o, ho, fun e he hb => by
        have hj : e.on ∈ rdeps md ops i := by
          unfold rdeps
          rw [ho]
          exact List.mem_map.2 ⟨e, List.mem_filter.2 ⟨Array.mem_toList_iff.2 he, hb⟩, rfl⟩
        have h4 := hdag i h1 _ hj
        have h5 := h3 _ h4
        have h6 : e.on < listed.size := by omega
        simp [Array.getD, h6] at h5 ⊢
        exact h5⟩
      rw [hr] at this
      cases this
    · obtain ⟨h2, o, ho, hbd⟩ := mem_ready.1 hi
      have his : i < ops.size := (Array.getElem?_eq_some_iff.1 ho).1
      have hdp := hdep ho hbd
      by_cases h1 : i < m
      · obtain ⟨o', ho', hsp⟩ := hspec i h1
        obtain rfl : o' = o := by rw [ho] at ho'; injection ho' with h; exact h.symm
        refine wpOp_step ho fun K' hK => hsp x w hk (fun j hj => hTl j (by have := hdag i h1 j hj; omega) (hdp j hj)) K' fun v w' hv hb hg => hK _ _ (ih _ (upd x i v) w' (hk.next hb) ?_ (by simp [hsz]) (fun j j1 j2 => ?_) (fun j j1 j2 k hk2 => ?_) (fun j j1 j2 => ?_) (fun j k j1 k1 hjk j2 k2 => ?_))
        · have := left_set (listed := listed) (by omega) h2 h1
          omega
        · rw [getD_set (by omega), if_neg (by omega)]
          exact htl j j1 j2
        · rw [getD_set (by omega)] at j2 ⊢
          by_cases e : k = i
          · rw [if_pos e]
          · rw [if_neg e]
            by_cases e2 : j = i
            · subst e2; exact hdp k hk2
            · rw [if_neg e2] at j2
              exact hid j j1 j2 k hk2
        · rw [getD_set (by omega)] at j2
          by_cases e : j = i
          · subst e; rw [upd_same]; exact hv
          · rw [if_neg e] at j2
            rw [upd_other _ e]
            exact hT _ _ _ _ (hTl j j1 j2) hb
        · rw [getD_set (by omega)] at j2 k2
          by_cases e : j = i
          · subst e
            rw [if_neg (Ne.symm hjk)] at k2
            rw [upd_same, upd_other _ (Ne.symm hjk)]
            exact (hg k _ (hTl k k1 k2)).1
          · rw [if_neg e] at j2
            rw [upd_other _ e]
            by_cases e2 : k = i
            · subst e2
              rw [upd_same]
              exact (hg j _ (hTl j j1 j2)).2
            · rw [if_neg e2] at k2
              rw [upd_other _ e2]
              exact hG j k j1 k1 hjk j2 k2
      · exfalso
        obtain ⟨k, k1, k2, -⟩ := left_pos hne
        have := hrch 6 i hdp k (htail i his (by omega) k k1)
        rw [k2] at this
        cases this
theorem getD_replicate {k i : Nat} {d : Bool} (h : i < k) : (Array.replicate k false).getD i d = false := by
  simp [Array.getD, h]
theorem left_new {k m : Nat} (h : m ≤ k) : left (Array.replicate k false) m = m := by
  unfold left
  rw [List.filter_eq_self.2 (fun i hi => by rw [getD_replicate (Nat.lt_of_lt_of_le (List.mem_range.1 hi) h)]; rfl), List.length_range]
/-- **A REGION WHOSE HEAD's OPERATIONS SAY EACH WHAT IT YIELDS.** -/
theorem region_all {P : Program} {ops : Array Oper} {Q : Exit → Go.Act → World → Prop} {id : Nat} {a : Go.Act} (w0 : World) (m : Nat) (F : (Nat → Value) → Go.Act) (T : Nat → Value → World → Prop) (G : Nat → Nat → Value → Value → Prop) (x0 : Nat → Value) (ha : a = F x0) (hmix : P.follows .mixedOrders = true)
    (hm : m ≤ ops.size) (hdag : ∀ i, i < m → ∀ j ∈ rdeps .any ops i, j < i) (htail : ∀ i, i < ops.size → m ≤ i → ∀ j, j < m → j ∈ rreach .any ops 6 i)
    (hT : ∀ i v w w', T i v w → Below w.heap.size w w' → T i v w')
    (hspec : ∀ i, i < m → ∃ o, ops[i]? = some o ∧ ∀ x w, Kw w0 w → (∀ j ∈ rdeps .any ops i, T j (x j) w) → ∀ K' : Go.Act → World → Prop, (∀ v w', T i v w' → Below w.heap.size w w' → (∀ j u, T j u w → G i j v u ∧ G j i u v) → K' (F (upd x i v)) w') →
      if Region.wanted o (yielded ops (F x).tmps) = true then Oper.wp P o (F x) w K' Q else K' ((F x).put o.dst undef) w)
    (hfin : ∀ x w listed, Kw w0 w → (∀ i, i < m → T i (x i) w) → (∀ i j, i < m → j < m → i ≠ j → G i j (x i) (x j)) → listed = Array.replicate m true ++ Array.replicate (ops.size - m) false → wpAny P .any ops Q (ops.size - m) listed (F x) w) :
    (Code.region id ops true).wp P Q a w0 := by
  refine wp_region_any hmix ?_
  have h := region_each w0 m F T G hm hdag htail hT hspec hfin m (Array.replicate ops.size false) x0 w0.drew (Below.refl _ _).drew (left_new hm) (by simp) (fun i _ h2 => getD_replicate h2) (fun i h1 h2 => by rw [getD_replicate h1] at h2; cases h2) (fun i h1 h2 => by rw [getD_replicate (Nat.lt_of_lt_of_le h1 hm)] at h2; cases h2) (fun i j h1 _ _ h2 => by rw [getD_replicate (Nat.lt_of_lt_of_le h1 hm)] at h2; cases h2)
  rw [show m + (ops.size - m) = ops.size by omega] at h
  rw [ha]
  exact h
end Go.Proofs.Ytahgfggcpmnnaab
namespace Go.Proofs.Ytahgfggcpmnnaab
open Go Go.RowKit Gs

def actV (a : Act) : Value := .agg #[.bool a.sw, .int .i64 a.lo, .int .i64 a.hi, .int .i64 a.fr, .int .i64 a.tt]
/-- what each operation yields -/
def T2 (w0 : World) (s : Int) (p p' : Option Addr) (f f' : Int → Int) (a b : Act) (i : Nat) (v : Value) (w : World) : Prop :=
  (i = 0 → v = .agg #[.pointer p, .int .i64 s]) ∧ (i = 1 → v = actV a) ∧ (i = 2 → ∃ B, v = .slice (some ⟨B, 0, none⟩) 1 1 ∧ IsAs w v [a]) ∧
  (i = 3 → ∃ q g, v = .agg #[.pointer q, .int .i64 s] ∧ IsM g s w q ∧ Mo s f [a] g) ∧
  (i = 4 → v = .agg #[.pointer p', .int .i64 s]) ∧ (i = 5 → v = actV b) ∧ (i = 6 → ∃ B, v = .slice (some ⟨B, 0, none⟩) 1 1 ∧ IsAs w v [b]) ∧
  (i = 7 → ∃ q g, v = .agg #[.pointer q, .int .i64 s] ∧ IsM g s w q ∧ Mo s f' [b] g) ∧
  (i = 8 → ∃ X, v = .pointer (some ⟨X, 0, none⟩) ∧ Zm w0 X w) ∧ (i = 9 → ∃ X, v = .pointer (some ⟨X, 0, none⟩) ∧ Zm w0 X w)
theorem T2.next {w0 : World} {s : Int} {p p' : Option Addr} {f f' : Int → Int} {a b : Act} (i : Nat) (v : Value) (w w' : World) (h : T2 w0 s p p' f f' a b i v w) (hb : Below w.heap.size w w') : T2 w0 s p p' f f' a b i v w' := by
  obtain ⟨h0, h1, h2, h3, h4, h5, h6, h7, h8, h9⟩ := h
  refine ⟨h0, h1, fun e => ?_, fun e => ?_, h4, h5, fun e => ?_, fun e => ?_, fun e => ?_, fun e => ?_⟩
  · obtain ⟨B, k1, k2⟩ := h2 e; exact ⟨B, k1, k2.below hb⟩
  · obtain ⟨q, g, k1, k2, k3⟩ := h3 e; exact ⟨q, g, k1, k2.below hb, k3⟩
  · obtain ⟨B, k1, k2⟩ := h6 e; exact ⟨B, k1, k2.below hb⟩
  · obtain ⟨q, g, k1, k2, k3⟩ := h7 e; exact ⟨q, g, k1, k2.below hb, k3⟩
  · obtain ⟨X, k1, k2⟩ := h8 e; exact ⟨X, k1, k2.next hb⟩
  · obtain ⟨X, k1, k2⟩ := h9 e; exact ⟨X, k1, k2.next hb⟩
section
variable {w0 : World} {s : Int} {p p' : Option Addr} {f f' : Int → Int} {a b : Act} {v : Value} {w : World}
theorem T2.at0 (h : v = .agg #[.pointer p, .int .i64 s]) : T2 w0 s p p' f f' a b 0 v w := ⟨fun _ => h, fun e => absurd e (by decide), fun e => absurd e (by decide), fun e => absurd e (by decide), fun e => absurd e (by decide), fun e => absurd e (by decide), fun e => absurd e (by decide), fun e => absurd e (by decide), fun e => absurd e (by decide), fun e => absurd e (by decide)⟩
theorem T2.of0 (h : T2 w0 s p p' f f' a b 0 v w) : v = .agg #[.pointer p, .int .i64 s] := h.1 rfl
theorem T2.at1 (h : v = actV a) : T2 w0 s p p' f f' a b 1 v w := ⟨fun e => absurd e (by decide), fun _ => h, fun e => absurd e (by decide), fun e => absurd e (by decide), fun e => absurd e (by decide), fun e => absurd e (by decide), fun e => absurd e (by decide), fun e => absurd e (by decide), fun e => absurd e (by decide), fun e => absurd e (by decide)⟩
theorem T2.of1 (h : T2 w0 s p p' f f' a b 1 v w) : v = actV a := h.2.1 rfl
theorem T2.at2 (h : ∃ B, v = .slice (some ⟨B, 0, none⟩) 1 1 ∧ IsAs w v [a]) : T2 w0 s p p' f f' a b 2 v w := ⟨fun e => absurd e (by decide), fun e => absurd e (by decide), fun _ => h, fun e => absurd e (by decide), fun e => absurd e (by decide), fun e => absurd e (by decide), fun e => absurd e (by decide), fun e => absurd e (by decide), fun e => absurd e (by decide), fun e => absurd e (by decide)⟩
theorem T2.of2 (h : T2 w0 s p p' f f' a b 2 v w) : ∃ B, v = .slice (some ⟨B, 0, none⟩) 1 1 ∧ IsAs w v [a] := h.2.2.1 rfl
theorem T2.at3 (h : ∃ q g, v = .agg #[.pointer q, .int .i64 s] ∧ IsM g s w q ∧ Mo s f [a] g) : T2 w0 s p p' f f' a b 3 v w := ⟨fun e => absurd e (by decide), fun e => absurd e (by decide), fun e => absurd e (by decide), fun _ => h, fun e => absurd e (by decide), fun e => absurd e (by decide), fun e => absurd e (by decide), fun e => absurd e (by decide), fun e => absurd e (by decide), fun e => absurd e (by decide)⟩
theorem T2.of3 (h : T2 w0 s p p' f f' a b 3 v w) : ∃ q g, v = .agg #[.pointer q, .int .i64 s] ∧ IsM g s w q ∧ Mo s f [a] g := h.2.2.2.1 rfl
theorem T2.at4 (h : v = .agg #[.pointer p', .int .i64 s]) : T2 w0 s p p' f f' a b 4 v w := ⟨fun e => absurd e (by decide), fun e => absurd e (by decide), fun e => absurd e (by decide), fun e => absurd e (by decide), fun _ => h, fun e => absurd e (by decide), fun e => absurd e (by decide), fun e => absurd e (by decide), fun e => absurd e (by decide), fun e => absurd e (by decide)⟩
theorem T2.of4 (h : T2 w0 s p p' f f' a b 4 v w) : v = .agg #[.pointer p', .int .i64 s] := h.2.2.2.2.1 rfl
theorem T2.at5 (h : v = actV b) : T2 w0 s p p' f f' a b 5 v w := ⟨fun e => absurd e (by decide), fun e => absurd e (by decide), fun e => absurd e (by decide), fun e => absurd e (by decide), fun e => absurd e (by decide), fun _ => h, fun e => absurd e (by decide), fun e => absurd e (by decide), fun e => absurd e (by decide), fun e => absurd e (by decide)⟩
theorem T2.of5 (h : T2 w0 s p p' f f' a b 5 v w) : v = actV b := h.2.2.2.2.2.1 rfl
theorem T2.at6 (h : ∃ B, v = .slice (some ⟨B, 0, none⟩) 1 1 ∧ IsAs w v [b]) : T2 w0 s p p' f f' a b 6 v w := ⟨fun e => absurd e (by decide), fun e => absurd e (by decide), fun e => absurd e (by decide), fun e => absurd e (by decide), fun e => absurd e (by decide), fun e => absurd e (by decide), fun _ => h, fun e => absurd e (by decide), fun e => absurd e (by decide), fun e => absurd e (by decide)⟩
theorem T2.of6 (h : T2 w0 s p p' f f' a b 6 v w) : ∃ B, v = .slice (some ⟨B, 0, none⟩) 1 1 ∧ IsAs w v [b] := h.2.2.2.2.2.2.1 rfl
theorem T2.at7 (h : ∃ q g, v = .agg #[.pointer q, .int .i64 s] ∧ IsM g s w q ∧ Mo s f' [b] g) : T2 w0 s p p' f f' a b 7 v w := ⟨fun e => absurd e (by decide), fun e => absurd e (by decide), fun e => absurd e (by decide), fun e => absurd e (by decide), fun e => absurd e (by decide), fun e => absurd e (by decide), fun e => absurd e (by decide), fun _ => h, fun e => absurd e (by decide), fun e => absurd e (by decide)⟩
theorem T2.of7 (h : T2 w0 s p p' f f' a b 7 v w) : ∃ q g, v = .agg #[.pointer q, .int .i64 s] ∧ IsM g s w q ∧ Mo s f' [b] g := h.2.2.2.2.2.2.2.1 rfl
theorem T2.at8 (h : ∃ X, v = .pointer (some ⟨X, 0, none⟩) ∧ Zm w0 X w) : T2 w0 s p p' f f' a b 8 v w := ⟨fun e => absurd e (by decide), fun e => absurd e (by decide), fun e => absurd e (by decide), fun e => absurd e (by decide), fun e => absurd e (by decide), fun e => absurd e (by decide), fun e => absurd e (by decide), fun e => absurd e (by decide), fun _ => h, fun e => absurd e (by decide)⟩
theorem T2.of8 (h : T2 w0 s p p' f f' a b 8 v w) : ∃ X, v = .pointer (some ⟨X, 0, none⟩) ∧ Zm w0 X w := h.2.2.2.2.2.2.2.2.1 rfl
theorem T2.at9 (h : ∃ X, v = .pointer (some ⟨X, 0, none⟩) ∧ Zm w0 X w) : T2 w0 s p p' f f' a b 9 v w := ⟨fun e => absurd e (by decide), fun e => absurd e (by decide), fun e => absurd e (by decide), fun e => absurd e (by decide), fun e => absurd e (by decide), fun e => absurd e (by decide), fun e => absurd e (by decide), fun e => absurd e (by decide), fun e => absurd e (by decide), fun _ => h⟩
theorem T2.of9 (h : T2 w0 s p p' f f' a b 9 v w) : ∃ X, v = .pointer (some ⟨X, 0, none⟩) ∧ Zm w0 X w := h.2.2.2.2.2.2.2.2.2 rfl
end
/-- the two boxes are two -/
def G2 (i j : Nat) (u v : Value) : Prop := (i = 8 ∧ j = 9) ∨ (i = 9 ∧ j = 8) → u ≠ v
theorem G2.no {i j : Nat} {u v : Value} (h1 : i ≠ 8 ∨ j ≠ 9) (h2 : i ≠ 9 ∨ j ≠ 8) : G2 i j u v := fun h => by omega
theorem G2.new {w0 : World} {s : Int} {p p' : Option Addr} {f f' : Int → Int} {a b : Act} {w : World} {i : Nat} (_ : i = 8 ∨ i = 9) (j : Nat) (u : Value) (h : T2 w0 s p p' f f' a b j u w) : G2 i j (.pointer (some ⟨w.heap.size, 0, none⟩)) u ∧ G2 j i u (.pointer (some ⟨w.heap.size, 0, none⟩)) := by
  obtain ⟨-, -, -, -, -, -, -, -, h8, h9⟩ := h
  have hne : (j = 8 ∨ j = 9) → u ≠ .pointer (some ⟨w.heap.size, 0, none⟩) := fun e he => by
    rcases e with e | e
    · obtain ⟨X, k1, k2⟩ := h8 e
      rw [k1] at he
      injection he with he; injection he with he; injection he with he
      have := k2.mb.lt
      omega
    · obtain ⟨X, k1, k2⟩ := h9 e
      rw [k1] at he
      injection he with he; injection he with he; injection he with he
      have := k2.mb.lt
      omega
  exact ⟨fun h => fun e => hne (by omega) e.symm, fun h => hne (by omega)⟩
/-- a list of one update, in a block of its own -/
theorem IsAs.one (w : World) (a : Act) (T : TypeId) : IsAs (w.alloc (.cells #[.bool a.sw, .int .i64 a.lo, .int .i64 a.hi, .int .i64 a.fr, .int .i64 a.tt] T)) (.slice (some ⟨w.heap.size, 0, none⟩) 1 1) [a] :=
  ⟨some ⟨w.heap.size, 0, none⟩, 1, rfl, fun _ => ⟨w.heap.size, 0, rfl, by simp, fun j hj => by
    have : j = 0 := by simp at hj; omega
    subst this
    exact ⟨World.cell?_alloc_at _ _ _ _ rfl, World.cell?_alloc_at _ _ _ _ rfl, World.cell?_alloc_at _ _ _ _ rfl, World.cell?_alloc_at _ _ _ _ rfl, World.cell?_alloc_at _ _ _ _ rfl⟩⟩⟩
theorem IsAs.one5 (w : World) (sw : Bool) (lo hi fr tt : Int) (T : TypeId) : IsAs (w.alloc (.cells #[.bool sw, .int .i64 lo, .int .i64 hi, .int .i64 fr, .int .i64 tt] T)) (.slice (some ⟨w.heap.size, 0, none⟩) 1 1) [⟨sw, lo, hi, fr, tt⟩] := IsAs.one w ⟨sw, lo, hi, fr, tt⟩ T
end Go.Proofs.Ytahgfggcpmnnaab
namespace Go.Proofs.Ytahgfggcpmnnaab
open Go Go.RowKit Gs

theorem Mo.one {size : Int} {f f' : Int → Int} {a : Act} (h : Mo size f [a] f') : One size f a f' := by
  generalize hl : [a] = l at h
  cases h with
  | nil => cases hl
  | snoc h1 h2 =>
    rename_i l' a' f1
    have hz : l' = [] ∧ a' = a := by
      cases l' with
      | nil => simp at hl; exact ⟨rfl, hl.symm⟩
      | cons x t => simp at hl
    obtain ⟨rfl, rfl⟩ := hz
    generalize hk : ([] : List Act) = k at h1
    cases h1 with
    | nil => exact h2
    | snoc _ _ => simp at hk
/-- what an update makes of a map that has room -/
def actG (size : Int) (a : Act) (f : Int → Int) : Int → Int := if actE size a = 0 then actF a f else f
theorem One.g {size : Int} {f f' : Int → Int} {a : Act} {L0 : List R} (h : One size f a f') (hL : Fits f 0 L0 size) (hs : L0.length ≤ 4000) : f' = actG size a f := by
  unfold actG
  rcases h with ⟨h1, h2, _⟩ | ⟨h1, h2 | ⟨L, hc, hl⟩⟩
  · rw [if_pos h2]; exact h1
  · rw [if_neg h2]; exact h1
  · by_cases he : actE size a = 0
    · obtain ⟨k, hk, hkl⟩ := act_runs hL he
      have := can_short hc hk
      omega
    · rw [if_neg he]; exact h1
theorem actF_out {a : Act} {f : Int → Int} {p : Int} (h : ¬ (a.lo ≤ p ∧ p < a.hi)) : actF a f p = f p := by
  unfold actF
  split
  · unfold swr; rw [if_neg h]
  · unfold put; rw [if_neg h]
theorem actF_at {a : Act} {f g : Int → Int} {p : Int} (h : f p = g p) : actF a f p = actF a g p := by
  unfold actF
  split
  · unfold swr swp; rw [h]
  · unfold put; rw [h]
theorem actG_out {size : Int} {a : Act} {f : Int → Int} {p : Int} (h : ¬ (a.lo ≤ p ∧ p < a.hi)) : actG size a f p = f p := by
  unfold actG
  split
  · exact actF_out h
  · rfl
theorem actG_at {size : Int} {a : Act} {f g : Int → Int} {p : Int} (h : f p = g p) : actG size a f p = actG size a g p := by
  unfold actG
  split
  · exact actF_at h
  · exact h
section
variable {size : Int} {a b : Act} {f : Int → Int}
theorem apart {p : Int} (hd : ¬ (a.lo < b.hi ∧ b.lo < a.hi ∧ a.lo < a.hi ∧ b.lo < b.hi)) : ¬ (a.lo ≤ p ∧ p < a.hi) ∨ ¬ (b.lo ≤ p ∧ p < b.hi) := by omega
theorem two_swap (hd : ¬ (a.lo < b.hi ∧ b.lo < a.hi ∧ a.lo < a.hi ∧ b.lo < b.hi)) (p : Int) : actG size b (actG size a f) p = actG size a (actG size b f) p := by
  rcases apart (p := p) hd with h | h
  · rw [actG_out h]; exact actG_at (actG_out h)
  · rw [actG_out h]; exact (actG_at (actG_out h)).symm
theorem two_merge (hd : ¬ (a.lo < b.hi ∧ b.lo < a.hi ∧ a.lo < a.hi ∧ b.lo < b.hi)) (p : Int) : mg f (actG size a f) (actG size b f) p = actG size b (actG size a f) p := by
  unfold mg mt
  rcases apart (p := p) hd with h | h
  · rw [actG_at (a := b) (actG_out (a := a) (size := size) (f := f) h), actG_out (a := a) h]
    by_cases e : actG size b f p = f p
    · rw [e]; simp
    · rw [if_neg (by intro h2; rcases h2 with h2 | h2 <;> exact e (by omega)), if_pos rfl]
  · rw [actG_out (a := b) h, actG_out (a := b) h]
    simp
theorem two_none (hd : ¬ (a.lo < b.hi ∧ b.lo < a.hi ∧ a.lo < a.hi ∧ b.lo < b.hi)) (p : Int) : actG size a f p = actG size b f p ∨ actG size b f p = f p ∨ actG size a f p = f p := by
  rcases apart (p := p) hd with h | h
  · exact .inr (.inr (actG_out h))
  · exact .inr (.inl (actG_out h))
end
end Go.Proofs.Ytahgfggcpmnnaab
namespace Go.Proofs.Ytahgfggcpmnnaab
open Go Go.RowKit Gs

set_option maxRecDepth 100000 in
set_option maxHeartbeats 4000000 in
theorem spanDisjoint_walk (size : Int) (v : Value) (l : List Act) (a b : Act) (W : World) (hl : IsAs W v l) :
    Calls Try.prog 8 #[.int .i64 size, v, .agg #[.bool a.sw, .int .i64 a.lo, .int .i64 a.hi, .int .i64 a.fr, .int .i64 a.tt], .agg #[.bool b.sw, .int .i64 b.lo, .int .i64 b.hi, .int .i64 b.fr, .int .i64 b.tt]] W fun e w' => e = .returned (.bool true) ∧ Below W.heap.size W w' := by
  obtain ⟨asw, alo, ahi, afr, att⟩ := a
  obtain ⟨bsw, blo, bhi, bfr, btt⟩ := b
  simp only
  obtain ⟨wa, HWA⟩ : ∃ wa, wa = W.alloc (.cells #[.bool asw, .int .i64 alo, .int .i64 ahi, .int .i64 afr, .int .i64 att] 24) := ⟨_, rfl⟩
  obtain ⟨w0, HW0⟩ : ∃ w0, w0 = wa.alloc (.cells #[.bool bsw, .int .i64 blo, .int .i64 bhi, .int .i64 bfr, .int .i64 btt] 24) := ⟨_, rfl⟩
  have hba : Below W.heap.size W wa := by rw [HWA]; exact (Below.refl _ _).alloc (Nat.le_refl _) _
  have hb0' : Below wa.heap.size wa w0 := by rw [HW0]; exact (Below.refl _ _).alloc (Nat.le_refl _) _
  have hsa : wa.heap.size = W.heap.size + 1 := by rw [HWA]; simp
  have hb0 := hba.trans (hb0'.mono hba.size)
  have hlt : W.heap.size + 1 < w0.heap.size := by rw [HW0, World.size_alloc, hsa]; omega
  have hca : ∀ i v, #[Value.bool asw, .int .i64 alo, .int .i64 ahi, .int .i64 afr, .int .i64 att][i]? = some v → w0.cell? ⟨W.heap.size, i, none⟩ = some v := fun i v hv => (hb0'.cell (p := ⟨W.heap.size, i, none⟩) (by rw [hsa]; exact Nat.lt_succ_self _)).trans (by rw [HWA]; exact (World.cell?_alloc_at _ _ _ _ rfl).trans hv)
  have hcb : ∀ i v, #[Value.bool bsw, .int .i64 blo, .int .i64 bhi, .int .i64 bfr, .int .i64 btt][i]? = some v → w0.cell? ⟨W.heap.size + 1, i, none⟩ = some v := fun i v hv => by rw [HW0]; exact (World.cell?_alloc_at _ _ _ _ hsa.symm).trans hv
  have HAB : Hid (∀ W', Below w0.heap.size w0 W' → (W'.cell? ⟨W.heap.size, 0, none⟩ = some (.bool asw) ∧ W'.cell? ⟨W.heap.size, 1, none⟩ = some (.int .i64 alo) ∧ W'.cell? ⟨W.heap.size, 2, none⟩ = some (.int .i64 ahi) ∧ W'.cell? ⟨W.heap.size, 3, none⟩ = some (.int .i64 afr) ∧ W'.cell? ⟨W.heap.size, 4, none⟩ = some (.int .i64 att)) ∧ (W'.cell? ⟨W.heap.size + 1, 0, none⟩ = some (.bool bsw) ∧ W'.cell? ⟨W.heap.size + 1, 1, none⟩ = some (.int .i64 blo) ∧ W'.cell? ⟨W.heap.size + 1, 2, none⟩ = some (.int .i64 bhi) ∧ W'.cell? ⟨W.heap.size + 1, 3, none⟩ = some (.int .i64 bfr) ∧ W'.cell? ⟨W.heap.size + 1, 4, none⟩ = some (.int .i64 btt))) := fun W' h => by
    have ha : ∀ i, W'.cell? ⟨W.heap.size, i, none⟩ = w0.cell? ⟨W.heap.size, i, none⟩ := fun i => h.cell (p := ⟨W.heap.size, i, none⟩) (by show W.heap.size < _; omega)
    have hb : ∀ i, W'.cell? ⟨W.heap.size + 1, i, none⟩ = w0.cell? ⟨W.heap.size + 1, i, none⟩ := fun i => h.cell (p := ⟨W.heap.size + 1, i, none⟩) hlt
    exact ⟨⟨(ha 0).trans (hca 0 _ rfl), (ha 1).trans (hca 1 _ rfl), (ha 2).trans (hca 2 _ rfl), (ha 3).trans (hca 3 _ rfl), (ha 4).trans (hca 4 _ rfl)⟩, (hb 0).trans (hcb 0 _ rfl), (hb 1).trans (hcb 1 _ rfl), (hb 2).trans (hcb 2 _ rfl), (hb 3).trans (hcb 3 _ rfl), (hb 4).trans (hcb 4 _ rfl)⟩
  have HBU := Lib.hid (built_any (size := size) (hl.below hb0))
  have HB0 := Lib.hid hb0
  have HAW : Hid (∀ W', Below W.heap.size W W' → Calls Try.prog 11 #[] W' fun e w' => e = .returned (.bool true) ∧ Hid (Below W.heap.size W w')) := fun W' h => (awake_any W').mono fun e w' ⟨he, hB⟩ => ⟨he, h.trans (hB.mono h.size)⟩
  rw [HWA] at HW0
  have HW0' := Lib.hid HW0
  obtain ⟨ao, c, rfl, -⟩ := hl
  obtain ⟨n, hnn⟩ : ∃ n, n = l.length := ⟨_, rfl⟩
  rw [← hnn] at HBU ⊢
  have HN := Lib.hid hnn
  clear hnn HW0 HWA hba hb0' hsa hb0 hca hcb hlt
  go_enter Try.func8, Try.ntmps8
  go_upto_region 1 with fail
  rw [← HW0'.out]
  go_wp2_with fail
  refine HBU.out.mono ?_
  rintro e w1 ⟨p, s, ok, rfl, HOK, -, hb⟩
  have HQ1 := Lib.hid hb
  have HB1 := Lib.hid (HB0.out.trans (hb.mono HB0.out.size))
  clear hb
  obtain ⟨w2, HW2⟩ : ∃ w2, w2 = w1.alloc (.cells #[.pointer p, .int .i64 s] 27) := ⟨_, rfl⟩
  have b2 : Below w1.heap.size w1 w2 := by rw [HW2]; exact (Below.refl _ _).alloc (Nat.le_refl _) _
  have m2 : Mb w1.heap.size p s w2 := by rw [HW2]; exact Mb.new _ _ _ _
  have HB2 := Lib.hid (HB1.out.trans (b2.mono HB1.out.size))
  have HQ2 := Lib.hid (HQ1.out.trans (b2.mono HQ1.out.size))
  have HM2 := Lib.hid m2
  have HS2 := Lib.hid b2
  have HW2' := Lib.hid HW2
  clear HW2 b2 m2
  go_upto_region 2 with fail
  rw [← HW2'.out]
  cases ok with
  | false =>
    go_wp2_with fail
    refine (HAW.out _ HB2.out).mono ?_
    rintro e w9 ⟨rfl, HF⟩
    go_wp2_with fail
    go_ret
    exact ⟨rfl, HF.out⟩
  | true =>
    obtain ⟨⟨a0, a1, a2, a3, a4⟩, b0, b1, b2, b3, b4⟩ := HAB.out _ HQ2.out
    go_cut [53] from 24 to 54 (fun s53 wz => s53 = .bool (decide (alo < bhi ∧ blo < ahi ∧ alo < ahi ∧ blo < bhi)) ∧ wz = w2)
    case first =>
      by_cases h1 : alo < bhi
      · by_cases h2 : blo < ahi
        · by_cases h3 : alo < ahi
          · by_cases h4 : blo < bhi
            · have HE : Hid (decide (alo < bhi ∧ blo < ahi ∧ alo < ahi ∧ blo < bhi) = true) := decide_eq_true ⟨h1, h2, h3, h4⟩
              generalize decide (alo < bhi ∧ blo < ahi ∧ alo < ahi ∧ blo < bhi) = d at *
              go_wp2_with fail
              go_meet
              first | exact ⟨by rw [HE.out], rfl⟩ | (case rel => exact ⟨by rw [HE.out], rfl⟩)
            · have HE : Hid (decide (alo < bhi ∧ blo < ahi ∧ alo < ahi ∧ blo < bhi) = false) := decide_eq_false (fun h => h4 h.2.2.2)
              generalize decide (alo < bhi ∧ blo < ahi ∧ alo < ahi ∧ blo < bhi) = d at *
              go_wp2_with fail
              go_meet
              first | exact ⟨by rw [HE.out], rfl⟩ | (case rel => exact ⟨by rw [HE.out], rfl⟩)
          · have HE : Hid (decide (alo < bhi ∧ blo < ahi ∧ alo < ahi ∧ blo < bhi) = false) := decide_eq_false (fun h => h3 h.2.2.1)
            generalize decide (alo < bhi ∧ blo < ahi ∧ alo < ahi ∧ blo < bhi) = d at *
            go_wp2_with fail
            go_meet
            first | exact ⟨by rw [HE.out], rfl⟩ | (case rel => exact ⟨by rw [HE.out], rfl⟩)
        · have HE : Hid (decide (alo < bhi ∧ blo < ahi ∧ alo < ahi ∧ blo < bhi) = false) := decide_eq_false (fun h => h2 h.2.1)
          generalize decide (alo < bhi ∧ blo < ahi ∧ alo < ahi ∧ blo < bhi) = d at *
          go_wp2_with fail
          go_meet
          first | exact ⟨by rw [HE.out], rfl⟩ | (case rel => exact ⟨by rw [HE.out], rfl⟩)
      · have HE : Hid (decide (alo < bhi ∧ blo < ahi ∧ alo < ahi ∧ blo < bhi) = false) := decide_eq_false (fun h => h1 h.1)
        generalize decide (alo < bhi ∧ blo < ahi ∧ alo < ahi ∧ blo < bhi) = d at *
        go_wp2_with fail
        go_meet
        first | exact ⟨by rw [HE.out], rfl⟩ | (case rel => exact ⟨by rw [HE.out], rfl⟩)
    case rest =>
      obtain ⟨rfl, rfl⟩ := hcut
      by_cases hd : alo < bhi ∧ blo < ahi ∧ alo < ahi ∧ blo < bhi
      · rw [decide_eq_true hd]
        clear a0 a1 a2 a3 a4 b0 b1 b2 b3 b4
        go_wp2_with fail
        refine (HAW.out _ HB2.out).mono ?_
        rintro e w9 ⟨rfl, HF⟩
        go_wp2_with fail
        go_ret
        exact ⟨rfl, HF.out⟩
      · rw [decide_eq_false hd]
        go_upto_region 4 with fail
        clear a0 a1 a2 a3 a4 b0 b1 b2 b3 b4
        obtain ⟨hl60, hs1, f, hf, hmo⟩ := HOK.out rfl
        rw [← hs1] at hmo
        rw [← hs1] at hf
        clear HOK
        have HF0 := Lib.hid (hf.below HS2.out)
        have HMO := Lib.hid hmo; have HS1 := Lib.hid hs1
        clear hf hmo hs1
        have HDD := Lib.hid hd; have HL60 := Lib.hid hl60
        clear hd hl60
        go_cut [11, 12] from 55 to 62 (fun s11 s12 wz => ∃ Ba Bb ra rb ga gb, s11 = .pointer (some ⟨Ba, 0, none⟩) ∧ s12 = .pointer (some ⟨Bb, 0, none⟩) ∧ Hid (Mo s f [⟨asw, alo, ahi, afr, att⟩] ga) ∧ Hid (Mo s f [⟨bsw, blo, bhi, bfr, btt⟩] gb) ∧ Hid (Pm wc Ba Bb ra rb ga gb s wz))
        case first =>
          refine region_all wc 10 (fun x => ⟨#[.int .i64 size, .slice ao n c, .agg #[.bool asw, .int .i64 alo, .int .i64 ahi, .int .i64 afr, .int .i64 att], .agg #[.bool bsw, .int .i64 blo, .int .i64 bhi, .int .i64 bfr, .int .i64 btt], undef, undef, .pointer (some ⟨W.heap.size, 0, none⟩), .pointer (some ⟨W.heap.size + 1, 0, none⟩), .bool false, .pointer (some ⟨w1.heap.size, 0, none⟩), .bool true, x 8, x 9, undef, undef, undef, undef, undef, .tuple #[.agg #[.pointer p, .int .i64 s], .bool true], .int .i64 size, .slice ao n c, .tuple #[.agg #[.pointer p, .int .i64 s], .bool true], .agg #[.pointer p, .int .i64 s], .bool true, u24, u25, u26, u27, u28, u29, u30, u31, u32, u33, u34, u35, u36, u37, u38, u39, u40, u41, u42, u43, u44, u45, u46, u47, u48, u49, u50, u51, u52, .bool false, u54, x 0, x 1, x 2, x 3, x 4, x 5, x 6, x 7, undef, undef, undef, undef, undef, undef, undef, undef, undef, undef, undef, undef, undef, undef, undef, undef, undef, undef, undef, undef, undef, undef, undef, undef, undef, undef, undef, undef, undef, undef, undef, undef, undef, undef, undef, undef, undef, undef, undef, undef, undef, undef, undef], []⟩) (T2 wc s p p f f ⟨asw, alo, ahi, afr, att⟩ ⟨bsw, blo, bhi, bfr, btt⟩) G2 (fun _ => undef) rfl (by kernel_rfl) (of_decide_eq_true (by kernel_rfl)) (of_decide_eq_true (by kernel_rfl)) (of_decide_eq_true (by kernel_rfl)) T2.next ?_ ?_
          · intro i hi
            have hi2 : i = 0 ∨ i = 1 ∨ i = 2 ∨ i = 3 ∨ i = 4 ∨ i = 5 ∨ i = 6 ∨ i = 7 ∨ i = 8 ∨ i = 9 := by omega
            clear hi
            rcases hi2 with rfl | rfl | rfl | rfl | rfl | rfl | rfl | rfl | rfl | rfl
            · refine ⟨_, rfl, fun x w hk hd K' hK => ?_⟩
              have e0 := (HM2.out.next hk).c0; have e1 := (HM2.out.next hk).c1
              clear hd
              go_simp
              exact hK _ w (T2.at0 rfl) (Below.refl _ _) (fun j u _ => ⟨G2.no (by omega) (by omega), G2.no (by omega) (by omega)⟩)
            · refine ⟨_, rfl, fun x w hk hd K' hK => ?_⟩
              obtain ⟨e0, e1, e2, e3, e4⟩ := (HAB.out w (HQ2.out.trans (hk.mono HQ2.out.size))).1
              clear hd
              go_simp
              exact hK _ w (T2.at1 rfl) (Below.refl _ _) (fun j u _ => ⟨G2.no (by omega) (by omega), G2.no (by omega) (by omega)⟩)
            · refine ⟨_, rfl, fun x w hk hd K' hK => ?_⟩
              have e0 := T2.of1 (hd 1 (of_decide_eq_true (by kernel_rfl)))
              unfold actV at e0
              clear hd
              simp only [e0]
              go_simp
              have hK2 := hK _ _ (T2.at2 ⟨_, rfl, IsAs.one5 w asw alo ahi afr att 24⟩) ((Below.refl _ _).alloc (Nat.le_refl _) _) (fun j u _ => ⟨G2.no (by omega) (by omega), G2.no (by omega) (by omega)⟩)
              simp (config := {decide := true}) only [upd, if_true, if_false, e0] at hK2
              exact hK2
            · refine ⟨_, rfl, fun x w hk hd K' hK => ?_⟩
              have e0 := T2.of0 (hd 0 (of_decide_eq_true (by kernel_rfl)))
              obtain ⟨BB, e1, e2⟩ := T2.of2 (hd 2 (of_decide_eq_true (by kernel_rfl)))
              have HC := Lib.hid (more_any (HF0.out.below hk) (by rw [e1] at e2; exact e2) (by simp))
              clear hd e2
              simp only [e0, e1]
              go_simp
              refine HC.out.mono ?_
              rintro e w' ⟨q, g, rfl, h1, h2, hB⟩
              have hK2 := hK _ w' (T2.at3 ⟨q, g, rfl, h1.out, h2.out⟩) hB (fun j u _ => ⟨G2.no (by omega) (by omega), G2.no (by omega) (by omega)⟩)
              simp (config := {decide := true}) only [upd, if_true, if_false, e0, e1] at hK2
              exact hK2
            · refine ⟨_, rfl, fun x w hk hd K' hK => ?_⟩
              have e0 := (HM2.out.next hk).c0; have e1 := (HM2.out.next hk).c1
              clear hd
              go_simp
              exact hK _ w (T2.at4 rfl) (Below.refl _ _) (fun j u _ => ⟨G2.no (by omega) (by omega), G2.no (by omega) (by omega)⟩)
            · refine ⟨_, rfl, fun x w hk hd K' hK => ?_⟩
              obtain ⟨e0, e1, e2, e3, e4⟩ := (HAB.out w (HQ2.out.trans (hk.mono HQ2.out.size))).2
              clear hd
              go_simp
              exact hK _ w (T2.at5 rfl) (Below.refl _ _) (fun j u _ => ⟨G2.no (by omega) (by omega), G2.no (by omega) (by omega)⟩)
            · refine ⟨_, rfl, fun x w hk hd K' hK => ?_⟩
              have e0 := T2.of5 (hd 5 (of_decide_eq_true (by kernel_rfl)))
              unfold actV at e0
              clear hd
              simp only [e0]
              go_simp
              have hK2 := hK _ _ (T2.at6 ⟨_, rfl, IsAs.one5 w bsw blo bhi bfr btt 24⟩) ((Below.refl _ _).alloc (Nat.le_refl _) _) (fun j u _ => ⟨G2.no (by omega) (by omega), G2.no (by omega) (by omega)⟩)
              simp (config := {decide := true}) only [upd, if_true, if_false, e0] at hK2
              exact hK2
            · refine ⟨_, rfl, fun x w hk hd K' hK => ?_⟩
              have e0 := T2.of4 (hd 4 (of_decide_eq_true (by kernel_rfl)))
              obtain ⟨BB, e1, e2⟩ := T2.of6 (hd 6 (of_decide_eq_true (by kernel_rfl)))
              have HC := Lib.hid (more_any (HF0.out.below hk) (by rw [e1] at e2; exact e2) (by simp))
              clear hd e2
              simp only [e0, e1]
              go_simp
              refine HC.out.mono ?_
              rintro e w' ⟨q, g, rfl, h1, h2, hB⟩
              have hK2 := hK _ w' (T2.at7 ⟨q, g, rfl, h1.out, h2.out⟩) hB (fun j u _ => ⟨G2.no (by omega) (by omega), G2.no (by omega) (by omega)⟩)
              simp (config := {decide := true}) only [upd, if_true, if_false, e0, e1] at hK2
              exact hK2
            · refine ⟨_, rfl, fun x w hk hd K' hK => ?_⟩
              clear hd
              go_simp
              exact hK _ _ (T2.at8 ⟨_, rfl, Zm.top hk⟩) ((Below.refl _ _).alloc (Nat.le_refl _) _) (fun j u hu => G2.new (by omega) j u hu)
            · refine ⟨_, rfl, fun x w hk hd K' hK => ?_⟩
              clear hd
              go_simp
              exact hK _ _ (T2.at9 ⟨_, rfl, Zm.top hk⟩) ((Below.refl _ _).alloc (Nat.le_refl _) _) (fun j u hu => G2.new (by omega) j u hu)
          · intro x w listed hk hT hG hl
            subst hl
            have t3 := T2.of3 (hT 3 (by decide))
            have t7 := T2.of7 (hT 7 (by decide))
            have t8 := T2.of8 (hT 8 (by decide))
            have t9 := T2.of9 (hT 9 (by decide))
            have g89 := hG 8 9 (by decide) (by decide) (by decide)
            obtain ⟨qa, fa, e3, ia, ma⟩ := t3
            obtain ⟨qb, fb, e7, ib, mb⟩ := t7
            obtain ⟨Xa, e8, za⟩ := t8
            obtain ⟨Xb, e9, zb⟩ := t9
            have hne : Xa ≠ Xb := fun h => g89 (.inl ⟨rfl, rfl⟩) (by rw [e8, e9, h])
            have hne' : ¬ Xa = Xb := hne
            have hne2 : ¬ Xb = Xa := fun h => hne h.symm
            clear hT hG g89
            have k0 := za.mb.c0; have k1 := za.mb.c1; have k2 := za.mb.f0; have k3 := za.mb.f1; have k4 := zb.mb.c0; have k5 := zb.mb.c1; have k6 := zb.mb.f0; have k7 := zb.mb.f1
            simp only [e3, e7, e8, e9]
            refine wpAny_ready (rs := [10]) (by kernel_rfl) (by simp) (AllReady.cons rfl (fun K hK => ?_) AllReady.nil)
            go_simp
            refine hK _ _ ?_
            clear hK K
            refine wpAny_ready (rs := [11]) (by kernel_rfl) (by simp) (AllReady.cons rfl (fun K hK => ?_) AllReady.nil)
            go_simp
            refine hK _ _ ?_
            clear hK K
            refine wpAny_done (by kernel_rfl) ?_ _
            have HPM := Lib.hid (show Pm _ Xa Xb qa qb fa fb s _ from ⟨(hk.put2 za.ge (.pointer qa) (.int .i64 s)).put2 zb.ge (.pointer qb) (.int .i64 s), (ia.put2 za.mb _ _).put2 (zb.mb.far (Ne.symm hne) _ _) _ _, (ib.put2 za.mb _ _).put2 (zb.mb.far (Ne.symm hne) _ _) _ _, (za.mb.put2 qa s).far hne _ _, (zb.mb.far (Ne.symm hne) _ _).put2 qb s⟩)
            have HMA := Lib.hid ma; have HMB := Lib.hid mb
            clear k0 k1 k2 k3 k4 k5 k6 k7 hne hne' hne2 e3 e7 e8 e9 ia ib ma mb za zb hk
            go_wp2_with fail
            go_meet
            case rel => exact ⟨_, _, _, _, _, _, rfl, rfl, HMA, HMB, HPM⟩
        case rest =>
          obtain ⟨Xa, Xb, qa, qb, fa, fb, rfl, rfl, HMA, HMB, HP⟩ := hcut
          have HQ3 := Lib.hid (HQ2.out.trans (HP.out.k.mono HQ2.out.size))
          have HM3 := Lib.hid (HM2.out.next HP.out.k)
          have HF3 := Lib.hid (HF0.out.below HP.out.k)
          have HB3 := Lib.hid (HB2.out.trans (HP.out.k.mono HB2.out.size))
          have HPA := Lib.hid HP.out.ia
          have HPB := Lib.hid HP.out.ib
          have HXA := Lib.hid HP.out.ma
          have HXB := Lib.hid HP.out.mb
          clear HP HQ2 HM2 HF0 HB2 HS2 HW2'
          go_upto_region 5 with fail
          go_cut [13, 14] from 63 to 70 (fun s13 s14 wz => ∃ Ba Bb ra rb ga gb, s13 = .pointer (some ⟨Ba, 0, none⟩) ∧ s14 = .pointer (some ⟨Bb, 0, none⟩) ∧ Hid (Mo s fa [⟨bsw, blo, bhi, bfr, btt⟩] ga) ∧ Hid (Mo s fb [⟨asw, alo, ahi, afr, att⟩] gb) ∧ Hid (Pm wc Ba Bb ra rb ga gb s wz))
          case first =>
            refine region_all wc 10 (fun x => ⟨#[.int .i64 size, .slice ao n c, .agg #[.bool asw, .int .i64 alo, .int .i64 ahi, .int .i64 afr, .int .i64 att], .agg #[.bool bsw, .int .i64 blo, .int .i64 bhi, .int .i64 bfr, .int .i64 btt], undef, undef, .pointer (some ⟨W.heap.size, 0, none⟩), .pointer (some ⟨W.heap.size + 1, 0, none⟩), .bool false, .pointer (some ⟨w1.heap.size, 0, none⟩), .bool true, .pointer (some ⟨Xa, 0, none⟩), .pointer (some ⟨Xb, 0, none⟩), x 8, x 9, undef, undef, undef, .tuple #[.agg #[.pointer p, .int .i64 s], .bool true], .int .i64 size, .slice ao n c, .tuple #[.agg #[.pointer p, .int .i64 s], .bool true], .agg #[.pointer p, .int .i64 s], .bool true, u24, u25, u26, u27, u28, u29, u30, u31, u32, u33, u34, u35, u36, u37, u38, u39, u40, u41, u42, u43, u44, u45, u46, u47, u48, u49, u50, u51, u52, .bool false, u54, u55, u56, u57, u58, u59, u60, u61, u62, x 0, x 1, x 2, x 3, x 4, x 5, x 6, x 7, undef, undef, undef, undef, undef, undef, undef, undef, undef, undef, undef, undef, undef, undef, undef, undef, undef, undef, undef, undef, undef, undef, undef, undef, undef, undef, undef, undef, undef, undef, undef, undef, undef, undef, undef], []⟩) (T2 wc s qa qb fa fb ⟨bsw, blo, bhi, bfr, btt⟩ ⟨asw, alo, ahi, afr, att⟩) G2 (fun _ => undef) rfl (by kernel_rfl) (of_decide_eq_true (by kernel_rfl)) (of_decide_eq_true (by kernel_rfl)) (of_decide_eq_true (by kernel_rfl)) T2.next ?_ ?_
            · intro i hi
              have hi2 : i = 0 ∨ i = 1 ∨ i = 2 ∨ i = 3 ∨ i = 4 ∨ i = 5 ∨ i = 6 ∨ i = 7 ∨ i = 8 ∨ i = 9 := by omega
              clear hi
              rcases hi2 with rfl | rfl | rfl | rfl | rfl | rfl | rfl | rfl | rfl | rfl
              · refine ⟨_, rfl, fun x w hk hd K' hK => ?_⟩
                have e0 := (HXA.out.next hk).c0; have e1 := (HXA.out.next hk).c1
                clear hd
                go_simp
                exact hK _ w (T2.at0 rfl) (Below.refl _ _) (fun j u _ => ⟨G2.no (by omega) (by omega), G2.no (by omega) (by omega)⟩)
              · refine ⟨_, rfl, fun x w hk hd K' hK => ?_⟩
                obtain ⟨e0, e1, e2, e3, e4⟩ := (HAB.out w (HQ3.out.trans (hk.mono HQ3.out.size))).2
                clear hd
                go_simp
                exact hK _ w (T2.at1 rfl) (Below.refl _ _) (fun j u _ => ⟨G2.no (by omega) (by omega), G2.no (by omega) (by omega)⟩)
              · refine ⟨_, rfl, fun x w hk hd K' hK => ?_⟩
                have e0 := T2.of1 (hd 1 (of_decide_eq_true (by kernel_rfl)))
                unfold actV at e0
                clear hd
                simp only [e0]
                go_simp
                have hK2 := hK _ _ (T2.at2 ⟨_, rfl, IsAs.one5 w bsw blo bhi bfr btt 24⟩) ((Below.refl _ _).alloc (Nat.le_refl _) _) (fun j u _ => ⟨G2.no (by omega) (by omega), G2.no (by omega) (by omega)⟩)
                simp (config := {decide := true}) only [upd, if_true, if_false, e0] at hK2
                exact hK2
              · refine ⟨_, rfl, fun x w hk hd K' hK => ?_⟩
                have e0 := T2.of0 (hd 0 (of_decide_eq_true (by kernel_rfl)))
                obtain ⟨BB, e1, e2⟩ := T2.of2 (hd 2 (of_decide_eq_true (by kernel_rfl)))
                have HC := Lib.hid (more_any (HPA.out.below hk) (by rw [e1] at e2; exact e2) (by simp))
                clear hd e2
                simp only [e0, e1]
                go_simp
                refine HC.out.mono ?_
                rintro e w' ⟨q, g, rfl, h1, h2, hB⟩
                have hK2 := hK _ w' (T2.at3 ⟨q, g, rfl, h1.out, h2.out⟩) hB (fun j u _ => ⟨G2.no (by omega) (by omega), G2.no (by omega) (by omega)⟩)
                simp (config := {decide := true}) only [upd, if_true, if_false, e0, e1] at hK2
                exact hK2
              · refine ⟨_, rfl, fun x w hk hd K' hK => ?_⟩
                have e0 := (HXB.out.next hk).c0; have e1 := (HXB.out.next hk).c1
                clear hd
                go_simp
                exact hK _ w (T2.at4 rfl) (Below.refl _ _) (fun j u _ => ⟨G2.no (by omega) (by omega), G2.no (by omega) (by omega)⟩)
              · refine ⟨_, rfl, fun x w hk hd K' hK => ?_⟩
                obtain ⟨e0, e1, e2, e3, e4⟩ := (HAB.out w (HQ3.out.trans (hk.mono HQ3.out.size))).1
                clear hd
                go_simp
                exact hK _ w (T2.at5 rfl) (Below.refl _ _) (fun j u _ => ⟨G2.no (by omega) (by omega), G2.no (by omega) (by omega)⟩)
              · refine ⟨_, rfl, fun x w hk hd K' hK => ?_⟩
                have e0 := T2.of5 (hd 5 (of_decide_eq_true (by kernel_rfl)))
                unfold actV at e0
                clear hd
                simp only [e0]
                go_simp
                have hK2 := hK _ _ (T2.at6 ⟨_, rfl, IsAs.one5 w asw alo ahi afr att 24⟩) ((Below.refl _ _).alloc (Nat.le_refl _) _) (fun j u _ => ⟨G2.no (by omega) (by omega), G2.no (by omega) (by omega)⟩)
                simp (config := {decide := true}) only [upd, if_true, if_false, e0] at hK2
                exact hK2
              · refine ⟨_, rfl, fun x w hk hd K' hK => ?_⟩
                have e0 := T2.of4 (hd 4 (of_decide_eq_true (by kernel_rfl)))
                obtain ⟨BB, e1, e2⟩ := T2.of6 (hd 6 (of_decide_eq_true (by kernel_rfl)))
                have HC := Lib.hid (more_any (HPB.out.below hk) (by rw [e1] at e2; exact e2) (by simp))
                clear hd e2
                simp only [e0, e1]
                go_simp
                refine HC.out.mono ?_
                rintro e w' ⟨q, g, rfl, h1, h2, hB⟩
                have hK2 := hK _ w' (T2.at7 ⟨q, g, rfl, h1.out, h2.out⟩) hB (fun j u _ => ⟨G2.no (by omega) (by omega), G2.no (by omega) (by omega)⟩)
                simp (config := {decide := true}) only [upd, if_true, if_false, e0, e1] at hK2
                exact hK2
              · refine ⟨_, rfl, fun x w hk hd K' hK => ?_⟩
                clear hd
                go_simp
                exact hK _ _ (T2.at8 ⟨_, rfl, Zm.top hk⟩) ((Below.refl _ _).alloc (Nat.le_refl _) _) (fun j u hu => G2.new (by omega) j u hu)
              · refine ⟨_, rfl, fun x w hk hd K' hK => ?_⟩
                clear hd
                go_simp
                exact hK _ _ (T2.at9 ⟨_, rfl, Zm.top hk⟩) ((Below.refl _ _).alloc (Nat.le_refl _) _) (fun j u hu => G2.new (by omega) j u hu)
            · intro x w listed hk hT hG hl
              subst hl
              have t3 := T2.of3 (hT 3 (by decide))
              have t7 := T2.of7 (hT 7 (by decide))
              have t8 := T2.of8 (hT 8 (by decide))
              have t9 := T2.of9 (hT 9 (by decide))
              have g89 := hG 8 9 (by decide) (by decide) (by decide)
              obtain ⟨qa, fa, e3, ia, ma⟩ := t3
              obtain ⟨qb, fb, e7, ib, mb⟩ := t7
              obtain ⟨Xa, e8, za⟩ := t8
              obtain ⟨Xb, e9, zb⟩ := t9
              have hne : Xa ≠ Xb := fun h => g89 (.inl ⟨rfl, rfl⟩) (by rw [e8, e9, h])
              have hne' : ¬ Xa = Xb := hne
              have hne2 : ¬ Xb = Xa := fun h => hne h.symm
              clear hT hG g89
              have k0 := za.mb.c0; have k1 := za.mb.c1; have k2 := za.mb.f0; have k3 := za.mb.f1; have k4 := zb.mb.c0; have k5 := zb.mb.c1; have k6 := zb.mb.f0; have k7 := zb.mb.f1
              simp only [e3, e7, e8, e9]
              refine wpAny_ready (rs := [10]) (by kernel_rfl) (by simp) (AllReady.cons rfl (fun K hK => ?_) AllReady.nil)
              go_simp
              refine hK _ _ ?_
              clear hK K
              refine wpAny_ready (rs := [11]) (by kernel_rfl) (by simp) (AllReady.cons rfl (fun K hK => ?_) AllReady.nil)
              go_simp
              refine hK _ _ ?_
              clear hK K
              refine wpAny_done (by kernel_rfl) ?_ _
              have HPM := Lib.hid (show Pm _ Xa Xb qa qb fa fb s _ from ⟨(hk.put2 za.ge (.pointer qa) (.int .i64 s)).put2 zb.ge (.pointer qb) (.int .i64 s), (ia.put2 za.mb _ _).put2 (zb.mb.far (Ne.symm hne) _ _) _ _, (ib.put2 za.mb _ _).put2 (zb.mb.far (Ne.symm hne) _ _) _ _, (za.mb.put2 qa s).far hne _ _, (zb.mb.far (Ne.symm hne) _ _).put2 qb s⟩)
              have HMA := Lib.hid ma; have HMB := Lib.hid mb
              clear k0 k1 k2 k3 k4 k5 k6 k7 hne hne' hne2 e3 e7 e8 e9 ia ib ma mb za zb hk
              go_wp2_with fail
              go_meet
              case rel => exact ⟨_, _, _, _, _, _, rfl, rfl, HMA, HMB, HPM⟩
          case rest =>
            obtain ⟨Ya, Yb, qx, qy, fx, fy, rfl, rfl, HMX, HMY, HP⟩ := hcut
            have HM4 := Lib.hid (HM3.out.next HP.out.k)
            have HF4 := Lib.hid (HF3.out.below HP.out.k)
            have HB4 := Lib.hid (HB3.out.trans (HP.out.k.mono HB3.out.size))
            have HPA4 := Lib.hid (HPA.out.below HP.out.k)
            have HPB4 := Lib.hid (HPB.out.below HP.out.k)
            have HXA4 := Lib.hid (HXA.out.next HP.out.k)
            have HXB4 := Lib.hid (HXB.out.next HP.out.k)
            have HPX := Lib.hid HP.out.ia
            have HPY := Lib.hid HP.out.ib
            have HYA := Lib.hid HP.out.ma
            have HYB := Lib.hid HP.out.mb
            clear HP HQ3 HM3 HF3 HB3 HPA HPB HXA HXB HAB HBU HB0 HW0' HQ1 HB1
            go_upto_region 6 with fail
            obtain ⟨La, hLa, -⟩ := HF4.out.can
            obtain ⟨Lx, hLx, -⟩ := HPA4.out.can
            obtain ⟨Ly, hLy, -⟩ := HPB4.out.can
            obtain ⟨Lu, hLu, -, hLU⟩ := Len_any (s := s) HPX.out.tr
            have hz : ∃ k : List R, Fits (fun _ => (0 : Int)) 0 k s ∧ k.length ≤ 1 := ⟨[⟨0, s, 0⟩], ⟨rfl, by have := HF4.out.lo; show (0 : Int) < s; omega, fun _ _ _ => rfl, rfl⟩, by simp⟩
            have hla : La.length ≤ 121 := by
              obtain ⟨k1, a1, a2⟩ := HMO.out.runs hz
              have e1 := can_short hLa a1
              have := HL60.out; have := HN.out; omega
            have hlx : Lx.length ≤ 123 := HMA.out.short hLa.1 hla hLx
            have hly : Ly.length ≤ 123 := HMB.out.short hLa.1 hla hLy
            have ea := HMA.out.one.g hLa.1 (by omega)
            have eb := HMB.out.one.g hLa.1 (by omega)
            have ex := HMX.out.one.g hLx.1 (by omega)
            have ey := HMY.out.one.g hLy.1 (by omega)
            have HXY : Hid (∀ p, fx p = fy p) := fun p => by rw [ex, ey, ea, eb]; exact two_swap (a := ⟨asw, alo, ahi, afr, att⟩) (b := ⟨bsw, blo, bhi, bfr, btt⟩) HDD.out p
            have HZX : Hid (∀ p, mg f fa fb p = fx p) := fun p => by rw [ex, ea, eb]; exact two_merge (a := ⟨asw, alo, ahi, afr, att⟩) (b := ⟨bsw, blo, bhi, bfr, btt⟩) HDD.out p
            have hnil : mC (m3 La Lx Ly) = [] := mC_none (m3_f3 hLa hLx hLy (B3.of HF4.out.ctx HPA4.out.ctx HPB4.out.ctx)) (fun p _ _ => by rw [ea, eb]; exact two_none (a := ⟨asw, alo, ahi, afr, att⟩) (b := ⟨bsw, blo, bhi, bfr, btt⟩) HDD.out p)
            have HMG : Hid (Calls Try.prog 24 #[.agg #[.pointer p, .int .i64 s], .agg #[.pointer qa, .int .i64 s], .agg #[.pointer qb, .int .i64 s]] wc fun e w' => ∃ mp a c, e = .returned (.tuple #[.agg #[.pointer mp, .int .i64 s], .slice a 0 c, .int .i64 0]) ∧ Hid (IsM (mg f fa fb) s w' mp) ∧ Below wc.heap.size wc w') :=
              (Merge_same HF4.out HPA4.out HPB4.out hLa hLx hLy (by omega) (N := 0) (by rw [hnil]; rfl)).mono fun e w' ⟨mp, a, c, he, h1, _, h3⟩ => ⟨mp, a, c, he, h1, h3⟩
            have k0 := HM4.out.c0; have k1 := HM4.out.c1; have k2 := HXA4.out.c0; have k3 := HXA4.out.c1; have k4 := HXB4.out.c0; have k5 := HXB4.out.c1
            have HLu := Lib.hid hLu
            clear hLa hLx hLy hLu hLU hz hla hlx hly ea eb ex ey hnil HMA HMB HMX HMY HMO HDD HL60 HF4 HPA4 HPB4
            go_wp2_with fail
            refine HMG.out.mono ?_
            rintro e x1 ⟨m, ma, mc, rfl, HI1, hb⟩
            obtain ⟨x2, HX2⟩ : ∃ x2, x2 = x1.alloc (.cells #[.pointer m, .int .i64 s] 27) := ⟨_, rfl⟩
            have b2 : Below x1.heap.size x1 x2 := by rw [HX2]; exact (Below.refl _ _).alloc (Nat.le_refl _) _
            have m2 : Mb x1.heap.size m s x2 := by rw [HX2]; exact Mb.new _ _ _ _
            have hcx := hb.trans (b2.mono hb.size)
            have HALL : Hid (∀ W', Kw x2 W' → (W'.cell? ⟨Ya, 0, none⟩ = some (.pointer qx) ∧ W'.cell? ⟨Ya, 1, none⟩ = some (.int .i64 s)) ∧ (W'.cell? ⟨Yb, 0, none⟩ = some (.pointer qy) ∧ W'.cell? ⟨Yb, 1, none⟩ = some (.int .i64 s)) ∧ (W'.cell? ⟨x1.heap.size, 0, none⟩ = some (.pointer m) ∧ W'.cell? ⟨x1.heap.size, 1, none⟩ = some (.int .i64 s))) := fun W' h => ⟨⟨((HYA.out.next hcx).next h).c0, ((HYA.out.next hcx).next h).c1⟩, ⟨((HYB.out.next hcx).next h).c0, ((HYB.out.next hcx).next h).c1⟩, (m2.next h).c0, (m2.next h).c1⟩
            have HFIN : Hid (∀ W', Kw x2 W' → Below W.heap.size W W') := fun W' h => HB4.out.trans ((hcx.trans (h.mono hcx.size)).mono HB4.out.size)
            have hix := HPX.out.below hcx; have hiy := HPY.out.below hcx; have him := HI1.out.below b2
            have HEQ1 : Hid (∀ W', Kw x2 W' → Calls Try.prog 21 #[.agg #[.pointer qx, .int .i64 s], .agg #[.pointer qy, .int .i64 s]] W' fun e w' => e = .returned (.bool true) ∧ Kw x2 w') := fun W' h => (Equal_true (hix.below h) (hiy.below h) (fun x _ _ => HXY.out x)).mono fun e w' ⟨he, hB⟩ => ⟨he, Kw.next h hB⟩
            have HEQ2 : Hid (∀ W', Kw x2 W' → Calls Try.prog 21 #[.agg #[.pointer m, .int .i64 s], .agg #[.pointer qx, .int .i64 s]] W' fun e w' => e = .returned (.bool true) ∧ Kw x2 w') := fun W' h => (Equal_true (him.below h) (hix.below h) (fun x _ _ => HZX.out x)).mono fun e w' ⟨he, hB⟩ => ⟨he, Kw.next h hB⟩
            obtain ⟨N, HN2⟩ : ∃ N : Nat, N = Lu.length := ⟨_, rfl⟩
            have HLN1 : Hid (∀ W', Kw x2 W' → Calls Try.prog 25 #[.agg #[.pointer qx, .int .i64 s]] W' fun e w' => e = .returned (.int .i64 N) ∧ Kw x2 w') := fun W' h => by
              obtain ⟨L', h1, -, h2⟩ := Len_any (s := s) (hix.below h).tr
              have := h1.same HLu.out
              subst this
              rw [HN2]
              exact h2.mono fun e w' ⟨he, hB⟩ => ⟨he, Kw.next h hB⟩
            have HLN2 : Hid (∀ W', Kw x2 W' → Calls Try.prog 25 #[.agg #[.pointer qy, .int .i64 s]] W' fun e w' => e = .returned (.int .i64 N) ∧ Kw x2 w') := fun W' h => by
              obtain ⟨L', h1, -, h2⟩ := Len_any (s := s) (hiy.below h).tr
              have := h1.same (HLu.out.congr fun x _ _ => HXY.out x)
              subst this
              rw [HN2]
              exact h2.mono fun e w' ⟨he, hB⟩ => ⟨he, Kw.next h hB⟩
            have HAW2 : Hid (∀ W', Kw x2 W' → Calls Try.prog 11 #[] W' fun e w' => e = .returned (.bool true) ∧ Kw x2 w') := fun W' h => (awake_any W').mono fun e w' ⟨he, hB⟩ => ⟨he, Kw.next h hB⟩
            have HX2' := Lib.hid HX2
            clear HX2 b2 m2 hcx hb k0 k1 k2 k3 k4 k5 hix hiy him HI1 HM4 HXA4 HXB4 HYA HYB HPX HPY HB4 HMG HXY HZX HN2 HLu HAW
            go_upto_region 7 with fail
            rw [← HX2'.out]
            clear HX2'
            have hs : Kw x2 x2 := Below.refl _ _
            have hs2 := hs.drew
            have hc0 := HALL.out _ hs
            have hc2 := HALL.out _ hs2
            go_region_held3 (fun W' : World => ((W'.cell? ⟨Ya, 0, none⟩ = some (.pointer qx) ∧ W'.cell? ⟨Ya, 1, none⟩ = some (.int .i64 s)) ∧ (W'.cell? ⟨Yb, 0, none⟩ = some (.pointer qy) ∧ W'.cell? ⟨Yb, 1, none⟩ = some (.int .i64 s)) ∧ (W'.cell? ⟨x1.heap.size, 0, none⟩ = some (.pointer m) ∧ W'.cell? ⟨x1.heap.size, 1, none⟩ = some (.int .i64 s))) ∧ Kw x2 W') (first | (refine And.intro ?_ ?_ <;> assumption) | fail) (first | (go_at_call 21; with_reducible refine (HEQ1.out _ ?h).mono ?_; (case h => assumption); rintro e w' ⟨rfl, hs'⟩; have hc' := HALL.out _ hs') | (go_at_call 21; with_reducible refine (HEQ2.out _ ?h).mono ?_; (case h => assumption); rintro e w' ⟨rfl, hs'⟩; have hc' := HALL.out _ hs') | (go_at_call 25; with_reducible refine (HLN1.out _ ?h).mono ?_; (case h => assumption); rintro e w' ⟨rfl, hs'⟩; have hc' := HALL.out _ hs') | (go_at_call 25; with_reducible refine (HLN2.out _ ?h).mono ?_; (case h => assumption); rintro e w' ⟨rfl, hs'⟩; have hc' := HALL.out _ hs') | (go_at_call 11; with_reducible refine (HAW2.out _ ?h).mono ?_; (case h => assumption); rintro e w' ⟨rfl, hs'⟩; have hc' := HALL.out _ hs') | fail)
            all_goals
              go_wp2_with fail
              go_ret
              exact ⟨rfl, HFIN.out _ (by assumption)⟩
end Go.Proofs.Ytahgfggcpmnnaab
namespace Go.Proofs.Ytahgfggcpmnnaab
open Go Go.ChangeShapes Go.WideShapes Go.ChangeAt Go.RowKit Gs
set_option linter.unusedVariables false

set_option maxRecDepth 100000 in
theorem spanDisjoint_lifted (os : Os) (started : os.Started) (H : Type) (enc : TypeId × Value → H) :
    ReturnsInHanded {} Try.checked os 8 .any (Rows.spanDisjointSpec.pre6 enc Try.prog Try.f8 Rows.spanDisjointRow.domain false) (Rows.spanDisjointSpec.post enc Try.prog Try.f8 false true false false) := by
  refine returnsInHanded_of_change (C := Try.checked) own started (by kernel_rfl) Try.func8
    (ChangeSpec.witness6 (enc := enc) (C := Try.checked) false ⟨#[], #[.int .i64 0, .slice none 0 0, .agg #[.bool false, .int .i64 0, .int .i64 0, .int .i64 0, .int .i64 0], .agg #[.bool false, .int .i64 0, .int .i64 0, .int .i64 0, .int .i64 0]], []⟩ 8 (by kernel_rfl) (by kernel_rfl) (by kernel_rfl) (by kernel_rfl)) ?_
  intro W base args ds gs before hval0 hW hcnd _
  have hval : ∀ (j : Nat) t v, Try.f8.params[j]? = some t → args[j]? = some v → Value.okWide Try.prog W .any base t v := hval0
  have hW' := hW
  obtain ⟨p, q, hA0, hV, rfl, hfz, hnd⟩ := hW
  have hA : DataW.TrodAll enc Try.prog W 0 (fun _ => true) true Try.f8.params.toList args.toList ds p := hA0
  rw [Try.params8] at hA hval
  obtain ⟨v0, vs0, d0, ds0, p0, q0, hargs, rfl, rfl, h0, r0⟩ := trodAll_cons hA
  obtain ⟨v1, vs1, d1, ds1, p1, q1, rfl, rfl, rfl, h1, r1⟩ := trodAll_cons r0
  obtain ⟨v2, vs2, d2, ds2, p2, q2, rfl, rfl, rfl, h2, r2⟩ := trodAll_cons r1
  obtain ⟨v3, vs3, d3, ds3, p3, q3, rfl, rfl, rfl, h3, r3⟩ := trodAll_cons r2
  obtain ⟨rfl, rfl, rfl⟩ := trodAll_nil r3
  obtain rfl : args = #[v0, v1, v2, v3] := by cases args; simp_all
  obtain ⟨rfl, rfl⟩ := trodVars_none hV
  have k0 := h0
  have lt0 : ∀ x ∈ p0, x.block < W.heap.size := by obtain ⟨m, hm⟩ := k0; exact DataW.trod_lt m _ _ _ hm
  obtain ⟨i0, rfl, rfl, rfl, w0⟩ := open_int Try.underlying3 (hval 0 3 v0 rfl rfl) h0
  have k1 := h1
  have lt1 : ∀ x ∈ p1, x.block < W.heap.size := by obtain ⟨m, hm⟩ := k1; exact DataW.trod_lt m _ _ _ hm
  obtain ⟨l1, hl1⟩ := acts_of h1 (okWide_slice Try.underlying22 (hval 1 22 v1 rfl rfl))
  have k2 := h2
  have lt2 : ∀ x ∈ p2, x.block < W.heap.size := by obtain ⟨m, hm⟩ := k2; exact DataW.trod_lt m _ _ _ hm
  obtain ⟨a2, rfl⟩ := act_of (hval 2 24 v2 rfl rfl) h2
  have k3 := h3
  have lt3 : ∀ x ∈ p3, x.block < W.heap.size := by obtain ⟨m, hm⟩ := k3; exact DataW.trod_lt m _ _ _ hm
  obtain ⟨a3, rfl⟩ := act_of (hval 3 24 v3 rfl rfl) h3
  clear hA0 hval0
  refine (spanDisjoint_walk i0 _ l1 a2 a3 W hl1).mono fun e W' ⟨he, bel⟩ => ?_
  subst he
  exact ⟨_, rfl, _, _, _, [], _, [], hW', trodAll_mk1 (shut_bool Try.underlying4 _), (trodAll_cons_mk (shut_int Try.underlying3 w0) (trodAll_cons_mk (Below.trod laidOut' (by kernel_rfl) (of_decide_eq_true (by kernel_rfl)) k1 bel lt1) (trodAll_cons_mk (Below.trod laidOut' (by kernel_rfl) (of_decide_eq_true (by kernel_rfl)) k2 bel lt2) (trodAll_cons_mk (Below.trod laidOut' (by kernel_rfl) (of_decide_eq_true (by kernel_rfl)) k3 bel lt3) trodAll_mk0)))), rfl, bel.frame _, fun h => by cases h⟩
theorem spanDisjoint_holds : Rows.SpanDisjointSaid :=
  OpenClaim.holds_of_wide 8 Try.f8 rfl rfl rfl rfl rfl rfl rfl ⟨rfl, rfl, rfl, rfl, rfl⟩ rfl rfl rfl rfl rfl (by kernel_rfl) Try.func8 (by kernel_rfl)
    (of_decide_eq_true (by kernel_rfl)) (by unfold Func.isWrapper; first | (rw [if_pos (by decide +kernel)]; kernel_rfl) | (rw [if_neg (by decide +kernel)]; exact ⟨rfl, rfl⟩))
    (fun os started H enc _ => spanDisjoint_lifted os started H enc)
#print axioms spanDisjoint_holds
end Go.Proofs.Ytahgfggcpmnnaab
