/- Contracts and lemmas (several texts merged into one). -/
import Derived.Test.YtahgfggcpmnnaaaTKup4
import Derived.Test.YtahgfggcpmnnaaaZs
import Derived.Test.YtahgfggcpmnnaaaTKup2
import Derived.RegionTactic
namespace Go.Proofs.Ytahgfggcpmnnaaa
open Go Go.RowKit Go.Shelf Gs

attribute [local go_sem] Oper.semAt_some

theorem IsT.keep {W W' : World} (hk : ∀ b, (W.cell? ⟨b, 22, none⟩).isSome = true → W'.heap[b]? = W.heap[b]?) : ∀ {t : T} {v : Value}, IsT W t v → IsT W' t v
  | .nil, _, h => h
  | .node _ _ _, _, ⟨b, x, y, hv, hr, hl, hr2⟩ => ⟨b, x, y, hv, hr.of_block (hk b (by rw [hr.cell (i := 22) (by decide)]; rfl)), IsT.keep hk hl, IsT.keep hk hr2⟩
theorem then_false {K : Go.Act → World → Prop} {Q : Exit → Go.Act → World → Prop} : ∀ e a w, Exit.then K (fun _ _ _ => False) e a w → Exit.then K Q e a w := by
  intro e a w h
  cases e <;> first | exact h | exact False.elim h
theorem ro_row {W : World} {base : Nat} {v : Value} {l : List R} (h : rowR W base v l) : IsRo W v l := by
  have hcs := fun g hg => h.cells (g := g) hg
  rcases h.2 with ⟨rfl, h0⟩ | ⟨g, cap, cur, rfl, _, hgb, hcap, _⟩
  · exact ⟨none, 0, by rw [h0], by omega, fun hp => by omega⟩
  · refine ⟨some ⟨g, 0, none⟩, cap, rfl, by omega, fun hp => ⟨g, 0, rfl, (Array.getElem?_eq_some_iff.1 hgb).1, fun j hj => ?_⟩⟩
    obtain ⟨e0, e1, e2⟩ := encL_get l j hj
    have c0 := hcs g rfl _ _ e0; have c1 := hcs g rfl _ _ e1; have c2 := hcs g rfl _ _ e2
    rw [add_zero'] at c0 c1 c2
    exact ⟨by rw [Nat.zero_add]; exact c0, by rw [Nat.zero_add]; exact c1, by rw [Nat.zero_add]; exact c2⟩
set_option maxRecDepth 100000 in
set_option maxHeartbeats 8000000 in
theorem Merge_any {o x y : Int → Int} {size : Int} {W : World} {p q r : Option Addr} (h : IsM o size W p) (h' : IsM x size W q) (h'' : IsM y size W r) :
    ∃ La Lx Ly, Gs.Can o 0 La size ∧ Gs.Can x 0 Lx size ∧ Gs.Can y 0 Ly size ∧ La.length ≤ 4096 ∧ Lx.length ≤ 4096 ∧ Ly.length ≤ 4096 ∧
      Calls Try.prog 36 #[.agg #[.pointer p, .int .i64 size], .agg #[.pointer q, .int .i64 size], .agg #[.pointer r, .int .i64 size]] W fun e w' => ∃ mp ms u E, e = .returned (.tuple #[.agg #[.pointer mp, .int .i64 ms], u, .int .i64 E]) ∧
        Hid (Upd o (mg o x y) size 0 mp ms E w') ∧ Hid ((E = 5 ∧ u = .slice none 0 0) ∨ (E = 0 ∧ RowC W.heap.size u (mC (m3 La Lx Ly)) w')) ∧ Below W.heap.size W w' := by
  have hs := h.lo
  obtain ⟨bp, rfl⟩ := h.some
  obtain ⟨bq, rfl⟩ := h'.some
  obtain ⟨br, rfl⟩ := h''.some
  obtain ⟨ta, a1, a2, a3⟩ := h.tr
  obtain ⟨tb, b1, b2, b3⟩ := h'.tr
  obtain ⟨tc, c1, c2, c3⟩ := h''.tr
  have hcl := Gs.Can.same (clip_can a2 (Int.le_refl 0) (by omega) (Int.le_refl size)) a2
  have hB3 := B3.of h.ctx h'.ctx h''.ctx
  have hla : ta.L.length ≤ 4096 := by rw [← T.sz_eq]; exact a3
  have hlb : tb.L.length ≤ 4096 := by rw [← T.sz_eq]; exact b3
  have hlc : tc.L.length ≤ 4096 := by rw [← T.sz_eq]; exact c3
  refine ⟨ta.L, tb.L, tc.L, a2, b2, c2, hla, hlb, hlc, ?_⟩
  have HLB : Hid (∀ lo hi, (clip lo hi tb.L).length ≤ 4096) := fun lo hi => Nat.le_trans (clip_len _ _ _) hlb
  have HLC : Hid (∀ lo hi, (clip lo hi tc.L).length ≤ 4096) := fun lo hi => Nat.le_trans (clip_len _ _ _) hlc
  have HCAN : Hid (Gs.Can (mg o x y) 0 (mR (m3 ta.L tb.L tc.L)) size) := mR_can (m3_f3 a2 b2 c2 hB3)
  have HCTX : Hid (Ctx (mg o x y) 0 size) := ⟨Int.le_refl 0, h.ctx.2.1, fun p p1 p2 => by
    obtain ⟨q1, q2, q3⟩ := hB3 p p1 p2
    unfold mg mt
    split
    · exact q2
    · split
      · exact q3
      · exact q1⟩
  obtain ⟨w0, HW, hm0, hm1, hm2, hm3, hc, hlt, hb⟩ := three_maps W (some bp, size) (some bq, size) (some br, size) 27 27
  have hs0 : w0.heap.size = W.heap.size + 1 + 1 + 1 + 1 + 1 := by rw [HW]; simp
  have HCK : Hid (Calls Try.prog 57 #[.slice (some ⟨W.heap.size + 1 + 1 + 1 + 1, 0, none⟩) 3 3] w0 fun e w' => e = .returned (.int .i64 0) ∧ Below w0.heap.size w0 w') :=
    checkSizes_ok (W.heap.size + 1 + 1 + 1 + 1) 3 [(some bp, size), (some bq, size), (some br, size)] size 0 w0 hlt (fun j hj => by
      have : j = 0 ∨ j = 1 ∨ j = 2 := by simp at hj; omega
      rcases this with rfl | rfl | rfl
      · exact ⟨hc 0 _ rfl, hc 1 _ rfl⟩
      · exact ⟨hc 2 _ rfl, hc 3 _ rfl⟩
      · exact ⟨hc 4 _ rfl, hc 5 _ rfl⟩) (by simp) (by simp) (by simp) (hc 1 _ rfl) (fun _ => rfl) (by simp)
  have HMH : Hid (Mhs w0 W.heap.size (some ⟨bp, 0, none⟩) (some ⟨bq, 0, none⟩) (some ⟨br, 0, none⟩) size) := by rw [HW]; exact four_maps W _ _ _ size _
  have HB := Lib.hid hb; have HS0 := Lib.hid hs0
  have HTA : Hid (IsTB W.heap.size W ta (some ⟨bp, 0, none⟩)) := IsT.tb a1
  have HTB : Hid (IsTB W.heap.size W tb (some ⟨bq, 0, none⟩)) := IsT.tb b1
  have HTC : Hid (IsTB W.heap.size W tc (some ⟨br, 0, none⟩)) := IsT.tb c1
  have HA2 := Lib.hid a2; have HB2 := Lib.hid b2; have HC2 := Lib.hid c2; have HCL := Lib.hid hcl
  have HW2 : Hid (w0 = ((((W.alloc (.cells #[.pointer (some ⟨bp, 0, none⟩), .int .i64 size] 27)).alloc (.cells #[.pointer (some ⟨bq, 0, none⟩), .int .i64 size] 27)).alloc (.cells #[.pointer (some ⟨br, 0, none⟩), .int .i64 size] 27)).alloc (.cells #[.pointer none, .int .i64 0] 27)).alloc (.cells #[.pointer (some ⟨bp, 0, none⟩), .int .i64 size, .pointer (some ⟨bq, 0, none⟩), .int .i64 size, .pointer (some ⟨br, 0, none⟩), .int .i64 size] 27)) := HW
  clear h h' h'' a1 a2 a3 b1 b2 b3 c1 c2 c3 hcl hm0 hm1 hm2 hm3 hc hlt hb hs0 HW hB3
  refine (callsIn_wide (n := 20)).1 ?_
  refine callsIn_of_wp_marks Try.func36 rfl trivial ?_ rfl
  simp only [Try.ntmps36, List.size_toArray, List.length_cons, List.length_nil, Nat.reduceAdd, Nat.reduceSub, Array.replicate_succ, Array.replicate_zero, List.push_toArray, List.append_toArray, List.nil_append, List.cons_append]
  gi_wp2_with fail
  rw [← HW2.out]
  refine ⟨trivial, (callsIn_wide.2 HCK.out).mono ?_⟩
  rintro e w1 ⟨rfl, hb⟩
  have hs1 : W.heap.size + 1 + 1 + 1 + 1 + 1 ≤ w1.heap.size := by have := hb.size; have := HS0.out; omega
  have HMH1 : Hid (Mhs w1 W.heap.size (some ⟨bp, 0, none⟩) (some ⟨bq, 0, none⟩) (some ⟨br, 0, none⟩) size) := HMH.out.next fun k hk _ _ => hb.block k hk
  have HB1 := Lib.hid (HB.out.trans (hb.mono HB.out.size))
  obtain ⟨w2, HW2⟩ : ∃ w2, w2 = (w1.alloc (.cells #[.slice none 0 0] 31)).alloc (.cells #[.slice none 0 0] 66) := ⟨_, rfl⟩
  have b2 : Below w1.heap.size w1 w2 := by rw [HW2]; exact ((Below.refl _ _).alloc (Nat.le_refl _) _).alloc (by simp) _
  have o2 : Boxed w2 w1.heap.size 31 (.slice none 0 0) := by rw [HW2]; exact (Boxed.new _ _ _).alloc _
  have o3 : Boxed w2 (w1.heap.size + 1) 66 (.slice none 0 0) := by
    have := Boxed.new (w1.alloc (.cells #[.slice none 0 0] 31)) 66 (.slice none 0 0)
    rw [World.size_alloc] at this
    rw [HW2]; exact this
  have s2 : w2.heap.size = w1.heap.size + 1 + 1 := by rw [HW2]; simp
  have hmst : Mst W.heap.size w1.heap.size (w1.heap.size + 1) (some ⟨bp, 0, none⟩) (some ⟨bq, 0, none⟩) (some ⟨br, 0, none⟩) size [] (m3 [] tb.L tc.L) (.slice none 0 0) (.slice none 0 0) w2 :=
    ⟨⟨o2, o3, World.ownsRow_nil _ _ _ _, World.ownsRow_nil _ _ _ _, fun k ek => by simp [Value.ownBlock] at ek⟩, HMH1.out.next fun k hk _ _ => b2.block k hk, fun b hb => (by cases hb), fun b hb => (by cases hb), by omega, Nat.lt_succ_self _⟩
  obtain ⟨w3, HW3⟩ : ∃ w3, w3 = w2.alloc (.cells #[.pointer (some ⟨bp, 0, none⟩), .int .i64 size] 27) := ⟨_, rfl⟩
  have b3 : Below w2.heap.size w2 w3 := by rw [HW3]; exact (Below.refl _ _).alloc (Nat.le_refl _) _
  have s3 : w3.heap.size = w1.heap.size + 1 + 1 + 1 := by rw [HW3, World.size_alloc, s2]
  obtain ⟨q0, q1, q2, q3, q4⟩ := seq_cells w3 (some ⟨bp, 0, none⟩) 0 size
  rw [s3] at q0 q1 q2 q3
  have b4 := b3.trans (q4.mono b3.size)
  have HST4 : Hid (Mst W.heap.size w1.heap.size (w1.heap.size + 1) (some ⟨bp, 0, none⟩) (some ⟨bq, 0, none⟩) (some ⟨br, 0, none⟩) size [] (m3 [] tb.L tc.L) (.slice none 0 0) (.slice none 0 0) (seqW w3 (some ⟨bp, 0, none⟩) 0 size)) := hmst.next b4
  have b5 := b2.trans (b4.mono b2.size)
  have HSB := Lib.hid (HB1.out.trans (b5.mono HB1.out.size))
  have HSQ := Lib.hid (seq_stops (n := 19) (n₀ := W.heap.size) (lo := 0) (hi := size) (by rw [q3]; omega) HSB.out.size q0 q1 q2 (HTA.out.below HSB.out) HA2.out)
  have HAL : Hid (CallsIn Fence.wide 19 Try.prog 58 #[.agg #[.pointer (some ⟨bp, 0, none⟩), .int .i64 size]] w2 fun e w' => e = .returned (seqV (w1.heap.size + 1 + 1 + 1)) ∧ w' = seqW w3 (some ⟨bp, 0, none⟩) 0 size) := callsIn_wide.2 (by rw [HW3, ← s2]; exact all_any _ _ w2)
  have hm2 : Mh w2 W.heap.size (some ⟨bp, 0, none⟩) size := hmst.maps.m0
  have k0 : w2.cell? ⟨W.heap.size, 0, none⟩ = some (.pointer (some ⟨bp, 0, none⟩)) := hm2.cell
  have k1 : w2.cell? ⟨W.heap.size, 1, none⟩ = some (.int .i64 size) := by
    have h9 : w2.heap[W.heap.size]? = _ := hm2
    simp [World.cell?, h9]
  have HW2' := Lib.hid HW2
  have hge0 : w1.heap.size + 1 < (seqW w3 (some ⟨bp, 0, none⟩) 0 size).heap.size := by rw [q3]; omega
  generalize seqW w3 (some ⟨bp, 0, none⟩) 0 size = w4 at *
  clear hb b2 o2 o3 s2 q0 q1 q2 q3 q4 b3 b4 b5 s3 HW2 HW3 hmst hm2
  gi_upto_region 6 with fail
  rw [← HW2'.out]
  gi_wp2_with fail
  refine ⟨trivial, HAL.out.mono ?_⟩
  rintro e w' ⟨rfl, rfl⟩
  gi_wp2_with fail
  have hge : W.heap.size ≤ w'.heap.size := HSB.out.size
  obtain ⟨i0, hi0, hz0, hz1, hz2⟩ := info_parts infoCh
  refine wpIn_rangeFunc_ownH rfl (by omega) (gf := 72) (lb := #[.pointer (some ⟨w1.heap.size + 1 + 1 + 1, 0, none⟩), .pointer (some ⟨w1.heap.size + 1 + 1 + 1 + 1, 0, none⟩), .pointer (some ⟨w1.heap.size + 1 + 1 + 1 + 1 + 1, 0, none⟩)]) rfl trivial (enters_of Try.func72 (by kernel_rfl) rfl)
    HSQ.out belowK_t (belowK_b hge) (Below.refl _ _) (fun _ => rfl)
    (fun pre W2 => ((∃ v u, Mst W.heap.size w1.heap.size (w1.heap.size + 1) (some ⟨bp, 0, none⟩) (some ⟨bq, 0, none⟩) (some ⟨br, 0, none⟩) size [] (m3 pre tb.L tc.L) v u W2) ∧ (m3 pre tb.L tc.L).length ≤ pre.length * 16777216) ∧ Below W.heap.size W W2)
    (fun _ _ _ => False)
    (OwnFrom.and (Own.from (fun s A B row hs hg hr => ⟨Mst.own () A B row hs.1 hg hr, hs.2⟩) _) (ownFrom_below (Nat.le_refl _) hge))
    (fun _ _ _ _ _ hs _ _ => hs)
    ⟨⟨⟨_, _, HST4.out⟩, Nat.zero_le _⟩, HSB.out⟩
    (fun x a' W2 => ∃ Bo, Bx1 w1.heap.size (w1.heap.size + 1) Bo x W2 ∧ a' = { tmps := #[.agg #[.pointer (some ⟨bp, 0, none⟩), .int .i64 size], .agg #[.pointer (some ⟨bq, 0, none⟩), .int .i64 size], .agg #[.pointer (some ⟨br, 0, none⟩), .int .i64 size], .pointer (some ⟨W.heap.size, 0, none⟩), .pointer (some ⟨W.heap.size + 1, 0, none⟩), .pointer (some ⟨W.heap.size + 1 + 1, 0, none⟩), .pointer (some ⟨W.heap.size + 1 + 1 + 1, 0, none⟩), .slice none 0 0, .int .i64 0, .int .i64 0, .pointer (some ⟨w1.heap.size, 0, none⟩), .pointer (some ⟨w1.heap.size + 1, 0, none⟩), .pointer (some ⟨Bo, 0, none⟩), undef, undef, undef, undef, .agg #[.pointer (some ⟨bp, 0, none⟩), .int .i64 size], .agg #[.pointer (some ⟨bq, 0, none⟩), .int .i64 size], .agg #[.pointer (some ⟨br, 0, none⟩), .int .i64 size], .slice (some ⟨W.heap.size + 1 + 1 + 1 + 1, 0, none⟩) 3 3, .int .i64 0, .int .i64 0, .bool false, undef, undef, .agg #[.pointer (some ⟨bp, 0, none⟩), .int .i64 size], seqV (w1.heap.size + 1 + 1 + 1), .agg #[.int .i64 x.lo, .int .i64 x.hi, .int .i64 x.tag], undef, undef, undef, undef, undef, undef, undef, undef, undef, undef, undef, undef, undef, undef, undef, undef, undef, undef, undef, undef, undef, undef, undef, undef, undef, undef, undef, undef, undef, undef, undef, undef, undef, undef, undef, undef, undef, undef, undef, undef, undef, undef, undef, undef, undef, undef, undef, undef, undef, undef, undef, undef, undef, undef, undef, undef, undef], defers := [] })
    (fun x a' => Own.from (fun s A B row hs hg hr => by
      obtain ⟨Bo, h1, h2⟩ := hs
      exact ⟨Bo, Bx1.own () A B row h1 hg hr, h2⟩) _) ?assign ?body ?done ?stop
  case assign =>
    rintro l pre ⟨xa, xb, xc⟩ W2 K ⟨⟨⟨v, u, g1⟩, g4⟩, g5⟩ hK
    unfold encR
    gi_wp2
    exact hK _ _ ((KeepsOthers.alloc _ _).from _) ((Below.refl _ W2).alloc g5.size _) ⟨⟨⟨v, u, g1.alloc _⟩, g4⟩, g5.alloc g5.size _⟩ ⟨W2.heap.size, (g1.box ⟨xa, xb, xc⟩).un, rfl⟩
  case body =>
    rintro l pre ⟨xa, xb, xc⟩ a' W2 hl ⟨r, hr⟩ ⟨⟨⟨v, u, g1⟩, g4⟩, g5⟩ ⟨Bo, hBo, rfl⟩ hlt
    have hla2 : pre.length < 4096 := by rw [HCL.out] at hlt; omega
    have m := g1.and hBo
    have m0 := m.maps.m1.cell
    obtain ⟨r0, r1, r2⟩ := (m.rbs _ (List.mem_cons_self ..)).1.cells
    simp only at r0 r1 r2
    obtain ⟨q0, q1, q2, q3, q4⟩ := seq_cells W2 (some ⟨bq, 0, none⟩) xa xb
    have HWI : Hid (CallsIn Fence.wide 17 Try.prog 47 #[.pointer (some ⟨bq, 0, none⟩), .int .i64 xa, .int .i64 xb] W2 fun e w' => e = .returned (seqV W2.heap.size) ∧ w' = seqW W2 (some ⟨bq, 0, none⟩) xa xb) := callsIn_wide.2 (within_any _ _ _ W2)
    have i1 : Mst W.heap.size w1.heap.size (w1.heap.size + 1) (some ⟨bp, 0, none⟩) (some ⟨bq, 0, none⟩) (some ⟨br, 0, none⟩) size [(Bo, ⟨xa, xb, xc⟩)] (m3 pre tb.L tc.L ++ m3x ⟨xa, xb, xc⟩ [] tc.L) v u (seqW W2 (some ⟨bq, 0, none⟩) xa xb) := by
      rw [show m3x ⟨xa, xb, xc⟩ [] tc.L = [] from rfl, List.append_nil]
      exact m.next q4
    have i2 : (m3 pre tb.L tc.L ++ m3x ⟨xa, xb, xc⟩ [] tc.L).length ≤ pre.length * 16777216 + 0 * 4096 := by
      rw [show m3x ⟨xa, xb, xc⟩ [] tc.L = [] from rfl, List.append_nil]
      exact Nat.le_trans g4 (Nat.le_add_right _ _)
    have i5 : KeepsFrom w'.heap.size W2 (seqW W2 (some ⟨bq, 0, none⟩) xa xb) := (keeps_below q4).from _
    have hr' : (seqW W2 (some ⟨bq, 0, none⟩) xa xb).heap[l]? = some (.loop r) := (q4.block l (Array.getElem?_eq_some_iff.1 hr).1).trans hr
    have i6 : Below W.heap.size W2 (seqW W2 (some ⟨bq, 0, none⟩) xa xb) := q4.mono g5.size
    have hsz5 := Nat.le_trans g5.size q4.size
    have i7 : W.heap.size ≤ (seqW W2 (some ⟨bq, 0, none⟩) xa xb).heap.size := hsz5
    have i8 : w'.heap.size ≤ W2.heap.size := by have := (Array.getElem?_eq_some_iff.1 hr).1; omega
    have i9 : W2.heap.size ≤ (seqW W2 (some ⟨bq, 0, none⟩) xa xb).heap.size := q4.size
    have HSQ2 := Lib.hid (seq_stops (n := 17) (n₀ := W.heap.size) (lo := xa) (hi := xb) (w := seqW W2 (some ⟨bq, 0, none⟩) xa xb) (B := W2.heap.size) (by rw [q3]; omega) hsz5 q0 q1 q2 (HTB.out.below (g5.trans i6)) HB2.out)
    have G5 := Lib.hid g5
    clear q0 q1 q2 q3 q4 g1 hBo hsz5 g5 hlt m g4
    generalize seqW W2 (some ⟨bq, 0, none⟩) xa xb = w5 at *
    gi_wp2_with (refine ⟨trivial, ?_⟩; gi_at_call 47; refine (CallsIn.inRound l HWI.out).mono ?_; rintro e w6 ⟨rfl, rfl⟩)
    refine wpIn_rangeFunc_ownN (l₀ := l) (r₀ := r) rfl hr' (by omega) (gf := 72) (lb := #[.pointer (some ⟨W2.heap.size, 0, none⟩), .pointer (some ⟨W2.heap.size + 1, 0, none⟩), .pointer (some ⟨W2.heap.size + 1 + 1, 0, none⟩)]) rfl trivial (enters_of Try.func72 (by kernel_rfl) rfl)
      (HSQ2.out.inRound l) belowK_t (belowK_b i7) (Below.refl _ _) (fun _ => rfl)
      (fun pre2 W3 => ((∃ v u, Mst W.heap.size w1.heap.size (w1.heap.size + 1) (some ⟨bp, 0, none⟩) (some ⟨bq, 0, none⟩) (some ⟨br, 0, none⟩) size [(Bo, ⟨xa, xb, xc⟩)] (m3 pre tb.L tc.L ++ m3x ⟨xa, xb, xc⟩ pre2 tc.L) v u W3) ∧ (m3 pre tb.L tc.L ++ m3x ⟨xa, xb, xc⟩ pre2 tc.L).length ≤ pre.length * 16777216 + pre2.length * 4096) ∧ (Below W.heap.size W2 W3 ∧ KeepsFrom w'.heap.size W2 W3))
      (fun _ _ _ => False)
      (OwnFrom.and (Own.from (fun s A B row hs hg hr => ⟨Mst.own () A B row hs.1 hg hr, hs.2⟩) _) (OwnFrom.and (ownFrom_below G5.out.size i7) (ownFrom_keepsFrom i5.size)))
      (fun _ _ _ _ _ hs _ _ => hs)
      ⟨⟨⟨_, _, i1⟩, i2⟩, i6, i5⟩
      (fun y a2 W3 => ∃ By, Bx1 w1.heap.size (w1.heap.size + 1) By y W3 ∧ a2 = { tmps := #[.agg #[.pointer (some ⟨bp, 0, none⟩), .int .i64 size], .agg #[.pointer (some ⟨bq, 0, none⟩), .int .i64 size], .agg #[.pointer (some ⟨br, 0, none⟩), .int .i64 size], .pointer (some ⟨W.heap.size, 0, none⟩), .pointer (some ⟨W.heap.size + 1, 0, none⟩), .pointer (some ⟨W.heap.size + 1 + 1, 0, none⟩), .pointer (some ⟨W.heap.size + 1 + 1 + 1, 0, none⟩), .slice none 0 0, .int .i64 0, .int .i64 0, .pointer (some ⟨w1.heap.size, 0, none⟩), .pointer (some ⟨w1.heap.size + 1, 0, none⟩), .pointer (some ⟨Bo, 0, none⟩), .pointer (some ⟨By, 0, none⟩), undef, undef, undef, .agg #[.pointer (some ⟨bp, 0, none⟩), .int .i64 size], .agg #[.pointer (some ⟨bq, 0, none⟩), .int .i64 size], .agg #[.pointer (some ⟨br, 0, none⟩), .int .i64 size], .slice (some ⟨W.heap.size + 1 + 1 + 1 + 1, 0, none⟩) 3 3, .int .i64 0, .int .i64 0, .bool false, undef, undef, .agg #[.pointer (some ⟨bp, 0, none⟩), .int .i64 size], seqV (w1.heap.size + 1 + 1 + 1), .agg #[.int .i64 xa, .int .i64 xb, .int .i64 xc], .pointer (some ⟨W.heap.size + 1, 0, none⟩), .pointer (some ⟨bq, 0, none⟩), .pointer (some ⟨Bo, 0, none⟩), .int .i64 xa, .pointer (some ⟨Bo, 1, none⟩), .int .i64 xb, seqV W2.heap.size, .agg #[.int .i64 y.lo, .int .i64 y.hi, .int .i64 y.tag], undef, undef, undef, undef, undef, undef, undef, undef, undef, undef, undef, undef, undef, undef, undef, undef, undef, undef, undef, undef, undef, undef, undef, undef, undef, undef, undef, undef, undef, undef, undef, undef, undef, undef, undef, undef, undef, undef, undef, undef, undef, undef, undef, undef, undef, undef, undef, undef, undef], defers := [] })
      (fun y a2 => Own.from (fun s A B row hs hg hr => by
        obtain ⟨By, h1, h2⟩ := hs
        exact ⟨By, Bx1.own () A B row h1 hg hr, h2⟩) _) ?assign2 ?body2 ?done2 ?stop2
    case assign2 =>
      rintro l2 pre2 ⟨ya, yb, yc⟩ W3 K ⟨⟨⟨v, u, c1⟩, c4⟩, hBW, hKF⟩ hK
      unfold encR
      gi_wp2
      exact hK _ _ ((KeepsOthers.alloc _ _).from _) ((Below.refl _ W3).alloc (Nat.le_trans G5.out.size hBW.size) _) ⟨⟨⟨v, u, c1.alloc _⟩, c4⟩, hBW.alloc (Nat.le_trans G5.out.size hBW.size) _, hKF.trans ((KeepsOthers.alloc _ _).from _)⟩ ⟨W3.heap.size, (c1.box ⟨ya, yb, yc⟩).un, rfl⟩
    case body2 =>
      rintro l2 pre2 ⟨ya, yb, yc⟩ a2 W3 hl2 ⟨r2, hr2⟩ ⟨⟨⟨v, u, c1⟩, c4⟩, hBW, hKF⟩ ⟨By, hBy, rfl⟩ hlt2
      have hl3 := HLB.out xa xb
      have hpl2 : pre2.length < 4096 := by omega
      have m := c1.and hBy
      have n0 := m.maps.m2.cell
      obtain ⟨y0, y1, y2⟩ := (m.rbs _ (List.mem_cons_self ..)).1.cells
      simp only at y0 y1 y2
      obtain ⟨q0, q1, q2, q3, q4⟩ := seq_cells W3 (some ⟨br, 0, none⟩) ya yb
      have HWI2 : Hid (CallsIn Fence.wide 15 Try.prog 47 #[.pointer (some ⟨br, 0, none⟩), .int .i64 ya, .int .i64 yb] W3 fun e w' => e = .returned (seqV W3.heap.size) ∧ w' = seqW W3 (some ⟨br, 0, none⟩) ya yb) := callsIn_wide.2 (within_any _ _ _ W3)
      have j1 : Mst W.heap.size w1.heap.size (w1.heap.size + 1) (some ⟨bp, 0, none⟩) (some ⟨bq, 0, none⟩) (some ⟨br, 0, none⟩) size [(By, ⟨ya, yb, yc⟩), (Bo, ⟨xa, xb, xc⟩)] (m3 pre tb.L tc.L ++ m3x ⟨xa, xb, xc⟩ pre2 tc.L ++ m3y ⟨xa, xb, xc⟩ ⟨ya, yb, yc⟩ []) v u (seqW W3 (some ⟨br, 0, none⟩) ya yb) := by
        rw [show m3y ⟨xa, xb, xc⟩ ⟨ya, yb, yc⟩ [] = [] from rfl, List.append_nil]
        exact m.next q4
      have j2 : (m3 pre tb.L tc.L ++ m3x ⟨xa, xb, xc⟩ pre2 tc.L ++ m3y ⟨xa, xb, xc⟩ ⟨ya, yb, yc⟩ []).length ≤ pre.length * 16777216 + pre2.length * 4096 + 0 := by
        rw [show m3y ⟨xa, xb, xc⟩ ⟨ya, yb, yc⟩ [] = [] from rfl, List.append_nil]
        exact Nat.le_trans c4 (Nat.le_add_right _ _)
      have hsW3 : W.heap.size ≤ W3.heap.size := Nat.le_trans G5.out.size hBW.size
      have j5 : KeepsFrom w'.heap.size W3 (seqW W3 (some ⟨br, 0, none⟩) ya yb) := (keeps_below q4).from _
      have hr2' : (seqW W3 (some ⟨br, 0, none⟩) ya yb).heap[l2]? = some (.loop r2) := (q4.block l2 (Array.getElem?_eq_some_iff.1 hr2).1).trans hr2
      have j6 : Below W.heap.size W3 (seqW W3 (some ⟨br, 0, none⟩) ya yb) := q4.mono hsW3
      have hsz6 := Nat.le_trans hsW3 q4.size
      have j7 : W.heap.size ≤ (seqW W3 (some ⟨br, 0, none⟩) ya yb).heap.size := hsz6
      have j9 : W3.heap.size ≤ (seqW W3 (some ⟨br, 0, none⟩) ya yb).heap.size := q4.size
      have j8 : w6.heap.size ≤ W3.heap.size := by have := (Array.getElem?_eq_some_iff.1 hr2).1; omega
      have HSQ3 := Lib.hid (seq_stops (n := 15) (n₀ := W.heap.size) (lo := ya) (hi := yb) (w := seqW W3 (some ⟨br, 0, none⟩) ya yb) (B := W3.heap.size) (by rw [q3]; omega) hsz6 q0 q1 q2 (HTC.out.below ((G5.out.trans hBW).trans j6)) HC2.out)
      have HBW := Lib.hid hBW; have HKF := Lib.hid hKF
      clear q0 q1 q2 q3 q4 c1 hBy hsz6 hlt2 m c4 hBW hKF
      generalize seqW W3 (some ⟨br, 0, none⟩) ya yb = w7 at *
      gi_wp2_with (refine ⟨trivial, ?_⟩; gi_at_call 47; refine (CallsIn.inRound l2 (CallsIn.inRound l HWI2.out)).mono ?_; rintro e w8 ⟨rfl, rfl⟩)
      refine wpIn_rangeFunc_ownN (l₀ := l2) (r₀ := r2) rfl hr2' (by omega) (gf := 72) (lb := #[.pointer (some ⟨W3.heap.size, 0, none⟩), .pointer (some ⟨W3.heap.size + 1, 0, none⟩), .pointer (some ⟨W3.heap.size + 1 + 1, 0, none⟩)]) rfl trivial (enters_of Try.func72 (by kernel_rfl) rfl)
        ((HSQ3.out.inRound l).inRound l2) belowK_t (belowK_b j7) (Below.refl _ _) (fun _ => rfl)
        (fun pre3 W4 => ((∃ v u, Mst W.heap.size w1.heap.size (w1.heap.size + 1) (some ⟨bp, 0, none⟩) (some ⟨bq, 0, none⟩) (some ⟨br, 0, none⟩) size [(By, ⟨ya, yb, yc⟩), (Bo, ⟨xa, xb, xc⟩)] (m3 pre tb.L tc.L ++ m3x ⟨xa, xb, xc⟩ pre2 tc.L ++ m3y ⟨xa, xb, xc⟩ ⟨ya, yb, yc⟩ pre3) v u W4) ∧ (m3 pre tb.L tc.L ++ m3x ⟨xa, xb, xc⟩ pre2 tc.L ++ m3y ⟨xa, xb, xc⟩ ⟨ya, yb, yc⟩ pre3).length ≤ pre.length * 16777216 + pre2.length * 4096 + pre3.length) ∧ (Below W.heap.size W3 W4 ∧ KeepsFrom w'.heap.size W3 W4))
        (fun _ _ _ => False)
        (OwnFrom.and (Own.from (fun s A B row hs hg hr => ⟨Mst.own () A B row hs.1 hg hr, hs.2⟩) _) (OwnFrom.and (ownFrom_below hsW3 j7) (ownFrom_keepsFrom j5.size)))
        (fun _ _ _ _ _ hs _ _ => hs)
        ⟨⟨⟨_, _, j1⟩, j2⟩, j6, j5⟩
        (fun z a3 W4 => ∃ Bz, Bx1 w1.heap.size (w1.heap.size + 1) Bz z W4 ∧ a3 = { tmps := #[.agg #[.pointer (some ⟨bp, 0, none⟩), .int .i64 size], .agg #[.pointer (some ⟨bq, 0, none⟩), .int .i64 size], .agg #[.pointer (some ⟨br, 0, none⟩), .int .i64 size], .pointer (some ⟨W.heap.size, 0, none⟩), .pointer (some ⟨W.heap.size + 1, 0, none⟩), .pointer (some ⟨W.heap.size + 1 + 1, 0, none⟩), .pointer (some ⟨W.heap.size + 1 + 1 + 1, 0, none⟩), .slice none 0 0, .int .i64 0, .int .i64 0, .pointer (some ⟨w1.heap.size, 0, none⟩), .pointer (some ⟨w1.heap.size + 1, 0, none⟩), .pointer (some ⟨Bo, 0, none⟩), .pointer (some ⟨By, 0, none⟩), .pointer (some ⟨Bz, 0, none⟩), undef, undef, .agg #[.pointer (some ⟨bp, 0, none⟩), .int .i64 size], .agg #[.pointer (some ⟨bq, 0, none⟩), .int .i64 size], .agg #[.pointer (some ⟨br, 0, none⟩), .int .i64 size], .slice (some ⟨W.heap.size + 1 + 1 + 1 + 1, 0, none⟩) 3 3, .int .i64 0, .int .i64 0, .bool false, undef, undef, .agg #[.pointer (some ⟨bp, 0, none⟩), .int .i64 size], seqV (w1.heap.size + 1 + 1 + 1), .agg #[.int .i64 xa, .int .i64 xb, .int .i64 xc], .pointer (some ⟨W.heap.size + 1, 0, none⟩), .pointer (some ⟨bq, 0, none⟩), .pointer (some ⟨Bo, 0, none⟩), .int .i64 xa, .pointer (some ⟨Bo, 1, none⟩), .int .i64 xb, seqV W2.heap.size, .agg #[.int .i64 ya, .int .i64 yb, .int .i64 yc], .pointer (some ⟨W.heap.size + 1 + 1, 0, none⟩), .pointer (some ⟨br, 0, none⟩), .pointer (some ⟨By, 0, none⟩), .int .i64 ya, .pointer (some ⟨By, 1, none⟩), .int .i64 yb, seqV W3.heap.size, .agg #[.int .i64 z.lo, .int .i64 z.hi, .int .i64 z.tag], undef, undef, undef, undef, undef, undef, undef, undef, undef, undef, undef, undef, undef, undef, undef, undef, undef, undef, undef, undef, undef, undef, undef, undef, undef, undef, undef, undef, undef, undef, undef, undef, undef, undef, undef, undef, undef, undef, undef, undef, undef], defers := [] })
        (fun z a3 => Own.from (fun s A B row hs hg hr => by
          obtain ⟨Bz, h1, h2⟩ := hs
          exact ⟨Bz, Bx1.own () A B row h1 hg hr, h2⟩) _) ?assign3 ?body3 ?done3 ?stop3
      case assign3 =>
        rintro l3 pre3 ⟨za, zb, zc⟩ W4 K ⟨⟨⟨v, u, d1⟩, d4⟩, hBW4, hKF4⟩ hK
        unfold encR
        gi_wp2
        exact hK _ _ ((KeepsOthers.alloc _ _).from _) ((Below.refl _ W4).alloc (Nat.le_trans hsW3 hBW4.size) _) ⟨⟨⟨v, u, d1.alloc _⟩, d4⟩, hBW4.alloc (Nat.le_trans hsW3 hBW4.size) _, hKF4.trans ((KeepsOthers.alloc _ _).from _)⟩ ⟨W4.heap.size, (d1.box ⟨za, zb, zc⟩).un, rfl⟩
      case body3 =>
        rintro l3 pre3 ⟨za, zb, zc⟩ a3 W4 _ _ ⟨⟨⟨v, u, d1⟩, d4⟩, hBW4, hKF4⟩ ⟨Bz, hBz, rfl⟩ hlt3
        have hl4 := HLC.out ya yb
        have m := d1.and hBz
        obtain ⟨TL, HTL⟩ : ∃ TL, TL = (m3 pre tb.L tc.L ++ m3x ⟨xa, xb, xc⟩ pre2 tc.L ++ m3y ⟨xa, xb, xc⟩ ⟨ya, yb, yc⟩ pre3) := ⟨_, rfl⟩
        rw [← HTL] at m d4
        have HT3 : Hid ((m3 pre tb.L tc.L ++ m3x ⟨xa, xb, xc⟩ pre2 tc.L ++ m3y ⟨xa, xb, xc⟩ ⟨ya, yb, yc⟩ (pre3 ++ [⟨za, zb, zc⟩])) = TL ++ [⟨za, zb, xc, yc, zc⟩]) := by
          rw [m3y_snoc, ← List.append_assoc, ← HTL]
          first | done | rfl
        have HLN : Hid ((m3 pre tb.L tc.L ++ m3x ⟨xa, xb, xc⟩ pre2 tc.L ++ m3y ⟨xa, xb, xc⟩ ⟨ya, yb, yc⟩ (pre3 ++ [⟨za, zb, zc⟩])).length ≤ pre.length * 16777216 + pre2.length * 4096 + (pre3 ++ [(⟨za, zb, zc⟩ : R)]).length) := by
          rw [HT3.out, len_snoc TL, len_snoc pre3, ← Nat.add_assoc]
          exact Nat.succ_le_succ d4
        clear HTL
        have hTL : TL.length ≤ 100000000000 := by omega
        have hRL : (mR TL).length ≤ 200000000000 := Nat.le_trans (mR_len TL) (by omega)
        have hCL : (mC TL).length ≤ 200000000000 := Nat.le_trans (mC_len TL) (by omega)
        have hsW4 : W.heap.size ≤ W4.heap.size := Nat.le_trans hsW3 hBW4.size
        have HMT : ∀ b, b = mtb xc yc zc → Hid (CallsIn Fence.wide 13 Try.prog 62 #[.int .i64 xc, .int .i64 yc, .int .i64 zc] W4 fun e w' => e = .returned (.tuple #[.int .i64 (mt xc yc zc), .bool b]) ∧ Below W4.heap.size W4 w') := fun b hb => by rw [hb]; exact callsIn_wide.2 (mergeTags_any xc yc zc W4)
        have hmc : mC (TL ++ [(⟨za, zb, xc, yc, zc⟩ : M3)]) = if mtb xc yc zc = true then mC TL else joinC (mC TL) ⟨za, zb, yc, zc⟩ := mC_snoc TL _
        obtain ⟨t, ht⟩ : ∃ t, t = mt xc yc zc := ⟨_, rfl⟩
        have hmr : mR (TL ++ [(⟨za, zb, xc, yc, zc⟩ : M3)]) = addR (mR TL) ⟨za, zb, t⟩ := by rw [ht]; exact mR_snoc TL _
        rw [← ht] at HMT
        have HMR := Lib.hid hmr; have HMC := Lib.hid hmc
        have HBW4 := Lib.hid hBW4; have HKF4 := Lib.hid hKF4
        have HM := Lib.hid m
        have x2 := (m.rbs (Bo, ⟨xa, xb, xc⟩) (by simp)).1.cells.2.2
        have y2' := (m.rbs (By, ⟨ya, yb, yc⟩) (by simp)).1.cells.2.2
        have z2 := (m.rbs (Bz, ⟨za, zb, zc⟩) (by simp)).1.cells.2.2
        simp only at x2 y2' z2
        obtain ⟨va, vc, rfl⟩ := own_slice m.two.rv
        obtain ⟨ua, uc, rfl⟩ := own_slice m.two.ru
        clear d1 m hBz hlt3 ht hmr hmc hBW4 hKF4 d4 hl4
        rcases hb : mtb xc yc zc with _ | _
        · have HMTb := HMT _ hb.symm
          have HCE : Hid (mC (TL ++ [(⟨za, zb, xc, yc, zc⟩ : M3)]) = joinC (mC TL) ⟨za, zb, yc, zc⟩) := by rw [HMC.out, hb]; rfl
          clear HMT hb
          gi_wp2_with fail
          refine ⟨trivial, (CallsIn.inRound l3 (CallsIn.inRound l2 (CallsIn.inRound l HMTb.out))).mono ?_⟩
          rintro e w9 ⟨rfl, hb9⟩
          have HM9 := Lib.hid (HM.out.next hb9)
          have HB9 := Lib.hid hb9
          have v0 := HM9.out.two.bv.cell
          obtain ⟨z0, z1, z2'⟩ := (HM9.out.rbs (Bz, ⟨za, zb, zc⟩) (by simp)).1.cells
          simp only at z0 z1 z2'
          have HAR : Hid (CallsIn Fence.wide 13 Try.prog 63 #[.slice va (mR TL).length vc, .agg #[.int .i64 za, .int .i64 zb, .int .i64 t]] w9 fun e w' => ∃ v', e = .returned v' ∧ Hid (JP w9 W.heap.size (.slice va (mR TL).length vc) (addR (mR TL) ⟨za, zb, t⟩) v' w')) := callsIn_wide.2 (addRun_any za zb t HM9.out.two.rv (Nat.le_trans hsW4 hb9.size) hRL)
          clear hb9 x2 y2' z2 z2'
          gi_wp2_with fail
          refine ⟨trivial, (CallsIn.inRound l3 (CallsIn.inRound l2 (CallsIn.inRound l HAR.out))).mono ?_⟩
          rintro e w10 ⟨v', rfl, HJ⟩
          obtain ⟨va', vc', rfl⟩ := own_slice HJ.out.own
          obtain ⟨k1, k2, k3, k4, k5, k6⟩ := HM9.out.run HJ.out
          have hc1 := k1.cell; have hf1 := k1.frozen
          have u0 := k2.bu.cell
          obtain ⟨z0, z1, z2'⟩ := (k4 (Bz, ⟨za, zb, zc⟩) (by simp)).1.cells
          have y2 := (k4 (By, ⟨ya, yb, yc⟩) (by simp)).1.cells.2.2
          simp only at z0 z1 z2' y2
          have HK2 := Lib.hid k2; have HK3 := Lib.hid k3
          have HK4 : Hid (∀ b ∈ [(Bz, (⟨za, zb, zc⟩ : R)), (By, ⟨ya, yb, yc⟩), (Bo, ⟨xa, xb, xc⟩)], Rb (w10.setCell ⟨w1.heap.size, 0, none⟩ (.slice va' (addR (mR TL) ⟨za, zb, t⟩).length vc')) b.1 b.2 ∧ w1.heap.size + 1 < b.1) := fun b hb => ⟨(k4 b hb).1, (HM9.out.rbs b hb).2⟩
          have HAP : Hid (∀ b ∈ [(Bz, (⟨za, zb, zc⟩ : R)), (By, ⟨ya, yb, yc⟩), (Bo, ⟨xa, xb, xc⟩)], (Value.slice va' (addR (mR TL) ⟨za, zb, t⟩).length vc').ownBlock ≠ some b.1) := fun b hb => (k4 b hb).2
          have HK5 := Lib.hid ((HB9.out.mono hsW4).trans k5)
          have HK6 := Lib.hid ((keeps_below HB9.out).trans k6)
          have HAC : Hid (CallsIn Fence.wide 13 Try.prog 64 #[.slice ua (mC TL).length uc, .agg #[.int .i64 za, .int .i64 zb, .int .i64 yc, .int .i64 zc]] (w10.setCell ⟨w1.heap.size, 0, none⟩ (.slice va' (addR (mR TL) ⟨za, zb, t⟩).length vc')) fun e w' => ∃ v', e = .returned v' ∧ Hid (JC (w10.setCell ⟨w1.heap.size, 0, none⟩ (.slice va' (addR (mR TL) ⟨za, zb, t⟩).length vc')) W.heap.size (.slice ua (mC TL).length uc) (joinC (mC TL) ⟨za, zb, yc, zc⟩) v' w')) := callsIn_wide.2 (addChange_any za zb yc zc HK2.out.ru (Nat.le_trans hsW4 HK5.out.size) hCL)
          clear u0 z0 z1 z2' y2 k1 k2 k3 k4 k5 k6
          have u0 := HK2.out.bu.cell
          obtain ⟨z0, z1, z2'⟩ := (HK4.out (Bz, ⟨za, zb, zc⟩) (by simp)).1.cells
          have y2 := (HK4.out (By, ⟨ya, yb, yc⟩) (by simp)).1.cells.2.2
          simp only at z0 z1 z2' y2
          gi_wp2_with fail
          refine ⟨trivial, (CallsIn.inRound l3 (CallsIn.inRound l2 (CallsIn.inRound l HAC.out))).mono ?_⟩
          rintro e w11 ⟨u', rfl, HJC⟩
          obtain ⟨ua', uc', rfl⟩ := own_slice HJC.out.own
          obtain ⟨k1, k2, k3, k4, k5, k6⟩ := Two.last HK2.out HK3.out HK4.out HM9.out.hB HM9.out.hC HJC.out
          have hc2 := k1.cell; have hf2 := k1.frozen
          have hfin : Mst W.heap.size w1.heap.size (w1.heap.size + 1) (some ⟨bp, 0, none⟩) (some ⟨bq, 0, none⟩) (some ⟨br, 0, none⟩) size [(Bz, ⟨za, zb, zc⟩), (By, ⟨ya, yb, yc⟩), (Bo, ⟨xa, xb, xc⟩)] (m3 pre tb.L tc.L ++ m3x ⟨xa, xb, xc⟩ pre2 tc.L ++ m3y ⟨xa, xb, xc⟩ ⟨ya, yb, yc⟩ (pre3 ++ [⟨za, zb, zc⟩])) (.slice va' (addR (mR TL) ⟨za, zb, t⟩).length vc') (.slice ua' (joinC (mC TL) ⟨za, zb, yc, zc⟩).length uc') (w11.setCell ⟨w1.heap.size + 1, 0, none⟩ (.slice ua' (joinC (mC TL) ⟨za, zb, yc, zc⟩).length uc')) :=
            ⟨by rw [HT3.out, HMR.out, HCE.out]; exact k2, k3, fun b hb => ⟨k4 b hb, (HK4.out b hb).2⟩, HAP.out, HM9.out.hB, HM9.out.hC⟩
          have hp := hfin.pop
          have hbl := HK5.out.trans k5
          have hkp := HK6.out.trans k6
          clear hfin k1 k2 k3 k4 k5 k6 u0 z0 z1 z2' y2
          gi_wp2
          exact ⟨hkp.from _, hbl, ⟨⟨_, _, hp⟩, HLN.out⟩, HBW4.out.trans hbl, HKF4.out.trans (hkp.from _)⟩
        · have HMTb := HMT _ hb.symm
          have HCE : Hid (mC (TL ++ [(⟨za, zb, xc, yc, zc⟩ : M3)]) = mC TL) := by rw [HMC.out, hb]; rfl
          clear HMT hb
          gi_wp2_with fail
          refine ⟨trivial, (CallsIn.inRound l3 (CallsIn.inRound l2 (CallsIn.inRound l HMTb.out))).mono ?_⟩
          rintro e w9 ⟨rfl, hb9⟩
          have HM9 := Lib.hid (HM.out.next hb9)
          have HB9 := Lib.hid hb9
          have v0 := HM9.out.two.bv.cell
          obtain ⟨z0, z1, z2'⟩ := (HM9.out.rbs (Bz, ⟨za, zb, zc⟩) (by simp)).1.cells
          simp only at z0 z1 z2'
          have HAR : Hid (CallsIn Fence.wide 13 Try.prog 63 #[.slice va (mR TL).length vc, .agg #[.int .i64 za, .int .i64 zb, .int .i64 t]] w9 fun e w' => ∃ v', e = .returned v' ∧ Hid (JP w9 W.heap.size (.slice va (mR TL).length vc) (addR (mR TL) ⟨za, zb, t⟩) v' w')) := callsIn_wide.2 (addRun_any za zb t HM9.out.two.rv (Nat.le_trans hsW4 hb9.size) hRL)
          clear hb9 x2 y2' z2 z2'
          gi_wp2_with fail
          refine ⟨trivial, (CallsIn.inRound l3 (CallsIn.inRound l2 (CallsIn.inRound l HAR.out))).mono ?_⟩
          rintro e w10 ⟨v', rfl, HJ⟩
          obtain ⟨va', vc', rfl⟩ := own_slice HJ.out.own
          obtain ⟨k1, k2, k3, k4, k5, k6⟩ := HM9.out.run HJ.out
          have hc1 := k1.cell; have hf1 := k1.frozen
          have hfin : Mst W.heap.size w1.heap.size (w1.heap.size + 1) (some ⟨bp, 0, none⟩) (some ⟨bq, 0, none⟩) (some ⟨br, 0, none⟩) size [(Bz, ⟨za, zb, zc⟩), (By, ⟨ya, yb, yc⟩), (Bo, ⟨xa, xb, xc⟩)] (m3 pre tb.L tc.L ++ m3x ⟨xa, xb, xc⟩ pre2 tc.L ++ m3y ⟨xa, xb, xc⟩ ⟨ya, yb, yc⟩ (pre3 ++ [⟨za, zb, zc⟩])) (.slice va' (addR (mR TL) ⟨za, zb, t⟩).length vc') (.slice ua (mC TL).length uc) (w10.setCell ⟨w1.heap.size, 0, none⟩ (.slice va' (addR (mR TL) ⟨za, zb, t⟩).length vc')) :=
            ⟨by rw [HT3.out, HMR.out, HCE.out]; exact k2, k3, fun b hb => ⟨(k4 b hb).1, (HM9.out.rbs b hb).2⟩, fun b hb => (k4 b hb).2, HM9.out.hB, HM9.out.hC⟩
          have hp := hfin.pop
          have hbl := (HB9.out.mono hsW4).trans k5
          have hkp := (keeps_below HB9.out).trans k6
          clear hfin k1 k2 k3 k4 k5 k6 z0 z1 v0
          gi_wp2
          exact ⟨hkp.from _, hbl, ⟨⟨_, _, hp⟩, HLN.out⟩, HBW4.out.trans hbl, HKF4.out.trans (hkp.from _)⟩
      case done3 =>
        rintro ys3 W4 rfl ⟨⟨⟨v, u, d1⟩, d4⟩, hBW4, hKF4⟩
        have hl4 := HLC.out ya yb
        have hT : (m3 pre tb.L tc.L ++ m3x ⟨xa, xb, xc⟩ pre2 tc.L ++ m3y ⟨xa, xb, xc⟩ ⟨ya, yb, yc⟩ (clip ya yb tc.L)) = (m3 pre tb.L tc.L ++ m3x ⟨xa, xb, xc⟩ (pre2 ++ [⟨ya, yb, yc⟩]) tc.L) := by rw [m3x_snoc, List.append_assoc]
        rw [hT] at d1 d4
        have d5 : (m3 pre tb.L tc.L ++ m3x ⟨xa, xb, xc⟩ (pre2 ++ [⟨ya, yb, yc⟩]) tc.L).length ≤ pre.length * 16777216 + (pre2 ++ [(⟨ya, yb, yc⟩ : R)]).length * 4096 := by
          rw [len_snoc pre2, Nat.succ_mul, ← Nat.add_assoc]
          exact Nat.le_trans d4 (Nat.add_le_add_left hl4 _)
        have d6 := d1.pop
        have d7 := HBW.out.trans hBW4
        have d8 := HKF.out.trans hKF4
        have d9 : KeepsFrom w6.heap.size W3 W4 := KeepsFrom.up hKF4 (Nat.le_trans i8 i9)
        clear d1 d4 hT
        gi_wp2
        exact ⟨d9, hBW4, ⟨⟨_, _, d6⟩, d5⟩, d7, d8⟩
      case stop3 =>
        rintro c pre3 W4 _ h
        exact h.elim
    case done2 =>
      rintro ys2 W3 rfl ⟨⟨⟨v, u, c1⟩, c4⟩, hBW, hKF⟩
      have hl3 := HLB.out xa xb
      have hT : (m3 pre tb.L tc.L ++ m3x ⟨xa, xb, xc⟩ (clip xa xb tb.L) tc.L) = m3 (pre ++ [⟨xa, xb, xc⟩]) tb.L tc.L := by rw [m3_snoc]
      rw [hT] at c1 c4
      have c5 : (m3 (pre ++ [⟨xa, xb, xc⟩]) tb.L tc.L).length ≤ (pre ++ [(⟨xa, xb, xc⟩ : R)]).length * 16777216 := by
        rw [len_snoc pre, Nat.succ_mul]
        exact Nat.le_trans c4 (Nat.add_le_add_left (Nat.mul_le_mul_right 4096 hl3) _)
      have c6 := c1.pop
      have c7 := G5.out.trans hBW
      clear c1 c4 hT
      gi_wp2
      exact ⟨hKF, hBW, ⟨⟨_, _, c6⟩, c5⟩, c7⟩
    case stop2 =>
      rintro c pre2 W3 _ h
      exact h.elim
  case done =>
    rintro D ys W2 hD rfl ⟨⟨⟨v, u, g1⟩, g4⟩, g5⟩ hK
    rw [HCL.out] at g1
    obtain ⟨TT, hTT⟩ : ∃ TT, TT = m3 ta.L tb.L tc.L := ⟨_, rfl⟩
    rw [← hTT] at g1 HCAN
    have HTT := Lib.hid hTT
    have hv0 := g1.two.bv.cell; have hu0 := g1.two.bu.cell
    obtain ⟨va, vc, rfl⟩ := own_slice g1.two.rv
    obtain ⟨ua, uc, rfl⟩ := own_slice g1.two.ru
    have HG := Lib.hid g1
    have HK := Lib.hid hK
    have hr3 := g1.maps.m3.mb
    have d0 := hr3.c0; have d1 := hr3.c1; have d2 := hr3.f0; have d3 := hr3.f1
    have hm0 := g1.maps.m0.mb
    have b0 := hm0.c0; have b1 := hm0.c1
    have hDn : W.heap.size + 1 + 1 + 1 < D := by have := HSB.out.size; have := HST4.out.hB; have := HST4.out.two.bv.lt; omega
    have HFIN : Hid (∀ (W4 : World) (x y : Value), Below W2.heap.size W2 W4 → (((W4.setCell ⟨W.heap.size + 1 + 1 + 1, 0, none⟩ x).setCell ⟨W.heap.size + 1 + 1 + 1, 1, none⟩ y).heap[D]? = some (.deferred (some []))) ∧ ∀ o', Below W.heap.size W (((W4.setCell ⟨W.heap.size + 1 + 1 + 1, 0, none⟩ x).setCell ⟨W.heap.size + 1 + 1 + 1, 1, none⟩ y).putObj D o') ∧
        (((W4.setCell ⟨W.heap.size + 1 + 1 + 1, 0, none⟩ x).setCell ⟨W.heap.size + 1 + 1 + 1, 1, none⟩ y).putObj D o').cell? ⟨W.heap.size + 1 + 1 + 1, 0, none⟩ = some x ∧ (((W4.setCell ⟨W.heap.size + 1 + 1 + 1, 0, none⟩ x).setCell ⟨W.heap.size + 1 + 1 + 1, 1, none⟩ y).putObj D o').cell? ⟨W.heap.size + 1 + 1 + 1, 1, none⟩ = some y ∧
        (∀ k, k ≠ W.heap.size + 1 + 1 + 1 → k ≠ D → (((W4.setCell ⟨W.heap.size + 1 + 1 + 1, 0, none⟩ x).setCell ⟨W.heap.size + 1 + 1 + 1, 1, none⟩ y).putObj D o').heap[k]? = W4.heap[k]?)) := fun W4 x y hb4 => by
      obtain ⟨W5, hW5⟩ : ∃ W5, W5 = (W4.setCell ⟨W.heap.size + 1 + 1 + 1, 0, none⟩ x).setCell ⟨W.heap.size + 1 + 1 + 1, 1, none⟩ y := ⟨_, rfl⟩
      have hlt2 := (Array.getElem?_eq_some_iff.1 HK.out).1
      have hk5 : ∀ k, k ≠ W.heap.size + 1 + 1 + 1 → W5.heap[k]? = W4.heap[k]? := fun k hk => by rw [hW5]; exact (Below.heap_setCell _ _ _ k hk).trans (Below.heap_setCell _ _ _ k hk)
      have hD5 : W5.heap[D]? = some (.deferred (some [])) := (hk5 D (by omega)).trans ((hb4.block D hlt2).trans HK.out)
      have hb5 : Below W.heap.size W W5 := by rw [hW5]; exact below_put (g5.trans (hb4.mono g5.size)) (B := W.heap.size + 1 + 1 + 1) (by omega) x y
      have hm5 : Mb (W.heap.size + 1 + 1 + 1) none 0 W4 := hr3.next hb4
      have hq0 : W5.cell? ⟨W.heap.size + 1 + 1 + 1, 0, none⟩ = some x := by rw [hW5]; exact (World.cell?_setCell_other _ _ _ _ (by intro e; cases e)).trans (World.cell?_setCell_same _ _ _ hm5.c0)
      have hq1 : W5.cell? ⟨W.heap.size + 1 + 1 + 1, 1, none⟩ = some y := by rw [hW5]; exact World.cell?_setCell_same _ _ _ ((World.cell?_setCell_other _ _ _ _ (by intro e; cases e)).trans hm5.c1)
      rw [← hW5]
      refine ⟨hD5, fun o' => ⟨hb5.trans (belowK_b (w := W) (Nat.le_refl _) W5 D _ o' (by omega) hD5 rfl rfl), ?_, ?_, fun k h1 h2 => (World.putObj_heap_other h2).trans (hk5 k h1)⟩⟩
      · exact (World.cell?_of_block (w := W5) (World.putObj_heap_other (by show W.heap.size + 1 + 1 + 1 ≠ D; omega))).trans hq0
      · exact (World.cell?_of_block (w := W5) (World.putObj_heap_other (by show W.heap.size + 1 + 1 + 1 ≠ D; omega))).trans hq1
    by_cases hfull : 4096 < (mR TT).length
    · have hgt : ((mR TT).length : Int) > 4096 := by omega
      obtain ⟨hD3, hA3⟩ := HFIN.out W2 (.pointer none) (.int .i64 0) (Below.refl _ _)
      have HU : Hid (Upd o (mg o x y) size 0 none 0 5 W2) := .inr (.inl ⟨rfl, rfl, rfl, rfl, _, HCAN.out, hfull⟩)
      have HD3 := Lib.hid hD3; have HA3 := Lib.hid hA3
      clear g1 g4 hTT hD3 hA3 HFIN
      gi_wp2
      refine ⟨by simp, .inl ⟨_, _, rfl, run_takeDeferred HD3.out, ?_⟩⟩
      have h5 := HA3.out (.deferred none)
      obtain ⟨z1, z2, z3, z4⟩ := h5
      refine ⟨.tuple #[.agg #[.pointer none, .int .i64 0], .slice none 0 0, .int .i64 5], by simp [results, Try.results36, go_sem, z2, z3], none, 0, _, 5, rfl, ?_, .inl ⟨rfl, rfl⟩, z1⟩
      rcases HU.out with h | ⟨q1, q2, q3, q4, q5⟩ | ⟨_, h, _⟩
      · exact absurd rfl h.1
      · exact .inr (.inl ⟨q1, q2, q3, q4, q5⟩)
      · cases h
    · have hgt : ¬ ((mR TT).length : Int) > 4096 := by omega
      have hbd : Bd (mR TT) := ⟨by omega, Gs.Fits.bd HCAN.out.1 HCTX.out⟩
      have HRO : Hid (IsRo W2 (.slice va (mR TT).length vc) (mR TT)) := ro_row g1.two.rv
      have HBU : Hid (∀ W', Below W2.heap.size W2 W' → CallsIn Fence.wide 19 Try.prog 56 #[.slice va (mR TT).length vc] W' fun e w' => ∃ p, e = .returned (.pointer p) ∧ Hid (TrOf (mR TT) w' p) ∧ Below W2.heap.size W2 w') := fun W' h => callsIn_wide.2 ((build_any (mR TT).length (mR TT) va vc W' rfl (by obtain ⟨_, c', e, hc', _⟩ := HRO.out; injection e with _ _ e3; omega) (HRO.out.below h) hbd).mono fun e w' ⟨p, he, ht, hb⟩ => ⟨p, he, ht, h.trans (hb.mono h.size)⟩)
      have HAL2 : Hid (∀ W', Below W2.heap.size W2 W' → W'.cell? ⟨w1.heap.size, 0, none⟩ = some (.slice va (mR TT).length vc) ∧ W'.cell? ⟨w1.heap.size + 1, 0, none⟩ = some (.slice ua (mC TT).length uc) ∧ W'.cell? ⟨W.heap.size, 1, none⟩ = some (.int .i64 size) ∧ Mb (W.heap.size + 1 + 1 + 1) none 0 W') := fun W' h => ⟨(HG.out.two.next h).bv.cell, (HG.out.two.next h).bu.cell, (hm0.next h).c1, hr3.next h⟩
      have hs2 : Below W2.heap.size W2 W2.drew := (Below.refl _ _).drew
      clear g1 g4 hTT hu0 d0 d1 d2 d3 b0 b1
      gi_wp2
      clear hv0
      obtain ⟨t0, t1, t2, t3⟩ := HAL2.out _ hs2
      have t4 := t3.c0; have t5 := t3.c1; have t6 := t3.f0; have t7 := t3.f1
      clear t3
      gi_cut [7, 8] from 80 (fun s7 s8 W1 => s7 = .slice ua (mC TT).length uc ∧ s8 = .int .i64 0 ∧ ∃ p W4, Hid (TrOf (mR TT) W4 p) ∧ Hid (Below W2.heap.size W2 W4) ∧ W1 = (W4.setCell ⟨W.heap.size + 1 + 1 + 1, 0, none⟩ (.pointer p)).setCell ⟨W.heap.size + 1 + 1 + 1, 1, none⟩ (.int .i64 size))
      case first =>
        refine wpIn_mono ?_ (then_false (Q := _))
        gi_region_with (first | (refine ⟨trivial, ?_⟩; with_reducible refine (HBU.out _ ?h).mono ?_; (case h => assumption); rintro e w4 ⟨p, rfl, HT, hb4⟩; obtain ⟨t0, t1, t2, t3⟩ := HAL2.out _ hb4; have t4 := t3.c0; have t5 := t3.c1; have t6 := t3.f0; have t7 := t3.f1) | fail)
        all_goals
          go_simp
          gi_wp2_with fail
          gi_meet
          first | exact ⟨rfl, rfl, p, w4, HT, hb4, rfl⟩ | (case rel => exact ⟨rfl, rfl, p, w4, HT, hb4, rfl⟩)
      case rest =>
        obtain ⟨rfl, rfl, p, W4, HT, HB4, rfl⟩ := hcut
        obtain ⟨hD3, hA3⟩ := HFIN.out W4 (.pointer p) (.int .i64 size) HB4.out
        have HD3 := Lib.hid hD3; have HA3 := Lib.hid hA3
        clear hD3 hA3 HFIN
        gi_wp2
        refine ⟨by simp, .inl ⟨_, _, rfl, run_takeDeferred HD3.out, ?_⟩⟩
        have h5 := HA3.out (.deferred none)
        obtain ⟨z1, z2, z3, z4⟩ := h5
        refine ⟨.tuple #[.agg #[.pointer p, .int .i64 size], .slice ua (mC TT).length uc, .int .i64 0], by simp [results, Try.results36, go_sem, z2, z3], p, size, _, 0, rfl, ?_, .inr ⟨rfl, ?_⟩, z1⟩
        · refine .inr (.inr ⟨rfl, rfl, rfl, ?_⟩)
          obtain ⟨t9, e9, i9⟩ := HT.out
          refine ⟨hs, HCTX.out, t9, ?_, by rw [e9]; exact HCAN.out, by rw [T.sz_eq, e9]; omega⟩
          refine IsT.keep (fun b hb => z4 b (fun e => ?_) fun e => ?_) i9
          · subst e
            rw [(HAL2.out _ HB4.out).2.2.2.c22] at hb
            cases hb
          · subst e
            have h7 : W4.heap[b]? = some (.deferred (some [])) := (HB4.out.block b (Array.getElem?_eq_some_iff.1 HK.out).1).trans HK.out
            simp [World.cell?, h7] at hb
        · rw [← HTT.out]
          refine row_keep HG.out.two.ru fun k hk ek => (z4 k (fun e => ?_) fun e => ?_).trans (HB4.out.block k hk)
          · exact ne_row HG.out.maps.m3 (by decide) HG.out.two.ru (by rw [ek, e])
          · have h8 := own_cells HG.out.two.ru k _ ek (by rw [e]; exact HK.out)
            cases h8
  case stop =>
    rintro D c pre W2 _ _ h _
    exact h.elim
end Go.Proofs.Ytahgfggcpmnnaaa
namespace Go.Proofs.Ytahgfggcpmnnaaa
open Go Go.RowKit Gs

theorem Merge_ne (bp bq br : Nat) (s s2 s3 : Int) (W : World) (h : s2 ≠ s ∨ s3 ≠ s) :
    Calls Try.prog 36 #[MV.v (some bp, s), MV.v (some bq, s2), MV.v (some br, s3)] W fun e w' => e = .returned (.tuple #[.agg #[.pointer none, .int .i64 0], .slice none 0 0, .int .i64 2]) ∧ Below W.heap.size W w' := by
  obtain ⟨w0, HW, -, -, -, hr, hc, hlt, hb⟩ := three_maps W (some bp, s) (some bq, s2) (some br, s3) 27 27
  have HCK : Hid (Calls Try.prog 57 #[.slice (some ⟨W.heap.size + 1 + 1 + 1 + 1, 0, none⟩) 3 3] w0 fun e w' => e = .returned (.int .i64 2) ∧ Below w0.heap.size w0 w') :=
    checkSizes_ok (W.heap.size + 1 + 1 + 1 + 1) 3 [(some bp, s), (some bq, s2), (some br, s3)] s 2 w0 hlt (fun j hj => by
      have : j = 0 ∨ j = 1 ∨ j = 2 := by simp at hj; omega
      rcases this with rfl | rfl | rfl
      · exact ⟨hc 0 _ rfl, hc 1 _ rfl⟩
      · exact ⟨hc 2 _ rfl, hc 3 _ rfl⟩
      · exact ⟨hc 4 _ rfl, hc 5 _ rfl⟩) (by simp) (by simp) (by simp) (hc 1 _ rfl) (fun h' => h.elim (fun h => absurd (h' (some bq, s2) (by simp)) h) fun h => absurd (h' (some br, s3) (by simp)) h) (fun _ => rfl)
  have HR := Lib.hid hr; have HB := Lib.hid hb; have HW' := Lib.hid HW
  clear hr hc hlt hb HW h
  unfold MV.v
  obtain ⟨xp, hxp⟩ : ∃ xp, xp = MV.p (some bp, s) := ⟨_, rfl⟩
  obtain ⟨yp, hyp⟩ : ∃ yp, yp = MV.p (some bq, s2) := ⟨_, rfl⟩
  obtain ⟨zp, hzp⟩ : ∃ zp, zp = MV.p (some br, s3) := ⟨_, rfl⟩
  rw [← hxp, ← hyp, ← hzp] at HW' ⊢
  clear hxp hyp hzp
  go_enter Try.func36, Try.ntmps36
  go_wp2_with fail
  rw [← HW'.out]
  refine HCK.out.mono ?_
  rintro e w1 ⟨rfl, hb⟩
  have HR1 := Lib.hid (HR.out.next hb)
  have HB1 := Lib.hid (HB.out.trans (hb.mono HB.out.size))
  have d0 := HR1.out.c0; have d1 := HR1.out.c1; have d2 := HR1.out.f0; have d3 := HR1.out.f1
  obtain ⟨u0, u1⟩ : _ ∧ _ := ⟨(HR1.out.put none 0).c0, (HR1.out.put none 0).c1⟩
  clear hb
  go_wp2_with fail
  refine bodyPost_ret (v := .tuple #[.agg #[.pointer none, .int .i64 0], .slice none 0 0, .int .i64 2]) (by simp [results, Try.results36, go_sem, u0, u1]) rfl ?_
  have HBF := below_put HB1.out (B := W.heap.size + 1 + 1 + 1) (by omega) (.pointer none) (.int .i64 0)
  exact ⟨rfl, by first | exact HB1.out | exact HBF⟩
/-- ref.Merge where one map is unusable, or the sizes differ -/
theorem RMerge_no (s s2 s3 : Int) (a1 a2 a3 : Option Addr) (n1 c1 n2 c2 n3 c3 : Nat) (E : Int) (W : World) (h : (E = 1 ∧ (n1 = 0 ∨ n2 = 0 ∨ n3 = 0)) ∨ (E = 2 ∧ 0 < n1 ∧ 0 < n2 ∧ 0 < n3 ∧ (s ≠ s2 ∨ s ≠ s3))) :
    Calls Try.prog 37 #[.agg #[.int .i64 s, .slice a1 n1 c1], .agg #[.int .i64 s2, .slice a2 n2 c2], .agg #[.int .i64 s3, .slice a3 n3 c3]] W fun e w' => e = .returned (.tuple #[.agg #[.int .i64 0, .slice none 0 0], .slice none 0 0, .int .i64 E]) ∧ Below W.heap.size W w' := by
  obtain ⟨w1, HW1⟩ : ∃ w1, w1 = W.alloc (.cells #[.int .i64 s, .slice a1 n1 c1] 33) := ⟨_, rfl⟩
  obtain ⟨w2, HW2⟩ : ∃ w2, w2 = w1.alloc (.cells #[.int .i64 s2, .slice a2 n2 c2] 33) := ⟨_, rfl⟩
  obtain ⟨w3, HW3⟩ : ∃ w3, w3 = w2.alloc (.cells #[.int .i64 s3, .slice a3 n3 c3] 33) := ⟨_, rfl⟩
  obtain ⟨w0, HW0⟩ : ∃ w0, w0 = w3.alloc (.cells #[.int .i64 0, .slice none 0 0] 33) := ⟨_, rfl⟩
  have b1 : Below W.heap.size W w1 := by rw [HW1]; exact (Below.refl _ _).alloc (Nat.le_refl _) _
  have b2 : Below w1.heap.size w1 w2 := by rw [HW2]; exact (Below.refl _ _).alloc (Nat.le_refl _) _
  have b3 : Below w2.heap.size w2 w3 := by rw [HW3]; exact (Below.refl _ _).alloc (Nat.le_refl _) _
  have b4 : Below w3.heap.size w3 w0 := by rw [HW0]; exact (Below.refl _ _).alloc (Nat.le_refl _) _
  have s1' : w1.heap.size = W.heap.size + 1 := by rw [HW1]; simp
  have s2' : w2.heap.size = W.heap.size + 1 + 1 := by rw [HW2, World.size_alloc, s1']
  have s3' : w3.heap.size = W.heap.size + 1 + 1 + 1 := by rw [HW3, World.size_alloc, s2']
  have hb := b1.trans ((b2.trans ((b3.trans (b4.mono b3.size)).mono b2.size)).mono b1.size)
  have hm1 : M2 W.heap.size (.int .i64 s) (.slice a1 n1 c1) w0 := by
    have : M2 W.heap.size (.int .i64 s) (.slice a1 n1 c1) w1 := by rw [HW1]; exact M2.new _ _ _ _
    exact ((this.next b2).next b3).next b4
  have hm2 : M2 (W.heap.size + 1) (.int .i64 s2) (.slice a2 n2 c2) w0 := by
    have : M2 (W.heap.size + 1) (.int .i64 s2) (.slice a2 n2 c2) w2 := by rw [← s1', HW2]; exact M2.new _ _ _ _
    exact (this.next b3).next b4
  have hm3 : M2 (W.heap.size + 1 + 1) (.int .i64 s3) (.slice a3 n3 c3) w0 := by
    have : M2 (W.heap.size + 1 + 1) (.int .i64 s3) (.slice a3 n3 c3) w3 := by rw [← s2', HW3]; exact M2.new _ _ _ _
    exact this.next b4
  have hres : M2 (W.heap.size + 1 + 1 + 1) (.int .i64 0) (.slice none 0 0) w0 := by rw [← s3', HW0]; exact M2.new _ _ _ _
  rw [HW1] at HW2
  rw [HW2] at HW3
  rw [HW3] at HW0
  have HW' := Lib.hid HW0
  have HB := Lib.hid hb; have HM1 := Lib.hid hm1; have HM2 := Lib.hid hm2; have HM3 := Lib.hid hm3; have HR := Lib.hid hres
  have HALL : Hid (∀ W', Below w0.heap.size w0 W' → (W'.cell? ⟨W.heap.size, 0, none⟩ = some (.int .i64 s) ∧ W'.cell? ⟨W.heap.size, 1, none⟩ = some (.slice a1 n1 c1)) ∧ (W'.cell? ⟨W.heap.size + 1, 0, none⟩ = some (.int .i64 s2) ∧ W'.cell? ⟨W.heap.size + 1, 1, none⟩ = some (.slice a2 n2 c2)) ∧ (W'.cell? ⟨W.heap.size + 1 + 1, 0, none⟩ = some (.int .i64 s3) ∧ W'.cell? ⟨W.heap.size + 1 + 1, 1, none⟩ = some (.slice a3 n3 c3))) := fun W' h => ⟨⟨(HM1.out.next h).c0, (HM1.out.next h).c1⟩, ⟨(HM2.out.next h).c0, (HM2.out.next h).c1⟩, (HM3.out.next h).c0, (HM3.out.next h).c1⟩
  have HUS : Hid (∀ s a n c W' (b : Bool), decide (0 < n) = b → Below w0.heap.size w0 W' → Calls Try.prog 42 #[.agg #[.int .i64 s, .slice a n c]] W' fun e w' => e = .returned (.bool b) ∧ Below w0.heap.size w0 w') := fun s a n c W' b hb h => by
    have := RUsable_any s a n c W'
    rw [hb] at this
    exact this.mono fun e w' ⟨he, hB⟩ => ⟨he, h.trans (hB.mono h.size)⟩
  have HR0 : Hid (Below w0.heap.size w0 w0) := Below.refl _ _
  clear HW1 HW2 HW3 HW0 b1 b2 b3 b4 s1' s2' s3' hb hm1 hm2 hm3 hres HM1 HM2 HM3
  go_enter Try.func37, Try.ntmps37
  go_upto_region 1 with fail
  rw [← HW'.out]
  obtain ⟨⟨k0, k1⟩, ⟨k2, k3⟩, k4, k5⟩ := HALL.out w0 HR0.out
  have HQ0 := HR0
  by_cases h1 : n1 = 0
  · have HE : Hid (E = 1) := by rcases h with h | h <;> first | exact h.1 | (exfalso; omega)
    have HU1 := Lib.hid (fun W' => HUS.out s a1 n1 c1 W' false (decide_eq_false (by omega)))
    clear h h1
    go_wp2_with fail
    refine (HU1.out _ HQ0.out).mono ?_
    rintro e y1 ⟨rfl, hb⟩
    have HQ1 := Lib.hid hb
    clear hb k0 k1 k2 k3 k4 k5
    obtain ⟨⟨k0, k1⟩, ⟨k2, k3⟩, k4, k5⟩ := HALL.out y1 HQ1.out
    have HRr := Lib.hid (HR.out.next HQ1.out)
    have HBr := Lib.hid (HB.out.trans (HQ1.out.mono HB.out.size))
    have d0 := HRr.out.c0; have d1 := HRr.out.c1; have d2 := HRr.out.f0; have d3 := HRr.out.f1
    obtain ⟨u0, u1⟩ : _ ∧ _ := ⟨(HRr.out.put (.int .i64 0) (.slice none 0 0)).c0, (HRr.out.put (.int .i64 0) (.slice none 0 0)).c1⟩
    go_wp2_with fail
    refine bodyPost_ret (v := .tuple #[.agg #[.int .i64 0, .slice none 0 0], .slice none 0 0, .int .i64 1]) (by simp [results, Try.results37, go_sem, u0, u1]) rfl ?_
    have HBF := below_put HBr.out (B := W.heap.size + 1 + 1 + 1) (by omega) (.int .i64 0) (.slice none 0 0)
    exact ⟨by rw [HE.out], by first | exact HBr.out | exact HBF⟩
  · have hp1 : 0 < n1 := by omega
    by_cases h2 : n2 = 0
    · have HE : Hid (E = 1) := by rcases h with h | h <;> first | exact h.1 | (exfalso; omega)
      have HU1 := Lib.hid (fun W' => HUS.out s a1 n1 c1 W' true (decide_eq_true (by omega)))
      have HU2 := Lib.hid (fun W' => HUS.out s2 a2 n2 c2 W' false (decide_eq_false (by omega)))
      clear h h1 h2
      go_wp2_with fail
      refine (HU1.out _ HQ0.out).mono ?_
      rintro e y1 ⟨rfl, hb⟩
      have HQ1 := Lib.hid hb
      clear hb k0 k1 k2 k3 k4 k5
      obtain ⟨⟨k0, k1⟩, ⟨k2, k3⟩, k4, k5⟩ := HALL.out y1 HQ1.out
      go_wp2_with fail
      refine (HU2.out _ HQ1.out).mono ?_
      rintro e y2 ⟨rfl, hb⟩
      have HQ2 := Lib.hid hb
      clear hb k0 k1 k2 k3 k4 k5
      obtain ⟨⟨k0, k1⟩, ⟨k2, k3⟩, k4, k5⟩ := HALL.out y2 HQ2.out
      have HRr := Lib.hid (HR.out.next HQ2.out)
      have HBr := Lib.hid (HB.out.trans (HQ2.out.mono HB.out.size))
      have d0 := HRr.out.c0; have d1 := HRr.out.c1; have d2 := HRr.out.f0; have d3 := HRr.out.f1
      obtain ⟨u0, u1⟩ : _ ∧ _ := ⟨(HRr.out.put (.int .i64 0) (.slice none 0 0)).c0, (HRr.out.put (.int .i64 0) (.slice none 0 0)).c1⟩
      go_wp2_with fail
      refine bodyPost_ret (v := .tuple #[.agg #[.int .i64 0, .slice none 0 0], .slice none 0 0, .int .i64 1]) (by simp [results, Try.results37, go_sem, u0, u1]) rfl ?_
      have HBF := below_put HBr.out (B := W.heap.size + 1 + 1 + 1) (by omega) (.int .i64 0) (.slice none 0 0)
      exact ⟨by rw [HE.out], by first | exact HBr.out | exact HBF⟩
    · have hp2 : 0 < n2 := by omega
      by_cases h3 : n3 = 0
      · have HE : Hid (E = 1) := by rcases h with h | h <;> first | exact h.1 | (exfalso; omega)
        have HU1 := Lib.hid (fun W' => HUS.out s a1 n1 c1 W' true (decide_eq_true (by omega)))
        have HU2 := Lib.hid (fun W' => HUS.out s2 a2 n2 c2 W' true (decide_eq_true (by omega)))
        have HU3 := Lib.hid (fun W' => HUS.out s3 a3 n3 c3 W' false (decide_eq_false (by omega)))
        clear h h1 h2 h3
        go_wp2_with fail
        refine (HU1.out _ HQ0.out).mono ?_
        rintro e y1 ⟨rfl, hb⟩
        have HQ1 := Lib.hid hb
        clear hb k0 k1 k2 k3 k4 k5
        obtain ⟨⟨k0, k1⟩, ⟨k2, k3⟩, k4, k5⟩ := HALL.out y1 HQ1.out
        go_wp2_with fail
        refine (HU2.out _ HQ1.out).mono ?_
        rintro e y2 ⟨rfl, hb⟩
        have HQ2 := Lib.hid hb
        clear hb k0 k1 k2 k3 k4 k5
        obtain ⟨⟨k0, k1⟩, ⟨k2, k3⟩, k4, k5⟩ := HALL.out y2 HQ2.out
        go_wp2_with fail
        refine (HU3.out _ HQ2.out).mono ?_
        rintro e y3 ⟨rfl, hb⟩
        have HQ3 := Lib.hid hb
        clear hb k0 k1 k2 k3 k4 k5
        obtain ⟨⟨k0, k1⟩, ⟨k2, k3⟩, k4, k5⟩ := HALL.out y3 HQ3.out
        have HRr := Lib.hid (HR.out.next HQ3.out)
        have HBr := Lib.hid (HB.out.trans (HQ3.out.mono HB.out.size))
        have d0 := HRr.out.c0; have d1 := HRr.out.c1; have d2 := HRr.out.f0; have d3 := HRr.out.f1
        obtain ⟨u0, u1⟩ : _ ∧ _ := ⟨(HRr.out.put (.int .i64 0) (.slice none 0 0)).c0, (HRr.out.put (.int .i64 0) (.slice none 0 0)).c1⟩
        go_wp2_with fail
        refine bodyPost_ret (v := .tuple #[.agg #[.int .i64 0, .slice none 0 0], .slice none 0 0, .int .i64 1]) (by simp [results, Try.results37, go_sem, u0, u1]) rfl ?_
        have HBF := below_put HBr.out (B := W.heap.size + 1 + 1 + 1) (by omega) (.int .i64 0) (.slice none 0 0)
        exact ⟨by rw [HE.out], by first | exact HBr.out | exact HBF⟩
      · have hp3 : 0 < n3 := by omega
        have HE : Hid (E = 2 ∧ (s ≠ s2 ∨ s ≠ s3)) := by rcases h with h | h <;> first | exact ⟨h.1, h.2.2.2.2⟩ | (exfalso; omega)
        have HU1 := Lib.hid (fun W' => HUS.out s a1 n1 c1 W' true (decide_eq_true (by omega)))
        have HU2 := Lib.hid (fun W' => HUS.out s2 a2 n2 c2 W' true (decide_eq_true (by omega)))
        have HU3 := Lib.hid (fun W' => HUS.out s3 a3 n3 c3 W' true (decide_eq_true (by omega)))
        clear h h1 h2 h3
        go_wp2_with fail
        refine (HU1.out _ HQ0.out).mono ?_
        rintro e y1 ⟨rfl, hb⟩
        have HQ1 := Lib.hid hb
        clear hb k0 k1 k2 k3 k4 k5
        obtain ⟨⟨k0, k1⟩, ⟨k2, k3⟩, k4, k5⟩ := HALL.out y1 HQ1.out
        go_wp2_with fail
        refine (HU2.out _ HQ1.out).mono ?_
        rintro e y2 ⟨rfl, hb⟩
        have HQ2 := Lib.hid hb
        clear hb k0 k1 k2 k3 k4 k5
        obtain ⟨⟨k0, k1⟩, ⟨k2, k3⟩, k4, k5⟩ := HALL.out y2 HQ2.out
        go_wp2_with fail
        refine (HU3.out _ HQ2.out).mono ?_
        rintro e y3 ⟨rfl, hb⟩
        have HQ3 := Lib.hid hb
        clear hb k0 k1 k2 k3 k4 k5
        obtain ⟨⟨k0, k1⟩, ⟨k2, k3⟩, k4, k5⟩ := HALL.out y3 HQ3.out
        by_cases hs : s = s2
        · have hne : (s == s3) = false := beq_eq_false_iff_ne.2 (HE.out.2.elim (fun h => absurd hs h) id)
          subst hs
          have HRr := Lib.hid (HR.out.next HQ3.out)
          have HBr := Lib.hid (HB.out.trans (HQ3.out.mono HB.out.size))
          have d0 := HRr.out.c0; have d1 := HRr.out.c1; have d2 := HRr.out.f0; have d3 := HRr.out.f1
          obtain ⟨u0, u1⟩ : _ ∧ _ := ⟨(HRr.out.put (.int .i64 0) (.slice none 0 0)).c0, (HRr.out.put (.int .i64 0) (.slice none 0 0)).c1⟩
          go_wp2_with fail
          refine bodyPost_ret (v := .tuple #[.agg #[.int .i64 0, .slice none 0 0], .slice none 0 0, .int .i64 2]) (by simp [results, Try.results37, go_sem, u0, u1]) rfl ?_
          have HBF := below_put HBr.out (B := W.heap.size + 1 + 1 + 1) (by omega) (.int .i64 0) (.slice none 0 0)
          exact ⟨by rw [HE.out.1], by first | exact HBr.out | exact HBF⟩
        · have hne : (s == s2) = false := beq_eq_false_iff_ne.2 hs
          have HRr := Lib.hid (HR.out.next HQ3.out)
          have HBr := Lib.hid (HB.out.trans (HQ3.out.mono HB.out.size))
          have d0 := HRr.out.c0; have d1 := HRr.out.c1; have d2 := HRr.out.f0; have d3 := HRr.out.f1
          obtain ⟨u0, u1⟩ : _ ∧ _ := ⟨(HRr.out.put (.int .i64 0) (.slice none 0 0)).c0, (HRr.out.put (.int .i64 0) (.slice none 0 0)).c1⟩
          go_wp2_with fail
          refine bodyPost_ret (v := .tuple #[.agg #[.int .i64 0, .slice none 0 0], .slice none 0 0, .int .i64 2]) (by simp [results, Try.results37, go_sem, u0, u1]) rfl ?_
          have HBF := below_put HBr.out (B := W.heap.size + 1 + 1 + 1) (by omega) (.int .i64 0) (.slice none 0 0)
          exact ⟨by rw [HE.out.1], by first | exact HBr.out | exact HBF⟩
/-- both Merges -/
theorem both_Merge {W : World} {p q r : Option Addr} {z z2 z3 s s2 s3 : Int} {a1 a2 a3 : Option Addr} {n1 c1 n2 c2 n3 c3 : Nat} (hp : Dual 0 W p z s (.slice a1 n1 c1)) (hq : Dual 0 W q z2 s2 (.slice a2 n2 c2)) (hr : Dual 0 W r z3 s3 (.slice a3 n3 c3)) : ∃ (CX : Option Addr → Int → Value → Int → World → Prop) (DX : Int → Value → Value → Int → World → Prop),
    Hid (∀ W', Below W.heap.size W W' → Calls Try.prog 36 #[.agg #[.pointer p, .int .i64 z], .agg #[.pointer q, .int .i64 z2], .agg #[.pointer r, .int .i64 z3]] W' fun e w' => ∃ mp ms a n c E, e = .returned (.tuple #[.agg #[.pointer mp, .int .i64 ms], .slice a n c, .int .i64 E]) ∧ Hid (CX mp ms (.slice a n c) E w') ∧ Below W'.heap.size W' w') ∧
    Hid (∀ W', Below W.heap.size W W' → Calls Try.prog 37 #[.agg #[.int .i64 s, .slice a1 n1 c1], .agg #[.int .i64 s2, .slice a2 n2 c2], .agg #[.int .i64 s3, .slice a3 n3 c3]] W' fun e w' => ∃ rs va vn vc a n c E, e = .returned (.tuple #[.agg #[.int .i64 rs, .slice va vn vc], .slice a n c, .int .i64 E]) ∧ Hid (DX rs (.slice va vn vc) (.slice a n c) E w') ∧ Below W'.heap.size W' w') ∧
    Hid (∀ mp ms u E W1 W2, CX mp ms u E W1 → Below W1.heap.size W1 W2 → CX mp ms u E W2) ∧
    Hid (∀ rs v u E W1 W2, DX rs v u E W1 → Below W1.heap.size W1 W2 → DX rs v u E W2) ∧
    Hid (∀ mp ms u E rs v u' E' W1, CX mp ms u E W1 → DX rs v u' E' W1 → E = E' ∧ Dual 0 W1 mp ms rs v ∧ ∃ K : List Ch, K.length ≤ 100000 ∧ IsCs W1 u K ∧ IsCs W1 u' K) := by
  have hno : ∀ E : Int, (∀ W', Below W.heap.size W W' → Calls Try.prog 36 #[.agg #[.pointer p, .int .i64 z], .agg #[.pointer q, .int .i64 z2], .agg #[.pointer r, .int .i64 z3]] W' fun e w' => e = .returned (.tuple #[.agg #[.pointer none, .int .i64 0], .slice none 0 0, .int .i64 E]) ∧ Below W'.heap.size W' w') →
      (∀ W', Below W.heap.size W W' → Calls Try.prog 37 #[.agg #[.int .i64 s, .slice a1 n1 c1], .agg #[.int .i64 s2, .slice a2 n2 c2], .agg #[.int .i64 s3, .slice a3 n3 c3]] W' fun e w' => e = .returned (.tuple #[.agg #[.int .i64 0, .slice none 0 0], .slice none 0 0, .int .i64 E]) ∧ Below W'.heap.size W' w') → ∃ (CX : Option Addr → Int → Value → Int → World → Prop) (DX : Int → Value → Value → Int → World → Prop),
    Hid (∀ W', Below W.heap.size W W' → Calls Try.prog 36 #[.agg #[.pointer p, .int .i64 z], .agg #[.pointer q, .int .i64 z2], .agg #[.pointer r, .int .i64 z3]] W' fun e w' => ∃ mp ms a n c E, e = .returned (.tuple #[.agg #[.pointer mp, .int .i64 ms], .slice a n c, .int .i64 E]) ∧ Hid (CX mp ms (.slice a n c) E w') ∧ Below W'.heap.size W' w') ∧
    Hid (∀ W', Below W.heap.size W W' → Calls Try.prog 37 #[.agg #[.int .i64 s, .slice a1 n1 c1], .agg #[.int .i64 s2, .slice a2 n2 c2], .agg #[.int .i64 s3, .slice a3 n3 c3]] W' fun e w' => ∃ rs va vn vc a n c E, e = .returned (.tuple #[.agg #[.int .i64 rs, .slice va vn vc], .slice a n c, .int .i64 E]) ∧ Hid (DX rs (.slice va vn vc) (.slice a n c) E w') ∧ Below W'.heap.size W' w') ∧
    Hid (∀ mp ms u E W1 W2, CX mp ms u E W1 → Below W1.heap.size W1 W2 → CX mp ms u E W2) ∧
    Hid (∀ rs v u E W1 W2, DX rs v u E W1 → Below W1.heap.size W1 W2 → DX rs v u E W2) ∧
    Hid (∀ mp ms u E rs v u' E' W1, CX mp ms u E W1 → DX rs v u' E' W1 → E = E' ∧ Dual 0 W1 mp ms rs v ∧ ∃ K : List Ch, K.length ≤ 100000 ∧ IsCs W1 u K ∧ IsCs W1 u' K) := fun E h1 h2 => by
    refine ⟨fun mp ms u E' _ => mp = none ∧ ms = 0 ∧ u = .slice none 0 0 ∧ E' = E, fun rs v u E' _ => rs = 0 ∧ v = .slice none 0 0 ∧ u = .slice none 0 0 ∧ E' = E, fun W' h => (h1 W' h).mono fun e w' ⟨he, hB⟩ => ⟨none, 0, none, 0, 0, E, he, ⟨rfl, rfl, rfl, rfl⟩, hB⟩, fun W' h => (h2 W' h).mono fun e w' ⟨he, hB⟩ => ⟨0, none, 0, 0, none, 0, 0, E, he, ⟨rfl, rfl, rfl, rfl⟩, hB⟩, fun _ _ _ _ _ _ h _ => h, fun _ _ _ _ _ _ h _ => h, ?_⟩
    rintro mp ms u E1 rs v u' E2 W1 ⟨rfl, rfl, rfl, rfl⟩ ⟨rfl, rfl, rfl, rfl⟩
    exact ⟨rfl, .inl ⟨rfl, rfl, rfl, rfl⟩, [], by simp, cs_nil _, cs_nil _⟩
  rcases hp.open with ⟨rfl, rfl, rfl, hv⟩ | ⟨f, L1, f1, f2, f3, rfl, f5, f6⟩
  · injection hv with _ e2 _
    subst e2
    have hx : ∃ qv, q = MV.p (qv, z2) := by
      rcases hq.open with ⟨rfl, _⟩ | ⟨_, _, g1, _⟩
      · exact ⟨none, rfl⟩
      · obtain ⟨b, rfl⟩ := g1.some
        exact ⟨some b, rfl⟩
    have hy : ∃ rv, r = MV.p (rv, z3) := by
      rcases hr.open with ⟨rfl, _⟩ | ⟨_, _, g1, _⟩
      · exact ⟨none, rfl⟩
      · obtain ⟨b, rfl⟩ := g1.some
        exact ⟨some b, rfl⟩
    obtain ⟨qv, rfl⟩ := hx
    obtain ⟨rv, rfl⟩ := hy
    exact hno 1 (fun W' h => Merge_un (none, 0) (qv, z2) (rv, z3) W' (.inl rfl)) fun W' h => RMerge_no 0 s2 s3 a1 a2 a3 0 c1 n2 c2 n3 c3 1 W' (.inl ⟨rfl, .inl rfl⟩)
  · obtain ⟨bp, rfl⟩ := f1.some
    have hn1 : n1 = L1.length := by obtain ⟨_, _, hv, _⟩ := f3; injection hv
    rcases hq.open with ⟨rfl, rfl, rfl, hv⟩ | ⟨g, L2, g1, g2, g3, rfl, g5, g6⟩
    · injection hv with _ e2 _
      subst e2
      have hy : ∃ rv, r = MV.p (rv, z3) := by
        rcases hr.open with ⟨rfl, _⟩ | ⟨_, _, g1, _⟩
        · exact ⟨none, rfl⟩
        · obtain ⟨b, rfl⟩ := g1.some
          exact ⟨some b, rfl⟩
      obtain ⟨rv, rfl⟩ := hy
      exact hno 1 (fun W' h => Merge_un (some bp, s) (none, 0) (rv, z3) W' (.inr (.inl rfl))) fun W' h => RMerge_no s 0 s3 a1 a2 a3 n1 c1 0 c2 n3 c3 1 W' (.inl ⟨rfl, .inr (.inl rfl)⟩)
    · obtain ⟨bq, rfl⟩ := g1.some
      have hn2 : n2 = L2.length := by obtain ⟨_, _, hv, _⟩ := g3; injection hv
      rcases hr.open with ⟨rfl, rfl, rfl, hv⟩ | ⟨h, L3, h1, h2, h3, rfl, h5, h6⟩
      · injection hv with _ e2 _
        subst e2
        exact hno 1 (fun W' h => Merge_un (some bp, s) (some bq, s2) (none, 0) W' (.inr (.inr rfl))) fun W' h => RMerge_no s s2 0 a1 a2 a3 n1 c1 n2 c2 0 c3 1 W' (.inl ⟨rfl, .inr (.inr rfl)⟩)
      · obtain ⟨br, rfl⟩ := h1.some
        have hn3 : n3 = L3.length := by obtain ⟨_, _, hv, _⟩ := h3; injection hv
        by_cases hzz : s2 = s ∧ s3 = s
        · obtain ⟨e1, e2⟩ := hzz
          subst e1
          subst e2
          have hB3 := B3.of f1.ctx g1.ctx h1.ctx
          have hlen := m3_len f2 g2 h2 hB3
          have hcan := mR_can (m3_f3 f2 g2 h2 hB3)
          refine ⟨fun mp ms u E W => Upd f (mg f g h) s3 0 mp ms E W ∧ ((E = 5 ∧ u = .slice none 0 0) ∨ (E = 0 ∧ IsCs W u (mC (m3 L1 L2 L3)))), fun rs v u E W => (4096 < (mR (m3 L1 L2 L3)).length ∧ rs = 0 ∧ v = .slice none 0 0 ∧ u = .slice none 0 0 ∧ E = 5) ∨ ((mR (m3 L1 L2 L3)).length ≤ 4096 ∧ rs = s3 ∧ IsRs 0 W v (mR (m3 L1 L2 L3)) ∧ IsCs W u (mC (m3 L1 L2 L3)) ∧ E = 0), fun W' hW => ?_, fun W' hW => ?_, ?_, ?_, ?_⟩
          · obtain ⟨La', Lx', Ly', k1, k2, k3, -, -, -, k4⟩ := Merge_any (f1.below hW) (g1.below hW) (h1.below hW)
            have e1 := k1.same f2
            have e2 := k2.same g2
            have e3 := k3.same h2
            subst e1; subst e2; subst e3
            refine k4.mono ?_
            rintro e w' ⟨mp, ms, u, E, rfl, hU, hC, hB⟩
            have hu : ∃ a n c, u = .slice a n c := by
              rcases hC.out with ⟨_, h⟩ | ⟨_, h⟩
              · exact ⟨_, _, _, h⟩
              · obtain ⟨a, c, h⟩ := own_slice h
                exact ⟨_, _, _, h⟩
            obtain ⟨a, n, c, rfl⟩ := hu
            exact ⟨mp, ms, a, n, c, E, rfl, ⟨hU.out, hC.out.imp id fun h => ⟨h.1, IsCs.of_row h.2⟩⟩, hB⟩
          · refine (RMerge_ok (f3.below hW) (g3.below hW) (h3.below hW) f2 g2 h2 f1.ctx g1.ctx h1.ctx f1.lo f6 g6 h6).mono ?_
            rintro e w' ⟨rs, v, u, E, rfl, hM, hB⟩
            have hv : ∃ a n c, v = .slice a n c := by
              rcases hM.out with ⟨_, _, h, _⟩ | ⟨_, _, ⟨_, _, h, _⟩, _⟩
              · exact ⟨_, _, _, h⟩
              · exact ⟨_, _, _, h⟩
            have hu : ∃ a n c, u = .slice a n c := by
              rcases hM.out with ⟨_, _, _, h, _⟩ | ⟨_, _, _, h, _⟩
              · exact ⟨_, _, _, h⟩
              · obtain ⟨a, c, h⟩ := own_slice h
                exact ⟨_, _, _, h⟩
            obtain ⟨va, vn, vc, rfl⟩ := hv
            obtain ⟨a, n, c, rfl⟩ := hu
            refine ⟨rs, va, vn, vc, a, n, c, E, rfl, ?_, hB⟩
            rcases hM.out with h | ⟨h1, h2, h3, h4, h5⟩
            · exact .inl h
            · exact .inr ⟨h1, h2, h3.mono (Nat.zero_le _), IsCs.of_row h4, h5⟩
          · rintro mp ms u E W1 W2 ⟨q1, q2⟩ hb
            exact ⟨q1.below hb, q2.imp id fun h => ⟨h.1, h.2.below hb⟩⟩
          · rintro rs v u E W1 W2 (q | ⟨q1, q2, q3, q4, q5⟩) hb
            · exact .inl q
            · exact .inr ⟨q1, q2, q3.below hb, q4.below hb, q5⟩
          · rintro mp ms u E rs v u' E' W1 ⟨q1, q2⟩ q3
            have hkl := mC_len (m3 L1 L2 L3)
            rcases q1 with ⟨a1, _⟩ | ⟨_, rfl, rfl, rfl, L, hL, hl⟩ | ⟨_, rfl, rfl, hm⟩
            · exact absurd rfl a1
            · have := hL.same hcan
              subst this
              rcases q3 with ⟨b1, rfl, rfl, rfl, rfl⟩ | ⟨b1, _⟩
              · rcases q2 with ⟨_, rfl⟩ | ⟨b2, _⟩
                · exact ⟨rfl, .inl ⟨rfl, rfl, rfl, rfl⟩, [], by simp, cs_nil _, cs_nil _⟩
                · cases b2
              · omega
            · obtain ⟨L, hL, hl⟩ := hm.can
              have := hL.same hcan
              subst this
              rcases q3 with ⟨b1, _⟩ | ⟨b1, rfl, b3, b4, rfl⟩
              · omega
              · rcases q2 with ⟨b2, _⟩ | ⟨_, b5⟩
                · cases b2
                · exact ⟨rfl, .inr ⟨_, _, hm, hL, b3, rfl⟩, _, by omega, b5, b4⟩
        · have hzz' : s2 ≠ s ∨ s3 ≠ s := by
            by_cases e : s2 = s
            · exact .inr fun e' => hzz ⟨e, e'⟩
            · exact .inl e
          exact hno 2 (fun W' h => Merge_ne bp bq br s s2 s3 W' hzz') fun W' h => RMerge_no s s2 s3 a1 a2 a3 n1 c1 n2 c2 n3 c3 2 W' (.inr ⟨rfl, by omega, by omega, by omega, hzz'.imp (fun h e => h e.symm) fun h e => h e.symm⟩)
end Go.Proofs.Ytahgfggcpmnnaaa
namespace Go.Proofs.Ytahgfggcpmnnaaa
open Go Go.RowKit Gs

/-- what lay in w lies -/
def Kw (w W : World) : Prop := Below w.heap.size w W
theorem Kw.next {w W W' : World} (h : Kw w W) (hb : Below W.heap.size W W') : Kw w W' := Below.trans h (hb.mono (Below.size h))

/-- the operations that operation i waits for -/
def rdeps (md : Region.Mode) (ops : Array Oper) (i : Nat) : List Nat := match ops[i]? with
  | some o => (o.after.toList.filter fun e => Region.binds md e).map fun e => e.on
  | none => []
/-- those that it waits for, by way of others -/
def rreach (md : Region.Mode) (ops : Array Oper) : Nat → Nat → List Nat
  | 0, _ => []
  | f + 1, i => rdeps md ops i ++ (rdeps md ops i).flatMap (rreach md ops f)
def upd (x : Nat → Value) (i : Nat) (v : Value) : Nat → Value := fun j => if j = i then v else x j
theorem upd_same (x : Nat → Value) (i : Nat) (v : Value) : upd x i v i = v := if_pos rfl
theorem upd_other {x : Nat → Value} {i j : Nat} (v : Value) (h : j ≠ i) : upd x i v j = x j := if_neg h
/-- how many of the first m are not listed -/
def left (listed : Array Bool) (m : Nat) : Nat := ((List.range m).filter fun i => !listed.getD i true).length
theorem left_zero {listed : Array Bool} {m : Nat} (h : left listed m = 0) : ∀ i, i < m → listed.getD i true = true := by
  intro i hi
  have h1 := List.eq_nil_of_length_eq_zero h
  have h2 := List.filter_eq_nil_iff.1 h1 i (List.mem_range.2 hi)
  simpa using h2
theorem left_pos {listed : Array Bool} : ∀ {m : Nat}, left listed m ≠ 0 → ∃ i, i < m ∧ listed.getD i true = false ∧ ∀ j, j < i → listed.getD j true = true
  | 0, h => absurd rfl h
  | m + 1, h => by
    by_cases h0 : left listed m = 0
    · refine ⟨m, Nat.lt_succ_self m, ?_, left_zero h0⟩
      unfold left at h h0
      rw [List.range_succ, List.filter_append, List.length_append, h0] at h
      cases hx : listed.getD m true with
      | false => rfl
      | true =>
        simp only [List.filter_cons, List.filter_nil, hx] at h
        exact absurd rfl h
    · obtain ⟨i, h1, h2, h3⟩ := left_pos h0
      exact ⟨i, by omega, h2, h3⟩
theorem getD_set {listed : Array Bool} {i j : Nat} {d : Bool} (hi : i < listed.size) : (listed.setIfInBounds i true).getD j d = if j = i then true else listed.getD j d := by
  by_cases e : j = i
  · subst e
    rw [if_pos rfl]
    simp [Array.getD, hi]
  · rw [if_neg e]
    unfold Array.getD
    simp only [Array.size_setIfInBounds]
    split
    · rename_i h
      exact Array.getElem_setIfInBounds_ne h (Ne.symm e)
    · rfl
theorem left_set {listed : Array Bool} {i : Nat} (hi : i < listed.size) (h0 : listed.getD i true = false) : ∀ {m : Nat}, i < m → left listed m = left (listed.setIfInBounds i true) m + 1
  | 0, h => absurd h (Nat.not_lt_zero _)
  | m + 1, h => by
    unfold left
    rw [List.range_succ, List.filter_append, List.filter_append, List.length_append, List.length_append]
    by_cases e : i = m
    · subst e
      have h1 : ((List.range i).filter fun k => !(listed.setIfInBounds i true).getD k true) = (List.range i).filter fun k => !listed.getD k true := by
        refine List.filter_congr fun k hk => ?_
        rw [getD_set hi, if_neg (by have := List.mem_range.1 hk; omega)]
      rw [h1]
      have h2 : (listed.setIfInBounds i true).getD i true = true := by rw [getD_set hi, if_pos rfl]
      simp only [List.filter_cons, List.filter_nil, h0, h2]
      simp
    · have h1 := left_set hi h0 (m := m) (by omega)
      unfold left at h1
      have h2 : (listed.setIfInBounds i true).getD m true = listed.getD m true := by rw [getD_set hi, if_neg (fun h => e h.symm)]
      simp only [List.filter_cons, List.filter_nil, h2]
      omega
/-- **EACH OPERATION OF THE HEAD (the first m) SAYS ONCE WHAT IT YIELDS (T), of its own value and of those that it waits for; what an operation's consumer (kill) spoils is said no more behind that one.** Behind the head the tail begins, whatever the order was. -/
theorem region_each {P : Program} {md : Region.Mode} {ops : Array Oper} {Q : Exit → Go.Act → World → Prop} (w0 : World) (m : Nat) (F : (Nat → Value) → Go.Act) (T : Nat → (Nat → Value) → World → Prop) (kill : Nat → Option Nat)
    (hm : m ≤ ops.size) (hdag : ∀ i, i < m → ∀ j ∈ rdeps md ops i, j < i) (htail : ∀ i, i < ops.size → m ≤ i → ∀ j, j < m → j ∈ rreach md ops 20 i)
    (hTx : ∀ i x y w, (∀ j, j = i ∨ j ∈ rdeps md ops i → x j = y j) → T i x w → T i y w)
    (hspec : ∀ i, i < m → ∃ o, ops[i]? = some o ∧ ∀ x w, Kw w0 w → (∀ j ∈ rdeps md ops i, (kill j = none ∨ kill j = some i) → T j x w) → ∀ K' : Go.Act → World → Prop, (∀ v w', T i (upd x i v) w' → Kw w0 w' → (∀ j, j < m → j ≠ i → i ∉ rreach md ops 20 j → (∀ k, kill j = some k → k ≠ i ∧ k ∉ rreach md ops 20 i) → ∀ y, T j y w → T j y w') → K' (F (upd x i v)) w') →
      if Region.wanted o (yielded ops (F x).tmps) = true then Oper.wp P o (F x) w K' Q else K' ((F x).put o.dst undef) w)
    (hfin : ∀ x w listed, Kw w0 w → (∀ i, i < m → kill i = none → T i x w) → listed = Array.replicate m true ++ Array.replicate (ops.size - m) false → wpAny P md ops Q (ops.size - m) listed (F x) w) :
    ∀ c listed x w, Kw w0 w → left listed m = c → listed.size = ops.size → (∀ i, m ≤ i → i < ops.size → listed.getD i true = false) → (∀ i, i < ops.size → listed.getD i true = true → ∀ j ∈ rdeps md ops i, listed.getD j true = true) →
      (∀ i, i < m → listed.getD i true = true → (∀ k, kill i = some k → listed.getD k true = false) → T i x w) → wpAny P md ops Q (c + (ops.size - m)) listed (F x) w := by
  intro c
  induction c with
  | zero =>
    intro listed x w hk hc hsz htl hid hTl
    have hall := left_zero hc
    rw [Nat.zero_add]
    refine hfin x w listed hk (fun i hi hn => hTl i hi (hall i hi) (fun k hk => by rw [hn] at hk; cases hk)) ?_
    refine Array.ext (by simp; omega) fun i h1 h2 => ?_
    have hg : listed.getD i true = listed[i] := by simp [Array.getD, h1]
    by_cases h3 : i < m
    · rw [← hg, hall i h3, Array.getElem_append_left (by simpa using h3)]
      simp
    · rw [← hg, htl i (by omega) (by omega), Array.getElem_append_right (by simp; omega)]
      simp
  | succ c ih =>
    intro listed x w hk hc hsz htl hid hTl
    have hdep : ∀ {i : Nat} {o : Oper}, ops[i]? = some o → (∀ e ∈ o.after, Region.binds md e = true → listed.getD e.on false = true) → ∀ j ∈ rdeps md ops i, listed.getD j true = true := fun {i o} ho h j hj => by
      unfold rdeps at hj
      rw [ho] at hj
      obtain ⟨e, he, rfl⟩ := List.mem_map.1 hj
      obtain ⟨h1, h2⟩ := List.mem_filter.1 he
      have h3 := h e (Array.mem_toList_iff.1 h1) h2
      unfold Array.getD at h3 ⊢
      by_cases hs : e.on < listed.size
      · rw [dif_pos hs] at h3 ⊢; exact h3
      · rw [dif_neg hs] at h3; cases h3
    have hrch : ∀ f i, (∀ j ∈ rdeps md ops i, listed.getD j true = true) → ∀ j ∈ rreach md ops f i, listed.getD j true = true := by
      intro f
      induction f with
      | zero => intro i _ j hj; cases hj
      | succ f ihf =>
        intro i hi j hj
        rcases List.mem_append.1 hj with h | h
        · exact hi j h
        · obtain ⟨k, hk1, hk2⟩ := List.mem_flatMap.1 h
          refine ihf k (fun j' hj' => ?_) j hk2
          by_cases hks : k < ops.size
          · exact hid k hks (hi k hk1) j' hj'
          · unfold rdeps at hj'
            rw [Array.getElem?_eq_none (by omega)] at hj'
            cases hj'
    have hne : left listed m ≠ 0 := by omega
    rw [Nat.succ_add]
    refine ⟨fun hr => ?_, fun i hi => ?_⟩
    · exfalso
      obtain ⟨i, h1, h2, h3⟩ := left_pos hne
      obtain ⟨o, ho, -⟩ := hspec i h1
      have : i ∈ Region.ready md ops listed := mem_ready.2 ⟨h2, o, ho, fun e he hb => by
        have hj : e.on ∈ rdeps md ops i := by
          unfold rdeps
          rw [ho]
          exact List.mem_map.2 ⟨e, List.mem_filter.2 ⟨Array.mem_toList_iff.2 he, hb⟩, rfl⟩
        have h4 := hdag i h1 _ hj
        have h5 := h3 _ h4
        have h6 : e.on < listed.size := by omega
        simp [Array.getD, h6] at h5 ⊢
        exact h5⟩
      rw [hr] at this
      cases this
    · obtain ⟨h2, o, ho, hbd⟩ := mem_ready.1 hi
      have his : i < ops.size := (Array.getElem?_eq_some_iff.1 ho).1
      have hdp := hdep ho hbd
      by_cases h1 : i < m
      · obtain ⟨o', ho', hsp⟩ := hspec i h1
        obtain rfl : o' = o := by rw [ho] at ho'; injection ho' with h; exact h.symm
        refine wpOp_step ho fun K' hK => hsp x w hk (fun j hj hkl => hTl j (by have := hdag i h1 j hj; omega) (hdp j hj) (fun k hk => by
            rcases hkl with h | h
            · rw [h] at hk; cases hk
            · rw [h] at hk; cases hk; exact h2)) K' fun v w' hv hb hpr => hK _ _ (ih _ (upd x i v) w' hb ?_ (by simp [hsz]) (fun j j1 j2 => ?_) (fun j j1 j2 k hk2 => ?_) (fun j j1 j2 j3 => ?_))
        · have := left_set (listed := listed) (by omega) h2 h1
          omega
        · rw [getD_set (by omega), if_neg (by omega)]
          exact htl j j1 j2
        · rw [getD_set (by omega)] at j2 ⊢
          by_cases e : k = i
          · rw [if_pos e]
          · rw [if_neg e]
            by_cases e2 : j = i
            · subst e2; exact hdp k hk2
            · rw [if_neg e2] at j2
              exact hid j j1 j2 k hk2
        · rw [getD_set (by omega)] at j2
          by_cases e : j = i
          · subst e; exact hv
          · rw [if_neg e] at j2
            have hjs : j < ops.size := by omega
            have hnr : ∀ f, i ∉ rreach md ops f j := fun f h => by
              have := hrch f j (hid j hjs j2) i h
              rw [h2] at this; cases this
            have j4 : ∀ k, kill j = some k → k ≠ i ∧ listed.getD k true = false := fun k hk => by
              have := j3 k hk
              rw [getD_set (by omega)] at this
              by_cases e3 : k = i
              · rw [if_pos e3] at this; cases this
              · rw [if_neg e3] at this; exact ⟨e3, this⟩
            refine hTx j x (upd x i v) w' (fun l hl => ?_) (hpr j j1 e (hnr 20) (fun k hk => ⟨(j4 k hk).1, fun h => ?_⟩) x (hTl j j1 j2 fun k hk => (j4 k hk).2))
            · rcases hl with rfl | hl
              · exact (upd_other _ e).symm
              · refine (upd_other _ (fun e4 => ?_)).symm
                subst e4
                have := hid j hjs j2 _ hl
                rw [h2] at this; cases this
            · have := hrch 20 i hdp k h
              rw [(j4 k hk).2] at this; cases this
      · exfalso
        obtain ⟨k, k1, k2, -⟩ := left_pos hne
        have := hrch 20 i hdp k (htail i his (by omega) k k1)
        rw [k2] at this
        cases this
theorem getD_replicate {k i : Nat} {d : Bool} (h : i < k) : (Array.replicate k false).getD i d = false := by
  simp [Array.getD, h]
theorem left_new {k m : Nat} (h : m ≤ k) : left (Array.replicate k false) m = m := by
  unfold left
  rw [List.filter_eq_self.2 (fun i hi => by rw [getD_replicate (Nat.lt_of_lt_of_le (List.mem_range.1 hi) h)]; rfl), List.length_range]
/-- **A REGION WHOSE HEAD's OPERATIONS SAY EACH WHAT IT YIELDS.** -/
theorem region_own {P : Program} {ops : Array Oper} {Q : Exit → Go.Act → World → Prop} {id : Nat} {a : Go.Act} (w0 : World) (m : Nat) (F : (Nat → Value) → Go.Act) (T : Nat → (Nat → Value) → World → Prop) (kill : Nat → Option Nat) (x0 : Nat → Value) (ha : a = F x0) (hmix : P.follows .mixedOrders = true)
    (hm : m ≤ ops.size) (hdag : ∀ i, i < m → ∀ j ∈ rdeps .any ops i, j < i) (htail : ∀ i, i < ops.size → m ≤ i → ∀ j, j < m → j ∈ rreach .any ops 20 i)
    (hTx : ∀ i x y w, (∀ j, j = i ∨ j ∈ rdeps .any ops i → x j = y j) → T i x w → T i y w)
    (hspec : ∀ i, i < m → ∃ o, ops[i]? = some o ∧ ∀ x w, Kw w0 w → (∀ j ∈ rdeps .any ops i, (kill j = none ∨ kill j = some i) → T j x w) → ∀ K' : Go.Act → World → Prop, (∀ v w', T i (upd x i v) w' → Kw w0 w' → (∀ j, j < m → j ≠ i → i ∉ rreach .any ops 20 j → (∀ k, kill j = some k → k ≠ i ∧ k ∉ rreach .any ops 20 i) → ∀ y, T j y w → T j y w') → K' (F (upd x i v)) w') →
      if Region.wanted o (yielded ops (F x).tmps) = true then Oper.wp P o (F x) w K' Q else K' ((F x).put o.dst undef) w)
    (hfin : ∀ x w listed, Kw w0 w → (∀ i, i < m → kill i = none → T i x w) → listed = Array.replicate m true ++ Array.replicate (ops.size - m) false → wpAny P .any ops Q (ops.size - m) listed (F x) w) :
    (Code.region id ops true).wp P Q a w0 := by
  refine wp_region_any hmix ?_
  have h := region_each w0 m F T kill hm hdag htail hTx hspec hfin m (Array.replicate ops.size false) x0 w0.drew (Below.refl _ _).drew (left_new hm) (by simp) (fun i _ h2 => getD_replicate h2) (fun i h1 h2 => by rw [getD_replicate h1] at h2; cases h2) (fun i h1 h2 => by rw [getD_replicate (Nat.lt_of_lt_of_le h1 hm)] at h2; cases h2)
  rw [show m + (ops.size - m) = ops.size by omega] at h
  rw [ha]
  exact h
end Go.Proofs.Ytahgfggcpmnnaaa
namespace Go.Proofs.Ytahgfggcpmnnaaa
open Go Go.RowKit Gs

def encA (a : Act) : List Value := [.bool a.sw, .int .i64 a.lo, .int .i64 a.hi, .int .i64 a.fr, .int .i64 a.tt]
theorem encA_len (l : List Act) : (l.flatMap encA).length = l.length * 5 := by
  induction l with
  | nil => rfl
  | cons c l ih => rw [List.flatMap_cons, List.length_append, ih]; simp [encA]; omega
theorem encA_one (l : List Act) : ∀ u ∈ l.flatMap encA, u.oneCell' = true := by
  intro u hu
  obtain ⟨r, _, hr⟩ := List.mem_flatMap.1 hu
  simp only [encA, List.mem_cons, List.not_mem_nil, or_false] at hr
  rcases hr with rfl | rfl | rfl | rfl | rfl <;> rfl
theorem encA_get : ∀ (l : List Act) (j : Nat) (h : j < l.length), (l.flatMap encA)[j * 5]? = some (.bool l[j].sw) ∧ (l.flatMap encA)[j * 5 + 1]? = some (.int .i64 l[j].lo) ∧ (l.flatMap encA)[j * 5 + 2]? = some (.int .i64 l[j].hi) ∧ (l.flatMap encA)[j * 5 + 3]? = some (.int .i64 l[j].fr) ∧ (l.flatMap encA)[j * 5 + 4]? = some (.int .i64 l[j].tt)
  | r :: l, 0, _ => ⟨rfl, rfl, rfl, rfl, rfl⟩
  | r :: l, j + 1, h => by
    have ih := encA_get l j (by simpa using h)
    have e : ∀ i, ((r :: l).flatMap encA)[i + 5]? = (l.flatMap encA)[i]? := fun i => rfl
    rw [show (j + 1) * 5 = j * 5 + 5 by omega, show j * 5 + 5 + 1 = j * 5 + 1 + 5 by omega, show j * 5 + 5 + 2 = j * 5 + 2 + 5 by omega, show j * 5 + 5 + 3 = j * 5 + 3 + 5 by omega, show j * 5 + 5 + 4 = j * 5 + 4 + 5 by omega, e, e, e, e, e]
    exact ih
theorem IsAs.of_row {W : World} {base : Nat} {v : Value} {l : List Act} (h : W.ownsRow base 42 5 v l.length (l.flatMap encA)) : IsAs W v l := by
  have hcs := fun g hg => h.cells (g := g) hg
  have hlt := h.lt
  rcases h.2 with ⟨rfl, h0⟩ | ⟨g, cap, cur, rfl, _⟩
  · exact ⟨none, 0, by rw [h0], fun hp => by omega⟩
  · refine ⟨some ⟨g, 0, none⟩, cap, rfl, fun hp => ⟨g, 0, rfl, (hlt g rfl).2, fun j hj => ?_⟩⟩
    obtain ⟨e0, e1, e2, e3, e4⟩ := encA_get l j hj
    have c0 := hcs g rfl _ _ e0
    have c1 := hcs g rfl _ _ e1
    have c2 := hcs g rfl _ _ e2
    have c3 := hcs g rfl _ _ e3
    have c4 := hcs g rfl _ _ e4
    rw [add_zero'] at c0 c1 c2 c3 c4
    rw [Nat.zero_add]
    exact ⟨c0, c1, c2, c3, c4⟩
/-- the cells of a list of updates, in a row -/
theorem IsAs.news {W : World} {B o n c : Nat} {l : List Act} (h : IsAs W (.slice (some ⟨B, o, none⟩) n c) l) : ∀ j u, (l.flatMap encA)[j]? = some u → W.cell? ((⟨B, o, none⟩ : Addr).add j) = some u := by
  intro j u hj
  have hlt : j < l.length * 5 := by
    rw [← encA_len]
    exact (List.getElem?_eq_some_iff.1 hj).1
  obtain ⟨B', o', e, c0, c1, c2, c3, c4⟩ := h.at' (j := j / 5) (by omega)
  injection e with e
  injection e with e1 e2
  subst e1; subst e2
  obtain ⟨e0, e1, e2, e3, e4⟩ := encA_get l (j / 5) (by omega)
  rw [show (⟨B, o, none⟩ : Addr).add j = ⟨B, o + j, none⟩ by unfold Addr.add; split <;> simp_all]
  have hr : j % 5 = 0 ∨ j % 5 = 1 ∨ j % 5 = 2 ∨ j % 5 = 3 ∨ j % 5 = 4 := by omega
  rcases hr with hr | hr | hr | hr | hr
  · have ej : j = j / 5 * 5 := by omega
    rw [ej, e0] at hj
    rw [ej]; cases hj; exact c0
  · have ej : j = j / 5 * 5 + 1 := by omega
    rw [ej, e1] at hj
    rw [ej, ← Nat.add_assoc]; cases hj; exact c1
  · have ej : j = j / 5 * 5 + 2 := by omega
    rw [ej, e2] at hj
    rw [ej, ← Nat.add_assoc]; cases hj; exact c2
  · have ej : j = j / 5 * 5 + 3 := by omega
    rw [ej, e3] at hj
    rw [ej, ← Nat.add_assoc]; cases hj; exact c3
  · have ej : j = j / 5 * 5 + 4 := by omega
    rw [ej, e4] at hj
    rw [ej, ← Nat.add_assoc]; cases hj; exact c4
theorem infoAct : (Try.prog.info? 42).map (fun i => (i.zero, i.size, i.bytes)) = some (some (.agg #[.bool false, .int .i64 0, .int .i64 0, .int .i64 0, .int .i64 0]), 5, 40) := by kernel_rfl
/-- an append of a list of updates to a row of the law's own -/
theorem wp_append_acts {w : World} {o : Oper} {a : Go.Act} {K : Go.Act → World → Prop} {Q : Exit → Go.Act → World → Prop} (s x : Operand)
    (ho : o.op = .call { callee := .builtin .append, args := #[s, x], argTypes := #[22, 22] }) {base : Nat} {v cv : Value} {n m : Nat} {l k : List Act} (hmk : m = k.length)
    (hs : a.eval s = v) (hown : w.ownsRow base 42 5 v n (l.flatMap encA)) (hx : a.eval x = cv) (hk : IsAs w cv k) (hkv : cv = .slice none 0 0 ∨ ∃ a m c, cv = .slice (some a) m c) (hm : n + m ≤ 100000) (hb : base ≤ w.heap.size)
    (h : ∀ a2 c2 w5, w5.ownsRow base 42 5 (.slice a2 (n + m) c2) (n + m) ((l ++ k).flatMap encA) → w.grownBy w5 v.ownBlock → K (a.put o.dst (.slice a2 (n + m) c2)) w5) : o.wp Try.prog a w K Q := by
  obtain ⟨i0, hi0, hz0, hz1, hz2⟩ := info_parts infoAct
  rcases hkv with rfl | ⟨a0, m0, c0, rfl⟩
  · have hk0 : m = 0 := by
      obtain ⟨_, _, hv, _⟩ := hk
      simp only [Value.slice.injEq] at hv
      exact hmk.trans hv.2.1.symm
    have hk1 : k = [] := List.eq_nil_of_length_eq_zero (hmk.symm.trans hk0)
    subst hk1; subst hk0
    have hr := run_append_owned_none (P := Try.prog) w base 22 o.type 42 i0 5 Try.underlying22 hi0 v n _ hown
    unfold Oper.wp execOp
    simp only [ho, resolve, invoke, builtin, Sem.run_bind, Sem.run_pure, Result.andThen_ok, List.map_toArray, List.map_cons, List.map_nil, hs, hx, hr]
    obtain ⟨a2, c2, rfl⟩ := own_slice hown
    refine h a2 c2 w (by rw [Nat.add_zero, List.append_nil]; exact hown) ⟨rfl, rfl, rfl, Nat.le_refl _, fun _ _ _ => rfl⟩
  · have hm0 : m0 = m := by
      obtain ⟨_, _, hv, _⟩ := hk
      simp only [Value.slice.injEq] at hv
      exact hv.2.1.trans hmk.symm
    subst hm0
    have hnw : ∀ j u, (k.flatMap encA)[j]? = some u → w.cell? (a0.add j) = some u := by
      by_cases hz : k = []
      · subst hz
        intro j u hj
        simp at hj
      · obtain ⟨B, o', e, _⟩ := hk.at' (j := 0) (List.length_pos_iff.2 hz)
        injection e with e
        subst e
        exact hk.news
    refine wp_append_own w s x _ ho base _ i0 _ 5 40 Try.underlying22 hi0 hz0 hz1 hz2 rfl (by decide) v n _ hs hown a0 m0 c0 (k.flatMap encA) hx (by rw [encA_len, hmk]) hnw (encA_one k) (Nat.le_trans hm (by decide)) (Nat.le_trans (Nat.mul_le_mul_right 40 hm) (by decide)) hb ?_
    intro v' w5 hown' hgrow _
    rw [← List.flatMap_append] at hown'
    obtain ⟨a2, c2, rfl⟩ := own_slice hown'
    exact h _ _ _ hown' hgrow
/-- a box at or above w's end, of a known type -/
structure Zb (w : World) (X : Nat) (cs : Array Value) (T : TypeId) (W : World) : Prop where
  ge : w.heap.size ≤ X
  at' : W.heap[X]? = some (.cells cs T (0, 0))
theorem Zb.lt {w W : World} {X : Nat} {cs : Array Value} {T : TypeId} (h : Zb w X cs T W) : X < W.heap.size := (Array.getElem?_eq_some_iff.1 h.at').1
theorem Zb.new {w W : World} (h : Kw w W) (cs : Array Value) (T : TypeId) : Zb w W.heap.size cs T (W.alloc (.cells cs T)) := ⟨Below.size h, heap_alloc_new W _⟩
theorem Zb.next {w W W' : World} {X : Nat} {cs : Array Value} {T : TypeId} (h : Zb w X cs T W) (hb : Below W.heap.size W W') : Zb w X cs T W' := ⟨h.ge, (hb.block X h.lt).trans h.at'⟩
theorem Zb.grown {w W W' : World} {X : Nat} {cs : Array Value} {T : TypeId} (h : Zb w X cs T W) {base : Nat} {e : TypeId} {size : Nat} {v : Value} {n : Nat} {xs : List Value} (hr : W.ownsRow base e size v n xs) (hT : T ≠ e) (hg : W.grownBy W' v.ownBlock) : Zb w X cs T W' := by
  refine ⟨h.ge, (hg.block X h.lt fun e' => ?_).trans h.at'⟩
  rcases hr.2 with ⟨rfl, _⟩ | ⟨g, cap, cur, rfl, _, h2, _⟩
  · simp [Value.ownBlock] at e'
  · have : X = g := by simpa [Value.ownBlock] using e'
    subst this
    rw [h.at'] at h2
    injection h2 with h2
    injection h2 with _ h3 _
    exact hT h3
theorem Kw.grown {w W W' : World} (h : Kw w W) {e : TypeId} {size : Nat} {v : Value} {n : Nat} {xs : List Value} (hr : W.ownsRow w.heap.size e size v n xs) (hg : W.grownBy W' v.ownBlock) : Kw w W' := Below.grown h hg (Below.size h) (own_at hr)
theorem Zb.bx {w W : World} {X : Nat} {a b : Value} {T : TypeId} (h : Zb w X #[a, b] T W) : Bx X [a, b] W := by
  have e := h.at'
  refine ⟨h.lt, by simp [World.cell?, e], fun i v hi => ?_⟩
  have : i = 0 ∨ i = 1 := by
    have := (List.getElem?_eq_some_iff.1 hi).1
    simp at this; omega
  rcases this with rfl | rfl
  · simp at hi; subst hi; exact ⟨by simp [World.cell?, e], by simp [World.frozen?, e]⟩
  · simp at hi; subst hi; exact ⟨by simp [World.cell?, e], by simp [World.frozen?, e]⟩
theorem Zb.far {w W : World} {X Y : Nat} {cs : Array Value} {T : TypeId} (h : Zb w Y cs T W) (hne : Y ≠ X) (u v : Value) : Zb w Y cs T ((W.setCell ⟨X, 0, none⟩ u).setCell ⟨X, 1, none⟩ v) :=
  ⟨h.ge, (Below.heap_setCell _ _ _ Y hne).trans ((Below.heap_setCell _ _ _ Y hne).trans h.at')⟩
theorem Bx.far2 {X Y : Nat} {vs : List Value} {W : World} (h : Bx Y vs W) (hne : X ≠ Y) (u v : Value) : Bx Y vs ((W.setCell ⟨X, 0, none⟩ u).setCell ⟨X, 1, none⟩ v) := (h.other hne u).other hne v
theorem bx_apart {X Y : Nat} {p : Option Addr} {y b : Value} {x : Int} {W : World} (h : Bx X [.pointer p, y] W) (h' : Bx Y [.int .i64 x, b] W) : X ≠ Y := fun e => by
  subst e
  have := h.c2.1.symm.trans h'.c2.1
  cases this
def tupAt (i : Nat) : Value → Value
  | .tuple vs => vs.getD i undef
  | v => v
/-- what each operation yields -/
def TM (w0 : World) (pC : Value) (si : Int) (va vb : Value) (l k : List Act) : Nat → (Nat → Value) → World → Prop
  | 0, x, _ => x 0 = pC
  | 1, x, _ => x 1 = .int .i64 si
  | 2, x, w => (∃ B, x 2 = .slice (some ⟨B, 0, none⟩) 0 0) ∧ w.ownsRow w0.heap.size 42 5 (x 2) 0 []
  | 3, x, _ => x 3 = va
  | 4, x, w => (∃ a c, x 4 = .slice a l.length c) ∧ w.ownsRow w0.heap.size 42 5 (x 4) l.length (l.flatMap encA)
  | 5, x, _ => x 5 = vb
  | 6, x, w => (∃ a c, x 6 = .slice a (l.length + k.length) c) ∧ IsAs w (x 6) (l ++ k)
  | 7, x, w => ∃ p z s a n c, x 7 = .tuple #[.agg #[.pointer p, .int .i64 z], .agg #[.int .i64 s, .slice a n c], .bool true] ∧ Dual 0 w p z s (.slice a n c)
  | 8, x, _ => x 8 = x 7 ∧ ∃ p z s a n c, x 8 = .tuple #[.agg #[.pointer p, .int .i64 z], .agg #[.int .i64 s, .slice a n c], .bool true]
  | 9, x, _ => x 9 = tupAt 0 (x 8)
  | 10, x, _ => x 10 = tupAt 1 (x 8)
  | 11, x, _ => x 11 = tupAt 2 (x 8)
  | 12, x, w => ∃ X, x 12 = .pointer (some ⟨X, 0, none⟩) ∧ Zb w0 X #[.pointer none, .int .i64 0] 27 w
  | 13, x, w => ∃ X, x 13 = .pointer (some ⟨X, 0, none⟩) ∧ Zb w0 X #[.int .i64 0, .slice none 0 0] 33 w
  | 14, x, w => ∃ X p z, x 12 = .pointer (some ⟨X, 0, none⟩) ∧ x 9 = .agg #[.pointer p, .int .i64 z] ∧ Bx X [.pointer p, .int .i64 z] w
  | 15, x, w => ∃ Y s a n c, x 13 = .pointer (some ⟨Y, 0, none⟩) ∧ x 10 = .agg #[.int .i64 s, .slice a n c] ∧ Bx Y [.int .i64 s, .slice a n c] w
  | 16, x, _ => x 16 = x 11
  | _ + 17, _, _ => True
def killM : Nat → Option Nat
  | 2 => some 4
  | 4 => some 6
  | 6 => some 7
  | 12 => some 14
  | 13 => some 15
  | _ => none
section
variable {w0 : World} {pC : Value} {si : Int} {va vb : Value} {l k : List Act}
theorem TM.congr {D : Nat → List Nat} (h8 : 7 ∈ D 8) (h9 : 8 ∈ D 9) (h10 : 8 ∈ D 10) (h11 : 8 ∈ D 11) (ha : 12 ∈ D 14) (hb : 9 ∈ D 14) (hc : 13 ∈ D 15) (hd : 10 ∈ D 15) (he : 11 ∈ D 16) : ∀ i x y w, (∀ j, j = i ∨ j ∈ D i → x j = y j) → TM w0 pC si va vb l k i x w → TM w0 pC si va vb l k i y w
  | 0, x, y, w, h, t => by have e := h 0 (.inl rfl); simp only [TM] at t ⊢; rw [← e]; exact t
  | 1, x, y, w, h, t => by have e := h 1 (.inl rfl); simp only [TM] at t ⊢; rw [← e]; exact t
  | 2, x, y, w, h, t => by have e := h 2 (.inl rfl); simp only [TM] at t ⊢; rw [← e]; exact t
  | 3, x, y, w, h, t => by have e := h 3 (.inl rfl); simp only [TM] at t ⊢; rw [← e]; exact t
  | 4, x, y, w, h, t => by have e := h 4 (.inl rfl); simp only [TM] at t ⊢; rw [← e]; exact t
  | 5, x, y, w, h, t => by have e := h 5 (.inl rfl); simp only [TM] at t ⊢; rw [← e]; exact t
  | 6, x, y, w, h, t => by have e := h 6 (.inl rfl); simp only [TM] at t ⊢; rw [← e]; exact t
  | 7, x, y, w, h, t => by have e := h 7 (.inl rfl); simp only [TM] at t ⊢; rw [← e]; exact t
  | 12, x, y, w, h, t => by have e := h 12 (.inl rfl); simp only [TM] at t ⊢; rw [← e]; exact t
  | 13, x, y, w, h, t => by have e := h 13 (.inl rfl); simp only [TM] at t ⊢; rw [← e]; exact t
  | 8, x, y, w, h, t => by have e := h 8 (.inl rfl); have e2 := h 7 (.inr h8); simp only [TM] at t ⊢; rw [← e, ← e2]; exact t
  | 9, x, y, w, h, t => by have e := h 9 (.inl rfl); have e2 := h 8 (.inr h9); simp only [TM] at t ⊢; rw [← e, ← e2]; exact t
  | 10, x, y, w, h, t => by have e := h 10 (.inl rfl); have e2 := h 8 (.inr h10); simp only [TM] at t ⊢; rw [← e, ← e2]; exact t
  | 11, x, y, w, h, t => by have e := h 11 (.inl rfl); have e2 := h 8 (.inr h11); simp only [TM] at t ⊢; rw [← e, ← e2]; exact t
  | 16, x, y, w, h, t => by have e := h 16 (.inl rfl); have e2 := h 11 (.inr he); simp only [TM] at t ⊢; rw [← e, ← e2]; exact t
  | 14, x, y, w, h, t => by have e := h 12 (.inr ha); have e2 := h 9 (.inr hb); simp only [TM] at t ⊢; rw [← e, ← e2]; exact t
  | 15, x, y, w, h, t => by have e := h 13 (.inr hc); have e2 := h 10 (.inr hd); simp only [TM] at t ⊢; rw [← e, ← e2]; exact t
  | _ + 17, x, y, w, h, t => trivial
theorem TM.next {w w' : World} (hb : Below w.heap.size w w') : ∀ j y, TM w0 pC si va vb l k j y w → TM w0 pC si va vb l k j y w'
  | 0, y, t => t
  | 1, y, t => t
  | 2, y, t => ⟨t.1, row_keep t.2 fun k hk _ => hb.block k hk⟩
  | 3, y, t => t
  | 4, y, t => ⟨t.1, row_keep t.2 fun k hk _ => hb.block k hk⟩
  | 5, y, t => t
  | 6, y, t => ⟨t.1, t.2.below hb⟩
  | 7, y, t => by obtain ⟨p, z, s, a, n, c, h1, h2⟩ := t; exact ⟨p, z, s, a, n, c, h1, h2.below hb⟩
  | 8, y, t => t
  | 9, y, t => t
  | 10, y, t => t
  | 11, y, t => t
  | 12, y, t => by obtain ⟨X, h1, h2⟩ := t; exact ⟨X, h1, h2.next hb⟩
  | 13, y, t => by obtain ⟨X, h1, h2⟩ := t; exact ⟨X, h1, h2.next hb⟩
  | 14, y, t => by obtain ⟨X, p, z, h1, h2, h3⟩ := t; exact ⟨X, p, z, h1, h2, h3.next hb⟩
  | 15, y, t => by obtain ⟨X, s, a, n, c, h1, h2, h3⟩ := t; exact ⟨X, s, a, n, c, h1, h2, h3.next hb⟩
  | 16, y, t => t
  | _ + 17, y, t => trivial
/-- what a row's growth keeps -/
theorem TM.grown {w w' : World} {v : Value} {n : Nat} {xs : List Value} (hr : w.ownsRow w0.heap.size 42 5 v n xs) (hg : w.grownBy w' v.ownBlock) {j : Nat} (hj : j = 0 ∨ j = 1 ∨ j = 3 ∨ j = 5 ∨ j = 12 ∨ j = 13) (y : Nat → Value) (t : TM w0 pC si va vb l k j y w) : TM w0 pC si va vb l k j y w' := by
  rcases hj with rfl | rfl | rfl | rfl | rfl | rfl
  · exact t
  · exact t
  · exact t
  · exact t
  · obtain ⟨X, h1, h2⟩ := t; exact ⟨X, h1, h2.grown hr (by decide) hg⟩
  · obtain ⟨X, h1, h2⟩ := t; exact ⟨X, h1, h2.grown hr (by decide) hg⟩
/-- what the store of the map keeps -/
theorem TM.storeM {w : World} {X : Nat} (hz : Zb w0 X #[.pointer none, .int .i64 0] 27 w) (p : Option Addr) (z : Int) {j : Nat} (hj : j = 0 ∨ j = 1 ∨ j = 3 ∨ j = 5 ∨ j = 7 ∨ j = 8 ∨ j = 9 ∨ j = 10 ∨ j = 11 ∨ j = 13 ∨ j = 16) (y : Nat → Value) (t : TM w0 pC si va vb l k j y w) : TM w0 pC si va vb l k j y ((w.setCell ⟨X, 0, none⟩ (.pointer p)).setCell ⟨X, 1, none⟩ (.int .i64 z)) := by
  rcases hj with rfl | rfl | rfl | rfl | rfl | rfl | rfl | rfl | rfl | rfl | rfl
  · exact t
  · exact t
  · exact t
  · exact t
  · obtain ⟨p', z', s, a, n, c, h1, h2⟩ := t; exact ⟨p', z', s, a, n, c, h1, h2.setM hz.bx _ _⟩
  · exact t
  · exact t
  · exact t
  · exact t
  · obtain ⟨Y, h1, h2⟩ := t; exact ⟨Y, h1, h2.far (Ne.symm (bx_apart hz.bx h2.bx)) _ _⟩
  · exact t
/-- what the store of the document's map keeps -/
theorem TM.storeR {w : World} {Y : Nat} (hz : Zb w0 Y #[.int .i64 0, .slice none 0 0] 33 w) (s : Int) (a : Option Addr) (n c : Nat) {j : Nat} (hj : j = 0 ∨ j = 1 ∨ j = 3 ∨ j = 5 ∨ j = 7 ∨ j = 8 ∨ j = 9 ∨ j = 10 ∨ j = 11 ∨ j = 14 ∨ j = 16) (y : Nat → Value) (t : TM w0 pC si va vb l k j y w) : TM w0 pC si va vb l k j y ((w.setCell ⟨Y, 0, none⟩ (.int .i64 s)).setCell ⟨Y, 1, none⟩ (.slice a n c)) := by
  rcases hj with rfl | rfl | rfl | rfl | rfl | rfl | rfl | rfl | rfl | rfl | rfl
  · exact t
  · exact t
  · exact t
  · exact t
  · obtain ⟨p', z', s, a, n, c, h1, h2⟩ := t; exact ⟨p', z', s, a, n, c, h1, h2.setR hz.bx _ _⟩
  · exact t
  · exact t
  · exact t
  · exact t
  · obtain ⟨X, p', z', h1, h2, h3⟩ := t; exact ⟨X, p', z', h1, h2, h3.far2 (Ne.symm (bx_apart h3 hz.bx)) _ _⟩
  · exact t
end
end Go.Proofs.Ytahgfggcpmnnaaa
