/- What both maps answer: Get, Runs, Count, Find. -/
import Derived.Test.YtjbenhmpeceaeaaQl
import Derived.Test.YtjbenhmpeceaeaaQr
import Derived.Test.YtjbenhmpeceaeaaZg
namespace Go.Proofs.Ytjbenhmpeceaeaa
open Go Go.RowKit Go.ChangeShapes Go.WideShapes Go.Deep Gs

/-- Get, of a piece that the map lacks -/
theorem Get_err {f : Int → Int} {size x : Int} {W : World} {p : Option Addr} (h : IsM f size W p) (hx : ¬ (0 ≤ x ∧ x < size)) :
    Calls Try.prog 18 #[.agg #[.pointer p, .int .i64 size], .int .i64 x] W fun e w' => e = .returned (.tuple #[.int .i64 0, .int .i64 3]) ∧ Below W.heap.size W w' := by
  obtain ⟨b, rfl⟩ := h.some
  obtain ⟨w0, HW⟩ : ∃ w0, w0 = W.alloc (.cells #[.pointer (some ⟨b, 0, none⟩), .int .i64 size] 27) := ⟨_, rfl⟩
  have hq : Mq W (some ⟨b, 0, none⟩) size w0 := by rw [HW]; exact Mq.new _ _ _ _
  have HUS := Lib.hid (fun W' => isUsable_any b size W')
  have HQ := Lib.hid hq; have HW' := Lib.hid HW
  clear hq HW h
  by_cases h1 : x < 0
  · go_enter Try.func18, Try.ntmps18
    go_wp2_with fail
    rw [← HW'.out]
    refine (HUS.out _).mono ?_
    rintro e w1 ⟨rfl, hb⟩
    have HQ1 := Lib.hid (HQ.out.next hb)
    have k0 := HQ1.out.c0; have k1 := HQ1.out.c1
    clear hb
    go_wp2_with fail
    refine bodyPost_ret (v := .tuple #[.int .i64 0, .int .i64 3]) (by simp [results, Try.results18, go_sem]) rfl ?_
    exact ⟨rfl, HQ1.out.bel⟩
  · have h2 : x ≥ size := by omega
    go_enter Try.func18, Try.ntmps18
    go_wp2_with fail
    rw [← HW'.out]
    refine (HUS.out _).mono ?_
    rintro e w1 ⟨rfl, hb⟩
    have HQ1 := Lib.hid (HQ.out.next hb)
    have k0 := HQ1.out.c0; have k1 := HQ1.out.c1
    clear hb
    go_wp2_with fail
    refine bodyPost_ret (v := .tuple #[.int .i64 0, .int .i64 3]) (by simp [results, Try.results18, go_sem]) rfl ?_
    exact ⟨rfl, HQ1.out.bel⟩
/-- Runs, of a range that is not valid -/
theorem Runs_err {f : Int → Int} {size lo hi most : Int} {W : World} {p : Option Addr} (h : IsM f size W p) (hx : ¬ (0 ≤ lo ∧ lo ≤ hi ∧ hi ≤ size)) :
    Calls Try.prog 20 #[.agg #[.pointer p, .int .i64 size], .int .i64 lo, .int .i64 hi, .int .i64 most] W fun e w' => e = .returned (.tuple #[.slice none 0 0, .int .i64 3]) ∧ Below W.heap.size W w' := by
  obtain ⟨b, rfl⟩ := h.some
  obtain ⟨w0, HW⟩ : ∃ w0, w0 = (W.alloc (.cells #[.pointer (some ⟨b, 0, none⟩), .int .i64 size] 27)).alloc (.cells #[.int .i64 most] 3) := ⟨_, rfl⟩
  have hb : Below W.heap.size W w0 := by rw [HW]; exact (alloc_below _ _).alloc (by simp) _
  have HCK : Hid (Calls Try.prog 46 #[.agg #[.pointer (some ⟨b, 0, none⟩), .int .i64 size], .int .i64 lo, .int .i64 hi, .slice none 0 0] w0 fun e w' => e = .returned (.int .i64 3) ∧ Below w0.heap.size w0 w') := check_range b size lo hi none 0 0 w0 (by omega)
  have HB := Lib.hid hb; have HW' := Lib.hid HW
  clear hb HW h hx
  go_enter Try.func20, Try.ntmps20
  go_wp2_with fail
  rw [← HW'.out]
  refine HCK.out.mono ?_
  rintro e w1 ⟨rfl, hb⟩
  have HB1 := Lib.hid (HB.out.trans (hb.mono HB.out.size))
  clear hb
  go_wp2_with fail
  refine bodyPost_ret (v := .tuple #[.slice none 0 0, .int .i64 3]) (by simp [results, Try.results20, go_sem]) rfl ?_
  exact ⟨rfl, HB1.out⟩
theorem both_Get {base : Nat} {W : World} {p : Option Addr} {z s : Int} {v : Value} (h : Dual base W p z s v) (x : Int) : ∃ T E : Int,
    Hid (∀ W', Below W.heap.size W W' → Calls Try.prog 18 #[.agg #[.pointer p, .int .i64 z], .int .i64 x] W' fun e w' => e = .returned (.tuple #[.int .i64 T, .int .i64 E]) ∧ Below W'.heap.size W' w') ∧
    Hid (∀ W', Below W.heap.size W W' → Calls Try.prog 19 #[.agg #[.int .i64 s, v], .int .i64 x] W' fun e w' => e = .returned (.tuple #[.int .i64 T, .int .i64 E]) ∧ Below W'.heap.size W' w') := by
  rcases h.open with ⟨rfl, rfl, rfl, rfl⟩ | ⟨f, L, h1, h2, h3, rfl, h5, h6⟩
  · exact ⟨0, 1, fun W' _ => Get_un 0 x W', fun W' _ => RGet_un x W'⟩
  · refine ⟨getT f s x, getE s x, fun W' hW => ?_, fun W' hW => RGet_any (h3.below hW) h2 h1.lo h6⟩
    by_cases hx : 0 ≤ x ∧ x < s
    · have := Get_ok (h1.below hW) hx.1 hx.2
      unfold getT getE
      rw [if_pos hx, if_pos hx]
      exact this
    · unfold getT getE
      rw [if_neg hx, if_neg hx]
      exact Get_err (h1.below hW) hx
theorem both_Runs {base : Nat} {W : World} {p : Option Addr} {z s : Int} {v : Value} (h : Dual base W p z s v) (lo hi most : Int) : ∃ (K : List R) (E : Int), K.length ≤ 4096 ∧
    Hid (∀ W', Below W.heap.size W W' → Calls Try.prog 20 #[.agg #[.pointer p, .int .i64 z], .int .i64 lo, .int .i64 hi, .int .i64 most] W' fun e w' => ∃ v', e = .returned (.tuple #[v', .int .i64 E]) ∧ Hid (IsRs W'.heap.size w' v' (K.take most.toNat)) ∧ Below W'.heap.size W' w') ∧
    Hid (∀ W', Below W.heap.size W W' → Calls Try.prog 21 #[.agg #[.int .i64 s, v], .int .i64 lo, .int .i64 hi] W' fun e w' => ∃ v', e = .returned (.tuple #[v', .int .i64 E]) ∧ Hid (IsRs W'.heap.size w' v' K ∧ Roomed v' K.length) ∧ Below W'.heap.size W' w') := by
  have nil : ∀ (B : Nat) (W : World), IsRs B W (.slice none 0 0) [] := fun B W => ⟨none, 0, rfl, fun h => absurd h (by simp)⟩
  rcases h.open with ⟨rfl, rfl, rfl, rfl⟩ | ⟨f, L, h1, h2, h3, rfl, h5, h6⟩
  · refine ⟨[], 1, by simp, fun W' _ => (Runs_un 0 lo hi most W').mono ?_, fun W' _ => (RRuns_un lo hi W').mono ?_⟩
    · rintro e w' ⟨rfl, hB⟩
      exact ⟨_, rfl, by rw [List.take_nil]; exact nil _ _, hB⟩
    · rintro e w' ⟨rfl, hB⟩
      exact ⟨_, rfl, ⟨nil _ _, none, 0, rfl, Nat.le_refl _⟩, hB⟩
  · by_cases hx : 0 ≤ lo ∧ lo ≤ hi ∧ hi ≤ s
    · refine ⟨clip lo hi L, 0, Nat.le_trans (clip_len _ _ _) h6, fun W' hW => ?_, fun W' hW => RRuns_ok (h3.below hW) h2 h5 h6 hx.1 hx.2.1 hx.2.2⟩
      obtain ⟨L', g1, g2, g3⟩ := Runs_any (most := most) (h1.below hW) hx.1 hx.2.1 hx.2.2
      have e := g1.same h2
      subst e
      refine g3.mono ?_
      rintro e w' ⟨v', rfl, hr, hB⟩
      exact ⟨v', rfl, IsRs.of_row hr.out, hB⟩
    · refine ⟨[], 3, by simp, fun W' hW => (Runs_err (h1.below hW) hx).mono ?_, fun W' hW => ?_⟩
      · rintro e w' ⟨rfl, hB⟩
        exact ⟨_, rfl, by rw [List.take_nil]; exact nil _ _, hB⟩
      · obtain ⟨a, c, rfl, -⟩ := h3
        refine (RRuns_range s lo hi a _ c W' h5 hx).mono ?_
        rintro e w' ⟨rfl, hB⟩
        exact ⟨_, rfl, ⟨nil _ _, none, 0, rfl, Nat.le_refl _⟩, hB⟩
theorem both_Count {base : Nat} {W : World} {p : Option Addr} {z s : Int} {v : Value} (h : Dual base W p z s v) (lo hi tag : Int) : ∃ N E : Int,
    Hid (∀ W', Below W.heap.size W W' → Calls Try.prog 22 #[.agg #[.pointer p, .int .i64 z], .int .i64 lo, .int .i64 hi, .int .i64 tag] W' fun e w' => e = .returned (.tuple #[.int .i64 N, .int .i64 E]) ∧ Below W'.heap.size W' w') ∧
    Hid (∀ W', Below W.heap.size W W' → Calls Try.prog 23 #[.agg #[.int .i64 s, v], .int .i64 lo, .int .i64 hi, .int .i64 tag] W' fun e w' => e = .returned (.tuple #[.int .i64 N, .int .i64 E]) ∧ Below W'.heap.size W' w') := by
  rcases h.open with ⟨rfl, rfl, rfl, rfl⟩ | ⟨f, L, h1, h2, h3, rfl, h5, h6⟩
  · exact ⟨0, 1, fun W' _ => Count_un 0 lo hi tag W', fun W' _ => RCount_no (by decide) fun W'' _ => RRuns_un lo hi W''⟩
  · by_cases hx : 0 ≤ lo ∧ lo ≤ hi ∧ hi ≤ s
    · by_cases ht : isT tag = true
      · obtain ⟨e1, e2⟩ : 0 ≤ tag ∧ tag < 16 := of_decide_eq_true ht
        obtain ⟨j, rfl⟩ : ∃ j : Nat, tag = j := ⟨tag.toNat, by omega⟩
        refine ⟨cnt j (clip lo hi L), 0, fun W' hW => ?_, fun W' hW => RCount_ok (h3.below hW) h2 h1.ctx h5 h6 hx.1 hx.2.1 hx.2.2 ht⟩
        obtain ⟨L', g1, g2⟩ := Count_ok (k := j) (h1.below hW) hx.1 hx.2.1 hx.2.2 (by omega)
        have e := g1.same h2
        subst e
        rw [cnt_clip j hx.2.1 (fun r hr => (h2.1.bd h1.ctx r hr).2.1)]
        exact g2
      · have ht := Bool.eq_false_iff.2 ht
        have e2 : errOf s lo hi [tag] = 2 := by unfold errOf; rw [if_neg (by omega)]; simp [ht]
        refine ⟨0, 2, fun W' hW => ?_, fun W' hW => RCount_tag (h3.below hW) h2 h5 h6 hx.1 hx.2.1 hx.2.2 ht⟩
        have := Count_err (h1.below hW) (lo := lo) (hi := hi) (k := tag) (by rw [e2]; decide)
        rwa [e2] at this
    · have e2 : errOf s lo hi [tag] = 3 := by unfold errOf; rw [if_pos (by omega)]
      refine ⟨0, 3, fun W' hW => ?_, fun W' hW => RCount_no (by decide) fun W'' _ => ?_⟩
      · have := Count_err (h1.below hW) (lo := lo) (hi := hi) (k := tag) (by rw [e2]; decide)
        rwa [e2] at this
      · obtain ⟨a, c, rfl, -⟩ := h3
        exact RRuns_range s lo hi a _ c W'' h5 hx
theorem RFind_un (tag k : Int) (W : World) : Calls Try.prog 25 #[.agg #[.int .i64 0, .slice none 0 0], .int .i64 tag, .int .i64 k] W fun e w' => e = .returned (.tuple #[.int .i64 0, .bool false]) ∧ Below W.heap.size W w' := by
  obtain ⟨w0, HW⟩ : ∃ w0, w0 = W.alloc (.cells #[.int .i64 0, .slice none 0 0] 33) := ⟨_, rfl⟩
  have hm : M2 W.heap.size (.int .i64 0) (.slice none 0 0) w0 := by rw [HW]; exact M2.new _ _ _ _
  have hb : Below W.heap.size W w0 := by rw [HW]; exact (Below.refl _ _).alloc (Nat.le_refl _) _
  have HM := Lib.hid hm; have HB := Lib.hid hb; have HW' := Lib.hid HW
  have k0 := HM.out.c0; have k1 := HM.out.c1
  clear hm hb HW
  by_cases hneg : k < 0
  · go_enter Try.func25, Try.ntmps25
    go_upto_region 1 with fail
    rw [← HW'.out]
    go_wp2_with fail
    refine bodyPost_ret (v := .tuple #[.int .i64 0, .bool false]) (by simp [results, Try.results25, go_sem]) rfl ?_
    exact ⟨rfl, HB.out⟩
  · go_enter Try.func25, Try.ntmps25
    go_upto_region 1 with fail
    rw [← HW'.out]
    clear k0 k1
    go_wp2_with fail
    go_loopw [2, 8] (fun kv iv wr => iv = .int .i64 0 ∧ Hid (M2 W.heap.size (.int .i64 0) (.slice none 0 0) wr) ∧ Hid (Below W.heap.size W wr)) (fun _ _ _ => 0)
    case atStart => exact ⟨rfl, HM.out, HB.out⟩
    case round =>
      obtain ⟨rfl, HMr, HBr⟩ := hrel
      have k0 := HMr.out.c0; have k1 := HMr.out.c1
      go_wp2_with fail
      refine bodyPost_ret (v := .tuple #[.int .i64 0, .bool false]) (by simp [results, Try.results25, go_sem]) rfl ?_
      exact ⟨rfl, HBr.out⟩
theorem both_Find {base : Nat} {W : World} {p : Option Addr} {z s : Int} {v : Value} (h : Dual base W p z s v) (tag k : Int) (hk : k ≤ 9223372036854775807) : ∃ P : Int → Bool → Prop,
    Hid (∀ x y b c, P x b → P y c → x = y ∧ b = c) ∧
    Hid (∀ W', Below W.heap.size W W' → Calls Try.prog 24 #[.agg #[.pointer p, .int .i64 z], .int .i64 tag, .int .i64 k] W' fun e w' => ∃ x is, e = .returned (.tuple #[.int .i64 x, .bool is]) ∧ Hid (P x is) ∧ Below W'.heap.size W' w') ∧
    Hid (∀ W', Below W.heap.size W W' → Calls Try.prog 25 #[.agg #[.int .i64 s, v], .int .i64 tag, .int .i64 k] W' fun e w' => ∃ x is, e = .returned (.tuple #[.int .i64 x, .bool is]) ∧ Hid (P x is) ∧ Below W'.heap.size W' w') := by
  rcases h.open with ⟨rfl, rfl, rfl, rfl⟩ | ⟨f, L, h1, h2, h3, rfl, h5, h6⟩
  · refine ⟨fun x b => x = 0 ∧ b = false, ?_, fun W' _ => (Find_un 0 tag k W').mono ?_, fun W' _ => (RFind_un tag k W').mono ?_⟩
    · rintro x y b c ⟨rfl, rfl⟩ ⟨rfl, rfl⟩
      exact ⟨rfl, rfl⟩
    · rintro e w' ⟨rfl, hB⟩
      exact ⟨0, false, rfl, ⟨rfl, rfl⟩, hB⟩
    · rintro e w' ⟨rfl, hB⟩
      exact ⟨0, false, rfl, ⟨rfl, rfl⟩, hB⟩
  · refine ⟨FindOf f s tag k L, fun x y b c g1 g2 => FindOf.same h2 g1 g2, fun W' hW => ?_, fun W' hW => RFind_any (h3.below hW) h2 h1.ctx h6 hk⟩
    obtain ⟨L', g1, g2⟩ := Find_any (tag := tag) (k := k) (h1.below hW)
    have e := g1.same h2
    subst e
    exact g2
section
variable {H : Type} {enc : TypeId × Value → H} {W : World} {base : Nat} {sp : Nat → Bool} {held : Bool}
theorem fld_wf {cs : List Value} {n i : Nat} {xs : List (DataW H × List MemPlace)} (hi : i < xs.length) (h : DataW.trod enc Try.prog W base sp held n 3 ((cs.drop i).take (Try.prog.cellsOf 3)) = xs[i]?) : ∃ k, cs[i]? = some (.int .i64 k) ∧ -9223372036854775808 ≤ k ∧ k ≤ 9223372036854775807 := by
  rw [one_int, List.getElem?_eq_getElem hi] at h
  obtain ⟨k, e, _, hw⟩ := DataW.trod_int Try.underlying3 h
  refine ⟨k, ?_, ?_⟩
  · have h1 : ((cs.drop i).take 1)[0]? = some (.int .i64 k) := by rw [e]; rfl
    simpa [List.getElem?_take, List.getElem?_drop] using h1
  · have := Go.bounds_i64 hw
    omega
/-- what a query's last number is at most -/
theorem query_bd {d : DataW H} {p : List MemPlace} {q0 q1 q2 q3 q4 q5 : Int}
    (h : DataW.Trod enc Try.prog W base sp held 45 (.agg #[.int .i64 q0, .int .i64 q1, .int .i64 q2, .int .i64 q3, .int .i64 q4, .int .i64 q5]) d p) : q5 ≤ 9223372036854775807 := by
  obtain ⟨fuel, hf⟩ := h
  obtain ⟨xs, n, _, _, hl, hx, hg⟩ := DataW.trod_struct Try.underlying45 hf
  have hx : xs.length = 6 := hx
  obtain ⟨b5, e5, h1, h2⟩ := fld_wf (i := 5) (by omega) (hg 5 _ rfl)
  have e : some (Value.int .i64 q5) = some (Value.int .i64 b5) := e5
  injection e with e
  injection e with _ e
  omega
end
end Go.Proofs.Ytjbenhmpeceaeaa
