/- Contracts and lemmas (several texts merged into one). -/
import Derived.Test.YtahgfggcpmnnaabTKpp1
import Derived.Test.YtahgfggcpmnnaabQa
import Derived.Laws.OwnMore
import Derived.Test.YtahgfggcpmnnaabZd
import Derived.Test.YtahgfggcpmnnaabZb
namespace Go.Proofs.Ytahgfggcpmnnaab
open Go Go.RowKit Gs

set_option maxHeartbeats 1000000 in
theorem addRun_add {base : Nat} {v : Value} {l : List R} (xa xb xc : Int) {W : World} (h : rowR W base v l) (hb : base ≤ W.heap.size) (hl : l.length ≤ 200000000000) (hy : ∀ y, l.getLast? = some y → y.tag ≠ xc) :
    Calls Try.prog 46 #[v, .agg #[.int .i64 xa, .int .i64 xb, .int .i64 xc]] W fun e w' => ∃ v', e = .returned v' ∧ Hid (JP W base v (l ++ [⟨xa, xb, xc⟩]) v' w') := by
  obtain ⟨i0, hi, hz0, hz1, hz2⟩ := info_parts infoRun
  have hown := h
  obtain ⟨a, c, rfl⟩ := own_slice h
  unfold rowR at hown
  obtain ⟨n, hn⟩ : ∃ n, n = l.length := ⟨_, rfl⟩
  rw [← hn] at hown ⊢
  have hml : n + 1 ≤ maxLen := by unfold maxLen; omega
  have hmb : (n + 1) * 24 ≤ 140737488355328 := by omega
  obtain ⟨W1, HW1⟩ : ∃ W1, W1 = W.alloc (.cells #[.int .i64 xa, .int .i64 xb, .int .i64 xc] 46) := ⟨_, rfl⟩
  have HJ : Hid (Jn W base (.slice a n c) n (l.flatMap encL) xa xb xc W1) := by rw [HW1]; exact Jn.new xa xb xc hown hb
  have HW1' := Lib.hid HW1
  have HN := Lib.hid hn
  have HTO : Hid (∀ (W' : World) v', W'.ownsRow base 46 3 v' (n + 1) (l.flatMap encL ++ encL ⟨xa, xb, xc⟩) → rowR W' base v' (l ++ [⟨xa, xb, xc⟩])) := fun W' v' h => row_snoc (by rw [← hn]; exact h)
  clear HW1 hn hl hown
  rcases List.eq_nil_or_concat l with rfl | ⟨l', y, hl'⟩
  · obtain rfl : n = 0 := HN.out
    have k0 := HJ.out.c0; have k1 := HJ.out.c1; have k2 := HJ.out.c2
    clear HN hy h
    go_enter Try.func46, Try.ntmps46
    go_upto_region 1 with fail
    rw [← HW1'.out]
    go_wp2_with fail
    go_quiet (fail)
    rename_i nq
    have hj := HJ.out.drewN hb nq
    clear k0 k1 k2
    generalize hw : World.drewN _ nq = w2 at hj ⊢
    clear hw
    have k0 := hj.c0; have k1 := hj.c1; have k2 := hj.c2
    have hown := hj.own
    have HLT := Lib.hid hj.own.lt
    have hsz : base ≤ w2.heap.size := Nat.le_trans hb (Nat.le_of_lt hj.lt)
    have HJ2 := Lib.hid hj
    clear hj
    go_wp2_with (at_builtin; refine wpList_append_own_at _ rfl _ _ 42 rfl base 46 i0 (.agg #[.int .i64 0, .int .i64 0, .int .i64 0]) 3 24 Try.underlying42 hi hz0 hz1 hz2 rfl (by decide) _ _ _ rfl (hown.alloc _) ⟨w2.heap.size, 0, none⟩ 1 1 [.int .i64 xa, .int .i64 xb, .int .i64 xc] rfl rfl ?c1 ?c2 ?c3 ?c4 ?c5 ?_)
    case c1 => exact cells3_new _ _ _ _ _
    case c2 => intro u hu; simp at hu; rcases hu with rfl | rfl | rfl <;> rfl
    case c3 => exact hml
    case c4 => exact hmb
    case c5 => simp; omega
    intro v' w4 hown4 hgrow _ hat
    have HF : Hid (JP W base (.slice a 0 c) ([] ++ [⟨xa, xb, xc⟩]) v' w4) := ⟨HTO.out w4 v' hown4, (HJ2.out.bel.alloc hsz _).grown hgrow (by simp; omega) (fun j hj => (HLT.out _ hj).1),
      fun k hk hne => (hgrow.block k (Nat.lt_of_lt_of_le (Nat.lt_trans hk HJ2.out.lt) (by rw [World.size_alloc]; exact Nat.le_succ _)) hne).trans ((((Below.refl w2.heap.size w2).alloc (Nat.le_refl _) _).block k (Nat.lt_trans hk HJ2.out.lt)).trans (HJ2.out.bw.block k hk)),
      fun k hk => by
        rcases hat with h1 | h1
        · exact .inl (h1.symm.trans hk)
        · rw [h1] at hk
          injection hk with hk
          exact .inr (by have := HJ2.out.lt; omega)⟩
    clear hown4 hgrow hown k0 k1 k2 hat
    go_wp2_with fail
    go_ret
    exact ⟨_, rfl, HF.out⟩
  · rw [List.concat_eq_append] at hl'
    subst hl'
    obtain ⟨m, hm⟩ : ∃ m, m = l'.length := ⟨_, rfl⟩
    obtain rfl : n = m + 1 := by rw [HN.out, hm]; simp
    have hrs := IsRs.of_row (show W1.ownsRow base 46 3 (.slice a (m + 1) c) (l' ++ [y]).length ((l' ++ [y]).flatMap encL) by rw [← HN.out]; exact HJ.out.own)
    obtain ⟨a', c', hv, hcs⟩ := hrs
    obtain ⟨G, e1, -, hcs2⟩ := hcs (by simp)
    clear hcs
    injection hv with hv1 hv2 hv3
    clear hv2 hv3
    subst hv1
    subst e1
    have hlast := (hcs2 m (by rw [hm]; simp)).2.2
    have hlv : (l' ++ [y])[m]'(by rw [hm]; simp) = y := by subst hm; simp
    rw [hlv] at hlast
    have hne : (y.tag == xc) = false := beq_eq_false_iff_ne.2 (hy y (by simp))
    have hw1 : IntKind.i64.wrap (((m + 1 : Nat) : Int) - 1) = (m : Int) := by rw [show (((m + 1 : Nat) : Int) - 1) = (m : Int) by omega]; exact IntWalk.i64_in _ (by unfold maxLen at hml; omega)
    have hgt : ((m + 1 : Nat) : Int) > 0 := by omega
    have k0 := HJ.out.c0; have k1 := HJ.out.c1; have k2 := HJ.out.c2
    clear HN hy h hcs2 hlv hm
    generalize y.tag = yt at *
    go_enter Try.func46, Try.ntmps46
    go_upto_region 1 with fail
    rw [← HW1'.out]
    go_wp2_with fail
    go_quiet (fail)
    rename_i nq
    have hj := HJ.out.drewN hb nq
    clear k0 k1 k2 hlast
    generalize hw : World.drewN _ nq = w2 at hj ⊢
    clear hw
    have k0 := hj.c0; have k1 := hj.c1; have k2 := hj.c2
    have hown := hj.own
    have HLT := Lib.hid hj.own.lt
    have hsz : base ≤ w2.heap.size := Nat.le_trans hb (Nat.le_of_lt hj.lt)
    have HJ2 := Lib.hid hj
    clear hj
    go_wp2_with (at_builtin; refine wpList_append_own_at _ rfl _ _ 42 rfl base 46 i0 (.agg #[.int .i64 0, .int .i64 0, .int .i64 0]) 3 24 Try.underlying42 hi hz0 hz1 hz2 rfl (by decide) _ _ _ rfl (hown.alloc _) ⟨w2.heap.size, 0, none⟩ 1 1 [.int .i64 xa, .int .i64 xb, .int .i64 xc] rfl rfl ?c1 ?c2 ?c3 ?c4 ?c5 ?_)
    case c1 => exact cells3_new _ _ _ _ _
    case c2 => intro u hu; simp at hu; rcases hu with rfl | rfl | rfl <;> rfl
    case c3 => exact hml
    case c4 => exact hmb
    case c5 => simp; omega
    intro v' w4 hown4 hgrow _ hat
    have HF : Hid (JP W base (.slice (some ⟨G, 0, none⟩) (m + 1) c) (l' ++ [y] ++ [⟨xa, xb, xc⟩]) v' w4) := ⟨HTO.out w4 v' (by rw [List.flatMap_append, List.flatMap_singleton, List.append_assoc]; exact hown4), (HJ2.out.bel.alloc hsz _).grown hgrow (by simp; omega) (fun j hj => (HLT.out _ hj).1),
      fun k hk hne => (hgrow.block k (Nat.lt_of_lt_of_le (Nat.lt_trans hk HJ2.out.lt) (by rw [World.size_alloc]; exact Nat.le_succ _)) hne).trans ((((Below.refl w2.heap.size w2).alloc (Nat.le_refl _) _).block k (Nat.lt_trans hk HJ2.out.lt)).trans (HJ2.out.bw.block k hk)),
      fun k hk => by
        rcases hat with h1 | h1
        · exact .inl (h1.symm.trans hk)
        · rw [h1] at hk
          injection hk with hk
          exact .inr (by have := HJ2.out.lt; omega)⟩
    clear hown4 hgrow hown k0 k1 k2 hat
    go_wp2_with fail
    go_ret
    exact ⟨_, rfl, HF.out⟩
theorem set_last (l' : List R) (yl yh yt xb : Int) : ((l' ++ [(⟨yl, yh, yt⟩ : R)]).flatMap encL).set (l'.length * 3 + 1) (.int .i64 xb) = (l' ++ [(⟨yl, xb, yt⟩ : R)]).flatMap encL := by
  have hl : ∀ k : List R, (k.flatMap encL).length = k.length * 3 := by
    intro k
    induction k with
    | nil => rfl
    | cons r k ih => rw [List.flatMap_cons, List.length_append, ih, List.length_cons]; simp [encL]; omega
  rw [List.flatMap_append, List.flatMap_append, List.set_append_right _ _ (by rw [hl]; omega), hl, show l'.length * 3 + 1 - l'.length * 3 = 1 by omega]
  rfl
set_option maxHeartbeats 1000000 in
theorem addRun_same {base : Nat} {v : Value} {l' : List R} {yl yh yt : Int} (xa xb : Int) {W : World} (h : rowR W base v (l' ++ [⟨yl, yh, yt⟩])) (hb : base ≤ W.heap.size) (hl : l'.length ≤ 200000000000) :
    Calls Try.prog 46 #[v, .agg #[.int .i64 xa, .int .i64 xb, .int .i64 yt]] W fun e w' => ∃ v', e = .returned v' ∧ Hid (JP W base v (l' ++ [⟨yl, xb, yt⟩]) v' w') := by
  have hown := h
  rcases h.2 with ⟨_, h0⟩ | ⟨G, c, cur, rfl, hG, hGh, hcap, -⟩
  · rw [List.length_append] at h0; cases h0
  unfold rowR at hown
  obtain ⟨m, hm⟩ : ∃ m, m = l'.length := ⟨_, rfl⟩
  have hlen : (l' ++ [(⟨yl, yh, yt⟩ : R)]).length = m + 1 := by rw [hm]; simp
  rw [hlen] at hown hcap ⊢
  obtain ⟨n, hn⟩ : ∃ n, n = m + 1 := ⟨_, rfl⟩
  rw [← hn] at hown hcap ⊢
  obtain ⟨XS, hXS⟩ : ∃ XS, XS = (l' ++ [(⟨yl, yh, yt⟩ : R)]).flatMap encL := ⟨_, rfl⟩
  rw [← hXS] at hown
  obtain ⟨g0, g1, g2⟩ := encL_get (l' ++ [(⟨yl, yh, yt⟩ : R)]) m (by rw [hlen]; omega)
  have e1 : (l' ++ [(⟨yl, yh, yt⟩ : R)])[m]'(by rw [hlen]; omega) = ⟨yl, yh, yt⟩ := by subst hm; simp
  rw [e1, ← hXS] at g1 g2
  obtain ⟨W1, HW1⟩ : ∃ W1, W1 = W.alloc (.cells #[.int .i64 xa, .int .i64 xb, .int .i64 yt] 46) := ⟨_, rfl⟩
  have HJ : Hid (Jn W base (.slice (some ⟨G, 0, none⟩) n c) n XS xa xb yt W1) := by rw [HW1]; exact Jn.new xa xb yt hown hb
  have HW1' := Lib.hid HW1
  have HCL : Hid (∀ (W' : World), W'.ownsRow base 46 3 (.slice (some ⟨G, 0, none⟩) n c) n XS → W'.cell? ⟨G, m * 3 + 1, none⟩ = some (.int .i64 yh) ∧ W'.cell? ⟨G, m * 3 + 2, none⟩ = some (.int .i64 yt) ∧ W'.frozen? ⟨G, m * 3 + 1, none⟩ = false) := fun W' ho =>
    ⟨(ho.cellAt (m * 3 + 1) (by omega)).trans g1, (ho.cellAt (m * 3 + 2) (by omega)).trans g2, ho.frozenAt _⟩
  have HFIN : Hid (∀ (W' : World), Jn W base (.slice (some ⟨G, 0, none⟩) n c) n XS xa xb yt W' → JP W base (.slice (some ⟨G, 0, none⟩) n c) (l' ++ [⟨yl, xb, yt⟩]) (.slice (some ⟨G, 0, none⟩) n c) (W'.setCell ⟨G, m * 3 + 1, none⟩ (.int .i64 xb))) := fun W' hj => by
    obtain ⟨s1, s2⟩ := hj.own.stored (m * 3 + 1) (.int .i64 xb)
    refine ⟨?_, hj.bel.setCell (p := ⟨G, m * 3 + 1, none⟩) hG _, fun k hk hne => (s2.block k (Nat.lt_trans hk hj.lt) hne).trans (hj.bw.block k hk), fun k hk => .inl hk⟩
    unfold rowR
    rw [show (l' ++ [(⟨yl, xb, yt⟩ : R)]).length = n by rw [hn, hm]; simp, ← set_last l' yl yh yt xb, ← hXS, ← hm]
    exact s1
  have hml : n ≤ 200000000001 := by omega
  have hw1 : IntKind.i64.wrap ((n : Int) - 1) = (m : Int) := by rw [IntWalk.i64_in] <;> omega
  have hgt : (n : Int) > 0 := by omega
  have hd1 : decide ((n : Int) > 0) = true := decide_eq_true hgt
  have hn0 : 0 < n := by omega
  have hd2 : decide (0 < n) = true := decide_eq_true hn0
  have hmn : (m : Int) < n := by omega
  have k0 := HJ.out.c0; have k1 := HJ.out.c1; have k2 := HJ.out.c2
  obtain ⟨d1, d2, f1⟩ := HCL.out _ HJ.out.own
  clear HW1 hn hl hown h hlen hXS e1 g0 g1 g2 hGh hcap hm
  go_enter Try.func46, Try.ntmps46
  go_upto_region 1 with fail
  rw [← HW1'.out]
  go_wp2_with fail
  go_quiet (fail)
  rename_i nq
  have HJ2 := Lib.hid (HJ.out.drewN hb nq)
  clear k0 k1 k2 d1 d2 f1
  generalize hw : World.drewN _ nq = w2 at HJ2 ⊢
  clear hw
  have k0 := HJ2.out.c0; have k1 := HJ2.out.c1; have k2 := HJ2.out.c2
  obtain ⟨d1, d2, f1⟩ := HCL.out _ HJ2.out.own
  have HF := Lib.hid (HFIN.out _ HJ2.out)
  go_wp2_with fail
  go_ret
  exact ⟨_, rfl, HF.out⟩
end Go.Proofs.Ytahgfggcpmnnaab
namespace Go.Proofs.Ytahgfggcpmnnaab
open Go Go.RowKit Go.ChangeShapes Go.WideShapes Go.Deep Gs

/-- Get, of a piece that the map lacks -/
theorem Get_err {f : Int → Int} {size x : Int} {W : World} {p : Option Addr} (h : IsM f size W p) (hx : ¬ (0 ≤ x ∧ x < size)) :
    Calls Try.prog 12 #[.agg #[.pointer p, .int .i64 size], .int .i64 x] W fun e w' => e = .returned (.tuple #[.int .i64 0, .int .i64 3]) ∧ Below W.heap.size W w' := by
  obtain ⟨b, rfl⟩ := h.some
  obtain ⟨w0, HW⟩ : ∃ w0, w0 = W.alloc (.cells #[.pointer (some ⟨b, 0, none⟩), .int .i64 size] 27) := ⟨_, rfl⟩
  have hq : Mq W (some ⟨b, 0, none⟩) size w0 := by rw [HW]; exact Mq.new _ _ _ _
  have HUS := Lib.hid (fun W' => isUsable_any b size W')
  have HQ := Lib.hid hq; have HW' := Lib.hid HW
  clear hq HW h
  by_cases h1 : x < 0
  · go_enter Try.func12, Try.ntmps12
    go_wp2_with fail
    rw [← HW'.out]
    refine (HUS.out _).mono ?_
    rintro e w1 ⟨rfl, hb⟩
    have HQ1 := Lib.hid (HQ.out.next hb)
    have k0 := HQ1.out.c0; have k1 := HQ1.out.c1
    clear hb
    go_wp2_with fail
    refine bodyPost_ret (v := .tuple #[.int .i64 0, .int .i64 3]) (by simp [results, Try.results12, go_sem]) rfl ?_
    exact ⟨rfl, HQ1.out.bel⟩
  · have h2 : x ≥ size := by omega
    go_enter Try.func12, Try.ntmps12
    go_wp2_with fail
    rw [← HW'.out]
    refine (HUS.out _).mono ?_
    rintro e w1 ⟨rfl, hb⟩
    have HQ1 := Lib.hid (HQ.out.next hb)
    have k0 := HQ1.out.c0; have k1 := HQ1.out.c1
    clear hb
    go_wp2_with fail
    refine bodyPost_ret (v := .tuple #[.int .i64 0, .int .i64 3]) (by simp [results, Try.results12, go_sem]) rfl ?_
    exact ⟨rfl, HQ1.out.bel⟩
/-- Runs, of a range that is not valid -/
theorem Runs_err {f : Int → Int} {size lo hi most : Int} {W : World} {p : Option Addr} (h : IsM f size W p) (hx : ¬ (0 ≤ lo ∧ lo ≤ hi ∧ hi ≤ size)) :
    Calls Try.prog 17 #[.agg #[.pointer p, .int .i64 size], .int .i64 lo, .int .i64 hi, .int .i64 most] W fun e w' => e = .returned (.tuple #[.slice none 0 0, .int .i64 3]) ∧ Below W.heap.size W w' := by
  obtain ⟨b, rfl⟩ := h.some
  obtain ⟨w0, HW⟩ : ∃ w0, w0 = (W.alloc (.cells #[.pointer (some ⟨b, 0, none⟩), .int .i64 size] 27)).alloc (.cells #[.int .i64 most] 3) := ⟨_, rfl⟩
  have hb : Below W.heap.size W w0 := by rw [HW]; exact (alloc_below _ _).alloc (by simp) _
  have HCK : Hid (Calls Try.prog 31 #[.agg #[.pointer (some ⟨b, 0, none⟩), .int .i64 size], .int .i64 lo, .int .i64 hi, .slice none 0 0] w0 fun e w' => e = .returned (.int .i64 3) ∧ Below w0.heap.size w0 w') := check_range b size lo hi none 0 0 w0 (by omega)
  have HB := Lib.hid hb; have HW' := Lib.hid HW
  clear hb HW h hx
  go_enter Try.func17, Try.ntmps17
  go_wp2_with fail
  rw [← HW'.out]
  refine HCK.out.mono ?_
  rintro e w1 ⟨rfl, hb⟩
  have HB1 := Lib.hid (HB.out.trans (hb.mono HB.out.size))
  clear hb
  go_wp2_with fail
  refine bodyPost_ret (v := .tuple #[.slice none 0 0, .int .i64 3]) (by simp [results, Try.results17, go_sem]) rfl ?_
  exact ⟨rfl, HB1.out⟩
section
variable {H : Type} {enc : TypeId × Value → H} {W : World} {base : Nat} {sp : Nat → Bool} {held : Bool}
theorem fld_wf {cs : List Value} {n i : Nat} {xs : List (DataW H × List MemPlace)} (hi : i < xs.length) (h : DataW.trod enc Try.prog W base sp held n 3 ((cs.drop i).take (Try.prog.cellsOf 3)) = xs[i]?) : ∃ k, cs[i]? = some (.int .i64 k) ∧ -9223372036854775808 ≤ k ∧ k ≤ 9223372036854775807 := by
  rw [one_int, List.getElem?_eq_getElem hi] at h
  obtain ⟨k, e, _, hw⟩ := DataW.trod_int Try.underlying3 h
  refine ⟨k, ?_, ?_⟩
  · have h1 : ((cs.drop i).take 1)[0]? = some (.int .i64 k) := by rw [e]; rfl
    simpa [List.getElem?_take, List.getElem?_drop] using h1
  · have := Go.bounds_i64 hw
    omega
/-- what a query's last number is at most -/
theorem query_bd {d : DataW H} {p : List MemPlace} {q0 q1 q2 q3 q4 q5 : Int}
    (h : DataW.Trod enc Try.prog W base sp held 49 (.agg #[.int .i64 q0, .int .i64 q1, .int .i64 q2, .int .i64 q3, .int .i64 q4, .int .i64 q5]) d p) : q5 ≤ 9223372036854775807 := by
  obtain ⟨fuel, hf⟩ := h
  obtain ⟨xs, n, _, _, hl, hx, hg⟩ := DataW.trod_struct Try.underlying49 hf
  have hx : xs.length = 6 := hx
  obtain ⟨b5, e5, h1, h2⟩ := fld_wf (i := 5) (by omega) (hg 5 _ rfl)
  have e : some (Value.int .i64 q5) = some (Value.int .i64 b5) := e5
  injection e with e
  injection e with _ e
  omega
end
end Go.Proofs.Ytahgfggcpmnnaab
namespace Go.Proofs.Ytahgfggcpmnnaab
open Go Go.RowKit Gs

set_option maxHeartbeats 1000000 in
theorem RAlike_ne {B1 B2 : Nat} {W : World} {u v : Value} {L K : List R} (h1 : IsRs B1 W u L) (h2 : IsRs B2 W v K) (hlen : L.length ≤ 100000) (hlen2 : K.length ≤ 100000) (hLK : L ≠ K) : Calls Try.prog 26 #[u, v] W fun e w' => e = .returned (.bool false) ∧ Hid (Below W.heap.size W w') := by
  have HU := Lib.hid h1; have HV := Lib.hid h2
  obtain ⟨a, c, rfl, -⟩ := h1
  obtain ⟨a', c', rfl, -⟩ := h2
  obtain ⟨n, hn⟩ : ∃ n, n = L.length := ⟨_, rfl⟩
  obtain ⟨m, hm⟩ : ∃ m, m = K.length := ⟨_, rfl⟩
  rw [← hn] at HU ⊢
  rw [← hm] at HV ⊢
  have hnb : n ≤ 100000 := by omega
  have hmb : m ≤ 100000 := by omega
  have HN := Lib.hid hn; have HM := Lib.hid hm; have HLK := Lib.hid hLK
  clear hn hm hlen hlen2 hLK
  by_cases hnm : n = m
  · subst hnm
    go_enter Try.func26, Try.ntmps26
    go_wp2_with fail
    go_loopw [5] (fun iv wr => ∃ j : Nat, j ≤ n ∧ iv = .int .i64 j ∧ Hid (L.take j = K.take j) ∧ Hid (Below W.heap.size W wr)) (fun i _ => n - (intOf i).toNat)
    case atStart => exact ⟨0, by omega, rfl, rfl, Below.refl _ _⟩
    case round =>
      obtain ⟨j, hj, rfl, HT, HB⟩ := hrel
      by_cases hlt : j < n
      · have hj2 : (j : Int) < n := by omega
        have hj0 : (0 : Int) ≤ (j : Int) := by omega
        have hjl : j < L.length := by rw [← HN.out]; exact hlt
        have hjk : j < K.length := by rw [← HM.out]; exact hlt
        obtain ⟨b, d, hv, hcs⟩ := HU.out.below HB.out
        injection hv with hv1 hv2 hv3
        clear hv2 hv3
        subst hv1
        obtain ⟨G, e1, -, hcs2⟩ := hcs (by omega)
        clear hcs
        subst e1
        obtain ⟨c0, c1, c2⟩ := hcs2 j hjl
        clear hcs2
        obtain ⟨b', d', hv, hcs⟩ := HV.out.below HB.out
        injection hv with hv1 hv2 hv3
        clear hv2 hv3
        subst hv1
        obtain ⟨G', e1, -, hcs2⟩ := hcs (by omega)
        clear hcs
        subst e1
        obtain ⟨d0, d1, d2⟩ := hcs2 j hjk
        clear hcs2
        rcases hx : L[j] with ⟨xa, xb, xc⟩
        rcases hy : K[j] with ⟨ya, yb, yc⟩
        have HX := Lib.hid hx; have HY := Lib.hid hy
        rw [hx] at c0 c1 c2
        rw [hy] at d0 d1 d2
        simp only at c0 c1 c2 d0 d1 d2
        clear hx hy
        by_cases m1 : xa = ya
        · by_cases m2 : xb = yb
          · by_cases m3 : xc = yc
            · subst m1; subst m2; subst m3
              have HT2 : Hid (L.take (j + 1) = K.take (j + 1)) := by
                show L.take (j + 1) = K.take (j + 1)
                rw [List.take_succ_eq_append_getElem hjl, List.take_succ_eq_append_getElem hjk, HT.out, HX.out, HY.out]
              clear HX HY
              go_wp2_with fail
              go_quiet (fail)
              rename_i nq
              have HBn : Hid (Below W.heap.size W (World.drewN wr nq)) := below_drewN HB.out nq
              clear c0 c1 c2 d0 d1 d2
              generalize hw : World.drewN _ nq = w2 at HBn ⊢
              clear hw
              go_wp2_with fail
              go_roundw
              case rel => exact ⟨j + 1, by omega, by go_num, HT2, HBn⟩
              case measure => simp [intOf]; omega
            · subst m1; subst m2
              have n3 : (xc == yc) = false := beq_eq_false_iff_ne.2 m3
              clear HX HY m3
              go_wp2_with fail
              go_quiet (fail)
              rename_i nq
              have HBn : Hid (Below W.heap.size W (World.drewN wr nq)) := below_drewN HB.out nq
              clear c0 c1 c2 d0 d1 d2
              generalize hw : World.drewN _ nq = w2 at HBn ⊢
              clear hw
              go_wp2_with fail
              go_ret
              exact ⟨rfl, HBn.out⟩
          · subst m1
            have n2 : (xb == yb) = false := beq_eq_false_iff_ne.2 m2
            clear HX HY m2
            go_wp2_with fail
            go_quiet (fail)
            rename_i nq
            have HBn : Hid (Below W.heap.size W (World.drewN wr nq)) := below_drewN HB.out nq
            clear c0 c1 c2 d0 d1 d2
            generalize hw : World.drewN _ nq = w2 at HBn ⊢
            clear hw
            go_wp2_with fail
            go_ret
            exact ⟨rfl, HBn.out⟩
        · skip
          have n1 : (xa == ya) = false := beq_eq_false_iff_ne.2 m1
          clear HX HY m1
          go_wp2_with fail
          go_quiet (fail)
          rename_i nq
          have HBn : Hid (Below W.heap.size W (World.drewN wr nq)) := below_drewN HB.out nq
          clear c0 c1 c2 d0 d1 d2
          generalize hw : World.drewN _ nq = w2 at HBn ⊢
          clear hw
          go_wp2_with fail
          go_ret
          exact ⟨rfl, HBn.out⟩
      · have hj2 : ¬ (j : Int) < n := by omega
        exfalso
        have e : j = n := by omega
        have h1 := HT.out
        rw [e, List.take_of_length_le (by have := HN.out; omega), List.take_of_length_le (by have := HM.out; omega)] at h1
        exact HLK.out h1
  · have hne : ((n : Int) == (m : Int)) = false := beq_eq_false_iff_ne.2 (by omega)
    have HBr : Hid (Below W.heap.size W W) := Below.refl _ _
    clear hnm
    go_enter Try.func26, Try.ntmps26
    go_wp2_with fail
    go_ret
    exact ⟨rfl, HBr.out⟩
end Go.Proofs.Ytahgfggcpmnnaab
namespace Go.Proofs.Ytahgfggcpmnnaab
open Go Go.RowKit Gs

theorem fits_ord {f : Int → Int} : ∀ {l : List R} {a b : Int}, Fits f a l b → ∀ i k (h : k < l.length) (hik : i < k), (l[i]'(by omega)).hi ≤ l[k].lo
  | r :: l, a, b, h, 0, k + 1, hk, _ => by
    have := (fits_at h.2.2.2 k (by simpa using hk)).1
    exact this
  | r :: l, a, b, h, i + 1, k + 1, hk, hik => by
    have := fits_ord h.2.2.2 i k (by simpa using hk) (by omega)
    exact this
theorem own_drewN {w : World} {base : Nat} {e : TypeId} {size : Nat} {v : Value} {n : Nat} {xs : List Value} (h : w.ownsRow base e size v n xs) : ∀ k, (w.drewN k).ownsRow base e size v n xs
  | 0 => h
  | k + 1 => own_drewN (w := w.drew) h.drew k
theorem own_at {w : World} {base : Nat} {e : TypeId} {size : Nat} {v : Value} {n : Nat} {xs : List Value} (h : w.ownsRow base e size v n xs) : ∀ j, v.ownBlock = some j → base ≤ j := by
  intro j ej
  rcases h.2 with ⟨rfl, _⟩ | ⟨g, cap, cur, rfl, hb, _, _⟩
  · simp [Value.ownBlock] at ej
  · obtain rfl : g = j := by simpa [Value.ownBlock] using ej
    exact hb
/-- the call's own row of changes -/
def RowC (base : Nat) (v : Value) (K : List Ch) (W : World) : Prop := W.ownsRow base 59 4 v K.length (K.flatMap encC)
/-- the box of a change -/
def Cx (B : Nat) (x : Ch) (W : World) : Prop := W.cell? ⟨B, 0, none⟩ = some (.int .i64 x.lo) ∧ W.cell? ⟨B, 1, none⟩ = some (.int .i64 x.hi) ∧ W.cell? ⟨B, 2, none⟩ = some (.int .i64 x.fr) ∧ W.cell? ⟨B, 3, none⟩ = some (.int .i64 x.tt)
theorem Cx.below {B : Nat} {x : Ch} {W W' : World} (h : Cx B x W) (hlt : B < W.heap.size) (hb : Below W.heap.size W W') : Cx B x W' :=
  ⟨(hb.cell (p := ⟨B, 0, none⟩) hlt).trans h.1, (hb.cell (p := ⟨B, 1, none⟩) hlt).trans h.2.1, (hb.cell (p := ⟨B, 2, none⟩) hlt).trans h.2.2.1, (hb.cell (p := ⟨B, 3, none⟩) hlt).trans h.2.2.2⟩
theorem Cx.new (W : World) (x : Ch) (t : TypeId) : Cx W.heap.size x (W.alloc (.cells #[.int .i64 x.lo, .int .i64 x.hi, .int .i64 x.fr, .int .i64 x.tt] t)) :=
  ⟨World.cell?_alloc_at _ _ _ _ rfl, World.cell?_alloc_at _ _ _ _ rfl, World.cell?_alloc_at _ _ _ _ rfl, World.cell?_alloc_at _ _ _ _ rfl⟩
end Go.Proofs.Ytahgfggcpmnnaab
namespace Go.Proofs.Ytahgfggcpmnnaab
open Go Go.RowKit Gs

/-- what addChange leaves -/
structure JC (W : World) (base : Nat) (v : Value) (K : List Ch) (v' : Value) (w' : World) : Prop where
  own : RowC base v' K w'
  bel : Below base W w'
  keep : ∀ k, k < W.heap.size → some k ≠ v.ownBlock → w'.heap[k]? = W.heap[k]?
  at' : ∀ k, v'.ownBlock = some k → v.ownBlock = some k ∨ W.heap.size ≤ k
set_option maxRecDepth 100000 in
set_option maxHeartbeats 1000000 in
theorem addChange_no {base : Nat} {v : Value} {K : List Ch} {xl xh xf xt : Int} {W : World} (hown : W.ownsRow base 59 4 v K.length (K.flatMap encC)) (hbase : base ≤ W.heap.size) (hlen : K.length ≤ 200000000000) (hno : ∀ (m : Nat) (h : m < K.length), K.length = m + 1 → K[m].hi = xl → K[m].fr = xf → K[m].tt ≠ xt) :
    Calls Try.prog 47 #[v, .agg #[.int .i64 xl, .int .i64 xh, .int .i64 xf, .int .i64 xt]] W fun e w' => ∃ v', e = .returned v' ∧ Hid (JC W base v (K ++ [⟨xl, xh, xf, xt⟩]) v' w') := by
  obtain ⟨va, vc, rfl⟩ := own_slice hown
  obtain ⟨w0, HW⟩ : ∃ w0, w0 = W.alloc (.cells #[.int .i64 xl, .int .i64 xh, .int .i64 xf, .int .i64 xt] 59) := ⟨_, rfl⟩
  have hm : Cx W.heap.size ⟨xl, xh, xf, xt⟩ w0 := by rw [HW]; exact Cx.new W ⟨xl, xh, xf, xt⟩ _
  have hb : Below W.heap.size W w0 := by rw [HW]; exact (Below.refl _ _).alloc (Nat.le_refl _) _
  have ho : w0.ownsRow base 59 4 (.slice va K.length vc) K.length (K.flatMap encC) := by rw [HW]; exact hown.alloc _
  have hlt : W.heap.size < w0.heap.size := by rw [HW]; simp
  have hcs := IsCs.of_row ho
  obtain ⟨n, hn⟩ : ∃ n, n = K.length := ⟨_, rfl⟩
  have HN := Lib.hid hn
  rw [← hn] at ho hcs hlen ⊢
  obtain ⟨XS, hXS⟩ : ∃ XS, XS = K.flatMap encC := ⟨_, rfl⟩
  rw [← hXS] at ho
  have HM := Lib.hid hm; have HB := Lib.hid hb; have HW' := Lib.hid HW; have HO := Lib.hid ho; have HNO := Lib.hid hno
  have hml : n + 1 ≤ maxLen := Nat.le_trans (show n + 1 ≤ 200000000001 by omega) (by decide)
  have hwl : base ≤ w0.heap.size := by omega
  have HEND : Hid (∀ (w2 w7 : World) (v' : Value) (o : Obj), Below w0.heap.size w0 w2 → w7.ownsRow base 59 4 v' (n + 1) (XS ++ [.int .i64 xl, .int .i64 xh, .int .i64 xf, .int .i64 xt]) → (w2.alloc o).grownBy w7 (Value.slice va n vc).ownBlock → (v'.ownBlock = (Value.slice va n vc).ownBlock ∨ v'.ownBlock = some (w2.alloc o).heap.size) → JC W base (.slice va n vc) (K ++ [⟨xl, xh, xf, xt⟩]) v' w7) := fun w2 w7 v' o h2 h hgrow hat => by
    have hx2 : W.heap.size < w2.heap.size := Nat.lt_of_lt_of_le hlt h2.size
    refine ⟨?_, (((hb.trans (h2.mono hb.size)).mono hbase).alloc (by omega) _).grown hgrow (by simp; omega) (own_at ho), fun k hk hne => ?_, fun k hk => ?_⟩
    · unfold RowC
      rw [len_snoc, List.flatMap_append (ys := [_]), ← hXS, ← hn]
      exact h
    · exact (hgrow.block k (by simp; omega) hne).trans ((Below.heap_alloc w2 o k (by omega)).trans ((h2.block k (by omega)).trans (hb.block k hk)))
    · rcases hat with h1 | h1
      · exact .inl (h1.symm.trans hk)
      · rw [h1] at hk
        injection hk with hk
        exact .inr (by simp at hk; omega)
  obtain ⟨i0, hi0, hz0, hz1, hz2⟩ := info_parts infoCh
  have HR0 : Hid (Below w0.heap.size w0 w0) := Below.refl _ _
  clear hm hb HW ho hn hXS hown hno
  go_enter Try.func47, Try.ntmps47
  go_upto_region 1 with fail
  rw [← HW'.out]
  by_cases hn0 : n = 0
  · have hgt : ¬ ((n : Int) > 0) := by omega
    have hd : decide ((n : Int) > 0) = false := decide_eq_false hgt
    have hd2 : decide (0 < n) = false := decide_eq_false (by omega)
    have hn1 : ¬ 0 < n := by omega
    clear hn0
    obtain ⟨k0, k1, k2, k3⟩ : _ ∧ _ ∧ _ ∧ _ := HM.out
    simp only at k0 k1 k2 k3
    have hsz2 := HR0.out.size
    go_wp2_with (at_builtin; refine wpList_append_own_at _ rfl _ _ 53 rfl base 59 i0 (.agg #[.int .i64 0, .int .i64 0, .int .i64 0, .int .i64 0]) 4 32 Try.underlying53 hi0 hz0 hz1 hz2 rfl (by decide) _ _ _ rfl (HO.out.alloc _) ⟨w0.heap.size, 0, none⟩ 1 1 [.int .i64 xl, .int .i64 xh, .int .i64 xf, .int .i64 xt] rfl rfl (cells4_new _ _ _ _ _ _) (by simp [Value.oneCell']) (by omega) (by omega) (by simp; omega) ?_; intro v' w7 hown' hgrow _ hat)
    have HF := Lib.hid (HEND.out w0 w7 v' _ HR0.out hown' hgrow hat)
    clear hown' hgrow hat k0 k1 k2 k3
    go_wp2_with fail
    go_ret
    exact ⟨v', rfl, HF⟩
  · obtain ⟨m, hmn⟩ : ∃ m, n = m + 1 := ⟨n - 1, by omega⟩
    have hgt : (n : Int) > 0 := by omega
    have hd : decide ((n : Int) > 0) = true := decide_eq_true hgt
    have hd2 : decide (0 < n) = true := decide_eq_true (by omega)
    have hn1 : 0 < n := by omega
    have hwr : IntKind.i64.wrap ((n : Int) - 1) = (m : Int) := by rw [IntWalk.i64_in] <;> omega
    have hmk : m < K.length := by rw [← HN.out]; omega
    have hm2 : (m : Int) < n := by omega
    obtain ⟨B, o, rfl, c0, c1, c2, c3⟩ := IsCs.at' hcs hmk
    have HNO2 := Lib.hid (HNO.out m hmk (by rw [← HN.out]; exact hmn))
    obtain ⟨y, hy⟩ : ∃ y, y = K[m] := ⟨_, rfl⟩
    rw [← hy] at c0 c1 c2 c3 HNO2
    obtain ⟨ya, yb, yc, yd⟩ := y
    simp only at c0 c1 c2 c3 HNO2
    obtain ⟨m0, m1, m2, m3⟩ : _ ∧ _ ∧ _ ∧ _ := HM.out
    simp only at m0 m1 m2 m3
    clear hy hmn hn0
    by_cases e1 : yb = xl
    · by_cases e2 : yc = xf
      · have e3 := HNO2.out e1 e2
        have n3 : (yd == xt) = false := beq_eq_false_iff_ne.2 e3
        have e1 := e1.symm; have e2 := e2.symm; subst e1; subst e2
        clear e3 HNO2
        go_wp2_with fail
        go_quiet (fail)
        rename_i nq
        have HBn : Hid (Below w0.heap.size w0 (World.drewN w0 nq)) := below_drewN (Below.refl _ _) nq
        have HO2 := Lib.hid (own_drewN HO.out nq)
        have HCX := Lib.hid (HM.out.below hlt HBn.out)
        clear c0 c1 c2 c3 m0 m1 m2 m3
        generalize hw : World.drewN w0 nq = w2 at HBn HO2 HCX ⊢
        clear hw
        obtain ⟨k0, k1, k2, k3⟩ : _ ∧ _ ∧ _ ∧ _ := HCX.out
        simp only at k0 k1 k2 k3
        have hsz2 := HBn.out.size
        go_wp2_with (at_builtin; refine wpList_append_own_at _ rfl _ _ 53 rfl base 59 i0 (.agg #[.int .i64 0, .int .i64 0, .int .i64 0, .int .i64 0]) 4 32 Try.underlying53 hi0 hz0 hz1 hz2 rfl (by decide) _ _ _ rfl (HO2.out.alloc _) ⟨w2.heap.size, 0, none⟩ 1 1 [.int .i64 xl, .int .i64 xh, .int .i64 xf, .int .i64 xt] rfl rfl (cells4_new _ _ _ _ _ _) (by simp [Value.oneCell']) (by omega) (by omega) (by simp; omega) ?_; intro v' w7 hown' hgrow _ hat)
        have HF := Lib.hid (HEND.out w2 w7 v' _ HBn.out hown' hgrow hat)
        clear hown' hgrow hat k0 k1 k2 k3
        go_wp2_with fail
        go_ret
        exact ⟨v', rfl, HF⟩
      · have n2 : (yc == xf) = false := beq_eq_false_iff_ne.2 e2
        have e1 := e1.symm; subst e1
        clear e2 HNO2
        go_wp2_with fail
        go_quiet (fail)
        rename_i nq
        have HBn : Hid (Below w0.heap.size w0 (World.drewN w0 nq)) := below_drewN (Below.refl _ _) nq
        have HO2 := Lib.hid (own_drewN HO.out nq)
        have HCX := Lib.hid (HM.out.below hlt HBn.out)
        clear c0 c1 c2 c3 m0 m1 m2 m3
        generalize hw : World.drewN w0 nq = w2 at HBn HO2 HCX ⊢
        clear hw
        obtain ⟨k0, k1, k2, k3⟩ : _ ∧ _ ∧ _ ∧ _ := HCX.out
        simp only at k0 k1 k2 k3
        have hsz2 := HBn.out.size
        go_wp2_with (at_builtin; refine wpList_append_own_at _ rfl _ _ 53 rfl base 59 i0 (.agg #[.int .i64 0, .int .i64 0, .int .i64 0, .int .i64 0]) 4 32 Try.underlying53 hi0 hz0 hz1 hz2 rfl (by decide) _ _ _ rfl (HO2.out.alloc _) ⟨w2.heap.size, 0, none⟩ 1 1 [.int .i64 xl, .int .i64 xh, .int .i64 xf, .int .i64 xt] rfl rfl (cells4_new _ _ _ _ _ _) (by simp [Value.oneCell']) (by omega) (by omega) (by simp; omega) ?_; intro v' w7 hown' hgrow _ hat)
        have HF := Lib.hid (HEND.out w2 w7 v' _ HBn.out hown' hgrow hat)
        clear hown' hgrow hat k0 k1 k2 k3
        go_wp2_with fail
        go_ret
        exact ⟨v', rfl, HF⟩
    · have n1 : (yb == xl) = false := beq_eq_false_iff_ne.2 e1
      clear e1 HNO2
      go_wp2_with fail
      go_quiet (fail)
      rename_i nq
      have HBn : Hid (Below w0.heap.size w0 (World.drewN w0 nq)) := below_drewN (Below.refl _ _) nq
      have HO2 := Lib.hid (own_drewN HO.out nq)
      have HCX := Lib.hid (HM.out.below hlt HBn.out)
      clear c0 c1 c2 c3 m0 m1 m2 m3
      generalize hw : World.drewN w0 nq = w2 at HBn HO2 HCX ⊢
      clear hw
      obtain ⟨k0, k1, k2, k3⟩ : _ ∧ _ ∧ _ ∧ _ := HCX.out
      simp only at k0 k1 k2 k3
      have hsz2 := HBn.out.size
      go_wp2_with (at_builtin; refine wpList_append_own_at _ rfl _ _ 53 rfl base 59 i0 (.agg #[.int .i64 0, .int .i64 0, .int .i64 0, .int .i64 0]) 4 32 Try.underlying53 hi0 hz0 hz1 hz2 rfl (by decide) _ _ _ rfl (HO2.out.alloc _) ⟨w2.heap.size, 0, none⟩ 1 1 [.int .i64 xl, .int .i64 xh, .int .i64 xf, .int .i64 xt] rfl rfl (cells4_new _ _ _ _ _ _) (by simp [Value.oneCell']) (by omega) (by omega) (by simp; omega) ?_; intro v' w7 hown' hgrow _ hat)
      have HF := Lib.hid (HEND.out w2 w7 v' _ HBn.out hown' hgrow hat)
      clear hown' hgrow hat k0 k1 k2 k3
      go_wp2_with fail
      go_ret
      exact ⟨v', rfl, HF⟩
theorem setC_last (K : List Ch) (yl yh yf yt xh : Int) : ((K ++ [(⟨yl, yh, yf, yt⟩ : Ch)]).flatMap encC).set (K.length * 4 + 1) (.int .i64 xh) = (K ++ [(⟨yl, xh, yf, yt⟩ : Ch)]).flatMap encC := by
  rw [List.flatMap_append, List.flatMap_append, List.set_append_right _ _ (by rw [encC_len]; omega), encC_len, show K.length * 4 + 1 - K.length * 4 = 1 by omega]
  rfl
set_option maxRecDepth 100000 in
set_option maxHeartbeats 1000000 in
theorem addChange_same {base : Nat} {v : Value} {K : List Ch} {yl xl xh xf xt : Int} {W : World} (h : RowC base v (K ++ [⟨yl, xl, xf, xt⟩]) W) (hb : base ≤ W.heap.size) (hl : K.length ≤ 200000000000) :
    Calls Try.prog 47 #[v, .agg #[.int .i64 xl, .int .i64 xh, .int .i64 xf, .int .i64 xt]] W fun e w' => ∃ v', e = .returned v' ∧ Hid (JC W base v (K ++ [⟨yl, xh, xf, xt⟩]) v' w') := by
  have hown := h
  rcases h.2 with ⟨_, h0⟩ | ⟨G, c, cur, rfl, hG, hGh, hcap, -⟩
  · rw [List.length_append] at h0; cases h0
  unfold RowC at hown
  obtain ⟨m, hm⟩ : ∃ m, m = K.length := ⟨_, rfl⟩
  have hlen : (K ++ [(⟨yl, xl, xf, xt⟩ : Ch)]).length = m + 1 := by rw [hm]; simp
  rw [hlen] at hown hcap ⊢
  obtain ⟨n, hn⟩ : ∃ n, n = m + 1 := ⟨_, rfl⟩
  rw [← hn] at hown hcap ⊢
  obtain ⟨XS, hXS⟩ : ∃ XS, XS = (K ++ [(⟨yl, xl, xf, xt⟩ : Ch)]).flatMap encC := ⟨_, rfl⟩
  rw [← hXS] at hown
  obtain ⟨g0, g1, g2, g3⟩ := encC_get (K ++ [(⟨yl, xl, xf, xt⟩ : Ch)]) m (by rw [hlen]; omega)
  have e1 : (K ++ [(⟨yl, xl, xf, xt⟩ : Ch)])[m]'(by rw [hlen]; omega) = ⟨yl, xl, xf, xt⟩ := by subst hm; simp
  rw [e1, ← hXS] at g1 g2 g3
  obtain ⟨w0, HW⟩ : ∃ w0, w0 = W.alloc (.cells #[.int .i64 xl, .int .i64 xh, .int .i64 xf, .int .i64 xt] 59) := ⟨_, rfl⟩
  have hcx : Cx W.heap.size ⟨xl, xh, xf, xt⟩ w0 := by rw [HW]; exact Cx.new W ⟨xl, xh, xf, xt⟩ _
  have hb0 : Below W.heap.size W w0 := by rw [HW]; exact (Below.refl _ _).alloc (Nat.le_refl _) _
  have ho : w0.ownsRow base 59 4 (.slice (some ⟨G, 0, none⟩) n c) n XS := by rw [HW]; exact hown.alloc _
  have hlt : W.heap.size < w0.heap.size := by rw [HW]; simp
  have HM := Lib.hid hcx; have HB := Lib.hid hb0; have HO := Lib.hid ho; have HW' := Lib.hid HW
  have HCL : Hid (∀ (W' : World), W'.ownsRow base 59 4 (.slice (some ⟨G, 0, none⟩) n c) n XS → W'.cell? ⟨G, m * 4 + 1, none⟩ = some (.int .i64 xl) ∧ W'.cell? ⟨G, m * 4 + 2, none⟩ = some (.int .i64 xf) ∧ W'.cell? ⟨G, m * 4 + 3, none⟩ = some (.int .i64 xt) ∧ W'.frozen? ⟨G, m * 4 + 1, none⟩ = false) := fun W' ho =>
    ⟨(ho.cellAt (m * 4 + 1) (by omega)).trans g1, (ho.cellAt (m * 4 + 2) (by omega)).trans g2, (ho.cellAt (m * 4 + 3) (by omega)).trans g3, ho.frozenAt _⟩
  have HFIN : Hid (∀ (W' : World), Below w0.heap.size w0 W' → W'.ownsRow base 59 4 (.slice (some ⟨G, 0, none⟩) n c) n XS → JC W base (.slice (some ⟨G, 0, none⟩) n c) (K ++ [⟨yl, xh, xf, xt⟩]) (.slice (some ⟨G, 0, none⟩) n c) (W'.setCell ⟨G, m * 4 + 1, none⟩ (.int .i64 xh))) := fun W' hw ho => by
    obtain ⟨s1, s2⟩ := ho.stored (m * 4 + 1) (.int .i64 xh)
    have hbw := hb0.trans (hw.mono hb0.size)
    refine ⟨?_, (hbw.mono hb).setCell (p := ⟨G, m * 4 + 1, none⟩) hG _, fun k hk hne => (s2.block k (Nat.lt_of_lt_of_le (Nat.lt_trans hk hlt) hw.size) hne).trans (hbw.block k hk), fun k hk => .inl hk⟩
    unfold RowC
    rw [show (K ++ [(⟨yl, xh, xf, xt⟩ : Ch)]).length = n by rw [hn, hm]; simp, ← setC_last K yl xl xf xt xh, ← hXS, ← hm]
    exact s1
  have hw1 : IntKind.i64.wrap ((n : Int) - 1) = (m : Int) := by rw [IntWalk.i64_in] <;> omega
  have hgt : (n : Int) > 0 := by omega
  have hd1 : decide ((n : Int) > 0) = true := decide_eq_true hgt
  have hn0 : 0 < n := by omega
  have hd2 : decide (0 < n) = true := decide_eq_true hn0
  have hmn : (m : Int) < n := by omega
  have hml : n ≤ 200000000001 := by omega
  obtain ⟨m0, m1, m2, m3⟩ : _ ∧ _ ∧ _ ∧ _ := HM.out
  simp only at m0 m1 m2 m3
  obtain ⟨d1, d2, d3, f1⟩ := HCL.out _ HO.out
  clear HW hn hl hown h hlen hXS e1 g0 g1 g2 g3 hGh hcap hm hcx hb0 ho
  go_enter Try.func47, Try.ntmps47
  go_upto_region 1 with fail
  rw [← HW'.out]
  go_wp2_with fail
  go_quiet (fail)
  rename_i nq
  have HBn : Hid (Below w0.heap.size w0 (World.drewN w0 nq)) := below_drewN (Below.refl _ _) nq
  have HO2 := Lib.hid (own_drewN HO.out nq)
  have HCX := Lib.hid (HM.out.below hlt HBn.out)
  clear m0 m1 m2 m3 d1 d2 d3 f1
  generalize hw : World.drewN _ nq = w2 at HBn HO2 HCX ⊢
  clear hw
  obtain ⟨m0, m1, m2, m3⟩ : _ ∧ _ ∧ _ ∧ _ := HCX.out
  simp only at m0 m1 m2 m3
  obtain ⟨d1, d2, d3, f1⟩ := HCL.out _ HO2.out
  have HF := Lib.hid (HFIN.out _ HBn.out HO2.out)
  go_wp2_with fail
  go_ret
  exact ⟨_, rfl, HF.out⟩
end Go.Proofs.Ytahgfggcpmnnaab
namespace Go.Proofs.Ytahgfggcpmnnaab
open Go Go.RowKit Gs

theorem RowC.next {base : Nat} {v : Value} {K : List Ch} {W W2 : World} (h : RowC base v K W) (hb : Below W.heap.size W W2) : RowC base v K W2 := by
  refine ⟨h.1, ?_⟩
  rcases h.2 with h0 | ⟨g, cap, cur, h1, h2, h3, h4⟩
  · exact .inl h0
  · exact .inr ⟨g, cap, cur, h1, h2, (hb.block g (Array.getElem?_eq_some_iff.1 h3).1).trans h3, h4⟩
theorem RowC.mono {base b2 : Nat} {v : Value} {K : List Ch} {W : World} (h : RowC base v K W) (hb : b2 ≤ base) : RowC b2 v K W := by
  refine ⟨h.1, ?_⟩
  rcases h.2 with h0 | ⟨g, cap, cur, h1, h2, h3, h4⟩
  · exact .inl h0
  · exact .inr ⟨g, cap, cur, h1, Nat.le_trans hb h2, h3, h4⟩
theorem RowC.nil (base : Nat) (W : World) : RowC base (.slice none 0 0) [] W := World.ownsRow_nil _ _ _ _
/-- a run of pairs ends where the first of its two runs ends -/
theorem rl_piece {f g : Int → Int} {la lb : List R} {size : Int} (ha : Fits f 0 la size) (hb : Fits g 0 lb size) {r : R} (hr : r ∈ rl la lb) (i k : Nat) (hi : i < la.length) (hk : k < lb.length) (h1 : la[i].lo ≤ r.lo) (h2 : r.lo < la[i].hi) (h3 : lb[k].lo ≤ r.lo) (h4 : r.lo < lb[k].hi) :
    r.hi = min la[i].hi lb[k].hi := by
  obtain ⟨x, hx, hr⟩ := List.mem_flatMap.1 hr
  obtain ⟨s, hs, rfl⟩ := List.mem_map.1 hr
  obtain ⟨y, hy, hs⟩ := List.mem_flatMap.1 hs
  unfold clip1 at hs
  split at hs
  · rename_i hc
    have hs := List.mem_singleton.1 hs
    subst hs
    simp only at h1 h2 h3 h4 ⊢
    have e1 := fits_one ha (List.getElem_mem hi) hx h1 h2 (by omega) (by omega)
    have e2 := fits_one hb (List.getElem_mem hk) hy h3 h4 (by omega) (by omega)
    rw [e1, e2]
    omega
  · cases hs
theorem dec_mem {K : List R} {c : Ch} (h : c ∈ dec K) : ∃ r ∈ K, r.hi = c.hi ∧ r.tag / 16 = c.fr ∧ r.tag % 16 = c.tt := by
  unfold dec at h
  obtain ⟨r, hr, rfl⟩ := List.mem_map.1 h
  exact ⟨r, (List.mem_filter.1 hr).1, rfl, rfl, rfl⟩
theorem dec_nolink {h : Int → Int} {K M : List R} {size at' : Int} (hc : Gs.Can h 0 (K ++ M) size) (h1 : Fits h 0 K at') (hlt : at' < size) : ∀ (m : Nat) (hm : m < (dec K).length), (dec K).length = m + 1 → (dec K)[m].hi = at' → (dec K)[m].fr = h at' / 16 → (dec K)[m].tt ≠ h at' % 16 := by
  intro m hm _ e1 e2 e3
  obtain ⟨r, hr, q1, q2, q3⟩ := dec_mem (List.getElem_mem hm)
  obtain ⟨m', p1, p2, p3⟩ := hc.part
  have := h1.ends p1.1
  subst this
  have hrg := fits_rng h1 r hr
  have e4 := p3 (by omega) hlt
  obtain ⟨j, hj, rfl⟩ := List.getElem_of_mem hr
  have h5 := (fits_at h1 j hj).2.2.2 (at' - 1) (by omega) (by omega)
  rw [h5] at e4
  apply e4
  omega
end Go.Proofs.Ytahgfggcpmnnaab
namespace Go.Proofs.Ytahgfggcpmnnaab
open Go Go.RowKit Gs

/-- a piece on which none of three maps changes -/
structure M3 where
  lo : Int
  hi : Int
  o : Int
  x : Int
  y : Int
def m3y (o x : R) (l : List R) : List M3 := l.map fun y => ⟨y.lo, y.hi, o.tag, x.tag, y.tag⟩
def m3x (o : R) (l ly : List R) : List M3 := l.flatMap fun x => m3y o x (clip x.lo x.hi ly)
def m3 (la lx ly : List R) : List M3 := la.flatMap fun o => m3x o (clip o.lo o.hi lx) ly
theorem m3y_snoc (o x : R) (l : List R) (y : R) : m3y o x (l ++ [y]) = m3y o x l ++ [⟨y.lo, y.hi, o.tag, x.tag, y.tag⟩] := by
  unfold m3y; rw [List.map_append]; rfl
theorem m3x_snoc (o : R) (l : List R) (x : R) (ly : List R) : m3x o (l ++ [x]) ly = m3x o l ly ++ m3y o x (clip x.lo x.hi ly) := by
  unfold m3x; rw [List.flatMap_append, List.flatMap_cons, List.flatMap_nil, List.append_nil]
theorem m3_snoc (la : List R) (o : R) (lx ly : List R) : m3 (la ++ [o]) lx ly = m3 la lx ly ++ m3x o (clip o.lo o.hi lx) ly := by
  unfold m3; rw [List.flatMap_append, List.flatMap_cons, List.flatMap_nil, List.append_nil]
/-- a run behind others; of the same tag it makes the last one longer -/
def addR (l : List R) (r : R) : List R := match l.getLast? with
  | some y => if y.tag = r.tag then l.dropLast ++ [⟨y.lo, r.hi, y.tag⟩] else l ++ [r]
  | none => [r]
def stepR (l : List R) (t : M3) : List R := addR l ⟨t.lo, t.hi, mt t.o t.x t.y⟩
def mR (T : List M3) : List R := T.foldl stepR []
/-- a change behind others; next to the last one, with the same tags, it makes it longer -/
def joinC (K : List Ch) (c : Ch) : List Ch := match K.getLast? with
  | some d => if d.hi = c.lo ∧ d.fr = c.fr ∧ d.tt = c.tt then K.dropLast ++ [⟨d.lo, c.hi, c.fr, c.tt⟩] else K ++ [c]
  | none => [c]
def stepC (K : List Ch) (t : M3) : List Ch := if mtb t.o t.x t.y = true then K else joinC K ⟨t.lo, t.hi, t.x, t.y⟩
def mC (T : List M3) : List Ch := T.foldl stepC []
theorem mR_snoc (T : List M3) (t : M3) : mR (T ++ [t]) = addR (mR T) ⟨t.lo, t.hi, mt t.o t.x t.y⟩ := by unfold mR; rw [List.foldl_append]; rfl
theorem mC_snoc (T : List M3) (t : M3) : mC (T ++ [t]) = stepC (mC T) t := by unfold mC; rw [List.foldl_append]; rfl
theorem addR_len (l : List R) (r : R) : (addR l r).length ≤ l.length + 1 := by
  unfold addR
  split
  · split
    · rw [List.length_append, List.length_dropLast, List.length_singleton]; omega
    · simp
  · simp
theorem joinC_len (l : List Ch) (r : Ch) : (joinC l r).length ≤ l.length + 1 := by
  unfold joinC
  split
  · split
    · rw [List.length_append, List.length_dropLast, List.length_singleton]; omega
    · simp
  · simp
theorem stepC_len (l : List Ch) (t : M3) : (stepC l t).length ≤ l.length + 1 := by
  unfold stepC
  split
  · omega
  · exact joinC_len _ _
theorem mR_len (T : List M3) : (mR T).length ≤ T.length := by
  unfold mR
  suffices ∀ l, (T.foldl stepR l).length ≤ l.length + T.length by have := this []; simpa using this
  induction T with
  | nil => intro l; simp
  | cons t T ih =>
    intro l
    have h1 := ih (stepR l t)
    have h2 : (stepR l t).length ≤ l.length + 1 := addR_len _ _
    rw [List.foldl_cons, List.length_cons]
    omega
theorem mC_len (T : List M3) : (mC T).length ≤ T.length := by
  unfold mC
  suffices ∀ l, (T.foldl stepC l).length ≤ l.length + T.length by have := this []; simpa using this
  induction T with
  | nil => intro l; simp
  | cons t T ih =>
    intro l
    have h1 := ih (stepC l t)
    have h2 : (stepC l t).length ≤ l.length + 1 := stepC_len _ _
    rw [List.foldl_cons, List.length_cons]
    omega
theorem addRun_any {base : Nat} {v : Value} {l : List R} (xa xb xc : Int) {W : World} (h : rowR W base v l) (hb : base ≤ W.heap.size) (hl : l.length ≤ 200000000000) :
    Calls Try.prog 46 #[v, .agg #[.int .i64 xa, .int .i64 xb, .int .i64 xc]] W fun e w' => ∃ v', e = .returned v' ∧ Hid (JP W base v (addR l ⟨xa, xb, xc⟩) v' w') := by
  rcases List.eq_nil_or_concat l with rfl | ⟨l', ⟨yl, yh, yt⟩, hl'⟩
  · exact addRun_add xa xb xc h hb hl (by simp)
  · rw [List.concat_eq_append] at hl'
    subst hl'
    unfold addR
    rw [List.getLast?_concat]
    by_cases e : yt = xc
    · simp only
      subst e
      rw [if_pos rfl, List.dropLast_concat]
      exact addRun_same xa xb h hb (by simp at hl; omega)
    · simp only
      rw [if_neg e]
      exact addRun_add xa xb xc h hb hl (by simpa using e)
theorem addChange_any {base : Nat} {v : Value} {K : List Ch} (xl xh xf xt : Int) {W : World} (h : RowC base v K W) (hb : base ≤ W.heap.size) (hl : K.length ≤ 200000000000) :
    Calls Try.prog 47 #[v, .agg #[.int .i64 xl, .int .i64 xh, .int .i64 xf, .int .i64 xt]] W fun e w' => ∃ v', e = .returned v' ∧ Hid (JC W base v (joinC K ⟨xl, xh, xf, xt⟩) v' w') := by
  rcases List.eq_nil_or_concat K with rfl | ⟨K', ⟨yl, yh, yf, yt⟩, hl'⟩
  · exact addChange_no h hb hl (by simp)
  · rw [List.concat_eq_append] at hl'
    subst hl'
    unfold joinC
    rw [List.getLast?_concat]
    by_cases e : yh = xl ∧ yf = xf ∧ yt = xt
    · simp only
      obtain ⟨rfl, rfl, rfl⟩ := e
      rw [if_pos ⟨rfl, rfl, rfl⟩, List.dropLast_concat]
      exact addChange_same h hb (by simp at hl; omega)
    · simp only
      rw [if_neg e]
      refine addChange_no h hb hl fun m hm he e1 e2 e3 => ?_
      have : (K' ++ [(⟨yl, yh, yf, yt⟩ : Ch)])[m] = ⟨yl, yh, yf, yt⟩ := by
        have : m = K'.length := by simp at he; omega
        subst this; simp
      rw [this] at e1 e2 e3
      exact e ⟨e1, e2, e3⟩

theorem row_keep {W W' : World} {base : Nat} {e : TypeId} {size : Nat} {v : Value} {n : Nat} {xs : List Value} (h : W.ownsRow base e size v n xs) (hk : ∀ k, k < W.heap.size → v.ownBlock = some k → W'.heap[k]? = W.heap[k]?) : W'.ownsRow base e size v n xs := by
  refine ⟨h.1, ?_⟩
  rcases h.2 with h0 | ⟨g, cap, cur, h1, h2, h3, h4⟩
  · exact .inl h0
  · exact .inr ⟨g, cap, cur, h1, h2, (hk g (Array.getElem?_eq_some_iff.1 h3).1 (by rw [h1]; simp [Value.ownBlock])).trans h3, h4⟩
theorem own_lt {W : World} {base : Nat} {e : TypeId} {size : Nat} {v : Value} {n : Nat} {xs : List Value} (h : W.ownsRow base e size v n xs) : ∀ k, v.ownBlock = some k → k < W.heap.size := by
  intro k ek
  rcases h.2 with ⟨rfl, _⟩ | ⟨g, cap, cur, rfl, _, hg, _⟩
  · simp [Value.ownBlock] at ek
  · obtain rfl : g = k := by simpa [Value.ownBlock] using ek
    exact (Array.getElem?_eq_some_iff.1 hg).1
theorem own_cells {W : World} {base : Nat} {e : TypeId} {size : Nat} {v : Value} {n : Nat} {xs : List Value} (h : W.ownsRow base e size v n xs) : ∀ k o, v.ownBlock = some k → W.heap[k]? = some o → o.isCells = true := by
  intro k o ek ho
  rcases h.2 with ⟨rfl, _⟩ | ⟨g, cap, cur, rfl, _, hg, _⟩
  · simp [Value.ownBlock] at ek
  · obtain rfl : g = k := by simpa [Value.ownBlock] using ek
    rw [hg] at ho; cases ho; rfl
/-- the two lists of Merge, each in its box -/
structure Two (base B C : Nat) (v u : Value) (L : List R) (K : List Ch) (W : World) : Prop where
  bv : Boxed W B 42 v
  bu : Boxed W C 53 u
  rv : rowR W base v L
  ru : RowC base u K W
  ap : ∀ k, v.ownBlock = some k → u.ownBlock ≠ some k
theorem Two.next {base B C : Nat} {v u : Value} {L : List R} {K : List Ch} {W W' : World} (h : Two base B C v u L K W) (hb : Below W.heap.size W W') : Two base B C v u L K W' :=
  ⟨(hb.block _ h.bv.lt).trans h.bv, (hb.block _ h.bu.lt).trans h.bu, row_keep h.rv fun k hk _ => hb.block k hk, row_keep h.ru fun k hk _ => hb.block k hk, h.ap⟩
theorem Two.alloc {base B C : Nat} {v u : Value} {L : List R} {K : List Ch} {W : World} (h : Two base B C v u L K W) (o : Obj) : Two base B C v u L K (W.alloc o) := h.next ((Below.refl _ _).alloc (Nat.le_refl _) _)
theorem Two.own {base B C : Nat} {v u : Value} {L : List R} {K : List Ch} : Own (fun (_ : Unit) W => Two base B C v u L K W) := fun s X Y row hs hg hrow => by
  have hc : ∀ k o, X.heap[k]? = some o → o.isCells = true → some k ≠ row := fun k o ho hc e' => by
    obtain ⟨o', ho', hc'⟩ := hrow k e'.symm
    rw [ho] at ho'; cases ho'
    rw [hc] at hc'; cases hc'
  exact ⟨hs.bv.kept hg (hc _ _ hs.bv rfl), hs.bu.kept hg (hc _ _ hs.bu rfl),
    row_keep hs.rv fun k hk ek => hg.block k hk (hc k _ (Array.getElem?_eq_getElem hk) (own_cells hs.rv k _ ek (Array.getElem?_eq_getElem hk))),
    row_keep hs.ru fun k hk ek => hg.block k hk (hc k _ (Array.getElem?_eq_getElem hk) (own_cells hs.ru k _ ek (Array.getElem?_eq_getElem hk))), hs.ap⟩
/-- a list that grew in its own row, and was put into its box -/
theorem Two.run {base B C : Nat} {v u v' : Value} {L L' : List R} {K : List Ch} {W w' : World} (h : Two base B C v u L K W) (hj : JP W base v L' v' w') (hB : base ≤ B) (hBC : B ≠ C) :
    Boxed w' B 42 v ∧ Two base B C v' u L' K (w'.setCell ⟨B, 0, none⟩ v') ∧ Below base W (w'.setCell ⟨B, 0, none⟩ v') ∧ KeepsOthers W (w'.setCell ⟨B, 0, none⟩ v') ∧ Below base W w' ∧
      (∀ k, k < W.heap.size → some k ≠ v.ownBlock → k ≠ B → (w'.setCell ⟨B, 0, none⟩ v').heap[k]? = W.heap[k]?) := by
  have h1 : Boxed w' B 42 v := (hj.keep B h.bv.lt (h.bv.not_row (by decide) h.rv)).trans h.bv
  have hnr : some B ≠ v'.ownBlock := h1.not_row (by decide) hj.own
  have hkk : ∀ k, k < W.heap.size → some k ≠ v.ownBlock → k ≠ B → (w'.setCell ⟨B, 0, none⟩ v').heap[k]? = W.heap[k]? := fun k hk h1 h2 => (Below.heap_setCell _ _ _ k h2).trans (hj.keep k hk h1)
  refine ⟨h1, ⟨h1.set v', ?_, ?_, ?_, ?_⟩, hj.bel.setCell (p := ⟨B, 0, none⟩) hB _, ⟨Nat.le_trans hj.bel.size (by rw [World.size_setCell]; exact Nat.le_refl _), fun k o hk ho => ?_⟩, hj.bel, hkk⟩
  · exact (hkk C h.bu.lt (h.bu.not_row (by decide) h.rv) (Ne.symm hBC)).trans h.bu
  · exact row_keep hj.own fun k hk ek => Below.heap_setCell _ _ _ k (fun e => hnr (by rw [ek]; exact congrArg some e.symm))
  · refine row_keep h.ru fun k hk ek => ?_
    refine hkk k hk (fun e => h.ap k e.symm ek) fun e => ?_
    subst e
    exact h.bv.not_row (by decide) h.ru ek.symm
  · intro k ek eu
    rcases hj.at' k ek with h2 | h2
    · exact h.ap k h2 eu
    · have := own_lt h.ru k eu
      omega
  · have hlt := (Array.getElem?_eq_some_iff.1 hk).1
    refine (hkk k hlt (fun e => ?_) fun e => ?_).trans hk
    · have := own_cells h.rv k o e.symm hk
      rw [ho] at this; cases this
    · subst e
      rw [show W.heap[k]? = _ from h.bv] at hk
      cases hk; cases ho
theorem Two.change {base B C : Nat} {v u u' : Value} {L : List R} {K K' : List Ch} {W w' : World} (h : Two base B C v u L K W) (hj : JC W base u K' u' w') (hC : base ≤ C) (hBC : B ≠ C) :
    Boxed w' C 53 u ∧ Two base B C v u' L K' (w'.setCell ⟨C, 0, none⟩ u') ∧ Below base W (w'.setCell ⟨C, 0, none⟩ u') ∧ KeepsOthers W (w'.setCell ⟨C, 0, none⟩ u') ∧ Below base W w' ∧
      (∀ k, k < W.heap.size → some k ≠ u.ownBlock → k ≠ C → (w'.setCell ⟨C, 0, none⟩ u').heap[k]? = W.heap[k]?) := by
  have h1 : Boxed w' C 53 u := (hj.keep C h.bu.lt (h.bu.not_row (by decide) h.ru)).trans h.bu
  have hnr : some C ≠ u'.ownBlock := h1.not_row (by decide) hj.own
  have hkk : ∀ k, k < W.heap.size → some k ≠ u.ownBlock → k ≠ C → (w'.setCell ⟨C, 0, none⟩ u').heap[k]? = W.heap[k]? := fun k hk h1 h2 => (Below.heap_setCell _ _ _ k h2).trans (hj.keep k hk h1)
  refine ⟨h1, ⟨?_, h1.set u', ?_, ?_, ?_⟩, hj.bel.setCell (p := ⟨C, 0, none⟩) hC _, ⟨Nat.le_trans hj.bel.size (by rw [World.size_setCell]; exact Nat.le_refl _), fun k o hk ho => ?_⟩, hj.bel, hkk⟩
  · exact (hkk B h.bv.lt (h.bv.not_row (by decide) h.ru) hBC).trans h.bv
  · refine row_keep h.rv fun k hk ek => ?_
    refine hkk k hk (fun e => h.ap k ek e.symm) fun e => ?_
    subst e
    exact h.bu.not_row (by decide) h.rv ek.symm
  · exact row_keep hj.own fun k hk ek => Below.heap_setCell _ _ _ k (fun e => hnr (by rw [ek]; exact congrArg some e.symm))
  · intro k ek eu
    rcases hj.at' k eu with h2 | h2
    · exact h.ap k ek h2
    · have := own_lt h.rv k ek
      omega
  · have hlt := (Array.getElem?_eq_some_iff.1 hk).1
    refine (hkk k hlt (fun e => ?_) fun e => ?_).trans hk
    · have := own_cells h.ru k o e.symm hk
      rw [ho] at this; cases this
    · subst e
      rw [show W.heap[k]? = _ from h.bu] at hk
      cases hk; cases ho
end Go.Proofs.Ytahgfggcpmnnaab
namespace Go.Proofs.Ytahgfggcpmnnaab
open Go Go.RowKit Gs

theorem Diff_ne (bp bq : Nat) (s s2 : Int) (W : World) (h : s2 ≠ s) :
    Calls Try.prog 19 #[MV.v (some bp, s), MV.v (some bq, s2)] W fun e w' => e = .returned (.tuple #[.slice none 0 0, .int .i64 2]) ∧ Below W.heap.size W w' := by
  obtain ⟨w0, HW, hm, hr, hc, hlt, hb⟩ := two_maps W (some bp, s) (some bq, s2) 27 27
  have HCK : Hid (Calls Try.prog 42 #[.slice (some ⟨W.heap.size + 1 + 1, 0, none⟩) 2 2] w0 fun e w' => e = .returned (.int .i64 2) ∧ Below w0.heap.size w0 w') :=
    checkSizes_ok (W.heap.size + 1 + 1) 2 [(some bp, s), (some bq, s2)] s 2 w0 hlt (fun j hj => by
      have : j = 0 ∨ j = 1 := by simp at hj; omega
      rcases this with rfl | rfl
      · exact ⟨hc 0 _ rfl, hc 1 _ rfl⟩
      · exact ⟨hc 2 _ rfl, hc 3 _ rfl⟩) (by simp) (by simp) (by simp) (hc 1 _ rfl) (fun h' => absurd (h' (some bq, s2) (by simp)) h) (fun _ => rfl)
  have HB := Lib.hid hb; have HW' := Lib.hid HW
  clear hm hr hc hlt hb HW h
  unfold MV.v
  obtain ⟨xp, hxp⟩ : ∃ xp, xp = MV.p (some bp, s) := ⟨_, rfl⟩
  obtain ⟨yp, hyp⟩ : ∃ yp, yp = MV.p (some bq, s2) := ⟨_, rfl⟩
  rw [← hxp, ← hyp] at HW' ⊢
  clear hxp hyp
  go_enter Try.func19, Try.ntmps19
  go_wp2_with fail
  rw [← HW'.out]
  refine HCK.out.mono ?_
  rintro e w1 ⟨rfl, hb⟩
  have HB1 := Lib.hid (HB.out.trans (hb.mono HB.out.size))
  clear hb
  go_wp2_with fail
  refine bodyPost_ret (v := .tuple #[.slice none 0 0, .int .i64 2]) (by simp [results, Try.results19, go_sem]) rfl ?_
  exact ⟨rfl, HB1.out⟩
end Go.Proofs.Ytahgfggcpmnnaab
namespace Go.Proofs.Ytahgfggcpmnnaab
open Go Go.RowKit Gs

set_option maxHeartbeats 1000000 in
theorem built_any {size : Int} {W : World} {v : Value} {l : List Act} (hl : IsAs W v l) :
    Calls Try.prog 10 #[.int .i64 size, v] W fun e w' => ∃ q s ok, e = .returned (.tuple #[.agg #[.pointer q, .int .i64 s], .bool ok]) ∧ Hid (ok = true → l.length ≤ 60 ∧ s = size ∧ ∃ f, IsM f size w' q ∧ Mo size (fun _ => 0) l f) ∧ Hid (ok = false → l.length ≤ 60 → size < 1 ∨ 1099511627776 < size) ∧ Below W.heap.size W w' := by
  have hl0 := hl
  obtain ⟨ao, c, rfl, hcs⟩ := hl
  obtain ⟨w0, HW⟩ : ∃ w0, w0 = W.alloc (.cells #[.pointer none, .int .i64 0] 27) := ⟨_, rfl⟩
  have hm : Mb W.heap.size none 0 w0 := by rw [HW]; exact Mb.new _ _ _ _
  have hb0 : Below W.heap.size W w0 := by rw [HW]; exact (Below.refl _ _).alloc (Nat.le_refl _) _
  have HN := Lib.hid (New_any size w0)
  have HL := Lib.hid hl0
  have HM := Lib.hid hm; have HB := Lib.hid hb0; have HW' := Lib.hid HW
  clear hl0 hcs hm hb0 HW
  obtain ⟨n, hnn⟩ : ∃ n, n = l.length := ⟨_, rfl⟩
  have HLN := Lib.hid hnn
  rw [← hnn] at HL ⊢
  clear hnn
  go_enter Try.func10, Try.ntmps10
  go_wp2_with fail
  rw [← HW'.out]
  refine HN.out.mono ?_
  rintro e w1 ⟨q, s, e2, rfl, HQ, hb⟩
  have HM1 := Lib.hid (HM.out.next hb)
  have HB1 := Lib.hid (HB.out.trans (hb.mono HB.out.size))
  clear hb
  obtain ⟨w2, HW2⟩ : ∃ w2, w2 = w1.alloc (.cells #[.pointer q, .int .i64 s] 27) := ⟨_, rfl⟩
  have hm2 : Mb w1.heap.size q s w2 := by rw [HW2]; exact Mb.new _ _ _ _
  have hb2 : Below w1.heap.size w1 w2 := by rw [HW2]; exact (Below.refl _ _).alloc (Nat.le_refl _) _
  have HM2 := Lib.hid (HM1.out.next hb2)
  have HN2 := Lib.hid hm2
  have HB2 := Lib.hid (HB1.out.trans (hb2.mono HB1.out.size))
  have HW2' := Lib.hid HW2
  have d0 := HM2.out.c0; have d1 := HM2.out.c1; have d2 := HM2.out.f0; have d3 := HM2.out.f1
  have k0 := HN2.out.c0; have k1 := HN2.out.c1
  rcases HQ.out with ⟨rfl, rfl, hq⟩ | ⟨rfl, rfl, rfl, hbad⟩
  · have HI2 := Lib.hid (hq.below hb2)
    clear hq hm2 hb2 HW2
    by_cases hf : n ≤ 60
    · have HFW : Hid (∀ W', Calls Try.prog 22 #[.slice ao n c] W' fun e w' => e = .returned (.bool true) ∧ W' = w') := fun W' => by
        have := few_any ao n c W'
        rwa [decide_eq_true hf] at this
      have HMO : Hid (Calls Try.prog 23 #[.agg #[.pointer q, .int .i64 s], .slice ao n c] w2 fun e w' => ∃ q f', e = .returned (.agg #[.pointer q, .int .i64 s]) ∧ Hid (IsM f' s w' q) ∧ Hid (Mo s (fun _ => 0) l f') ∧ Below w2.heap.size w2 w') := by
        have h1 := HL.out.below HB2.out
        have h2 := HLN.out
        exact more_any HI2.out h1 (by omega)
      go_upto_region 2 with fail
      rw [← HW2'.out]
      go_wp2_with fail
      refine (HFW.out _).mono ?_
      rintro e w3 ⟨rfl, rfl⟩
      go_wp2_with fail
      refine HMO.out.mono ?_
      rintro e w4 ⟨q2, f', rfl, HI4, HMf, hb⟩
      have HM4 := Lib.hid (HM2.out.next hb)
      have HB4 := Lib.hid (HB2.out.trans (hb.mono HB2.out.size))
      clear hb d0 d1 d2 d3 k0 k1
      have d0 := HM4.out.c0; have d1 := HM4.out.c1; have d2 := HM4.out.f0; have d3 := HM4.out.f1
      obtain ⟨u0, u1⟩ : _ ∧ _ := ⟨(HM4.out.put q2 s).c0, (HM4.out.put q2 s).c1⟩
      go_wp2_with fail
      refine bodyPost_ret (v := .tuple #[.agg #[.pointer q2, .int .i64 s], .bool true]) (by simp [results, Try.results10, go_sem, u0, u1]) rfl ?_
      have HI9 : Hid (IsM f' s ((w4.setCell ⟨W.heap.size, 0, none⟩ (.pointer q2)).setCell ⟨W.heap.size, 1, none⟩ (.int .i64 s)) q2) := ⟨HI4.out.lo, HI4.out.ctx, HM4.out.tr HI4.out.tr _ _⟩
      exact ⟨q2, s, true, rfl, fun _ => ⟨hf, rfl, f', HI9, HMf⟩, (fun h => by cases h), below_put HB4.out (B := W.heap.size) (Nat.le_refl _) (.pointer q2) (.int .i64 s)⟩
    · have HFW : Hid (∀ W', Calls Try.prog 22 #[.slice ao n c] W' fun e w' => e = .returned (.bool false) ∧ W' = w') := fun W' => by
        have := few_any ao n c W'
        rwa [decide_eq_false hf] at this
      obtain ⟨u0, u1⟩ : _ ∧ _ := ⟨(HM2.out.put q s).c0, (HM2.out.put q s).c1⟩
      go_upto_region 2 with fail
      rw [← HW2'.out]
      go_wp2_with fail
      refine (HFW.out _).mono ?_
      rintro e w3 ⟨rfl, rfl⟩
      go_wp2_with fail
      refine bodyPost_ret (v := .tuple #[.agg #[.pointer q, .int .i64 s], .bool false]) (by simp [results, Try.results10, go_sem, u0, u1]) rfl ?_
      exact ⟨q, s, false, rfl, (fun h => by cases h), fun _ h => absurd h hf, below_put HB2.out (B := W.heap.size) (Nat.le_refl _) (.pointer q) (.int .i64 s)⟩
  · have HBAD := Lib.hid hbad
    obtain ⟨u0, u1⟩ : _ ∧ _ := ⟨(HM2.out.put none 0).c0, (HM2.out.put none 0).c1⟩
    clear hbad hm2 hb2 HW2
    go_upto_region 2 with fail
    rw [← HW2'.out]
    go_wp2_with fail
    refine bodyPost_ret (v := .tuple #[.agg #[.pointer none, .int .i64 0], .bool false]) (by simp [results, Try.results10, go_sem, u0, u1]) rfl ?_
    exact ⟨none, 0, false, rfl, (fun h => by cases h), fun _ _ => HBAD.out, by first | exact HB2.out | exact below_put HB2.out (B := W.heap.size) (Nat.le_refl _) (.pointer none) (.int .i64 0)⟩
end Go.Proofs.Ytahgfggcpmnnaab
namespace Go.Proofs.Ytahgfggcpmnnaab
open Go Go.RowKit Gs

theorem Diff_same {f g : Int → Int} {size : Int} {W : World} {p q : Option Addr} {La Lb : List R} {N : Nat} (h : IsM f size W p) (h' : IsM g size W q) (ha : Gs.Can f 0 La size) (hb : Gs.Can g 0 Lb size) (hN : N = (diffE La Lb).length) :
    Calls Try.prog 19 #[.agg #[.pointer p, .int .i64 size], .agg #[.pointer q, .int .i64 size]] W fun e w' => ∃ a c, e = .returned (.tuple #[.slice a N c, .int .i64 0]) ∧ Hid (IsCs w' (.slice a N c) (diffE La Lb)) ∧ Below W.heap.size W w' := by
  obtain ⟨La', Lb', h1, h2, h3⟩ := Diff_any h h'
  have e1 := h1.same ha
  have e2 := h2.same hb
  subst e1; subst e2; subst hN
  refine h3.mono ?_
  rintro e w' ⟨v, he, hr, hB⟩
  have hc := IsCs.of_row hr.out
  have hc2 := hc
  obtain ⟨a, c, rfl, -⟩ := hc
  exact ⟨a, c, he, hc2, hB⟩
theorem Apply_same {f g : Int → Int} {size : Int} {W : World} {p a : Option Addr} {c : Nat} {l : List Ch} (h : IsM f size W p) (hl : IsCs W (.slice a l.length c) l) (hn : l.length ≤ 100000) (hg : apF size f l = (0, g)) {N : Nat} (hN : N = l.length) :
    Calls Try.prog 20 #[.agg #[.pointer p, .int .i64 size], .slice a N c] W fun e w' => ∃ q, e = .returned (.tuple #[.agg #[.pointer q, .int .i64 size], .int .i64 0]) ∧ Hid (IsM g size w' q) ∧ Below W.heap.size W w' := by
  subst hN
  refine (Apply_any h hl hn).mono ?_
  rintro e w' ⟨q, s, e2, rfl, hp, hB⟩
  obtain ⟨h1, h2⟩ := hp.out
  rw [hg] at h1 h2
  have h1 : e2 = 0 := h1
  subst h1
  rcases h2 with ⟨h3, _⟩ | ⟨_, rfl, h4⟩
  · exact absurd rfl h3
  · exact ⟨q, rfl, h4, hB⟩
theorem Equal_true {f g : Int → Int} {size : Int} {W : World} {p q : Option Addr} (h : IsM f size W p) (h' : IsM g size W q) (he : ∀ x, 0 ≤ x → x < size → f x = g x) :
    Calls Try.prog 21 #[.agg #[.pointer p, .int .i64 size], .agg #[.pointer q, .int .i64 size]] W fun e w' => e = .returned (.bool true) ∧ Below W.heap.size W w' := by
  obtain ⟨La, Lb, h1, h2, h3⟩ := Equal_any h h'
  refine h3.mono ?_
  rintro e w' ⟨b, rfl, hb, hB⟩
  have := hb.out.2 ((h1.congr he).same h2)
  subst this
  exact ⟨rfl, hB⟩
theorem Equal_same {f g : Int → Int} {size : Int} {W : World} {p q : Option Addr} {La Lb : List R} {E : Bool} (h : IsM f size W p) (h' : IsM g size W q) (ha : Gs.Can f 0 La size) (hb : Gs.Can g 0 Lb size) (he : E = true ↔ La = Lb) :
    Calls Try.prog 21 #[.agg #[.pointer p, .int .i64 size], .agg #[.pointer q, .int .i64 size]] W fun e w' => e = .returned (.bool E) ∧ Below W.heap.size W w' := by
  obtain ⟨La', Lb', h1, h2, h3⟩ := Equal_any h h'
  have e1 := h1.same ha
  have e2 := h2.same hb
  subst e1; subst e2
  refine h3.mono ?_
  rintro e w' ⟨b, rfl, hb, hB⟩
  have : b = E := by
    have h9 := hb.out.trans he.symm
    cases b <;> cases E <;> simp_all
  subst this
  exact ⟨rfl, hB⟩
set_option maxRecDepth 100000 in
set_option maxHeartbeats 4000000 in
theorem spanPatches_walk (size : Int) (v : Value) (l : List Act) (v2 : Value) (k : List Act) (W : World) (hl : IsAs W v l) (hk : IsAs W v2 k) :
    Calls Try.prog 6 #[.int .i64 size, v, v2] W fun e w' => e = .returned (.bool true) ∧ Below W.heap.size W w' := by
  have HBU := Lib.hid (built_any (size := size) hl)
  have HBU2 := Lib.hid (fun W' (h : Below W.heap.size W W') => built_any (size := size) (W := W') (hk.below h))
  have HAW : Hid (∀ W', Below W.heap.size W W' → Calls Try.prog 11 #[] W' fun e w' => e = .returned (.bool true) ∧ Hid (Below W.heap.size W w')) := fun W' h => (awake_any W').mono fun e w' ⟨he, hB⟩ => ⟨he, h.trans (hB.mono h.size)⟩
  obtain ⟨ao, c, rfl, -⟩ := hl
  obtain ⟨ao2, c2, rfl, -⟩ := hk
  obtain ⟨n, hnn⟩ : ∃ n, n = l.length := ⟨_, rfl⟩
  obtain ⟨n2, hnn2⟩ : ∃ n2, n2 = k.length := ⟨_, rfl⟩
  rw [← hnn] at HBU ⊢
  rw [← hnn2] at HBU2 ⊢
  have HN := Lib.hid hnn; have HN2 := Lib.hid hnn2
  clear hnn hnn2
  go_enter Try.func6, Try.ntmps6
  go_wp2_with fail
  refine HBU.out.mono ?_
  rintro e w1 ⟨p, s, ok, rfl, HOK, -, hb⟩
  have HB1 := Lib.hid hb
  clear hb
  obtain ⟨w2, HW2⟩ : ∃ w2, w2 = w1.alloc (.cells #[.pointer p, .int .i64 s] 27) := ⟨_, rfl⟩
  have b2 : Below w1.heap.size w1 w2 := by rw [HW2]; exact (Below.refl _ _).alloc (Nat.le_refl _) _
  have m2 : Mb w1.heap.size p s w2 := by rw [HW2]; exact Mb.new _ _ _ _
  have HB2 := Lib.hid (HB1.out.trans (b2.mono HB1.out.size))
  have HM2 := Lib.hid m2
  have HS2 := Lib.hid b2
  have HW2' := Lib.hid HW2
  clear HW2 b2 m2
  go_upto_region 2 with fail
  rw [← HW2'.out]
  go_wp2_with fail
  refine (HBU2.out w2 HB2.out).mono ?_
  rintro e w3 ⟨q, s2, ok2, rfl, HOK2, -, hb⟩
  have HS3 := Lib.hid hb
  have HB3 := Lib.hid (HB2.out.trans (hb.mono HB2.out.size))
  have HM3 := Lib.hid (HM2.out.next hb)
  clear hb
  obtain ⟨w4, HW4⟩ : ∃ w4, w4 = w3.alloc (.cells #[.pointer q, .int .i64 s2] 27) := ⟨_, rfl⟩
  have b4 : Below w3.heap.size w3 w4 := by rw [HW4]; exact (Below.refl _ _).alloc (Nat.le_refl _) _
  have m4 : Mb w3.heap.size q s2 w4 := by rw [HW4]; exact Mb.new _ _ _ _
  have HB4 := Lib.hid (HB3.out.trans (b4.mono HB3.out.size))
  have HM4 := Lib.hid (HM3.out.next b4)
  have HN4 := Lib.hid m4
  have HS4 := Lib.hid b4
  have HW4' := Lib.hid HW4
  clear HW4 b4 m4
  go_upto_region 3 with fail
  rw [← HW4'.out]
  cases ok with
  | false =>
    go_wp2_with fail
    refine (HAW.out _ HB4.out).mono ?_
    rintro e w9 ⟨rfl, HF⟩
    go_wp2_with fail
    go_ret
    exact ⟨rfl, HF.out⟩
  | true =>
    cases ok2 with
    | false =>
      go_wp2_with fail
      refine (HAW.out _ HB4.out).mono ?_
      rintro e w9 ⟨rfl, HF⟩
      go_wp2_with fail
      go_ret
      exact ⟨rfl, HF.out⟩
    | true =>
      obtain ⟨hl60, hs1, f, hf, hmo⟩ := HOK.out rfl
      obtain ⟨hk60, hs2, g, hg, hmo2⟩ := HOK2.out rfl
      have hs3 : s2 = s := hs2.trans hs1.symm
      rw [← hs2] at hf hg hmo hmo2
      clear hs1 hs2
      subst hs3
      obtain ⟨La, hLa, hla⟩ := hf.can
      obtain ⟨Lb, hLb, hlb⟩ := hg.can
      have hz : ∃ k : List R, Fits (fun _ => (0 : Int)) 0 k s2 ∧ k.length ≤ 1 := ⟨[⟨0, s2, 0⟩], ⟨rfl, by have := hf.lo; show (0 : Int) < s2; omega, fun _ _ _ => rfl, rfl⟩, by simp⟩
      have hcnt2 : La.length ≤ 121 ∧ Lb.length ≤ 121 := by
        obtain ⟨k1, a1, a2⟩ := hmo.runs hz
        obtain ⟨k2, b1, b2⟩ := hmo2.runs hz
        have e1 := can_short hLa a1
        have e2 := can_short hLb b1
        have := HN.out; have := HN2.out
        omega
      have hcnt : La.length + Lb.length ≤ 4096 := by omega
      have hd1 := diff_dfs hLa hLb hf.ctx hg.ctx
      have hd2 := diff_dfs hLb hLa hg.ctx hf.ctx
      have hsw := diff_swap hLa hLb hf.ctx hg.ctx
      have hnil := Dfs.nil_iff hLa hLb hd1
      have hpos := hf.lo
      obtain ⟨g', ap1, ag1⟩ := apF_dfs hLa hLb hf.ctx hg.ctx hcnt (Int.le_refl 0) (by omega) hd1 (fun p h1 h2 => by omega) (fun _ _ _ => rfl)
      obtain ⟨f', ap2, ag2⟩ := apF_dfs hLb hLa hg.ctx hf.ctx (by omega) (Int.le_refl 0) (by omega) hd2 (fun p h1 h2 => by omega) (fun _ _ _ => rfl)
      have hlen : (diffE La Lb).length ≤ 100000 := Nat.le_trans (diffE_len La Lb) (Nat.le_trans (Nat.mul_le_mul hcnt2.1 hcnt2.2) (by decide))
      obtain ⟨D, hD⟩ : ∃ D, D = diffE La Lb := ⟨_, rfl⟩
      obtain ⟨D', hD'⟩ : ∃ D', D' = diffE Lb La := ⟨_, rfl⟩
      obtain ⟨N, hN⟩ : ∃ N, N = D.length := ⟨_, rfl⟩
      have hN' : N = D'.length := by rw [hD', hsw, List.length_map, ← hD, hN]
      obtain ⟨E, hE⟩ : ∃ E, E = ((N : Int) == 0) := ⟨_, rfl⟩
      have hE2 : E = true ↔ La = Lb := by
        rw [hE, beq_iff_eq, ← hnil, ← hD, hN]
        constructor
        · intro h; exact List.eq_nil_of_length_eq_zero (by omega)
        · intro h; rw [h]; rfl
      have hIP : ∀ W', Below w4.heap.size w4 W' → IsM f s2 W' p := fun W' h => ((((hf.below HS2.out).below HS3.out).below HS4.out).below h)
      have hIQ : ∀ W', Below w4.heap.size w4 W' → IsM g s2 W' q := fun W' h => ((hg.below HS4.out).below h)
      have HALL : Hid (∀ W', Below w4.heap.size w4 W' → W'.cell? ⟨w1.heap.size, 0, none⟩ = some (.pointer p) ∧ W'.cell? ⟨w1.heap.size, 1, none⟩ = some (.int .i64 s2) ∧ W'.cell? ⟨w3.heap.size, 0, none⟩ = some (.pointer q) ∧ W'.cell? ⟨w3.heap.size, 1, none⟩ = some (.int .i64 s2)) := fun W' h => ⟨(HM4.out.next h).c0, (HM4.out.next h).c1, (HN4.out.next h).c0, (HN4.out.next h).c1⟩
      have HD : Hid (∀ W', Below w4.heap.size w4 W' → Calls Try.prog 19 #[.agg #[.pointer p, .int .i64 s2], .agg #[.pointer q, .int .i64 s2]] W' fun e w' => ∃ a c, e = .returned (.tuple #[.slice a N c, .int .i64 0]) ∧ Hid (IsCs w' (.slice a N c) D) ∧ Below W'.heap.size W' w') := fun W' h => by
        rw [hD] at hN ⊢
        exact Diff_same (hIP W' h) (hIQ W' h) hLa hLb hN
      have HD2 : Hid (∀ W', Below w4.heap.size w4 W' → Calls Try.prog 19 #[.agg #[.pointer q, .int .i64 s2], .agg #[.pointer p, .int .i64 s2]] W' fun e w' => ∃ a c, e = .returned (.tuple #[.slice a N c, .int .i64 0]) ∧ Hid (IsCs w' (.slice a N c) D') ∧ Below W'.heap.size W' w') := fun W' h => by
        rw [hD'] at hN' ⊢
        exact Diff_same (hIQ W' h) (hIP W' h) hLb hLa hN'
      have HAP : Hid (∀ W' a c, Below w4.heap.size w4 W' → IsCs W' (.slice a N c) D → Calls Try.prog 20 #[.agg #[.pointer p, .int .i64 s2], .slice a N c] W' fun e w' => ∃ q', e = .returned (.tuple #[.agg #[.pointer q', .int .i64 s2], .int .i64 0]) ∧ Hid (IsM g' s2 w' q') ∧ Below W'.heap.size W' w') := fun W' a c h hc => by
        rw [hN] at hc
        exact Apply_same (hIP W' h) hc (by rw [hD]; exact hlen) (by rw [hD]; exact ap1) hN
      have HAP2 : Hid (∀ W' a c, Below w4.heap.size w4 W' → IsCs W' (.slice a N c) D' → Calls Try.prog 20 #[.agg #[.pointer q, .int .i64 s2], .slice a N c] W' fun e w' => ∃ q', e = .returned (.tuple #[.agg #[.pointer q', .int .i64 s2], .int .i64 0]) ∧ Hid (IsM f' s2 w' q') ∧ Below W'.heap.size W' w') := fun W' a c h hc => by
        rw [hN'] at hc
        exact Apply_same (hIQ W' h) hc (by rw [← hN', hN, hD]; exact hlen) (by rw [hD']; exact ap2) hN'
      have HEQ1 : Hid (∀ W' q', Below w4.heap.size w4 W' → IsM g' s2 W' q' → Calls Try.prog 21 #[.agg #[.pointer q', .int .i64 s2], .agg #[.pointer q, .int .i64 s2]] W' fun e w' => e = .returned (.bool true) ∧ Below W'.heap.size W' w') := fun W' q' h hm => Equal_true hm (hIQ W' h) ag1
      have HEQ2 : Hid (∀ W' q', Below w4.heap.size w4 W' → IsM f' s2 W' q' → Calls Try.prog 21 #[.agg #[.pointer q', .int .i64 s2], .agg #[.pointer p, .int .i64 s2]] W' fun e w' => e = .returned (.bool true) ∧ Below W'.heap.size W' w') := fun W' q' h hm => Equal_true hm (hIP W' h) ag2
      have HEQ3 : Hid (∀ W', Below w4.heap.size w4 W' → Calls Try.prog 21 #[.agg #[.pointer p, .int .i64 s2], .agg #[.pointer q, .int .i64 s2]] W' fun e w' => e = .returned (.bool E) ∧ Below W'.heap.size W' w') := fun W' h => Equal_same (hIP W' h) (hIQ W' h) hLa hLb hE2
      have HSW : Hid (∀ j (h : j < D.length) (h' : j < D'.length), D'[j] = ⟨D[j].lo, D[j].hi, D[j].tt, D[j].fr⟩) := fun j h h' => by
        have : D' = D.map Ch.swap := by rw [hD', hsw, hD]
        simp only [this, List.getElem_map]
        rfl
      have hN100 : N ≤ 100000 := by rw [hN, hD]; exact hlen
      have HND := Lib.hid hN; have HND' := Lib.hid hN'
      have hE3 : ((N : Int) == 0) = E := hE.symm
      have HAW4 : Hid (∀ W', Below w4.heap.size w4 W' → Calls Try.prog 11 #[] W' fun e w' => e = .returned (.bool true) ∧ Hid (Below W.heap.size W w')) := fun W' h => HAW.out W' (HB4.out.trans (h.mono HB4.out.size))
      clear hl60 hk60 hf hg hmo hmo2 hLa hla hLb hlb hz hcnt hd1 hd2 hsw hnil hpos ap1 ag1 ap2 ag2 hlen hcnt2 hD hD' hN hN' hE hE2 hIP hIQ HOK HOK2 HM2 HM3 HM4 HN4 HB1 HB2 HB3 HS2 HS3 HS4 HW2' HW4' HBU HBU2
      have HR4 : Hid (Below w4.heap.size w4 w4) := Below.refl _ _
      obtain ⟨k0, k1, k2, k3⟩ := HALL.out w4 HR4.out
      go_wp2_with fail
      refine (HD.out w4 HR4.out).mono ?_
      rintro e w5 ⟨a5, c5, rfl, HC5, hb⟩
      have HR5 := Lib.hid hb
      clear hb k0 k1 k2 k3
      obtain ⟨k0, k1, k2, k3⟩ := HALL.out w5 HR5.out
      go_wp2_with fail
      refine (HAP.out w5 a5 c5 HR5.out HC5.out).mono ?_
      rintro e w6 ⟨qm, rfl, HI6, hb⟩
      have HR6 := Lib.hid (HR5.out.trans (hb.mono HR5.out.size))
      have HC6 := Lib.hid (HC5.out.below hb)
      clear hb k0 k1 k2 k3 HC5 HR5
      obtain ⟨w7, HW7⟩ : ∃ w7, w7 = w6.alloc (.cells #[.pointer qm, .int .i64 s2] 27) := ⟨_, rfl⟩
      have b7 : Below w6.heap.size w6 w7 := by rw [HW7]; exact (Below.refl _ _).alloc (Nat.le_refl _) _
      have m7 : Mb w6.heap.size qm s2 w7 := by rw [HW7]; exact Mb.new _ _ _ _
      have HR7 := Lib.hid (HR6.out.trans (b7.mono HR6.out.size))
      have HC7 := Lib.hid (HC6.out.below b7)
      have HI7 := Lib.hid (HI6.out.below b7)
      have HM7 := Lib.hid m7
      have HW7' := Lib.hid HW7
      clear HW7 b7 m7 HC6 HI6 HR6
      go_upto_region 7 with fail
      rw [← HW7'.out]
      obtain ⟨k0, k1, k2, k3⟩ := HALL.out w7 HR7.out
      go_wp2_with fail
      refine (HD2.out w7 HR7.out).mono ?_
      rintro e w8 ⟨a8, c8, rfl, HE8, hb⟩
      have HR8 := Lib.hid (HR7.out.trans (hb.mono HR7.out.size))
      have HC8 := Lib.hid (HC7.out.below hb)
      have HI8 := Lib.hid (HI7.out.below hb)
      have HM8 := Lib.hid (HM7.out.next hb)
      clear hb k0 k1 k2 k3 HC7 HI7 HM7 HR7 HW7'
      obtain ⟨k0, k1, k2, k3⟩ := HALL.out w8 HR8.out
      go_wp2_with fail
      refine (HAP2.out w8 a8 c8 HR8.out HE8.out).mono ?_
      rintro e w9 ⟨qn, rfl, HJ9, hb⟩
      have HR9 := Lib.hid (HR8.out.trans (hb.mono HR8.out.size))
      have HC9 := Lib.hid (HC8.out.below hb)
      have HE9 := Lib.hid (HE8.out.below hb)
      have HI9 := Lib.hid (HI8.out.below hb)
      have HM9 := Lib.hid (HM8.out.next hb)
      clear hb k0 k1 k2 k3 HC8 HI8 HM8 HR8 HE8
      obtain ⟨w10, HW10⟩ : ∃ w10, w10 = w9.alloc (.cells #[.pointer qn, .int .i64 s2] 27) := ⟨_, rfl⟩
      have b10 : Below w9.heap.size w9 w10 := by rw [HW10]; exact (Below.refl _ _).alloc (Nat.le_refl _) _
      have m10 : Mb w9.heap.size qn s2 w10 := by rw [HW10]; exact Mb.new _ _ _ _
      have HR10 := Lib.hid (HR9.out.trans (b10.mono HR9.out.size))
      have HC10 := Lib.hid (HC9.out.below b10)
      have HE10 := Lib.hid (HE9.out.below b10)
      have HI10 := Lib.hid (HI9.out.below b10)
      have HJ10 := Lib.hid (HJ9.out.below b10)
      have HM10 := Lib.hid (HM9.out.next b10)
      have HN10 := Lib.hid m10
      have HW10' := Lib.hid HW10
      clear HW10 b10 m10 HC9 HE9 HI9 HJ9 HM9 HR9
      go_upto_region 9 with fail
      rw [← HW10'.out]
      obtain ⟨k0, k1, k2, k3⟩ := HALL.out w10 HR10.out
      have x0 := HM10.out.c0; have x1 := HM10.out.c1; have y0 := HN10.out.c0; have y1 := HN10.out.c1
      go_wp2_with fail
      refine (HEQ1.out w10 qm HR10.out HI10.out).mono ?_
      rintro e w11 ⟨rfl, hb⟩
      have HR11 := Lib.hid (HR10.out.trans (hb.mono HR10.out.size))
      have HC11 := Lib.hid (HC10.out.below hb)
      have HE11 := Lib.hid (HE10.out.below hb)
      have HJ11 := Lib.hid (HJ10.out.below hb)
      have HN11 := Lib.hid (HN10.out.next hb)
      clear hb k0 k1 k2 k3 x0 x1 y0 y1 HC10 HE10 HI10 HJ10 HM10 HN10 HR10 HW10'
      obtain ⟨k0, k1, k2, k3⟩ := HALL.out w11 HR11.out
      have y0 := HN11.out.c0; have y1 := HN11.out.c1
      go_wp2_with fail
      refine (HEQ2.out w11 qn HR11.out HJ11.out).mono ?_
      rintro e w12 ⟨rfl, hb⟩
      have HR12 := Lib.hid (HR11.out.trans (hb.mono HR11.out.size))
      have HC12 := Lib.hid (HC11.out.below hb)
      have HE12 := Lib.hid (HE11.out.below hb)
      clear hb k0 k1 k2 k3 y0 y1 HC11 HE11 HJ11 HN11 HR11
      go_wp2_with fail
      go_loopw [19] (fun i wr => ∃ j : Nat, j ≤ N ∧ i = .int .i64 j ∧ Hid (Below w12.heap.size w12 wr)) (fun i _ => N - (intOf i).toNat)
      case atStart => exact ⟨0, by omega, rfl, Below.refl _ _⟩
      case round =>
        obtain ⟨j, hj, rfl, HB⟩ := hrel
        have HRr := Lib.hid (HR12.out.trans (HB.out.mono HR12.out.size))
        by_cases hlt : j < N
        · have hj2 : (j : Int) < N := by omega
          have h1 : j < D.length := by rw [← HND.out]; exact hlt
          have h2 : j < D'.length := by rw [← HND'.out]; exact hlt
          obtain ⟨B1, o1, e1, d0, d1, d2, d3⟩ := IsCs.at' (HC12.out.below HB.out) h1
          obtain ⟨B2, o2, e2, f0, f1, f2, f3⟩ := IsCs.at' (HE12.out.below HB.out) h2
          rw [HSW.out j h1 h2] at f0 f1 f2 f3
          rcases hx : D[j] with ⟨xa, xb, xc, xd⟩
          rw [hx] at d0 d1 d2 d3 f0 f1 f2 f3
          simp only at d0 d1 d2 d3 f0 f1 f2 f3
          clear hx
          subst e1; subst e2
          go_wp2_with fail
          go_quiet (fail)
          rename_i nq
          have HBn : Hid (Below w12.heap.size w12 (World.drewN wr nq)) := below_drewN HB.out nq
          clear d0 d1 d2 d3 f0 f1 f2 f3
          generalize hw : World.drewN _ nq = w13 at HBn ⊢
          clear hw
          go_wp2_with fail
          go_roundw
          case rel => exact ⟨j + 1, by omega, by go_num, HBn⟩
          case measure => simp [intOf]; omega
        · have hlt' : ¬ ((j : Int) < N) := by omega
          obtain ⟨k0, k1, k2, k3⟩ := HALL.out wr HRr.out
          go_wp2_with fail
          refine (HEQ3.out wr HRr.out).mono ?_
          rintro e w14 ⟨rfl, hb⟩
          have HR14 := Lib.hid (HRr.out.trans (hb.mono HRr.out.size))
          clear hb k0 k1 k2 k3
          go_wp2_with fail
          refine (HAW4.out w14 HR14.out).mono ?_
          rintro e w15 ⟨rfl, HF⟩
          go_wp2_with fail
          go_ret
          exact ⟨rfl, HF.out⟩
end Go.Proofs.Ytahgfggcpmnnaab
namespace Go.Proofs.Ytahgfggcpmnnaab
open Go Go.RowKit Gs

theorem rl_len {f g : Int → Int} {lb : List R} {size : Int} (hb : Fits g 0 lb size) : ∀ {la : List R} {a : Int}, Fits f a la size → (rl la lb).length ≤ (clip a size lb).length + la.length
  | [], _, _ => Nat.zero_le _
  | x :: la, a, h => by
    have e1 := h.1; have e2 := h.2.1; have e4 := h.2.2.2
    have hle := e4.le
    have ih := rl_len hb e4
    have hc := clip_cut (lo := x.lo) (m := x.hi) (hi := size) (by omega) hle hb
    show ((clip x.lo x.hi lb).map (fun r => (⟨r.lo, r.hi, 16 * x.tag + r.tag⟩ : R)) ++ rl la lb).length ≤ _
    rw [List.length_append, List.length_map, List.length_cons, ← e1]
    omega
theorem dec_len (K : List R) : (dec K).length ≤ K.length := by
  unfold dec
  rw [List.length_map]
  exact List.length_filter_le _ _
theorem diff_len {f g : Int → Int} {la lb : List R} {size : Int} (ha : Gs.Can f 0 la size) (hb : Gs.Can g 0 lb size) (cf : Ctx f 0 size) (cg : Ctx g 0 size) : (diffE la lb).length ≤ lb.length + la.length := by
  rw [diff_dec (fits_tags hb.1 cg.2.2) (fits_tags ha.1 cf.2.2)]
  have h1 := dec_len (rl la lb)
  have h2 := rl_len hb.1 ha.1
  have h3 := clip_len 0 size lb
  omega
theorem cs_nil (W : World) : IsCs W (.slice none 0 0) [] := ⟨none, 0, rfl, fun h => absurd h (by simp)⟩
theorem rs_nil (B : Nat) (W : World) : IsRs B W (.slice none 0 0) [] := ⟨none, 0, rfl, fun h => absurd h (by simp)⟩
end Go.Proofs.Ytahgfggcpmnnaab
namespace Go.Proofs.Ytahgfggcpmnnaab
open Go Go.RowKit Gs

/-- a piece as a run, its three tags as one number -/
def M3.enc (t : M3) : R := ⟨t.lo, t.hi, 16 * (16 * t.o + t.x) + t.y⟩
def M3.swap (t : M3) : M3 := ⟨t.lo, t.hi, t.o, t.y, t.x⟩
theorem rl_append (la lb lc : List R) : rl (la ++ lb) lc = rl la lc ++ rl lb lc := by unfold rl; rw [List.flatMap_append]
theorem m3x_enc (o : R) (ly : List R) : ∀ (l : List R), (m3x o l ly).map M3.enc = rl (l.map fun r => ⟨r.lo, r.hi, 16 * o.tag + r.tag⟩) ly
  | [] => rfl
  | x :: l => by
    show (m3y o x (clip x.lo x.hi ly) ++ m3x o l ly).map M3.enc = (clip x.lo x.hi ly).map (fun r => (⟨r.lo, r.hi, 16 * (16 * o.tag + x.tag) + r.tag⟩ : R)) ++ rl (l.map fun r => ⟨r.lo, r.hi, 16 * o.tag + r.tag⟩) ly
    rw [List.map_append, m3x_enc o ly l]
    unfold m3y
    rw [List.map_map]
    rfl
theorem m3_enc (lx ly : List R) : ∀ (la : List R), (m3 la lx ly).map M3.enc = rl (rl la lx) ly
  | [] => rfl
  | o :: la => by
    show (m3x o (clip o.lo o.hi lx) ly ++ m3 la lx ly).map M3.enc = rl ((clip o.lo o.hi lx).map (fun r => (⟨r.lo, r.hi, 16 * o.tag + r.tag⟩ : R)) ++ rl la lx) ly
    rw [List.map_append, m3_enc lx ly la, rl_append, m3x_enc]
theorem rl_can2 {f g : Int → Int} {lb : List R} {size : Int} (hlb : Gs.Can g 0 lb size) : ∀ {la : List R} {a : Int}, Gs.Can f a la size → 0 ≤ a → (∀ p, 0 ≤ p → p < size → 0 ≤ g p ∧ g p < 16) → Gs.Can (pr f g) a (rl la lb) size
  | [], a, h, _, _ => by
    have e : a = size := h.1
    subst e
    exact Gs.Can.nil _ _
  | x :: la, a, h, ha, hb => by
    have h0 : Gs.Can f a ([] ++ x :: la) size := h
    obtain ⟨m1, m2, m3, m4, _, m6⟩ := h0.mid
    have ea : a = x.lo := m1.1
    have hle := m2.le
    have ih := rl_can2 hlb m2 (by omega) hb
    have hc := clip_can (lo := x.lo) (hi := x.hi) hlb (by omega) (by omega) (by omega)
    have hm := Can.map (h := pr f g) (fun t => 16 * x.tag + t) hc (fun p p1 p2 => by
      show 16 * f p + g p = 16 * x.tag + g p
      rw [m4 p p1 p2]) (fun p q _ _ _ _ e => by
      have e : 16 * x.tag + g p = 16 * x.tag + g q := e
      omega)
    rw [ea]
    show Gs.Can (pr f g) x.lo ((clip x.lo x.hi lb).map (fun r => ⟨r.lo, r.hi, 16 * x.tag + r.tag⟩) ++ rl la lb) size
    refine hm.join ih fun _ h' => ?_
    have := m6 h'
    have b1 := hb (x.hi - 1) (by omega) (by omega)
    have b2 := hb x.hi (by omega) h'
    unfold pr
    omega
/-- three tags in bounds -/
def B3 (o x y : Int → Int) (size : Int) : Prop := ∀ p, 0 ≤ p → p < size → (0 ≤ o p ∧ o p < 16) ∧ (0 ≤ x p ∧ x p < 16) ∧ (0 ≤ y p ∧ y p < 16)
theorem B3.of {o x y : Int → Int} {size : Int} (co : Ctx o 0 size) (cx : Ctx x 0 size) (cy : Ctx y 0 size) : B3 o x y size := fun p p1 p2 => ⟨co.2.2 p p1 p2, cx.2.2 p p1 p2, cy.2.2 p p1 p2⟩
theorem m3_can {o x y : Int → Int} {la lx ly : List R} {size : Int} (ho : Gs.Can o 0 la size) (hx : Gs.Can x 0 lx size) (hy : Gs.Can y 0 ly size) (hb : B3 o x y size) : Gs.Can (pr (pr o x) y) 0 ((m3 la lx ly).map M3.enc) size := by
  rw [m3_enc]
  exact rl_can2 hy (rl_can2 hx ho (Int.le_refl 0) fun p p1 p2 => (hb p p1 p2).2.1) (Int.le_refl 0) fun p p1 p2 => (hb p p1 p2).2.2
theorem m3_mem {la lx ly : List R} {t : M3} (h : t ∈ m3 la lx ly) : ∃ r ∈ la, ∃ s ∈ lx, ∃ u ∈ ly, t.o = r.tag ∧ t.x = s.tag ∧ t.y = u.tag := by
  obtain ⟨r, hr, h⟩ := List.mem_flatMap.1 h
  obtain ⟨s, hs, h⟩ := List.mem_flatMap.1 h
  obtain ⟨u, hu, rfl⟩ := List.mem_map.1 h
  have hcl : ∀ {lo hi : Int} {l : List R} {s : R}, s ∈ clip lo hi l → ∃ s' ∈ l, s.tag = s'.tag := fun {lo hi l s} h => by
    obtain ⟨x, hx, h⟩ := List.mem_flatMap.1 h
    unfold clip1 at h
    split at h
    · exact ⟨x, hx, by rw [List.mem_singleton.1 h]⟩
    · cases h
  obtain ⟨s', hs', e1⟩ := hcl hs
  obtain ⟨u', hu', e2⟩ := hcl hu
  exact ⟨r, hr, s', hs', u', hu', rfl, e1, e2⟩
theorem m3_tags {o x y : Int → Int} {la lx ly : List R} {size : Int} (ho : Fits o 0 la size) (hx : Fits x 0 lx size) (hy : Fits y 0 ly size) (hb : B3 o x y size) : ∀ t ∈ m3 la lx ly, (0 ≤ t.o ∧ t.o < 16) ∧ (0 ≤ t.x ∧ t.x < 16) ∧ (0 ≤ t.y ∧ t.y < 16) := by
  intro t ht
  obtain ⟨r, hr, s, hs, u, hu, e1, e2, e3⟩ := m3_mem ht
  rw [e1, e2, e3]
  exact ⟨fits_tags ho (fun p p1 p2 => (hb p p1 p2).1) r hr, fits_tags hx (fun p p1 p2 => (hb p p1 p2).2.1) s hs, fits_tags hy (fun p p1 p2 => (hb p p1 p2).2.2) u hu⟩
/-- pieces, one behind the other, of three functions -/
def F3 (o x y : Int → Int) : Int → List M3 → Int → Prop
  | a, [], b => a = b
  | a, t :: T, b => a = t.lo ∧ t.lo < t.hi ∧ (∀ p, t.lo ≤ p → p < t.hi → o p = t.o ∧ x p = t.x ∧ y p = t.y) ∧ F3 o x y t.hi T b
theorem F3.le {o x y : Int → Int} : ∀ {T : List M3} {a b : Int}, F3 o x y a T b → a ≤ b
  | [], a, b, h => by have h : a = b := h; omega
  | t :: T, a, b, h => by have := h.2.2.2.le; have := h.1; have := h.2.1; omega
theorem F3.append {o x y : Int → Int} : ∀ {T U : List M3} {a b : Int}, F3 o x y a (T ++ U) b ↔ ∃ m, F3 o x y a T m ∧ F3 o x y m U b
  | [], U, a, b => ⟨fun h => ⟨a, rfl, h⟩, fun ⟨m, h1, h2⟩ => by have h1 : a = m := h1; subst h1; exact h2⟩
  | t :: T, U, a, b => by
    constructor
    · rintro ⟨h1, h2, h3, h4⟩
      obtain ⟨m, k1, k2⟩ := F3.append.1 h4
      exact ⟨m, ⟨h1, h2, h3, k1⟩, k2⟩
    · rintro ⟨m, ⟨h1, h2, h3, k1⟩, k2⟩
      exact ⟨h1, h2, h3, F3.append.2 ⟨m, k1, k2⟩⟩
theorem F3.of_fits {o x y : Int → Int} {size : Int} (hb : B3 o x y size) : ∀ {T : List M3} {a : Int}, 0 ≤ a → Fits (pr (pr o x) y) a (T.map M3.enc) size → (∀ t ∈ T, (0 ≤ t.o ∧ t.o < 16) ∧ (0 ≤ t.x ∧ t.x < 16) ∧ (0 ≤ t.y ∧ t.y < 16)) → F3 o x y a T size
  | [], a, _, h, _ => h
  | t :: T, a, ha, h, ht => by
    have h1 : a = t.lo := Eq.symm h.1
    have h2 : t.lo < t.hi := h.2.1
    have h3 : ∀ p, t.lo ≤ p → p < t.hi → 16 * (16 * o p + x p) + y p = 16 * (16 * t.o + t.x) + t.y := h.2.2.1
    have h4 : Fits (pr (pr o x) y) t.hi (T.map M3.enc) size := h.2.2.2
    have hle := h4.le
    refine ⟨h1, h2, fun p p1 p2 => ?_, F3.of_fits hb (by omega) h4 fun t' h' => ht t' (List.mem_cons_of_mem _ h')⟩
    have e := h3 p p1 p2
    have b1 := hb p (by omega) (by omega)
    have b2 := ht t (List.mem_cons_self ..)
    omega
theorem m3_f3 {o x y : Int → Int} {la lx ly : List R} {size : Int} (ho : Gs.Can o 0 la size) (hx : Gs.Can x 0 lx size) (hy : Gs.Can y 0 ly size) (hb : B3 o x y size) : F3 o x y 0 (m3 la lx ly) size :=
  F3.of_fits hb (Int.le_refl 0) (m3_can ho hx hy hb).1 (m3_tags ho.1 hx.1 hy.1 hb)
/-- the merged function -/
def mg (o x y : Int → Int) (p : Int) : Int := mt (o p) (x p) (y p)
theorem addR_join (l : List R) {x : R} (h : x.lo < x.hi) : addR l x = joinL l x := by
  unfold addR joinL
  rw [if_neg (by omega)]
  rcases hy : l.getLast? with _ | y
  · rfl
  · by_cases e : y.tag = x.tag
    · simp only [e, if_true]
    · simp only [e, if_false]
theorem mR_step {o x y : Int → Int} {a : Int} {l : List R} {t : M3} (h : Gs.Can (mg o x y) 0 l a) (h1 : a = t.lo) (h2 : t.lo < t.hi) (h3 : ∀ p, t.lo ≤ p → p < t.hi → o p = t.o ∧ x p = t.x ∧ y p = t.y) : Gs.Can (mg o x y) 0 (addR l ⟨t.lo, t.hi, mt t.o t.x t.y⟩) t.hi := by
  rw [addR_join l h2]
  exact join_can (x := ⟨t.lo, t.hi, mt t.o t.x t.y⟩) h h1.symm (by show a ≤ t.hi; omega) fun p p1 p2 => by
    obtain ⟨e1, e2, e3⟩ := h3 p p1 p2
    show mt (o p) (x p) (y p) = mt t.o t.x t.y
    rw [e1, e2, e3]
theorem mR_fold {o x y : Int → Int} : ∀ {T : List M3} {a b : Int} {l : List R}, F3 o x y a T b → Gs.Can (mg o x y) 0 l a → Gs.Can (mg o x y) 0 (T.foldl stepR l) b
  | [], a, b, l, h, hl => by have h : a = b := h; subst h; exact hl
  | t :: T, a, b, l, h, hl => mR_fold (T := T) h.2.2.2 (mR_step hl h.1 h.2.1 h.2.2.1)
/-- **the merged runs are the runs of the merged function** -/
theorem mR_can {o x y : Int → Int} {T : List M3} {b : Int} (h : F3 o x y 0 T b) : Gs.Can (mg o x y) 0 (mR T) b := mR_fold h (Gs.Can.nil _ _)
theorem mC_nil : ∀ {T : List M3}, (∀ t ∈ T, mtb t.o t.x t.y = true) → ∀ K : List Ch, T.foldl stepC K = K
  | [], _, _ => rfl
  | t :: T, h, K => by
    rw [List.foldl_cons]
    unfold stepC
    rw [if_pos (h t (List.mem_cons_self ..))]
    exact mC_nil (fun t' h' => h t' (List.mem_cons_of_mem _ h')) K
theorem F3.mem {o x y : Int → Int} : ∀ {T : List M3} {a b : Int}, F3 o x y a T b → ∀ t ∈ T, a ≤ t.lo ∧ t.lo < t.hi ∧ t.hi ≤ b ∧ o t.lo = t.o ∧ x t.lo = t.x ∧ y t.lo = t.y
  | [], _, _, _, _, h => by cases h
  | s :: T, a, b, h, t, ht => by
    have hle := h.2.2.2.le
    have h1 := h.1; have h2 := h.2.1
    rcases List.mem_cons.1 ht with e | e
    · subst e
      exact ⟨by omega, h2, hle, h.2.2.1 _ (Int.le_refl _) h2⟩
    · obtain ⟨k1, k2, k3, k4⟩ := h.2.2.2.mem t e
      exact ⟨by omega, k2, k3, k4⟩
/-- **no conflict, where at each piece the updates agree** -/
theorem mC_none {o x y : Int → Int} {T : List M3} {b : Int} (h : F3 o x y 0 T b) (hd : ∀ p, 0 ≤ p → p < b → x p = y p ∨ y p = o p ∨ x p = o p) : mC T = [] :=
  mC_nil (fun t ht => by
    obtain ⟨k1, k2, k3, e1, e2, e3⟩ := h.mem t ht
    have := hd t.lo k1 (by omega)
    rw [e1, e2, e3] at this
    exact decide_eq_true this) []
theorem enc_inj {T U : List M3} (hT : ∀ t ∈ T, (0 ≤ t.o ∧ t.o < 16) ∧ (0 ≤ t.x ∧ t.x < 16) ∧ (0 ≤ t.y ∧ t.y < 16)) (hU : ∀ t ∈ U, (0 ≤ t.o ∧ t.o < 16) ∧ (0 ≤ t.x ∧ t.x < 16) ∧ (0 ≤ t.y ∧ t.y < 16)) (h : T.map M3.enc = U.map M3.enc) : T = U := by
  induction T generalizing U with
  | nil => cases U with
    | nil => rfl
    | cons u U => cases h
  | cons t T ih =>
    cases U with
    | nil => cases h
    | cons u U =>
      rw [List.map_cons, List.map_cons] at h
      injection h with h1 h2
      have b1 := hT t (List.mem_cons_self ..)
      have b2 := hU u (List.mem_cons_self ..)
      have e : t = u := by
        obtain ⟨a1, a2, a3, a4, a5⟩ := t
        obtain ⟨c1, c2, c3, c4, c5⟩ := u
        unfold M3.enc at h1
        injection h1 with h3 h4 h5
        simp only at h3 h4 h5 b1 b2
        have e1 : a5 = c5 := by omega
        have e2 : a4 = c4 := by omega
        have e3 : a3 = c3 := by omega
        rw [h3, h4, e1, e2, e3]
      rw [e, ih (fun t' h' => hT t' (List.mem_cons_of_mem _ h')) (fun t' h' => hU t' (List.mem_cons_of_mem _ h')) h2]
/-- **the pieces, the two updates exchanged** -/
theorem m3_swap {o x y : Int → Int} {la lx ly : List R} {size : Int} (ho : Gs.Can o 0 la size) (hx : Gs.Can x 0 lx size) (hy : Gs.Can y 0 ly size) (hb : B3 o x y size) : m3 la ly lx = (m3 la lx ly).map M3.swap := by
  have hb' : B3 o y x size := fun p p1 p2 => ⟨(hb p p1 p2).1, (hb p p1 p2).2.2, (hb p p1 p2).2.1⟩
  have t1 := m3_tags ho.1 hx.1 hy.1 hb
  refine enc_inj (m3_tags ho.1 hy.1 hx.1 hb') (fun t ht => ?_) ?_
  · obtain ⟨s, hs, rfl⟩ := List.mem_map.1 ht
    have := t1 s hs
    exact ⟨this.1, this.2.2, this.2.1⟩
  · have h1 := m3_can ho hy hx hb'
    have h2 := m3_can ho hx hy hb
    have h3 := Can.map (h := pr (pr o y) x) (fun t => 16 * (16 * (t / 256) + t % 16) + t / 16 % 16) h2 (fun p p1 p2 => by
      have := hb p p1 p2
      show 16 * (16 * o p + y p) + x p = 16 * (16 * ((16 * (16 * o p + x p) + y p) / 256) + (16 * (16 * o p + x p) + y p) % 16) + (16 * (16 * o p + x p) + y p) / 16 % 16
      omega) (fun p q p1 p2 q1 q2 e => by
      have e : 16 * (16 * ((16 * (16 * o p + x p) + y p) / 256) + (16 * (16 * o p + x p) + y p) % 16) + (16 * (16 * o p + x p) + y p) / 16 % 16 = 16 * (16 * ((16 * (16 * o q + x q) + y q) / 256) + (16 * (16 * o q + x q) + y q) % 16) + (16 * (16 * o q + x q) + y q) / 16 % 16 := e
      have b1 := hb p p1 p2
      have b2 := hb q q1 q2
      show 16 * (16 * o p + x p) + y p = 16 * (16 * o q + x q) + y q
      omega)
    rw [h1.same h3, List.map_map, List.map_map]
    refine List.map_congr_left fun t ht => ?_
    have := t1 t ht
    show (⟨t.lo, t.hi, 16 * (16 * ((16 * (16 * t.o + t.x) + t.y) / 256) + (16 * (16 * t.o + t.x) + t.y) % 16) + (16 * (16 * t.o + t.x) + t.y) / 16 % 16⟩ : R) = ⟨t.lo, t.hi, 16 * (16 * t.o + t.y) + t.x⟩
    congr 1
    omega
theorem mt_swap (o x y : Int) : mt o y x = mt o x y := by
  unfold mt
  by_cases h1 : x = y
  · subst h1; rfl
  · by_cases h2 : y = o
    · subst h2
      rw [if_neg (fun h => h.elim (fun e => h1 e.symm) h1), if_pos rfl, if_pos (.inr rfl)]
    · by_cases h3 : x = o
      · subst h3
        rw [if_pos (.inr rfl), if_neg (fun h => h.elim h1 h2), if_pos rfl]
      · rw [if_neg (fun h => h.elim (fun e => h1 e.symm) h3), if_neg h2, if_neg (fun h => h.elim h1 h2), if_neg h3]
theorem mtb_swap (o x y : Int) : mtb o y x = mtb o x y := by
  unfold mtb
  refine decide_eq_decide.2 ⟨?_, ?_⟩
  · rintro (h | h | h)
    · exact .inl h.symm
    · exact .inr (.inr h)
    · exact .inr (.inl h)
  · rintro (h | h | h)
    · exact .inl h.symm
    · exact .inr (.inr h)
    · exact .inr (.inl h)
theorem mR_swap (T : List M3) : mR (T.map M3.swap) = mR T := by
  unfold mR
  rw [List.foldl_map]
  congr 1
  funext l t
  show addR l ⟨t.lo, t.hi, mt t.o t.y t.x⟩ = addR l ⟨t.lo, t.hi, mt t.o t.x t.y⟩
  rw [mt_swap]
theorem joinC_swap (K : List Ch) (c : Ch) : joinC (K.map Ch.swap) c.swap = (joinC K c).map Ch.swap := by
  rcases List.eq_nil_or_concat K with rfl | ⟨K', d, rfl⟩
  · rfl
  · rw [List.concat_eq_append]
    unfold joinC
    rw [List.map_append, List.map_cons, List.map_nil, List.getLast?_concat, List.getLast?_concat]
    simp only
    by_cases e : d.hi = c.lo ∧ d.fr = c.fr ∧ d.tt = c.tt
    · rw [if_pos e, if_pos ⟨e.1, e.2.2, e.2.1⟩, List.dropLast_concat, List.dropLast_concat, List.map_append]
      rfl
    · rw [if_neg e, if_neg (fun h => e ⟨h.1, h.2.2, h.2.1⟩), List.map_append, List.map_append]
      rfl
theorem mC_swap (T : List M3) : mC (T.map M3.swap) = (mC T).map Ch.swap := by
  unfold mC
  suffices ∀ K : List Ch, (T.map M3.swap).foldl stepC (K.map Ch.swap) = (T.foldl stepC K).map Ch.swap from this []
  induction T with
  | nil => intro K; rfl
  | cons t T ih =>
    intro K
    rw [List.map_cons, List.foldl_cons, List.foldl_cons, ← ih]
    congr 1
    show (if mtb t.o t.y t.x = true then K.map Ch.swap else joinC (K.map Ch.swap) (Ch.swap ⟨t.lo, t.hi, t.x, t.y⟩)) = (if mtb t.o t.x t.y = true then K else joinC K ⟨t.lo, t.hi, t.x, t.y⟩).map Ch.swap
    rw [mtb_swap, joinC_swap]
    split <;> rfl
theorem m3_len {o x y : Int → Int} {la lx ly : List R} {size : Int} (ho : Gs.Can o 0 la size) (hx : Gs.Can x 0 lx size) (hy : Gs.Can y 0 ly size) (hb : B3 o x y size) : (m3 la lx ly).length ≤ la.length + lx.length + ly.length := by
  have h1 := rl_len hy.1 (rl_can2 hx ho (Int.le_refl 0) fun p p1 p2 => (hb p p1 p2).2.1).1
  have h2 := rl_len hx.1 ho.1
  have h3 := clip_len 0 size ly
  have h4 := clip_len 0 size lx
  have h5 : ((m3 la lx ly).map M3.enc).length = (m3 la lx ly).length := List.length_map ..
  rw [m3_enc] at h5
  omega
end Go.Proofs.Ytahgfggcpmnnaab
namespace Go.Proofs.Ytahgfggcpmnnaab
open Go Go.RowKit Gs

/-- the boxes of Merge's three maps and of its result -/
structure Mhs (W : World) (n : Nat) (p q r : Option Addr) (size : Int) : Prop where
  m0 : Mh W n p size
  m1 : Mh W (n + 1) q size
  m2 : Mh W (n + 1 + 1) r size
  m3 : Mh W (n + 1 + 1 + 1) none 0
theorem Mhs.next {W W' : World} {n : Nat} {p q r : Option Addr} {size : Int} (h : Mhs W n p q r size) (hk : ∀ k, k < W.heap.size → n ≤ k → k ≤ n + 3 → W'.heap[k]? = W.heap[k]?) : Mhs W' n p q r size :=
  ⟨(hk _ h.m0.lt (by omega) (by omega)).trans h.m0, (hk _ h.m1.lt (by omega) (by omega)).trans h.m1, (hk _ h.m2.lt (by omega) (by omega)).trans h.m2, (hk _ h.m3.lt (by omega) (by omega)).trans h.m3⟩
/-- the loops' state: the two lists in their boxes, the maps' boxes, the boxes of the loops' runs -/
structure Mst (n B C : Nat) (p q r : Option Addr) (size : Int) (bs : List (Nat × R)) (T : List M3) (v u : Value) (W : World) : Prop where
  two : Two n B C v u (mR T) (mC T) W
  maps : Mhs W n p q r size
  rbs : ∀ b ∈ bs, Rb W b.1 b.2 ∧ C < b.1
  ap : ∀ b ∈ bs, v.ownBlock ≠ some b.1
  hB : n + 3 < B
  hC : B < C
section
variable {n B C : Nat} {p q r : Option Addr} {size : Int} {bs : List (Nat × R)} {T : List M3} {v u : Value} {W W' : World}
theorem Mst.next (h : Mst n B C p q r size bs T v u W) (hb : Below W.heap.size W W') : Mst n B C p q r size bs T v u W' :=
  ⟨h.two.next hb, h.maps.next fun k hk _ _ => hb.block k hk, fun b hm => ⟨(hb.block _ (h.rbs b hm).1.lt).trans (h.rbs b hm).1, (h.rbs b hm).2⟩, h.ap, h.hB, h.hC⟩
theorem Mst.alloc (h : Mst n B C p q r size bs T v u W) (o : Obj) : Mst n B C p q r size bs T v u (W.alloc o) := h.next ((Below.refl _ _).alloc (Nat.le_refl _) _)
theorem Mst.box (h : Mst n B C p q r size bs T v u W) (y : R) : Mst n B C p q r size ((W.heap.size, y) :: bs) T v u (W.alloc (.cells #[.int .i64 y.lo, .int .i64 y.hi, .int .i64 y.tag] 46)) := by
  have h2 := h.alloc (.cells #[.int .i64 y.lo, .int .i64 y.hi, .int .i64 y.tag] 46)
  refine ⟨h2.two, h2.maps, fun b hm => ?_, fun b hm => ?_, h.hB, h.hC⟩
  · rcases List.mem_cons.1 hm with e | e
    · subst e
      exact ⟨Rb.new W y, h.two.bu.lt⟩
    · exact h2.rbs b e
  · rcases List.mem_cons.1 hm with e | e
    · subst e
      intro e'
      exact Nat.lt_irrefl _ (own_lt h.two.rv _ e')
    · exact h.ap b e
theorem Mst.pop {b : Nat × R} (h : Mst n B C p q r size (b :: bs) T v u W) : Mst n B C p q r size bs T v u W :=
  ⟨h.two, h.maps, fun x hx => h.rbs x (List.mem_cons_of_mem _ hx), fun x hx => h.ap x (List.mem_cons_of_mem _ hx), h.hB, h.hC⟩
theorem Mst.own : Own (fun (_ : Unit) W => ∃ v u, Mst n B C p q r size bs T v u W) := fun s X Y row hs hg hrow => by
  obtain ⟨v, u, h⟩ := hs
  have hc : ∀ k o, X.heap[k]? = some o → o.isCells = true → some k ≠ row := fun k o ho hc e' => by
    obtain ⟨o', ho', hc'⟩ := hrow k e'.symm
    rw [ho] at ho'; cases ho'
    rw [hc] at hc'; cases hc'
  exact ⟨v, u, Two.own () X Y row h.two hg hrow, ⟨h.maps.m0.kept hg (hc _ _ h.maps.m0 rfl), h.maps.m1.kept hg (hc _ _ h.maps.m1 rfl), h.maps.m2.kept hg (hc _ _ h.maps.m2 rfl), h.maps.m3.kept hg (hc _ _ h.maps.m3 rfl)⟩,
    fun b hb => ⟨(h.rbs b hb).1.kept hg (hc _ _ (h.rbs b hb).1 rfl), (h.rbs b hb).2⟩, h.ap, h.hB, h.hC⟩
/-- behind addRun and the store of its list -/
theorem Mst.run {v' : Value} {w' : World} {L' : List R} (h : Mst n B C p q r size bs T v u W) (hj : JP W n v L' v' w') :
    Boxed w' B 42 v ∧ Two n B C v' u L' (mC T) (w'.setCell ⟨B, 0, none⟩ v') ∧ Mhs (w'.setCell ⟨B, 0, none⟩ v') n p q r size ∧ (∀ b ∈ bs, Rb (w'.setCell ⟨B, 0, none⟩ v') b.1 b.2 ∧ v'.ownBlock ≠ some b.1) ∧ Below n W (w'.setCell ⟨B, 0, none⟩ v') ∧ KeepsOthers W (w'.setCell ⟨B, 0, none⟩ v') := by
  have hB := h.hB; have hC := h.hC
  obtain ⟨k1, k2, k3, k4, k5, k6⟩ := h.two.run hj (by omega) (by omega)
  refine ⟨k1, k2, ?_, fun b hb => ⟨?_, fun e => ?_⟩, k3, k4⟩
  · exact ⟨(k6 _ h.maps.m0.lt (ne_row h.maps.m0 (by decide) h.two.rv) (by omega)).trans h.maps.m0, (k6 _ h.maps.m1.lt (ne_row h.maps.m1 (by decide) h.two.rv) (by omega)).trans h.maps.m1, (k6 _ h.maps.m2.lt (ne_row h.maps.m2 (by decide) h.two.rv) (by omega)).trans h.maps.m2, (k6 _ h.maps.m3.lt (ne_row h.maps.m3 (by decide) h.two.rv) (by omega)).trans h.maps.m3⟩
  · have hr := h.rbs b hb
    exact (k6 _ hr.1.lt (fun e => h.ap b hb e.symm) (by have := hr.2; omega)).trans hr.1
  · rcases hj.at' _ e with e2 | e2
    · exact h.ap b hb e2
    · have := (h.rbs b hb).1.lt
      omega
/-- behind addChange and the store of its list -/
theorem Two.last {u' : Value} {w' : World} {L : List R} {K K' : List Ch} (h : Two n B C v u L K W) (hm : Mhs W n p q r size) (hr : ∀ b ∈ bs, Rb W b.1 b.2 ∧ C < b.1) (hB : n + 3 < B) (hC : B < C) (hj : JC W n u K' u' w') :
    Boxed w' C 53 u ∧ Two n B C v u' L K' (w'.setCell ⟨C, 0, none⟩ u') ∧ Mhs (w'.setCell ⟨C, 0, none⟩ u') n p q r size ∧ (∀ b ∈ bs, Rb (w'.setCell ⟨C, 0, none⟩ u') b.1 b.2) ∧ Below n W (w'.setCell ⟨C, 0, none⟩ u') ∧ KeepsOthers W (w'.setCell ⟨C, 0, none⟩ u') := by
  obtain ⟨k1, k2, k3, k4, k5, k6⟩ := h.change hj (by omega) (by omega)
  refine ⟨k1, k2, ?_, fun b hb => ?_, k3, k4⟩
  · exact ⟨(k6 _ hm.m0.lt (ne_row hm.m0 (by decide) h.ru) (by omega)).trans hm.m0, (k6 _ hm.m1.lt (ne_row hm.m1 (by decide) h.ru) (by omega)).trans hm.m1, (k6 _ hm.m2.lt (ne_row hm.m2 (by decide) h.ru) (by omega)).trans hm.m2, (k6 _ hm.m3.lt (ne_row hm.m3 (by decide) h.ru) (by omega)).trans hm.m3⟩
  · have h1 := hr b hb
    exact (k6 _ h1.1.lt (ne_row h1.1 (by decide) h.ru) (by have := h1.2; omega)).trans h1.1
end
theorem Mh.mb {W : World} {B : Nat} {p : Option Addr} {size : Int} (h : Mh W B p size) : Mb B p size W := by
  have h' : W.heap[B]? = _ := h
  exact ⟨h.cell, by simp [World.cell?, h'], by simp [World.frozen?, h'], by simp [World.frozen?, h'], by simp [World.cell?, h'], h.lt⟩
/-- the box of a loop's run, which is not the runs' own row -/
def Bx1 (B C Bo : Nat) (x : R) (W : World) : Prop := C < Bo ∧ Rb W Bo x ∧ ∃ v, Boxed W B 42 v ∧ v.ownBlock ≠ some Bo
theorem Bx1.own {B C Bo : Nat} {x : R} : Own (fun (_ : Unit) W => Bx1 B C Bo x W) := fun s X Y row hs hg hrow => by
  obtain ⟨h1, h2, v, h3, h4⟩ := hs
  exact ⟨h1, Rb.own Bo x () X Y row h2 hg hrow, v, boxed_own B 42 (fun _ : Unit => v) () X Y row h3 hg hrow, h4⟩
theorem boxed_val {W : World} {B : Nat} {t : TypeId} {v v' : Value} (h : Boxed W B t v) (h' : Boxed W B t v') : v = v' := by
  have h1 : W.heap[B]? = _ := h
  have h2 : W.heap[B]? = _ := h'
  rw [h1] at h2
  simpa using h2
theorem Mst.and {n B C : Nat} {p q r : Option Addr} {size : Int} {bs : List (Nat × R)} {T : List M3} {v u : Value} {W : World} {Bo : Nat} {x : R} (h : Mst n B C p q r size bs T v u W) (hx : Bx1 B C Bo x W) : Mst n B C p q r size ((Bo, x) :: bs) T v u W := by
  obtain ⟨h1, h2, v', h3, h4⟩ := hx
  have := boxed_val h3 h.two.bv
  subst this
  refine ⟨h.two, h.maps, fun b hm => ?_, fun b hm => ?_, h.hB, h.hC⟩
  · rcases List.mem_cons.1 hm with e | e
    · subst e; exact ⟨h2, h1⟩
    · exact h.rbs b e
  · rcases List.mem_cons.1 hm with e | e
    · subst e; exact h4
    · exact h.ap b e
theorem Mst.un {n B C : Nat} {p q r : Option Addr} {size : Int} {bs : List (Nat × R)} {T : List M3} {v u : Value} {W : World} {Bo : Nat} {x : R} (h : Mst n B C p q r size ((Bo, x) :: bs) T v u W) : Bx1 B C Bo x W :=
  ⟨(h.rbs _ (List.mem_cons_self ..)).2, (h.rbs _ (List.mem_cons_self ..)).1, v, h.two.bv, h.ap _ (List.mem_cons_self ..)⟩
theorem keeps_below {W W' : World} (h : Below W.heap.size W W') : KeepsOthers W W' := ⟨h.size, fun k _ hk _ => (h.block k (Array.getElem?_eq_some_iff.1 hk).1).trans hk⟩
theorem KeepsFrom.up {B B' : Nat} {W W' : World} (h : KeepsFrom B W W') (hb : B ≤ B') : KeepsFrom B' W W' := ⟨h.size, fun k o hB hk ho => h.same k o (Nat.le_trans hb hB) hk ho⟩
theorem four_maps (W : World) (p q r : Option Addr) (size : Int) (o : Obj) : Mhs (((((W.alloc (.cells #[.pointer p, .int .i64 size] 27)).alloc (.cells #[.pointer q, .int .i64 size] 27)).alloc (.cells #[.pointer r, .int .i64 size] 27)).alloc (.cells #[.pointer none, .int .i64 0] 27)).alloc o) W.heap.size p q r size := by
  have e : ∀ (w : World) (p : Option Addr) (s : Int), Mh (w.alloc (.cells #[.pointer p, .int .i64 s] 27)) w.heap.size p s := fun w p s => World.alloc_heap_new w _
  refine ⟨((((e W p size).alloc _).alloc _).alloc _).alloc _, ?_, ?_, ?_⟩
  · have := ((((e (W.alloc (.cells #[.pointer p, .int .i64 size] 27)) q size).alloc (.cells #[.pointer r, .int .i64 size] 27)).alloc (.cells #[.pointer none, .int .i64 0] 27)).alloc o)
    rwa [World.size_alloc] at this
  · have := (((e ((W.alloc (.cells #[.pointer p, .int .i64 size] 27)).alloc (.cells #[.pointer q, .int .i64 size] 27)) r size).alloc (.cells #[.pointer none, .int .i64 0] 27)).alloc o)
    rwa [World.size_alloc, World.size_alloc] at this
  · have := ((e (((W.alloc (.cells #[.pointer p, .int .i64 size] 27)).alloc (.cells #[.pointer q, .int .i64 size] 27)).alloc (.cells #[.pointer r, .int .i64 size] 27)) none 0).alloc o)
    rwa [World.size_alloc, World.size_alloc, World.size_alloc] at this
end Go.Proofs.Ytahgfggcpmnnaab
namespace Go.Proofs.Ytahgfggcpmnnaab
open Go Go.RowKit Gs

/-- a list of runs lies at a slice, wherever that begins -/
def IsRo (W : World) (v : Value) (l : List R) : Prop :=
  ∃ ao c, v = .slice ao l.length c ∧ l.length ≤ c ∧ (0 < l.length → ∃ B o, ao = some ⟨B, o, none⟩ ∧ B < W.heap.size ∧ ∀ j (h : j < l.length),
    W.cell? ⟨B, o + j * 3, none⟩ = some (.int .i64 l[j].lo) ∧ W.cell? ⟨B, o + j * 3 + 1, none⟩ = some (.int .i64 l[j].hi) ∧ W.cell? ⟨B, o + j * 3 + 2, none⟩ = some (.int .i64 l[j].tag))
theorem IsRo.below {W W' : World} {v : Value} {l : List R} (h : IsRo W v l) (hb : Below W.heap.size W W') : IsRo W' v l := by
  obtain ⟨ao, c, hv, hc, h⟩ := h
  refine ⟨ao, c, hv, hc, fun hp => ?_⟩
  obtain ⟨B, o, e, hB, hc⟩ := h hp
  refine ⟨B, o, e, Nat.lt_of_lt_of_le hB hb.size, fun j hj => ?_⟩
  obtain ⟨h0, h1, h2⟩ := hc j hj
  exact ⟨(hb.cell (p := ⟨B, _, none⟩) hB).trans h0, (hb.cell (p := ⟨B, _, none⟩) hB).trans h1, (hb.cell (p := ⟨B, _, none⟩) hB).trans h2⟩
/-- a tree of these runs -/
def TrOf (L : List R) (W : World) (p : Option Addr) : Prop := ∃ t : T, t.L = L ∧ IsT W t (.pointer p)
theorem TrOf.below {L : List R} {W W' : World} {p : Option Addr} (h : TrOf L W p) (hb : Below W.heap.size W W') : TrOf L W' p := by
  obtain ⟨t, h1, h2⟩ := h
  exact ⟨t, h1, IsT.below hb h2⟩
set_option maxHeartbeats 2000000 in
theorem build_any : ∀ (n : Nat) (l : List R) (a : Option Addr) (c : Nat) (W : World), l.length = n → n ≤ c → IsRo W (.slice a n c) l → Bd l →
    Calls Try.prog 48 #[.slice a n c] W fun e w' => ∃ p, e = .returned (.pointer p) ∧ Hid (TrOf l w' p) ∧ Below W.heap.size W w' := by
  intro n
  induction n using Nat.strongRecOn with
  | _ n ih =>
    intro l a c W hn hc hro hbd
    by_cases h0 : n = 0
    · subst h0
      refine (build_empty a c W).mono ?_
      rintro e w' ⟨rfl, rfl⟩
      exact ⟨none, rfl, ⟨.nil, (List.eq_nil_of_length_eq_zero hn).symm, rfl⟩, Below.refl _ _⟩
    · obtain ⟨_, _, hv, _, hcs⟩ := hro
      injection hv with hv1 hv2 hv3
      subst hv1
      obtain ⟨B, o, rfl, hB, hcs⟩ := hcs (by omega)
      obtain ⟨md, hmd⟩ : ∃ md, md = n / 2 := ⟨_, rfl⟩
      have hml : md < l.length := by omega
      obtain ⟨L1, hL1⟩ : ∃ L1, L1 = l.take md := ⟨_, rfl⟩
      obtain ⟨L2, hL2⟩ : ∃ L2, L2 = l.drop (md + 1) := ⟨_, rfl⟩
      obtain ⟨⟨rlo, rhi, rtag⟩, hr⟩ : ∃ r, r = l[md] := ⟨_, rfl⟩
      have hsp : l = L1 ++ ⟨rlo, rhi, rtag⟩ :: L2 := by rw [hL1, hL2, hr, ← List.drop_eq_getElem_cons hml, List.take_append_drop]
      have HSP := Lib.hid hsp
      have HBD := Lib.hid hbd
      have hlen : l.length ≤ 100000 := hbd.1
      have hl1 : L1.length = md := by rw [hL1, List.length_take]; omega
      have hl2 : L2.length = n - (md + 1) := by rw [hL2, List.length_drop]; omega
      have HC : Hid (∀ W', Below W.heap.size W W' → W'.cell? ⟨B, o + md * 3, none⟩ = some (.int .i64 rlo) ∧ W'.cell? ⟨B, o + md * 3 + 1, none⟩ = some (.int .i64 rhi) ∧ W'.cell? ⟨B, o + md * 3 + 2, none⟩ = some (.int .i64 rtag)) := fun W' hW => by
        obtain ⟨c0, c1, c2⟩ := hcs md hml
        rw [← hr] at c0 c1 c2
        exact ⟨(hW.cell (p := ⟨B, _, none⟩) hB).trans c0, (hW.cell (p := ⟨B, _, none⟩) hB).trans c1, (hW.cell (p := ⟨B, _, none⟩) hB).trans c2⟩
      have HL : Hid (∀ W', Below W.heap.size W W' → Calls Try.prog 48 #[.slice (some ⟨B, o, none⟩) md c] W' fun e w' => ∃ p, e = .returned (.pointer p) ∧ Hid (TrOf L1 w' p) ∧ Below W'.heap.size W' w' ∧ Below W.heap.size W w') := fun W' hW => (ih md (by omega) L1 _ c W' hl1 (by omega) (IsRo.below ⟨_, c, by rw [hl1], by omega, fun _ => ⟨B, o, rfl, hB, fun j hj => by
          have hj2 : j < l.length := by omega
          have e : L1[j] = l[j] := by subst hL1; rw [List.getElem_take]
          rw [e]
          exact hcs j hj2⟩⟩ hW) ⟨by omega, fun r hr => hbd.2 r (by rw [hsp]; simp [hr])⟩).mono fun e w' ⟨p, he, ht, hb⟩ => ⟨p, he, ht, hb, hW.trans (hb.mono hW.size)⟩
      obtain ⟨rp, hrp⟩ : ∃ rp : Option Addr, rp = if c = md + 1 then some ⟨B, o, none⟩ else some ⟨B, o + (md + 1) * 3, none⟩ := ⟨_, rfl⟩
      have HR : Hid (∀ W', Below W.heap.size W W' → Calls Try.prog 48 #[.slice rp (n - (md + 1)) (c - (md + 1))] W' fun e w' => ∃ p, e = .returned (.pointer p) ∧ Hid (TrOf L2 w' p) ∧ Below W'.heap.size W' w' ∧ Below W.heap.size W w') := fun W' hW => (ih (n - (md + 1)) (by omega) L2 _ (c - (md + 1)) W' hl2 (by omega) (IsRo.below ⟨_, c - (md + 1), by rw [hl2], by omega, fun hz => ⟨B, o + (md + 1) * 3, by rw [hrp, if_neg (by omega)], hB, fun j hj => by
          have hj2 : md + 1 + j < l.length := by omega
          have e : L2[j] = l[md + 1 + j] := by subst hL2; rw [List.getElem_drop]
          rw [e]
          have := hcs (md + 1 + j) hj2
          rw [show o + (md + 1) * 3 + j * 3 = o + (md + 1 + j) * 3 by omega]
          exact this⟩⟩ hW) ⟨by omega, fun r hr => hbd.2 r (by rw [hsp]; simp [hr])⟩).mono fun e w' ⟨p, he, ht, hb⟩ => ⟨p, he, ht, hb, hW.trans (hb.mono hW.size)⟩
      have HNN : Hid (∀ W' p1 p2, Below W.heap.size W W' → Hid (TrOf L1 W' p1) → Hid (TrOf L2 W' p2) → Calls Try.prog 57 #[.pointer p1, .agg #[.int .i64 rlo, .int .i64 rhi, .int .i64 rtag], .pointer p2] W' fun e w' => ∃ g, e = .returned (.pointer (some ⟨g, 0, none⟩)) ∧ Hid (TrOf l w' (some ⟨g, 0, none⟩)) ∧ Below W.heap.size W w') := fun W' p1 p2 hW h1 h2 => by
        obtain ⟨t1, e1, i1⟩ := h1.out
        obtain ⟨t2, e2, i2⟩ := h2.out
        refine (newNode_any t1 t2 rlo rhi rtag _ _ W' i1 i2 (by rw [e1, e2, ← HSP.out]; exact HBD.out)).mono ?_
        rintro e w' ⟨g, rfl, hi, hb⟩
        exact ⟨g, rfl, ⟨_, by show t1.L ++ ⟨rlo, rhi, rtag⟩ :: t2.L = l; rw [e1, e2]; exact HSP.out.symm, hi⟩, hW.trans (hb.mono hW.size)⟩
      have HTB : Hid (∀ L W' W'' p, Hid (TrOf L W' p) → Below W'.heap.size W' W'' → Hid (TrOf L W'' p)) := fun L W' W'' p h hb => h.out.below hb
      have hrp2 := hrp.symm
      clear hrp
      have hq : (n : Int).tdiv 2 = (md : Int) := by rw [hmd]; exact Int.ofNat_tdiv n 2 |>.symm ▸ rfl
      have hq2 : (n : Int) / 2 = (md : Int) := by omega
      have hw0 : IntKind.i64.wrap (md : Int) = (md : Int) := IntWalk.i64_in _ (by omega)
      have hw1 : IntKind.i64.wrap ((md : Int) + 1) = (md : Int) + 1 := IntWalk.i64_in _ (by omega)
      have hp0 : (0 : Int) ≤ (md : Int) := by omega
      have hp1 : (md : Int) ≤ (c : Int) := by omega
      have hp2 : (md : Int) < (n : Int) := by omega
      have hp3 : (0 : Int) ≤ (md : Int) + 1 := by omega
      have hp4 : (md : Int) + 1 ≤ (n : Int) := by omega
      have hp5 : (n : Int) ≤ (c : Int) := by omega
      have hnz : ((n : Int) == 0) = false := beq_eq_false_iff_ne.2 (by omega)
      have hs : Below W.heap.size W W := Below.refl _ _
      have hs2 := hs.drew
      have hcl := HC.out _ hs2
      have hc0 := HC.out _ hs
      clear hcs hmd hml hL1 hL2 hr hsp hbd hlen hl1 hl2 ih hn hv2 hv3 h0
      go_enter Try.func48, Try.ntmps48
      go_wp2_with fail
      go_region_held3 (fun W' : World => W'.cell? ⟨B, o + md * 3, none⟩ = some (.int .i64 rlo) ∧ W'.cell? ⟨B, o + md * 3 + 1, none⟩ = some (.int .i64 rhi) ∧ W'.cell? ⟨B, o + md * 3 + 2, none⟩ = some (.int .i64 rtag)) (first | assumption | fail) (first
        | (go_at_call 48; with_reducible refine (HL.out _ ?h).mono ?_; (case h => assumption); rintro e w' ⟨p1, rfl, ht1, hb1, hs1'⟩; have hc1' := HC.out _ hs1')
        | (go_at_call 48; with_reducible refine (HR.out _ ?h).mono ?_; (case h => assumption); rintro e w' ⟨p2, rfl, ht2, hb2, hs2'⟩; have hc2' := HC.out _ hs2')
        | (go_at_call 57; with_reducible refine (HNN.out _ _ _ ?h ?r1 ?r2).mono ?_; (case h => assumption); (case r1 => (first | assumption | exact HTB.out _ _ _ _ ht1 hb2 | fail)); (case r2 => (first | assumption | exact HTB.out _ _ _ _ ht2 hb1 | fail)); rintro e w' ⟨g, rfl, hgt, hs3'⟩; have hc3' := HC.out _ hs3') | fail)
      all_goals
        have HBF := Lib.hid hs3'
        go_wp2_with fail
        go_ret
        exact ⟨_, rfl, hgt, HBF.out⟩
end Go.Proofs.Ytahgfggcpmnnaab
