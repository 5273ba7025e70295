/- Contracts and lemmas (several texts merged into one). -/
import Derived.Test.YtahgfggcpmnnaaaTKup2
import Derived.Test.YtahgfggcpmnnaaaQa
import Derived.Laws.OwnMore
import Derived.Test.YtahgfggcpmnnaaaTKup1
namespace Go.Proofs.Ytahgfggcpmnnaaa
open Go Go.RowKit Gs

set_option maxHeartbeats 1000000 in
theorem addRun_add {base : Nat} {v : Value} {l : List R} (xa xb xc : Int) {W : World} (h : rowR W base v l) (hb : base ≤ W.heap.size) (hl : l.length ≤ 200000000000) (hy : ∀ y, l.getLast? = some y → y.tag ≠ xc) :
    Calls Try.prog 63 #[v, .agg #[.int .i64 xa, .int .i64 xb, .int .i64 xc]] W fun e w' => ∃ v', e = .returned v' ∧ Hid (JP W base v (l ++ [⟨xa, xb, xc⟩]) v' w') := by
  obtain ⟨i0, hi, hz0, hz1, hz2⟩ := info_parts infoRun
  have hown := h
  obtain ⟨a, c, rfl⟩ := own_slice h
  unfold rowR at hown
  obtain ⟨n, hn⟩ : ∃ n, n = l.length := ⟨_, rfl⟩
  rw [← hn] at hown ⊢
  have hml : n + 1 ≤ maxLen := by unfold maxLen; omega
  have hmb : (n + 1) * 24 ≤ 140737488355328 := by omega
  obtain ⟨W1, HW1⟩ : ∃ W1, W1 = W.alloc (.cells #[.int .i64 xa, .int .i64 xb, .int .i64 xc] 64) := ⟨_, rfl⟩
  have HJ : Hid (Jn W base (.slice a n c) n (l.flatMap encL) xa xb xc W1) := by rw [HW1]; exact Jn.new xa xb xc hown hb
  have HW1' := Lib.hid HW1
  have HN := Lib.hid hn
  have HTO : Hid (∀ (W' : World) v', W'.ownsRow base 64 3 v' (n + 1) (l.flatMap encL ++ encL ⟨xa, xb, xc⟩) → rowR W' base v' (l ++ [⟨xa, xb, xc⟩])) := fun W' v' h => row_snoc (by rw [← hn]; exact h)
  clear HW1 hn hl hown
  rcases List.eq_nil_or_concat l with rfl | ⟨l', y, hl'⟩
  · obtain rfl : n = 0 := HN.out
    have k0 := HJ.out.c0; have k1 := HJ.out.c1; have k2 := HJ.out.c2
    clear HN hy h
    go_enter Try.func63, Try.ntmps63
    go_upto_region 1 with fail
    rw [← HW1'.out]
    go_wp2_with fail
    go_quiet (fail)
    rename_i nq
    have hj := HJ.out.drewN hb nq
    clear k0 k1 k2
    generalize hw : World.drewN _ nq = w2 at hj ⊢
    clear hw
    have k0 := hj.c0; have k1 := hj.c1; have k2 := hj.c2
    have hown := hj.own
    have HLT := Lib.hid hj.own.lt
    have hsz : base ≤ w2.heap.size := Nat.le_trans hb (Nat.le_of_lt hj.lt)
    have HJ2 := Lib.hid hj
    clear hj
    go_wp2_with (at_builtin; refine wpList_append_own_at _ rfl _ _ 31 rfl base 64 i0 (.agg #[.int .i64 0, .int .i64 0, .int .i64 0]) 3 24 Try.underlying31 hi hz0 hz1 hz2 rfl (by decide) _ _ _ rfl (hown.alloc _) ⟨w2.heap.size, 0, none⟩ 1 1 [.int .i64 xa, .int .i64 xb, .int .i64 xc] rfl rfl ?c1 ?c2 ?c3 ?c4 ?c5 ?_)
    case c1 => exact cells3_new _ _ _ _ _
    case c2 => intro u hu; simp at hu; rcases hu with rfl | rfl | rfl <;> rfl
    case c3 => exact hml
    case c4 => exact hmb
    case c5 => simp; omega
    intro v' w4 hown4 hgrow _ hat
    have HF : Hid (JP W base (.slice a 0 c) ([] ++ [⟨xa, xb, xc⟩]) v' w4) := ⟨HTO.out w4 v' hown4, (HJ2.out.bel.alloc hsz _).grown hgrow (by simp; omega) (fun j hj => (HLT.out _ hj).1),
      fun k hk hne => (hgrow.block k (Nat.lt_of_lt_of_le (Nat.lt_trans hk HJ2.out.lt) (by rw [World.size_alloc]; exact Nat.le_succ _)) hne).trans ((((Below.refl w2.heap.size w2).alloc (Nat.le_refl _) _).block k (Nat.lt_trans hk HJ2.out.lt)).trans (HJ2.out.bw.block k hk)),
      fun k hk => by
        rcases hat with h1 | h1
        · exact .inl (h1.symm.trans hk)
        · rw [h1] at hk
          injection hk with hk
          exact .inr (by have := HJ2.out.lt; omega)⟩
    clear hown4 hgrow hown k0 k1 k2 hat
    go_wp2_with fail
    go_ret
    exact ⟨_, rfl, HF.out⟩
  · rw [List.concat_eq_append] at hl'
    subst hl'
    obtain ⟨m, hm⟩ : ∃ m, m = l'.length := ⟨_, rfl⟩
    obtain rfl : n = m + 1 := by rw [HN.out, hm]; simp
    have hrs := IsRs.of_row (show W1.ownsRow base 64 3 (.slice a (m + 1) c) (l' ++ [y]).length ((l' ++ [y]).flatMap encL) by rw [← HN.out]; exact HJ.out.own)
    obtain ⟨a', c', hv, hcs⟩ := hrs
    obtain ⟨G, e1, -, hcs2⟩ := hcs (by simp)
    clear hcs
    injection hv with hv1 hv2 hv3
    clear hv2 hv3
    subst hv1
    subst e1
    have hlast := (hcs2 m (by rw [hm]; simp)).2.2
    have hlv : (l' ++ [y])[m]'(by rw [hm]; simp) = y := by subst hm; simp
    rw [hlv] at hlast
    have hne : (y.tag == xc) = false := beq_eq_false_iff_ne.2 (hy y (by simp))
    have hw1 : IntKind.i64.wrap (((m + 1 : Nat) : Int) - 1) = (m : Int) := by rw [show (((m + 1 : Nat) : Int) - 1) = (m : Int) by omega]; exact IntWalk.i64_in _ (by unfold maxLen at hml; omega)
    have hgt : ((m + 1 : Nat) : Int) > 0 := by omega
    have k0 := HJ.out.c0; have k1 := HJ.out.c1; have k2 := HJ.out.c2
    clear HN hy h hcs2 hlv hm
    generalize y.tag = yt at *
    go_enter Try.func63, Try.ntmps63
    go_upto_region 1 with fail
    rw [← HW1'.out]
    go_wp2_with fail
    go_quiet (fail)
    rename_i nq
    have hj := HJ.out.drewN hb nq
    clear k0 k1 k2 hlast
    generalize hw : World.drewN _ nq = w2 at hj ⊢
    clear hw
    have k0 := hj.c0; have k1 := hj.c1; have k2 := hj.c2
    have hown := hj.own
    have HLT := Lib.hid hj.own.lt
    have hsz : base ≤ w2.heap.size := Nat.le_trans hb (Nat.le_of_lt hj.lt)
    have HJ2 := Lib.hid hj
    clear hj
    go_wp2_with (at_builtin; refine wpList_append_own_at _ rfl _ _ 31 rfl base 64 i0 (.agg #[.int .i64 0, .int .i64 0, .int .i64 0]) 3 24 Try.underlying31 hi hz0 hz1 hz2 rfl (by decide) _ _ _ rfl (hown.alloc _) ⟨w2.heap.size, 0, none⟩ 1 1 [.int .i64 xa, .int .i64 xb, .int .i64 xc] rfl rfl ?c1 ?c2 ?c3 ?c4 ?c5 ?_)
    case c1 => exact cells3_new _ _ _ _ _
    case c2 => intro u hu; simp at hu; rcases hu with rfl | rfl | rfl <;> rfl
    case c3 => exact hml
    case c4 => exact hmb
    case c5 => simp; omega
    intro v' w4 hown4 hgrow _ hat
    have HF : Hid (JP W base (.slice (some ⟨G, 0, none⟩) (m + 1) c) (l' ++ [y] ++ [⟨xa, xb, xc⟩]) v' w4) := ⟨HTO.out w4 v' (by rw [List.flatMap_append, List.flatMap_singleton, List.append_assoc]; exact hown4), (HJ2.out.bel.alloc hsz _).grown hgrow (by simp; omega) (fun j hj => (HLT.out _ hj).1),
      fun k hk hne => (hgrow.block k (Nat.lt_of_lt_of_le (Nat.lt_trans hk HJ2.out.lt) (by rw [World.size_alloc]; exact Nat.le_succ _)) hne).trans ((((Below.refl w2.heap.size w2).alloc (Nat.le_refl _) _).block k (Nat.lt_trans hk HJ2.out.lt)).trans (HJ2.out.bw.block k hk)),
      fun k hk => by
        rcases hat with h1 | h1
        · exact .inl (h1.symm.trans hk)
        · rw [h1] at hk
          injection hk with hk
          exact .inr (by have := HJ2.out.lt; omega)⟩
    clear hown4 hgrow hown k0 k1 k2 hat
    go_wp2_with fail
    go_ret
    exact ⟨_, rfl, HF.out⟩
theorem set_last (l' : List R) (yl yh yt xb : Int) : ((l' ++ [(⟨yl, yh, yt⟩ : R)]).flatMap encL).set (l'.length * 3 + 1) (.int .i64 xb) = (l' ++ [(⟨yl, xb, yt⟩ : R)]).flatMap encL := by
  have hl : ∀ k : List R, (k.flatMap encL).length = k.length * 3 := by
    intro k
    induction k with
    | nil => rfl
    | cons r k ih => rw [List.flatMap_cons, List.length_append, ih, List.length_cons]; simp [encL]; omega
  rw [List.flatMap_append, List.flatMap_append, List.set_append_right _ _ (by rw [hl]; omega), hl, show l'.length * 3 + 1 - l'.length * 3 = 1 by omega]
  rfl
set_option maxHeartbeats 1000000 in
theorem addRun_same {base : Nat} {v : Value} {l' : List R} {yl yh yt : Int} (xa xb : Int) {W : World} (h : rowR W base v (l' ++ [⟨yl, yh, yt⟩])) (hb : base ≤ W.heap.size) (hl : l'.length ≤ 200000000000) :
    Calls Try.prog 63 #[v, .agg #[.int .i64 xa, .int .i64 xb, .int .i64 yt]] W fun e w' => ∃ v', e = .returned v' ∧ Hid (JP W base v (l' ++ [⟨yl, xb, yt⟩]) v' w') := by
  have hown := h
  rcases h.2 with ⟨_, h0⟩ | ⟨G, c, cur, rfl, hG, hGh, hcap, -⟩
  · rw [List.length_append] at h0; cases h0
  unfold rowR at hown
  obtain ⟨m, hm⟩ : ∃ m, m = l'.length := ⟨_, rfl⟩
  have hlen : (l' ++ [(⟨yl, yh, yt⟩ : R)]).length = m + 1 := by rw [hm]; simp
  rw [hlen] at hown hcap ⊢
  obtain ⟨n, hn⟩ : ∃ n, n = m + 1 := ⟨_, rfl⟩
  rw [← hn] at hown hcap ⊢
  obtain ⟨XS, hXS⟩ : ∃ XS, XS = (l' ++ [(⟨yl, yh, yt⟩ : R)]).flatMap encL := ⟨_, rfl⟩
  rw [← hXS] at hown
  obtain ⟨g0, g1, g2⟩ := encL_get (l' ++ [(⟨yl, yh, yt⟩ : R)]) m (by rw [hlen]; omega)
  have e1 : (l' ++ [(⟨yl, yh, yt⟩ : R)])[m]'(by rw [hlen]; omega) = ⟨yl, yh, yt⟩ := by subst hm; simp
  rw [e1, ← hXS] at g1 g2
  obtain ⟨W1, HW1⟩ : ∃ W1, W1 = W.alloc (.cells #[.int .i64 xa, .int .i64 xb, .int .i64 yt] 64) := ⟨_, rfl⟩
  have HJ : Hid (Jn W base (.slice (some ⟨G, 0, none⟩) n c) n XS xa xb yt W1) := by rw [HW1]; exact Jn.new xa xb yt hown hb
  have HW1' := Lib.hid HW1
  have HCL : Hid (∀ (W' : World), W'.ownsRow base 64 3 (.slice (some ⟨G, 0, none⟩) n c) n XS → W'.cell? ⟨G, m * 3 + 1, none⟩ = some (.int .i64 yh) ∧ W'.cell? ⟨G, m * 3 + 2, none⟩ = some (.int .i64 yt) ∧ W'.frozen? ⟨G, m * 3 + 1, none⟩ = false) := fun W' ho =>
    ⟨(ho.cellAt (m * 3 + 1) (by omega)).trans g1, (ho.cellAt (m * 3 + 2) (by omega)).trans g2, ho.frozenAt _⟩
  have HFIN : Hid (∀ (W' : World), Jn W base (.slice (some ⟨G, 0, none⟩) n c) n XS xa xb yt W' → JP W base (.slice (some ⟨G, 0, none⟩) n c) (l' ++ [⟨yl, xb, yt⟩]) (.slice (some ⟨G, 0, none⟩) n c) (W'.setCell ⟨G, m * 3 + 1, none⟩ (.int .i64 xb))) := fun W' hj => by
    obtain ⟨s1, s2⟩ := hj.own.stored (m * 3 + 1) (.int .i64 xb)
    refine ⟨?_, hj.bel.setCell (p := ⟨G, m * 3 + 1, none⟩) hG _, fun k hk hne => (s2.block k (Nat.lt_trans hk hj.lt) hne).trans (hj.bw.block k hk), fun k hk => .inl hk⟩
    unfold rowR
    rw [show (l' ++ [(⟨yl, xb, yt⟩ : R)]).length = n by rw [hn, hm]; simp, ← set_last l' yl yh yt xb, ← hXS, ← hm]
    exact s1
  have hml : n ≤ 200000000001 := by omega
  have hw1 : IntKind.i64.wrap ((n : Int) - 1) = (m : Int) := by rw [IntWalk.i64_in] <;> omega
  have hgt : (n : Int) > 0 := by omega
  have hd1 : decide ((n : Int) > 0) = true := decide_eq_true hgt
  have hn0 : 0 < n := by omega
  have hd2 : decide (0 < n) = true := decide_eq_true hn0
  have hmn : (m : Int) < n := by omega
  have k0 := HJ.out.c0; have k1 := HJ.out.c1; have k2 := HJ.out.c2
  obtain ⟨d1, d2, f1⟩ := HCL.out _ HJ.out.own
  clear HW1 hn hl hown h hlen hXS e1 g0 g1 g2 hGh hcap hm
  go_enter Try.func63, Try.ntmps63
  go_upto_region 1 with fail
  rw [← HW1'.out]
  go_wp2_with fail
  go_quiet (fail)
  rename_i nq
  have HJ2 := Lib.hid (HJ.out.drewN hb nq)
  clear k0 k1 k2 d1 d2 f1
  generalize hw : World.drewN _ nq = w2 at HJ2 ⊢
  clear hw
  have k0 := HJ2.out.c0; have k1 := HJ2.out.c1; have k2 := HJ2.out.c2
  obtain ⟨d1, d2, f1⟩ := HCL.out _ HJ2.out.own
  have HF := Lib.hid (HFIN.out _ HJ2.out)
  go_wp2_with fail
  go_ret
  exact ⟨_, rfl, HF.out⟩
end Go.Proofs.Ytahgfggcpmnnaaa
namespace Go.Proofs.Ytahgfggcpmnnaaa
open Go Go.RowKit Go.ChangeShapes Go.WideShapes Go.Deep Gs

/-- Get, of a piece that the map lacks -/
theorem Get_err {f : Int → Int} {size x : Int} {W : World} {p : Option Addr} (h : IsM f size W p) (hx : ¬ (0 ≤ x ∧ x < size)) :
    Calls Try.prog 18 #[.agg #[.pointer p, .int .i64 size], .int .i64 x] W fun e w' => e = .returned (.tuple #[.int .i64 0, .int .i64 3]) ∧ Below W.heap.size W w' := by
  obtain ⟨b, rfl⟩ := h.some
  obtain ⟨w0, HW⟩ : ∃ w0, w0 = W.alloc (.cells #[.pointer (some ⟨b, 0, none⟩), .int .i64 size] 27) := ⟨_, rfl⟩
  have hq : Mq W (some ⟨b, 0, none⟩) size w0 := by rw [HW]; exact Mq.new _ _ _ _
  have HUS := Lib.hid (fun W' => isUsable_any b size W')
  have HQ := Lib.hid hq; have HW' := Lib.hid HW
  clear hq HW h
  by_cases h1 : x < 0
  · go_enter Try.func18, Try.ntmps18
    go_wp2_with fail
    rw [← HW'.out]
    refine (HUS.out _).mono ?_
    rintro e w1 ⟨rfl, hb⟩
    have HQ1 := Lib.hid (HQ.out.next hb)
    have k0 := HQ1.out.c0; have k1 := HQ1.out.c1
    clear hb
    go_wp2_with fail
    refine bodyPost_ret (v := .tuple #[.int .i64 0, .int .i64 3]) (by simp [results, Try.results18, go_sem]) rfl ?_
    exact ⟨rfl, HQ1.out.bel⟩
  · have h2 : x ≥ size := by omega
    go_enter Try.func18, Try.ntmps18
    go_wp2_with fail
    rw [← HW'.out]
    refine (HUS.out _).mono ?_
    rintro e w1 ⟨rfl, hb⟩
    have HQ1 := Lib.hid (HQ.out.next hb)
    have k0 := HQ1.out.c0; have k1 := HQ1.out.c1
    clear hb
    go_wp2_with fail
    refine bodyPost_ret (v := .tuple #[.int .i64 0, .int .i64 3]) (by simp [results, Try.results18, go_sem]) rfl ?_
    exact ⟨rfl, HQ1.out.bel⟩
/-- Runs, of a range that is not valid -/
theorem Runs_err {f : Int → Int} {size lo hi most : Int} {W : World} {p : Option Addr} (h : IsM f size W p) (hx : ¬ (0 ≤ lo ∧ lo ≤ hi ∧ hi ≤ size)) :
    Calls Try.prog 20 #[.agg #[.pointer p, .int .i64 size], .int .i64 lo, .int .i64 hi, .int .i64 most] W fun e w' => e = .returned (.tuple #[.slice none 0 0, .int .i64 3]) ∧ Below W.heap.size W w' := by
  obtain ⟨b, rfl⟩ := h.some
  obtain ⟨w0, HW⟩ : ∃ w0, w0 = (W.alloc (.cells #[.pointer (some ⟨b, 0, none⟩), .int .i64 size] 27)).alloc (.cells #[.int .i64 most] 3) := ⟨_, rfl⟩
  have hb : Below W.heap.size W w0 := by rw [HW]; exact (alloc_below _ _).alloc (by simp) _
  have HCK : Hid (Calls Try.prog 46 #[.agg #[.pointer (some ⟨b, 0, none⟩), .int .i64 size], .int .i64 lo, .int .i64 hi, .slice none 0 0] w0 fun e w' => e = .returned (.int .i64 3) ∧ Below w0.heap.size w0 w') := check_range b size lo hi none 0 0 w0 (by omega)
  have HB := Lib.hid hb; have HW' := Lib.hid HW
  clear hb HW h hx
  go_enter Try.func20, Try.ntmps20
  go_wp2_with fail
  rw [← HW'.out]
  refine HCK.out.mono ?_
  rintro e w1 ⟨rfl, hb⟩
  have HB1 := Lib.hid (HB.out.trans (hb.mono HB.out.size))
  clear hb
  go_wp2_with fail
  refine bodyPost_ret (v := .tuple #[.slice none 0 0, .int .i64 3]) (by simp [results, Try.results20, go_sem]) rfl ?_
  exact ⟨rfl, HB1.out⟩
theorem both_Get {base : Nat} {W : World} {p : Option Addr} {z s : Int} {v : Value} (h : Dual base W p z s v) (x : Int) : ∃ T E : Int,
    Hid (∀ W', Below W.heap.size W W' → Calls Try.prog 18 #[.agg #[.pointer p, .int .i64 z], .int .i64 x] W' fun e w' => e = .returned (.tuple #[.int .i64 T, .int .i64 E]) ∧ Below W'.heap.size W' w') ∧
    Hid (∀ W', Below W.heap.size W W' → Calls Try.prog 19 #[.agg #[.int .i64 s, v], .int .i64 x] W' fun e w' => e = .returned (.tuple #[.int .i64 T, .int .i64 E]) ∧ Below W'.heap.size W' w') := by
  rcases h.open with ⟨rfl, rfl, rfl, rfl⟩ | ⟨f, L, h1, h2, h3, rfl, h5, h6⟩
  · exact ⟨0, 1, fun W' _ => Get_un 0 x W', fun W' _ => RGet_un x W'⟩
  · refine ⟨getT f s x, getE s x, fun W' hW => ?_, fun W' hW => RGet_any (h3.below hW) h2 h1.lo h6⟩
    by_cases hx : 0 ≤ x ∧ x < s
    · have := Get_ok (h1.below hW) hx.1 hx.2
      unfold getT getE
      rw [if_pos hx, if_pos hx]
      exact this
    · unfold getT getE
      rw [if_neg hx, if_neg hx]
      exact Get_err (h1.below hW) hx
theorem both_Runs {base : Nat} {W : World} {p : Option Addr} {z s : Int} {v : Value} (h : Dual base W p z s v) (lo hi most : Int) : ∃ (K : List R) (E : Int), K.length ≤ 4096 ∧
    Hid (∀ W', Below W.heap.size W W' → Calls Try.prog 20 #[.agg #[.pointer p, .int .i64 z], .int .i64 lo, .int .i64 hi, .int .i64 most] W' fun e w' => ∃ v', e = .returned (.tuple #[v', .int .i64 E]) ∧ Hid (IsRs W'.heap.size w' v' (K.take most.toNat)) ∧ Below W'.heap.size W' w') ∧
    Hid (∀ W', Below W.heap.size W W' → Calls Try.prog 21 #[.agg #[.int .i64 s, v], .int .i64 lo, .int .i64 hi] W' fun e w' => ∃ v', e = .returned (.tuple #[v', .int .i64 E]) ∧ Hid (IsRs W'.heap.size w' v' K ∧ Roomed v' K.length) ∧ Below W'.heap.size W' w') := by
  have nil : ∀ (B : Nat) (W : World), IsRs B W (.slice none 0 0) [] := fun B W => ⟨none, 0, rfl, fun h => absurd h (by simp)⟩
  rcases h.open with ⟨rfl, rfl, rfl, rfl⟩ | ⟨f, L, h1, h2, h3, rfl, h5, h6⟩
  · refine ⟨[], 1, by simp, fun W' _ => (Runs_un 0 lo hi most W').mono ?_, fun W' _ => (RRuns_un lo hi W').mono ?_⟩
    · rintro e w' ⟨rfl, hB⟩
      exact ⟨_, rfl, by rw [List.take_nil]; exact nil _ _, hB⟩
    · rintro e w' ⟨rfl, hB⟩
      exact ⟨_, rfl, ⟨nil _ _, none, 0, rfl, Nat.le_refl _⟩, hB⟩
  · by_cases hx : 0 ≤ lo ∧ lo ≤ hi ∧ hi ≤ s
    · refine ⟨clip lo hi L, 0, Nat.le_trans (clip_len _ _ _) h6, fun W' hW => ?_, fun W' hW => RRuns_ok (h3.below hW) h2 h5 h6 hx.1 hx.2.1 hx.2.2⟩
      obtain ⟨L', g1, g2, g3⟩ := Runs_any (most := most) (h1.below hW) hx.1 hx.2.1 hx.2.2
      have e := g1.same h2
      subst e
      refine g3.mono ?_
      rintro e w' ⟨v', rfl, hr, hB⟩
      exact ⟨v', rfl, IsRs.of_row hr.out, hB⟩
    · refine ⟨[], 3, by simp, fun W' hW => (Runs_err (h1.below hW) hx).mono ?_, fun W' hW => ?_⟩
      · rintro e w' ⟨rfl, hB⟩
        exact ⟨_, rfl, by rw [List.take_nil]; exact nil _ _, hB⟩
      · obtain ⟨a, c, rfl, -⟩ := h3
        refine (RRuns_range s lo hi a _ c W' h5 hx).mono ?_
        rintro e w' ⟨rfl, hB⟩
        exact ⟨_, rfl, ⟨nil _ _, none, 0, rfl, Nat.le_refl _⟩, hB⟩
theorem both_Count {base : Nat} {W : World} {p : Option Addr} {z s : Int} {v : Value} (h : Dual base W p z s v) (lo hi tag : Int) : ∃ N E : Int,
    Hid (∀ W', Below W.heap.size W W' → Calls Try.prog 22 #[.agg #[.pointer p, .int .i64 z], .int .i64 lo, .int .i64 hi, .int .i64 tag] W' fun e w' => e = .returned (.tuple #[.int .i64 N, .int .i64 E]) ∧ Below W'.heap.size W' w') ∧
    Hid (∀ W', Below W.heap.size W W' → Calls Try.prog 23 #[.agg #[.int .i64 s, v], .int .i64 lo, .int .i64 hi, .int .i64 tag] W' fun e w' => e = .returned (.tuple #[.int .i64 N, .int .i64 E]) ∧ Below W'.heap.size W' w') := by
  rcases h.open with ⟨rfl, rfl, rfl, rfl⟩ | ⟨f, L, h1, h2, h3, rfl, h5, h6⟩
  · exact ⟨0, 1, fun W' _ => Count_un 0 lo hi tag W', fun W' _ => RCount_no (by decide) fun W'' _ => RRuns_un lo hi W''⟩
  · by_cases hx : 0 ≤ lo ∧ lo ≤ hi ∧ hi ≤ s
    · by_cases ht : isT tag = true
      · obtain ⟨e1, e2⟩ : 0 ≤ tag ∧ tag < 16 := of_decide_eq_true ht
        obtain ⟨j, rfl⟩ : ∃ j : Nat, tag = j := ⟨tag.toNat, by omega⟩
        refine ⟨cnt j (clip lo hi L), 0, fun W' hW => ?_, fun W' hW => RCount_ok (h3.below hW) h2 h1.ctx h5 h6 hx.1 hx.2.1 hx.2.2 ht⟩
        obtain ⟨L', g1, g2⟩ := Count_ok (k := j) (h1.below hW) hx.1 hx.2.1 hx.2.2 (by omega)
        have e := g1.same h2
        subst e
        rw [cnt_clip j hx.2.1 (fun r hr => (h2.1.bd h1.ctx r hr).2.1)]
        exact g2
      · have ht := Bool.eq_false_iff.2 ht
        have e2 : errOf s lo hi [tag] = 2 := by unfold errOf; rw [if_neg (by omega)]; simp [ht]
        refine ⟨0, 2, fun W' hW => ?_, fun W' hW => RCount_tag (h3.below hW) h2 h5 h6 hx.1 hx.2.1 hx.2.2 ht⟩
        have := Count_err (h1.below hW) (lo := lo) (hi := hi) (k := tag) (by rw [e2]; decide)
        rwa [e2] at this
    · have e2 : errOf s lo hi [tag] = 3 := by unfold errOf; rw [if_pos (by omega)]
      refine ⟨0, 3, fun W' hW => ?_, fun W' hW => RCount_no (by decide) fun W'' _ => ?_⟩
      · have := Count_err (h1.below hW) (lo := lo) (hi := hi) (k := tag) (by rw [e2]; decide)
        rwa [e2] at this
      · obtain ⟨a, c, rfl, -⟩ := h3
        exact RRuns_range s lo hi a _ c W'' h5 hx
theorem RFind_un (tag k : Int) (W : World) : Calls Try.prog 25 #[.agg #[.int .i64 0, .slice none 0 0], .int .i64 tag, .int .i64 k] W fun e w' => e = .returned (.tuple #[.int .i64 0, .bool false]) ∧ Below W.heap.size W w' := by
  obtain ⟨w0, HW⟩ : ∃ w0, w0 = W.alloc (.cells #[.int .i64 0, .slice none 0 0] 33) := ⟨_, rfl⟩
  have hm : M2 W.heap.size (.int .i64 0) (.slice none 0 0) w0 := by rw [HW]; exact M2.new _ _ _ _
  have hb : Below W.heap.size W w0 := by rw [HW]; exact (Below.refl _ _).alloc (Nat.le_refl _) _
  have HM := Lib.hid hm; have HB := Lib.hid hb; have HW' := Lib.hid HW
  have k0 := HM.out.c0; have k1 := HM.out.c1
  clear hm hb HW
  by_cases hneg : k < 0
  · go_enter Try.func25, Try.ntmps25
    go_upto_region 1 with fail
    rw [← HW'.out]
    go_wp2_with fail
    refine bodyPost_ret (v := .tuple #[.int .i64 0, .bool false]) (by simp [results, Try.results25, go_sem]) rfl ?_
    exact ⟨rfl, HB.out⟩
  · go_enter Try.func25, Try.ntmps25
    go_upto_region 1 with fail
    rw [← HW'.out]
    clear k0 k1
    go_wp2_with fail
    go_loopw [2, 8] (fun kv iv wr => iv = .int .i64 0 ∧ Hid (M2 W.heap.size (.int .i64 0) (.slice none 0 0) wr) ∧ Hid (Below W.heap.size W wr)) (fun _ _ _ => 0)
    case atStart => exact ⟨rfl, HM.out, HB.out⟩
    case round =>
      obtain ⟨rfl, HMr, HBr⟩ := hrel
      have k0 := HMr.out.c0; have k1 := HMr.out.c1
      go_wp2_with fail
      refine bodyPost_ret (v := .tuple #[.int .i64 0, .bool false]) (by simp [results, Try.results25, go_sem]) rfl ?_
      exact ⟨rfl, HBr.out⟩
theorem both_Find {base : Nat} {W : World} {p : Option Addr} {z s : Int} {v : Value} (h : Dual base W p z s v) (tag k : Int) (hk : k ≤ 9223372036854775807) : ∃ P : Int → Bool → Prop,
    Hid (∀ x y b c, P x b → P y c → x = y ∧ b = c) ∧
    Hid (∀ W', Below W.heap.size W W' → Calls Try.prog 24 #[.agg #[.pointer p, .int .i64 z], .int .i64 tag, .int .i64 k] W' fun e w' => ∃ x is, e = .returned (.tuple #[.int .i64 x, .bool is]) ∧ Hid (P x is) ∧ Below W'.heap.size W' w') ∧
    Hid (∀ W', Below W.heap.size W W' → Calls Try.prog 25 #[.agg #[.int .i64 s, v], .int .i64 tag, .int .i64 k] W' fun e w' => ∃ x is, e = .returned (.tuple #[.int .i64 x, .bool is]) ∧ Hid (P x is) ∧ Below W'.heap.size W' w') := by
  rcases h.open with ⟨rfl, rfl, rfl, rfl⟩ | ⟨f, L, h1, h2, h3, rfl, h5, h6⟩
  · refine ⟨fun x b => x = 0 ∧ b = false, ?_, fun W' _ => (Find_un 0 tag k W').mono ?_, fun W' _ => (RFind_un tag k W').mono ?_⟩
    · rintro x y b c ⟨rfl, rfl⟩ ⟨rfl, rfl⟩
      exact ⟨rfl, rfl⟩
    · rintro e w' ⟨rfl, hB⟩
      exact ⟨0, false, rfl, ⟨rfl, rfl⟩, hB⟩
    · rintro e w' ⟨rfl, hB⟩
      exact ⟨0, false, rfl, ⟨rfl, rfl⟩, hB⟩
  · refine ⟨FindOf f s tag k L, fun x y b c g1 g2 => FindOf.same h2 g1 g2, fun W' hW => ?_, fun W' hW => RFind_any (h3.below hW) h2 h1.ctx h6 hk⟩
    obtain ⟨L', g1, g2⟩ := Find_any (tag := tag) (k := k) (h1.below hW)
    have e := g1.same h2
    subst e
    exact g2
section
variable {H : Type} {enc : TypeId × Value → H} {W : World} {base : Nat} {sp : Nat → Bool} {held : Bool}
theorem fld_wf {cs : List Value} {n i : Nat} {xs : List (DataW H × List MemPlace)} (hi : i < xs.length) (h : DataW.trod enc Try.prog W base sp held n 3 ((cs.drop i).take (Try.prog.cellsOf 3)) = xs[i]?) : ∃ k, cs[i]? = some (.int .i64 k) ∧ -9223372036854775808 ≤ k ∧ k ≤ 9223372036854775807 := by
  rw [one_int, List.getElem?_eq_getElem hi] at h
  obtain ⟨k, e, _, hw⟩ := DataW.trod_int Try.underlying3 h
  refine ⟨k, ?_, ?_⟩
  · have h1 : ((cs.drop i).take 1)[0]? = some (.int .i64 k) := by rw [e]; rfl
    simpa [List.getElem?_take, List.getElem?_drop] using h1
  · have := Go.bounds_i64 hw
    omega
/-- what a query's last number is at most -/
theorem query_bd {d : DataW H} {p : List MemPlace} {q0 q1 q2 q3 q4 q5 : Int}
    (h : DataW.Trod enc Try.prog W base sp held 45 (.agg #[.int .i64 q0, .int .i64 q1, .int .i64 q2, .int .i64 q3, .int .i64 q4, .int .i64 q5]) d p) : q5 ≤ 9223372036854775807 := by
  obtain ⟨fuel, hf⟩ := h
  obtain ⟨xs, n, _, _, hl, hx, hg⟩ := DataW.trod_struct Try.underlying45 hf
  have hx : xs.length = 6 := hx
  obtain ⟨b5, e5, h1, h2⟩ := fld_wf (i := 5) (by omega) (hg 5 _ rfl)
  have e : some (Value.int .i64 q5) = some (Value.int .i64 b5) := e5
  injection e with e
  injection e with _ e
  omega
end
end Go.Proofs.Ytahgfggcpmnnaaa
namespace Go.Proofs.Ytahgfggcpmnnaaa
open Go Go.RowKit Gs

set_option maxHeartbeats 1000000 in
theorem RAlike_ne {B1 B2 : Nat} {W : World} {u v : Value} {L K : List R} (h1 : IsRs B1 W u L) (h2 : IsRs B2 W v K) (hlen : L.length ≤ 100000) (hlen2 : K.length ≤ 100000) (hLK : L ≠ K) : Calls Try.prog 26 #[u, v] W fun e w' => e = .returned (.bool false) ∧ Hid (Below W.heap.size W w') := by
  have HU := Lib.hid h1; have HV := Lib.hid h2
  obtain ⟨a, c, rfl, -⟩ := h1
  obtain ⟨a', c', rfl, -⟩ := h2
  obtain ⟨n, hn⟩ : ∃ n, n = L.length := ⟨_, rfl⟩
  obtain ⟨m, hm⟩ : ∃ m, m = K.length := ⟨_, rfl⟩
  rw [← hn] at HU ⊢
  rw [← hm] at HV ⊢
  have hnb : n ≤ 100000 := by omega
  have hmb : m ≤ 100000 := by omega
  have HN := Lib.hid hn; have HM := Lib.hid hm; have HLK := Lib.hid hLK
  clear hn hm hlen hlen2 hLK
  by_cases hnm : n = m
  · subst hnm
    go_enter Try.func26, Try.ntmps26
    go_wp2_with fail
    go_loopw [5] (fun iv wr => ∃ j : Nat, j ≤ n ∧ iv = .int .i64 j ∧ Hid (L.take j = K.take j) ∧ Hid (Below W.heap.size W wr)) (fun i _ => n - (intOf i).toNat)
    case atStart => exact ⟨0, by omega, rfl, rfl, Below.refl _ _⟩
    case round =>
      obtain ⟨j, hj, rfl, HT, HB⟩ := hrel
      by_cases hlt : j < n
      · have hj2 : (j : Int) < n := by omega
        have hj0 : (0 : Int) ≤ (j : Int) := by omega
        have hjl : j < L.length := by rw [← HN.out]; exact hlt
        have hjk : j < K.length := by rw [← HM.out]; exact hlt
        obtain ⟨b, d, hv, hcs⟩ := HU.out.below HB.out
        injection hv with hv1 hv2 hv3
        clear hv2 hv3
        subst hv1
        obtain ⟨G, e1, -, hcs2⟩ := hcs (by omega)
        clear hcs
        subst e1
        obtain ⟨c0, c1, c2⟩ := hcs2 j hjl
        clear hcs2
        obtain ⟨b', d', hv, hcs⟩ := HV.out.below HB.out
        injection hv with hv1 hv2 hv3
        clear hv2 hv3
        subst hv1
        obtain ⟨G', e1, -, hcs2⟩ := hcs (by omega)
        clear hcs
        subst e1
        obtain ⟨d0, d1, d2⟩ := hcs2 j hjk
        clear hcs2
        rcases hx : L[j] with ⟨xa, xb, xc⟩
        rcases hy : K[j] with ⟨ya, yb, yc⟩
        have HX := Lib.hid hx; have HY := Lib.hid hy
        rw [hx] at c0 c1 c2
        rw [hy] at d0 d1 d2
        simp only at c0 c1 c2 d0 d1 d2
        clear hx hy
        by_cases m1 : xa = ya
        · by_cases m2 : xb = yb
          · by_cases m3 : xc = yc
            · subst m1; subst m2; subst m3
              have HT2 : Hid (L.take (j + 1) = K.take (j + 1)) := by
                show L.take (j + 1) = K.take (j + 1)
                rw [List.take_succ_eq_append_getElem hjl, List.take_succ_eq_append_getElem hjk, HT.out, HX.out, HY.out]
              clear HX HY
              go_wp2_with fail
              go_quiet (fail)
              rename_i nq
              have HBn : Hid (Below W.heap.size W (World.drewN wr nq)) := below_drewN HB.out nq
              clear c0 c1 c2 d0 d1 d2
              generalize hw : World.drewN _ nq = w2 at HBn ⊢
              clear hw
              go_wp2_with fail
              go_roundw
              case rel => exact ⟨j + 1, by omega, by go_num, HT2, HBn⟩
              case measure => simp [intOf]; omega
            · subst m1; subst m2
              have n3 : (xc == yc) = false := beq_eq_false_iff_ne.2 m3
              clear HX HY m3
              go_wp2_with fail
              go_quiet (fail)
              rename_i nq
              have HBn : Hid (Below W.heap.size W (World.drewN wr nq)) := below_drewN HB.out nq
              clear c0 c1 c2 d0 d1 d2
              generalize hw : World.drewN _ nq = w2 at HBn ⊢
              clear hw
              go_wp2_with fail
              go_ret
              exact ⟨rfl, HBn.out⟩
          · subst m1
            have n2 : (xb == yb) = false := beq_eq_false_iff_ne.2 m2
            clear HX HY m2
            go_wp2_with fail
            go_quiet (fail)
            rename_i nq
            have HBn : Hid (Below W.heap.size W (World.drewN wr nq)) := below_drewN HB.out nq
            clear c0 c1 c2 d0 d1 d2
            generalize hw : World.drewN _ nq = w2 at HBn ⊢
            clear hw
            go_wp2_with fail
            go_ret
            exact ⟨rfl, HBn.out⟩
        · skip
          have n1 : (xa == ya) = false := beq_eq_false_iff_ne.2 m1
          clear HX HY m1
          go_wp2_with fail
          go_quiet (fail)
          rename_i nq
          have HBn : Hid (Below W.heap.size W (World.drewN wr nq)) := below_drewN HB.out nq
          clear c0 c1 c2 d0 d1 d2
          generalize hw : World.drewN _ nq = w2 at HBn ⊢
          clear hw
          go_wp2_with fail
          go_ret
          exact ⟨rfl, HBn.out⟩
      · have hj2 : ¬ (j : Int) < n := by omega
        exfalso
        have e : j = n := by omega
        have h1 := HT.out
        rw [e, List.take_of_length_le (by have := HN.out; omega), List.take_of_length_le (by have := HM.out; omega)] at h1
        exact HLK.out h1
  · have hne : ((n : Int) == (m : Int)) = false := beq_eq_false_iff_ne.2 (by omega)
    have HBr : Hid (Below W.heap.size W W) := Below.refl _ _
    clear hnm
    go_enter Try.func26, Try.ntmps26
    go_wp2_with fail
    go_ret
    exact ⟨rfl, HBr.out⟩
/-- ref.Same, of two maps -/
theorem RSame_any {B1 B2 : Nat} {W : World} {u v : Value} {L K : List R} {s s2 : Int} {E : Bool} (h1 : IsRs B1 W u L) (h2 : IsRs B2 W v K) (hlen : L.length ≤ 100000) (hlen2 : K.length ≤ 100000) (hE : E = true ↔ s = s2 ∧ L = K) :
    Calls Try.prog 33 #[.agg #[.int .i64 s, u], .agg #[.int .i64 s2, v]] W fun e w' => e = .returned (.bool E) ∧ Hid (Below W.heap.size W w') := by
  obtain ⟨w1, HW1⟩ : ∃ w1, w1 = W.alloc (.cells #[.int .i64 s, u] 33) := ⟨_, rfl⟩
  obtain ⟨w2, HW2⟩ : ∃ w2, w2 = w1.alloc (.cells #[.int .i64 s2, v] 33) := ⟨_, rfl⟩
  have b1 : Below W.heap.size W w1 := by rw [HW1]; exact (Below.refl _ _).alloc (Nat.le_refl _) _
  have b2 : Below w1.heap.size w1 w2 := by rw [HW2]; exact (Below.refl _ _).alloc (Nat.le_refl _) _
  have s1 : w1.heap.size = W.heap.size + 1 := by rw [HW1]; simp
  have hb := b1.trans (b2.mono b1.size)
  have k0 : w2.cell? ⟨W.heap.size, 0, none⟩ = some (.int .i64 s) := (b2.cell (p := ⟨W.heap.size, 0, none⟩) (by show W.heap.size < _; omega)).trans (by rw [HW1]; exact World.cell?_alloc_at _ _ _ _ rfl)
  have k1 : w2.cell? ⟨W.heap.size, 1, none⟩ = some u := (b2.cell (p := ⟨W.heap.size, 1, none⟩) (by show W.heap.size < _; omega)).trans (by rw [HW1]; exact World.cell?_alloc_at _ _ _ _ rfl)
  have k2 : w2.cell? ⟨W.heap.size + 1, 0, none⟩ = some (.int .i64 s2) := by rw [HW2, ← s1]; exact World.cell?_alloc_at _ _ _ _ rfl
  have k3 : w2.cell? ⟨W.heap.size + 1, 1, none⟩ = some v := by rw [HW2, ← s1]; exact World.cell?_alloc_at _ _ _ _ rfl
  have HB := Lib.hid hb
  rw [HW1] at HW2
  have HW2' := Lib.hid HW2
  have HA : Hid (s = s2 → Calls Try.prog 26 #[u, v] w2 fun e w' => e = .returned (.bool E) ∧ Hid (Below w2.heap.size w2 w')) := fun e => by
    by_cases hLK : L = K
    · have : E = true := hE.2 ⟨e, hLK⟩
      subst hLK
      rw [this]
      exact RAlike_same (h1.below hb) (h2.below hb) hlen
    · have : E = false := by
        cases hEE : E with
        | false => rfl
        | true => exact absurd (hE.1 hEE).2 hLK
      rw [this]
      exact RAlike_ne (h1.below hb) (h2.below hb) hlen hlen2 hLK
  have HF : Hid (s ≠ s2 → E = false) := fun e => by
    cases hEE : E with
    | false => rfl
    | true => exact absurd (hE.1 hEE).1 e
  obtain ⟨a1, n1, c1, hu⟩ : ∃ a n c, u = .slice a n c := by obtain ⟨a, c, rfl, _⟩ := h1; exact ⟨_, _, _, rfl⟩
  obtain ⟨a2, n2, c2, hv⟩ : ∃ a n c, v = .slice a n c := by obtain ⟨a, c, rfl, _⟩ := h2; exact ⟨_, _, _, rfl⟩
  subst hu; subst hv
  clear HW1 HW2 b1 b2 s1 hb h1 h2 hE
  by_cases hs : s = s2
  · have HA2 := Lib.hid (HA.out hs)
    clear HA HF
    subst hs
    go_enter Try.func33, Try.ntmps33
    go_wp2_with fail
    rw [← HW2'.out]
    go_wp2_with fail
    refine HA2.out.mono ?_
    rintro e w3 ⟨rfl, HB3⟩
    have HB4 : Hid (Below W.heap.size W w3) := HB.out.trans (HB3.out.mono HB.out.size)
    go_wp2_with fail
    go_ret
    exact ⟨rfl, HB4.out⟩
  · have hne : (s == s2) = false := beq_eq_false_iff_ne.2 hs
    have HE := Lib.hid (HF.out hs)
    clear hs HA HF
    go_enter Try.func33, Try.ntmps33
    go_upto_region 1 with fail
    rw [← HW2'.out]
    go_wp2_with fail
    go_ret
    exact ⟨by rw [HE.out]; rfl, HB.out⟩
end Go.Proofs.Ytahgfggcpmnnaaa
namespace Go.Proofs.Ytahgfggcpmnnaaa
open Go Go.RowKit Gs

theorem fits_ord {f : Int → Int} : ∀ {l : List R} {a b : Int}, Fits f a l b → ∀ i k (h : k < l.length) (hik : i < k), (l[i]'(by omega)).hi ≤ l[k].lo
  | r :: l, a, b, h, 0, k + 1, hk, _ => by
    have := (fits_at h.2.2.2 k (by simpa using hk)).1
    exact this
  | r :: l, a, b, h, i + 1, k + 1, hk, hik => by
    have := fits_ord h.2.2.2 i k (by simpa using hk) (by omega)
    exact this
set_option maxHeartbeats 1000000 in
/-- ref.next: the end of the run that holds x -/
theorem RNext_any {f : Int → Int} {size x : Int} {base : Nat} {v : Value} {L : List R} {W : World} (hrs : IsRs base W v L) (hL : Fits f 0 L size) (hlen : L.length ≤ 4096) (i : Nat) (hi : i < L.length) (x1 : L[i].lo ≤ x) (x2 : x < L[i].hi) :
    Calls Try.prog 59 #[.agg #[.int .i64 size, v], .int .i64 x] W fun e w' => e = .returned (.int .i64 L[i].hi) ∧ Below W.heap.size W w' := by
  have HRS := Lib.hid hrs
  obtain ⟨a, c, rfl, -⟩ := hrs
  obtain ⟨n, hn⟩ : ∃ n, n = L.length := ⟨_, rfl⟩
  rw [← hn] at HRS ⊢
  have hnb : n ≤ 4096 := by omega
  have hin : i < n := by omega
  have HN := Lib.hid hn
  obtain ⟨w0, HW⟩ : ∃ w0, w0 = W.alloc (.cells #[.int .i64 size, .slice a n c] 33) := ⟨_, rfl⟩
  have hm : M2 W.heap.size (.int .i64 size) (.slice a n c) w0 := by rw [HW]; exact M2.new _ _ _ _
  have hb : Below W.heap.size W w0 := by rw [HW]; exact (Below.refl _ _).alloc (Nat.le_refl _) _
  have HM := Lib.hid hm; have HB := Lib.hid hb; have HW' := Lib.hid HW
  have HORD : Hid (∀ j (h : j < L.length), j < i → L[j].hi ≤ x) := fun j h hj => by
    have := fits_ord hL j i hi hj
    omega
  obtain ⟨z, hz⟩ : ∃ z, z = L[i].hi := ⟨_, rfl⟩
  have HZ := Lib.hid hz
  rw [← hz] at x2 ⊢
  clear hm hb HW hn hlen hz hL x1
  go_enter Try.func59, Try.ntmps59
  go_upto_region 1 with fail
  rw [← HW'.out]
  go_wp2_with fail
  go_loopw [5] (fun iv wr => ∃ j : Nat, j ≤ i ∧ iv = .int .i64 j ∧ Hid (M2 W.heap.size (.int .i64 size) (.slice a n c) wr) ∧ Hid (Below W.heap.size W wr)) (fun i _ => n - (intOf i).toNat)
  case atStart => exact ⟨0, by omega, rfl, HM, HB⟩
  case round =>
    obtain ⟨j, hj, rfl, HMr, HBr⟩ := hrel
    have k0 := HMr.out.c0; have k1 := HMr.out.c1
    have hlt : j < n := by omega
    have hj2 : (j : Int) < n := by omega
    have hjl : j < L.length := by rw [← HN.out]; exact hlt
    obtain ⟨G, rfl, c0, c1, c2⟩ := (HRS.out.below HBr.out).at' hjl
    have HO := Lib.hid (HORD.out j hjl)
    by_cases hji : j = i
    · subst hji
      rw [← HZ.out] at c1
      have hgt : z > x := x2
      clear c0 c2
      go_wp2_with fail
      go_ret
      exact ⟨rfl, HBr.out⟩
    · have hle := HO.out (by omega)
      obtain ⟨y, hy⟩ : ∃ y, y = L[j].hi := ⟨_, rfl⟩
      rw [← hy] at c1 hle
      have hgt : ¬ y > x := by omega
      clear c0 c2 hy hle
      go_wp2_with fail
      go_roundw
      case rel => exact ⟨j + 1, by omega, by go_num, HMr, HBr⟩
      case measure => simp [intOf]; omega

theorem own_drewN {w : World} {base : Nat} {e : TypeId} {size : Nat} {v : Value} {n : Nat} {xs : List Value} (h : w.ownsRow base e size v n xs) : ∀ k, (w.drewN k).ownsRow base e size v n xs
  | 0 => h
  | k + 1 => own_drewN (w := w.drew) h.drew k
theorem own_at {w : World} {base : Nat} {e : TypeId} {size : Nat} {v : Value} {n : Nat} {xs : List Value} (h : w.ownsRow base e size v n xs) : ∀ j, v.ownBlock = some j → base ≤ j := by
  intro j ej
  rcases h.2 with ⟨rfl, _⟩ | ⟨g, cap, cur, rfl, hb, _, _⟩
  · simp [Value.ownBlock] at ej
  · obtain rfl : g = j := by simpa [Value.ownBlock] using ej
    exact hb
/-- the call's own row of changes -/
def RowC (base : Nat) (v : Value) (K : List Ch) (W : World) : Prop := W.ownsRow base 107 4 v K.length (K.flatMap encC)
/-- the box of a change -/
def Cx (B : Nat) (x : Ch) (W : World) : Prop := W.cell? ⟨B, 0, none⟩ = some (.int .i64 x.lo) ∧ W.cell? ⟨B, 1, none⟩ = some (.int .i64 x.hi) ∧ W.cell? ⟨B, 2, none⟩ = some (.int .i64 x.fr) ∧ W.cell? ⟨B, 3, none⟩ = some (.int .i64 x.tt)
theorem Cx.below {B : Nat} {x : Ch} {W W' : World} (h : Cx B x W) (hlt : B < W.heap.size) (hb : Below W.heap.size W W') : Cx B x W' :=
  ⟨(hb.cell (p := ⟨B, 0, none⟩) hlt).trans h.1, (hb.cell (p := ⟨B, 1, none⟩) hlt).trans h.2.1, (hb.cell (p := ⟨B, 2, none⟩) hlt).trans h.2.2.1, (hb.cell (p := ⟨B, 3, none⟩) hlt).trans h.2.2.2⟩
theorem Cx.new (W : World) (x : Ch) (t : TypeId) : Cx W.heap.size x (W.alloc (.cells #[.int .i64 x.lo, .int .i64 x.hi, .int .i64 x.fr, .int .i64 x.tt] t)) :=
  ⟨World.cell?_alloc_at _ _ _ _ rfl, World.cell?_alloc_at _ _ _ _ rfl, World.cell?_alloc_at _ _ _ _ rfl, World.cell?_alloc_at _ _ _ _ rfl⟩
set_option maxRecDepth 100000 in
set_option maxHeartbeats 1000000 in
/-- ref.link, where the last change and the new one are not joined -/
theorem Rlink_no {base : Nat} {v : Value} {K : List Ch} {x : Ch} {W : World} (hown : W.ownsRow base 107 4 v K.length (K.flatMap encC)) (hbase : base ≤ W.heap.size) (hlen : K.length ≤ 100000000) (hno : ∀ (m : Nat) (h : m < K.length), K.length = m + 1 → K[m].hi = x.lo → K[m].fr = x.fr → K[m].tt ≠ x.tt) :
    Calls Try.prog 60 #[v, .agg #[.int .i64 x.lo, .int .i64 x.hi, .int .i64 x.fr, .int .i64 x.tt]] W fun e w' => ∃ v', e = .returned v' ∧ Hid (RowC base v' (K ++ [x]) w') ∧ Below base W w' := by
  obtain ⟨va, vc, rfl⟩ := own_slice hown
  obtain ⟨w0, HW⟩ : ∃ w0, w0 = W.alloc (.cells #[.int .i64 x.lo, .int .i64 x.hi, .int .i64 x.fr, .int .i64 x.tt] 107) := ⟨_, rfl⟩
  have hm : Cx W.heap.size x w0 := by rw [HW]; exact Cx.new _ _ _
  have hb : Below W.heap.size W w0 := by rw [HW]; exact (Below.refl _ _).alloc (Nat.le_refl _) _
  have ho : w0.ownsRow base 107 4 (.slice va K.length vc) K.length (K.flatMap encC) := by rw [HW]; exact hown.alloc _
  have hlt : W.heap.size < w0.heap.size := by rw [HW]; simp
  have hcs := IsCs.of_row ho
  obtain ⟨n, hn⟩ : ∃ n, n = K.length := ⟨_, rfl⟩
  have HN := Lib.hid hn
  rw [← hn] at ho hcs hlen ⊢
  obtain ⟨XS, hXS⟩ : ∃ XS, XS = K.flatMap encC := ⟨_, rfl⟩
  rw [← hXS] at ho
  have HXS := Lib.hid hXS
  have HM := Lib.hid hm; have HB := Lib.hid hb; have HW' := Lib.hid HW; have HO := Lib.hid ho; have HNO := Lib.hid hno
  have hml : n + 1 ≤ maxLen := Nat.le_trans (show n + 1 ≤ 100000001 by omega) (by decide)
  have HEND : Hid (∀ (w7 : World) (v' : Value), w7.ownsRow base 107 4 v' (n + 1) (XS ++ [.int .i64 x.lo, .int .i64 x.hi, .int .i64 x.fr, .int .i64 x.tt]) → RowC base v' (K ++ [x]) w7) := fun w7 v' h => by
    unfold RowC
    rw [len_snoc, List.flatMap_append (ys := [x]), ← hXS, ← hn]
    exact h
  obtain ⟨xl, xh, xf, xt⟩ := x
  obtain ⟨i0, hi0, hz0, hz1, hz2⟩ := info_parts infoCh
  have hwl : base ≤ w0.heap.size := by omega
  simp only at *
  clear hm hb HW ho hn hXS hown hno
  go_enter Try.func60, Try.ntmps60
  go_upto_region 1 with fail
  rw [← HW'.out]
  by_cases hn0 : n = 0
  · have hgt : ¬ ((n : Int) > 0) := by omega
    have hd : decide ((n : Int) > 0) = false := decide_eq_false hgt
    have hd2 : decide (0 < n) = false := decide_eq_false (by omega)
    have hn1 : ¬ 0 < n := by omega
    clear hn0
    go_wp2_with fail
    go_quiet (fail)
    rename_i nq
    have HBn : Hid (Below w0.heap.size w0 (World.drewN w0 nq)) := below_drewN (Below.refl _ _) nq
    have HO2 := Lib.hid (own_drewN HO.out nq)
    have HCX := Lib.hid (HM.out.below hlt HBn.out)
    generalize hw : World.drewN w0 nq = w2 at HBn HO2 HCX ⊢
    clear hw
    obtain ⟨k0, k1, k2, k3⟩ : _ ∧ _ ∧ _ ∧ _ := HCX.out
    have hsz2 := HBn.out.size
    go_wp2_with (at_builtin; refine wpList_append_own _ rfl _ _ 66 rfl base 107 i0 (.agg #[.int .i64 0, .int .i64 0, .int .i64 0, .int .i64 0]) 4 32 Try.underlying66 hi0 hz0 hz1 hz2 rfl (by decide) _ _ _ rfl (HO2.out.alloc _) ⟨w2.heap.size, 0, none⟩ 1 1 [.int .i64 xl, .int .i64 xh, .int .i64 xf, .int .i64 xt] rfl rfl (cells4_new _ _ _ _ _ _) (by simp [Value.oneCell']) (by omega) (by omega) (by simp; omega) ?_; intro v' w7 hown' hgrow hbl)
    have HF := Lib.hid (HEND.out w7 v' hown')
    have HBF : Hid (Below base W w7) := (HB.out.mono hbase).trans (((HBn.out.mono hwl).alloc (Nat.le_trans hwl HBn.out.size) _).grown hgrow (by simp; omega) (own_at HO2.out))
    clear hown' hgrow hbl k0 k1 k2 k3
    go_wp2_with fail
    go_ret
    exact ⟨v', rfl, HF, HBF.out⟩
  · obtain ⟨m, hmn⟩ : ∃ m, n = m + 1 := ⟨n - 1, by omega⟩
    have hgt : (n : Int) > 0 := by omega
    have hd : decide ((n : Int) > 0) = true := decide_eq_true hgt
    have hd2 : decide (0 < n) = true := decide_eq_true (by omega)
    have hn1 : 0 < n := by omega
    have hwr : IntKind.i64.wrap ((n : Int) - 1) = (m : Int) := by rw [IntWalk.i64_in] <;> omega
    have hmk : m < K.length := by rw [← HN.out]; omega
    have hm2 : (m : Int) < n := by omega
    obtain ⟨B, o, rfl, c0, c1, c2, c3⟩ := IsCs.at' hcs hmk
    have HNO2 := Lib.hid (HNO.out m hmk (by rw [← HN.out]; exact hmn))
    obtain ⟨y, hy⟩ : ∃ y, y = K[m] := ⟨_, rfl⟩
    rw [← hy] at c0 c1 c2 c3 HNO2
    obtain ⟨ya, yb, yc, yd⟩ := y
    simp only at c0 c1 c2 c3 HNO2
    obtain ⟨m0, m1, m2, m3⟩ : _ ∧ _ ∧ _ ∧ _ := HM.out
    simp only at m0 m1 m2 m3
    clear hy hmn hn0
    by_cases e1 : yb = xl
    · by_cases e2 : yc = xf
      · have e3 := HNO2.out e1 e2
        have n3 : (yd == xt) = false := beq_eq_false_iff_ne.2 e3
        have e1 := e1.symm; have e2 := e2.symm; subst e1; subst e2
        clear e3 HNO2
        go_wp2_with fail
        go_quiet (fail)
        rename_i nq
        have HBn : Hid (Below w0.heap.size w0 (World.drewN w0 nq)) := below_drewN (Below.refl _ _) nq
        have HO2 := Lib.hid (own_drewN HO.out nq)
        have HCX := Lib.hid (HM.out.below hlt HBn.out)
        clear c0 c1 c2 c3 m0 m1 m2 m3
        generalize hw : World.drewN w0 nq = w2 at HBn HO2 HCX ⊢
        clear hw
        obtain ⟨k0, k1, k2, k3⟩ : _ ∧ _ ∧ _ ∧ _ := HCX.out
        have hsz2 := HBn.out.size
        go_wp2_with (at_builtin; refine wpList_append_own _ rfl _ _ 66 rfl base 107 i0 (.agg #[.int .i64 0, .int .i64 0, .int .i64 0, .int .i64 0]) 4 32 Try.underlying66 hi0 hz0 hz1 hz2 rfl (by decide) _ _ _ rfl (HO2.out.alloc _) ⟨w2.heap.size, 0, none⟩ 1 1 [.int .i64 xl, .int .i64 xh, .int .i64 xf, .int .i64 xt] rfl rfl (cells4_new _ _ _ _ _ _) (by simp [Value.oneCell']) (by omega) (by omega) (by simp; omega) ?_; intro v' w7 hown' hgrow hbl)
        have HF := Lib.hid (HEND.out w7 v' hown')
        have HBF : Hid (Below base W w7) := (HB.out.mono hbase).trans (((HBn.out.mono hwl).alloc (Nat.le_trans hwl HBn.out.size) _).grown hgrow (by simp; omega) (own_at HO2.out))
        clear hown' hgrow hbl k0 k1 k2 k3
        go_wp2_with fail
        go_ret
        exact ⟨v', rfl, HF, HBF.out⟩
      · have n2 : (yc == xf) = false := beq_eq_false_iff_ne.2 e2
        have e1 := e1.symm; subst e1
        clear e2 HNO2
        go_wp2_with fail
        go_quiet (fail)
        rename_i nq
        have HBn : Hid (Below w0.heap.size w0 (World.drewN w0 nq)) := below_drewN (Below.refl _ _) nq
        have HO2 := Lib.hid (own_drewN HO.out nq)
        have HCX := Lib.hid (HM.out.below hlt HBn.out)
        clear c0 c1 c2 c3 m0 m1 m2 m3
        generalize hw : World.drewN w0 nq = w2 at HBn HO2 HCX ⊢
        clear hw
        obtain ⟨k0, k1, k2, k3⟩ : _ ∧ _ ∧ _ ∧ _ := HCX.out
        have hsz2 := HBn.out.size
        go_wp2_with (at_builtin; refine wpList_append_own _ rfl _ _ 66 rfl base 107 i0 (.agg #[.int .i64 0, .int .i64 0, .int .i64 0, .int .i64 0]) 4 32 Try.underlying66 hi0 hz0 hz1 hz2 rfl (by decide) _ _ _ rfl (HO2.out.alloc _) ⟨w2.heap.size, 0, none⟩ 1 1 [.int .i64 xl, .int .i64 xh, .int .i64 xf, .int .i64 xt] rfl rfl (cells4_new _ _ _ _ _ _) (by simp [Value.oneCell']) (by omega) (by omega) (by simp; omega) ?_; intro v' w7 hown' hgrow hbl)
        have HF := Lib.hid (HEND.out w7 v' hown')
        have HBF : Hid (Below base W w7) := (HB.out.mono hbase).trans (((HBn.out.mono hwl).alloc (Nat.le_trans hwl HBn.out.size) _).grown hgrow (by simp; omega) (own_at HO2.out))
        clear hown' hgrow hbl k0 k1 k2 k3
        go_wp2_with fail
        go_ret
        exact ⟨v', rfl, HF, HBF.out⟩
    · have n1 : (yb == xl) = false := beq_eq_false_iff_ne.2 e1
      clear e1 HNO2
      go_wp2_with fail
      go_quiet (fail)
      rename_i nq
      have HBn : Hid (Below w0.heap.size w0 (World.drewN w0 nq)) := below_drewN (Below.refl _ _) nq
      have HO2 := Lib.hid (own_drewN HO.out nq)
      have HCX := Lib.hid (HM.out.below hlt HBn.out)
      clear c0 c1 c2 c3 m0 m1 m2 m3
      generalize hw : World.drewN w0 nq = w2 at HBn HO2 HCX ⊢
      clear hw
      obtain ⟨k0, k1, k2, k3⟩ : _ ∧ _ ∧ _ ∧ _ := HCX.out
      have hsz2 := HBn.out.size
      go_wp2_with (at_builtin; refine wpList_append_own _ rfl _ _ 66 rfl base 107 i0 (.agg #[.int .i64 0, .int .i64 0, .int .i64 0, .int .i64 0]) 4 32 Try.underlying66 hi0 hz0 hz1 hz2 rfl (by decide) _ _ _ rfl (HO2.out.alloc _) ⟨w2.heap.size, 0, none⟩ 1 1 [.int .i64 xl, .int .i64 xh, .int .i64 xf, .int .i64 xt] rfl rfl (cells4_new _ _ _ _ _ _) (by simp [Value.oneCell']) (by omega) (by omega) (by simp; omega) ?_; intro v' w7 hown' hgrow hbl)
      have HF := Lib.hid (HEND.out w7 v' hown')
      have HBF : Hid (Below base W w7) := (HB.out.mono hbase).trans (((HBn.out.mono hwl).alloc (Nat.le_trans hwl HBn.out.size) _).grown hgrow (by simp; omega) (own_at HO2.out))
      clear hown' hgrow hbl k0 k1 k2 k3
      go_wp2_with fail
      go_ret
      exact ⟨v', rfl, HF, HBF.out⟩
end Go.Proofs.Ytahgfggcpmnnaaa
namespace Go.Proofs.Ytahgfggcpmnnaaa
open Go Go.RowKit Gs

/-- what addChange leaves -/
structure JC (W : World) (base : Nat) (v : Value) (K : List Ch) (v' : Value) (w' : World) : Prop where
  own : RowC base v' K w'
  bel : Below base W w'
  keep : ∀ k, k < W.heap.size → some k ≠ v.ownBlock → w'.heap[k]? = W.heap[k]?
  at' : ∀ k, v'.ownBlock = some k → v.ownBlock = some k ∨ W.heap.size ≤ k
set_option maxRecDepth 100000 in
set_option maxHeartbeats 1000000 in
theorem addChange_no {base : Nat} {v : Value} {K : List Ch} {xl xh xf xt : Int} {W : World} (hown : W.ownsRow base 107 4 v K.length (K.flatMap encC)) (hbase : base ≤ W.heap.size) (hlen : K.length ≤ 200000000000) (hno : ∀ (m : Nat) (h : m < K.length), K.length = m + 1 → K[m].hi = xl → K[m].fr = xf → K[m].tt ≠ xt) :
    Calls Try.prog 64 #[v, .agg #[.int .i64 xl, .int .i64 xh, .int .i64 xf, .int .i64 xt]] W fun e w' => ∃ v', e = .returned v' ∧ Hid (JC W base v (K ++ [⟨xl, xh, xf, xt⟩]) v' w') := by
  obtain ⟨va, vc, rfl⟩ := own_slice hown
  obtain ⟨w0, HW⟩ : ∃ w0, w0 = W.alloc (.cells #[.int .i64 xl, .int .i64 xh, .int .i64 xf, .int .i64 xt] 107) := ⟨_, rfl⟩
  have hm : Cx W.heap.size ⟨xl, xh, xf, xt⟩ w0 := by rw [HW]; exact Cx.new W ⟨xl, xh, xf, xt⟩ _
  have hb : Below W.heap.size W w0 := by rw [HW]; exact (Below.refl _ _).alloc (Nat.le_refl _) _
  have ho : w0.ownsRow base 107 4 (.slice va K.length vc) K.length (K.flatMap encC) := by rw [HW]; exact hown.alloc _
  have hlt : W.heap.size < w0.heap.size := by rw [HW]; simp
  have hcs := IsCs.of_row ho
  obtain ⟨n, hn⟩ : ∃ n, n = K.length := ⟨_, rfl⟩
  have HN := Lib.hid hn
  rw [← hn] at ho hcs hlen ⊢
  obtain ⟨XS, hXS⟩ : ∃ XS, XS = K.flatMap encC := ⟨_, rfl⟩
  rw [← hXS] at ho
  have HM := Lib.hid hm; have HB := Lib.hid hb; have HW' := Lib.hid HW; have HO := Lib.hid ho; have HNO := Lib.hid hno
  have hml : n + 1 ≤ maxLen := Nat.le_trans (show n + 1 ≤ 200000000001 by omega) (by decide)
  have hwl : base ≤ w0.heap.size := by omega
  have HEND : Hid (∀ (w2 w7 : World) (v' : Value) (o : Obj), Below w0.heap.size w0 w2 → w7.ownsRow base 107 4 v' (n + 1) (XS ++ [.int .i64 xl, .int .i64 xh, .int .i64 xf, .int .i64 xt]) → (w2.alloc o).grownBy w7 (Value.slice va n vc).ownBlock → (v'.ownBlock = (Value.slice va n vc).ownBlock ∨ v'.ownBlock = some (w2.alloc o).heap.size) → JC W base (.slice va n vc) (K ++ [⟨xl, xh, xf, xt⟩]) v' w7) := fun w2 w7 v' o h2 h hgrow hat => by
    have hx2 : W.heap.size < w2.heap.size := Nat.lt_of_lt_of_le hlt h2.size
    refine ⟨?_, (((hb.trans (h2.mono hb.size)).mono hbase).alloc (by omega) _).grown hgrow (by simp; omega) (own_at ho), fun k hk hne => ?_, fun k hk => ?_⟩
    · unfold RowC
      rw [len_snoc, List.flatMap_append (ys := [_]), ← hXS, ← hn]
      exact h
    · exact (hgrow.block k (by simp; omega) hne).trans ((Below.heap_alloc w2 o k (by omega)).trans ((h2.block k (by omega)).trans (hb.block k hk)))
    · rcases hat with h1 | h1
      · exact .inl (h1.symm.trans hk)
      · rw [h1] at hk
        injection hk with hk
        exact .inr (by simp at hk; omega)
  obtain ⟨i0, hi0, hz0, hz1, hz2⟩ := info_parts infoCh
  have HR0 : Hid (Below w0.heap.size w0 w0) := Below.refl _ _
  clear hm hb HW ho hn hXS hown hno
  go_enter Try.func64, Try.ntmps64
  go_upto_region 1 with fail
  rw [← HW'.out]
  by_cases hn0 : n = 0
  · have hgt : ¬ ((n : Int) > 0) := by omega
    have hd : decide ((n : Int) > 0) = false := decide_eq_false hgt
    have hd2 : decide (0 < n) = false := decide_eq_false (by omega)
    have hn1 : ¬ 0 < n := by omega
    clear hn0
    obtain ⟨k0, k1, k2, k3⟩ : _ ∧ _ ∧ _ ∧ _ := HM.out
    simp only at k0 k1 k2 k3
    have hsz2 := HR0.out.size
    go_wp2_with (at_builtin; refine wpList_append_own_at _ rfl _ _ 66 rfl base 107 i0 (.agg #[.int .i64 0, .int .i64 0, .int .i64 0, .int .i64 0]) 4 32 Try.underlying66 hi0 hz0 hz1 hz2 rfl (by decide) _ _ _ rfl (HO.out.alloc _) ⟨w0.heap.size, 0, none⟩ 1 1 [.int .i64 xl, .int .i64 xh, .int .i64 xf, .int .i64 xt] rfl rfl (cells4_new _ _ _ _ _ _) (by simp [Value.oneCell']) (by omega) (by omega) (by simp; omega) ?_; intro v' w7 hown' hgrow _ hat)
    have HF := Lib.hid (HEND.out w0 w7 v' _ HR0.out hown' hgrow hat)
    clear hown' hgrow hat k0 k1 k2 k3
    go_wp2_with fail
    go_ret
    exact ⟨v', rfl, HF⟩
  · obtain ⟨m, hmn⟩ : ∃ m, n = m + 1 := ⟨n - 1, by omega⟩
    have hgt : (n : Int) > 0 := by omega
    have hd : decide ((n : Int) > 0) = true := decide_eq_true hgt
    have hd2 : decide (0 < n) = true := decide_eq_true (by omega)
    have hn1 : 0 < n := by omega
    have hwr : IntKind.i64.wrap ((n : Int) - 1) = (m : Int) := by rw [IntWalk.i64_in] <;> omega
    have hmk : m < K.length := by rw [← HN.out]; omega
    have hm2 : (m : Int) < n := by omega
    obtain ⟨B, o, rfl, c0, c1, c2, c3⟩ := IsCs.at' hcs hmk
    have HNO2 := Lib.hid (HNO.out m hmk (by rw [← HN.out]; exact hmn))
    obtain ⟨y, hy⟩ : ∃ y, y = K[m] := ⟨_, rfl⟩
    rw [← hy] at c0 c1 c2 c3 HNO2
    obtain ⟨ya, yb, yc, yd⟩ := y
    simp only at c0 c1 c2 c3 HNO2
    obtain ⟨m0, m1, m2, m3⟩ : _ ∧ _ ∧ _ ∧ _ := HM.out
    simp only at m0 m1 m2 m3
    clear hy hmn hn0
    by_cases e1 : yb = xl
    · by_cases e2 : yc = xf
      · have e3 := HNO2.out e1 e2
        have n3 : (yd == xt) = false := beq_eq_false_iff_ne.2 e3
        have e1 := e1.symm; have e2 := e2.symm; subst e1; subst e2
        clear e3 HNO2
        go_wp2_with fail
        go_quiet (fail)
        rename_i nq
        have HBn : Hid (Below w0.heap.size w0 (World.drewN w0 nq)) := below_drewN (Below.refl _ _) nq
        have HO2 := Lib.hid (own_drewN HO.out nq)
        have HCX := Lib.hid (HM.out.below hlt HBn.out)
        clear c0 c1 c2 c3 m0 m1 m2 m3
        generalize hw : World.drewN w0 nq = w2 at HBn HO2 HCX ⊢
        clear hw
        obtain ⟨k0, k1, k2, k3⟩ : _ ∧ _ ∧ _ ∧ _ := HCX.out
        simp only at k0 k1 k2 k3
        have hsz2 := HBn.out.size
        go_wp2_with (at_builtin; refine wpList_append_own_at _ rfl _ _ 66 rfl base 107 i0 (.agg #[.int .i64 0, .int .i64 0, .int .i64 0, .int .i64 0]) 4 32 Try.underlying66 hi0 hz0 hz1 hz2 rfl (by decide) _ _ _ rfl (HO2.out.alloc _) ⟨w2.heap.size, 0, none⟩ 1 1 [.int .i64 xl, .int .i64 xh, .int .i64 xf, .int .i64 xt] rfl rfl (cells4_new _ _ _ _ _ _) (by simp [Value.oneCell']) (by omega) (by omega) (by simp; omega) ?_; intro v' w7 hown' hgrow _ hat)
        have HF := Lib.hid (HEND.out w2 w7 v' _ HBn.out hown' hgrow hat)
        clear hown' hgrow hat k0 k1 k2 k3
        go_wp2_with fail
        go_ret
        exact ⟨v', rfl, HF⟩
      · have n2 : (yc == xf) = false := beq_eq_false_iff_ne.2 e2
        have e1 := e1.symm; subst e1
        clear e2 HNO2
        go_wp2_with fail
        go_quiet (fail)
        rename_i nq
        have HBn : Hid (Below w0.heap.size w0 (World.drewN w0 nq)) := below_drewN (Below.refl _ _) nq
        have HO2 := Lib.hid (own_drewN HO.out nq)
        have HCX := Lib.hid (HM.out.below hlt HBn.out)
        clear c0 c1 c2 c3 m0 m1 m2 m3
        generalize hw : World.drewN w0 nq = w2 at HBn HO2 HCX ⊢
        clear hw
        obtain ⟨k0, k1, k2, k3⟩ : _ ∧ _ ∧ _ ∧ _ := HCX.out
        simp only at k0 k1 k2 k3
        have hsz2 := HBn.out.size
        go_wp2_with (at_builtin; refine wpList_append_own_at _ rfl _ _ 66 rfl base 107 i0 (.agg #[.int .i64 0, .int .i64 0, .int .i64 0, .int .i64 0]) 4 32 Try.underlying66 hi0 hz0 hz1 hz2 rfl (by decide) _ _ _ rfl (HO2.out.alloc _) ⟨w2.heap.size, 0, none⟩ 1 1 [.int .i64 xl, .int .i64 xh, .int .i64 xf, .int .i64 xt] rfl rfl (cells4_new _ _ _ _ _ _) (by simp [Value.oneCell']) (by omega) (by omega) (by simp; omega) ?_; intro v' w7 hown' hgrow _ hat)
        have HF := Lib.hid (HEND.out w2 w7 v' _ HBn.out hown' hgrow hat)
        clear hown' hgrow hat k0 k1 k2 k3
        go_wp2_with fail
        go_ret
        exact ⟨v', rfl, HF⟩
    · have n1 : (yb == xl) = false := beq_eq_false_iff_ne.2 e1
      clear e1 HNO2
      go_wp2_with fail
      go_quiet (fail)
      rename_i nq
      have HBn : Hid (Below w0.heap.size w0 (World.drewN w0 nq)) := below_drewN (Below.refl _ _) nq
      have HO2 := Lib.hid (own_drewN HO.out nq)
      have HCX := Lib.hid (HM.out.below hlt HBn.out)
      clear c0 c1 c2 c3 m0 m1 m2 m3
      generalize hw : World.drewN w0 nq = w2 at HBn HO2 HCX ⊢
      clear hw
      obtain ⟨k0, k1, k2, k3⟩ : _ ∧ _ ∧ _ ∧ _ := HCX.out
      simp only at k0 k1 k2 k3
      have hsz2 := HBn.out.size
      go_wp2_with (at_builtin; refine wpList_append_own_at _ rfl _ _ 66 rfl base 107 i0 (.agg #[.int .i64 0, .int .i64 0, .int .i64 0, .int .i64 0]) 4 32 Try.underlying66 hi0 hz0 hz1 hz2 rfl (by decide) _ _ _ rfl (HO2.out.alloc _) ⟨w2.heap.size, 0, none⟩ 1 1 [.int .i64 xl, .int .i64 xh, .int .i64 xf, .int .i64 xt] rfl rfl (cells4_new _ _ _ _ _ _) (by simp [Value.oneCell']) (by omega) (by omega) (by simp; omega) ?_; intro v' w7 hown' hgrow _ hat)
      have HF := Lib.hid (HEND.out w2 w7 v' _ HBn.out hown' hgrow hat)
      clear hown' hgrow hat k0 k1 k2 k3
      go_wp2_with fail
      go_ret
      exact ⟨v', rfl, HF⟩
theorem setC_last (K : List Ch) (yl yh yf yt xh : Int) : ((K ++ [(⟨yl, yh, yf, yt⟩ : Ch)]).flatMap encC).set (K.length * 4 + 1) (.int .i64 xh) = (K ++ [(⟨yl, xh, yf, yt⟩ : Ch)]).flatMap encC := by
  rw [List.flatMap_append, List.flatMap_append, List.set_append_right _ _ (by rw [encC_len]; omega), encC_len, show K.length * 4 + 1 - K.length * 4 = 1 by omega]
  rfl
set_option maxRecDepth 100000 in
set_option maxHeartbeats 1000000 in
theorem addChange_same {base : Nat} {v : Value} {K : List Ch} {yl xl xh xf xt : Int} {W : World} (h : RowC base v (K ++ [⟨yl, xl, xf, xt⟩]) W) (hb : base ≤ W.heap.size) (hl : K.length ≤ 200000000000) :
    Calls Try.prog 64 #[v, .agg #[.int .i64 xl, .int .i64 xh, .int .i64 xf, .int .i64 xt]] W fun e w' => ∃ v', e = .returned v' ∧ Hid (JC W base v (K ++ [⟨yl, xh, xf, xt⟩]) v' w') := by
  have hown := h
  rcases h.2 with ⟨_, h0⟩ | ⟨G, c, cur, rfl, hG, hGh, hcap, -⟩
  · rw [List.length_append] at h0; cases h0
  unfold RowC at hown
  obtain ⟨m, hm⟩ : ∃ m, m = K.length := ⟨_, rfl⟩
  have hlen : (K ++ [(⟨yl, xl, xf, xt⟩ : Ch)]).length = m + 1 := by rw [hm]; simp
  rw [hlen] at hown hcap ⊢
  obtain ⟨n, hn⟩ : ∃ n, n = m + 1 := ⟨_, rfl⟩
  rw [← hn] at hown hcap ⊢
  obtain ⟨XS, hXS⟩ : ∃ XS, XS = (K ++ [(⟨yl, xl, xf, xt⟩ : Ch)]).flatMap encC := ⟨_, rfl⟩
  rw [← hXS] at hown
  obtain ⟨g0, g1, g2, g3⟩ := encC_get (K ++ [(⟨yl, xl, xf, xt⟩ : Ch)]) m (by rw [hlen]; omega)
  have e1 : (K ++ [(⟨yl, xl, xf, xt⟩ : Ch)])[m]'(by rw [hlen]; omega) = ⟨yl, xl, xf, xt⟩ := by subst hm; simp
  rw [e1, ← hXS] at g1 g2 g3
  obtain ⟨w0, HW⟩ : ∃ w0, w0 = W.alloc (.cells #[.int .i64 xl, .int .i64 xh, .int .i64 xf, .int .i64 xt] 107) := ⟨_, rfl⟩
  have hcx : Cx W.heap.size ⟨xl, xh, xf, xt⟩ w0 := by rw [HW]; exact Cx.new W ⟨xl, xh, xf, xt⟩ _
  have hb0 : Below W.heap.size W w0 := by rw [HW]; exact (Below.refl _ _).alloc (Nat.le_refl _) _
  have ho : w0.ownsRow base 107 4 (.slice (some ⟨G, 0, none⟩) n c) n XS := by rw [HW]; exact hown.alloc _
  have hlt : W.heap.size < w0.heap.size := by rw [HW]; simp
  have HM := Lib.hid hcx; have HB := Lib.hid hb0; have HO := Lib.hid ho; have HW' := Lib.hid HW
  have HCL : Hid (∀ (W' : World), W'.ownsRow base 107 4 (.slice (some ⟨G, 0, none⟩) n c) n XS → W'.cell? ⟨G, m * 4 + 1, none⟩ = some (.int .i64 xl) ∧ W'.cell? ⟨G, m * 4 + 2, none⟩ = some (.int .i64 xf) ∧ W'.cell? ⟨G, m * 4 + 3, none⟩ = some (.int .i64 xt) ∧ W'.frozen? ⟨G, m * 4 + 1, none⟩ = false) := fun W' ho =>
    ⟨(ho.cellAt (m * 4 + 1) (by omega)).trans g1, (ho.cellAt (m * 4 + 2) (by omega)).trans g2, (ho.cellAt (m * 4 + 3) (by omega)).trans g3, ho.frozenAt _⟩
  have HFIN : Hid (∀ (W' : World), Below w0.heap.size w0 W' → W'.ownsRow base 107 4 (.slice (some ⟨G, 0, none⟩) n c) n XS → JC W base (.slice (some ⟨G, 0, none⟩) n c) (K ++ [⟨yl, xh, xf, xt⟩]) (.slice (some ⟨G, 0, none⟩) n c) (W'.setCell ⟨G, m * 4 + 1, none⟩ (.int .i64 xh))) := fun W' hw ho => by
    obtain ⟨s1, s2⟩ := ho.stored (m * 4 + 1) (.int .i64 xh)
    have hbw := hb0.trans (hw.mono hb0.size)
    refine ⟨?_, (hbw.mono hb).setCell (p := ⟨G, m * 4 + 1, none⟩) hG _, fun k hk hne => (s2.block k (Nat.lt_of_lt_of_le (Nat.lt_trans hk hlt) hw.size) hne).trans (hbw.block k hk), fun k hk => .inl hk⟩
    unfold RowC
    rw [show (K ++ [(⟨yl, xh, xf, xt⟩ : Ch)]).length = n by rw [hn, hm]; simp, ← setC_last K yl xl xf xt xh, ← hXS, ← hm]
    exact s1
  have hw1 : IntKind.i64.wrap ((n : Int) - 1) = (m : Int) := by rw [IntWalk.i64_in] <;> omega
  have hgt : (n : Int) > 0 := by omega
  have hd1 : decide ((n : Int) > 0) = true := decide_eq_true hgt
  have hn0 : 0 < n := by omega
  have hd2 : decide (0 < n) = true := decide_eq_true hn0
  have hmn : (m : Int) < n := by omega
  have hml : n ≤ 200000000001 := by omega
  obtain ⟨m0, m1, m2, m3⟩ : _ ∧ _ ∧ _ ∧ _ := HM.out
  simp only at m0 m1 m2 m3
  obtain ⟨d1, d2, d3, f1⟩ := HCL.out _ HO.out
  clear HW hn hl hown h hlen hXS e1 g0 g1 g2 g3 hGh hcap hm hcx hb0 ho
  go_enter Try.func64, Try.ntmps64
  go_upto_region 1 with fail
  rw [← HW'.out]
  go_wp2_with fail
  go_quiet (fail)
  rename_i nq
  have HBn : Hid (Below w0.heap.size w0 (World.drewN w0 nq)) := below_drewN (Below.refl _ _) nq
  have HO2 := Lib.hid (own_drewN HO.out nq)
  have HCX := Lib.hid (HM.out.below hlt HBn.out)
  clear m0 m1 m2 m3 d1 d2 d3 f1
  generalize hw : World.drewN _ nq = w2 at HBn HO2 HCX ⊢
  clear hw
  obtain ⟨m0, m1, m2, m3⟩ : _ ∧ _ ∧ _ ∧ _ := HCX.out
  simp only at m0 m1 m2 m3
  obtain ⟨d1, d2, d3, f1⟩ := HCL.out _ HO2.out
  have HF := Lib.hid (HFIN.out _ HBn.out HO2.out)
  go_wp2_with fail
  go_ret
  exact ⟨_, rfl, HF.out⟩
end Go.Proofs.Ytahgfggcpmnnaaa
namespace Go.Proofs.Ytahgfggcpmnnaaa
open Go Go.RowKit Gs

theorem RowC.next {base : Nat} {v : Value} {K : List Ch} {W W2 : World} (h : RowC base v K W) (hb : Below W.heap.size W W2) : RowC base v K W2 := by
  refine ⟨h.1, ?_⟩
  rcases h.2 with h0 | ⟨g, cap, cur, h1, h2, h3, h4⟩
  · exact .inl h0
  · exact .inr ⟨g, cap, cur, h1, h2, (hb.block g (Array.getElem?_eq_some_iff.1 h3).1).trans h3, h4⟩
theorem RowC.mono {base b2 : Nat} {v : Value} {K : List Ch} {W : World} (h : RowC base v K W) (hb : b2 ≤ base) : RowC b2 v K W := by
  refine ⟨h.1, ?_⟩
  rcases h.2 with h0 | ⟨g, cap, cur, h1, h2, h3, h4⟩
  · exact .inl h0
  · exact .inr ⟨g, cap, cur, h1, Nat.le_trans hb h2, h3, h4⟩
theorem RowC.nil (base : Nat) (W : World) : RowC base (.slice none 0 0) [] W := World.ownsRow_nil _ _ _ _
/-- a run of pairs ends where the first of its two runs ends -/
theorem rl_piece {f g : Int → Int} {la lb : List R} {size : Int} (ha : Fits f 0 la size) (hb : Fits g 0 lb size) {r : R} (hr : r ∈ rl la lb) (i k : Nat) (hi : i < la.length) (hk : k < lb.length) (h1 : la[i].lo ≤ r.lo) (h2 : r.lo < la[i].hi) (h3 : lb[k].lo ≤ r.lo) (h4 : r.lo < lb[k].hi) :
    r.hi = min la[i].hi lb[k].hi := by
  obtain ⟨x, hx, hr⟩ := List.mem_flatMap.1 hr
  obtain ⟨s, hs, rfl⟩ := List.mem_map.1 hr
  obtain ⟨y, hy, hs⟩ := List.mem_flatMap.1 hs
  unfold clip1 at hs
  split at hs
  · rename_i hc
    have hs := List.mem_singleton.1 hs
    subst hs
    simp only at h1 h2 h3 h4 ⊢
    have e1 := fits_one ha (List.getElem_mem hi) hx h1 h2 (by omega) (by omega)
    have e2 := fits_one hb (List.getElem_mem hk) hy h3 h4 (by omega) (by omega)
    rw [e1, e2]
    omega
  · cases hs
theorem dec_mem {K : List R} {c : Ch} (h : c ∈ dec K) : ∃ r ∈ K, r.hi = c.hi ∧ r.tag / 16 = c.fr ∧ r.tag % 16 = c.tt := by
  unfold dec at h
  obtain ⟨r, hr, rfl⟩ := List.mem_map.1 h
  exact ⟨r, (List.mem_filter.1 hr).1, rfl, rfl, rfl⟩
theorem dec_nolink {h : Int → Int} {K M : List R} {size at' : Int} (hc : Gs.Can h 0 (K ++ M) size) (h1 : Fits h 0 K at') (hlt : at' < size) : ∀ (m : Nat) (hm : m < (dec K).length), (dec K).length = m + 1 → (dec K)[m].hi = at' → (dec K)[m].fr = h at' / 16 → (dec K)[m].tt ≠ h at' % 16 := by
  intro m hm _ e1 e2 e3
  obtain ⟨r, hr, q1, q2, q3⟩ := dec_mem (List.getElem_mem hm)
  obtain ⟨m', p1, p2, p3⟩ := hc.part
  have := h1.ends p1.1
  subst this
  have hrg := fits_rng h1 r hr
  have e4 := p3 (by omega) hlt
  obtain ⟨j, hj, rfl⟩ := List.getElem_of_mem hr
  have h5 := (fits_at h1 j hj).2.2.2 (at' - 1) (by omega) (by omega)
  rw [h5] at e4
  apply e4
  omega
set_option maxRecDepth 100000 in
set_option maxHeartbeats 4000000 in
theorem RDiff_ok {f g : Int → Int} {size : Int} {B1 B2 : Nat} {v1 v2 : Value} {La Lb : List R} {W : World} (h1 : IsRs B1 W v1 La) (h2 : IsRs B2 W v2 Lb) (hLa : Gs.Can f 0 La size) (hLb : Gs.Can g 0 Lb size) (cf : Ctx f 0 size) (cg : Ctx g 0 size) (hs : 1 ≤ size) (hla : La.length ≤ 4096) (hlb : Lb.length ≤ 4096) :
    Calls Try.prog 30 #[.agg #[.int .i64 size, v1], .agg #[.int .i64 size, v2]] W fun e w' => ∃ v, e = .returned (.tuple #[v, .int .i64 0]) ∧ Hid (RowC W.heap.size v (diffE La Lb) w') ∧ Below W.heap.size W w' := by
  have hB : ∀ p, 0 ≤ p → p < size → 0 ≤ f p ∧ f p < 16 ∧ 0 ≤ g p ∧ g p < 16 := fun p p1 p2 => ⟨(cf.2.2 p p1 p2).1, (cf.2.2 p p1 p2).2, (cg.2.2 p p1 p2).1, (cg.2.2 p p1 p2).2⟩
  have hrl := rl_can hLb hLa (Int.le_refl 0) hB
  have hdd := diff_dec (fits_tags hLb.1 cg.2.2) (fits_tags hLa.1 cf.2.2)
  rw [hdd]
  have hne : ∀ {h : Int → Int} {L : List R}, Gs.Can h 0 L size → 0 < L.length := fun h => by
    rcases fits_cut h.1 with ⟨_, e⟩ | ⟨r, k, rfl⟩
    · omega
    · simp
  have hn1 := hne hLa
  have hn2 := hne hLb
  have hdl : (diffE La Lb).length ≤ 100000000 := Nat.le_trans (diffE_len La Lb) (Nat.le_trans (Nat.mul_le_mul hla hlb) (by decide))
  rw [hdd] at hdl
  have HSZ : Hid (size ≤ 1099511627776) := cf.2.1
  obtain ⟨w1, HW1⟩ : ∃ w1, w1 = W.alloc (.cells #[.int .i64 size, v1] 33) := ⟨_, rfl⟩
  obtain ⟨w0, HW0⟩ : ∃ w0, w0 = w1.alloc (.cells #[.int .i64 size, v2] 33) := ⟨_, rfl⟩
  have b1 : Below W.heap.size W w1 := by rw [HW1]; exact (Below.refl _ _).alloc (Nat.le_refl _) _
  have b2 : Below w1.heap.size w1 w0 := by rw [HW0]; exact (Below.refl _ _).alloc (Nat.le_refl _) _
  have s1 : w1.heap.size = W.heap.size + 1 := by rw [HW1]; simp
  have hb := b1.trans (b2.mono b1.size)
  have hm : M2 W.heap.size (.int .i64 size) v1 w0 := by
    have : M2 W.heap.size (.int .i64 size) v1 w1 := by rw [HW1]; exact M2.new _ _ _ _
    exact this.next b2
  have hv : M2 (W.heap.size + 1) (.int .i64 size) v2 w0 := by rw [← s1, HW0]; exact M2.new _ _ _ _
  have hi1 := h1.below hb
  have hi2 := h2.below hb
  rw [HW1] at HW0
  have HW' := Lib.hid HW0
  have HB := Lib.hid hb; have HM := Lib.hid hm; have HV := Lib.hid hv
  have HGT1 : Hid (∀ at' W', 0 ≤ at' → at' < size → Below w0.heap.size w0 W' → Calls Try.prog 19 #[.agg #[.int .i64 size, v1], .int .i64 at'] W' fun e w' => e = .returned (.tuple #[.int .i64 (f at'), .int .i64 0]) ∧ Below w0.heap.size w0 w' ∧ Below W'.heap.size W' w') := fun at' W' p1 p2 h => (RGet_any (hi1.below h) hLa hs hla).mono fun e w' ⟨he, hB⟩ => ⟨by rw [he]; unfold getT getE; rw [if_pos ⟨p1, p2⟩, if_pos ⟨p1, p2⟩], h.trans (hB.mono h.size), hB⟩
  have HGT2 : Hid (∀ at' W', 0 ≤ at' → at' < size → Below w0.heap.size w0 W' → Calls Try.prog 19 #[.agg #[.int .i64 size, v2], .int .i64 at'] W' fun e w' => e = .returned (.tuple #[.int .i64 (g at'), .int .i64 0]) ∧ Below w0.heap.size w0 w' ∧ Below W'.heap.size W' w') := fun at' W' p1 p2 h => (RGet_any (hi2.below h) hLb hs hlb).mono fun e w' ⟨he, hB⟩ => ⟨by rw [he]; unfold getT getE; rw [if_pos ⟨p1, p2⟩, if_pos ⟨p1, p2⟩], h.trans (hB.mono h.size), hB⟩
  have HLA := Lib.hid hLa; have HLB := Lib.hid hLb
  obtain ⟨a1, c1, hv1, -⟩ := h1
  obtain ⟨a2, c2, hv2, -⟩ := h2
  subst hv1; subst hv2
  have HUS1 : Hid (∀ W', Below w0.heap.size w0 W' → Calls Try.prog 42 #[.agg #[.int .i64 size, .slice a1 La.length c1]] W' fun e w' => e = .returned (.bool true) ∧ Below w0.heap.size w0 w') := fun W' h => by
    have := RUsable_any size a1 La.length c1 W'
    rw [decide_eq_true hn1] at this
    exact this.mono fun e w' ⟨he, hB⟩ => ⟨he, h.trans (hB.mono h.size)⟩
  have HUS2 : Hid (∀ W', Below w0.heap.size w0 W' → Calls Try.prog 42 #[.agg #[.int .i64 size, .slice a2 Lb.length c2]] W' fun e w' => e = .returned (.bool true) ∧ Below w0.heap.size w0 w') := fun W' h => by
    have := RUsable_any size a2 Lb.length c2 W'
    rw [decide_eq_true hn2] at this
    exact this.mono fun e w' ⟨he, hB⟩ => ⟨he, h.trans (hB.mono h.size)⟩
  obtain ⟨n1, hq1⟩ : ∃ n, n = La.length := ⟨_, rfl⟩
  obtain ⟨n2, hq2⟩ : ∃ n, n = Lb.length := ⟨_, rfl⟩
  have HNX1 : Hid (∀ at' i (hi : i < La.length), La[i].lo ≤ at' → at' < La[i].hi → ∀ W', Below w0.heap.size w0 W' → Calls Try.prog 59 #[.agg #[.int .i64 size, .slice a1 n1 c1], .int .i64 at'] W' fun e w' => e = .returned (.int .i64 La[i].hi) ∧ Below w0.heap.size w0 w' ∧ Below W'.heap.size W' w') := fun at' i hi x1 x2 W' h => by
    rw [hq1]
    exact (RNext_any (hi1.below h) hLa.1 hla i hi x1 x2).mono fun e w' ⟨he, hB⟩ => ⟨he, h.trans (hB.mono h.size), hB⟩
  have HNX2 : Hid (∀ at' i (hi : i < Lb.length), Lb[i].lo ≤ at' → at' < Lb[i].hi → ∀ W', Below w0.heap.size w0 W' → Calls Try.prog 59 #[.agg #[.int .i64 size, .slice a2 n2 c2], .int .i64 at'] W' fun e w' => e = .returned (.int .i64 Lb[i].hi) ∧ Below w0.heap.size w0 w' ∧ Below W'.heap.size W' w') := fun at' i hi x1 x2 W' h => by
    rw [hq2]
    exact (RNext_any (hi2.below h) hLb.1 hlb i hi x1 x2).mono fun e w' ⟨he, hB⟩ => ⟨he, h.trans (hB.mono h.size), hB⟩
  rw [← hq1] at HUS1 HGT1 HM HW' ⊢
  rw [← hq2] at HUS2 HGT2 HV HW' ⊢
  obtain ⟨RL, hRL⟩ : ∃ RL, RL = rl La Lb := ⟨_, rfl⟩
  rw [← hRL] at hrl hdl ⊢
  have HRL := Lib.hid hrl; have HRLE := Lib.hid hRL; have HBB := Lib.hid hB; have HDL := Lib.hid hdl
  have HALL : Hid (∀ W', Below w0.heap.size w0 W' → W'.cell? ⟨W.heap.size, 0, none⟩ = some (.int .i64 size) ∧ W'.cell? ⟨W.heap.size, 1, none⟩ = some (.slice a1 n1 c1) ∧ W'.cell? ⟨W.heap.size + 1, 0, none⟩ = some (.int .i64 size) ∧ W'.cell? ⟨W.heap.size + 1, 1, none⟩ = some (.slice a2 n2 c2)) := fun W' h => ⟨(HM.out.next h).c0, (HM.out.next h).c1, (HV.out.next h).c0, (HV.out.next h).c1⟩
  clear HM HV hLa hLb cf cg hla hlb hB hrl hdd hne hn1 hn2 hdl HW1 HW0 b1 b2 s1 hb hm hv hi1 hi2 hq1 hq2 hRL
  have HR0 : Hid (Below w0.heap.size w0 w0) := Below.refl _ _
  go_enter Try.func30, Try.ntmps30
  go_upto_region 1 with fail
  rw [← HW'.out]
  obtain ⟨k0, k1, k2, k3⟩ := HALL.out w0 HR0.out
  go_wp2_with fail
  refine (HUS1.out _ HR0.out).mono ?_
  rintro e w2 ⟨rfl, hb⟩
  have HR2 := Lib.hid hb
  clear hb k0 k1 k2 k3
  obtain ⟨k0, k1, k2, k3⟩ := HALL.out w2 HR2.out
  go_wp2_with fail
  refine (HUS2.out _ HR2.out).mono ?_
  rintro e w3 ⟨rfl, hb⟩
  have HR3 := Lib.hid hb
  clear hb k0 k1 k2 k3
  obtain ⟨k0, k1, k2, k3⟩ := HALL.out w3 HR3.out
  go_wp2_with fail
  clear k0 k1 k2 k3
  go_loopw [6, 7] (fun ov iv wr => ∃ (j : Nat) (at' : Int), iv = .int .i64 at' ∧ Hid (j ≤ RL.length) ∧ Hid (0 ≤ at' ∧ at' ≤ size) ∧ Hid (Fits (pr f g) 0 (RL.take j) at' ∧ Fits (pr f g) at' (RL.drop j) size) ∧ Hid (RowC w0.heap.size ov (dec (RL.take j)) wr) ∧ Hid (Below w0.heap.size w0 wr)) (fun _ i _ => (size - intOf i).toNat)
  case atStart => exact ⟨0, 0, rfl, Nat.zero_le _, ⟨Int.le_refl 0, by omega⟩, ⟨rfl, HRL.out.1⟩, RowC.nil _ _, HR3.out⟩
  case round =>
    obtain ⟨j, at', rfl, HJ, HAT, HF, HRW, HR⟩ := hrel
    obtain ⟨k0, k1, k2, k3⟩ := HALL.out wr HR.out
    by_cases hlt : at' < size
    · have hat0 := HAT.out.1
      have hjl : j < RL.length := by
        rcases Nat.lt_or_ge j RL.length with h | h
        · exact h
        · have h9 := HF.out.2
          rw [List.drop_of_length_le h] at h9
          have h9 : at' = size := h9
          omega
      obtain ⟨r, hr⟩ : ∃ r, r = RL[j] := ⟨_, rfl⟩
      have hdr : RL.drop j = r :: RL.drop (j + 1) := by rw [hr]; exact List.drop_eq_getElem_cons hjl
      have htk : RL.take (j + 1) = RL.take j ++ [r] := by rw [hr]; exact List.take_succ_eq_append_getElem hjl
      have hFd := HF.out.2
      rw [hdr] at hFd
      have q1 := hFd.1; have q2 := hFd.2.1; have q3 := hFd.2.2.1; have q4 := hFd.2.2.2
      have q5 := q4.le
      obtain ⟨i, hi, i1, i2⟩ := fits_idx HLA.out.1 hat0 hlt
      obtain ⟨k, hk, j1, j2⟩ := fits_idx HLB.out.1 hat0 hlt
      have hmin := rl_piece HLA.out.1 HLB.out.1 (r := r) (by rw [← HRLE.out, hr]; exact List.getElem_mem hjl) i k hi hk (by omega) (by omega) (by omega) (by omega)
      have htag := q3 at' (by omega) (by omega)
      have hbd := HBB.out at' hat0 hlt
      have hfx : f at' = r.tag / 16 := by unfold pr at htag; omega
      have hgx : g at' = r.tag % 16 := by unfold pr at htag; omega
      have hnl := dec_nolink (K := RL.take j) (M := RL.drop j) (by rw [List.take_append_drop]; exact HRL.out) HF.out.1 hlt
      rw [htag, ← hfx, ← hgx] at hnl
      have hdt : dec (RL.take (j + 1)) = dec (RL.take j) ++ (if f at' = g at' then [] else [⟨at', r.hi, f at', g at'⟩]) := by
        rw [htk, dec_append, dec_cons, ← hfx, ← hgx, q1]
        congr 1
        exact List.append_nil _
      have hlen : (dec (RL.take j)).length ≤ 100000000 := by
        have h9 := HDL.out
        rw [← List.take_append_drop j RL, dec_append, List.length_append] at h9
        omega
      have HF2 : Hid (Fits (pr f g) 0 (RL.take (j + 1)) r.hi ∧ Fits (pr f g) r.hi (RL.drop (j + 1)) size) := ⟨by rw [htk]; exact fits_append.2 ⟨at', HF.out.1, q1, q2, q3, rfl⟩, q4⟩
      have HN1 := Lib.hid (HNX1.out at' i hi i1 i2)
      have HN2 := Lib.hid (HNX2.out at' k hk j1 j2)
      have HG1 := Lib.hid (fun W' h => HGT1.out at' W' hat0 hlt h)
      have HG2 := Lib.hid (fun W' h => HGT2.out at' W' hat0 hlt h)
      have HLK : Hid (f at' ≠ g at' → ∀ W' ov, Below w0.heap.size w0 W' → RowC w0.heap.size ov (dec (RL.take j)) W' → Calls Try.prog 60 #[ov, .agg #[.int .i64 at', .int .i64 r.hi, .int .i64 (f at'), .int .i64 (g at')]] W' fun e w' => ∃ v', e = .returned v' ∧ Hid (RowC w0.heap.size v' (dec (RL.take (j + 1))) w') ∧ Below w0.heap.size w0 w') := fun hne W' ov h ho => by
        refine (Rlink_no (x := ⟨at', r.hi, f at', g at'⟩) ho h.size hlen hnl).mono ?_
        rintro e w' ⟨v', he, hr, hB⟩
        rw [hdt, if_neg hne]
        exact ⟨v', he, hr, h.trans hB⟩
      have HST : Hid (f at' = g at' → dec (RL.take (j + 1)) = dec (RL.take j)) := fun e => by rw [hdt, if_pos e, List.append_nil]
      have HRNG : Hid (0 ≤ r.hi ∧ r.hi ≤ size) := ⟨by omega, q5⟩
      have HJ2 : Hid (j + 1 ≤ RL.length) := hjl
      have hzat : at' < r.hi := by omega
      obtain ⟨z, hz⟩ : ∃ z, z = r.hi := ⟨_, rfl⟩
      obtain ⟨A, hA⟩ : ∃ A, A = La[i].hi := ⟨_, rfl⟩
      obtain ⟨B, hBq⟩ : ∃ B, B = Lb[k].hi := ⟨_, rfl⟩
      obtain ⟨x, hx⟩ : ∃ x, x = f at' := ⟨_, rfl⟩
      obtain ⟨y, hy⟩ : ∃ y, y = g at' := ⟨_, rfl⟩
      rw [← hz, ← hA, ← hBq] at hmin
      rw [← hA] at HN1
      rw [← hBq] at HN2
      rw [← hx] at HG1
      rw [← hy] at HG2
      rw [← hz, ← hx, ← hy] at HLK
      rw [← hx, ← hy] at HST
      rw [← hz] at HF2 HRNG hzat
      clear hdr htk hFd q1 q2 q3 q4 q5 i1 i2 j1 j2 htag hbd hfx hgx hnl hdt hlen hz hA hBq hx hy hi hk hr hjl HNX1 HNX2 HGT1 HGT2 HF HAT HJ
      rcases Int.lt_trichotomy A B with hab | hab | hab
      · have hAz : A = z := by omega
        subst hAz
        clear hmin
        have HALLr : Hid (∀ W', Below wr.heap.size wr W' → W'.cell? ⟨W.heap.size, 0, none⟩ = some (.int .i64 size) ∧ W'.cell? ⟨W.heap.size, 1, none⟩ = some (.slice a1 n1 c1) ∧ W'.cell? ⟨W.heap.size + 1, 0, none⟩ = some (.int .i64 size) ∧ W'.cell? ⟨W.heap.size + 1, 1, none⟩ = some (.slice a2 n2 c2)) := fun W' h => HALL.out W' (HR.out.trans (h.mono HR.out.size))
        have HN1r : Hid (∀ W', Below wr.heap.size wr W' → Calls Try.prog 59 #[.agg #[.int .i64 size, .slice a1 n1 c1], .int .i64 at'] W' fun e w' => e = .returned (.int .i64 A) ∧ Below wr.heap.size wr w') := fun W' h => (HN1.out W' (HR.out.trans (h.mono HR.out.size))).mono fun e w' ⟨he, _, hB⟩ => ⟨he, h.trans (hB.mono h.size)⟩
        have HN2r : Hid (∀ W', Below wr.heap.size wr W' → Calls Try.prog 59 #[.agg #[.int .i64 size, .slice a2 n2 c2], .int .i64 at'] W' fun e w' => e = .returned (.int .i64 B) ∧ Below wr.heap.size wr w') := fun W' h => (HN2.out W' (HR.out.trans (h.mono HR.out.size))).mono fun e w' ⟨he, _, hB⟩ => ⟨he, h.trans (hB.mono h.size)⟩
        have hs : Below wr.heap.size wr wr := Below.refl _ _
        have hs2 := hs.drew
        have hcl := HALLr.out _ hs2
        clear k0 k1 k2 k3 HN1 HN2
        have hc0 := HALLr.out _ hs
        go_wp2_with fail
        go_region_held3 (fun W' : World => W'.cell? ⟨W.heap.size, 0, none⟩ = some (.int .i64 size) ∧ W'.cell? ⟨W.heap.size, 1, none⟩ = some (.slice a1 n1 c1) ∧ W'.cell? ⟨W.heap.size + 1, 0, none⟩ = some (.int .i64 size) ∧ W'.cell? ⟨W.heap.size + 1, 1, none⟩ = some (.slice a2 n2 c2)) (first | assumption | fail) (first
          | (go_at_call 59; with_reducible refine (HN1r.out _ ?h).mono ?_; (case h => assumption); rintro e w' ⟨rfl, hs1'⟩; have hc1' := HALLr.out _ hs1')
          | (go_at_call 59; with_reducible refine (HN2r.out _ ?h).mono ?_; (case h => assumption); rintro e w' ⟨rfl, hs2'⟩; have hc2' := HALLr.out _ hs2') | fail)
        have HR1 := Lib.hid (HR.out.trans (hs2'.mono HR.out.size))
        have HRW1 := Lib.hid (HRW.out.next hs2')
        clear hs hs2 hcl hc0 hs1' hc1' hc2' hs2'
        obtain ⟨k0, k1, k2, k3⟩ := HALL.out _ HR1.out
        go_wp2_with fail
        refine (HG1.out _ HR1.out).mono ?_
        rintro e w5 ⟨rfl, hb, hb2⟩
        have HR5 := Lib.hid hb
        have HRW5 := Lib.hid (HRW1.out.next hb2)
        clear hb hb2 k0 k1 k2 k3
        obtain ⟨k0, k1, k2, k3⟩ := HALL.out _ HR5.out
        go_wp2_with fail
        refine (HG2.out _ HR5.out).mono ?_
        rintro e w6 ⟨rfl, hb, hb2⟩
        have HR6 := Lib.hid hb
        have HRW6 := Lib.hid (HRW5.out.next hb2)
        clear hb hb2 k0 k1 k2 k3
        by_cases hxy : x = y
        · have HRW7 : Hid (RowC w0.heap.size u6 (dec (RL.take (j + 1))) w6) := by
            rw [HST.out hxy]
            exact HRW6.out
          clear HST HLK
          subst hxy
          go_wp2_with fail
          go_roundw
          case rel => exact ⟨j + 1, _, rfl, HJ2, HRNG, HF2, HRW7, HR6⟩
          case measure => simp [intOf]; omega
        · have n3 : (x == y) = false := beq_eq_false_iff_ne.2 hxy
          have HL7 := Lib.hid (HLK.out hxy w6 u6 HR6.out HRW6.out)
          clear HST HLK hxy
          go_wp2_with fail
          refine HL7.out.mono ?_
          rintro e w7 ⟨v7, rfl, HRW7, hb⟩
          have HR7 := Lib.hid hb
          clear hb
          go_wp2_with fail
          go_roundw
          case rel => exact ⟨j + 1, _, rfl, HJ2, HRNG, HF2, HRW7, HR7⟩
          case measure => simp [intOf]; omega
      · have hAz : A = z := by omega
        subst hab
        subst hAz
        clear hmin
        have HALLr : Hid (∀ W', Below wr.heap.size wr W' → W'.cell? ⟨W.heap.size, 0, none⟩ = some (.int .i64 size) ∧ W'.cell? ⟨W.heap.size, 1, none⟩ = some (.slice a1 n1 c1) ∧ W'.cell? ⟨W.heap.size + 1, 0, none⟩ = some (.int .i64 size) ∧ W'.cell? ⟨W.heap.size + 1, 1, none⟩ = some (.slice a2 n2 c2)) := fun W' h => HALL.out W' (HR.out.trans (h.mono HR.out.size))
        have HN1r : Hid (∀ W', Below wr.heap.size wr W' → Calls Try.prog 59 #[.agg #[.int .i64 size, .slice a1 n1 c1], .int .i64 at'] W' fun e w' => e = .returned (.int .i64 A) ∧ Below wr.heap.size wr w') := fun W' h => (HN1.out W' (HR.out.trans (h.mono HR.out.size))).mono fun e w' ⟨he, _, hB⟩ => ⟨he, h.trans (hB.mono h.size)⟩
        have HN2r : Hid (∀ W', Below wr.heap.size wr W' → Calls Try.prog 59 #[.agg #[.int .i64 size, .slice a2 n2 c2], .int .i64 at'] W' fun e w' => e = .returned (.int .i64 A) ∧ Below wr.heap.size wr w') := fun W' h => (HN2.out W' (HR.out.trans (h.mono HR.out.size))).mono fun e w' ⟨he, _, hB⟩ => ⟨he, h.trans (hB.mono h.size)⟩
        have hs : Below wr.heap.size wr wr := Below.refl _ _
        have hs2 := hs.drew
        have hcl := HALLr.out _ hs2
        clear k0 k1 k2 k3 HN1 HN2
        have hc0 := HALLr.out _ hs
        go_wp2_with fail
        go_region_held3 (fun W' : World => W'.cell? ⟨W.heap.size, 0, none⟩ = some (.int .i64 size) ∧ W'.cell? ⟨W.heap.size, 1, none⟩ = some (.slice a1 n1 c1) ∧ W'.cell? ⟨W.heap.size + 1, 0, none⟩ = some (.int .i64 size) ∧ W'.cell? ⟨W.heap.size + 1, 1, none⟩ = some (.slice a2 n2 c2)) (first | assumption | fail) (first
          | (go_at_call 59; with_reducible refine (HN1r.out _ ?h).mono ?_; (case h => assumption); rintro e w' ⟨rfl, hs1'⟩; have hc1' := HALLr.out _ hs1')
          | (go_at_call 59; with_reducible refine (HN2r.out _ ?h).mono ?_; (case h => assumption); rintro e w' ⟨rfl, hs2'⟩; have hc2' := HALLr.out _ hs2') | fail)
        have HR1 := Lib.hid (HR.out.trans (hs2'.mono HR.out.size))
        have HRW1 := Lib.hid (HRW.out.next hs2')
        clear hs hs2 hcl hc0 hs1' hc1' hc2' hs2'
        obtain ⟨k0, k1, k2, k3⟩ := HALL.out _ HR1.out
        go_wp2_with fail
        refine (HG1.out _ HR1.out).mono ?_
        rintro e w5 ⟨rfl, hb, hb2⟩
        have HR5 := Lib.hid hb
        have HRW5 := Lib.hid (HRW1.out.next hb2)
        clear hb hb2 k0 k1 k2 k3
        obtain ⟨k0, k1, k2, k3⟩ := HALL.out _ HR5.out
        go_wp2_with fail
        refine (HG2.out _ HR5.out).mono ?_
        rintro e w6 ⟨rfl, hb, hb2⟩
        have HR6 := Lib.hid hb
        have HRW6 := Lib.hid (HRW5.out.next hb2)
        clear hb hb2 k0 k1 k2 k3
        by_cases hxy : x = y
        · have HRW7 : Hid (RowC w0.heap.size u6 (dec (RL.take (j + 1))) w6) := by
            rw [HST.out hxy]
            exact HRW6.out
          clear HST HLK
          subst hxy
          go_wp2_with fail
          go_roundw
          case rel => exact ⟨j + 1, _, rfl, HJ2, HRNG, HF2, HRW7, HR6⟩
          case measure => simp [intOf]; omega
        · have n3 : (x == y) = false := beq_eq_false_iff_ne.2 hxy
          have HL7 := Lib.hid (HLK.out hxy w6 u6 HR6.out HRW6.out)
          clear HST HLK hxy
          go_wp2_with fail
          refine HL7.out.mono ?_
          rintro e w7 ⟨v7, rfl, HRW7, hb⟩
          have HR7 := Lib.hid hb
          clear hb
          go_wp2_with fail
          go_roundw
          case rel => exact ⟨j + 1, _, rfl, HJ2, HRNG, HF2, HRW7, HR7⟩
          case measure => simp [intOf]; omega
      · have hBz : B = z := by omega
        subst hBz
        clear hmin
        have HALLr : Hid (∀ W', Below wr.heap.size wr W' → W'.cell? ⟨W.heap.size, 0, none⟩ = some (.int .i64 size) ∧ W'.cell? ⟨W.heap.size, 1, none⟩ = some (.slice a1 n1 c1) ∧ W'.cell? ⟨W.heap.size + 1, 0, none⟩ = some (.int .i64 size) ∧ W'.cell? ⟨W.heap.size + 1, 1, none⟩ = some (.slice a2 n2 c2)) := fun W' h => HALL.out W' (HR.out.trans (h.mono HR.out.size))
        have HN1r : Hid (∀ W', Below wr.heap.size wr W' → Calls Try.prog 59 #[.agg #[.int .i64 size, .slice a1 n1 c1], .int .i64 at'] W' fun e w' => e = .returned (.int .i64 A) ∧ Below wr.heap.size wr w') := fun W' h => (HN1.out W' (HR.out.trans (h.mono HR.out.size))).mono fun e w' ⟨he, _, hB⟩ => ⟨he, h.trans (hB.mono h.size)⟩
        have HN2r : Hid (∀ W', Below wr.heap.size wr W' → Calls Try.prog 59 #[.agg #[.int .i64 size, .slice a2 n2 c2], .int .i64 at'] W' fun e w' => e = .returned (.int .i64 B) ∧ Below wr.heap.size wr w') := fun W' h => (HN2.out W' (HR.out.trans (h.mono HR.out.size))).mono fun e w' ⟨he, _, hB⟩ => ⟨he, h.trans (hB.mono h.size)⟩
        have hs : Below wr.heap.size wr wr := Below.refl _ _
        have hs2 := hs.drew
        have hcl := HALLr.out _ hs2
        clear k0 k1 k2 k3 HN1 HN2
        have hc0 := HALLr.out _ hs
        go_wp2_with fail
        go_region_held3 (fun W' : World => W'.cell? ⟨W.heap.size, 0, none⟩ = some (.int .i64 size) ∧ W'.cell? ⟨W.heap.size, 1, none⟩ = some (.slice a1 n1 c1) ∧ W'.cell? ⟨W.heap.size + 1, 0, none⟩ = some (.int .i64 size) ∧ W'.cell? ⟨W.heap.size + 1, 1, none⟩ = some (.slice a2 n2 c2)) (first | assumption | fail) (first
          | (go_at_call 59; with_reducible refine (HN1r.out _ ?h).mono ?_; (case h => assumption); rintro e w' ⟨rfl, hs1'⟩; have hc1' := HALLr.out _ hs1')
          | (go_at_call 59; with_reducible refine (HN2r.out _ ?h).mono ?_; (case h => assumption); rintro e w' ⟨rfl, hs2'⟩; have hc2' := HALLr.out _ hs2') | fail)
        have HR1 := Lib.hid (HR.out.trans (hs2'.mono HR.out.size))
        have HRW1 := Lib.hid (HRW.out.next hs2')
        clear hs hs2 hcl hc0 hs1' hc1' hc2' hs2'
        obtain ⟨k0, k1, k2, k3⟩ := HALL.out _ HR1.out
        go_wp2_with fail
        refine (HG1.out _ HR1.out).mono ?_
        rintro e w5 ⟨rfl, hb, hb2⟩
        have HR5 := Lib.hid hb
        have HRW5 := Lib.hid (HRW1.out.next hb2)
        clear hb hb2 k0 k1 k2 k3
        obtain ⟨k0, k1, k2, k3⟩ := HALL.out _ HR5.out
        go_wp2_with fail
        refine (HG2.out _ HR5.out).mono ?_
        rintro e w6 ⟨rfl, hb, hb2⟩
        have HR6 := Lib.hid hb
        have HRW6 := Lib.hid (HRW5.out.next hb2)
        clear hb hb2 k0 k1 k2 k3
        by_cases hxy : x = y
        · have HRW7 : Hid (RowC w0.heap.size u6 (dec (RL.take (j + 1))) w6) := by
            rw [HST.out hxy]
            exact HRW6.out
          clear HST HLK
          subst hxy
          go_wp2_with fail
          go_roundw
          case rel => exact ⟨j + 1, _, rfl, HJ2, HRNG, HF2, HRW7, HR6⟩
          case measure => simp [intOf]; omega
        · have n3 : (x == y) = false := beq_eq_false_iff_ne.2 hxy
          have HL7 := Lib.hid (HLK.out hxy w6 u6 HR6.out HRW6.out)
          clear HST HLK hxy
          go_wp2_with fail
          refine HL7.out.mono ?_
          rintro e w7 ⟨v7, rfl, HRW7, hb⟩
          have HR7 := Lib.hid hb
          clear hb
          go_wp2_with fail
          go_roundw
          case rel => exact ⟨j + 1, _, rfl, HJ2, HRNG, HF2, HRW7, HR7⟩
          case measure => simp [intOf]; omega
    · have HE : Hid (RowC W.heap.size u6 (dec RL) wr) := by
        have h9 := HF.out.2
        have e : at' = size := by have := HAT.out.2; omega
        have hj : RL.drop j = [] := by
          cases hd : RL.drop j with
          | nil => rfl
          | cons s t => rw [hd] at h9; have := h9.lt; omega
        have hl : RL.take j = RL := by
          have := List.take_append_drop j RL
          rw [hj, List.append_nil] at this
          exact this
        have h8 := HRW.out
        rw [hl] at h8
        exact h8.mono HB.out.size
      have HFIN := Lib.hid (HB.out.trans (HR.out.mono HB.out.size))
      go_wp2_with fail
      refine bodyPost_ret (v := .tuple #[_, .int .i64 0]) (by simp [results, Try.results30, go_sem]; rfl) rfl ?_
      exact ⟨_, rfl, HE.out, HFIN.out⟩
end Go.Proofs.Ytahgfggcpmnnaaa
namespace Go.Proofs.Ytahgfggcpmnnaaa
open Go Go.RowKit Gs

/-- a piece on which none of three maps changes -/
structure M3 where
  lo : Int
  hi : Int
  o : Int
  x : Int
  y : Int
def m3y (o x : R) (l : List R) : List M3 := l.map fun y => ⟨y.lo, y.hi, o.tag, x.tag, y.tag⟩
def m3x (o : R) (l ly : List R) : List M3 := l.flatMap fun x => m3y o x (clip x.lo x.hi ly)
def m3 (la lx ly : List R) : List M3 := la.flatMap fun o => m3x o (clip o.lo o.hi lx) ly
theorem m3y_snoc (o x : R) (l : List R) (y : R) : m3y o x (l ++ [y]) = m3y o x l ++ [⟨y.lo, y.hi, o.tag, x.tag, y.tag⟩] := by
  unfold m3y; rw [List.map_append]; rfl
theorem m3x_snoc (o : R) (l : List R) (x : R) (ly : List R) : m3x o (l ++ [x]) ly = m3x o l ly ++ m3y o x (clip x.lo x.hi ly) := by
  unfold m3x; rw [List.flatMap_append, List.flatMap_cons, List.flatMap_nil, List.append_nil]
theorem m3_snoc (la : List R) (o : R) (lx ly : List R) : m3 (la ++ [o]) lx ly = m3 la lx ly ++ m3x o (clip o.lo o.hi lx) ly := by
  unfold m3; rw [List.flatMap_append, List.flatMap_cons, List.flatMap_nil, List.append_nil]
/-- a run behind others; of the same tag it makes the last one longer -/
def addR (l : List R) (r : R) : List R := match l.getLast? with
  | some y => if y.tag = r.tag then l.dropLast ++ [⟨y.lo, r.hi, y.tag⟩] else l ++ [r]
  | none => [r]
def stepR (l : List R) (t : M3) : List R := addR l ⟨t.lo, t.hi, mt t.o t.x t.y⟩
def mR (T : List M3) : List R := T.foldl stepR []
/-- a change behind others; next to the last one, with the same tags, it makes it longer -/
def joinC (K : List Ch) (c : Ch) : List Ch := match K.getLast? with
  | some d => if d.hi = c.lo ∧ d.fr = c.fr ∧ d.tt = c.tt then K.dropLast ++ [⟨d.lo, c.hi, c.fr, c.tt⟩] else K ++ [c]
  | none => [c]
def stepC (K : List Ch) (t : M3) : List Ch := if mtb t.o t.x t.y = true then K else joinC K ⟨t.lo, t.hi, t.x, t.y⟩
def mC (T : List M3) : List Ch := T.foldl stepC []
theorem mR_snoc (T : List M3) (t : M3) : mR (T ++ [t]) = addR (mR T) ⟨t.lo, t.hi, mt t.o t.x t.y⟩ := by unfold mR; rw [List.foldl_append]; rfl
theorem mC_snoc (T : List M3) (t : M3) : mC (T ++ [t]) = stepC (mC T) t := by unfold mC; rw [List.foldl_append]; rfl
theorem addR_len (l : List R) (r : R) : (addR l r).length ≤ l.length + 1 := by
  unfold addR
  split
  · split
    · rw [List.length_append, List.length_dropLast, List.length_singleton]; omega
    · simp
  · simp
theorem joinC_len (l : List Ch) (r : Ch) : (joinC l r).length ≤ l.length + 1 := by
  unfold joinC
  split
  · split
    · rw [List.length_append, List.length_dropLast, List.length_singleton]; omega
    · simp
  · simp
theorem stepC_len (l : List Ch) (t : M3) : (stepC l t).length ≤ l.length + 1 := by
  unfold stepC
  split
  · omega
  · exact joinC_len _ _
theorem mR_len (T : List M3) : (mR T).length ≤ T.length := by
  unfold mR
  suffices ∀ l, (T.foldl stepR l).length ≤ l.length + T.length by have := this []; simpa using this
  induction T with
  | nil => intro l; simp
  | cons t T ih =>
    intro l
    have h1 := ih (stepR l t)
    have h2 : (stepR l t).length ≤ l.length + 1 := addR_len _ _
    rw [List.foldl_cons, List.length_cons]
    omega
theorem mC_len (T : List M3) : (mC T).length ≤ T.length := by
  unfold mC
  suffices ∀ l, (T.foldl stepC l).length ≤ l.length + T.length by have := this []; simpa using this
  induction T with
  | nil => intro l; simp
  | cons t T ih =>
    intro l
    have h1 := ih (stepC l t)
    have h2 : (stepC l t).length ≤ l.length + 1 := stepC_len _ _
    rw [List.foldl_cons, List.length_cons]
    omega
theorem addRun_any {base : Nat} {v : Value} {l : List R} (xa xb xc : Int) {W : World} (h : rowR W base v l) (hb : base ≤ W.heap.size) (hl : l.length ≤ 200000000000) :
    Calls Try.prog 63 #[v, .agg #[.int .i64 xa, .int .i64 xb, .int .i64 xc]] W fun e w' => ∃ v', e = .returned v' ∧ Hid (JP W base v (addR l ⟨xa, xb, xc⟩) v' w') := by
  rcases List.eq_nil_or_concat l with rfl | ⟨l', ⟨yl, yh, yt⟩, hl'⟩
  · exact addRun_add xa xb xc h hb hl (by simp)
  · rw [List.concat_eq_append] at hl'
    subst hl'
    unfold addR
    rw [List.getLast?_concat]
    by_cases e : yt = xc
    · simp only
      subst e
      rw [if_pos rfl, List.dropLast_concat]
      exact addRun_same xa xb h hb (by simp at hl; omega)
    · simp only
      rw [if_neg e]
      exact addRun_add xa xb xc h hb hl (by simpa using e)
theorem addChange_any {base : Nat} {v : Value} {K : List Ch} (xl xh xf xt : Int) {W : World} (h : RowC base v K W) (hb : base ≤ W.heap.size) (hl : K.length ≤ 200000000000) :
    Calls Try.prog 64 #[v, .agg #[.int .i64 xl, .int .i64 xh, .int .i64 xf, .int .i64 xt]] W fun e w' => ∃ v', e = .returned v' ∧ Hid (JC W base v (joinC K ⟨xl, xh, xf, xt⟩) v' w') := by
  rcases List.eq_nil_or_concat K with rfl | ⟨K', ⟨yl, yh, yf, yt⟩, hl'⟩
  · exact addChange_no h hb hl (by simp)
  · rw [List.concat_eq_append] at hl'
    subst hl'
    unfold joinC
    rw [List.getLast?_concat]
    by_cases e : yh = xl ∧ yf = xf ∧ yt = xt
    · simp only
      obtain ⟨rfl, rfl, rfl⟩ := e
      rw [if_pos ⟨rfl, rfl, rfl⟩, List.dropLast_concat]
      exact addChange_same h hb (by simp at hl; omega)
    · simp only
      rw [if_neg e]
      refine addChange_no h hb hl fun m hm he e1 e2 e3 => ?_
      have : (K' ++ [(⟨yl, yh, yf, yt⟩ : Ch)])[m] = ⟨yl, yh, yf, yt⟩ := by
        have : m = K'.length := by simp at he; omega
        subst this; simp
      rw [this] at e1 e2 e3
      exact e ⟨e1, e2, e3⟩

theorem row_keep {W W' : World} {base : Nat} {e : TypeId} {size : Nat} {v : Value} {n : Nat} {xs : List Value} (h : W.ownsRow base e size v n xs) (hk : ∀ k, k < W.heap.size → v.ownBlock = some k → W'.heap[k]? = W.heap[k]?) : W'.ownsRow base e size v n xs := by
  refine ⟨h.1, ?_⟩
  rcases h.2 with h0 | ⟨g, cap, cur, h1, h2, h3, h4⟩
  · exact .inl h0
  · exact .inr ⟨g, cap, cur, h1, h2, (hk g (Array.getElem?_eq_some_iff.1 h3).1 (by rw [h1]; simp [Value.ownBlock])).trans h3, h4⟩
theorem own_lt {W : World} {base : Nat} {e : TypeId} {size : Nat} {v : Value} {n : Nat} {xs : List Value} (h : W.ownsRow base e size v n xs) : ∀ k, v.ownBlock = some k → k < W.heap.size := by
  intro k ek
  rcases h.2 with ⟨rfl, _⟩ | ⟨g, cap, cur, rfl, _, hg, _⟩
  · simp [Value.ownBlock] at ek
  · obtain rfl : g = k := by simpa [Value.ownBlock] using ek
    exact (Array.getElem?_eq_some_iff.1 hg).1
theorem own_cells {W : World} {base : Nat} {e : TypeId} {size : Nat} {v : Value} {n : Nat} {xs : List Value} (h : W.ownsRow base e size v n xs) : ∀ k o, v.ownBlock = some k → W.heap[k]? = some o → o.isCells = true := by
  intro k o ek ho
  rcases h.2 with ⟨rfl, _⟩ | ⟨g, cap, cur, rfl, _, hg, _⟩
  · simp [Value.ownBlock] at ek
  · obtain rfl : g = k := by simpa [Value.ownBlock] using ek
    rw [hg] at ho; cases ho; rfl
/-- the two lists of Merge, each in its box -/
structure Two (base B C : Nat) (v u : Value) (L : List R) (K : List Ch) (W : World) : Prop where
  bv : Boxed W B 31 v
  bu : Boxed W C 66 u
  rv : rowR W base v L
  ru : RowC base u K W
  ap : ∀ k, v.ownBlock = some k → u.ownBlock ≠ some k
theorem Two.next {base B C : Nat} {v u : Value} {L : List R} {K : List Ch} {W W' : World} (h : Two base B C v u L K W) (hb : Below W.heap.size W W') : Two base B C v u L K W' :=
  ⟨(hb.block _ h.bv.lt).trans h.bv, (hb.block _ h.bu.lt).trans h.bu, row_keep h.rv fun k hk _ => hb.block k hk, row_keep h.ru fun k hk _ => hb.block k hk, h.ap⟩
theorem Two.alloc {base B C : Nat} {v u : Value} {L : List R} {K : List Ch} {W : World} (h : Two base B C v u L K W) (o : Obj) : Two base B C v u L K (W.alloc o) := h.next ((Below.refl _ _).alloc (Nat.le_refl _) _)
theorem Two.own {base B C : Nat} {v u : Value} {L : List R} {K : List Ch} : Own (fun (_ : Unit) W => Two base B C v u L K W) := fun s X Y row hs hg hrow => by
  have hc : ∀ k o, X.heap[k]? = some o → o.isCells = true → some k ≠ row := fun k o ho hc e' => by
    obtain ⟨o', ho', hc'⟩ := hrow k e'.symm
    rw [ho] at ho'; cases ho'
    rw [hc] at hc'; cases hc'
  exact ⟨hs.bv.kept hg (hc _ _ hs.bv rfl), hs.bu.kept hg (hc _ _ hs.bu rfl),
    row_keep hs.rv fun k hk ek => hg.block k hk (hc k _ (Array.getElem?_eq_getElem hk) (own_cells hs.rv k _ ek (Array.getElem?_eq_getElem hk))),
    row_keep hs.ru fun k hk ek => hg.block k hk (hc k _ (Array.getElem?_eq_getElem hk) (own_cells hs.ru k _ ek (Array.getElem?_eq_getElem hk))), hs.ap⟩
/-- a list that grew in its own row, and was put into its box -/
theorem Two.run {base B C : Nat} {v u v' : Value} {L L' : List R} {K : List Ch} {W w' : World} (h : Two base B C v u L K W) (hj : JP W base v L' v' w') (hB : base ≤ B) (hBC : B ≠ C) :
    Boxed w' B 31 v ∧ Two base B C v' u L' K (w'.setCell ⟨B, 0, none⟩ v') ∧ Below base W (w'.setCell ⟨B, 0, none⟩ v') ∧ KeepsOthers W (w'.setCell ⟨B, 0, none⟩ v') ∧ Below base W w' ∧
      (∀ k, k < W.heap.size → some k ≠ v.ownBlock → k ≠ B → (w'.setCell ⟨B, 0, none⟩ v').heap[k]? = W.heap[k]?) := by
  have h1 : Boxed w' B 31 v := (hj.keep B h.bv.lt (h.bv.not_row (by decide) h.rv)).trans h.bv
  have hnr : some B ≠ v'.ownBlock := h1.not_row (by decide) hj.own
  have hkk : ∀ k, k < W.heap.size → some k ≠ v.ownBlock → k ≠ B → (w'.setCell ⟨B, 0, none⟩ v').heap[k]? = W.heap[k]? := fun k hk h1 h2 => (Below.heap_setCell _ _ _ k h2).trans (hj.keep k hk h1)
  refine ⟨h1, ⟨h1.set v', ?_, ?_, ?_, ?_⟩, hj.bel.setCell (p := ⟨B, 0, none⟩) hB _, ⟨Nat.le_trans hj.bel.size (by rw [World.size_setCell]; exact Nat.le_refl _), fun k o hk ho => ?_⟩, hj.bel, hkk⟩
  · exact (hkk C h.bu.lt (h.bu.not_row (by decide) h.rv) (Ne.symm hBC)).trans h.bu
  · exact row_keep hj.own fun k hk ek => Below.heap_setCell _ _ _ k (fun e => hnr (by rw [ek]; exact congrArg some e.symm))
  · refine row_keep h.ru fun k hk ek => ?_
    refine hkk k hk (fun e => h.ap k e.symm ek) fun e => ?_
    subst e
    exact h.bv.not_row (by decide) h.ru ek.symm
  · intro k ek eu
    rcases hj.at' k ek with h2 | h2
    · exact h.ap k h2 eu
    · have := own_lt h.ru k eu
      omega
  · have hlt := (Array.getElem?_eq_some_iff.1 hk).1
    refine (hkk k hlt (fun e => ?_) fun e => ?_).trans hk
    · have := own_cells h.rv k o e.symm hk
      rw [ho] at this; cases this
    · subst e
      rw [show W.heap[k]? = _ from h.bv] at hk
      cases hk; cases ho
theorem Two.change {base B C : Nat} {v u u' : Value} {L : List R} {K K' : List Ch} {W w' : World} (h : Two base B C v u L K W) (hj : JC W base u K' u' w') (hC : base ≤ C) (hBC : B ≠ C) :
    Boxed w' C 66 u ∧ Two base B C v u' L K' (w'.setCell ⟨C, 0, none⟩ u') ∧ Below base W (w'.setCell ⟨C, 0, none⟩ u') ∧ KeepsOthers W (w'.setCell ⟨C, 0, none⟩ u') ∧ Below base W w' ∧
      (∀ k, k < W.heap.size → some k ≠ u.ownBlock → k ≠ C → (w'.setCell ⟨C, 0, none⟩ u').heap[k]? = W.heap[k]?) := by
  have h1 : Boxed w' C 66 u := (hj.keep C h.bu.lt (h.bu.not_row (by decide) h.ru)).trans h.bu
  have hnr : some C ≠ u'.ownBlock := h1.not_row (by decide) hj.own
  have hkk : ∀ k, k < W.heap.size → some k ≠ u.ownBlock → k ≠ C → (w'.setCell ⟨C, 0, none⟩ u').heap[k]? = W.heap[k]? := fun k hk h1 h2 => (Below.heap_setCell _ _ _ k h2).trans (hj.keep k hk h1)
  refine ⟨h1, ⟨?_, h1.set u', ?_, ?_, ?_⟩, hj.bel.setCell (p := ⟨C, 0, none⟩) hC _, ⟨Nat.le_trans hj.bel.size (by rw [World.size_setCell]; exact Nat.le_refl _), fun k o hk ho => ?_⟩, hj.bel, hkk⟩
  · exact (hkk B h.bv.lt (h.bv.not_row (by decide) h.ru) hBC).trans h.bv
  · refine row_keep h.rv fun k hk ek => ?_
    refine hkk k hk (fun e => h.ap k ek e.symm) fun e => ?_
    subst e
    exact h.bu.not_row (by decide) h.rv ek.symm
  · exact row_keep hj.own fun k hk ek => Below.heap_setCell _ _ _ k (fun e => hnr (by rw [ek]; exact congrArg some e.symm))
  · intro k ek eu
    rcases hj.at' k eu with h2 | h2
    · exact h.ap k ek h2
    · have := own_lt h.rv k ek
      omega
  · have hlt := (Array.getElem?_eq_some_iff.1 hk).1
    refine (hkk k hlt (fun e => ?_) fun e => ?_).trans hk
    · have := own_cells h.ru k o e.symm hk
      rw [ho] at this; cases this
    · subst e
      rw [show W.heap[k]? = _ from h.bu] at hk
      cases hk; cases ho
end Go.Proofs.Ytahgfggcpmnnaaa
namespace Go.Proofs.Ytahgfggcpmnnaaa
open Go Go.RowKit Gs

set_option maxRecDepth 100000 in
set_option maxHeartbeats 1000000 in
theorem Rlink_nj {base : Nat} {v : Value} {K : List Ch} {xl xh xf xt : Int} {W : World} (hown : W.ownsRow base 107 4 v K.length (K.flatMap encC)) (hbase : base ≤ W.heap.size) (hlen : K.length ≤ 200000000000) (hno : ∀ (m : Nat) (h : m < K.length), K.length = m + 1 → K[m].hi = xl → K[m].fr = xf → K[m].tt ≠ xt) :
    Calls Try.prog 60 #[v, .agg #[.int .i64 xl, .int .i64 xh, .int .i64 xf, .int .i64 xt]] W fun e w' => ∃ v', e = .returned v' ∧ Hid (JC W base v (K ++ [⟨xl, xh, xf, xt⟩]) v' w') := by
  obtain ⟨va, vc, rfl⟩ := own_slice hown
  obtain ⟨w0, HW⟩ : ∃ w0, w0 = W.alloc (.cells #[.int .i64 xl, .int .i64 xh, .int .i64 xf, .int .i64 xt] 107) := ⟨_, rfl⟩
  have hm : Cx W.heap.size ⟨xl, xh, xf, xt⟩ w0 := by rw [HW]; exact Cx.new W ⟨xl, xh, xf, xt⟩ _
  have hb : Below W.heap.size W w0 := by rw [HW]; exact (Below.refl _ _).alloc (Nat.le_refl _) _
  have ho : w0.ownsRow base 107 4 (.slice va K.length vc) K.length (K.flatMap encC) := by rw [HW]; exact hown.alloc _
  have hlt : W.heap.size < w0.heap.size := by rw [HW]; simp
  have hcs := IsCs.of_row ho
  obtain ⟨n, hn⟩ : ∃ n, n = K.length := ⟨_, rfl⟩
  have HN := Lib.hid hn
  rw [← hn] at ho hcs hlen ⊢
  obtain ⟨XS, hXS⟩ : ∃ XS, XS = K.flatMap encC := ⟨_, rfl⟩
  rw [← hXS] at ho
  have HM := Lib.hid hm; have HB := Lib.hid hb; have HW' := Lib.hid HW; have HO := Lib.hid ho; have HNO := Lib.hid hno
  have hml : n + 1 ≤ maxLen := Nat.le_trans (show n + 1 ≤ 200000000001 by omega) (by decide)
  have hwl : base ≤ w0.heap.size := by omega
  have HEND : Hid (∀ (w2 w7 : World) (v' : Value) (o : Obj), Below w0.heap.size w0 w2 → w7.ownsRow base 107 4 v' (n + 1) (XS ++ [.int .i64 xl, .int .i64 xh, .int .i64 xf, .int .i64 xt]) → (w2.alloc o).grownBy w7 (Value.slice va n vc).ownBlock → (v'.ownBlock = (Value.slice va n vc).ownBlock ∨ v'.ownBlock = some (w2.alloc o).heap.size) → JC W base (.slice va n vc) (K ++ [⟨xl, xh, xf, xt⟩]) v' w7) := fun w2 w7 v' o h2 h hgrow hat => by
    have hx2 : W.heap.size < w2.heap.size := Nat.lt_of_lt_of_le hlt h2.size
    refine ⟨?_, (((hb.trans (h2.mono hb.size)).mono hbase).alloc (by omega) _).grown hgrow (by simp; omega) (own_at ho), fun k hk hne => ?_, fun k hk => ?_⟩
    · unfold RowC
      rw [len_snoc, List.flatMap_append (ys := [_]), ← hXS, ← hn]
      exact h
    · exact (hgrow.block k (by simp; omega) hne).trans ((Below.heap_alloc w2 o k (by omega)).trans ((h2.block k (by omega)).trans (hb.block k hk)))
    · rcases hat with h1 | h1
      · exact .inl (h1.symm.trans hk)
      · rw [h1] at hk
        injection hk with hk
        exact .inr (by simp at hk; omega)
  obtain ⟨i0, hi0, hz0, hz1, hz2⟩ := info_parts infoCh
  have HR0 : Hid (Below w0.heap.size w0 w0) := Below.refl _ _
  clear hm hb HW ho hn hXS hown hno
  go_enter Try.func60, Try.ntmps60
  go_upto_region 1 with fail
  rw [← HW'.out]
  by_cases hn0 : n = 0
  · have hgt : ¬ ((n : Int) > 0) := by omega
    have hd : decide ((n : Int) > 0) = false := decide_eq_false hgt
    have hd2 : decide (0 < n) = false := decide_eq_false (by omega)
    have hn1 : ¬ 0 < n := by omega
    clear hn0
    go_wp2_with fail
    go_quiet (fail)
    rename_i nq
    have HBn : Hid (Below w0.heap.size w0 (World.drewN w0 nq)) := below_drewN (Below.refl _ _) nq
    have HO2 := Lib.hid (own_drewN HO.out nq)
    have HCX := Lib.hid (HM.out.below hlt HBn.out)
    generalize hw : World.drewN w0 nq = w2 at HBn HO2 HCX ⊢
    clear hw
    obtain ⟨k0, k1, k2, k3⟩ : _ ∧ _ ∧ _ ∧ _ := HCX.out
    simp only at k0 k1 k2 k3
    have hsz2 := HBn.out.size
    go_wp2_with (at_builtin; refine wpList_append_own_at _ rfl _ _ 66 rfl base 107 i0 (.agg #[.int .i64 0, .int .i64 0, .int .i64 0, .int .i64 0]) 4 32 Try.underlying66 hi0 hz0 hz1 hz2 rfl (by decide) _ _ _ rfl (HO2.out.alloc _) ⟨w2.heap.size, 0, none⟩ 1 1 [.int .i64 xl, .int .i64 xh, .int .i64 xf, .int .i64 xt] rfl rfl (cells4_new _ _ _ _ _ _) (by simp [Value.oneCell']) (by omega) (by omega) (by simp; omega) ?_; intro v' w7 hown' hgrow _ hat)
    have HF := Lib.hid (HEND.out w2 w7 v' _ HBn.out hown' hgrow hat)
    clear hown' hgrow hat k0 k1 k2 k3
    go_wp2_with fail
    go_ret
    exact ⟨v', rfl, HF.out⟩
  · obtain ⟨m, hmn⟩ : ∃ m, n = m + 1 := ⟨n - 1, by omega⟩
    have hgt : (n : Int) > 0 := by omega
    have hd : decide ((n : Int) > 0) = true := decide_eq_true hgt
    have hd2 : decide (0 < n) = true := decide_eq_true (by omega)
    have hn1 : 0 < n := by omega
    have hwr : IntKind.i64.wrap ((n : Int) - 1) = (m : Int) := by rw [IntWalk.i64_in] <;> omega
    have hmk : m < K.length := by rw [← HN.out]; omega
    have hm2 : (m : Int) < n := by omega
    obtain ⟨B, o, rfl, c0, c1, c2, c3⟩ := IsCs.at' hcs hmk
    have HNO2 := Lib.hid (HNO.out m hmk (by rw [← HN.out]; exact hmn))
    obtain ⟨y, hy⟩ : ∃ y, y = K[m] := ⟨_, rfl⟩
    rw [← hy] at c0 c1 c2 c3 HNO2
    obtain ⟨ya, yb, yc, yd⟩ := y
    simp only at c0 c1 c2 c3 HNO2
    obtain ⟨m0, m1, m2, m3⟩ : _ ∧ _ ∧ _ ∧ _ := HM.out
    simp only at m0 m1 m2 m3
    clear hy hmn hn0
    by_cases e1 : yb = xl
    · by_cases e2 : yc = xf
      · have e3 := HNO2.out e1 e2
        have n3 : (yd == xt) = false := beq_eq_false_iff_ne.2 e3
        have e1 := e1.symm; have e2 := e2.symm; subst e1; subst e2
        clear e3 HNO2
        go_wp2_with fail
        go_quiet (fail)
        rename_i nq
        have HBn : Hid (Below w0.heap.size w0 (World.drewN w0 nq)) := below_drewN (Below.refl _ _) nq
        have HO2 := Lib.hid (own_drewN HO.out nq)
        have HCX := Lib.hid (HM.out.below hlt HBn.out)
        clear c0 c1 c2 c3 m0 m1 m2 m3
        generalize hw : World.drewN w0 nq = w2 at HBn HO2 HCX ⊢
        clear hw
        obtain ⟨k0, k1, k2, k3⟩ : _ ∧ _ ∧ _ ∧ _ := HCX.out
        simp only at k0 k1 k2 k3
        have hsz2 := HBn.out.size
        go_wp2_with (at_builtin; refine wpList_append_own_at _ rfl _ _ 66 rfl base 107 i0 (.agg #[.int .i64 0, .int .i64 0, .int .i64 0, .int .i64 0]) 4 32 Try.underlying66 hi0 hz0 hz1 hz2 rfl (by decide) _ _ _ rfl (HO2.out.alloc _) ⟨w2.heap.size, 0, none⟩ 1 1 [.int .i64 xl, .int .i64 xh, .int .i64 xf, .int .i64 xt] rfl rfl (cells4_new _ _ _ _ _ _) (by simp [Value.oneCell']) (by omega) (by omega) (by simp; omega) ?_; intro v' w7 hown' hgrow _ hat)
        have HF := Lib.hid (HEND.out w2 w7 v' _ HBn.out hown' hgrow hat)
        clear hown' hgrow hat k0 k1 k2 k3
        go_wp2_with fail
        go_ret
        exact ⟨v', rfl, HF⟩
      · have n2 : (yc == xf) = false := beq_eq_false_iff_ne.2 e2
        have e1 := e1.symm; subst e1
        clear e2 HNO2
        go_wp2_with fail
        go_quiet (fail)
        rename_i nq
        have HBn : Hid (Below w0.heap.size w0 (World.drewN w0 nq)) := below_drewN (Below.refl _ _) nq
        have HO2 := Lib.hid (own_drewN HO.out nq)
        have HCX := Lib.hid (HM.out.below hlt HBn.out)
        clear c0 c1 c2 c3 m0 m1 m2 m3
        generalize hw : World.drewN w0 nq = w2 at HBn HO2 HCX ⊢
        clear hw
        obtain ⟨k0, k1, k2, k3⟩ : _ ∧ _ ∧ _ ∧ _ := HCX.out
        simp only at k0 k1 k2 k3
        have hsz2 := HBn.out.size
        go_wp2_with (at_builtin; refine wpList_append_own_at _ rfl _ _ 66 rfl base 107 i0 (.agg #[.int .i64 0, .int .i64 0, .int .i64 0, .int .i64 0]) 4 32 Try.underlying66 hi0 hz0 hz1 hz2 rfl (by decide) _ _ _ rfl (HO2.out.alloc _) ⟨w2.heap.size, 0, none⟩ 1 1 [.int .i64 xl, .int .i64 xh, .int .i64 xf, .int .i64 xt] rfl rfl (cells4_new _ _ _ _ _ _) (by simp [Value.oneCell']) (by omega) (by omega) (by simp; omega) ?_; intro v' w7 hown' hgrow _ hat)
        have HF := Lib.hid (HEND.out w2 w7 v' _ HBn.out hown' hgrow hat)
        clear hown' hgrow hat k0 k1 k2 k3
        go_wp2_with fail
        go_ret
        exact ⟨v', rfl, HF⟩
    · have n1 : (yb == xl) = false := beq_eq_false_iff_ne.2 e1
      clear e1 HNO2
      go_wp2_with fail
      go_quiet (fail)
      rename_i nq
      have HBn : Hid (Below w0.heap.size w0 (World.drewN w0 nq)) := below_drewN (Below.refl _ _) nq
      have HO2 := Lib.hid (own_drewN HO.out nq)
      have HCX := Lib.hid (HM.out.below hlt HBn.out)
      clear c0 c1 c2 c3 m0 m1 m2 m3
      generalize hw : World.drewN w0 nq = w2 at HBn HO2 HCX ⊢
      clear hw
      obtain ⟨k0, k1, k2, k3⟩ : _ ∧ _ ∧ _ ∧ _ := HCX.out
      simp only at k0 k1 k2 k3
      have hsz2 := HBn.out.size
      go_wp2_with (at_builtin; refine wpList_append_own_at _ rfl _ _ 66 rfl base 107 i0 (.agg #[.int .i64 0, .int .i64 0, .int .i64 0, .int .i64 0]) 4 32 Try.underlying66 hi0 hz0 hz1 hz2 rfl (by decide) _ _ _ rfl (HO2.out.alloc _) ⟨w2.heap.size, 0, none⟩ 1 1 [.int .i64 xl, .int .i64 xh, .int .i64 xf, .int .i64 xt] rfl rfl (cells4_new _ _ _ _ _ _) (by simp [Value.oneCell']) (by omega) (by omega) (by simp; omega) ?_; intro v' w7 hown' hgrow _ hat)
      have HF := Lib.hid (HEND.out w2 w7 v' _ HBn.out hown' hgrow hat)
      clear hown' hgrow hat k0 k1 k2 k3
      go_wp2_with fail
      go_ret
      exact ⟨v', rfl, HF⟩
set_option maxRecDepth 100000 in
set_option maxHeartbeats 2000000 in
theorem Rlink_same {base : Nat} {v : Value} {K : List Ch} {yl xl xh xf xt : Int} {W : World} (h : RowC base v (K ++ [⟨yl, xl, xf, xt⟩]) W) (hb : base ≤ W.heap.size) (hl : K.length ≤ 100000000) :
    Calls Try.prog 60 #[v, .agg #[.int .i64 xl, .int .i64 xh, .int .i64 xf, .int .i64 xt]] W fun e w' => ∃ v', e = .returned v' ∧ Hid (JC W base v (K ++ [⟨yl, xh, xf, xt⟩]) v' w') := by
  obtain ⟨i0, hi, hz0, hz1, hz2⟩ := info_parts infoCh
  have hown := h
  have hcells := fun g hg => h.cells (g := g) hg
  rcases h.2 with ⟨_, h0⟩ | ⟨G, c, cur, rfl, hG, hGh, hcap, -⟩
  · rw [List.length_append] at h0; cases h0
  have hGl : G < W.heap.size := (Array.getElem?_eq_some_iff.1 hGh).1
  unfold RowC at hown
  obtain ⟨m, hm⟩ : ∃ m, m = K.length := ⟨_, rfl⟩
  have hlen : (K ++ [(⟨yl, xl, xf, xt⟩ : Ch)]).length = m + 1 := by rw [hm]; simp
  rw [hlen] at hown hcap ⊢
  obtain ⟨w0, HW⟩ : ∃ w0, w0 = W.alloc (.cells #[.int .i64 xl, .int .i64 xh, .int .i64 xf, .int .i64 xt] 107) := ⟨_, rfl⟩
  have hcx : Cx W.heap.size ⟨xl, xh, xf, xt⟩ w0 := by rw [HW]; exact Cx.new W ⟨xl, xh, xf, xt⟩ _
  have hb0 : Below W.heap.size W w0 := by rw [HW]; exact (Below.refl _ _).alloc (Nat.le_refl _) _
  have hlt : W.heap.size < w0.heap.size := by rw [HW]; simp
  have HM := Lib.hid hcx; have HB0 := Lib.hid hb0; have HW' := Lib.hid HW
  -- the cells of the list, in every later world
  have HCL : Hid (∀ (W' : World), Below W.heap.size W W' → (∀ j u, (K.flatMap encC)[j]? = some u → W'.cell? ((⟨G, 0, none⟩ : Addr).add j) = some u) ∧ W'.cell? ⟨G, m * 4, none⟩ = some (.int .i64 yl) ∧ W'.cell? ⟨G, m * 4 + 1, none⟩ = some (.int .i64 xl) ∧ W'.cell? ⟨G, m * 4 + 2, none⟩ = some (.int .i64 xf) ∧ W'.cell? ⟨G, m * 4 + 3, none⟩ = some (.int .i64 xt)) := fun W' hb' => by
    have hk : ∀ j u, ((K ++ [(⟨yl, xl, xf, xt⟩ : Ch)]).flatMap encC)[j]? = some u → W'.cell? ⟨G, j, none⟩ = some u := fun j u hu => by
      have := hcells G rfl j u hu
      rw [add_zero'] at this
      exact (hb'.cell (p := ⟨G, j, none⟩) hGl).trans this
    obtain ⟨g0, g1, g2, g3⟩ := encC_get (K ++ [(⟨yl, xl, xf, xt⟩ : Ch)]) m (by rw [hlen]; omega)
    have e1 : (K ++ [(⟨yl, xl, xf, xt⟩ : Ch)])[m]'(by rw [hlen]; omega) = ⟨yl, xl, xf, xt⟩ := by subst hm; simp
    rw [e1] at g0 g1 g2 g3
    refine ⟨fun j u hu => ?_, hk _ _ g0, hk _ _ g1, hk _ _ g2, hk _ _ g3⟩
    rw [add_zero']
    refine hk j u ?_
    rw [List.flatMap_append, List.getElem?_append_left (List.getElem?_eq_some_iff.1 hu).1]
    exact hu
  have hmm : m ≤ 100000000 := by omega
  have hml : m + 1 ≤ maxLen := Nat.le_trans (show m + 1 ≤ 100000001 by omega) (by decide)
  have hmb : (m + 1) * 32 ≤ 140737488355328 := by omega
  obtain ⟨n, hn⟩ : ∃ n, n = m + 1 := ⟨_, rfl⟩
  have HN := Lib.hid hn
  have hw1 : IntKind.i64.wrap ((n : Int) - 1) = (m : Int) := by rw [IntWalk.i64_in] <;> omega
  have hgt : (n : Int) > 0 := by omega
  have hd1 : decide ((n : Int) > 0) = true := decide_eq_true hgt
  have hn0 : 0 < n := by omega
  have hd2 : decide (0 < n) = true := decide_eq_true hn0
  have hw3 : IntKind.i64.wrap (m : Int) = (m : Int) := IntWalk.i64_in _ (by omega)
  have hi1 : (0 : Int) ≤ (m : Int) := by omega
  have hi3 : (m : Int) < n := by omega
  have hmc : (m : Int) ≤ (c : Int) := by omega
  have HLL : Hid ((K.flatMap encC).length = m * 4) := by show _ = _; rw [hm]; exact encC_len K
  have HTO : Hid (∀ (W' : World) v', W'.ownsRow base 107 4 v' (m + 1) (K.flatMap encC ++ encC ⟨yl, xh, xf, xt⟩) → RowC base v' (K ++ [⟨yl, xh, xf, xt⟩]) W') := fun W' v' h => by
    unfold RowC
    rw [len_snoc, List.flatMap_append, ← hm]
    rw [List.flatMap_cons, List.flatMap_nil, List.append_nil]
    exact h
  have HONE := Lib.hid (encC_one K)
  obtain ⟨-, d0, d1, d2, d3⟩ := HCL.out w0 hb0
  obtain ⟨k0, k1, k2, k3⟩ : _ ∧ _ ∧ _ ∧ _ := hcx
  simp only at k0 k1 k2 k3
  rw [← hn] at hown hcap ⊢
  clear HW hm h hcells hown hlen hGh hl hb0
  go_enter Try.func60, Try.ntmps60
  go_upto_region 1 with fail
  rw [← HW'.out]
  go_wp2_with fail
  go_quiet (fail)
  rename_i nq
  have HBn : Hid (Below w0.heap.size w0 (World.drewN w0 nq)) := below_drewN (Below.refl _ _) nq
  have HCX := Lib.hid (HM.out.below hlt HBn.out)
  have HB2 : Hid (Below W.heap.size W (World.drewN w0 nq)) := HB0.out.trans (HBn.out.mono HB0.out.size)
  clear k0 k1 k2 k3 d0 d1 d2 d3
  generalize hw : World.drewN w0 nq = w2 at HBn HB2 HCX ⊢
  clear hw
  obtain ⟨k0, k1, k2, k3⟩ : _ ∧ _ ∧ _ ∧ _ := HCX.out
  simp only at k0 k1 k2 k3
  have hlt2 : W.heap.size < w2.heap.size := Nat.lt_of_lt_of_le hlt HBn.out.size
  have hsz : base ≤ w2.heap.size := Nat.le_trans hb (Nat.le_of_lt hlt2)
  go_wp2_with (at_builtin; refine wpList_append_own _ rfl _ _ 66 rfl w2.heap.size 107 i0 (.agg #[.int .i64 0, .int .i64 0, .int .i64 0, .int .i64 0]) 4 32 Try.underlying66 hi hz0 hz1 hz2 rfl (by decide) _ _ _ rfl (World.ownsRow_nil _ _ _ _) ⟨G, 0, none⟩ m c (K.flatMap encC) rfl ?c0 ?c1 ?c2 ?c3 ?c4 ?c5 ?_)
  case c0 => exact HLL.out
  case c1 => exact (HCL.out _ HB2.out).1
  case c2 => exact HONE.out
  case c3 => omega
  case c4 => omega
  case c5 => exact Nat.le_refl _
  intro v5 w5 hown5' hgrow5 _
  have hown5 : w5.ownsRow w2.heap.size 107 4 v5 m (K.flatMap encC) := by simpa using hown5'
  have hb5 : Below W.heap.size W w5 := HB2.out.grown hgrow5 (Nat.le_of_lt hlt2) (fun j e => by cases e)
  have x1 : w5.cell? ⟨W.heap.size, 1, none⟩ = some (.int .i64 xh) := hgrow5.cell k1 (fun e => by cases e)
  have x2 : w5.cell? ⟨W.heap.size, 2, none⟩ = some (.int .i64 xf) := hgrow5.cell k2 (fun e => by cases e)
  have x3 : w5.cell? ⟨W.heap.size, 3, none⟩ = some (.int .i64 xt) := hgrow5.cell k3 (fun e => by cases e)
  have x4 := (HCL.out w5 hb5).2.1
  have hlt5 : W.heap.size < w5.heap.size := Nat.lt_of_lt_of_le hlt2 hgrow5.size
  have HLT5 := Lib.hid hown5.lt
  have hs25 : w2.heap.size ≤ w5.heap.size := hgrow5.size
  obtain ⟨a5, c5, rfl⟩ := own_slice hown5
  have HAL : Hid (∀ o, (w5.drew.alloc o).cell? ⟨W.heap.size, 1, none⟩ = some (.int .i64 xh) ∧ (w5.drew.alloc o).cell? ⟨W.heap.size, 2, none⟩ = some (.int .i64 xf) ∧ (w5.drew.alloc o).cell? ⟨W.heap.size, 3, none⟩ = some (.int .i64 xt) ∧ (w5.drew.alloc o).cell? ⟨G, m * 4, none⟩ = some (.int .i64 yl)) := fun o => by
    have hb' : Below w5.heap.size w5 (w5.drew.alloc o) := (Below.refl _ _).drew.alloc (by show w5.heap.size ≤ w5.heap.size; exact Nat.le_refl _) _
    exact ⟨(hb'.cell (p := ⟨W.heap.size, 1, none⟩) hlt5).trans x1, (hb'.cell (p := ⟨W.heap.size, 2, none⟩) hlt5).trans x2, (hb'.cell (p := ⟨W.heap.size, 3, none⟩) hlt5).trans x3, (hb'.cell (p := ⟨G, m * 4, none⟩) (Nat.lt_trans hGl hlt5)).trans x4⟩
  have HONE3 : Hid (∀ x y z t : Int, ∀ u ∈ [Value.int .i64 x, .int .i64 y, .int .i64 z, .int .i64 t], u.oneCell' = true) := by intro x y z t u hu; simp at hu; rcases hu with rfl | rfl | rfl | rfl <;> rfl
  have HSZ : Hid (∀ o, w2.heap.size ≤ (w5.drew.alloc o).heap.size) := fun o => Nat.le_trans hs25 (by rw [World.size_alloc]; exact Nat.le_succ _)
  have HG2 : Hid (W.heap.size < w2.heap.size ∧ G < w2.heap.size) := ⟨hlt2, Nat.lt_trans hGl hlt2⟩
  have HB5 : Hid (Below base W w5) := (HB2.out.mono hb).grown hgrow5 hsz (fun j e => by cases e)
  have HBW5 := Lib.hid hb5
  clear hown5' hgrow5 hb5 k0 k1 k2 k3
  have hc5 : w5.cell? ⟨W.heap.size, 1, none⟩ = some (.int .i64 xh) ∧ w5.cell? ⟨W.heap.size, 2, none⟩ = some (.int .i64 xf) ∧ w5.cell? ⟨W.heap.size, 3, none⟩ = some (.int .i64 xt) ∧ w5.cell? ⟨G, m * 4, none⟩ = some (.int .i64 yl) := ⟨x1, x2, x3, x4⟩
  have hcd : w5.drew.cell? ⟨W.heap.size, 1, none⟩ = some (.int .i64 xh) ∧ w5.drew.cell? ⟨W.heap.size, 2, none⟩ = some (.int .i64 xf) ∧ w5.drew.cell? ⟨W.heap.size, 3, none⟩ = some (.int .i64 xt) ∧ w5.drew.cell? ⟨G, m * 4, none⟩ = some (.int .i64 yl) := hc5
  go_wp2_with fail
  have hq1 : (m : Int) < (m : Int) + 1 := by omega
  have hq3 : (m : Int) < ((m + 1 : Nat) : Int) := by omega
  have hq4 : IntKind.i64.wrap ((m : Int) + 1 - 1) = (m : Int) := by rw [IntWalk.i64_in] <;> omega
  go_region_held3 (fun W' : World => W'.cell? ⟨W.heap.size, 1, none⟩ = some (.int .i64 xh) ∧ W'.cell? ⟨W.heap.size, 2, none⟩ = some (.int .i64 xf) ∧ W'.cell? ⟨W.heap.size, 3, none⟩ = some (.int .i64 xt) ∧ W'.cell? ⟨G, m * 4, none⟩ = some (.int .i64 yl)) (first | assumption | exact HAL.out _ | fail) (first
    | (refine step_append_row rfl (.tmp 50) (.tmp 64) 66 rfl w2.heap.size 107 i0 (.agg #[.int .i64 0, .int .i64 0, .int .i64 0, .int .i64 0]) 4 32 Try.underlying66 hi hz0 hz1 hz2 rfl (by decide) _ _ _ (by rfl) (hown5.drew.alloc _) ⟨w5.heap.size, 0, none⟩ 1 1 [_, _, _, _] rfl rfl (cells4_new _ _ _ _ _ _) (HONE3.out _ _ _ _) hml hmb (HSZ.out _) ?_; intro v6 w6 hown6 hgrow6 hnil6; have hca6 : w6.cell? ⟨W.heap.size, 1, none⟩ = some (.int .i64 xh) ∧ w6.cell? ⟨W.heap.size, 2, none⟩ = some (.int .i64 xf) ∧ w6.cell? ⟨W.heap.size, 3, none⟩ = some (.int .i64 xt) ∧ w6.cell? ⟨G, m * 4, none⟩ = some (.int .i64 yl) := ⟨hgrow6.cell (HAL.out _).1 (fun e => Nat.not_lt_of_le (HLT5.out _ e.symm).1 HG2.out.1), hgrow6.cell (HAL.out _).2.1 (fun e => Nat.not_lt_of_le (HLT5.out _ e.symm).1 HG2.out.1), hgrow6.cell (HAL.out _).2.2.1 (fun e => Nat.not_lt_of_le (HLT5.out _ e.symm).1 HG2.out.1), hgrow6.cell (HAL.out _).2.2.2 (fun e => Nat.not_lt_of_le (HLT5.out _ e.symm).1 HG2.out.2)⟩) | fail)
  have HF : Hid (JC W base (.slice (some ⟨G, 0, none⟩) n c) (K ++ [⟨yl, xh, xf, xt⟩]) v6 w6) := ⟨HTO.out w6 v6 (row_mono hown6 hsz), (HB5.out.drew.alloc (Nat.le_trans hsz hs25) _).grown hgrow6 (Nat.le_trans hsz (HSZ.out _)) (fun j hj => Nat.le_trans hsz (HLT5.out _ hj).1),
    fun k hk _ => (hgrow6.block k (Nat.lt_of_lt_of_le (Nat.lt_trans hk HG2.out.1) (HSZ.out _)) (fun e => by have := (HLT5.out k e.symm).1; have := HG2.out.1; omega)).trans ((((Below.refl w5.heap.size w5).drew.alloc (by show w5.heap.size ≤ w5.heap.size; exact Nat.le_refl _) _).block k (Nat.lt_trans hk hlt5)).trans (HBW5.out.block k hk)),
    fun k hk => .inr (by have := (hown6.lt k hk).1; have := HG2.out.1; omega)⟩
  clear hown6 hgrow6 hown5 hca6 hcd hc5 x1 x2 x3 x4
  go_wp2_with fail
  go_ret
  exact ⟨_, rfl, HF.out⟩
theorem Rlink_any {base : Nat} {v : Value} {K : List Ch} (xl xh xf xt : Int) {W : World} (h : RowC base v K W) (hb : base ≤ W.heap.size) (hl : K.length ≤ 100000000) :
    Calls Try.prog 60 #[v, .agg #[.int .i64 xl, .int .i64 xh, .int .i64 xf, .int .i64 xt]] W fun e w' => ∃ v', e = .returned v' ∧ Hid (JC W base v (joinC K ⟨xl, xh, xf, xt⟩) v' w') := by
  rcases List.eq_nil_or_concat K with rfl | ⟨K', ⟨yl, yh, yf, yt⟩, hl'⟩
  · exact Rlink_nj h hb (Nat.zero_le _) (by simp)
  · rw [List.concat_eq_append] at hl'
    subst hl'
    unfold joinC
    rw [List.getLast?_concat]
    by_cases e : yh = xl ∧ yf = xf ∧ yt = xt
    · simp only
      obtain ⟨rfl, rfl, rfl⟩ := e
      rw [if_pos ⟨rfl, rfl, rfl⟩, List.dropLast_concat]
      exact Rlink_same h hb (by simp at hl; omega)
    · simp only
      rw [if_neg e]
      refine Rlink_nj h hb (by omega) fun m hm he e1 e2 e3 => ?_
      have : (K' ++ [(⟨yl, yh, yf, yt⟩ : Ch)])[m] = ⟨yl, yh, yf, yt⟩ := by
        have : m = K'.length := by simp at he; omega
        subst this; simp
      rw [this] at e1 e2 e3
      exact e ⟨e1, e2, e3⟩
end Go.Proofs.Ytahgfggcpmnnaaa
