/- The document's Join: the runs with one behind them. -/
import Derived.Test.YtahgfggcpmnnaaaZq
import Derived.Deep.OwnRows
import Derived.Deep.CutRange
import Derived.BigQuiet
import Derived.Deep.RegionHeld
namespace Go.Proofs.Ytahgfggcpmnnaaa
open Go Go.RowKit Gs

/-- the runs with one behind them: of the same tag it is a part of the last one -/
def joinL (l : List R) (x : R) : List R :=
  if x.hi ≤ x.lo then l else match l.getLast? with
    | some y => if y.tag = x.tag then l.dropLast ++ [⟨y.lo, x.hi, x.tag⟩] else l ++ [x]
    | none => [x]
abbrev rowR (W : World) (base : Nat) (v : Value) (l : List R) : Prop := W.ownsRow base 64 3 v l.length (l.flatMap encL)
theorem row_snoc {W : World} {base : Nat} {v : Value} {l : List R} {x : R} (h : W.ownsRow base 64 3 v (l.length + 1) (l.flatMap encL ++ encL x)) : rowR W base v (l ++ [x]) := by
  unfold rowR
  rw [List.length_append, List.length_singleton, List.flatMap_append, List.flatMap_singleton]
  exact h
/-- what Join leaves: the list owns its row, what lay below base lies, what is not the old row's lies, and the new row is the old one's or new -/
structure JP (W : World) (base : Nat) (v : Value) (l : List R) (v' : Value) (w' : World) : Prop where
  own : rowR w' base v' l
  bel : Below base W w'
  keep : ∀ k, k < W.heap.size → some k ≠ v.ownBlock → w'.heap[k]? = W.heap[k]?
  at' : ∀ k, v'.ownBlock = some k → v.ownBlock = some k ∨ W.heap.size ≤ k
theorem row_mono {W : World} {base base' : Nat} {e : TypeId} {size : Nat} {v : Value} {n : Nat} {xs : List Value} (h : W.ownsRow base e size v n xs) (hb : base' ≤ base) : W.ownsRow base' e size v n xs := by
  refine ⟨h.1, ?_⟩
  rcases h.2 with h2 | ⟨g, cap, cur, h2, h3, h4⟩
  · exact .inl h2
  · exact .inr ⟨g, cap, cur, h2, Nat.le_trans hb h3, h4⟩
set_option maxHeartbeats 1000000 in
theorem Join_no {base : Nat} {v : Value} {l : List R} (xa xb xc : Int) {W : World} (h : rowR W base v l) (hx : xb ≤ xa) (hb : base ≤ W.heap.size) :
    Calls Try.prog 49 #[v, .agg #[.int .i64 xa, .int .i64 xb, .int .i64 xc]] W fun e w' => ∃ v', e = .returned v' ∧ Hid (JP W base v l v' w') := by
  have hge : xa ≥ xb := hx
  have HR : Hid (∀ o, JP W base v l v (W.alloc o)) := fun o => ⟨h.alloc o, (Below.refl _ _).alloc hb _, fun k hk _ => ((Below.refl W.heap.size W).alloc (Nat.le_refl _) o).block k hk, fun k hk => .inl hk⟩
  obtain ⟨a, c, rfl⟩ := own_slice h
  clear h hx
  go_enter Try.func49, Try.ntmps49
  go_wp2_with fail
  go_ret
  exact ⟨_, rfl, HR.out _⟩
/-- what Join's walk carries: the new run's box, the list, all that lies below base -/
structure Jn (W : World) (base : Nat) (v : Value) (n : Nat) (xs : List Value) (xa xb xc : Int) (W' : World) : Prop where
  c0 : W'.cell? ⟨W.heap.size, 0, none⟩ = some (.int .i64 xa)
  c1 : W'.cell? ⟨W.heap.size, 1, none⟩ = some (.int .i64 xb)
  c2 : W'.cell? ⟨W.heap.size, 2, none⟩ = some (.int .i64 xc)
  own : W'.ownsRow base 64 3 v n xs
  bel : Below base W W'
  lt : W.heap.size < W'.heap.size
  bw : Below W.heap.size W W'
theorem Jn.new {W : World} {base : Nat} {v : Value} {n : Nat} {xs : List Value} (xa xb xc : Int) (h : W.ownsRow base 64 3 v n xs) (hb : base ≤ W.heap.size) : Jn W base v n xs xa xb xc (W.alloc (.cells #[.int .i64 xa, .int .i64 xb, .int .i64 xc] 64)) :=
  ⟨World.cell?_alloc_at _ _ _ _ rfl, World.cell?_alloc_at _ _ _ _ rfl, World.cell?_alloc_at _ _ _ _ rfl, h.alloc _, (Below.refl _ _).alloc hb _, by simp, (Below.refl _ _).alloc (Nat.le_refl _) _⟩
theorem Jn.next {W W' W2 : World} {base : Nat} {v : Value} {n : Nat} {xs : List Value} {xa xb xc : Int} (h : Jn W base v n xs xa xb xc W') (hb : Below W'.heap.size W' W2) (ho : W2.ownsRow base 64 3 v n xs) (hw : base ≤ W.heap.size) : Jn W base v n xs xa xb xc W2 :=
  ⟨(hb.cell (p := ⟨W.heap.size, 0, none⟩) h.lt).trans h.c0, (hb.cell (p := ⟨W.heap.size, 1, none⟩) h.lt).trans h.c1, (hb.cell (p := ⟨W.heap.size, 2, none⟩) h.lt).trans h.c2, ho, h.bel.trans (hb.mono (Nat.le_trans hw (Nat.le_of_lt h.lt))), Nat.lt_of_lt_of_le h.lt hb.size, h.bw.trans (hb.mono (Nat.le_of_lt h.lt))⟩
theorem row_drewN {W : World} {base : Nat} {e : TypeId} {size : Nat} {v : Value} {n : Nat} {xs : List Value} (h : W.ownsRow base e size v n xs) (k : Nat) : (W.drewN k).ownsRow base e size v n xs := by
  have e1 : (W.drewN k).heap = W.heap := by simp
  unfold World.ownsRow at h ⊢
  rw [e1]
  exact h
theorem Jn.drewN {W W' : World} {base : Nat} {v : Value} {n : Nat} {xs : List Value} {xa xb xc : Int} (h : Jn W base v n xs xa xb xc W') (hw : base ≤ W.heap.size) (k : Nat) : Jn W base v n xs xa xb xc (W'.drewN k) :=
  h.next (below_drewN (Below.refl _ _) k) (row_drewN h.own k) hw
set_option maxHeartbeats 1000000 in
theorem Join_add {base : Nat} {v : Value} {l : List R} (xa xb xc : Int) {W : World} (h : rowR W base v l) (hx : xa < xb) (hb : base ≤ W.heap.size) (hl : l.length ≤ 100000) (hy : ∀ y, l.getLast? = some y → y.tag ≠ xc) :
    Calls Try.prog 49 #[v, .agg #[.int .i64 xa, .int .i64 xb, .int .i64 xc]] W fun e w' => ∃ v', e = .returned v' ∧ Hid (JP W base v (l ++ [⟨xa, xb, xc⟩]) v' w') := by
  obtain ⟨i0, hi, hz0, hz1, hz2⟩ := info_parts infoRun
  have hlt : ¬ xa ≥ xb := by omega
  have hown := h
  obtain ⟨a, c, rfl⟩ := own_slice h
  unfold rowR at hown
  obtain ⟨n, hn⟩ : ∃ n, n = l.length := ⟨_, rfl⟩
  rw [← hn] at hown ⊢
  have hml : n + 1 ≤ maxLen := by unfold maxLen; omega
  have hmb : (n + 1) * 24 ≤ 140737488355328 := by omega
  obtain ⟨W1, HW1⟩ : ∃ W1, W1 = W.alloc (.cells #[.int .i64 xa, .int .i64 xb, .int .i64 xc] 64) := ⟨_, rfl⟩
  have HJ : Hid (Jn W base (.slice a n c) n (l.flatMap encL) xa xb xc W1) := by rw [HW1]; exact Jn.new xa xb xc hown hb
  have HW1' := Lib.hid HW1
  have HN := Lib.hid hn
  have HTO : Hid (∀ (W' : World) v', W'.ownsRow base 64 3 v' (n + 1) (l.flatMap encL ++ encL ⟨xa, xb, xc⟩) → rowR W' base v' (l ++ [⟨xa, xb, xc⟩])) := fun W' v' h => row_snoc (by rw [← hn]; exact h)
  clear HW1 hn hl hown
  rcases List.eq_nil_or_concat l with rfl | ⟨l', y, hl'⟩
  · obtain rfl : n = 0 := HN.out
    have k0 := HJ.out.c0; have k1 := HJ.out.c1; have k2 := HJ.out.c2
    clear HN hy h
    go_enter Try.func49, Try.ntmps49
    go_upto_region 1 with fail
    rw [← HW1'.out]
    go_wp2_with fail
    go_quiet (fail)
    rename_i nq
    have hj := HJ.out.drewN hb nq
    clear k0 k1 k2
    generalize hw : World.drewN _ nq = w2 at hj ⊢
    clear hw
    have k0 := hj.c0; have k1 := hj.c1; have k2 := hj.c2
    have hown := hj.own
    have HLT := Lib.hid hj.own.lt
    have hsz : base ≤ w2.heap.size := Nat.le_trans hb (Nat.le_of_lt hj.lt)
    have HJ2 := Lib.hid hj
    clear hj
    go_wp2_with (at_builtin; refine wpList_append_own_at _ rfl _ _ 31 rfl base 64 i0 (.agg #[.int .i64 0, .int .i64 0, .int .i64 0]) 3 24 Try.underlying31 hi hz0 hz1 hz2 rfl (by decide) _ _ _ rfl (hown.alloc _) ⟨w2.heap.size, 0, none⟩ 1 1 [.int .i64 xa, .int .i64 xb, .int .i64 xc] rfl rfl ?c1 ?c2 ?c3 ?c4 ?c5 ?_)
    case c1 => exact cells3_new _ _ _ _ _
    case c2 => intro u hu; simp at hu; rcases hu with rfl | rfl | rfl <;> rfl
    case c3 => exact hml
    case c4 => exact hmb
    case c5 => simp; omega
    intro v' w4 hown4 hgrow _ hat
    have HF : Hid (JP W base (.slice a 0 c) ([] ++ [⟨xa, xb, xc⟩]) v' w4) := ⟨HTO.out w4 v' hown4, (HJ2.out.bel.alloc hsz _).grown hgrow (by simp; omega) (fun j hj => (HLT.out _ hj).1),
      fun k hk hne => (hgrow.block k (Nat.lt_of_lt_of_le (Nat.lt_trans hk HJ2.out.lt) (by rw [World.size_alloc]; exact Nat.le_succ _)) hne).trans ((((Below.refl w2.heap.size w2).alloc (Nat.le_refl _) _).block k (Nat.lt_trans hk HJ2.out.lt)).trans (HJ2.out.bw.block k hk)),
      fun k hk => by
        rcases hat with h1 | h1
        · exact .inl (h1.symm.trans hk)
        · rw [h1] at hk
          injection hk with hk
          exact .inr (by have := HJ2.out.lt; omega)⟩
    clear hown4 hgrow hown k0 k1 k2 hat
    go_wp2_with fail
    go_ret
    exact ⟨_, rfl, HF.out⟩
  · rw [List.concat_eq_append] at hl'
    subst hl'
    obtain ⟨m, hm⟩ : ∃ m, m = l'.length := ⟨_, rfl⟩
    obtain rfl : n = m + 1 := by rw [HN.out, hm]; simp
    have hrs := IsRs.of_row (show W1.ownsRow base 64 3 (.slice a (m + 1) c) (l' ++ [y]).length ((l' ++ [y]).flatMap encL) by rw [← HN.out]; exact HJ.out.own)
    obtain ⟨a', c', hv, hcs⟩ := hrs
    obtain ⟨G, e1, -, hcs2⟩ := hcs (by simp)
    clear hcs
    injection hv with hv1 hv2 hv3
    clear hv2 hv3
    subst hv1
    subst e1
    have hlast := (hcs2 m (by rw [hm]; simp)).2.2
    have hlv : (l' ++ [y])[m]'(by rw [hm]; simp) = y := by subst hm; simp
    rw [hlv] at hlast
    have hne : (y.tag == xc) = false := beq_eq_false_iff_ne.2 (hy y (by simp))
    have hw1 : IntKind.i64.wrap (((m + 1 : Nat) : Int) - 1) = (m : Int) := by rw [show (((m + 1 : Nat) : Int) - 1) = (m : Int) by omega]; exact IntWalk.i64_in _ (by unfold maxLen at hml; omega)
    have hgt : ((m + 1 : Nat) : Int) > 0 := by omega
    have k0 := HJ.out.c0; have k1 := HJ.out.c1; have k2 := HJ.out.c2
    clear HN hy h hcs2 hlv hm
    generalize y.tag = yt at *
    go_enter Try.func49, Try.ntmps49
    go_upto_region 1 with fail
    rw [← HW1'.out]
    go_wp2_with fail
    go_quiet (fail)
    rename_i nq
    have hj := HJ.out.drewN hb nq
    clear k0 k1 k2 hlast
    generalize hw : World.drewN _ nq = w2 at hj ⊢
    clear hw
    have k0 := hj.c0; have k1 := hj.c1; have k2 := hj.c2
    have hown := hj.own
    have HLT := Lib.hid hj.own.lt
    have hsz : base ≤ w2.heap.size := Nat.le_trans hb (Nat.le_of_lt hj.lt)
    have HJ2 := Lib.hid hj
    clear hj
    go_wp2_with (at_builtin; refine wpList_append_own_at _ rfl _ _ 31 rfl base 64 i0 (.agg #[.int .i64 0, .int .i64 0, .int .i64 0]) 3 24 Try.underlying31 hi hz0 hz1 hz2 rfl (by decide) _ _ _ rfl (hown.alloc _) ⟨w2.heap.size, 0, none⟩ 1 1 [.int .i64 xa, .int .i64 xb, .int .i64 xc] rfl rfl ?c1 ?c2 ?c3 ?c4 ?c5 ?_)
    case c1 => exact cells3_new _ _ _ _ _
    case c2 => intro u hu; simp at hu; rcases hu with rfl | rfl | rfl <;> rfl
    case c3 => exact hml
    case c4 => exact hmb
    case c5 => simp; omega
    intro v' w4 hown4 hgrow _ hat
    have HF : Hid (JP W base (.slice (some ⟨G, 0, none⟩) (m + 1) c) (l' ++ [y] ++ [⟨xa, xb, xc⟩]) v' w4) := ⟨HTO.out w4 v' (by rw [List.flatMap_append, List.flatMap_singleton, List.append_assoc]; exact hown4), (HJ2.out.bel.alloc hsz _).grown hgrow (by simp; omega) (fun j hj => (HLT.out _ hj).1),
      fun k hk hne => (hgrow.block k (Nat.lt_of_lt_of_le (Nat.lt_trans hk HJ2.out.lt) (by rw [World.size_alloc]; exact Nat.le_succ _)) hne).trans ((((Below.refl w2.heap.size w2).alloc (Nat.le_refl _) _).block k (Nat.lt_trans hk HJ2.out.lt)).trans (HJ2.out.bw.block k hk)),
      fun k hk => by
        rcases hat with h1 | h1
        · exact .inl (h1.symm.trans hk)
        · rw [h1] at hk
          injection hk with hk
          exact .inr (by have := HJ2.out.lt; omega)⟩
    clear hown4 hgrow hown k0 k1 k2 hat
    go_wp2_with fail
    go_ret
    exact ⟨_, rfl, HF.out⟩
/-- an append as one step of a drawn region -/
theorem step_append_row {P : Program} {ops : Array Oper} {o : Oper} {a : Act} {w : World} {K : Act → World → Prop} {Q : Exit → Act → World → Prop} {E : Prop} (hg : o.guard = none) (s x : Operand) (t : TypeId)
    (ho : o.op = Op.call { callee := Callee.builtin Builtin.append, args := #[s, x], argTypes := #[t, t] })
    (base : Nat) (e : TypeId) (i : TypeInfo) (z : Value) (size bytes : Nat) (ht : P.underlying t = some (.slice e)) (hi : P.info? e = some i) (hz : i.zero = some z)
    (hsize : i.size = size) (hby : i.bytes = bytes) (hzs : z.cells.size = size) (hsz : 0 < size)
    (v : Value) (n : Nat) (xs : List Value) (hs : a.eval s = v) (hown : w.ownsRow base e size v n xs)
    (ad : Addr) (m c : Nat) (news : List Value) (hx : a.eval x = .slice (some ad) m c) (hl : news.length = m * size) (hnews : ∀ j u, news[j]? = some u → w.cell? (ad.add j) = some u) (h1 : ∀ u ∈ news, u.oneCell' = true)
    (h63 : n + m ≤ maxLen) (hbytes : (n + m) * bytes ≤ 140737488355328) (hbase : base ≤ w.heap.size)
    (hK : ∀ v' w', w'.ownsRow base e size v' (n + m) (xs ++ news) → w.grownBy w' v.ownBlock → (v' = .slice none 0 0 ↔ v = .slice none 0 0 ∧ m = 0) → K (a.put o.dst v') w') :
    if Region.wanted o (yielded ops a.tmps) = true then Oper.wp P o a w K Q else E := by
  have hw : Region.wanted o (yielded ops a.tmps) = true := by simp [Region.wanted, hg]
  rw [if_pos hw]
  exact wp_append_own w s x t ho base e i z size bytes ht hi hz hsize hby hzs hsz v n xs hs hown ad m c news hx hl hnews h1 h63 hbytes hbase hK
theorem encL_one (l : List R) : ∀ u ∈ l.flatMap encL, u.oneCell' = true := by
  intro u hu
  obtain ⟨r, _, hr⟩ := List.mem_flatMap.1 hu
  simp [encL] at hr
  rcases hr with rfl | rfl | rfl <;> rfl
theorem encL_len (l : List R) : (l.flatMap encL).length = l.length * 3 := by
  induction l with
  | nil => rfl
  | cons r l ih => rw [List.flatMap_cons, List.length_append, ih, List.length_cons]; simp [encL]; omega
set_option maxRecDepth 100000 in
set_option maxHeartbeats 2000000 in
theorem Join_same {base : Nat} {v : Value} {l' : List R} {y : R} (xa xb xc : Int) {W : World} (h : rowR W base v (l' ++ [y])) (hx : xa < xb) (hb : base ≤ W.heap.size) (hl : l'.length ≤ 100000) (hy : y.tag = xc) :
    Calls Try.prog 49 #[v, .agg #[.int .i64 xa, .int .i64 xb, .int .i64 xc]] W fun e w' => ∃ v', e = .returned v' ∧ Hid (JP W base v (l' ++ [⟨y.lo, xb, xc⟩]) v' w') := by
  obtain ⟨i0, hi, hz0, hz1, hz2⟩ := info_parts infoRun
  have hlt : ¬ xa ≥ xb := by omega
  obtain ⟨yl, yh, yt⟩ := y
  simp only at hy
  subst hy
  have hown := h
  have hcells := fun g hg => h.cells (g := g) hg
  rcases h.2 with ⟨_, h0⟩ | ⟨G, c, cur, rfl, hG, hGh, hcap, -⟩
  · rw [List.length_append] at h0; cases h0
  have hGl : G < W.heap.size := (Array.getElem?_eq_some_iff.1 hGh).1
  unfold rowR at hown
  obtain ⟨m, hm⟩ : ∃ m, m = l'.length := ⟨_, rfl⟩
  have hlen : (l' ++ [(⟨yl, yh, yt⟩ : R)]).length = m + 1 := by rw [hm]; simp
  rw [hlen] at hown hcap ⊢
  obtain ⟨W1, HW1⟩ : ∃ W1, W1 = W.alloc (.cells #[.int .i64 xa, .int .i64 xb, .int .i64 yt] 64) := ⟨_, rfl⟩
  have hj := Jn.new xa xb yt hown hb
  rw [← HW1] at hj
  have HJ := Lib.hid hj
  have HW1' := Lib.hid HW1
  -- the cells of the list, in every later world
  have HCL : Hid (∀ (W' : World), Below W.heap.size W W' → (∀ j u, (l'.flatMap encL)[j]? = some u → W'.cell? ((⟨G, 0, none⟩ : Addr).add j) = some u) ∧ W'.cell? ⟨G, m * 3, none⟩ = some (.int .i64 yl) ∧ W'.cell? ⟨G, m * 3 + 2, none⟩ = some (.int .i64 yt)) := fun W' hb' => by
    have hk : ∀ j u, ((l' ++ [(⟨yl, yh, yt⟩ : R)]).flatMap encL)[j]? = some u → W'.cell? ⟨G, j, none⟩ = some u := fun j u hu => by
      have := hcells G rfl j u hu
      rw [add_zero'] at this
      exact (hb'.cell (p := ⟨G, j, none⟩) hGl).trans this
    obtain ⟨g0, _, g2⟩ := encL_get (l' ++ [(⟨yl, yh, yt⟩ : R)]) m (by rw [hlen]; omega)
    have e1 : (l' ++ [(⟨yl, yh, yt⟩ : R)])[m]'(by rw [hlen]; omega) = ⟨yl, yh, yt⟩ := by subst hm; simp
    rw [e1] at g0 g2
    refine ⟨fun j u hu => ?_, hk _ _ g0, hk _ _ g2⟩
    rw [add_zero']
    refine hk j u ?_
    rw [List.flatMap_append, List.getElem?_append_left (List.getElem?_eq_some_iff.1 hu).1]
    exact hu
  have hml : m + 1 ≤ maxLen := by unfold maxLen; omega
  have hmb : (m + 1) * 24 ≤ 140737488355328 := by omega
  have hw1 : IntKind.i64.wrap (((m + 1 : Nat) : Int) - 1) = (m : Int) := by rw [show (((m + 1 : Nat) : Int) - 1) = (m : Int) by omega]; exact IntWalk.i64_in _ (by omega)
  have hgt : ((m + 1 : Nat) : Int) > 0 := by omega
  have hw2 : IntKind.i64.wrap ((m : Int) + 1 - 1) = (m : Int) := by rw [show ((m : Int) + 1 - 1) = (m : Int) by omega]; exact IntWalk.i64_in _ (by omega)
  have hw3 : IntKind.i64.wrap (m : Int) = (m : Int) := IntWalk.i64_in _ (by omega)
  have hi1 : (0 : Int) ≤ (m : Int) := by omega
  have hi2 : (m : Int) < ((m + 1 : Nat) : Int) := by omega
  have hi3 : (m : Int) < (m : Int) + 1 := by omega
  have hmc : (m : Int) ≤ (c : Int) := by omega
  have HLL : Hid ((l'.flatMap encL).length = m * 3) := by show _ = _; rw [hm]; exact encL_len l'
  have HTO : Hid (∀ (W' : World) v', W'.ownsRow base 64 3 v' (m + 1) (l'.flatMap encL ++ encL ⟨yl, xb, yt⟩) → rowR W' base v' (l' ++ [⟨yl, xb, yt⟩])) := fun W' v' h => row_snoc (by rw [← hm]; exact h)
  have HONE := Lib.hid (encL_one l')
  have hlast := (HCL.out W1 (by rw [HW1]; exact (Below.refl _ _).alloc (Nat.le_refl _) _)).2.2
  have hBW1 : Hid (Below W.heap.size W W1) := by rw [HW1]; exact (Below.refl _ _).alloc (Nat.le_refl _) _
  have k0 := HJ.out.c0; have k1 := HJ.out.c1; have k2 := HJ.out.c2
  clear hj HW1 hm h hcells hown hlen hGh hl
  go_enter Try.func49, Try.ntmps49
  go_upto_region 1 with fail
  rw [← HW1'.out]
  go_wp2_with fail
  go_quiet (fail)
  rename_i nq
  have hj := HJ.out.drewN hb nq
  have hb2 : Below W.heap.size W (W1.drewN nq) := hBW1.out.trans (below_drewN (Below.refl _ _) nq)
  clear k0 k1 k2 hlast
  generalize hw : World.drewN _ nq = w2 at hj hb2 ⊢
  clear hw
  have k1 := hj.c1; have k2 := hj.c2
  have HJ2 := Lib.hid hj
  have HB2 := Lib.hid hb2
  have hsz : base ≤ w2.heap.size := Nat.le_trans hb (Nat.le_of_lt hj.lt)
  clear hj hb2
  go_wp2_with (at_builtin; refine wpList_append_own _ rfl _ _ 31 rfl w2.heap.size 64 i0 (.agg #[.int .i64 0, .int .i64 0, .int .i64 0]) 3 24 Try.underlying31 hi hz0 hz1 hz2 rfl (by decide) _ _ _ rfl (World.ownsRow_nil _ _ _ _) ⟨G, 0, none⟩ m c (l'.flatMap encL) rfl ?c0 ?c1 ?c2 ?c3 ?c4 ?c5 ?_)
  case c0 => exact HLL.out
  case c1 => exact (HCL.out _ HB2.out).1
  case c2 => exact HONE.out
  case c3 => omega
  case c4 => omega
  case c5 => exact Nat.le_refl _
  intro v5 w5 hown5' hgrow5 _
  have hown5 : w5.ownsRow w2.heap.size 64 3 v5 m (l'.flatMap encL) := by simpa using hown5'
  have hb5 : Below W.heap.size W w5 := HB2.out.grown hgrow5 (Nat.le_of_lt HJ2.out.lt) (fun j e => by cases e)
  have x1 : w5.cell? ⟨W.heap.size, 1, none⟩ = some (.int .i64 xb) := hgrow5.cell k1 (fun e => by cases e)
  have x2 : w5.cell? ⟨W.heap.size, 2, none⟩ = some (.int .i64 yt) := hgrow5.cell k2 (fun e => by cases e)
  have x3 := (HCL.out w5 hb5).2.1
  have hlt5 : W.heap.size < w5.heap.size := Nat.lt_of_lt_of_le HJ2.out.lt hgrow5.size
  have HLT5 := Lib.hid hown5.lt
  have hs25 : w2.heap.size ≤ w5.heap.size := hgrow5.size
  obtain ⟨a5, c5, rfl⟩ := own_slice hown5
  have HAL : Hid (∀ o, (w5.drew.alloc o).cell? ⟨W.heap.size, 1, none⟩ = some (.int .i64 xb) ∧ (w5.drew.alloc o).cell? ⟨W.heap.size, 2, none⟩ = some (.int .i64 yt) ∧ (w5.drew.alloc o).cell? ⟨G, m * 3, none⟩ = some (.int .i64 yl)) := fun o => by
    have hb' : Below w5.heap.size w5 (w5.drew.alloc o) := (Below.refl _ _).drew.alloc (by show w5.heap.size ≤ w5.heap.size; exact Nat.le_refl _) _
    exact ⟨(hb'.cell (p := ⟨W.heap.size, 1, none⟩) hlt5).trans x1, (hb'.cell (p := ⟨W.heap.size, 2, none⟩) hlt5).trans x2, (hb'.cell (p := ⟨G, m * 3, none⟩) (Nat.lt_trans hGl hlt5)).trans x3⟩
  have HONE3 : Hid (∀ x y z : Int, ∀ u ∈ [Value.int .i64 x, .int .i64 y, .int .i64 z], u.oneCell' = true) := by intro x y z u hu; simp at hu; rcases hu with rfl | rfl | rfl <;> rfl
  have HSZ : Hid (∀ o, w2.heap.size ≤ (w5.drew.alloc o).heap.size) := fun o => Nat.le_trans hs25 (by rw [World.size_alloc]; exact Nat.le_succ _)
  have HG2 : Hid (W.heap.size < w2.heap.size ∧ G < w2.heap.size) := ⟨HJ2.out.lt, Nat.lt_trans hGl HJ2.out.lt⟩
  have HB5 : Hid (Below base W w5) := HJ2.out.bel.grown hgrow5 hsz (fun j e => by cases e)
  have HBW5 := Lib.hid hb5
  clear hown5' hgrow5 hb5 k1 k2
  have hc5 : w5.cell? ⟨W.heap.size, 1, none⟩ = some (.int .i64 xb) ∧ w5.cell? ⟨W.heap.size, 2, none⟩ = some (.int .i64 yt) ∧ w5.cell? ⟨G, m * 3, none⟩ = some (.int .i64 yl) := ⟨x1, x2, x3⟩
  have hcd : w5.drew.cell? ⟨W.heap.size, 1, none⟩ = some (.int .i64 xb) ∧ w5.drew.cell? ⟨W.heap.size, 2, none⟩ = some (.int .i64 yt) ∧ w5.drew.cell? ⟨G, m * 3, none⟩ = some (.int .i64 yl) := hc5
  go_wp2_with fail
  go_region_held3 (fun W' : World => W'.cell? ⟨W.heap.size, 1, none⟩ = some (.int .i64 xb) ∧ W'.cell? ⟨W.heap.size, 2, none⟩ = some (.int .i64 yt) ∧ W'.cell? ⟨G, m * 3, none⟩ = some (.int .i64 yl)) (first | assumption | exact HAL.out _ | fail) (first
    | (refine step_append_row rfl (.tmp 34) (.tmp 46) 31 rfl w2.heap.size 64 i0 (.agg #[.int .i64 0, .int .i64 0, .int .i64 0]) 3 24 Try.underlying31 hi hz0 hz1 hz2 rfl (by decide) _ _ _ (by rfl) (hown5.drew.alloc _) ⟨w5.heap.size, 0, none⟩ 1 1 [_, _, _] rfl rfl (cells3_new _ _ _ _ _) (HONE3.out _ _ _) hml hmb (HSZ.out _) ?_; intro v6 w6 hown6 hgrow6 hnil6; have hca6 : w6.cell? ⟨W.heap.size, 1, none⟩ = some (.int .i64 xb) ∧ w6.cell? ⟨W.heap.size, 2, none⟩ = some (.int .i64 yt) ∧ w6.cell? ⟨G, m * 3, none⟩ = some (.int .i64 yl) := ⟨hgrow6.cell (HAL.out _).1 (fun e => Nat.not_lt_of_le (HLT5.out _ e.symm).1 HG2.out.1), hgrow6.cell (HAL.out _).2.1 (fun e => Nat.not_lt_of_le (HLT5.out _ e.symm).1 HG2.out.1), hgrow6.cell (HAL.out _).2.2 (fun e => Nat.not_lt_of_le (HLT5.out _ e.symm).1 HG2.out.2)⟩) | fail)
  have HF : Hid (JP W base (.slice (some ⟨G, 0, none⟩) (m + 1) c) (l' ++ [⟨yl, xb, yt⟩]) v6 w6) := ⟨HTO.out w6 v6 (row_mono hown6 hsz), (HB5.out.drew.alloc (Nat.le_trans hsz hs25) _).grown hgrow6 (Nat.le_trans hsz (HSZ.out _)) (fun j hj => Nat.le_trans hsz (HLT5.out _ hj).1),
    fun k hk _ => (hgrow6.block k (Nat.lt_of_lt_of_le (Nat.lt_trans hk HG2.out.1) (HSZ.out _)) (fun e => by have := (HLT5.out k e.symm).1; have := HG2.out.1; omega)).trans ((((Below.refl w5.heap.size w5).drew.alloc (by show w5.heap.size ≤ w5.heap.size; exact Nat.le_refl _) _).block k (Nat.lt_trans hk hlt5)).trans (HBW5.out.block k hk)),
    fun k hk => .inr (by have := (hown6.lt k hk).1; have := HG2.out.1; omega)⟩
  clear hown6 hgrow6 hown5 hca6 hcd hc5 x1 x2 x3
  go_wp2_with fail
  go_ret
  exact ⟨_, rfl, HF.out⟩
theorem Join_any {base : Nat} {v : Value} {l : List R} (x : R) {W : World} (h : rowR W base v l) (hb : base ≤ W.heap.size) (hl : l.length ≤ 100000) :
    Calls Try.prog 49 #[v, .agg #[.int .i64 x.lo, .int .i64 x.hi, .int .i64 x.tag]] W fun e w' => ∃ v', e = .returned v' ∧ Hid (JP W base v (joinL l x) v' w') := by
  obtain ⟨xa, xb, xc⟩ := x
  unfold joinL
  by_cases hx : xb ≤ xa
  · rw [if_pos hx]
    exact Join_no xa xb xc h hx hb
  · rw [if_neg hx]
    rcases List.eq_nil_or_concat l with rfl | ⟨l', y, hl'⟩
    · exact Join_add xa xb xc h (by omega) hb hl (fun y hy => by cases hy)
    · rw [List.concat_eq_append] at hl'
      subst hl'
      rw [List.getLast?_concat]
      by_cases ht : y.tag = xc
      · simp only
        rw [if_pos ht, List.dropLast_concat]
        exact Join_same xa xb xc h (by omega) hb (by simp at hl; omega) ht
      · simp only
        rw [if_neg ht]
        exact Join_add xa xb xc h (by omega) hb hl (fun z hz => by rw [List.getLast?_concat] at hz; cases hz; exact ht)
end Go.Proofs.Ytahgfggcpmnnaaa
