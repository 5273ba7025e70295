/- Equal, of two maps of the same size. -/
import Derived.Test.YtahgfggcpmnnaaaZm
import Derived.Test.YtahgfggcpmnnaaaZo
import Derived.Test.YtahgfggcpmnnaaaZq
import Derived.Test.YtahgfggcpmnnaaaYk
namespace Go.Proofs.Ytahgfggcpmnnaaa
open Go Go.RowKit Go.Shelf Gs

attribute [local go_sem] Oper.semAt_some

/-- of lists that cover the same pieces, one whose runs are all among the other's is the other -/
theorem fits_sub {f g : Int → Int} : ∀ {l k : List R} {a b : Int}, Fits f a l b → Fits g a k b → (∀ r ∈ l, r ∈ k) → l = k
  | [], k, a, b, h, h', _ => by
    have h : a = b := h
    subst h
    cases k with
    | nil => rfl
    | cons s k => have := h'.lt; omega
  | r :: l, k, a, b, h, h', hs => by
    have hlt := h.lt
    cases k with
    | nil => have h' : a = b := h'; omega
    | cons s k =>
      have hr := hs r (List.mem_cons_self ..)
      have e1 := h.1; have s1 := h'.1; have s2 := h'.2.1
      have hrs : r = s := by
        rcases List.mem_cons.1 hr with h1 | h1
        · exact h1
        · exfalso
          have : ∀ {k : List R} {c : Int}, Fits g c k b → ∀ x ∈ k, c ≤ x.lo := by
            intro k
            induction k with
            | nil => intro c _ x hx; cases hx
            | cons y k ih =>
              intro c hc x hx
              rcases List.mem_cons.1 hx with h2 | h2
              · subst h2; have := hc.1; omega
              · have := ih hc.2.2.2 x h2; have := hc.1; have := hc.2.1; omega
          have := this h'.2.2.2 r h1
          omega
      subst hrs
      have hno : ∀ {l : List R} {c : Int}, Fits f c l b → ∀ x ∈ l, c ≤ x.lo := by
        intro l
        induction l with
        | nil => intro c _ x hx; cases hx
        | cons y k ih =>
          intro c hc x hx
          rcases List.mem_cons.1 hx with h2 | h2
          · subst h2; have := hc.1; omega
          · have := ih hc.2.2.2 x h2; have := hc.1; have := hc.2.1; omega
      rw [fits_sub h.2.2.2 h'.2.2.2 fun x hx => by
        rcases List.mem_cons.1 (hs x (List.mem_cons_of_mem _ hx)) with h2 | h2
        · exfalso
          have q1 := hno h.2.2.2 x hx
          have q2 := h.2.1
          rw [h2] at q1
          omega
        · exact h2]
/-- two runs that hold a piece are one -/
theorem fits_one {f : Int → Int} : ∀ {l : List R} {a b : Int} {r s : R} {p : Int}, Fits f a l b → r ∈ l → s ∈ l → r.lo ≤ p → p < r.hi → s.lo ≤ p → p < s.hi → r = s
  | [], _, _, _, _, _, _, hr, _, _, _, _, _ => by cases hr
  | x :: l, a, b, r, s, p, h, hr, hs, r1, r2, s1, s2 => by
    have hno : ∀ {l : List R} {c : Int}, Fits f c l b → ∀ x ∈ l, c ≤ x.lo := by
      intro l
      induction l with
      | nil => intro c _ x hx; cases hx
      | cons y k ih =>
        intro c hc x hx
        rcases List.mem_cons.1 hx with h2 | h2
        · subst h2; have := hc.1; omega
        · have := ih hc.2.2.2 x h2; have := hc.1; have := hc.2.1; omega
    rcases List.mem_cons.1 hr with h1 | h1
    · rcases List.mem_cons.1 hs with h2 | h2
      · rw [h1, h2]
      · have := hno h.2.2.2 s h2; rw [h1] at r2; omega
    · rcases List.mem_cons.1 hs with h2 | h2
      · have := hno h.2.2.2 r h1; rw [h2] at s2; omega
      · exact fits_one h.2.2.2 h1 h2 r1 r2 s1 s2
theorem fits_find {f : Int → Int} : ∀ {l : List R} {a b : Int} {p : Int}, Fits f a l b → a ≤ p → p < b → ∃ r ∈ l, r.lo ≤ p ∧ p < r.hi
  | [], a, b, p, h, h1, h2 => by have h : a = b := h; omega
  | x :: l, a, b, p, h, h1, h2 => by
    have e := h.1
    by_cases hp : p < x.hi
    · exact ⟨x, List.mem_cons_self .., by omega, hp⟩
    · obtain ⟨r, hr, h3⟩ := fits_find h.2.2.2 (by omega) h2
      exact ⟨r, List.mem_cons_of_mem _ hr, h3⟩
theorem fits_rng {f : Int → Int} : ∀ {l : List R} {a b : Int}, Fits f a l b → ∀ r ∈ l, a ≤ r.lo ∧ r.lo < r.hi ∧ r.hi ≤ b
  | [], _, _, _, _, hr => by cases hr
  | x :: l, a, b, h, r, hr => by
    have h1 := h.1; have h2 := h.2.1; have h3 := h.2.2.2.le
    rcases List.mem_cons.1 hr with e | e
    · subst e; omega
    · have := fits_rng h.2.2.2 r e; omega
set_option maxHeartbeats 1000000 in
/-- the iterator's contract, where a round is told that its run is one of the range's -/
theorem seqP_stops {f : Int → Int} {t : T} {p : Option Addr} {a b lo hi : Int} {B n₀ n : Nat} {w : World} (C : List R) (hC : clip lo hi t.L = C) (hB : B + 1 + 1 < w.heap.size) (hn : n₀ ≤ w.heap.size)
    (c0 : w.cell? ⟨B, 0, none⟩ = some (.pointer p)) (c1 : w.cell? ⟨B + 1, 0, none⟩ = some (.int .i64 lo)) (c2 : w.cell? ⟨B + 1 + 1, 0, none⟩ = some (.int .i64 hi)) (ht : IsTB n₀ w t p) (hc : Gs.Can f a t.L b) :
    SeqStopsK Fence.wide n Try.prog 72 #[.pointer (some ⟨B, 0, none⟩), .pointer (some ⟨B + 1, 0, none⟩), .pointer (some ⟨B + 1 + 1, 0, none⟩)] (fun x : { r : R // r ∈ C } => encR x.1) (Below n₀) (fun ys => ys.map (·.1) = C) (fun q => q.map (·.1) <+: C) C.length w := fun l J Jx W hW hJ hJx hY h0 => by
  have hp := visitP_in (fun r => r ∈ C) f l n₀ C.length (fun pre W => ∃ us : List { r : R // r ∈ C }, us.map (·.1) = pre ∧ J us W) (fun pre W => ∃ us : List { r : R // r ∈ C }, us.map (·.1) = pre ∧ Jx us W)
    (fun s W W' ⟨us, e, hs⟩ hg => ⟨us, e, hJ us W W' none hs hg (fun r e => by cases e)⟩) (fun s W W' ⟨us, e, hs⟩ hg => ⟨us, e, hJx us W W' none hs hg (fun r e => by cases e)⟩)
    (fun m pre x W1 ⟨us, e, hj⟩ hl hx => YieldAt.mono (YieldAt.deep rfl m (hY us ⟨x, hx⟩ W1 hj (by rw [← e, List.length_map] at hl; exact hl))) fun e' W2 h => h.elim (fun ⟨he, hj2, hk⟩ => .inl ⟨he, ⟨us ++ [⟨x, hx⟩], by rw [List.map_append, e]; rfl, hj2⟩, hk⟩) fun ⟨he, hj2⟩ => .inr ⟨he, ⟨us ++ [⟨x, hx⟩], by rw [List.map_append, e]; rfl, hj2⟩⟩)
    t (n - 1) p a b lo hi [] W (ht.below (hW.mono hn)) (Nat.le_trans hn hW.size) hc ⟨[], rfl, h0⟩ (by simp [hC]) (fun x hx => by rw [hC] at hx; exact hx)
  rw [hC] at hp
  have k0 : W.cell? ⟨B, 0, none⟩ = some (.pointer p) := (hW.cell (p := ⟨B, 0, none⟩) (by show B < _; omega)).trans c0
  have k1 : W.cell? ⟨B + 1, 0, none⟩ = some (.int .i64 lo) := (hW.cell (p := ⟨B + 1, 0, none⟩) (by show B + 1 < _; omega)).trans c1
  have k2 : W.cell? ⟨B + 1 + 1, 0, none⟩ = some (.int .i64 hi) := (hW.cell (p := ⟨B + 1 + 1, 0, none⟩) (by show B + 1 + 1 < _; omega)).trans c2
  clear c0 c1 c2 hW hY hC
  refine callsIn_of_wp Try.func72 rfl trivial ?_ rfl
  simp only [Try.ntmps72, List.size_toArray, List.length_cons, List.length_nil, Nat.reduceAdd, Nat.reduceSub, Array.replicate_succ, Array.replicate_zero, List.push_toArray, List.append_toArray, List.nil_append, List.cons_append]
  gi_wp2_with fail
  refine ⟨trivial, (fun h => by cases h), hp.mono ?_⟩
  rintro e W1 (⟨rfl, ⟨us, h1, h2⟩, _⟩ | ⟨rfl, q, hq, us, h1, h2⟩)
  · gi_wp2_with fail
    go_end0
    exact ⟨⟨_, rfl⟩, .inl ⟨us, by simpa using h1, h2⟩⟩
  · gi_wp2_with fail
    go_end0
    exact ⟨⟨_, rfl⟩, .inr ⟨us, by rw [h1]; simpa using hq, h2⟩⟩
theorem IsM.tree {f : Int → Int} {size : Int} {W : World} {p : Option Addr} (h : IsM f size W p) : ∃ t, IsT W t (.pointer p) ∧ Gs.Can f 0 t.L size := by
  obtain ⟨t, t1, t2, _⟩ := h.tr
  exact ⟨t, t1, t2⟩
set_option maxRecDepth 100000 in
set_option maxHeartbeats 2000000 in
theorem Equal_any {f g : Int → Int} {size : Int} {W : World} {p q : Option Addr} (h : IsM f size W p) (h' : IsM g size W q) :
    ∃ La Lb, Gs.Can f 0 La size ∧ Gs.Can g 0 Lb size ∧ Calls Try.prog 32 #[.agg #[.pointer p, .int .i64 size], .agg #[.pointer q, .int .i64 size]] W fun e w' => ∃ b, e = .returned (.bool b) ∧ Hid (b = true ↔ La = Lb) ∧ Below W.heap.size W w' := by
  have hs := h.lo
  obtain ⟨ta, a1, a2⟩ := IsM.tree h
  obtain ⟨tb, b1, b2⟩ := IsM.tree h'
  have hcl := Gs.Can.same (clip_can a2 (Int.le_refl 0) (by omega) (Int.le_refl size)) a2
  refine ⟨ta.L, tb.L, a2, b2, ?_⟩
  obtain ⟨w0, HW⟩ : ∃ w0, w0 = ((W.alloc (.cells #[.pointer p, .int .i64 size] 27)).alloc (.cells #[.pointer q, .int .i64 size] 27)).alloc (.cells #[.bool false] 4) := ⟨_, rfl⟩
  have hsz : w0.heap.size = W.heap.size + 1 + 1 + 1 := by rw [HW]; simp
  have hc : Boxed w0 (W.heap.size + 1 + 1) 4 (.bool false) := by
    have := Boxed.new ((W.alloc (.cells #[.pointer p, .int .i64 size] 27)).alloc (.cells #[.pointer q, .int .i64 size] 27)) 4 (.bool false)
    rw [← HW] at this
    simpa using this
  have hq : w0.heap[W.heap.size + 1]? = some (.cells #[.pointer q, .int .i64 size] 27 (0, 0)) := by
    rw [HW, Below.heap_alloc _ _ _ (by simp)]
    have := World.alloc_heap_new (W.alloc (.cells #[.pointer p, .int .i64 size] 27)) (.cells #[.pointer q, .int .i64 size] 27)
    rwa [World.size_alloc] at this
  have hb : Below W.heap.size W w0 := by rw [HW]; exact (((Below.refl _ _).alloc (Nat.le_refl _) _).alloc (by simp) _).alloc (by simp; omega) _
  obtain ⟨w1, HW1⟩ : ∃ w1, w1 = w0.alloc (.cells #[.pointer p, .int .i64 size] 27) := ⟨_, rfl⟩
  have c1 : Below w0.heap.size w0 w1 := by rw [HW1]; exact (Below.refl _ _).alloc (Nat.le_refl _) _
  have e1 : w1.heap.size = w0.heap.size + 1 := by rw [HW1]; simp
  obtain ⟨q0, q1, q2, q3, q4⟩ := seq_cells w1 p 0 size
  have c2 := c1.trans (q4.mono c1.size)
  have hc2 : Boxed (seqW w1 p 0 size) (W.heap.size + 1 + 1) 4 (.bool false) := (c2.block _ (by omega)).trans hc
  have hq2 : (seqW w1 p 0 size).heap[W.heap.size + 1]? = some (.cells #[.pointer q, .int .i64 size] 27 (0, 0)) := (c2.block _ (by omega)).trans hq
  have hb2 : Below W.heap.size W (seqW w1 p 0 size) := hb.trans (c2.mono hb.size)
  have HAL : Hid (CallsIn Fence.wide 8 Try.prog 58 #[.agg #[.pointer p, .int .i64 size]] w0 fun e w' => e = .returned (seqV w1.heap.size) ∧ w' = seqW w1 p 0 size) := callsIn_wide.2 (by rw [e1, HW1]; exact all_any p size w0)
  have hge : W.heap.size ≤ (seqW w1 p 0 size).heap.size := hb2.size
  have HSQ := Lib.hid (seqP_stops (n := 8) (n₀ := W.heap.size) (lo := 0) (hi := size) ta.L hcl (by rw [q3]; omega) hge q0 q1 q2 ((IsT.tb a1).below hb2) a2)
  have HATB : Hid (∀ W' x, Below W.heap.size W W' → 0 ≤ x → x < size → CallsIn Fence.wide 6 Try.prog 45 #[.pointer q, .int .i64 x] W' fun e w' => ∃ lo hi tag, e = .returned (.agg #[.int .i64 lo, .int .i64 hi, .int .i64 tag]) ∧ Hid ((⟨lo, hi, tag⟩ : R) ∈ tb.L ∧ lo ≤ x ∧ x < hi) ∧ Below W'.heap.size W' w') := fun W' x hB x1 x2 => callsIn_wide.2 ((at_any g 0 size tb q W' x (IsT.below hB b1) b2 x1 x2).mono fun e w' ⟨l, lo, hi, tag, k, he, hk, hB⟩ => ⟨lo, hi, tag, he, ⟨by rw [hk.out.1]; simp, hk.out.2⟩, hB⟩)
  have HFA := Lib.hid a2
  have HFB := Lib.hid b2
  have HW' := Lib.hid HW
  rw [hsz] at e1
  rw [e1] at HSQ HAL
  generalize seqW w1 p 0 size = w2 at *
  clear h h' hs q0 q1 q2 q3 q4 c1 c2 HW hc hq hb HW1 e1 hsz a1 a2 b1 b2 hcl
  refine (callsIn_wide (n := 9)).1 ?_
  refine callsIn_of_wp_marks Try.func32 rfl trivial ?_ rfl
  simp only [Try.ntmps32, List.size_toArray, List.length_cons, List.length_nil, Nat.reduceAdd, Nat.reduceSub, Array.replicate_succ, Array.replicate_zero, List.push_toArray, List.append_toArray, List.nil_append, List.cons_append]
  gi_wp2_with (refine ⟨trivial, ?_⟩; gi_at_call 58; rw [← HW'.out]; refine HAL.out.mono ?_; rintro e w' ⟨rfl, rfl⟩)
  refine wpIn_rangeFunc_ownH rfl (by omega) (gf := 72) (lb := #[.pointer (some ⟨W.heap.size + 1 + 1 + 1 + 1, 0, none⟩), .pointer (some ⟨W.heap.size + 1 + 1 + 1 + 1 + 1, 0, none⟩), .pointer (some ⟨W.heap.size + 1 + 1 + 1 + 1 + 1 + 1, 0, none⟩)]) rfl trivial (enters_of Try.func72 (by kernel_rfl) rfl)
    HSQ.out belowK_t (belowK_b hge) (Below.refl _ _) (fun _ => rfl)
    (fun pre W' => ((Boxed W' (W.heap.size + 1 + 1) 4 (.bool false) ∧ W'.heap[W.heap.size + 1]? = some (.cells #[.pointer q, .int .i64 size] 27 (0, 0))) ∧ ∀ r ∈ pre, r.1 ∈ tb.L) ∧ Below W.heap.size W W')
    (fun c pre' W' => (c = .ret ∧ Boxed W' (W.heap.size + 1 + 1) 4 (.bool false) ∧ ∃ r ∈ pre', r.1 ∉ tb.L) ∧ Below W.heap.size W W')
    (OwnFrom.and (Own.from (fun s A B row hs hg hr => ⟨⟨boxed_own (W.heap.size + 1 + 1) 4 (fun (_ : Unit) => .bool false) () A B row hs.1.1 hg hr, (hg.block _ (Array.getElem?_eq_some_iff.1 hs.1.2).1 (fun e => by obtain ⟨o, ho, hc⟩ := hr _ e.symm; rw [hs.1.2] at ho; cases ho; cases hc)).trans hs.1.2⟩, hs.2⟩) _) (ownFrom_below (Nat.le_refl _) hge))
    (fun c => OwnFrom.and (Own.from (fun s A B row hs hg hr => ⟨hs.1, boxed_own (W.heap.size + 1 + 1) 4 (fun (_ : Unit) => .bool false) () A B row hs.2.1 hg hr, hs.2.2⟩) _) (ownFrom_below (Nat.le_refl _) hge))
    ⟨⟨⟨hc2, hq2⟩, fun r hr => by cases hr⟩, hb2⟩
    (fun x a' W' => ∃ Bx, W.heap.size + 1 + 1 < Bx ∧ Rb W' Bx x.1 ∧ a' = { tmps := #[.agg #[.pointer p, .int .i64 size], .agg #[.pointer q, .int .i64 size], .pointer (some ⟨W.heap.size, 0, none⟩), .pointer (some ⟨W.heap.size + 1, 0, none⟩), .pointer (some ⟨W.heap.size + 1 + 1, 0, none⟩), .pointer (some ⟨Bx, 0, none⟩), .pointer (some ⟨W.heap.size, 1, none⟩), .int .i64 size, .pointer (some ⟨W.heap.size + 1, 1, none⟩), .int .i64 size, .bool false, .agg #[.pointer p, .int .i64 size], seqV (W.heap.size + 1 + 1 + 1 + 1), .agg #[.int .i64 x.1.lo, .int .i64 x.1.hi, .int .i64 x.1.tag], undef, undef, undef, undef, undef, undef, undef], defers := [] })
    (fun x a' => Own.from (fun s A B row hs hg hr => by
      obtain ⟨Bx, h1, h2, h3⟩ := hs
      exact ⟨Bx, h1, Rb.own Bx x.1 () A B row h2 hg hr, h3⟩) _) ?assign ?body ?done ?stop
  case assign =>
    rintro l pre ⟨⟨xa, xb, xc⟩, hxm⟩ W' K ⟨⟨⟨g1, g2⟩, g3⟩, g4⟩ hK
    unfold encR
    gi_wp2
    exact hK _ _ ((KeepsOthers.alloc _ _).from _) ((Below.refl _ W').alloc g4.size _) ⟨⟨⟨g1.alloc _, ((Below.refl W'.heap.size W').alloc (Nat.le_refl _) _).block _ (Nat.lt_trans (Nat.lt_succ_self _) g1.lt) |>.trans g2⟩, g3⟩, g4.alloc g4.size _⟩ ⟨W'.heap.size, g1.lt, Rb.new W' ⟨xa, xb, xc⟩, rfl⟩
  case body =>
    rintro l pre ⟨⟨xa, xb, xc⟩, hxm⟩ a' W' hl ⟨r, hr⟩ ⟨⟨⟨g1, g2⟩, g3⟩, g4⟩ ⟨Bx, hBx, bX, rfl⟩ hlt
    have hrg := fits_rng HFA.out.1 _ hxm
    simp only at hrg
    have hc0 := g1.cell; have hf0 := g1.frozen
    have k0 : W'.cell? ⟨W.heap.size + 1, 0, none⟩ = some (.pointer q) := by simp [World.cell?, g2]
    obtain ⟨r0, r1, r2⟩ := bX.cells
    simp only at r0 r1 r2
    obtain ⟨⟨ya, yb, yc⟩, hym, hy1, hy2⟩ := fits_find (p := xa) HFB.out.1 hrg.1 (by omega)
    simp only at hy1 hy2
    have HAT : Hid (CallsIn Fence.wide 6 Try.prog 45 #[.pointer q, .int .i64 xa] W'.drew fun e w' => e = .returned (.agg #[.int .i64 ya, .int .i64 yb, .int .i64 yc]) ∧ Below W'.drew.heap.size W'.drew w') := (HATB.out W'.drew xa g4.drew hrg.1 (by omega)).mono fun e w' ⟨lo, hi, tag, he, hm, hB⟩ => by
      have := fits_one HFB.out.1 hm.out.1 hym hm.out.2.1 hm.out.2.2 hy1 hy2
      cases this
      exact ⟨he, hB⟩
    have HXC : Hid (∀ w5, Below W'.drew.heap.size W'.drew w5 → w5.cell? ⟨Bx, 0, none⟩ = some (.int .i64 xa) ∧ w5.cell? ⟨Bx, 1, none⟩ = some (.int .i64 xb) ∧ w5.cell? ⟨Bx, 2, none⟩ = some (.int .i64 xc)) := fun w5 h => ⟨(h.cell (p := ⟨Bx, 0, none⟩) bX.lt).trans r0, (h.cell (p := ⟨Bx, 1, none⟩) bX.lt).trans r1, (h.cell (p := ⟨Bx, 2, none⟩) bX.lt).trans r2⟩
    have HNEXT : Hid ((⟨xa, xb, xc⟩ : R) = ⟨ya, yb, yc⟩ → ∀ r ∈ pre ++ [(⟨⟨xa, xb, xc⟩, hxm⟩ : { r : R // r ∈ ta.L })], r.1 ∈ tb.L) := fun e r hr => by
      rcases List.mem_append.1 hr with h1 | h1
      · exact g3 r h1
      · rw [List.mem_singleton.1 h1]; show (⟨xa, xb, xc⟩ : R) ∈ tb.L; rw [e]; exact hym
    have HSTOP : Hid ((⟨xa, xb, xc⟩ : R) ≠ ⟨ya, yb, yc⟩ → ∃ r ∈ pre ++ [(⟨⟨xa, xb, xc⟩, hxm⟩ : { r : R // r ∈ ta.L })], r.1 ∉ tb.L) := fun e => ⟨⟨⟨xa, xb, xc⟩, hxm⟩, List.mem_append_right _ (List.mem_singleton.2 rfl), fun h => e (fits_one HFB.out.1 h hym (Int.le_refl _) hrg.2.1 hy1 hy2)⟩
    have hG1 := Lib.hid g1; have hG2 := Lib.hid g2; have hG4 := Lib.hid g4
    have HBX : Hid (∀ w5, Below W'.drew.heap.size W'.drew w5 → Boxed w5 (W.heap.size + 1 + 1) 4 (.bool false)) := fun w5 h => (h.block _ g1.lt).trans g1
    by_cases m1 : xa = ya
    · by_cases m2 : xb = yb
      · by_cases m3 : xc = yc
        · subst m1; subst m2; subst m3
          gi_wp2_with fail
          gi_region_with (first | (refine ⟨trivial, ?_⟩; with_reducible refine (CallsIn.inRound l HAT.out).mono ?_; clear HAT; rintro e w5 ⟨rfl, hb5⟩; obtain ⟨s0, s1, s2⟩ := HXC.out _ hb5; obtain ⟨b0, b1⟩ : _ ∧ _ := ⟨(HBX.out _ hb5).cell, (HBX.out _ hb5).frozen⟩) | fail)
          all_goals
            have HB5 := Lib.hid hb5
            clear s0 s1 s2 hb5
            go_simp
            gi_wp2_with fail
            exact ⟨⟨HB5.out.size, fun j o _ hj _ => (HB5.out.block j (Array.getElem?_eq_some_iff.1 hj).1).trans hj⟩, (Below.refl W'.heap.size W').drew.trans HB5.out |>.mono hG4.out.size, ⟨⟨HBX.out _ HB5.out, (HB5.out.block _ (Array.getElem?_eq_some_iff.1 hG2.out).1).trans hG2.out⟩, HNEXT.out (by first | rfl | trivial)⟩, hG4.out.trans ((Below.refl W'.heap.size W').drew.trans HB5.out |>.mono hG4.out.size)⟩
        · have n3 : (xc == yc) = false := beq_eq_false_iff_ne.2 m3
          have HNE : Hid ((⟨xa, xb, xc⟩ : R) ≠ ⟨ya, yb, yc⟩) := fun e => m3 (by injection e)
          subst m1; subst m2
          clear m3
          gi_wp2_with fail
          gi_region_with (first | (refine ⟨trivial, ?_⟩; with_reducible refine (CallsIn.inRound l HAT.out).mono ?_; clear HAT; rintro e w5 ⟨rfl, hb5⟩; obtain ⟨s0, s1, s2⟩ := HXC.out _ hb5; obtain ⟨b0, b1⟩ : _ ∧ _ := ⟨(HBX.out _ hb5).cell, (HBX.out _ hb5).frozen⟩) | fail)
          all_goals
            have HB5 := Lib.hid hb5
            clear s0 s1 s2 hb5
            go_simp
            gi_wp2_with fail
            have hK5 : KeepsFrom w'.heap.size W' w5 := ⟨HB5.out.size, fun j o _ hj _ => (HB5.out.block j (Array.getElem?_eq_some_iff.1 hj).1).trans hj⟩
            have hI5 := hG4.out.trans ((Below.refl W'.heap.size W').drew.trans HB5.out |>.mono hG4.out.size)
            first
            | exact ⟨hK5, ⟨rfl, HBX.out _ HB5.out, HSTOP.out HNE.out⟩, hI5⟩
            | exact ⟨hK5.trans ((KeepsOthers.setCell w5 _ _).from _), ⟨rfl, (HBX.out _ HB5.out).set _, HSTOP.out HNE.out⟩, hI5.setCell (p := ⟨W.heap.size + 1 + 1, 0, none⟩) (by show _ ≤ W.heap.size + 1 + 1; omega) _⟩
      · have n2 : (xb == yb) = false := beq_eq_false_iff_ne.2 m2
        have HNE : Hid ((⟨xa, xb, xc⟩ : R) ≠ ⟨ya, yb, yc⟩) := fun e => m2 (by injection e)
        subst m1
        clear m2
        gi_wp2_with fail
        gi_region_with (first | (refine ⟨trivial, ?_⟩; with_reducible refine (CallsIn.inRound l HAT.out).mono ?_; clear HAT; rintro e w5 ⟨rfl, hb5⟩; obtain ⟨s0, s1, s2⟩ := HXC.out _ hb5; obtain ⟨b0, b1⟩ : _ ∧ _ := ⟨(HBX.out _ hb5).cell, (HBX.out _ hb5).frozen⟩) | fail)
        all_goals
          have HB5 := Lib.hid hb5
          clear s0 s1 s2 hb5
          go_simp
          gi_wp2_with fail
          have hK5 : KeepsFrom w'.heap.size W' w5 := ⟨HB5.out.size, fun j o _ hj _ => (HB5.out.block j (Array.getElem?_eq_some_iff.1 hj).1).trans hj⟩
          have hI5 := hG4.out.trans ((Below.refl W'.heap.size W').drew.trans HB5.out |>.mono hG4.out.size)
          first
          | exact ⟨hK5, ⟨rfl, HBX.out _ HB5.out, HSTOP.out HNE.out⟩, hI5⟩
          | exact ⟨hK5.trans ((KeepsOthers.setCell w5 _ _).from _), ⟨rfl, (HBX.out _ HB5.out).set _, HSTOP.out HNE.out⟩, hI5.setCell (p := ⟨W.heap.size + 1 + 1, 0, none⟩) (by show _ ≤ W.heap.size + 1 + 1; omega) _⟩
    · have n1 : (xa == ya) = false := beq_eq_false_iff_ne.2 m1
      have HNE : Hid ((⟨xa, xb, xc⟩ : R) ≠ ⟨ya, yb, yc⟩) := fun e => m1 (by injection e)
      clear m1
      gi_wp2_with fail
      gi_region_with (first | (refine ⟨trivial, ?_⟩; with_reducible refine (CallsIn.inRound l HAT.out).mono ?_; clear HAT; rintro e w5 ⟨rfl, hb5⟩; obtain ⟨s0, s1, s2⟩ := HXC.out _ hb5; obtain ⟨b0, b1⟩ : _ ∧ _ := ⟨(HBX.out _ hb5).cell, (HBX.out _ hb5).frozen⟩) | fail)
      all_goals
        have HB5 := Lib.hid hb5
        clear s0 s1 s2 hb5
        go_simp
        gi_wp2_with fail
        have hK5 : KeepsFrom w'.heap.size W' w5 := ⟨HB5.out.size, fun j o _ hj _ => (HB5.out.block j (Array.getElem?_eq_some_iff.1 hj).1).trans hj⟩
        have hI5 := hG4.out.trans ((Below.refl W'.heap.size W').drew.trans HB5.out |>.mono hG4.out.size)
        first
        | exact ⟨hK5, ⟨rfl, HBX.out _ HB5.out, HSTOP.out HNE.out⟩, hI5⟩
        | exact ⟨hK5.trans ((KeepsOthers.setCell w5 _ _).from _), ⟨rfl, (HBX.out _ HB5.out).set _, HSTOP.out HNE.out⟩, hI5.setCell (p := ⟨W.heap.size + 1 + 1, 0, none⟩) (by show _ ≤ W.heap.size + 1 + 1; omega) _⟩
  case done =>
    rintro D ys W' hD hys ⟨⟨⟨g1, g2⟩, g3⟩, g4⟩ hK
    have hcell := g1.cell; have hfr := g1.frozen
    have HEQ : Hid (ta.L = tb.L) := fits_sub HFA.out.1 HFB.out.1 fun r hr => by
      rw [← hys] at hr
      obtain ⟨x, hx, rfl⟩ := List.mem_map.1 hr
      exact g3 x hx
    have HD := Lib.hid hD; have HK := Lib.hid hK; have H4 := Lib.hid g4; have H1 := Lib.hid g1.cell
    clear hys g1 g2 g3 g4 hK hD
    gi_wp2
    have hK2 := (KeepsOthers.setCell W' ⟨W.heap.size + 1 + 1, 0, none⟩ (.bool true)).same D _ HK.out rfl
    have hcell2 := cell_kept (World.cell?_setCell_same _ _ (.bool true) H1.out) (grownBy_putObj' _ D (.deferred none)) (fun r e => by cases e; exact ⟨_, hK2, rfl⟩)
    refine ⟨by simp, .inl ⟨_, _, rfl, run_takeDeferred hK2, ?_⟩⟩
    refine ⟨.bool true, by simp [results, Try.results32, go_sem, hcell2], true, rfl, ⟨fun _ => HEQ.out, fun _ => rfl⟩, ?_⟩
    exact (H4.out.setCell (p := ⟨W.heap.size + 1 + 1, 0, none⟩) (by show _ ≤ W.heap.size + 1 + 1; omega) _).trans (belowK_b (w := W) (Nat.le_refl _) _ D _ _ (by have := HD.out; have := hge; omega) hK2 rfl rfl)
  case stop =>
    rintro D c pre' W' hD hSp ⟨⟨rfl, g1, g2⟩, g4⟩ hK
    have HNE : Hid (¬ ta.L = tb.L) := fun e => by
      obtain ⟨r, _, hr⟩ := g2
      exact hr (by rw [← e]; exact r.2)
    have HD := Lib.hid hD; have HK := Lib.hid hK; have H4 := Lib.hid g4; have H1 := Lib.hid g1.cell
    clear hSp g1 g2 g4 hK hD
    gi_wp2
    have hcell2 := cell_kept H1.out (grownBy_putObj' _ D (.deferred none)) (fun r e => by cases e; exact ⟨_, HK.out, rfl⟩)
    refine ⟨by simp, .inl ⟨_, _, rfl, run_takeDeferred HK.out, ?_⟩⟩
    refine ⟨.bool false, by simp [results, Try.results32, go_sem, hcell2], false, rfl, ⟨fun h => (by cases h), fun h => absurd h HNE.out⟩, ?_⟩
    exact H4.out.trans (belowK_b (w := W) (Nat.le_refl _) _ D _ _ (by have := HD.out; have := hge; omega) HK.out rfl rfl)
end Go.Proofs.Ytahgfggcpmnnaaa
