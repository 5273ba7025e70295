/- The contract of retag. -/
import Derived.Test.YtahgfggcpmnnaaaYq
namespace Go.Proofs.Ytahgfggcpmnnaaa
open Go Go.RowKit Gs

/-- the tag fr becomes tt -/
def swp (f : Int → Int) (fr tt : Nat) (x : Int) : Int := if f x = fr then tt else f x
theorem swp_ctx {f : Int → Int} {a b : Int} {fr tt : Nat} (h : Ctx f a b) (ht : tt < 16) : Ctx (swp f fr tt) a b := by
  refine ⟨h.1, h.2.1, fun p p1 p2 => ?_⟩
  have := h.2.2 p p1 p2
  simp only [swp]
  split <;> omega

set_option maxHeartbeats 1000000 in
theorem retag_eq (f : Int → Int) (fr tt : Nat) (c d : T) (lo hi tag a b : Int) (p : Option Addr) (W : World) (h : IsT W (.node c ⟨lo, hi, tag⟩ d) (.pointer p)) (hc : Gs.Can f a (T.node c ⟨lo, hi, tag⟩ d).L b) (hx : Ctx f a b) (hfr : fr < 16) (htt : tt < 16) (hz : (T.node c ⟨lo, hi, tag⟩ d).sz ≤ 20000) (hcn : cnt fr (T.node c ⟨lo, hi, tag⟩ d).L ≠ 0) (hg : tag = fr)
    (ihc : ∀ q w, IsT w c (.pointer q) → Calls Try.prog 70 #[.pointer q, .int .i64 fr, .int .i64 tt] w fun e w' => ∃ x, e = .returned (.pointer x) ∧ Hid (Tr (swp f fr tt) a lo c.sz w' x) ∧ Below w.heap.size w w')
    (ihd : ∀ q w, IsT w d (.pointer q) → Calls Try.prog 70 #[.pointer q, .int .i64 fr, .int .i64 tt] w fun e w' => ∃ x, e = .returned (.pointer x) ∧ Hid (Tr (swp f fr tt) hi b d.sz w' x) ∧ Below w.heap.size w w') :
    Calls Try.prog 70 #[.pointer p, .int .i64 fr, .int .i64 tt] W fun e w' => ∃ x, e = .returned (.pointer x) ∧ Hid (Tr (swp f fr tt) a b (T.node c ⟨lo, hi, tag⟩ d).sz w' x) ∧ Below W.heap.size W w' := by
  obtain ⟨m1, m2, m3, m4, m5, m6⟩ := hc.mid
  simp only at m1 m2 m3 m4 m5 m6
  have q1 := m1.le; have q2 := m2.le
  have HCN : Hid (Calls Try.prog 53 #[.pointer p, .int .i64 fr] W fun e w' => e = .returned (.int .i64 (cnt fr (T.node c ⟨lo, hi, tag⟩ d).L)) ∧ W = w') := count_any _ _ W fr hfr h
  have hne : (cnt fr (T.node c ⟨lo, hi, tag⟩ d).L == 0) = false := beq_eq_false_iff_ne.2 hcn
  obtain ⟨b0, u, v, rfl, hlt, h1, h2, hcs⟩ := h.open
  have HSW : Hid (∀ x, lo ≤ x → x < hi → swp f fr tt x = tt) := fun x x1 x2 => by
    have e := m4 x x1 x2
    simp only [swp]
    rw [e, hg, if_pos rfl]
  have HXG : Hid (Ctx (swp f fr tt) a b) := swp_ctx hx htt
  have HALL : Hid (∀ W', Bq W lo hi tt W' → (W'.cell? ⟨W.heap.size, 0, none⟩ = some (.int .i64 lo) ∧ W'.cell? ⟨W.heap.size, 1, none⟩ = some (.int .i64 hi) ∧ W'.cell? ⟨W.heap.size, 2, none⟩ = some (.int .i64 tt) ∧ W'.cell? ⟨b0, 0, none⟩ = some (.pointer u) ∧ W'.cell? ⟨b0, 4, none⟩ = some (.pointer v))) := fun W' h => by
    obtain ⟨n0, _, _, _, n4⟩ := hcs W' h.bel
    exact ⟨h.c0, h.c1, h.c2, n0, n4⟩
  have HR1 : Hid (∀ W', Bq W lo hi tt W' → Calls Try.prog 70 #[.pointer u, .int .i64 fr, .int .i64 tt] W' fun e w' => ∃ x, e = .returned (.pointer x) ∧ Hid (Tr (swp f fr tt) a lo c.sz w' x) ∧ Bq W lo hi tt w') := fun W' h =>
    (ihc u W' (IsT.below h.bel h1)).mono fun e w' ⟨x, he, ht, hB⟩ => ⟨x, he, ht, h.next hB⟩
  have HR2 : Hid (∀ W', Bq W lo hi tt W' → Calls Try.prog 70 #[.pointer v, .int .i64 fr, .int .i64 tt] W' fun e w' => ∃ y, e = .returned (.pointer y) ∧ Hid (Tr (swp f fr tt) hi b d.sz w' y) ∧ Hid (Below W'.heap.size W' w') ∧ Bq W lo hi tt w') := fun W' h =>
    (ihd v W' (IsT.below h.bel h2)).mono fun e w' ⟨x, he, ht, hB⟩ => ⟨x, he, ht, hB, h.next hB⟩
  have HG : Hid (∀ W' x y, Bq W lo hi tt W' → Hid (Tr (swp f fr tt) a lo c.sz W' x) → Hid (Tr (swp f fr tt) hi b d.sz W' y) → Calls Try.prog 68 #[.pointer x, .agg #[.int .i64 lo, .int .i64 hi, .int .i64 tt], .pointer y] W' fun e w' => ∃ g, e = .returned (.pointer (some ⟨g, 0, none⟩)) ∧ Hid (Tr (swp f fr tt) a b (T.node c ⟨lo, hi, tag⟩ d).sz w' (some ⟨g, 0, none⟩)) ∧ Bq W lo hi tt w') := fun W' x y h hX hY =>
    (Tr.glue hX.out hY.out HXG.out (by simp only [T.sz] at hz; omega) m3 HSW.out).mono fun e w' ⟨g, he, ht, hB⟩ => ⟨g, he, ht.out.mono (by simp only [T.sz]; omega), h.next hB⟩
  subst hg
  obtain ⟨d0, d1, d2, d3, d4⟩ := hcs W (Below.refl _ _)
  clear h hc hx hz m1 m2 m3 m4 m5 m6 h1 h2 hcs ihc ihd hcn 
  generalize (T.node c ⟨lo, hi, fr⟩ d).sz = SZ at *
  generalize cnt fr (T.node c ⟨lo, hi, fr⟩ d).L = CN at *
  go_enter Try.func70, Try.ntmps70
  go_wp2_with fail
  refine HCN.out.mono ?_
  rintro e w1 ⟨rfl, rfl⟩
  go_wp2_with fail
  obtain ⟨w2, HW2⟩ : ∃ w2, w2 = W.alloc (.cells #[.int .i64 lo, .int .i64 hi, .int .i64 tt] 64) := ⟨_, rfl⟩
  have hq : Bq W lo hi tt w2 := by rw [HW2]; exact Bq.new _ _ _ _ _
  rw [← HW2]
  clear HW2 d0 d1 d2 d3 d4
  have hq2 := hq.drew
  have hcl := HALL.out _ hq
  have hcl2 := HALL.out _ hq2
  go_region_held3 (fun W' : World => (W'.cell? ⟨W.heap.size, 0, none⟩ = some (.int .i64 lo) ∧ W'.cell? ⟨W.heap.size, 1, none⟩ = some (.int .i64 hi) ∧ W'.cell? ⟨W.heap.size, 2, none⟩ = some (.int .i64 tt) ∧ W'.cell? ⟨b0, 0, none⟩ = some (.pointer u) ∧ W'.cell? ⟨b0, 4, none⟩ = some (.pointer v)) ∧ Bq W lo hi tt W') (first | (refine And.intro ?_ ?_ <;> assumption) | fail) (first
    | (go_at_call 70; with_reducible refine (HR1.out _ ?h).mono ?_; (case h => assumption); rintro e w' ⟨x, rfl, hg1, hs1'⟩; have hc1' := HALL.out _ hs1')
    | (go_at_call 70; with_reducible refine (HR2.out _ ?h).mono ?_; (case h => assumption); rintro e w' ⟨y, rfl, hg2, hb2, hs2'⟩; have hc2' := HALL.out _ hs2'; have hg1b := Lib.hid (Tr.below hg1.out hb2.out))
    | (go_at_call 68; with_reducible refine (HG.out _ _ _ ?h ?r ?s).mono ?_; (case h => assumption); (case r => assumption); (case s => assumption); rintro e w' ⟨g, rfl, hgt, hs3'⟩; have hc3' := HALL.out _ hs3') | fail)
  all_goals
    have HB := Lib.hid hs3'.bel
    clear hq hq2 hcl hcl2 hs1' hs2' hs3' hc1' hc2' hc3'
    go_wp2_with fail
    go_ret
    exact ⟨_, rfl, hgt, HB.out⟩
set_option maxHeartbeats 1000000 in
theorem retag_ne (f : Int → Int) (fr tt : Nat) (c d : T) (lo hi tag a b : Int) (p : Option Addr) (W : World) (h : IsT W (.node c ⟨lo, hi, tag⟩ d) (.pointer p)) (hc : Gs.Can f a (T.node c ⟨lo, hi, tag⟩ d).L b) (hx : Ctx f a b) (hfr : fr < 16) (htt : tt < 16) (hz : (T.node c ⟨lo, hi, tag⟩ d).sz ≤ 20000) (hcn : cnt fr (T.node c ⟨lo, hi, tag⟩ d).L ≠ 0) (hg : tag ≠ fr)
    (ihc : ∀ q w, IsT w c (.pointer q) → Calls Try.prog 70 #[.pointer q, .int .i64 fr, .int .i64 tt] w fun e w' => ∃ x, e = .returned (.pointer x) ∧ Hid (Tr (swp f fr tt) a lo c.sz w' x) ∧ Below w.heap.size w w')
    (ihd : ∀ q w, IsT w d (.pointer q) → Calls Try.prog 70 #[.pointer q, .int .i64 fr, .int .i64 tt] w fun e w' => ∃ x, e = .returned (.pointer x) ∧ Hid (Tr (swp f fr tt) hi b d.sz w' x) ∧ Below w.heap.size w w') :
    Calls Try.prog 70 #[.pointer p, .int .i64 fr, .int .i64 tt] W fun e w' => ∃ x, e = .returned (.pointer x) ∧ Hid (Tr (swp f fr tt) a b (T.node c ⟨lo, hi, tag⟩ d).sz w' x) ∧ Below W.heap.size W w' := by
  obtain ⟨m1, m2, m3, m4, m5, m6⟩ := hc.mid
  simp only at m1 m2 m3 m4 m5 m6
  have q1 := m1.le; have q2 := m2.le
  have HCN : Hid (Calls Try.prog 53 #[.pointer p, .int .i64 fr] W fun e w' => e = .returned (.int .i64 (cnt fr (T.node c ⟨lo, hi, tag⟩ d).L)) ∧ W = w') := count_any _ _ W fr hfr h
  have hne : (cnt fr (T.node c ⟨lo, hi, tag⟩ d).L == 0) = false := beq_eq_false_iff_ne.2 hcn
  obtain ⟨b0, u, v, rfl, hlt, h1, h2, hcs⟩ := h.open
  have HSW : Hid (∀ x, lo ≤ x → x < hi → swp f fr tt x = tag) := fun x x1 x2 => by
    have e := m4 x x1 x2
    simp only [swp]
    rw [e, if_neg hg]
  have HXG : Hid (Ctx (swp f fr tt) a b) := swp_ctx hx htt
  have HALL : Hid (∀ W', Bq W lo hi tag W' → (W'.cell? ⟨W.heap.size, 0, none⟩ = some (.int .i64 lo) ∧ W'.cell? ⟨W.heap.size, 1, none⟩ = some (.int .i64 hi) ∧ W'.cell? ⟨W.heap.size, 2, none⟩ = some (.int .i64 tag) ∧ W'.cell? ⟨b0, 0, none⟩ = some (.pointer u) ∧ W'.cell? ⟨b0, 4, none⟩ = some (.pointer v))) := fun W' h => by
    obtain ⟨n0, _, _, _, n4⟩ := hcs W' h.bel
    exact ⟨h.c0, h.c1, h.c2, n0, n4⟩
  have HR1 : Hid (∀ W', Bq W lo hi tag W' → Calls Try.prog 70 #[.pointer u, .int .i64 fr, .int .i64 tt] W' fun e w' => ∃ x, e = .returned (.pointer x) ∧ Hid (Tr (swp f fr tt) a lo c.sz w' x) ∧ Bq W lo hi tag w') := fun W' h =>
    (ihc u W' (IsT.below h.bel h1)).mono fun e w' ⟨x, he, ht, hB⟩ => ⟨x, he, ht, h.next hB⟩
  have HR2 : Hid (∀ W', Bq W lo hi tag W' → Calls Try.prog 70 #[.pointer v, .int .i64 fr, .int .i64 tt] W' fun e w' => ∃ y, e = .returned (.pointer y) ∧ Hid (Tr (swp f fr tt) hi b d.sz w' y) ∧ Hid (Below W'.heap.size W' w') ∧ Bq W lo hi tag w') := fun W' h =>
    (ihd v W' (IsT.below h.bel h2)).mono fun e w' ⟨x, he, ht, hB⟩ => ⟨x, he, ht, hB, h.next hB⟩
  have HG : Hid (∀ W' x y, Bq W lo hi tag W' → Hid (Tr (swp f fr tt) a lo c.sz W' x) → Hid (Tr (swp f fr tt) hi b d.sz W' y) → Calls Try.prog 68 #[.pointer x, .agg #[.int .i64 lo, .int .i64 hi, .int .i64 tag], .pointer y] W' fun e w' => ∃ g, e = .returned (.pointer (some ⟨g, 0, none⟩)) ∧ Hid (Tr (swp f fr tt) a b (T.node c ⟨lo, hi, tag⟩ d).sz w' (some ⟨g, 0, none⟩)) ∧ Bq W lo hi tag w') := fun W' x y h hX hY =>
    (Tr.glue hX.out hY.out HXG.out (by simp only [T.sz] at hz; omega) m3 HSW.out).mono fun e w' ⟨g, he, ht, hB⟩ => ⟨g, he, ht.out.mono (by simp only [T.sz]; omega), h.next hB⟩
  have hgb : (tag == (fr : Int)) = false := beq_eq_false_iff_ne.2 hg
  obtain ⟨d0, d1, d2, d3, d4⟩ := hcs W (Below.refl _ _)
  clear h hc hx hz m1 m2 m3 m4 m5 m6 h1 h2 hcs ihc ihd hcn hg
  generalize (T.node c ⟨lo, hi, tag⟩ d).sz = SZ at *
  generalize cnt fr (T.node c ⟨lo, hi, tag⟩ d).L = CN at *
  go_enter Try.func70, Try.ntmps70
  go_wp2_with fail
  refine HCN.out.mono ?_
  rintro e w1 ⟨rfl, rfl⟩
  go_wp2_with fail
  obtain ⟨w2, HW2⟩ : ∃ w2, w2 = W.alloc (.cells #[.int .i64 lo, .int .i64 hi, .int .i64 tag] 64) := ⟨_, rfl⟩
  have hq : Bq W lo hi tag w2 := by rw [HW2]; exact Bq.new _ _ _ _ _
  rw [← HW2]
  clear HW2 d0 d1 d2 d3 d4
  have hq2 := hq.drew
  have hcl := HALL.out _ hq
  have hcl2 := HALL.out _ hq2
  go_region_held3 (fun W' : World => (W'.cell? ⟨W.heap.size, 0, none⟩ = some (.int .i64 lo) ∧ W'.cell? ⟨W.heap.size, 1, none⟩ = some (.int .i64 hi) ∧ W'.cell? ⟨W.heap.size, 2, none⟩ = some (.int .i64 tag) ∧ W'.cell? ⟨b0, 0, none⟩ = some (.pointer u) ∧ W'.cell? ⟨b0, 4, none⟩ = some (.pointer v)) ∧ Bq W lo hi tag W') (first | (refine And.intro ?_ ?_ <;> assumption) | fail) (first
    | (go_at_call 70; with_reducible refine (HR1.out _ ?h).mono ?_; (case h => assumption); rintro e w' ⟨x, rfl, hg1, hs1'⟩; have hc1' := HALL.out _ hs1')
    | (go_at_call 70; with_reducible refine (HR2.out _ ?h).mono ?_; (case h => assumption); rintro e w' ⟨y, rfl, hg2, hb2, hs2'⟩; have hc2' := HALL.out _ hs2'; have hg1b := Lib.hid (Tr.below hg1.out hb2.out))
    | (go_at_call 68; with_reducible refine (HG.out _ _ _ ?h ?r ?s).mono ?_; (case h => assumption); (case r => assumption); (case s => assumption); rintro e w' ⟨g, rfl, hgt, hs3'⟩; have hc3' := HALL.out _ hs3') | fail)
  all_goals
    have HB := Lib.hid hs3'.bel
    clear hq hq2 hcl hcl2 hs1' hs2' hs3' hc1' hc2' hc3'
    go_wp2_with fail
    go_ret
    exact ⟨_, rfl, hgt, HB.out⟩
theorem retag_any (f : Int → Int) (fr tt : Nat) (hfr : fr < 16) (htt : tt < 16) : ∀ (t : T) (a b : Int) (p : Option Addr) (W : World), IsT W t (.pointer p) → Gs.Can f a t.L b → Ctx f a b → t.sz ≤ 20000 →
    Calls Try.prog 70 #[.pointer p, .int .i64 fr, .int .i64 tt] W fun e w' => ∃ x, e = .returned (.pointer x) ∧ Hid (Tr (swp f fr tt) a b t.sz w' x) ∧ Below W.heap.size W w' := by
  intro t
  have hzero : ∀ (t : T) (a b : Int) (p : Option Addr) (W : World), IsT W t (.pointer p) → Gs.Can f a t.L b → cnt fr t.L = 0 →
      Calls Try.prog 70 #[.pointer p, .int .i64 fr, .int .i64 tt] W fun e w' => ∃ x, e = .returned (.pointer x) ∧ Hid (Tr (swp f fr tt) a b t.sz w' x) ∧ Below W.heap.size W w' := by
    intro t a b p W h hc h0
    have HCN : Hid (Calls Try.prog 53 #[.pointer p, .int .i64 fr] W fun e w' => e = .returned (.int .i64 0) ∧ W = w') := by
      have := count_any t (.pointer p) W fr hfr h
      rwa [h0] at this
    have HR : Hid (Tr (swp f fr tt) a b t.sz W p) := ⟨t, h, hc.congr (fun x x1 x2 => by
      have := cnt_zero hc.1 h0 x x1 x2
      simp only [swp]; rw [if_neg this]), Nat.le_refl _⟩
    clear h hc h0
    generalize t.sz = SZ at *
    go_enter Try.func70, Try.ntmps70
    go_wp2_with fail
    refine HCN.out.mono ?_
    rintro e w1 ⟨rfl, rfl⟩
    go_wp2_with fail
    go_ret
    exact ⟨p, rfl, HR, Below.refl _ _⟩
  induction t with
  | nil =>
    intro a b p W h hc hx hz
    exact hzero .nil a b p W h hc rfl
  | node c r d ihc ihd =>
    intro a b p W h hc hx hz
    by_cases h0 : cnt fr (T.node c r d).L = 0
    · exact hzero _ a b p W h hc h0
    · obtain ⟨lo, hi, tag⟩ := r
      have hm := hc.mid
      have hz' : c.sz + d.sz + 1 ≤ 20000 := by simp only [T.sz] at hz; omega
      have q1 := hm.1.le; have q2 := hm.2.1.le; have q3 := hm.2.2.1
      simp only at q1 q2 q3
      have i1 : ∀ q w, IsT w c (.pointer q) → _ := fun q w hq => ihc a lo q w hq hm.1 (hx.sub (by omega) (by omega)) (by omega)
      have i2 : ∀ q w, IsT w d (.pointer q) → _ := fun q w hq => ihd hi b q w hq hm.2.1 (hx.sub (by omega) (by omega)) (by omega)
      by_cases hg : tag = fr
      · exact retag_eq f fr tt c d lo hi tag a b p W h hc hx hfr htt hz h0 hg i1 i2
      · exact retag_ne f fr tt c d lo hi tag a b p W h hc hx hfr htt hz h0 hg i1 i2
theorem Tr.retag {f : Int → Int} {a b : Int} {fr tt n : Nat} {W : World} {p : Option Addr} (h : Tr f a b n W p) (hx : Ctx f a b) (hfr : fr < 16) (htt : tt < 16) (hn : n ≤ 20000) :
    Calls Try.prog 70 #[.pointer p, .int .i64 fr, .int .i64 tt] W fun e w' => ∃ x, e = .returned (.pointer x) ∧ Hid (Tr (swp f fr tt) a b n w' x) ∧ Below W.heap.size W w' := by
  obtain ⟨t, h1, h2, h3⟩ := h
  exact (retag_any f fr tt hfr htt t a b p W h1 h2 hx (by omega)).mono fun e w' ⟨x, he, ht, hB⟩ => ⟨x, he, ht.out.mono h3, hB⟩
end Go.Proofs.Ytahgfggcpmnnaaa
