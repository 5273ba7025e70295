/- WHAT IS PROVED: for any two sizes and any two lists of updates: SpanDiffs returns true, and its arguments read as before. Conditions: none but the row's own. -/
import Derived.Test.YtjbenhmpeceaeaaBJxp10
import Derived.Test.YtjbenhmpeceaeaaBJxp8
import Derived.ShutString
import Derived.ChangeOld
import Derived.Below
namespace Go.Proofs.Ytjbenhmpeceaeaa
open Go Go.RowKit Gs

theorem Diff_same {f g : Int → Int} {size : Int} {W : World} {p q : Option Addr} {La Lb : List R} {N : Nat} (h : IsM f size W p) (h' : IsM g size W q) (ha : Gs.Can f 0 La size) (hb : Gs.Can g 0 Lb size) (hN : N = (diffE La Lb).length) :
    Calls Try.prog 29 #[.agg #[.pointer p, .int .i64 size], .agg #[.pointer q, .int .i64 size]] W fun e w' => ∃ a c, e = .returned (.tuple #[.slice a N c, .int .i64 0]) ∧ Hid (IsCs w' (.slice a N c) (diffE La Lb)) ∧ Below W.heap.size W w' := by
  obtain ⟨La', Lb', h1, h2, h3⟩ := Diff_any h h'
  have e1 := h1.same ha
  have e2 := h2.same hb
  subst e1; subst e2; subst hN
  refine h3.mono ?_
  rintro e w' ⟨v, he, hr, hB⟩
  have hc := IsCs.of_row hr.out
  have hc2 := hc
  obtain ⟨a, c, rfl, -⟩ := hc
  exact ⟨a, c, he, hc2, hB⟩
theorem Apply_same {f g : Int → Int} {size : Int} {W : World} {p a : Option Addr} {c : Nat} {l : List Ch} (h : IsM f size W p) (hl : IsCs W (.slice a l.length c) l) (hn : l.length ≤ 100000) (hg : apF size f l = (0, g)) {N : Nat} (hN : N = l.length) :
    Calls Try.prog 34 #[.agg #[.pointer p, .int .i64 size], .slice a N c] W fun e w' => ∃ q, e = .returned (.tuple #[.agg #[.pointer q, .int .i64 size], .int .i64 0]) ∧ Hid (IsM g size w' q) ∧ Below W.heap.size W w' := by
  subst hN
  refine (Apply_any h hl hn).mono ?_
  rintro e w' ⟨q, s, e2, rfl, hp, hB⟩
  obtain ⟨h1, h2⟩ := hp.out
  rw [hg] at h1 h2
  have h1 : e2 = 0 := h1
  subst h1
  rcases h2 with ⟨h3, _⟩ | ⟨_, rfl, h4⟩
  · exact absurd rfl h3
  · exact ⟨q, rfl, h4, hB⟩
theorem Equal_true {f g : Int → Int} {size : Int} {W : World} {p q : Option Addr} (h : IsM f size W p) (h' : IsM g size W q) (he : ∀ x, 0 ≤ x → x < size → f x = g x) :
    Calls Try.prog 32 #[.agg #[.pointer p, .int .i64 size], .agg #[.pointer q, .int .i64 size]] W fun e w' => e = .returned (.bool true) ∧ Below W.heap.size W w' := by
  obtain ⟨La, Lb, h1, h2, h3⟩ := Equal_any h h'
  refine h3.mono ?_
  rintro e w' ⟨b, rfl, hb, hB⟩
  have := hb.out.2 ((h1.congr he).same h2)
  subst this
  exact ⟨rfl, hB⟩
theorem Equal_same {f g : Int → Int} {size : Int} {W : World} {p q : Option Addr} {La Lb : List R} {E : Bool} (h : IsM f size W p) (h' : IsM g size W q) (ha : Gs.Can f 0 La size) (hb : Gs.Can g 0 Lb size) (he : E = true ↔ La = Lb) :
    Calls Try.prog 32 #[.agg #[.pointer p, .int .i64 size], .agg #[.pointer q, .int .i64 size]] W fun e w' => e = .returned (.bool E) ∧ Below W.heap.size W w' := by
  obtain ⟨La', Lb', h1, h2, h3⟩ := Equal_any h h'
  have e1 := h1.same ha
  have e2 := h2.same hb
  subst e1; subst e2
  refine h3.mono ?_
  rintro e w' ⟨b, rfl, hb, hB⟩
  have : b = E := by
    have h9 := hb.out.trans he.symm
    cases b <;> cases E <;> simp_all
  subst this
  exact ⟨rfl, hB⟩
end Go.Proofs.Ytjbenhmpeceaeaa
namespace Go.Proofs.Ytjbenhmpeceaeaa
open Go Go.RowKit Gs

theorem rl_len {f g : Int → Int} {lb : List R} {size : Int} (hb : Fits g 0 lb size) : ∀ {la : List R} {a : Int}, Fits f a la size → (rl la lb).length ≤ (clip a size lb).length + la.length
  | [], _, _ => Nat.zero_le _
  | x :: la, a, h => by
    have e1 := h.1; have e2 := h.2.1; have e4 := h.2.2.2
    have hle := e4.le
    have ih := rl_len hb e4
    have hc := clip_cut (lo := x.lo) (m := x.hi) (hi := size) (by omega) hle hb
    show ((clip x.lo x.hi lb).map (fun r => (⟨r.lo, r.hi, 16 * x.tag + r.tag⟩ : R)) ++ rl la lb).length ≤ _
    rw [List.length_append, List.length_map, List.length_cons, ← e1]
    omega
theorem dec_len (K : List R) : (dec K).length ≤ K.length := by
  unfold dec
  rw [List.length_map]
  exact List.length_filter_le _ _
theorem diff_len {f g : Int → Int} {la lb : List R} {size : Int} (ha : Gs.Can f 0 la size) (hb : Gs.Can g 0 lb size) (cf : Ctx f 0 size) (cg : Ctx g 0 size) : (diffE la lb).length ≤ lb.length + la.length := by
  rw [diff_dec (fits_tags hb.1 cg.2.2) (fits_tags ha.1 cf.2.2)]
  have h1 := dec_len (rl la lb)
  have h2 := rl_len hb.1 ha.1
  have h3 := clip_len 0 size lb
  omega
theorem cs_nil (W : World) : IsCs W (.slice none 0 0) [] := ⟨none, 0, rfl, fun h => absurd h (by simp)⟩
theorem rs_nil (B : Nat) (W : World) : IsRs B W (.slice none 0 0) [] := ⟨none, 0, rfl, fun h => absurd h (by simp)⟩
/-- the two Diffs agree; Equal and Same agree, whichever map comes first -/
theorem both_Diff {W : World} {p q : Option Addr} {z z2 s s2 : Int} {a1 a2 : Option Addr} {n1 c1 n2 c2 : Nat} (hp : Dual 0 W p z s (.slice a1 n1 c1)) (hq : Dual 0 W q z2 s2 (.slice a2 n2 c2)) : ∃ (code : Int) (D : List Ch) (E : Bool), D.length ≤ 100000 ∧
    Hid (∀ W', Below W.heap.size W W' → Calls Try.prog 29 #[.agg #[.pointer p, .int .i64 z], .agg #[.pointer q, .int .i64 z2]] W' fun e w' => ∃ a n c, e = .returned (.tuple #[.slice a n c, .int .i64 code]) ∧ Hid (IsCs w' (.slice a n c) D) ∧ Below W'.heap.size W' w') ∧
    Hid (∀ W', Below W.heap.size W W' → Calls Try.prog 30 #[.agg #[.int .i64 s, .slice a1 n1 c1], .agg #[.int .i64 s2, .slice a2 n2 c2]] W' fun e w' => ∃ a n c, e = .returned (.tuple #[.slice a n c, .int .i64 code]) ∧ Hid (IsCs w' (.slice a n c) D) ∧ Below W'.heap.size W' w') ∧
    Hid (∀ W', Below W.heap.size W W' → Calls Try.prog 32 #[.agg #[.pointer p, .int .i64 z], .agg #[.pointer q, .int .i64 z2]] W' fun e w' => e = .returned (.bool E) ∧ Below W'.heap.size W' w') ∧
    Hid (∀ W', Below W.heap.size W W' → Calls Try.prog 32 #[.agg #[.pointer q, .int .i64 z2], .agg #[.pointer p, .int .i64 z]] W' fun e w' => e = .returned (.bool E) ∧ Below W'.heap.size W' w') ∧
    Hid (∀ W', Below W.heap.size W W' → Calls Try.prog 32 #[.agg #[.pointer p, .int .i64 z], .agg #[.pointer p, .int .i64 z]] W' fun e w' => e = .returned (.bool true) ∧ Below W'.heap.size W' w') ∧
    Hid (∀ W', Below W.heap.size W W' → Calls Try.prog 33 #[.agg #[.int .i64 s, .slice a1 n1 c1], .agg #[.int .i64 s2, .slice a2 n2 c2]] W' fun e w' => e = .returned (.bool E) ∧ Below W'.heap.size W' w') := by
  rcases hp with ⟨rfl, rfl, rfl, hv⟩ | ⟨f, La, hf, hLa, hrs, rfl⟩
  · injection hv with h1 h2 h3
    subst h1; subst h2; subst h3
    rcases hq with ⟨rfl, rfl, rfl, hv⟩ | ⟨g, Lb, hg, hLb, hrs2, rfl⟩
    · injection hv with h1 h2 h3
      subst h1; subst h2; subst h3
      refine ⟨1, [], true, by simp, fun W' h => ?_, fun W' h => ?_, fun W' h => Equal_un none 0 W', fun W' h => Equal_un none 0 W', fun W' h => Equal_un none 0 W', fun W' h => ?_⟩
      · exact (Diff_un (none, 0) (none, 0) W' (.inl rfl)).mono fun e w' ⟨he, hB⟩ => ⟨_, _, _, he, cs_nil _, hB⟩
      · exact (RDiff_no 0 0 none none 0 0 0 0 1 W' (.inl ⟨rfl, .inl rfl⟩)).mono fun e w' ⟨he, hB⟩ => ⟨_, _, _, he, cs_nil _, hB⟩
      · exact (RSame_any (E := true) (rs_nil 0 W') (rs_nil 0 W') (by simp) (by simp) (by simp)).mono fun e w' ⟨he, hB⟩ => ⟨he, hB.out⟩
    · obtain ⟨bq, rfl⟩ := hg.some
      have hz := hg.lo
      obtain ⟨K, hK, hk⟩ := hg.can
      have := hK.same hLb
      subst this
      refine ⟨1, [], false, by simp, fun W' h => ?_, fun W' h => ?_, fun W' h => Equal_ne _ _ _ _ _ (by omega), fun W' h => Equal_ne _ _ _ _ _ (by omega), fun W' h => Equal_un none 0 W', fun W' h => ?_⟩
      · exact (Diff_un (none, 0) (some bq, s2) W' (.inl rfl)).mono fun e w' ⟨he, hB⟩ => ⟨_, _, _, he, cs_nil _, hB⟩
      · exact (RDiff_no 0 s2 none a2 0 0 n2 c2 1 W' (.inl ⟨rfl, .inl rfl⟩)).mono fun e w' ⟨he, hB⟩ => ⟨_, _, _, he, cs_nil _, hB⟩
      · exact (RSame_any (E := false) (rs_nil 0 W') (hrs2.below h) (by simp) (by omega) ⟨fun h9 => by (cases h9), fun h9 => absurd h9.1 (by omega)⟩).mono fun e w' ⟨he, hB⟩ => ⟨he, hB.out⟩
  · obtain ⟨bp, rfl⟩ := hf.some
    have hz := hf.lo
    obtain ⟨K, hK, hk⟩ := hf.can
    have := hK.same hLa
    subst this
    have hEE : Hid (∀ W', Below W.heap.size W W' → Calls Try.prog 32 #[.agg #[.pointer (some ⟨bp, 0, none⟩), .int .i64 s], .agg #[.pointer (some ⟨bp, 0, none⟩), .int .i64 s]] W' fun e w' => e = .returned (.bool true) ∧ Below W'.heap.size W' w') := fun W' h => Equal_true (hf.below h) (hf.below h) fun _ _ _ => rfl
    rcases hq with ⟨rfl, rfl, rfl, hv⟩ | ⟨g, Lb, hg, hLb, hrs2, rfl⟩
    · injection hv with h1 h2 h3
      subst h1; subst h2; subst h3
      refine ⟨1, [], false, by simp, fun W' h => ?_, fun W' h => ?_, fun W' h => Equal_ne _ _ _ _ _ (by omega), fun W' h => Equal_ne _ _ _ _ _ (by omega), hEE, fun W' h => ?_⟩
      · exact (Diff_un (some bp, s) (none, 0) W' (.inr rfl)).mono fun e w' ⟨he, hB⟩ => ⟨_, _, _, he, cs_nil _, hB⟩
      · exact (RDiff_no s 0 a1 none n1 c1 0 0 1 W' (.inl ⟨rfl, .inr rfl⟩)).mono fun e w' ⟨he, hB⟩ => ⟨_, _, _, he, cs_nil _, hB⟩
      · exact (RSame_any (E := false) (hrs.below h) (rs_nil 0 W') (by omega) (by simp) ⟨fun h9 => by (cases h9), fun h9 => absurd h9.1 (by omega)⟩).mono fun e w' ⟨he, hB⟩ => ⟨he, hB.out⟩
    · obtain ⟨bq, rfl⟩ := hg.some
      have hz2 := hg.lo
      obtain ⟨K2, hK2, hk2⟩ := hg.can
      have := hK2.same hLb
      subst this
      have hne : ∀ {h : Int → Int} {L : List R} {z : Int}, Gs.Can h 0 L z → 1 ≤ z → 0 < L.length := fun h hz => by
        rcases fits_cut h.1 with ⟨_, e⟩ | ⟨r, k, rfl⟩
        · omega
        · simp
      have hp1 := hne hLa hz
      have hp2 := hne hLb hz2
      by_cases hzz : s = s2
      · subst hzz
        obtain ⟨E, hE⟩ : ∃ E : Bool, E = decide (K = K2) := ⟨_, rfl⟩
        have hE2 : E = true ↔ K = K2 := by rw [hE]; simp
        have hE3 : E = true ↔ K2 = K := by rw [hE2]; exact eq_comm
        have hdl := diff_len hLa hLb hf.ctx hg.ctx
        refine ⟨0, diffE K K2, E, by omega, fun W' h => ?_, fun W' h => ?_, fun W' h => Equal_same (hf.below h) (hg.below h) hLa hLb hE2, fun W' h => Equal_same (hg.below h) (hf.below h) hLb hLa hE3, hEE, fun W' h => ?_⟩
        · exact (Diff_same (hf.below h) (hg.below h) hLa hLb rfl).mono fun e w' ⟨a, c, he, hc, hB⟩ => ⟨_, _, _, he, hc, hB⟩
        · refine (RDiff_ok (hrs.below h) (hrs2.below h) hLa hLb hf.ctx hg.ctx hz hk hk2).mono ?_
          rintro e w' ⟨v, he, hr, hB⟩
          have hc := IsCs.of_row hr.out
          have hc2 := hc
          obtain ⟨a, c, rfl, -⟩ := hc
          exact ⟨a, _, c, he, hc2, hB⟩
        · exact (RSame_any (E := E) (hrs.below h) (hrs2.below h) (by omega) (by omega) (by rw [hE2]; simp)).mono fun e w' ⟨he, hB⟩ => ⟨he, hB.out⟩
      · have e1 : n1 = K.length := by obtain ⟨_, _, hv, _⟩ := hrs; injection hv
        have e2 : n2 = K2.length := by obtain ⟨_, _, hv, _⟩ := hrs2; injection hv
        refine ⟨2, [], false, by simp, fun W' h => ?_, fun W' h => ?_, fun W' h => Equal_ne _ _ _ _ _ hzz, fun W' h => Equal_ne _ _ _ _ _ (fun e => hzz e.symm), hEE, fun W' h => ?_⟩
        · exact (Diff_ne bp bq s s2 W' (fun e => hzz e.symm)).mono fun e w' ⟨he, hB⟩ => ⟨_, _, _, he, cs_nil _, hB⟩
        · exact (RDiff_no s s2 a1 a2 n1 c1 n2 c2 2 W' (.inr ⟨rfl, by omega, by omega, hzz⟩)).mono fun e w' ⟨he, hB⟩ => ⟨_, _, _, he, cs_nil _, hB⟩
        · exact (RSame_any (E := false) (hrs.below h) (hrs2.below h) (by omega) (by omega) ⟨fun h9 => by (cases h9), fun h9 => absurd h9.1 hzz⟩).mono fun e w' ⟨he, hB⟩ => ⟨he, hB.out⟩
end Go.Proofs.Ytjbenhmpeceaeaa
namespace Go.Proofs.Ytjbenhmpeceaeaa
open Go Go.RowKit Gs

set_option maxRecDepth 100000 in
set_option maxHeartbeats 4000000 in
theorem spanDiffs_walk (size other : Int) (v : Value) (l : List Act) (v2 : Value) (k : List Act) (W : World) (hl : IsAs W v l) (hk : IsAs W v2 k) :
    Calls Try.prog 6 #[.int .i64 size, .int .i64 other, v, v2] W fun e w' => e = .returned (.bool true) ∧ Below W.heap.size W w' := by
  have HAW := Lib.hid (fun W' => awake_any W')
  have HAS := Lib.hid hl; have HBS := Lib.hid hk
  obtain ⟨ao, c, rfl, -⟩ := hl
  obtain ⟨bo, d, rfl, -⟩ := hk
  obtain ⟨n, hnn⟩ : ∃ n, n = l.length := ⟨_, rfl⟩
  obtain ⟨m, hmm⟩ : ∃ m, m = k.length := ⟨_, rfl⟩
  have HN := Lib.hid hnn; have HM := Lib.hid hmm
  rw [← hnn] at HAS ⊢
  rw [← hmm] at HBS ⊢
  have HFEW : Hid (∀ a n c W' (b : Bool), decide (n ≤ 60) = b → Calls Try.prog 11 #[.slice a n c] W' fun e w' => e = .returned (.bool b) ∧ W' = w') := fun a n c W' b hb => by
    have := few_any a n c W'
    rwa [hb] at this
  clear hnn hmm
  by_cases hf : n ≤ 60
  · have HF1 := Lib.hid (fun W' => HFEW.out ao n c W' true (decide_eq_true hf))
    by_cases hg : m ≤ 60
    · have HF2 := Lib.hid (fun W' => HFEW.out bo m d W' true (decide_eq_true hg))
      have HPL := Lib.hid (played_any (size := size) HAS.out (by have := HN.out; omega))
      have HPK := Lib.hid (fun W' (h : Below W.heap.size W W') => played_any (size := other) (HBS.out.below h) (by have := HM.out; omega))
      clear hf hg HFEW
      go_enter Try.func6, Try.ntmps6
      go_wp2_with fail
      refine (HF1.out _).mono ?_
      rintro e w1 ⟨rfl, rfl⟩
      go_wp2_with fail
      refine (HF2.out _).mono ?_
      rintro e w1 ⟨rfl, rfl⟩
      go_wp2_with fail
      refine HPL.out.mono ?_
      rintro e w2 ⟨p, z, s, v', rfl, hd, hb⟩
      obtain ⟨va, vn, vc, rfl⟩ := hd.out.shape
      obtain ⟨w3, HW3⟩ : ∃ w3, w3 = (w2.alloc (.cells #[.pointer p, .int .i64 z] 27)).alloc (.cells #[.int .i64 s, .slice va vn vc] 33) := ⟨_, rfl⟩
      have b3 : Below w2.heap.size w2 w3 := by rw [HW3]; exact (alloc_below _ _).alloc (by simp) _
      have n2 : Bx w2.heap.size [.pointer p, .int .i64 z] w3 := by rw [HW3]; exact (Bx.new w2 [.pointer p, .int .i64 z] 27 (by simp)).next (alloc_below _ _)
      have n3 : Bx (w2.heap.size + 1) [.int .i64 s, .slice va vn vc] w3 := by
        have := Bx.new (w2.alloc (.cells #[.pointer p, .int .i64 z] 27)) [.int .i64 s, .slice va vn vc] 33 (by simp)
        rw [World.size_alloc, ← HW3] at this
        exact this
      have HD3 := Lib.hid (hd.out.below b3)
      have b03 := hb.trans (b3.mono hb.size)
      have G2 := Lib.hid n2; have G3 := Lib.hid n3
      have HB3 := Lib.hid b03
      have HW3' := Lib.hid HW3
      clear hb HW3 b3 n2 n3 hd b03
      go_upto_region 4 with fail
      rw [← HW3'.out]
      clear HW3'
      go_wp2_with fail
      refine (HPK.out w3 HB3.out).mono ?_
      rintro e w4 ⟨q, z2, s2, v2', rfl, hd, hb⟩
      obtain ⟨ua, un, uc, rfl⟩ := hd.out.shape
      obtain ⟨w5, HW5⟩ : ∃ w5, w5 = (w4.alloc (.cells #[.pointer q, .int .i64 z2] 27)).alloc (.cells #[.int .i64 s2, .slice ua un uc] 33) := ⟨_, rfl⟩
      have b5 : Below w4.heap.size w4 w5 := by rw [HW5]; exact (alloc_below _ _).alloc (by simp) _
      have n4 : Bx w4.heap.size [.pointer q, .int .i64 z2] w5 := by rw [HW5]; exact (Bx.new w4 [.pointer q, .int .i64 z2] 27 (by simp)).next (alloc_below _ _)
      have n5 : Bx (w4.heap.size + 1) [.int .i64 s2, .slice ua un uc] w5 := by
        have := Bx.new (w4.alloc (.cells #[.pointer q, .int .i64 z2] 27)) [.int .i64 s2, .slice ua un uc] 33 (by simp)
        rw [World.size_alloc, ← HW5] at this
        exact this
      have b35 := hb.trans (b5.mono hb.size)
      have L2 := Lib.hid (G2.out.next b35); have L3 := Lib.hid (G3.out.next b35); have L4 := Lib.hid n4; have L5 := Lib.hid n5
      have HDP := Lib.hid (HD3.out.below b35); have HDQ := Lib.hid (hd.out.below b5)
      have HB5 := Lib.hid (HB3.out.trans (b35.mono HB3.out.size))
      have HW5' := Lib.hid HW5
      clear hb HW5 b5 n4 n5 hd b35 G2 G3 HD3 HB3
      obtain ⟨code, D, E, hD, HDF, HRD, HE1, HE2, HE3, HSM⟩ := both_Diff HDP.out HDQ.out
      have HDL := Lib.hid hD
      have HALL : Hid (∀ W', Below w5.heap.size w5 W' → (W'.cell? ⟨w2.heap.size, 0, none⟩ = some (.pointer p) ∧ W'.cell? ⟨w2.heap.size, 1, none⟩ = some (.int .i64 z)) ∧ (W'.cell? ⟨w2.heap.size + 1, 0, none⟩ = some (.int .i64 s) ∧ W'.cell? ⟨w2.heap.size + 1, 1, none⟩ = some (.slice va vn vc)) ∧ (W'.cell? ⟨w4.heap.size, 0, none⟩ = some (.pointer q) ∧ W'.cell? ⟨w4.heap.size, 1, none⟩ = some (.int .i64 z2)) ∧ (W'.cell? ⟨w4.heap.size + 1, 0, none⟩ = some (.int .i64 s2) ∧ W'.cell? ⟨w4.heap.size + 1, 1, none⟩ = some (.slice ua un uc))) := fun W' h =>
        ⟨⟨(L2.out.next h).c2.1, (L2.out.next h).c2.2.1⟩, ⟨(L3.out.next h).c2.1, (L3.out.next h).c2.2.1⟩, ⟨(L4.out.next h).c2.1, (L4.out.next h).c2.2.1⟩, ⟨(L5.out.next h).c2.1, (L5.out.next h).c2.2.1⟩⟩
      clear hD HDP HDQ L2 L3 L4 L5 HPL HPK HF1 HF2 HAS HBS HN HM
      go_upto_region 5 with fail
      rw [← HW5'.out]
      clear HW5'
      have HR5 : Hid (Below w5.heap.size w5 w5) := Below.refl _ _
      obtain ⟨⟨a0, a1⟩, ⟨a2, a3⟩, ⟨a4, a5⟩, ⟨a6, a7⟩⟩ := HALL.out _ HR5.out
      go_wp2_with fail
      refine (HDF.out _ HR5.out).mono ?_
      rintro e w6 ⟨da, dn, dc, rfl, HC6, hb⟩
      have HR6 := Lib.hid hb
      clear hb a0 a1 a2 a3 a4 a5 a6 a7
      obtain ⟨⟨a0, a1⟩, ⟨a2, a3⟩, ⟨a4, a5⟩, ⟨a6, a7⟩⟩ := HALL.out _ HR6.out
      go_wp2_with fail
      refine (HRD.out _ HR6.out).mono ?_
      rintro e w7 ⟨ea, en, ec, rfl, HC7, hb⟩
      have HR7 := Lib.hid (HR6.out.trans (hb.mono HR6.out.size))
      have HC6' := Lib.hid (HC6.out.below hb)
      clear hb a0 a1 a2 a3 a4 a5 a6 a7 HC6
      have HCH : Hid (∀ W', Below w7.heap.size w7 W' → Calls Try.prog 31 #[.slice da dn dc, .slice ea en ec] W' fun e w' => e = .returned (.bool true) ∧ Below w7.heap.size w7 w') := fun W' h => (RChanged_same (HC6'.out.below h) (HC7.out.below h) HDL.out).mono fun e w' ⟨he, hB⟩ => ⟨he, h.trans (hB.out.mono h.size)⟩
      have HX1 : Hid (∀ W', Below w7.heap.size w7 W' → Calls Try.prog 32 #[.agg #[.pointer p, .int .i64 z], .agg #[.pointer q, .int .i64 z2]] W' fun e w' => e = .returned (.bool E) ∧ Below w7.heap.size w7 w') := fun W' h => (HE1.out W' (HR7.out.trans (h.mono HR7.out.size))).mono fun e w' ⟨he, hB⟩ => ⟨he, h.trans (hB.mono h.size)⟩
      have HX2 : Hid (∀ W', Below w7.heap.size w7 W' → Calls Try.prog 32 #[.agg #[.pointer q, .int .i64 z2], .agg #[.pointer p, .int .i64 z]] W' fun e w' => e = .returned (.bool E) ∧ Below w7.heap.size w7 w') := fun W' h => (HE2.out W' (HR7.out.trans (h.mono HR7.out.size))).mono fun e w' ⟨he, hB⟩ => ⟨he, h.trans (hB.mono h.size)⟩
      have HX3 : Hid (∀ W', Below w7.heap.size w7 W' → Calls Try.prog 32 #[.agg #[.pointer p, .int .i64 z], .agg #[.pointer p, .int .i64 z]] W' fun e w' => e = .returned (.bool true) ∧ Below w7.heap.size w7 w') := fun W' h => (HE3.out W' (HR7.out.trans (h.mono HR7.out.size))).mono fun e w' ⟨he, hB⟩ => ⟨he, h.trans (hB.mono h.size)⟩
      have HX4 : Hid (∀ W', Below w7.heap.size w7 W' → Calls Try.prog 33 #[.agg #[.int .i64 s, .slice va vn vc], .agg #[.int .i64 s2, .slice ua un uc]] W' fun e w' => e = .returned (.bool E) ∧ Below w7.heap.size w7 w') := fun W' h => (HSM.out W' (HR7.out.trans (h.mono HR7.out.size))).mono fun e w' ⟨he, hB⟩ => ⟨he, h.trans (hB.mono h.size)⟩
      have HX5 : Hid (∀ W', Below w7.heap.size w7 W' → Calls Try.prog 12 #[] W' fun e w' => e = .returned (.bool true) ∧ Below w7.heap.size w7 w') := fun W' h => (HAW.out W').mono fun e w' ⟨he, hB⟩ => ⟨he, h.trans (hB.mono h.size)⟩
      have HAL7 : Hid (∀ W', Below w7.heap.size w7 W' → (W'.cell? ⟨w2.heap.size, 0, none⟩ = some (.pointer p) ∧ W'.cell? ⟨w2.heap.size, 1, none⟩ = some (.int .i64 z) ∧ W'.cell? ⟨w2.heap.size + 1, 0, none⟩ = some (.int .i64 s) ∧ W'.cell? ⟨w2.heap.size + 1, 1, none⟩ = some (.slice va vn vc) ∧ W'.cell? ⟨w4.heap.size, 0, none⟩ = some (.pointer q) ∧ W'.cell? ⟨w4.heap.size, 1, none⟩ = some (.int .i64 z2) ∧ W'.cell? ⟨w4.heap.size + 1, 0, none⟩ = some (.int .i64 s2) ∧ W'.cell? ⟨w4.heap.size + 1, 1, none⟩ = some (.slice ua un uc))) := fun W' h => by
        obtain ⟨⟨a0, a1⟩, ⟨a2, a3⟩, ⟨a4, a5⟩, ⟨a6, a7⟩⟩ := HALL.out _ (HR7.out.trans (h.mono HR7.out.size))
        exact ⟨a0, a1, a2, a3, a4, a5, a6, a7⟩
      have HB7 := Lib.hid (HB5.out.trans (HR7.out.mono HB5.out.size))
      clear HDF HRD HE1 HE2 HE3 HSM HALL HR5 HR6 HR7 HC6' HC7 HDL HAW HB5
      have hs : Below w7.heap.size w7 w7 := Below.refl _ _
      have hs2 := hs.drew
      have hcl := HAL7.out _ hs2
      have hc0 := HAL7.out _ hs
      go_wp2_with fail
      go_region_held3 (fun W' : World => W'.cell? ⟨w2.heap.size, 0, none⟩ = some (.pointer p) ∧ W'.cell? ⟨w2.heap.size, 1, none⟩ = some (.int .i64 z) ∧ W'.cell? ⟨w2.heap.size + 1, 0, none⟩ = some (.int .i64 s) ∧ W'.cell? ⟨w2.heap.size + 1, 1, none⟩ = some (.slice va vn vc) ∧ W'.cell? ⟨w4.heap.size, 0, none⟩ = some (.pointer q) ∧ W'.cell? ⟨w4.heap.size, 1, none⟩ = some (.int .i64 z2) ∧ W'.cell? ⟨w4.heap.size + 1, 0, none⟩ = some (.int .i64 s2) ∧ W'.cell? ⟨w4.heap.size + 1, 1, none⟩ = some (.slice ua un uc)) (first | assumption | fail) (first
        | (go_at_call 31; with_reducible refine (HCH.out _ ?h).mono ?_; (case h => assumption); rintro e w' ⟨rfl, hs1'⟩; have hc1' := HAL7.out _ hs1')
        | (go_at_call 32; with_reducible refine (HX1.out _ ?h).mono ?_; (case h => assumption); rintro e w' ⟨rfl, hs2'⟩; have hc2' := HAL7.out _ hs2')
        | (go_at_call 32; with_reducible refine (HX2.out _ ?h).mono ?_; (case h => assumption); rintro e w' ⟨rfl, hs3'⟩; have hc3' := HAL7.out _ hs3')
        | (go_at_call 32; with_reducible refine (HX3.out _ ?h).mono ?_; (case h => assumption); rintro e w' ⟨rfl, hs4'⟩; have hc4' := HAL7.out _ hs4')
        | (go_at_call 33; with_reducible refine (HX4.out _ ?h).mono ?_; (case h => assumption); rintro e w' ⟨rfl, hs5'⟩; have hc5' := HAL7.out _ hs5')
        | (go_at_call 12; with_reducible refine (HX5.out _ ?h).mono ?_; (case h => assumption); rintro e w' ⟨rfl, hs6'⟩; have hc6' := HAL7.out _ hs6') | fail)
      have HF := Lib.hid (HB7.out.trans (hs6'.mono HB7.out.size))
      clear hs hs2 hcl hc0 hs1' hc1' hs2' hc2' hs3' hc3' hs4' hc4' hs5' hc5' hs6' hc6'
      go_wp2_with fail
      go_ret
      exact ⟨rfl, HF.out⟩
    · have HF2 := Lib.hid (fun W' => HFEW.out bo m d W' false (decide_eq_false hg))
      clear hf hg HFEW
      go_enter Try.func6, Try.ntmps6
      go_wp2_with fail
      refine (HF1.out _).mono ?_
      rintro e w1 ⟨rfl, rfl⟩
      go_wp2_with fail
      refine (HF2.out _).mono ?_
      rintro e w1 ⟨rfl, rfl⟩
      go_wp2_with fail
      refine (HAW.out _).mono ?_
      rintro e w2 ⟨rfl, hb⟩
      have HB2 := Lib.hid hb
      clear hb
      go_wp2_with fail
      go_ret
      exact ⟨rfl, HB2.out⟩
  · have HF1 := Lib.hid (fun W' => HFEW.out ao n c W' false (decide_eq_false hf))
    clear hf HFEW
    go_enter Try.func6, Try.ntmps6
    go_wp2_with fail
    refine (HF1.out _).mono ?_
    rintro e w1 ⟨rfl, rfl⟩
    go_wp2_with fail
    refine (HAW.out _).mono ?_
    rintro e w2 ⟨rfl, hb⟩
    have HB2 := Lib.hid hb
    clear hb
    go_wp2_with fail
    go_ret
    exact ⟨rfl, HB2.out⟩
end Go.Proofs.Ytjbenhmpeceaeaa
namespace Go.Proofs.Ytjbenhmpeceaeaa
open Go Go.ChangeShapes Go.WideShapes Go.ChangeAt Go.RowKit Gs
set_option linter.unusedVariables false

set_option maxRecDepth 100000 in
theorem spanDiffs_lifted (os : Os) (started : os.Started) (H : Type) (enc : TypeId × Value → H) :
    ReturnsInHanded {} Try.checked os 6 .any (Rows.spanDiffsSpec.pre6 enc Try.prog Try.f6 Rows.spanDiffsRow.domain false) (Rows.spanDiffsSpec.post enc Try.prog Try.f6 false true false false) := by
  refine returnsInHanded_of_change (C := Try.checked) own started (by kernel_rfl) Try.func6
    (ChangeSpec.witness6 (enc := enc) (C := Try.checked) false ⟨#[], #[.int .i64 0, .int .i64 0, .slice none 0 0, .slice none 0 0], []⟩ 8 (by kernel_rfl) (by kernel_rfl) (by kernel_rfl) (by kernel_rfl)) ?_
  intro W base args ds gs before hval0 hW hcnd _
  have hval : ∀ (j : Nat) t v, Try.f6.params[j]? = some t → args[j]? = some v → Value.okWide Try.prog W .any base t v := hval0
  have hW' := hW
  obtain ⟨p, q, hA0, hV, rfl, hfz, hnd⟩ := hW
  have hA : DataW.TrodAll enc Try.prog W 0 (fun _ => true) true Try.f6.params.toList args.toList ds p := hA0
  rw [Try.params6] at hA hval
  obtain ⟨v0, vs0, d0, ds0, p0, q0, hargs, rfl, rfl, h0, r0⟩ := trodAll_cons hA
  obtain ⟨v1, vs1, d1, ds1, p1, q1, rfl, rfl, rfl, h1, r1⟩ := trodAll_cons r0
  obtain ⟨v2, vs2, d2, ds2, p2, q2, rfl, rfl, rfl, h2, r2⟩ := trodAll_cons r1
  obtain ⟨v3, vs3, d3, ds3, p3, q3, rfl, rfl, rfl, h3, r3⟩ := trodAll_cons r2
  obtain ⟨rfl, rfl, rfl⟩ := trodAll_nil r3
  obtain rfl : args = #[v0, v1, v2, v3] := by cases args; simp_all
  obtain ⟨rfl, rfl⟩ := trodVars_none hV
  have k0 := h0
  have lt0 : ∀ x ∈ p0, x.block < W.heap.size := by obtain ⟨m, hm⟩ := k0; exact DataW.trod_lt m _ _ _ hm
  obtain ⟨i0, rfl, rfl, rfl, w0⟩ := open_int Try.underlying3 (hval 0 3 v0 rfl rfl) h0
  have k1 := h1
  have lt1 : ∀ x ∈ p1, x.block < W.heap.size := by obtain ⟨m, hm⟩ := k1; exact DataW.trod_lt m _ _ _ hm
  obtain ⟨i1, rfl, rfl, rfl, w1⟩ := open_int Try.underlying3 (hval 1 3 v1 rfl rfl) h1
  have k2 := h2
  have lt2 : ∀ x ∈ p2, x.block < W.heap.size := by obtain ⟨m, hm⟩ := k2; exact DataW.trod_lt m _ _ _ hm
  obtain ⟨l2, hl2⟩ := acts_of h2 (okWide_slice Try.underlying22 (hval 2 22 v2 rfl rfl))
  have k3 := h3
  have lt3 : ∀ x ∈ p3, x.block < W.heap.size := by obtain ⟨m, hm⟩ := k3; exact DataW.trod_lt m _ _ _ hm
  obtain ⟨l3, hl3⟩ := acts_of h3 (okWide_slice Try.underlying22 (hval 3 22 v3 rfl rfl))
  clear hA0 hval0
  refine (spanDiffs_walk i0 i1 _ l2 _ l3 W hl2 hl3).mono fun e W' ⟨he, bel⟩ => ?_
  subst he
  exact ⟨_, rfl, _, _, _, [], _, [], hW', trodAll_mk1 (shut_bool Try.underlying4 _), (trodAll_cons_mk (shut_int Try.underlying3 w0) (trodAll_cons_mk (shut_int Try.underlying3 w1) (trodAll_cons_mk (Below.trod laidOut' (by kernel_rfl) (of_decide_eq_true (by kernel_rfl)) k2 bel lt2) (trodAll_cons_mk (Below.trod laidOut' (by kernel_rfl) (of_decide_eq_true (by kernel_rfl)) k3 bel lt3) trodAll_mk0)))), rfl, bel.frame _, fun h => by cases h⟩
theorem spanDiffs_holds : Rows.SpanDiffsSaid :=
  OpenClaim.holds_of_wide 6 Try.f6 rfl rfl rfl rfl rfl rfl rfl ⟨rfl, rfl, rfl, rfl, rfl⟩ rfl rfl rfl rfl rfl (by kernel_rfl) Try.func6 (by kernel_rfl)
    (of_decide_eq_true (by kernel_rfl)) (by unfold Func.isWrapper; first | (rw [if_pos (by decide +kernel)]; kernel_rfl) | (rw [if_neg (by decide +kernel)]; exact ⟨rfl, rfl⟩))
    (fun os started H enc _ => spanDiffs_lifted os started H enc)
#print axioms spanDiffs_holds
end Go.Proofs.Ytjbenhmpeceaeaa
