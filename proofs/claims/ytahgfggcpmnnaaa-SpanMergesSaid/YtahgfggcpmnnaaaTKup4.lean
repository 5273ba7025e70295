/- Contracts and lemmas (several texts merged into one). -/
import Derived.Test.YtahgfggcpmnnaaaTKup3
import Derived.Test.YtahgfggcpmnnaaaZd
import Derived.Test.YtahgfggcpmnnaaaTKup2
import Derived.Test.YtahgfggcpmnnaaaTKup1
import Derived.Test.YtahgfggcpmnnaaaZb
namespace Go.Proofs.Ytahgfggcpmnnaaa
open Go Go.RowKit Gs

theorem Diff_ne (bp bq : Nat) (s s2 : Int) (W : World) (h : s2 ≠ s) :
    Calls Try.prog 29 #[MV.v (some bp, s), MV.v (some bq, s2)] W fun e w' => e = .returned (.tuple #[.slice none 0 0, .int .i64 2]) ∧ Below W.heap.size W w' := by
  obtain ⟨w0, HW, hm, hr, hc, hlt, hb⟩ := two_maps W (some bp, s) (some bq, s2) 27 27
  have HCK : Hid (Calls Try.prog 57 #[.slice (some ⟨W.heap.size + 1 + 1, 0, none⟩) 2 2] w0 fun e w' => e = .returned (.int .i64 2) ∧ Below w0.heap.size w0 w') :=
    checkSizes_ok (W.heap.size + 1 + 1) 2 [(some bp, s), (some bq, s2)] s 2 w0 hlt (fun j hj => by
      have : j = 0 ∨ j = 1 := by simp at hj; omega
      rcases this with rfl | rfl
      · exact ⟨hc 0 _ rfl, hc 1 _ rfl⟩
      · exact ⟨hc 2 _ rfl, hc 3 _ rfl⟩) (by simp) (by simp) (by simp) (hc 1 _ rfl) (fun h' => absurd (h' (some bq, s2) (by simp)) h) (fun _ => rfl)
  have HB := Lib.hid hb; have HW' := Lib.hid HW
  clear hm hr hc hlt hb HW h
  unfold MV.v
  obtain ⟨xp, hxp⟩ : ∃ xp, xp = MV.p (some bp, s) := ⟨_, rfl⟩
  obtain ⟨yp, hyp⟩ : ∃ yp, yp = MV.p (some bq, s2) := ⟨_, rfl⟩
  rw [← hxp, ← hyp] at HW' ⊢
  clear hxp hyp
  go_enter Try.func29, Try.ntmps29
  go_wp2_with fail
  rw [← HW'.out]
  refine HCK.out.mono ?_
  rintro e w1 ⟨rfl, hb⟩
  have HB1 := Lib.hid (HB.out.trans (hb.mono HB.out.size))
  clear hb
  go_wp2_with fail
  refine bodyPost_ret (v := .tuple #[.slice none 0 0, .int .i64 2]) (by simp [results, Try.results29, go_sem]) rfl ?_
  exact ⟨rfl, HB1.out⟩
/-- ref.Diff where one map is unusable, or the sizes differ -/
theorem RDiff_no (s s2 : Int) (a1 a2 : Option Addr) (n1 c1 n2 c2 : Nat) (E : Int) (W : World) (h : (E = 1 ∧ (n1 = 0 ∨ n2 = 0)) ∨ (E = 2 ∧ 0 < n1 ∧ 0 < n2 ∧ s ≠ s2)) :
    Calls Try.prog 30 #[.agg #[.int .i64 s, .slice a1 n1 c1], .agg #[.int .i64 s2, .slice a2 n2 c2]] W fun e w' => e = .returned (.tuple #[.slice none 0 0, .int .i64 E]) ∧ Below W.heap.size W w' := by
  obtain ⟨w1, HW1⟩ : ∃ w1, w1 = W.alloc (.cells #[.int .i64 s, .slice a1 n1 c1] 33) := ⟨_, rfl⟩
  obtain ⟨w0, HW0⟩ : ∃ w0, w0 = w1.alloc (.cells #[.int .i64 s2, .slice a2 n2 c2] 33) := ⟨_, rfl⟩
  have b1 : Below W.heap.size W w1 := by rw [HW1]; exact (Below.refl _ _).alloc (Nat.le_refl _) _
  have b2 : Below w1.heap.size w1 w0 := by rw [HW0]; exact (Below.refl _ _).alloc (Nat.le_refl _) _
  have s1 : w1.heap.size = W.heap.size + 1 := by rw [HW1]; simp
  have hb := b1.trans (b2.mono b1.size)
  have hm : M2 W.heap.size (.int .i64 s) (.slice a1 n1 c1) w0 := by
    have : M2 W.heap.size (.int .i64 s) (.slice a1 n1 c1) w1 := by rw [HW1]; exact M2.new _ _ _ _
    exact this.next b2
  have hv : M2 (W.heap.size + 1) (.int .i64 s2) (.slice a2 n2 c2) w0 := by rw [← s1, HW0]; exact M2.new _ _ _ _
  rw [HW1] at HW0
  have HW' := Lib.hid HW0
  have HB := Lib.hid hb; have HM := Lib.hid hm; have HV := Lib.hid hv
  have HALL : Hid (∀ W', Below w0.heap.size w0 W' → W'.cell? ⟨W.heap.size, 0, none⟩ = some (.int .i64 s) ∧ W'.cell? ⟨W.heap.size, 1, none⟩ = some (.slice a1 n1 c1) ∧ W'.cell? ⟨W.heap.size + 1, 0, none⟩ = some (.int .i64 s2) ∧ W'.cell? ⟨W.heap.size + 1, 1, none⟩ = some (.slice a2 n2 c2)) := fun W' h => ⟨(HM.out.next h).c0, (HM.out.next h).c1, (HV.out.next h).c0, (HV.out.next h).c1⟩
  have HUS : Hid (∀ s a n c W' (b : Bool), decide (0 < n) = b → Below w0.heap.size w0 W' → Calls Try.prog 42 #[.agg #[.int .i64 s, .slice a n c]] W' fun e w' => e = .returned (.bool b) ∧ Below w0.heap.size w0 w') := fun s a n c W' b hb h => by
    have := RUsable_any s a n c W'
    rw [hb] at this
    exact this.mono fun e w' ⟨he, hB⟩ => ⟨he, h.trans (hB.mono h.size)⟩
  have HR0 : Hid (Below w0.heap.size w0 w0) := Below.refl _ _
  clear HW1 HW0 b1 b2 s1 hb hm hv HM HV
  go_enter Try.func30, Try.ntmps30
  go_upto_region 1 with fail
  rw [← HW'.out]
  obtain ⟨k0, k1, k2, k3⟩ := HALL.out w0 HR0.out
  by_cases h1 : n1 = 0
  · have HE : Hid (E = 1) := by rcases h with h | h <;> first | exact h.1 | (exfalso; omega)
    have HU1 := Lib.hid (HUS.out s a1 n1 c1 w0 false (decide_eq_false (by omega)) HR0.out)
    clear h h1
    go_wp2_with fail
    refine HU1.out.mono ?_
    rintro e w2 ⟨rfl, hb⟩
    have HFIN := Lib.hid (HB.out.trans (hb.mono HB.out.size))
    clear hb k0 k1 k2 k3
    go_wp2_with fail
    refine bodyPost_ret (v := .tuple #[.slice none 0 0, .int .i64 1]) (by simp [results, Try.results30, go_sem]) rfl ?_
    exact ⟨by rw [HE.out], HFIN.out⟩
  · have HU1 := Lib.hid (HUS.out s a1 n1 c1 w0 true (decide_eq_true (by omega)) HR0.out)
    by_cases h2 : n2 = 0
    · have HE : Hid (E = 1) := by rcases h with h | h <;> first | exact h.1 | (exfalso; omega)
      have HU2 := Lib.hid (fun W' => HUS.out s2 a2 n2 c2 W' false (decide_eq_false (by omega)))
      clear h h1 h2
      go_wp2_with fail
      refine HU1.out.mono ?_
      rintro e w2 ⟨rfl, hb⟩
      have HR2 := Lib.hid hb
      clear hb k0 k1 k2 k3
      obtain ⟨k0, k1, k2, k3⟩ := HALL.out w2 HR2.out
      go_wp2_with fail
      refine (HU2.out _ HR2.out).mono ?_
      rintro e w3 ⟨rfl, hb⟩
      have HFIN := Lib.hid (HB.out.trans (hb.mono HB.out.size))
      clear hb k0 k1 k2 k3
      go_wp2_with fail
      refine bodyPost_ret (v := .tuple #[.slice none 0 0, .int .i64 1]) (by simp [results, Try.results30, go_sem]) rfl ?_
      exact ⟨by rw [HE.out], HFIN.out⟩
    · have HE : Hid (E = 2 ∧ s ≠ s2) := by rcases h with h | h <;> first | exact ⟨h.1, h.2.2.2⟩ | (exfalso; omega)
      have HU2 := Lib.hid (fun W' => HUS.out s2 a2 n2 c2 W' true (decide_eq_true (by omega)))
      have hne : (s == s2) = false := beq_eq_false_iff_ne.2 HE.out.2
      clear h h1 h2
      go_wp2_with fail
      refine HU1.out.mono ?_
      rintro e w2 ⟨rfl, hb⟩
      have HR2 := Lib.hid hb
      clear hb k0 k1 k2 k3
      obtain ⟨k0, k1, k2, k3⟩ := HALL.out w2 HR2.out
      go_wp2_with fail
      refine (HU2.out _ HR2.out).mono ?_
      rintro e w3 ⟨rfl, hb⟩
      have HR3 := Lib.hid hb
      have HFIN := Lib.hid (HB.out.trans (hb.mono HB.out.size))
      clear hb k0 k1 k2 k3
      obtain ⟨k0, k1, k2, k3⟩ := HALL.out w3 HR3.out
      go_wp2_with fail
      refine bodyPost_ret (v := .tuple #[.slice none 0 0, .int .i64 2]) (by simp [results, Try.results30, go_sem]) rfl ?_
      exact ⟨by rw [HE.out.1], HFIN.out⟩
end Go.Proofs.Ytahgfggcpmnnaaa
namespace Go.Proofs.Ytahgfggcpmnnaaa
open Go Go.RowKit Gs

end Go.Proofs.Ytahgfggcpmnnaaa
namespace Go.Proofs.Ytahgfggcpmnnaaa
open Go Go.RowKit Gs

theorem Diff_same {f g : Int → Int} {size : Int} {W : World} {p q : Option Addr} {La Lb : List R} {N : Nat} (h : IsM f size W p) (h' : IsM g size W q) (ha : Gs.Can f 0 La size) (hb : Gs.Can g 0 Lb size) (hN : N = (diffE La Lb).length) :
    Calls Try.prog 29 #[.agg #[.pointer p, .int .i64 size], .agg #[.pointer q, .int .i64 size]] W fun e w' => ∃ a c, e = .returned (.tuple #[.slice a N c, .int .i64 0]) ∧ Hid (IsCs w' (.slice a N c) (diffE La Lb)) ∧ Below W.heap.size W w' := by
  obtain ⟨La', Lb', h1, h2, h3⟩ := Diff_any h h'
  have e1 := h1.same ha
  have e2 := h2.same hb
  subst e1; subst e2; subst hN
  refine h3.mono ?_
  rintro e w' ⟨v, he, hr, hB⟩
  have hc := IsCs.of_row hr.out
  have hc2 := hc
  obtain ⟨a, c, rfl, -⟩ := hc
  exact ⟨a, c, he, hc2, hB⟩
theorem Apply_same {f g : Int → Int} {size : Int} {W : World} {p a : Option Addr} {c : Nat} {l : List Ch} (h : IsM f size W p) (hl : IsCs W (.slice a l.length c) l) (hn : l.length ≤ 100000) (hg : apF size f l = (0, g)) {N : Nat} (hN : N = l.length) :
    Calls Try.prog 34 #[.agg #[.pointer p, .int .i64 size], .slice a N c] W fun e w' => ∃ q, e = .returned (.tuple #[.agg #[.pointer q, .int .i64 size], .int .i64 0]) ∧ Hid (IsM g size w' q) ∧ Below W.heap.size W w' := by
  subst hN
  refine (Apply_any h hl hn).mono ?_
  rintro e w' ⟨q, s, e2, rfl, hp, hB⟩
  obtain ⟨h1, h2⟩ := hp.out
  rw [hg] at h1 h2
  have h1 : e2 = 0 := h1
  subst h1
  rcases h2 with ⟨h3, _⟩ | ⟨_, rfl, h4⟩
  · exact absurd rfl h3
  · exact ⟨q, rfl, h4, hB⟩
theorem Equal_true {f g : Int → Int} {size : Int} {W : World} {p q : Option Addr} (h : IsM f size W p) (h' : IsM g size W q) (he : ∀ x, 0 ≤ x → x < size → f x = g x) :
    Calls Try.prog 32 #[.agg #[.pointer p, .int .i64 size], .agg #[.pointer q, .int .i64 size]] W fun e w' => e = .returned (.bool true) ∧ Below W.heap.size W w' := by
  obtain ⟨La, Lb, h1, h2, h3⟩ := Equal_any h h'
  refine h3.mono ?_
  rintro e w' ⟨b, rfl, hb, hB⟩
  have := hb.out.2 ((h1.congr he).same h2)
  subst this
  exact ⟨rfl, hB⟩
theorem Equal_same {f g : Int → Int} {size : Int} {W : World} {p q : Option Addr} {La Lb : List R} {E : Bool} (h : IsM f size W p) (h' : IsM g size W q) (ha : Gs.Can f 0 La size) (hb : Gs.Can g 0 Lb size) (he : E = true ↔ La = Lb) :
    Calls Try.prog 32 #[.agg #[.pointer p, .int .i64 size], .agg #[.pointer q, .int .i64 size]] W fun e w' => e = .returned (.bool E) ∧ Below W.heap.size W w' := by
  obtain ⟨La', Lb', h1, h2, h3⟩ := Equal_any h h'
  have e1 := h1.same ha
  have e2 := h2.same hb
  subst e1; subst e2
  refine h3.mono ?_
  rintro e w' ⟨b, rfl, hb, hB⟩
  have : b = E := by
    have h9 := hb.out.trans he.symm
    cases b <;> cases E <;> simp_all
  subst this
  exact ⟨rfl, hB⟩
end Go.Proofs.Ytahgfggcpmnnaaa
namespace Go.Proofs.Ytahgfggcpmnnaaa
open Go Go.RowKit Gs

theorem rl_len {f g : Int → Int} {lb : List R} {size : Int} (hb : Fits g 0 lb size) : ∀ {la : List R} {a : Int}, Fits f a la size → (rl la lb).length ≤ (clip a size lb).length + la.length
  | [], _, _ => Nat.zero_le _
  | x :: la, a, h => by
    have e1 := h.1; have e2 := h.2.1; have e4 := h.2.2.2
    have hle := e4.le
    have ih := rl_len hb e4
    have hc := clip_cut (lo := x.lo) (m := x.hi) (hi := size) (by omega) hle hb
    show ((clip x.lo x.hi lb).map (fun r => (⟨r.lo, r.hi, 16 * x.tag + r.tag⟩ : R)) ++ rl la lb).length ≤ _
    rw [List.length_append, List.length_map, List.length_cons, ← e1]
    omega
theorem dec_len (K : List R) : (dec K).length ≤ K.length := by
  unfold dec
  rw [List.length_map]
  exact List.length_filter_le _ _
theorem diff_len {f g : Int → Int} {la lb : List R} {size : Int} (ha : Gs.Can f 0 la size) (hb : Gs.Can g 0 lb size) (cf : Ctx f 0 size) (cg : Ctx g 0 size) : (diffE la lb).length ≤ lb.length + la.length := by
  rw [diff_dec (fits_tags hb.1 cg.2.2) (fits_tags ha.1 cf.2.2)]
  have h1 := dec_len (rl la lb)
  have h2 := rl_len hb.1 ha.1
  have h3 := clip_len 0 size lb
  omega
theorem cs_nil (W : World) : IsCs W (.slice none 0 0) [] := ⟨none, 0, rfl, fun h => absurd h (by simp)⟩
theorem rs_nil (B : Nat) (W : World) : IsRs B W (.slice none 0 0) [] := ⟨none, 0, rfl, fun h => absurd h (by simp)⟩
/-- the two Diffs agree; Equal and Same agree, whichever map comes first -/
theorem both_Diff {W : World} {p q : Option Addr} {z z2 s s2 : Int} {a1 a2 : Option Addr} {n1 c1 n2 c2 : Nat} (hp : Dual 0 W p z s (.slice a1 n1 c1)) (hq : Dual 0 W q z2 s2 (.slice a2 n2 c2)) : ∃ (code : Int) (D : List Ch) (E : Bool), D.length ≤ 100000 ∧
    Hid (∀ W', Below W.heap.size W W' → Calls Try.prog 29 #[.agg #[.pointer p, .int .i64 z], .agg #[.pointer q, .int .i64 z2]] W' fun e w' => ∃ a n c, e = .returned (.tuple #[.slice a n c, .int .i64 code]) ∧ Hid (IsCs w' (.slice a n c) D) ∧ Below W'.heap.size W' w') ∧
    Hid (∀ W', Below W.heap.size W W' → Calls Try.prog 30 #[.agg #[.int .i64 s, .slice a1 n1 c1], .agg #[.int .i64 s2, .slice a2 n2 c2]] W' fun e w' => ∃ a n c, e = .returned (.tuple #[.slice a n c, .int .i64 code]) ∧ Hid (IsCs w' (.slice a n c) D) ∧ Below W'.heap.size W' w') ∧
    Hid (∀ W', Below W.heap.size W W' → Calls Try.prog 32 #[.agg #[.pointer p, .int .i64 z], .agg #[.pointer q, .int .i64 z2]] W' fun e w' => e = .returned (.bool E) ∧ Below W'.heap.size W' w') ∧
    Hid (∀ W', Below W.heap.size W W' → Calls Try.prog 32 #[.agg #[.pointer q, .int .i64 z2], .agg #[.pointer p, .int .i64 z]] W' fun e w' => e = .returned (.bool E) ∧ Below W'.heap.size W' w') ∧
    Hid (∀ W', Below W.heap.size W W' → Calls Try.prog 32 #[.agg #[.pointer p, .int .i64 z], .agg #[.pointer p, .int .i64 z]] W' fun e w' => e = .returned (.bool true) ∧ Below W'.heap.size W' w') ∧
    Hid (∀ W', Below W.heap.size W W' → Calls Try.prog 33 #[.agg #[.int .i64 s, .slice a1 n1 c1], .agg #[.int .i64 s2, .slice a2 n2 c2]] W' fun e w' => e = .returned (.bool E) ∧ Below W'.heap.size W' w') := by
  rcases hp with ⟨rfl, rfl, rfl, hv⟩ | ⟨f, La, hf, hLa, hrs, rfl⟩
  · injection hv with h1 h2 h3
    subst h1; subst h2; subst h3
    rcases hq with ⟨rfl, rfl, rfl, hv⟩ | ⟨g, Lb, hg, hLb, hrs2, rfl⟩
    · injection hv with h1 h2 h3
      subst h1; subst h2; subst h3
      refine ⟨1, [], true, by simp, fun W' h => ?_, fun W' h => ?_, fun W' h => Equal_un none 0 W', fun W' h => Equal_un none 0 W', fun W' h => Equal_un none 0 W', fun W' h => ?_⟩
      · exact (Diff_un (none, 0) (none, 0) W' (.inl rfl)).mono fun e w' ⟨he, hB⟩ => ⟨_, _, _, he, cs_nil _, hB⟩
      · exact (RDiff_no 0 0 none none 0 0 0 0 1 W' (.inl ⟨rfl, .inl rfl⟩)).mono fun e w' ⟨he, hB⟩ => ⟨_, _, _, he, cs_nil _, hB⟩
      · exact (RSame_any (E := true) (rs_nil 0 W') (rs_nil 0 W') (by simp) (by simp) (by simp)).mono fun e w' ⟨he, hB⟩ => ⟨he, hB.out⟩
    · obtain ⟨bq, rfl⟩ := hg.some
      have hz := hg.lo
      obtain ⟨K, hK, hk⟩ := hg.can
      have := hK.same hLb
      subst this
      refine ⟨1, [], false, by simp, fun W' h => ?_, fun W' h => ?_, fun W' h => Equal_ne _ _ _ _ _ (by omega), fun W' h => Equal_ne _ _ _ _ _ (by omega), fun W' h => Equal_un none 0 W', fun W' h => ?_⟩
      · exact (Diff_un (none, 0) (some bq, s2) W' (.inl rfl)).mono fun e w' ⟨he, hB⟩ => ⟨_, _, _, he, cs_nil _, hB⟩
      · exact (RDiff_no 0 s2 none a2 0 0 n2 c2 1 W' (.inl ⟨rfl, .inl rfl⟩)).mono fun e w' ⟨he, hB⟩ => ⟨_, _, _, he, cs_nil _, hB⟩
      · exact (RSame_any (E := false) (rs_nil 0 W') (hrs2.below h) (by simp) (by omega) ⟨fun h9 => by (cases h9), fun h9 => absurd h9.1 (by omega)⟩).mono fun e w' ⟨he, hB⟩ => ⟨he, hB.out⟩
  · obtain ⟨bp, rfl⟩ := hf.some
    have hz := hf.lo
    obtain ⟨K, hK, hk⟩ := hf.can
    have := hK.same hLa
    subst this
    have hEE : Hid (∀ W', Below W.heap.size W W' → Calls Try.prog 32 #[.agg #[.pointer (some ⟨bp, 0, none⟩), .int .i64 s], .agg #[.pointer (some ⟨bp, 0, none⟩), .int .i64 s]] W' fun e w' => e = .returned (.bool true) ∧ Below W'.heap.size W' w') := fun W' h => Equal_true (hf.below h) (hf.below h) fun _ _ _ => rfl
    rcases hq with ⟨rfl, rfl, rfl, hv⟩ | ⟨g, Lb, hg, hLb, hrs2, rfl⟩
    · injection hv with h1 h2 h3
      subst h1; subst h2; subst h3
      refine ⟨1, [], false, by simp, fun W' h => ?_, fun W' h => ?_, fun W' h => Equal_ne _ _ _ _ _ (by omega), fun W' h => Equal_ne _ _ _ _ _ (by omega), hEE, fun W' h => ?_⟩
      · exact (Diff_un (some bp, s) (none, 0) W' (.inr rfl)).mono fun e w' ⟨he, hB⟩ => ⟨_, _, _, he, cs_nil _, hB⟩
      · exact (RDiff_no s 0 a1 none n1 c1 0 0 1 W' (.inl ⟨rfl, .inr rfl⟩)).mono fun e w' ⟨he, hB⟩ => ⟨_, _, _, he, cs_nil _, hB⟩
      · exact (RSame_any (E := false) (hrs.below h) (rs_nil 0 W') (by omega) (by simp) ⟨fun h9 => by (cases h9), fun h9 => absurd h9.1 (by omega)⟩).mono fun e w' ⟨he, hB⟩ => ⟨he, hB.out⟩
    · obtain ⟨bq, rfl⟩ := hg.some
      have hz2 := hg.lo
      obtain ⟨K2, hK2, hk2⟩ := hg.can
      have := hK2.same hLb
      subst this
      have hne : ∀ {h : Int → Int} {L : List R} {z : Int}, Gs.Can h 0 L z → 1 ≤ z → 0 < L.length := fun h hz => by
        rcases fits_cut h.1 with ⟨_, e⟩ | ⟨r, k, rfl⟩
        · omega
        · simp
      have hp1 := hne hLa hz
      have hp2 := hne hLb hz2
      by_cases hzz : s = s2
      · subst hzz
        obtain ⟨E, hE⟩ : ∃ E : Bool, E = decide (K = K2) := ⟨_, rfl⟩
        have hE2 : E = true ↔ K = K2 := by rw [hE]; simp
        have hE3 : E = true ↔ K2 = K := by rw [hE2]; exact eq_comm
        have hdl := diff_len hLa hLb hf.ctx hg.ctx
        refine ⟨0, diffE K K2, E, by omega, fun W' h => ?_, fun W' h => ?_, fun W' h => Equal_same (hf.below h) (hg.below h) hLa hLb hE2, fun W' h => Equal_same (hg.below h) (hf.below h) hLb hLa hE3, hEE, fun W' h => ?_⟩
        · exact (Diff_same (hf.below h) (hg.below h) hLa hLb rfl).mono fun e w' ⟨a, c, he, hc, hB⟩ => ⟨_, _, _, he, hc, hB⟩
        · refine (RDiff_ok (hrs.below h) (hrs2.below h) hLa hLb hf.ctx hg.ctx hz hk hk2).mono ?_
          rintro e w' ⟨v, he, hr, hB⟩
          have hc := IsCs.of_row hr.out
          have hc2 := hc
          obtain ⟨a, c, rfl, -⟩ := hc
          exact ⟨a, _, c, he, hc2, hB⟩
        · exact (RSame_any (E := E) (hrs.below h) (hrs2.below h) (by omega) (by omega) (by rw [hE2]; simp)).mono fun e w' ⟨he, hB⟩ => ⟨he, hB.out⟩
      · have e1 : n1 = K.length := by obtain ⟨_, _, hv, _⟩ := hrs; injection hv
        have e2 : n2 = K2.length := by obtain ⟨_, _, hv, _⟩ := hrs2; injection hv
        refine ⟨2, [], false, by simp, fun W' h => ?_, fun W' h => ?_, fun W' h => Equal_ne _ _ _ _ _ hzz, fun W' h => Equal_ne _ _ _ _ _ (fun e => hzz e.symm), hEE, fun W' h => ?_⟩
        · exact (Diff_ne bp bq s s2 W' (fun e => hzz e.symm)).mono fun e w' ⟨he, hB⟩ => ⟨_, _, _, he, cs_nil _, hB⟩
        · exact (RDiff_no s s2 a1 a2 n1 c1 n2 c2 2 W' (.inr ⟨rfl, by omega, by omega, hzz⟩)).mono fun e w' ⟨he, hB⟩ => ⟨_, _, _, he, cs_nil _, hB⟩
        · exact (RSame_any (E := false) (hrs.below h) (hrs2.below h) (by omega) (by omega) ⟨fun h9 => by (cases h9), fun h9 => absurd h9.1 hzz⟩).mono fun e w' ⟨he, hB⟩ => ⟨he, hB.out⟩
end Go.Proofs.Ytahgfggcpmnnaaa
namespace Go.Proofs.Ytahgfggcpmnnaaa
open Go Go.RowKit Gs

/-- a piece as a run, its three tags as one number -/
def M3.enc (t : M3) : R := ⟨t.lo, t.hi, 16 * (16 * t.o + t.x) + t.y⟩
def M3.swap (t : M3) : M3 := ⟨t.lo, t.hi, t.o, t.y, t.x⟩
theorem rl_append (la lb lc : List R) : rl (la ++ lb) lc = rl la lc ++ rl lb lc := by unfold rl; rw [List.flatMap_append]
theorem m3x_enc (o : R) (ly : List R) : ∀ (l : List R), (m3x o l ly).map M3.enc = rl (l.map fun r => ⟨r.lo, r.hi, 16 * o.tag + r.tag⟩) ly
  | [] => rfl
  | x :: l => by
    show (m3y o x (clip x.lo x.hi ly) ++ m3x o l ly).map M3.enc = (clip x.lo x.hi ly).map (fun r => (⟨r.lo, r.hi, 16 * (16 * o.tag + x.tag) + r.tag⟩ : R)) ++ rl (l.map fun r => ⟨r.lo, r.hi, 16 * o.tag + r.tag⟩) ly
    rw [List.map_append, m3x_enc o ly l]
    unfold m3y
    rw [List.map_map]
    rfl
theorem m3_enc (lx ly : List R) : ∀ (la : List R), (m3 la lx ly).map M3.enc = rl (rl la lx) ly
  | [] => rfl
  | o :: la => by
    show (m3x o (clip o.lo o.hi lx) ly ++ m3 la lx ly).map M3.enc = rl ((clip o.lo o.hi lx).map (fun r => (⟨r.lo, r.hi, 16 * o.tag + r.tag⟩ : R)) ++ rl la lx) ly
    rw [List.map_append, m3_enc lx ly la, rl_append, m3x_enc]
theorem rl_can2 {f g : Int → Int} {lb : List R} {size : Int} (hlb : Gs.Can g 0 lb size) : ∀ {la : List R} {a : Int}, Gs.Can f a la size → 0 ≤ a → (∀ p, 0 ≤ p → p < size → 0 ≤ g p ∧ g p < 16) → Gs.Can (pr f g) a (rl la lb) size
  | [], a, h, _, _ => by
    have e : a = size := h.1
    subst e
    exact Gs.Can.nil _ _
  | x :: la, a, h, ha, hb => by
    have h0 : Gs.Can f a ([] ++ x :: la) size := h
    obtain ⟨m1, m2, m3, m4, _, m6⟩ := h0.mid
    have ea : a = x.lo := m1.1
    have hle := m2.le
    have ih := rl_can2 hlb m2 (by omega) hb
    have hc := clip_can (lo := x.lo) (hi := x.hi) hlb (by omega) (by omega) (by omega)
    have hm := Can.map (h := pr f g) (fun t => 16 * x.tag + t) hc (fun p p1 p2 => by
      show 16 * f p + g p = 16 * x.tag + g p
      rw [m4 p p1 p2]) (fun p q _ _ _ _ e => by
      have e : 16 * x.tag + g p = 16 * x.tag + g q := e
      omega)
    rw [ea]
    show Gs.Can (pr f g) x.lo ((clip x.lo x.hi lb).map (fun r => ⟨r.lo, r.hi, 16 * x.tag + r.tag⟩) ++ rl la lb) size
    refine hm.join ih fun _ h' => ?_
    have := m6 h'
    have b1 := hb (x.hi - 1) (by omega) (by omega)
    have b2 := hb x.hi (by omega) h'
    unfold pr
    omega
/-- three tags in bounds -/
def B3 (o x y : Int → Int) (size : Int) : Prop := ∀ p, 0 ≤ p → p < size → (0 ≤ o p ∧ o p < 16) ∧ (0 ≤ x p ∧ x p < 16) ∧ (0 ≤ y p ∧ y p < 16)
theorem B3.of {o x y : Int → Int} {size : Int} (co : Ctx o 0 size) (cx : Ctx x 0 size) (cy : Ctx y 0 size) : B3 o x y size := fun p p1 p2 => ⟨co.2.2 p p1 p2, cx.2.2 p p1 p2, cy.2.2 p p1 p2⟩
theorem m3_can {o x y : Int → Int} {la lx ly : List R} {size : Int} (ho : Gs.Can o 0 la size) (hx : Gs.Can x 0 lx size) (hy : Gs.Can y 0 ly size) (hb : B3 o x y size) : Gs.Can (pr (pr o x) y) 0 ((m3 la lx ly).map M3.enc) size := by
  rw [m3_enc]
  exact rl_can2 hy (rl_can2 hx ho (Int.le_refl 0) fun p p1 p2 => (hb p p1 p2).2.1) (Int.le_refl 0) fun p p1 p2 => (hb p p1 p2).2.2
theorem m3_mem {la lx ly : List R} {t : M3} (h : t ∈ m3 la lx ly) : ∃ r ∈ la, ∃ s ∈ lx, ∃ u ∈ ly, t.o = r.tag ∧ t.x = s.tag ∧ t.y = u.tag := by
  obtain ⟨r, hr, h⟩ := List.mem_flatMap.1 h
  obtain ⟨s, hs, h⟩ := List.mem_flatMap.1 h
  obtain ⟨u, hu, rfl⟩ := List.mem_map.1 h
  have hcl : ∀ {lo hi : Int} {l : List R} {s : R}, s ∈ clip lo hi l → ∃ s' ∈ l, s.tag = s'.tag := fun {lo hi l s} h => by
    obtain ⟨x, hx, h⟩ := List.mem_flatMap.1 h
    unfold clip1 at h
    split at h
    · exact ⟨x, hx, by rw [List.mem_singleton.1 h]⟩
    · cases h
  obtain ⟨s', hs', e1⟩ := hcl hs
  obtain ⟨u', hu', e2⟩ := hcl hu
  exact ⟨r, hr, s', hs', u', hu', rfl, e1, e2⟩
theorem m3_tags {o x y : Int → Int} {la lx ly : List R} {size : Int} (ho : Fits o 0 la size) (hx : Fits x 0 lx size) (hy : Fits y 0 ly size) (hb : B3 o x y size) : ∀ t ∈ m3 la lx ly, (0 ≤ t.o ∧ t.o < 16) ∧ (0 ≤ t.x ∧ t.x < 16) ∧ (0 ≤ t.y ∧ t.y < 16) := by
  intro t ht
  obtain ⟨r, hr, s, hs, u, hu, e1, e2, e3⟩ := m3_mem ht
  rw [e1, e2, e3]
  exact ⟨fits_tags ho (fun p p1 p2 => (hb p p1 p2).1) r hr, fits_tags hx (fun p p1 p2 => (hb p p1 p2).2.1) s hs, fits_tags hy (fun p p1 p2 => (hb p p1 p2).2.2) u hu⟩
/-- pieces, one behind the other, of three functions -/
def F3 (o x y : Int → Int) : Int → List M3 → Int → Prop
  | a, [], b => a = b
  | a, t :: T, b => a = t.lo ∧ t.lo < t.hi ∧ (∀ p, t.lo ≤ p → p < t.hi → o p = t.o ∧ x p = t.x ∧ y p = t.y) ∧ F3 o x y t.hi T b
theorem F3.le {o x y : Int → Int} : ∀ {T : List M3} {a b : Int}, F3 o x y a T b → a ≤ b
  | [], a, b, h => by have h : a = b := h; omega
  | t :: T, a, b, h => by have := h.2.2.2.le; have := h.1; have := h.2.1; omega
theorem F3.append {o x y : Int → Int} : ∀ {T U : List M3} {a b : Int}, F3 o x y a (T ++ U) b ↔ ∃ m, F3 o x y a T m ∧ F3 o x y m U b
  | [], U, a, b => ⟨fun h => ⟨a, rfl, h⟩, fun ⟨m, h1, h2⟩ => by have h1 : a = m := h1; subst h1; exact h2⟩
  | t :: T, U, a, b => by
    constructor
    · rintro ⟨h1, h2, h3, h4⟩
      obtain ⟨m, k1, k2⟩ := F3.append.1 h4
      exact ⟨m, ⟨h1, h2, h3, k1⟩, k2⟩
    · rintro ⟨m, ⟨h1, h2, h3, k1⟩, k2⟩
      exact ⟨h1, h2, h3, F3.append.2 ⟨m, k1, k2⟩⟩
theorem F3.of_fits {o x y : Int → Int} {size : Int} (hb : B3 o x y size) : ∀ {T : List M3} {a : Int}, 0 ≤ a → Fits (pr (pr o x) y) a (T.map M3.enc) size → (∀ t ∈ T, (0 ≤ t.o ∧ t.o < 16) ∧ (0 ≤ t.x ∧ t.x < 16) ∧ (0 ≤ t.y ∧ t.y < 16)) → F3 o x y a T size
  | [], a, _, h, _ => h
  | t :: T, a, ha, h, ht => by
    have h1 : a = t.lo := Eq.symm h.1
    have h2 : t.lo < t.hi := h.2.1
    have h3 : ∀ p, t.lo ≤ p → p < t.hi → 16 * (16 * o p + x p) + y p = 16 * (16 * t.o + t.x) + t.y := h.2.2.1
    have h4 : Fits (pr (pr o x) y) t.hi (T.map M3.enc) size := h.2.2.2
    have hle := h4.le
    refine ⟨h1, h2, fun p p1 p2 => ?_, F3.of_fits hb (by omega) h4 fun t' h' => ht t' (List.mem_cons_of_mem _ h')⟩
    have e := h3 p p1 p2
    have b1 := hb p (by omega) (by omega)
    have b2 := ht t (List.mem_cons_self ..)
    omega
theorem m3_f3 {o x y : Int → Int} {la lx ly : List R} {size : Int} (ho : Gs.Can o 0 la size) (hx : Gs.Can x 0 lx size) (hy : Gs.Can y 0 ly size) (hb : B3 o x y size) : F3 o x y 0 (m3 la lx ly) size :=
  F3.of_fits hb (Int.le_refl 0) (m3_can ho hx hy hb).1 (m3_tags ho.1 hx.1 hy.1 hb)
/-- the merged function -/
def mg (o x y : Int → Int) (p : Int) : Int := mt (o p) (x p) (y p)
theorem addR_join (l : List R) {x : R} (h : x.lo < x.hi) : addR l x = joinL l x := by
  unfold addR joinL
  rw [if_neg (by omega)]
  rcases hy : l.getLast? with _ | y
  · rfl
  · by_cases e : y.tag = x.tag
    · simp only [e, if_true]
    · simp only [e, if_false]
theorem mR_step {o x y : Int → Int} {a : Int} {l : List R} {t : M3} (h : Gs.Can (mg o x y) 0 l a) (h1 : a = t.lo) (h2 : t.lo < t.hi) (h3 : ∀ p, t.lo ≤ p → p < t.hi → o p = t.o ∧ x p = t.x ∧ y p = t.y) : Gs.Can (mg o x y) 0 (addR l ⟨t.lo, t.hi, mt t.o t.x t.y⟩) t.hi := by
  rw [addR_join l h2]
  exact join_can (x := ⟨t.lo, t.hi, mt t.o t.x t.y⟩) h h1.symm (by show a ≤ t.hi; omega) fun p p1 p2 => by
    obtain ⟨e1, e2, e3⟩ := h3 p p1 p2
    show mt (o p) (x p) (y p) = mt t.o t.x t.y
    rw [e1, e2, e3]
theorem mR_fold {o x y : Int → Int} : ∀ {T : List M3} {a b : Int} {l : List R}, F3 o x y a T b → Gs.Can (mg o x y) 0 l a → Gs.Can (mg o x y) 0 (T.foldl stepR l) b
  | [], a, b, l, h, hl => by have h : a = b := h; subst h; exact hl
  | t :: T, a, b, l, h, hl => mR_fold (T := T) h.2.2.2 (mR_step hl h.1 h.2.1 h.2.2.1)
/-- **the merged runs are the runs of the merged function** -/
theorem mR_can {o x y : Int → Int} {T : List M3} {b : Int} (h : F3 o x y 0 T b) : Gs.Can (mg o x y) 0 (mR T) b := mR_fold h (Gs.Can.nil _ _)
theorem mC_nil : ∀ {T : List M3}, (∀ t ∈ T, mtb t.o t.x t.y = true) → ∀ K : List Ch, T.foldl stepC K = K
  | [], _, _ => rfl
  | t :: T, h, K => by
    rw [List.foldl_cons]
    unfold stepC
    rw [if_pos (h t (List.mem_cons_self ..))]
    exact mC_nil (fun t' h' => h t' (List.mem_cons_of_mem _ h')) K
theorem F3.mem {o x y : Int → Int} : ∀ {T : List M3} {a b : Int}, F3 o x y a T b → ∀ t ∈ T, a ≤ t.lo ∧ t.lo < t.hi ∧ t.hi ≤ b ∧ o t.lo = t.o ∧ x t.lo = t.x ∧ y t.lo = t.y
  | [], _, _, _, _, h => by cases h
  | s :: T, a, b, h, t, ht => by
    have hle := h.2.2.2.le
    have h1 := h.1; have h2 := h.2.1
    rcases List.mem_cons.1 ht with e | e
    · subst e
      exact ⟨by omega, h2, hle, h.2.2.1 _ (Int.le_refl _) h2⟩
    · obtain ⟨k1, k2, k3, k4⟩ := h.2.2.2.mem t e
      exact ⟨by omega, k2, k3, k4⟩
/-- **no conflict, where at each piece the updates agree** -/
theorem mC_none {o x y : Int → Int} {T : List M3} {b : Int} (h : F3 o x y 0 T b) (hd : ∀ p, 0 ≤ p → p < b → x p = y p ∨ y p = o p ∨ x p = o p) : mC T = [] :=
  mC_nil (fun t ht => by
    obtain ⟨k1, k2, k3, e1, e2, e3⟩ := h.mem t ht
    have := hd t.lo k1 (by omega)
    rw [e1, e2, e3] at this
    exact decide_eq_true this) []
theorem enc_inj {T U : List M3} (hT : ∀ t ∈ T, (0 ≤ t.o ∧ t.o < 16) ∧ (0 ≤ t.x ∧ t.x < 16) ∧ (0 ≤ t.y ∧ t.y < 16)) (hU : ∀ t ∈ U, (0 ≤ t.o ∧ t.o < 16) ∧ (0 ≤ t.x ∧ t.x < 16) ∧ (0 ≤ t.y ∧ t.y < 16)) (h : T.map M3.enc = U.map M3.enc) : T = U := by
  induction T generalizing U with
  | nil => cases U with
    | nil => rfl
    | cons u U => cases h
  | cons t T ih =>
    cases U with
    | nil => cases h
    | cons u U =>
      rw [List.map_cons, List.map_cons] at h
      injection h with h1 h2
      have b1 := hT t (List.mem_cons_self ..)
      have b2 := hU u (List.mem_cons_self ..)
      have e : t = u := by
        obtain ⟨a1, a2, a3, a4, a5⟩ := t
        obtain ⟨c1, c2, c3, c4, c5⟩ := u
        unfold M3.enc at h1
        injection h1 with h3 h4 h5
        simp only at h3 h4 h5 b1 b2
        have e1 : a5 = c5 := by omega
        have e2 : a4 = c4 := by omega
        have e3 : a3 = c3 := by omega
        rw [h3, h4, e1, e2, e3]
      rw [e, ih (fun t' h' => hT t' (List.mem_cons_of_mem _ h')) (fun t' h' => hU t' (List.mem_cons_of_mem _ h')) h2]
/-- **the pieces, the two updates exchanged** -/
theorem m3_swap {o x y : Int → Int} {la lx ly : List R} {size : Int} (ho : Gs.Can o 0 la size) (hx : Gs.Can x 0 lx size) (hy : Gs.Can y 0 ly size) (hb : B3 o x y size) : m3 la ly lx = (m3 la lx ly).map M3.swap := by
  have hb' : B3 o y x size := fun p p1 p2 => ⟨(hb p p1 p2).1, (hb p p1 p2).2.2, (hb p p1 p2).2.1⟩
  have t1 := m3_tags ho.1 hx.1 hy.1 hb
  refine enc_inj (m3_tags ho.1 hy.1 hx.1 hb') (fun t ht => ?_) ?_
  · obtain ⟨s, hs, rfl⟩ := List.mem_map.1 ht
    have := t1 s hs
    exact ⟨this.1, this.2.2, this.2.1⟩
  · have h1 := m3_can ho hy hx hb'
    have h2 := m3_can ho hx hy hb
    have h3 := Can.map (h := pr (pr o y) x) (fun t => 16 * (16 * (t / 256) + t % 16) + t / 16 % 16) h2 (fun p p1 p2 => by
      have := hb p p1 p2
      show 16 * (16 * o p + y p) + x p = 16 * (16 * ((16 * (16 * o p + x p) + y p) / 256) + (16 * (16 * o p + x p) + y p) % 16) + (16 * (16 * o p + x p) + y p) / 16 % 16
      omega) (fun p q p1 p2 q1 q2 e => by
      have e : 16 * (16 * ((16 * (16 * o p + x p) + y p) / 256) + (16 * (16 * o p + x p) + y p) % 16) + (16 * (16 * o p + x p) + y p) / 16 % 16 = 16 * (16 * ((16 * (16 * o q + x q) + y q) / 256) + (16 * (16 * o q + x q) + y q) % 16) + (16 * (16 * o q + x q) + y q) / 16 % 16 := e
      have b1 := hb p p1 p2
      have b2 := hb q q1 q2
      show 16 * (16 * o p + x p) + y p = 16 * (16 * o q + x q) + y q
      omega)
    rw [h1.same h3, List.map_map, List.map_map]
    refine List.map_congr_left fun t ht => ?_
    have := t1 t ht
    show (⟨t.lo, t.hi, 16 * (16 * ((16 * (16 * t.o + t.x) + t.y) / 256) + (16 * (16 * t.o + t.x) + t.y) % 16) + (16 * (16 * t.o + t.x) + t.y) / 16 % 16⟩ : R) = ⟨t.lo, t.hi, 16 * (16 * t.o + t.y) + t.x⟩
    congr 1
    omega
theorem mt_swap (o x y : Int) : mt o y x = mt o x y := by
  unfold mt
  by_cases h1 : x = y
  · subst h1; rfl
  · by_cases h2 : y = o
    · subst h2
      rw [if_neg (fun h => h.elim (fun e => h1 e.symm) h1), if_pos rfl, if_pos (.inr rfl)]
    · by_cases h3 : x = o
      · subst h3
        rw [if_pos (.inr rfl), if_neg (fun h => h.elim h1 h2), if_pos rfl]
      · rw [if_neg (fun h => h.elim (fun e => h1 e.symm) h3), if_neg h2, if_neg (fun h => h.elim h1 h2), if_neg h3]
theorem mtb_swap (o x y : Int) : mtb o y x = mtb o x y := by
  unfold mtb
  refine decide_eq_decide.2 ⟨?_, ?_⟩
  · rintro (h | h | h)
    · exact .inl h.symm
    · exact .inr (.inr h)
    · exact .inr (.inl h)
  · rintro (h | h | h)
    · exact .inl h.symm
    · exact .inr (.inr h)
    · exact .inr (.inl h)
theorem mR_swap (T : List M3) : mR (T.map M3.swap) = mR T := by
  unfold mR
  rw [List.foldl_map]
  congr 1
  funext l t
  show addR l ⟨t.lo, t.hi, mt t.o t.y t.x⟩ = addR l ⟨t.lo, t.hi, mt t.o t.x t.y⟩
  rw [mt_swap]
theorem joinC_swap (K : List Ch) (c : Ch) : joinC (K.map Ch.swap) c.swap = (joinC K c).map Ch.swap := by
  rcases List.eq_nil_or_concat K with rfl | ⟨K', d, rfl⟩
  · rfl
  · rw [List.concat_eq_append]
    unfold joinC
    rw [List.map_append, List.map_cons, List.map_nil, List.getLast?_concat, List.getLast?_concat]
    simp only
    by_cases e : d.hi = c.lo ∧ d.fr = c.fr ∧ d.tt = c.tt
    · rw [if_pos e, if_pos ⟨e.1, e.2.2, e.2.1⟩, List.dropLast_concat, List.dropLast_concat, List.map_append]
      rfl
    · rw [if_neg e, if_neg (fun h => e ⟨h.1, h.2.2, h.2.1⟩), List.map_append, List.map_append]
      rfl
theorem mC_swap (T : List M3) : mC (T.map M3.swap) = (mC T).map Ch.swap := by
  unfold mC
  suffices ∀ K : List Ch, (T.map M3.swap).foldl stepC (K.map Ch.swap) = (T.foldl stepC K).map Ch.swap from this []
  induction T with
  | nil => intro K; rfl
  | cons t T ih =>
    intro K
    rw [List.map_cons, List.foldl_cons, List.foldl_cons, ← ih]
    congr 1
    show (if mtb t.o t.y t.x = true then K.map Ch.swap else joinC (K.map Ch.swap) (Ch.swap ⟨t.lo, t.hi, t.x, t.y⟩)) = (if mtb t.o t.x t.y = true then K else joinC K ⟨t.lo, t.hi, t.x, t.y⟩).map Ch.swap
    rw [mtb_swap, joinC_swap]
    split <;> rfl
theorem m3_len {o x y : Int → Int} {la lx ly : List R} {size : Int} (ho : Gs.Can o 0 la size) (hx : Gs.Can x 0 lx size) (hy : Gs.Can y 0 ly size) (hb : B3 o x y size) : (m3 la lx ly).length ≤ la.length + lx.length + ly.length := by
  have h1 := rl_len hy.1 (rl_can2 hx ho (Int.le_refl 0) fun p p1 p2 => (hb p p1 p2).2.1).1
  have h2 := rl_len hx.1 ho.1
  have h3 := clip_len 0 size ly
  have h4 := clip_len 0 size lx
  have h5 : ((m3 la lx ly).map M3.enc).length = (m3 la lx ly).length := List.length_map ..
  rw [m3_enc] at h5
  omega
end Go.Proofs.Ytahgfggcpmnnaaa
namespace Go.Proofs.Ytahgfggcpmnnaaa
open Go Go.RowKit Gs

/-- a piece ends where the first of the three runs ends that hold it -/
theorem m3_piece {o x y : Int → Int} {La Lx Ly : List R} {size : Int} (ho : Gs.Can o 0 La size) (hx : Gs.Can x 0 Lx size) (hy : Gs.Can y 0 Ly size) (hb : B3 o x y size) {t : M3} (ht : t ∈ m3 La Lx Ly) :
    ∃ i, ∃ hi : i < La.length, ∃ k, ∃ hk : k < Lx.length, ∃ l, ∃ hl : l < Ly.length, (La[i].lo ≤ t.lo ∧ t.lo < La[i].hi) ∧ (Lx[k].lo ≤ t.lo ∧ t.lo < Lx[k].hi) ∧ (Ly[l].lo ≤ t.lo ∧ t.lo < Ly[l].hi) ∧ t.hi = min (min La[i].hi Lx[k].hi) Ly[l].hi := by
  obtain ⟨f1, f2, f3, -, -, -⟩ := (m3_f3 ho hx hy hb).mem t ht
  have hrl := rl_can2 hx ho (Int.le_refl 0) fun p p1 p2 => (hb p p1 p2).2.1
  obtain ⟨i', hi', p1, p2⟩ := fits_idx hrl.1 f1 (show t.lo < size by omega)
  obtain ⟨l, hl, l1, l2⟩ := fits_idx hy.1 f1 (show t.lo < size by omega)
  have hte : t.enc ∈ rl (rl La Lx) Ly := by rw [← m3_enc]; exact List.mem_map_of_mem ht
  have e1 : t.hi = min (rl La Lx)[i'].hi Ly[l].hi := rl_piece hrl.1 hy.1 hte i' l hi' hl p1 p2 l1 l2
  have hr := fits_rng hrl.1 _ (List.getElem_mem hi')
  obtain ⟨i, hi, i1, i2⟩ := fits_idx ho.1 hr.1 (show (rl La Lx)[i'].lo < size by omega)
  obtain ⟨k, hk, k1, k2⟩ := fits_idx hx.1 hr.1 (show (rl La Lx)[i'].lo < size by omega)
  have e2 := rl_piece ho.1 hx.1 (List.getElem_mem hi') i k hi hk i1 i2 k1 k2
  exact ⟨i, hi, k, hk, l, hl, ⟨by omega, by omega⟩, ⟨by omega, by omega⟩, ⟨l1, l2⟩, by rw [e1, e2]⟩
/-- two lists under way, side by side -/
structure Twr (base : Nat) (v u : Value) (L : List R) (K : List Ch) (W : World) : Prop where
  rv : rowR W base v L
  ru : RowC base u K W
  ap : ∀ k, v.ownBlock = some k → u.ownBlock ≠ some k
theorem Twr.next {base : Nat} {v u : Value} {L : List R} {K : List Ch} {W W' : World} (h : Twr base v u L K W) (hb : Below W.heap.size W W') : Twr base v u L K W' :=
  ⟨row_keep h.rv fun k hk _ => hb.block k hk, row_keep h.ru fun k hk _ => hb.block k hk, h.ap⟩
theorem Twr.run {base : Nat} {v u v' : Value} {L L' : List R} {K : List Ch} {W w' : World} (h : Twr base v u L K W) (hj : JP W base v L' v' w') : Twr base v' u L' K w' :=
  ⟨hj.own, row_keep h.ru fun k hk ek => hj.keep k hk fun e => h.ap k e.symm ek, fun k ek eu => by
    rcases hj.at' k ek with h2 | h2
    · exact h.ap k h2 eu
    · have := own_lt h.ru k eu
      omega⟩
theorem Twr.change {base : Nat} {v u u' : Value} {L : List R} {K K' : List Ch} {W w' : World} (h : Twr base v u L K W) (hj : JC W base u K' u' w') : Twr base v u' L K' w' :=
  ⟨row_keep h.rv fun k hk ek => hj.keep k hk fun e => h.ap k ek e.symm, hj.own, fun k ek eu => by
    rcases hj.at' k eu with h2 | h2
    · exact h.ap k ek h2
    · have := own_lt h.rv k ek
      omega⟩
theorem Twr.nil (base : Nat) (W : World) : Twr base (.slice none 0 0) (.slice none 0 0) [] [] W := ⟨World.ownsRow_nil _ _ _ _, World.ownsRow_nil _ _ _ _, fun k ek => by simp [Value.ownBlock] at ek⟩
theorem RowC.set {base : Nat} {u : Value} {K : List Ch} {W : World} (h : RowC base u K W) (p : Addr) (hp : p.block < base) (x : Value) : RowC base u K (W.setCell p x) :=
  row_keep h fun k _ ek => Below.heap_setCell _ _ _ k (fun e => by have := own_at h k ek; omega)
/-- what the document's Merge answers -/
def RMg (size : Int) (L : List R) (K : List Ch) (B : Nat) (s : Int) (v u : Value) (E : Int) (W : World) : Prop :=
  (4096 < L.length ∧ s = 0 ∧ v = .slice none 0 0 ∧ u = .slice none 0 0 ∧ E = 5) ∨ (L.length ≤ 4096 ∧ s = size ∧ IsRs B W v L ∧ RowC B u K W ∧ E = 0)
set_option maxRecDepth 100000 in
set_option maxHeartbeats 8000000 in
theorem RMerge_ok {o x y : Int → Int} {size : Int} {B1 B2 B3' : Nat} {v1 v2 v3 : Value} {La Lx Ly : List R} {W : World} (h1 : IsRs B1 W v1 La) (h2 : IsRs B2 W v2 Lx) (h3 : IsRs B3' W v3 Ly) (hLa : Gs.Can o 0 La size) (hLx : Gs.Can x 0 Lx size) (hLy : Gs.Can y 0 Ly size) (co : Ctx o 0 size) (cx : Ctx x 0 size) (cy : Ctx y 0 size) (hs : 1 ≤ size) (hla : La.length ≤ 4096) (hlx : Lx.length ≤ 4096) (hly : Ly.length ≤ 4096) :
    Calls Try.prog 37 #[.agg #[.int .i64 size, v1], .agg #[.int .i64 size, v2], .agg #[.int .i64 size, v3]] W fun e w' => ∃ s v u E, e = .returned (.tuple #[.agg #[.int .i64 s, v], u, .int .i64 E]) ∧ Hid (RMg size (mR (m3 La Lx Ly)) (mC (m3 La Lx Ly)) W.heap.size s v u E w') ∧ Below W.heap.size W w' := by
  have hB := B3.of co cx cy
  have hF := m3_f3 hLa hLx hLy hB
  have hln := m3_len hLa hLx hLy hB
  have hpc := fun t => m3_piece hLa hLx hLy hB (t := t)
  have hne : ∀ {h : Int → Int} {L : List R}, Gs.Can h 0 L size → 0 < L.length := fun h => by
    rcases fits_cut h.1 with ⟨_, e⟩ | ⟨r, k, rfl⟩
    · omega
    · simp
  have hp1 := hne hLa
  have hp2 := hne hLx
  have hp3 := hne hLy
  obtain ⟨T, hT⟩ : ∃ T, T = m3 La Lx Ly := ⟨_, rfl⟩
  rw [← hT] at hF hln ⊢
  have HPC : Hid (∀ t, t ∈ T → ∃ i, ∃ hi : i < La.length, ∃ k, ∃ hk : k < Lx.length, ∃ l, ∃ hl : l < Ly.length, (La[i].lo ≤ t.lo ∧ t.lo < La[i].hi) ∧ (Lx[k].lo ≤ t.lo ∧ t.lo < Lx[k].hi) ∧ (Ly[l].lo ≤ t.lo ∧ t.lo < Ly[l].hi) ∧ t.hi = min (min La[i].hi Lx[k].hi) Ly[l].hi) := fun t ht => hpc t (by rw [← hT]; exact ht)
  clear hpc hT
  have HSZ : Hid (size ≤ 1099511627776) := co.2.1
  obtain ⟨w1, HW1⟩ : ∃ w1, w1 = W.alloc (.cells #[.int .i64 size, v1] 33) := ⟨_, rfl⟩
  obtain ⟨w2, HW2⟩ : ∃ w2, w2 = w1.alloc (.cells #[.int .i64 size, v2] 33) := ⟨_, rfl⟩
  obtain ⟨w3, HW3⟩ : ∃ w3, w3 = w2.alloc (.cells #[.int .i64 size, v3] 33) := ⟨_, rfl⟩
  obtain ⟨w0, HW0⟩ : ∃ w0, w0 = w3.alloc (.cells #[.int .i64 0, .slice none 0 0] 33) := ⟨_, rfl⟩
  have b1 : Below W.heap.size W w1 := by rw [HW1]; exact (Below.refl _ _).alloc (Nat.le_refl _) _
  have b2 : Below w1.heap.size w1 w2 := by rw [HW2]; exact (Below.refl _ _).alloc (Nat.le_refl _) _
  have b3 : Below w2.heap.size w2 w3 := by rw [HW3]; exact (Below.refl _ _).alloc (Nat.le_refl _) _
  have b4 : Below w3.heap.size w3 w0 := by rw [HW0]; exact (Below.refl _ _).alloc (Nat.le_refl _) _
  have s1 : w1.heap.size = W.heap.size + 1 := by rw [HW1]; simp
  have s2 : w2.heap.size = W.heap.size + 1 + 1 := by rw [HW2, World.size_alloc, s1]
  have s3 : w3.heap.size = W.heap.size + 1 + 1 + 1 := by rw [HW3, World.size_alloc, s2]
  have hb := b1.trans ((b2.trans ((b3.trans (b4.mono b3.size)).mono b2.size)).mono b1.size)
  have hm1 : M2 W.heap.size (.int .i64 size) v1 w0 := by
    have : M2 W.heap.size (.int .i64 size) v1 w1 := by rw [HW1]; exact M2.new _ _ _ _
    exact ((this.next b2).next b3).next b4
  have hm2 : M2 (W.heap.size + 1) (.int .i64 size) v2 w0 := by
    have : M2 (W.heap.size + 1) (.int .i64 size) v2 w2 := by rw [← s1, HW2]; exact M2.new _ _ _ _
    exact (this.next b3).next b4
  have hm3 : M2 (W.heap.size + 1 + 1) (.int .i64 size) v3 w0 := by
    have : M2 (W.heap.size + 1 + 1) (.int .i64 size) v3 w3 := by rw [← s2, HW3]; exact M2.new _ _ _ _
    exact this.next b4
  have hres : M2 (W.heap.size + 1 + 1 + 1) (.int .i64 0) (.slice none 0 0) w0 := by rw [← s3, HW0]; exact M2.new _ _ _ _
  have hi1 := h1.below hb
  have hi2 := h2.below hb
  have hi3 := h3.below hb
  have hs0 : W.heap.size + 1 + 1 + 1 < w0.heap.size := hres.lt
  rw [HW1] at HW2
  rw [HW2] at HW3
  rw [HW3] at HW0
  have HW' := Lib.hid HW0
  have HB := Lib.hid hb; have HM1 := Lib.hid hm1; have HM2 := Lib.hid hm2; have HM3 := Lib.hid hm3; have HR := Lib.hid hres
  have HGT1 : Hid (∀ at' W', 0 ≤ at' → at' < size → Below w0.heap.size w0 W' → Calls Try.prog 19 #[.agg #[.int .i64 size, v1], .int .i64 at'] W' fun e w' => e = .returned (.tuple #[.int .i64 (o at'), .int .i64 0]) ∧ Below w0.heap.size w0 w' ∧ Below W'.heap.size W' w') := fun at' W' p1 p2 h => (RGet_any (hi1.below h) hLa hs hla).mono fun e w' ⟨he, hB⟩ => ⟨by rw [he]; unfold getT getE; rw [if_pos ⟨p1, p2⟩, if_pos ⟨p1, p2⟩], h.trans (hB.mono h.size), hB⟩
  have HGT2 : Hid (∀ at' W', 0 ≤ at' → at' < size → Below w0.heap.size w0 W' → Calls Try.prog 19 #[.agg #[.int .i64 size, v2], .int .i64 at'] W' fun e w' => e = .returned (.tuple #[.int .i64 (x at'), .int .i64 0]) ∧ Below w0.heap.size w0 w' ∧ Below W'.heap.size W' w') := fun at' W' p1 p2 h => (RGet_any (hi2.below h) hLx hs hlx).mono fun e w' ⟨he, hB⟩ => ⟨by rw [he]; unfold getT getE; rw [if_pos ⟨p1, p2⟩, if_pos ⟨p1, p2⟩], h.trans (hB.mono h.size), hB⟩
  have HGT3 : Hid (∀ at' W', 0 ≤ at' → at' < size → Below w0.heap.size w0 W' → Calls Try.prog 19 #[.agg #[.int .i64 size, v3], .int .i64 at'] W' fun e w' => e = .returned (.tuple #[.int .i64 (y at'), .int .i64 0]) ∧ Below w0.heap.size w0 w' ∧ Below W'.heap.size W' w') := fun at' W' p1 p2 h => (RGet_any (hi3.below h) hLy hs hly).mono fun e w' ⟨he, hB⟩ => ⟨by rw [he]; unfold getT getE; rw [if_pos ⟨p1, p2⟩, if_pos ⟨p1, p2⟩], h.trans (hB.mono h.size), hB⟩
  obtain ⟨a1, c1, hv1, -⟩ := h1
  obtain ⟨a2, c2, hv2, -⟩ := h2
  obtain ⟨a3, c3, hv3, -⟩ := h3
  subst hv1; subst hv2; subst hv3
  have HUS1 : Hid (∀ W', Below w0.heap.size w0 W' → Calls Try.prog 42 #[.agg #[.int .i64 size, .slice a1 La.length c1]] W' fun e w' => e = .returned (.bool true) ∧ Below w0.heap.size w0 w') := fun W' h => by
    have := RUsable_any size a1 La.length c1 W'
    rw [decide_eq_true hp1] at this
    exact this.mono fun e w' ⟨he, hB⟩ => ⟨he, h.trans (hB.mono h.size)⟩
  have HUS2 : Hid (∀ W', Below w0.heap.size w0 W' → Calls Try.prog 42 #[.agg #[.int .i64 size, .slice a2 Lx.length c2]] W' fun e w' => e = .returned (.bool true) ∧ Below w0.heap.size w0 w') := fun W' h => by
    have := RUsable_any size a2 Lx.length c2 W'
    rw [decide_eq_true hp2] at this
    exact this.mono fun e w' ⟨he, hB⟩ => ⟨he, h.trans (hB.mono h.size)⟩
  have HUS3 : Hid (∀ W', Below w0.heap.size w0 W' → Calls Try.prog 42 #[.agg #[.int .i64 size, .slice a3 Ly.length c3]] W' fun e w' => e = .returned (.bool true) ∧ Below w0.heap.size w0 w') := fun W' h => by
    have := RUsable_any size a3 Ly.length c3 W'
    rw [decide_eq_true hp3] at this
    exact this.mono fun e w' ⟨he, hB⟩ => ⟨he, h.trans (hB.mono h.size)⟩
  obtain ⟨n1, hq1⟩ : ∃ n, n = La.length := ⟨_, rfl⟩
  obtain ⟨n2, hq2⟩ : ∃ n, n = Lx.length := ⟨_, rfl⟩
  obtain ⟨n3, hq3⟩ : ∃ n, n = Ly.length := ⟨_, rfl⟩
  have HNX1 : Hid (∀ at' i (hi : i < La.length), La[i].lo ≤ at' → at' < La[i].hi → ∀ W', Below w0.heap.size w0 W' → Calls Try.prog 59 #[.agg #[.int .i64 size, .slice a1 n1 c1], .int .i64 at'] W' fun e w' => e = .returned (.int .i64 La[i].hi) ∧ Below w0.heap.size w0 w' ∧ Below W'.heap.size W' w') := fun at' i hi x1 x2 W' h => by
    rw [hq1]
    exact (RNext_any (hi1.below h) hLa.1 hla i hi x1 x2).mono fun e w' ⟨he, hB⟩ => ⟨he, h.trans (hB.mono h.size), hB⟩
  have HNX2 : Hid (∀ at' i (hi : i < Lx.length), Lx[i].lo ≤ at' → at' < Lx[i].hi → ∀ W', Below w0.heap.size w0 W' → Calls Try.prog 59 #[.agg #[.int .i64 size, .slice a2 n2 c2], .int .i64 at'] W' fun e w' => e = .returned (.int .i64 Lx[i].hi) ∧ Below w0.heap.size w0 w' ∧ Below W'.heap.size W' w') := fun at' i hi x1 x2 W' h => by
    rw [hq2]
    exact (RNext_any (hi2.below h) hLx.1 hlx i hi x1 x2).mono fun e w' ⟨he, hB⟩ => ⟨he, h.trans (hB.mono h.size), hB⟩
  have HNX3 : Hid (∀ at' i (hi : i < Ly.length), Ly[i].lo ≤ at' → at' < Ly[i].hi → ∀ W', Below w0.heap.size w0 W' → Calls Try.prog 59 #[.agg #[.int .i64 size, .slice a3 n3 c3], .int .i64 at'] W' fun e w' => e = .returned (.int .i64 Ly[i].hi) ∧ Below w0.heap.size w0 w' ∧ Below W'.heap.size W' w') := fun at' i hi x1 x2 W' h => by
    rw [hq3]
    exact (RNext_any (hi3.below h) hLy.1 hly i hi x1 x2).mono fun e w' ⟨he, hB⟩ => ⟨he, h.trans (hB.mono h.size), hB⟩
  rw [← hq1] at HUS1 HGT1 HM1 HW' ⊢
  rw [← hq2] at HUS2 HGT2 HM2 HW' ⊢
  rw [← hq3] at HUS3 HGT3 HM3 HW' ⊢
  have HFT := Lib.hid hF
  have HLN : Hid (T.length ≤ 12288) := by show _ ≤ _; omega
  have HALL : Hid (∀ W', Below w0.heap.size w0 W' → W'.cell? ⟨W.heap.size, 0, none⟩ = some (.int .i64 size) ∧ W'.cell? ⟨W.heap.size, 1, none⟩ = some (.slice a1 n1 c1) ∧ W'.cell? ⟨W.heap.size + 1, 0, none⟩ = some (.int .i64 size) ∧ W'.cell? ⟨W.heap.size + 1, 1, none⟩ = some (.slice a2 n2 c2) ∧ W'.cell? ⟨W.heap.size + 1 + 1, 0, none⟩ = some (.int .i64 size) ∧ W'.cell? ⟨W.heap.size + 1 + 1, 1, none⟩ = some (.slice a3 n3 c3)) := fun W' h => ⟨(HM1.out.next h).c0, (HM1.out.next h).c1, (HM2.out.next h).c0, (HM2.out.next h).c1, (HM3.out.next h).c0, (HM3.out.next h).c1⟩
  clear HM1 HM2 HM3 hLa hLx hLy co cx cy hla hlx hly hB hF hln hne hp1 hp2 hp3 HW1 HW2 HW3 HW0 b1 b2 b3 b4 s1 s2 s3 hb hm1 hm2 hm3 hres hi1 hi2 hi3 hq1 hq2 hq3
  have HR0 : Hid (Below w0.heap.size w0 w0) := Below.refl _ _
  go_enter Try.func37, Try.ntmps37
  go_upto_region 1 with fail
  rw [← HW'.out]
  obtain ⟨k0, k1, k2, k3, k4, k5⟩ := HALL.out w0 HR0.out
  go_wp2_with fail
  refine (HUS1.out _ HR0.out).mono ?_
  rintro e w2 ⟨rfl, hb⟩
  have HR2 := Lib.hid hb
  clear hb k0 k1 k2 k3 k4 k5
  obtain ⟨k0, k1, k2, k3, k4, k5⟩ := HALL.out w2 HR2.out
  go_wp2_with fail
  refine (HUS2.out _ HR2.out).mono ?_
  rintro e w3 ⟨rfl, hb⟩
  have HR3 := Lib.hid hb
  clear hb k0 k1 k2 k3 k4 k5
  obtain ⟨k0, k1, k2, k3, k4, k5⟩ := HALL.out w3 HR3.out
  go_wp2_with fail
  refine (HUS3.out _ HR3.out).mono ?_
  rintro e w4 ⟨rfl, hb⟩
  have HR4 := Lib.hid hb
  clear hb k0 k1 k2 k3 k4 k5
  obtain ⟨k0, k1, k2, k3, k4, k5⟩ := HALL.out w4 HR4.out
  go_wp2_with fail
  clear k0 k1 k2 k3 k4 k5
  go_loopw [9, 10, 11] (fun ov cv iv wr => ∃ (j : Nat) (at' : Int), iv = .int .i64 at' ∧ Hid (j ≤ T.length) ∧ Hid (0 ≤ at' ∧ at' ≤ size) ∧ Hid (F3 o x y 0 (T.take j) at' ∧ F3 o x y at' (T.drop j) size) ∧ Hid (Twr w0.heap.size ov cv (mR (T.take j)) (mC (T.take j)) wr) ∧ Hid (Below w0.heap.size w0 wr)) (fun _ _ i _ => (size - intOf i).toNat)
  case atStart => exact ⟨0, 0, rfl, Nat.zero_le _, ⟨Int.le_refl 0, by omega⟩, ⟨rfl, HFT.out⟩, Twr.nil _ _, HR4.out⟩
  case round =>
    obtain ⟨j, at', rfl, HJ, HAT, HF, HTW, HR5⟩ := hrel
    obtain ⟨k0, k1, k2, k3, k4, k5⟩ := HALL.out wr HR5.out
    by_cases hlt : at' < size
    · have hat0 := HAT.out.1
      have hjl : j < T.length := by
        rcases Nat.lt_or_ge j T.length with h | h
        · exact h
        · have h9 := HF.out.2
          rw [List.drop_of_length_le h] at h9
          have h9 : at' = size := h9
          omega
      obtain ⟨t, ht⟩ : ∃ t, t = T[j] := ⟨_, rfl⟩
      have hdr : T.drop j = t :: T.drop (j + 1) := by rw [ht]; exact List.drop_eq_getElem_cons hjl
      have htk : T.take (j + 1) = T.take j ++ [t] := by rw [ht]; exact List.take_succ_eq_append_getElem hjl
      have hFd := HF.out.2
      rw [hdr] at hFd
      have q1 := hFd.1; have q2 := hFd.2.1; have q3 := hFd.2.2.1; have q4 := hFd.2.2.2
      have q5 := q4.le
      obtain ⟨i, hi, k, hk, l, hl, i1, i2, i3, hmin⟩ := HPC.out t (by rw [ht]; exact List.getElem_mem hjl)
      rw [← q1] at i1 i2 i3
      obtain ⟨e1, e2, e3⟩ := q3 at' (by omega) (by omega)
      have hmr := mR_snoc (T.take j) t
      have hmc := mC_snoc (T.take j) t
      rw [← htk] at hmr hmc
      rw [addR_join _ (show (⟨t.lo, t.hi, mt t.o t.x t.y⟩ : R).lo < (⟨t.lo, t.hi, mt t.o t.x t.y⟩ : R).hi from q2)] at hmr
      unfold stepC at hmc
      rw [← q1, ← e1, ← e2, ← e3] at hmr hmc
      have HN1 := Lib.hid (HNX1.out at' i hi i1.1 i1.2)
      have HN2 := Lib.hid (HNX2.out at' k hk i2.1 i2.2)
      have HN3 := Lib.hid (HNX3.out at' l hl i3.1 i3.2)
      have HG1 := Lib.hid (fun W' h => HGT1.out at' W' hat0 hlt h)
      have HG2 := Lib.hid (fun W' h => HGT2.out at' W' hat0 hlt h)
      have HG3 := Lib.hid (fun W' h => HGT3.out at' W' hat0 hlt h)
      have HF2 : Hid (F3 o x y 0 (T.take (j + 1)) t.hi ∧ F3 o x y t.hi (T.drop (j + 1)) size) := ⟨by rw [htk]; exact F3.append.2 ⟨at', HF.out.1, q1, q2, q3, rfl⟩, q4⟩
      have HRNG : Hid (0 ≤ t.hi ∧ t.hi ≤ size) := ⟨by omega, q5⟩
      have HJ2 : Hid (j + 1 ≤ T.length) := hjl
      have hzat : at' < t.hi := by omega
      have hl1 : (mR (T.take j)).length ≤ 100000 := by have h7 := mR_len (T.take j); have h8 := HLN.out; rw [List.length_take] at h7; omega
      have hl2 : (mC (T.take j)).length ≤ 100000000 := by have h7 := mC_len (T.take j); have h8 := HLN.out; rw [List.length_take] at h7; omega
      obtain ⟨z, hz⟩ : ∃ z, z = t.hi := ⟨_, rfl⟩
      obtain ⟨A, hA⟩ : ∃ A, A = La[i].hi := ⟨_, rfl⟩
      obtain ⟨B, hBq⟩ : ∃ B, B = Lx[k].hi := ⟨_, rfl⟩
      obtain ⟨C, hCq⟩ : ∃ C, C = Ly[l].hi := ⟨_, rfl⟩
      obtain ⟨tw, hto⟩ : ∃ x', x' = o at' := ⟨_, rfl⟩
      obtain ⟨tx, htx⟩ : ∃ x', x' = x at' := ⟨_, rfl⟩
      obtain ⟨ty, hty⟩ : ∃ x', x' = y at' := ⟨_, rfl⟩
      rw [← hz, ← hA, ← hBq, ← hCq] at hmin
      rw [← hA] at HN1
      rw [← hBq] at HN2
      rw [← hCq] at HN3
      rw [← hto] at HG1
      rw [← htx] at HG2
      rw [← hty] at HG3
      rw [← hz, ← hto, ← htx, ← hty] at hmr hmc
      rw [← hz] at HF2 HRNG hzat
      obtain ⟨RL, hRL⟩ : ∃ RL, RL = mR (T.take j) := ⟨_, rfl⟩
      obtain ⟨CL, hCL⟩ : ∃ CL, CL = mC (T.take j) := ⟨_, rfl⟩
      rw [← hRL] at hmr hl1 HTW
      rw [← hCL] at hmc hl2 HTW
      have HMR := Lib.hid hmr; have HMC := Lib.hid hmc; have HMIN := Lib.hid hmin; have HL1 := Lib.hid hl1; have HL2 := Lib.hid hl2
      clear hdr htk hFd q1 q2 q3 q4 q5 i1 i2 i3 e1 e2 e3 hmr hmc hz hA hBq hCq hto htx hty hi hk hl ht hjl HNX1 HNX2 HNX3 HGT1 HGT2 HGT3 HF HAT HJ hmin hl1 hl2 hRL hCL
      have HALLr : Hid (∀ W', Below wr.heap.size wr W' → W'.cell? ⟨W.heap.size, 0, none⟩ = some (.int .i64 size) ∧ W'.cell? ⟨W.heap.size, 1, none⟩ = some (.slice a1 n1 c1) ∧ W'.cell? ⟨W.heap.size + 1, 0, none⟩ = some (.int .i64 size) ∧ W'.cell? ⟨W.heap.size + 1, 1, none⟩ = some (.slice a2 n2 c2) ∧ W'.cell? ⟨W.heap.size + 1 + 1, 0, none⟩ = some (.int .i64 size) ∧ W'.cell? ⟨W.heap.size + 1 + 1, 1, none⟩ = some (.slice a3 n3 c3)) := fun W' h => HALL.out W' (HR5.out.trans (h.mono HR5.out.size))
      have HN1r : Hid (∀ W', Below wr.heap.size wr W' → Calls Try.prog 59 #[.agg #[.int .i64 size, .slice a1 n1 c1], .int .i64 at'] W' fun e w' => e = .returned (.int .i64 A) ∧ Below wr.heap.size wr w') := fun W' h => (HN1.out W' (HR5.out.trans (h.mono HR5.out.size))).mono fun e w' ⟨he, _, hB⟩ => ⟨he, h.trans (hB.mono h.size)⟩
      have HN2r : Hid (∀ W', Below wr.heap.size wr W' → Calls Try.prog 59 #[.agg #[.int .i64 size, .slice a2 n2 c2], .int .i64 at'] W' fun e w' => e = .returned (.int .i64 B) ∧ Below wr.heap.size wr w') := fun W' h => (HN2.out W' (HR5.out.trans (h.mono HR5.out.size))).mono fun e w' ⟨he, _, hB⟩ => ⟨he, h.trans (hB.mono h.size)⟩
      have HN3r : Hid (∀ W', Below wr.heap.size wr W' → Calls Try.prog 59 #[.agg #[.int .i64 size, .slice a3 n3 c3], .int .i64 at'] W' fun e w' => e = .returned (.int .i64 C) ∧ Below wr.heap.size wr w') := fun W' h => (HN3.out W' (HR5.out.trans (h.mono HR5.out.size))).mono fun e w' ⟨he, _, hB⟩ => ⟨he, h.trans (hB.mono h.size)⟩
      clear HN1 HN2 HN3
      go_upto_region 9 with fail
      go_cut [12] from 53 to 63 (fun s12 wz => s12 = .int .i64 z ∧ Hid (Below wr.heap.size wr wz))
      case first =>
        have hs : Below wr.heap.size wr wr := Below.refl _ _
        have hs2 := hs.drew
        have hcl := HALLr.out _ hs2
        clear k0 k1 k2 k3 k4 k5
        have hc0 := HALLr.out _ hs
        have hmin := HMIN.out
        clear HMIN HMR HMC HF2 HRNG hzat
        have hmin3 : ∀ (ts : Array TypeId) (t : TypeId) (w : World), (Builtin.min_ ts t #[.int .i64 A, .int .i64 B, .int .i64 C]).run Try.prog w = .ok (.int .i64 z) w := by
          intro ts t w
          have e1 : (Builtin.min_ ts t #[.int .i64 A, .int .i64 B, .int .i64 C]).run Try.prog w = .ok (.int .i64 (if C < (if B < A then B else A) then C else (if B < A then B else A))) w := by simp [Builtin.min_, Builtin.min2]
          have e2 : (if C < (if B < A then B else A) then C else (if B < A then B else A)) = z := by
            by_cases h1 : B < A
            · rw [if_pos h1]
              by_cases h2 : C < B
              · rw [if_pos h2]; omega
              · rw [if_neg h2]; omega
            · rw [if_neg h1]
              by_cases h2 : C < A
              · rw [if_pos h2]; omega
              · rw [if_neg h2]; omega
          rw [e1, e2]
        clear hmin
        go_region_held3 (fun W' : World => W'.cell? ⟨W.heap.size, 0, none⟩ = some (.int .i64 size) ∧ W'.cell? ⟨W.heap.size, 1, none⟩ = some (.slice a1 n1 c1) ∧ W'.cell? ⟨W.heap.size + 1, 0, none⟩ = some (.int .i64 size) ∧ W'.cell? ⟨W.heap.size + 1, 1, none⟩ = some (.slice a2 n2 c2) ∧ W'.cell? ⟨W.heap.size + 1 + 1, 0, none⟩ = some (.int .i64 size) ∧ W'.cell? ⟨W.heap.size + 1 + 1, 1, none⟩ = some (.slice a3 n3 c3)) (first | assumption | fail) (first
          | (go_at_call 59; with_reducible refine (HN1r.out _ ?h).mono ?_; (case h => assumption); rintro e w' ⟨rfl, hs1'⟩; have hc1' := HALLr.out _ hs1')
          | (go_at_call 59; with_reducible refine (HN2r.out _ ?h).mono ?_; (case h => assumption); rintro e w' ⟨rfl, hs2'⟩; have hc2' := HALLr.out _ hs2')
          | (go_at_call 59; with_reducible refine (HN3r.out _ ?h).mono ?_; (case h => assumption); rintro e w' ⟨rfl, hs3'⟩; have hc3' := HALLr.out _ hs3') | fail)
        go_wp2_with fail
        go_meet
        first | exact ⟨rfl, hs3'⟩ | (case rel => exact ⟨rfl, hs3'⟩)
      case rest =>
        obtain ⟨rfl, HBX⟩ := hcut
        have HRc := Lib.hid (HR5.out.trans (HBX.out.mono HR5.out.size))
        have HTWc := Lib.hid (HTW.out.next HBX.out)
        clear k0 k1 k2 k3 k4 k5
        obtain ⟨k0, k1, k2, k3, k4, k5⟩ := HALL.out wc HRc.out
        go_wp2_with fail
        refine (HG1.out _ HRc.out).mono ?_
        rintro e x1 ⟨rfl, hb, hb2⟩
        have HX1 := Lib.hid hb
        have HT1 := Lib.hid (HTWc.out.next hb2)
        clear hb hb2 k0 k1 k2 k3 k4 k5
        obtain ⟨k0, k1, k2, k3, k4, k5⟩ := HALL.out x1 HX1.out
        go_wp2_with fail
        refine (HG2.out _ HX1.out).mono ?_
        rintro e x2 ⟨rfl, hb, hb2⟩
        have HX2 := Lib.hid hb
        have HT2 := Lib.hid (HT1.out.next hb2)
        clear hb hb2 k0 k1 k2 k3 k4 k5
        obtain ⟨k0, k1, k2, k3, k4, k5⟩ := HALL.out x2 HX2.out
        go_wp2_with fail
        refine (HG3.out _ HX2.out).mono ?_
        rintro e x3 ⟨rfl, hb, hb2⟩
        have HX3 := Lib.hid hb
        have HT3 := Lib.hid (HT2.out.next hb2)
        clear hb hb2 k0 k1 k2 k3 k4 k5
        have HJN : Hid (∀ (tg : Int) (K : List Ch) (cv : Value) (W' : World), Below w0.heap.size w0 W' → Twr w0.heap.size u9 cv RL K W' → Calls Try.prog 49 #[u9, .agg #[.int .i64 at', .int .i64 z, .int .i64 tg]] W' fun e w' => ∃ v', e = .returned v' ∧ Hid (Twr w0.heap.size v' cv (joinL RL ⟨at', z, tg⟩) K w') ∧ Below w0.heap.size w0 w') := fun tg K cv W' h ht => by
          refine (Join_any ⟨at', z, tg⟩ ht.rv h.size HL1.out).mono ?_
          rintro e w' ⟨v', he, hj⟩
          exact ⟨v', he, ht.run hj.out, h.trans hj.out.bel⟩
        by_cases e1 : tx = ty
        · have HMR1 : Hid (mR (T.take (j + 1)) = joinL RL ⟨at', z, tx⟩) := by show _ = _; rw [HMR.out]; unfold mt; rw [if_pos (.inl e1)]
          have HMC1 : Hid (mC (T.take (j + 1)) = CL) := by show _ = _; rw [HMC.out]; unfold mtb; rw [if_pos (decide_eq_true (.inl e1))]
          have HJ1 := Lib.hid (HJN.out tx CL u10 x3 HX3.out HT3.out)
          clear HMR HMC
          subst e1
          go_wp2_with fail
          refine HJ1.out.mono ?_
          rintro e x4 ⟨v', rfl, HTF, hb⟩
          have HX4 := Lib.hid hb
          have HTG : Hid (Twr w0.heap.size v' u10 (mR (T.take (j + 1))) (mC (T.take (j + 1))) x4) := by show Twr _ _ _ _ _ _; rw [HMR1.out, HMC1.out]; exact HTF.out
          clear hb
          go_wp2_with fail
          go_roundw
          case rel => exact ⟨j + 1, _, rfl, HJ2, HRNG, HF2, HTG, HX4⟩
          case measure => simp [intOf]; omega
        · have n1 : (tx == ty) = false := beq_eq_false_iff_ne.2 e1
          by_cases e2 : tx = tw
          · have HMR1 : Hid (mR (T.take (j + 1)) = joinL RL ⟨at', z, ty⟩) := by show _ = _; rw [HMR.out]; unfold mt; rw [if_neg (fun h => h.elim e1 fun h => e1 (by rw [e2, h])), if_pos e2]
            have HMC1 : Hid (mC (T.take (j + 1)) = CL) := by show _ = _; rw [HMC.out]; unfold mtb; rw [if_pos (decide_eq_true (.inr (.inr e2)))]
            have HJ1 := Lib.hid (HJN.out ty CL u10 x3 HX3.out HT3.out)
            clear HMR HMC e1
            subst e2
            go_wp2_with fail
            refine HJ1.out.mono ?_
            rintro e x4 ⟨v', rfl, HTF, hb⟩
            have HX4 := Lib.hid hb
            have HTG : Hid (Twr w0.heap.size v' u10 (mR (T.take (j + 1))) (mC (T.take (j + 1))) x4) := by show Twr _ _ _ _ _ _; rw [HMR1.out, HMC1.out]; exact HTF.out
            clear hb
            go_wp2_with fail
            go_roundw
            case rel => exact ⟨j + 1, _, rfl, HJ2, HRNG, HF2, HTG, HX4⟩
            case measure => simp [intOf]; omega
          · have n2 : (tx == tw) = false := beq_eq_false_iff_ne.2 e2
            by_cases e3 : ty = tw
            · have HMR1 : Hid (mR (T.take (j + 1)) = joinL RL ⟨at', z, tx⟩) := by show _ = _; rw [HMR.out]; unfold mt; rw [if_pos (.inr e3)]
              have HMC1 : Hid (mC (T.take (j + 1)) = CL) := by show _ = _; rw [HMC.out]; unfold mtb; rw [if_pos (decide_eq_true (.inr (.inl e3)))]
              have HJ1 := Lib.hid (HJN.out tx CL u10 x3 HX3.out HT3.out)
              clear HMR HMC e1 e2
              subst e3
              go_wp2_with fail
              refine HJ1.out.mono ?_
              rintro e x4 ⟨v', rfl, HTF, hb⟩
              have HX4 := Lib.hid hb
              have HTG : Hid (Twr w0.heap.size v' u10 (mR (T.take (j + 1))) (mC (T.take (j + 1))) x4) := by show Twr _ _ _ _ _ _; rw [HMR1.out, HMC1.out]; exact HTF.out
              clear hb
              go_wp2_with fail
              go_roundw
              case rel => exact ⟨j + 1, _, rfl, HJ2, HRNG, HF2, HTG, HX4⟩
              case measure => simp [intOf]; omega
            · have n3 : (ty == tw) = false := beq_eq_false_iff_ne.2 e3
              have HMR1 : Hid (mR (T.take (j + 1)) = joinL RL ⟨at', z, tw⟩) := by show _ = _; rw [HMR.out]; unfold mt; rw [if_neg (fun h => h.elim e1 e3), if_neg e2]
              have HMC1 : Hid (mC (T.take (j + 1)) = joinC CL ⟨at', z, tx, ty⟩) := by show _ = _; rw [HMC.out]; unfold mtb; rw [if_neg (by simp; exact ⟨e1, e3, e2⟩)]
              have HLK := Lib.hid (Rlink_any at' z tx ty HT3.out.ru HX3.out.size HL2.out)
              clear HMR HMC e1 e2 e3
              go_wp2_with fail
              refine HLK.out.mono ?_
              rintro e x5 ⟨cv', rfl, HJC⟩
              have HX5 := Lib.hid (HX3.out.trans HJC.out.bel)
              have HT5 := Lib.hid (HT3.out.change HJC.out)
              have HJ1 := Lib.hid (HJN.out tw (joinC CL ⟨at', z, tx, ty⟩) cv' x5 HX5.out HT5.out)
              go_wp2_with fail
              refine HJ1.out.mono ?_
              rintro e x4 ⟨v', rfl, HTF, hb⟩
              have HX4 := Lib.hid hb
              have HTG : Hid (Twr w0.heap.size v' cv' (mR (T.take (j + 1))) (mC (T.take (j + 1))) x4) := by show Twr _ _ _ _ _ _; rw [HMR1.out, HMC1.out]; exact HTF.out
              clear hb
              go_wp2_with fail
              go_roundw
              case rel => exact ⟨j + 1, _, rfl, HJ2, HRNG, HF2, HTG, HX4⟩
              case measure => simp [intOf]; omega
    · have HTF : Hid (Twr w0.heap.size u9 u10 (mR T) (mC T) wr) := by
        have h9 := HF.out.2
        have e : at' = size := by have := HAT.out.2; omega
        have hj : T.drop j = [] := by
          cases hd : T.drop j with
          | nil => rfl
          | cons s t => rw [hd] at h9; have := h9.2.2.2.le; have := h9.1; have := h9.2.1; omega
        have hl : T.take j = T := by
          have := List.take_append_drop j T
          rw [hj, List.append_nil] at this
          exact this
        have h8 := HTW.out
        rw [hl] at h8
        exact h8
      obtain ⟨ra, rc, hv⟩ := own_slice HTF.out.rv
      subst hv
      obtain ⟨ca, cc, hv⟩ := own_slice HTF.out.ru
      subst hv
      have HI9 : Hid (IsRs w0.heap.size wr (.slice ra (mR T).length rc) (mR T)) := IsRs.of_row HTF.out.rv
      have HC9 : Hid (RowC w0.heap.size (.slice ca (mC T).length cc) (mC T) wr) := HTF.out.ru
      obtain ⟨ln, hln⟩ : ∃ ln, ln = (mR T).length := ⟨_, rfl⟩
      obtain ⟨cn, hcn⟩ : ∃ cn, cn = (mC T).length := ⟨_, rfl⟩
      rw [← hln] at HI9
      rw [← hcn] at HC9
      have HLN2 := Lib.hid hln
      rw [← hln, ← hcn]
      have HFU := Lib.hid (Rfull_any size (.slice a1 n1 c1) ra ln rc wr)
      have HRr := Lib.hid (HR.out.next HR5.out)
      have HWr := Lib.hid (HB.out.trans (HR5.out.mono HB.out.size))
      have HGE : Hid (W.heap.size + 1 + 1 + 1 < w0.heap.size) := hs0
      have HGW : Hid (w0.heap.size ≤ wr.heap.size) := HR5.out.size
      clear hln hcn HTF HTW HF HAT HJ
      go_wp2_with fail
      refine HFU.out.mono ?_
      rintro e y1 ⟨s', v', e2, rfl, HQ, hb, -⟩
      have HR6 := Lib.hid (HRr.out.next hb)
      have HB6 := Lib.hid (HWr.out.trans (hb.mono HWr.out.size))
      have HI6 := Lib.hid (HI9.out.below hb)
      have HC6 := Lib.hid (HC9.out.next hb)
      clear hb k0 k1 k2 k3 k4 k5
      obtain ⟨y2, HW7⟩ : ∃ y2, y2 = y1.alloc (.cells #[.int .i64 s', v'] 33) := ⟨_, rfl⟩
      have b7 : Below y1.heap.size y1 y2 := by rw [HW7]; exact (Below.refl _ _).alloc (Nat.le_refl _) _
      have HM7 : Hid (M2 y1.heap.size (.int .i64 s') v' y2) := by rw [HW7]; exact M2.new _ _ _ _
      have HR7 := Lib.hid (HR6.out.next b7)
      have HB7 := Lib.hid (HB6.out.trans (b7.mono HB6.out.size))
      have HI7 := Lib.hid (HI6.out.below b7)
      have HC7 := Lib.hid (HC6.out.next b7)
      have HW7' := Lib.hid HW7
      clear HW7 b7
      rcases HQ.out with ⟨q1, rfl, rfl, rfl⟩ | ⟨q1, rfl, rfl, rfl⟩
      · have d0 := HR7.out.c0; have d1 := HR7.out.c1; have d2 := HR7.out.f0; have d3 := HR7.out.f1
        obtain ⟨u0, u1⟩ : _ ∧ _ := ⟨(HR7.out.put (.int .i64 0) (.slice none 0 0)).c0, (HR7.out.put (.int .i64 0) (.slice none 0 0)).c1⟩
        go_upto_region 24 with fail
        rw [← HW7'.out]
        go_wp2_with fail
        refine bodyPost_ret (v := .tuple #[.agg #[.int .i64 0, .slice none 0 0], .slice none 0 0, .int .i64 5]) (by simp [results, Try.results37, go_sem, u0, u1]) rfl ?_
        have HBF := below_put HB7.out (B := W.heap.size + 1 + 1 + 1) (by omega) (.int .i64 0) (.slice none 0 0)
        have HRU : ∀ W', RMg size (mR T) (mC T) W.heap.size 0 (.slice none 0 0) (.slice none 0 0) 5 W' := fun W' => .inl ⟨by rw [← HLN2.out]; exact q1, rfl, rfl, rfl, rfl⟩
        first
        | exact ⟨0, _, _, 5, rfl, HRU _, HB7.out⟩
        | exact ⟨0, _, _, 5, rfl, HRU _, HBF⟩
      · have d0 := HR7.out.c0; have d1 := HR7.out.c1; have d2 := HR7.out.f0; have d3 := HR7.out.f1
        have k0 := HM7.out.c0; have k1 := HM7.out.c1
        obtain ⟨u0, u1⟩ : _ ∧ _ := ⟨(HR7.out.put (.int .i64 s') (.slice ra ln rc)).c0, (HR7.out.put (.int .i64 s') (.slice ra ln rc)).c1⟩
        go_upto_region 24 with fail
        rw [← HW7'.out]
        go_wp2_with fail
        refine bodyPost_ret (v := .tuple #[.agg #[.int .i64 s', .slice ra ln rc], .slice ca cn cc, .int .i64 0]) (by simp [results, Try.results37, go_sem, u0, u1]) rfl ?_
        have HBF := below_put HB7.out (B := W.heap.size + 1 + 1 + 1) (by omega) (.int .i64 s') (.slice ra ln rc)
        have hge := HGE.out
        have HIF := ((HI7.out.set ⟨W.heap.size + 1 + 1 + 1, 0, none⟩ hge (.int .i64 s')).set ⟨W.heap.size + 1 + 1 + 1, 1, none⟩ hge (.slice ra ln rc)).mono (base' := W.heap.size) (by omega)
        have HCF := RowC.mono (RowC.set (RowC.set HC7.out ⟨W.heap.size + 1 + 1 + 1, 0, none⟩ hge (.int .i64 s')) ⟨W.heap.size + 1 + 1 + 1, 1, none⟩ hge (.slice ra ln rc)) (b2 := W.heap.size) (by omega)
        exact ⟨s', _, _, 0, rfl, .inr ⟨by rw [← HLN2.out]; exact q1, rfl, HIF, HCF, rfl⟩, HBF⟩
end Go.Proofs.Ytahgfggcpmnnaaa
namespace Go.Proofs.Ytahgfggcpmnnaaa
open Go Go.RowKit Gs

/-- the boxes of Merge's three maps and of its result -/
structure Mhs (W : World) (n : Nat) (p q r : Option Addr) (size : Int) : Prop where
  m0 : Mh W n p size
  m1 : Mh W (n + 1) q size
  m2 : Mh W (n + 1 + 1) r size
  m3 : Mh W (n + 1 + 1 + 1) none 0
theorem Mhs.next {W W' : World} {n : Nat} {p q r : Option Addr} {size : Int} (h : Mhs W n p q r size) (hk : ∀ k, k < W.heap.size → n ≤ k → k ≤ n + 3 → W'.heap[k]? = W.heap[k]?) : Mhs W' n p q r size :=
  ⟨(hk _ h.m0.lt (by omega) (by omega)).trans h.m0, (hk _ h.m1.lt (by omega) (by omega)).trans h.m1, (hk _ h.m2.lt (by omega) (by omega)).trans h.m2, (hk _ h.m3.lt (by omega) (by omega)).trans h.m3⟩
/-- the loops' state: the two lists in their boxes, the maps' boxes, the boxes of the loops' runs -/
structure Mst (n B C : Nat) (p q r : Option Addr) (size : Int) (bs : List (Nat × R)) (T : List M3) (v u : Value) (W : World) : Prop where
  two : Two n B C v u (mR T) (mC T) W
  maps : Mhs W n p q r size
  rbs : ∀ b ∈ bs, Rb W b.1 b.2 ∧ C < b.1
  ap : ∀ b ∈ bs, v.ownBlock ≠ some b.1
  hB : n + 3 < B
  hC : B < C
section
variable {n B C : Nat} {p q r : Option Addr} {size : Int} {bs : List (Nat × R)} {T : List M3} {v u : Value} {W W' : World}
theorem Mst.next (h : Mst n B C p q r size bs T v u W) (hb : Below W.heap.size W W') : Mst n B C p q r size bs T v u W' :=
  ⟨h.two.next hb, h.maps.next fun k hk _ _ => hb.block k hk, fun b hm => ⟨(hb.block _ (h.rbs b hm).1.lt).trans (h.rbs b hm).1, (h.rbs b hm).2⟩, h.ap, h.hB, h.hC⟩
theorem Mst.alloc (h : Mst n B C p q r size bs T v u W) (o : Obj) : Mst n B C p q r size bs T v u (W.alloc o) := h.next ((Below.refl _ _).alloc (Nat.le_refl _) _)
theorem Mst.box (h : Mst n B C p q r size bs T v u W) (y : R) : Mst n B C p q r size ((W.heap.size, y) :: bs) T v u (W.alloc (.cells #[.int .i64 y.lo, .int .i64 y.hi, .int .i64 y.tag] 64)) := by
  have h2 := h.alloc (.cells #[.int .i64 y.lo, .int .i64 y.hi, .int .i64 y.tag] 64)
  refine ⟨h2.two, h2.maps, fun b hm => ?_, fun b hm => ?_, h.hB, h.hC⟩
  · rcases List.mem_cons.1 hm with e | e
    · subst e
      exact ⟨Rb.new W y, h.two.bu.lt⟩
    · exact h2.rbs b e
  · rcases List.mem_cons.1 hm with e | e
    · subst e
      intro e'
      exact Nat.lt_irrefl _ (own_lt h.two.rv _ e')
    · exact h.ap b e
theorem Mst.pop {b : Nat × R} (h : Mst n B C p q r size (b :: bs) T v u W) : Mst n B C p q r size bs T v u W :=
  ⟨h.two, h.maps, fun x hx => h.rbs x (List.mem_cons_of_mem _ hx), fun x hx => h.ap x (List.mem_cons_of_mem _ hx), h.hB, h.hC⟩
theorem Mst.own : Own (fun (_ : Unit) W => ∃ v u, Mst n B C p q r size bs T v u W) := fun s X Y row hs hg hrow => by
  obtain ⟨v, u, h⟩ := hs
  have hc : ∀ k o, X.heap[k]? = some o → o.isCells = true → some k ≠ row := fun k o ho hc e' => by
    obtain ⟨o', ho', hc'⟩ := hrow k e'.symm
    rw [ho] at ho'; cases ho'
    rw [hc] at hc'; cases hc'
  exact ⟨v, u, Two.own () X Y row h.two hg hrow, ⟨h.maps.m0.kept hg (hc _ _ h.maps.m0 rfl), h.maps.m1.kept hg (hc _ _ h.maps.m1 rfl), h.maps.m2.kept hg (hc _ _ h.maps.m2 rfl), h.maps.m3.kept hg (hc _ _ h.maps.m3 rfl)⟩,
    fun b hb => ⟨(h.rbs b hb).1.kept hg (hc _ _ (h.rbs b hb).1 rfl), (h.rbs b hb).2⟩, h.ap, h.hB, h.hC⟩
/-- behind addRun and the store of its list -/
theorem Mst.run {v' : Value} {w' : World} {L' : List R} (h : Mst n B C p q r size bs T v u W) (hj : JP W n v L' v' w') :
    Boxed w' B 31 v ∧ Two n B C v' u L' (mC T) (w'.setCell ⟨B, 0, none⟩ v') ∧ Mhs (w'.setCell ⟨B, 0, none⟩ v') n p q r size ∧ (∀ b ∈ bs, Rb (w'.setCell ⟨B, 0, none⟩ v') b.1 b.2 ∧ v'.ownBlock ≠ some b.1) ∧ Below n W (w'.setCell ⟨B, 0, none⟩ v') ∧ KeepsOthers W (w'.setCell ⟨B, 0, none⟩ v') := by
  have hB := h.hB; have hC := h.hC
  obtain ⟨k1, k2, k3, k4, k5, k6⟩ := h.two.run hj (by omega) (by omega)
  refine ⟨k1, k2, ?_, fun b hb => ⟨?_, fun e => ?_⟩, k3, k4⟩
  · exact ⟨(k6 _ h.maps.m0.lt (ne_row h.maps.m0 (by decide) h.two.rv) (by omega)).trans h.maps.m0, (k6 _ h.maps.m1.lt (ne_row h.maps.m1 (by decide) h.two.rv) (by omega)).trans h.maps.m1, (k6 _ h.maps.m2.lt (ne_row h.maps.m2 (by decide) h.two.rv) (by omega)).trans h.maps.m2, (k6 _ h.maps.m3.lt (ne_row h.maps.m3 (by decide) h.two.rv) (by omega)).trans h.maps.m3⟩
  · have hr := h.rbs b hb
    exact (k6 _ hr.1.lt (fun e => h.ap b hb e.symm) (by have := hr.2; omega)).trans hr.1
  · rcases hj.at' _ e with e2 | e2
    · exact h.ap b hb e2
    · have := (h.rbs b hb).1.lt
      omega
/-- behind addChange and the store of its list -/
theorem Two.last {u' : Value} {w' : World} {L : List R} {K K' : List Ch} (h : Two n B C v u L K W) (hm : Mhs W n p q r size) (hr : ∀ b ∈ bs, Rb W b.1 b.2 ∧ C < b.1) (hB : n + 3 < B) (hC : B < C) (hj : JC W n u K' u' w') :
    Boxed w' C 66 u ∧ Two n B C v u' L K' (w'.setCell ⟨C, 0, none⟩ u') ∧ Mhs (w'.setCell ⟨C, 0, none⟩ u') n p q r size ∧ (∀ b ∈ bs, Rb (w'.setCell ⟨C, 0, none⟩ u') b.1 b.2) ∧ Below n W (w'.setCell ⟨C, 0, none⟩ u') ∧ KeepsOthers W (w'.setCell ⟨C, 0, none⟩ u') := by
  obtain ⟨k1, k2, k3, k4, k5, k6⟩ := h.change hj (by omega) (by omega)
  refine ⟨k1, k2, ?_, fun b hb => ?_, k3, k4⟩
  · exact ⟨(k6 _ hm.m0.lt (ne_row hm.m0 (by decide) h.ru) (by omega)).trans hm.m0, (k6 _ hm.m1.lt (ne_row hm.m1 (by decide) h.ru) (by omega)).trans hm.m1, (k6 _ hm.m2.lt (ne_row hm.m2 (by decide) h.ru) (by omega)).trans hm.m2, (k6 _ hm.m3.lt (ne_row hm.m3 (by decide) h.ru) (by omega)).trans hm.m3⟩
  · have h1 := hr b hb
    exact (k6 _ h1.1.lt (ne_row h1.1 (by decide) h.ru) (by have := h1.2; omega)).trans h1.1
end
theorem Mh.mb {W : World} {B : Nat} {p : Option Addr} {size : Int} (h : Mh W B p size) : Mb B p size W := by
  have h' : W.heap[B]? = _ := h
  exact ⟨h.cell, by simp [World.cell?, h'], by simp [World.frozen?, h'], by simp [World.frozen?, h'], by simp [World.cell?, h'], h.lt⟩
/-- the box of a loop's run, which is not the runs' own row -/
def Bx1 (B C Bo : Nat) (x : R) (W : World) : Prop := C < Bo ∧ Rb W Bo x ∧ ∃ v, Boxed W B 31 v ∧ v.ownBlock ≠ some Bo
theorem Bx1.own {B C Bo : Nat} {x : R} : Own (fun (_ : Unit) W => Bx1 B C Bo x W) := fun s X Y row hs hg hrow => by
  obtain ⟨h1, h2, v, h3, h4⟩ := hs
  exact ⟨h1, Rb.own Bo x () X Y row h2 hg hrow, v, boxed_own B 31 (fun _ : Unit => v) () X Y row h3 hg hrow, h4⟩
theorem boxed_val {W : World} {B : Nat} {t : TypeId} {v v' : Value} (h : Boxed W B t v) (h' : Boxed W B t v') : v = v' := by
  have h1 : W.heap[B]? = _ := h
  have h2 : W.heap[B]? = _ := h'
  rw [h1] at h2
  simpa using h2
theorem Mst.and {n B C : Nat} {p q r : Option Addr} {size : Int} {bs : List (Nat × R)} {T : List M3} {v u : Value} {W : World} {Bo : Nat} {x : R} (h : Mst n B C p q r size bs T v u W) (hx : Bx1 B C Bo x W) : Mst n B C p q r size ((Bo, x) :: bs) T v u W := by
  obtain ⟨h1, h2, v', h3, h4⟩ := hx
  have := boxed_val h3 h.two.bv
  subst this
  refine ⟨h.two, h.maps, fun b hm => ?_, fun b hm => ?_, h.hB, h.hC⟩
  · rcases List.mem_cons.1 hm with e | e
    · subst e; exact ⟨h2, h1⟩
    · exact h.rbs b e
  · rcases List.mem_cons.1 hm with e | e
    · subst e; exact h4
    · exact h.ap b e
theorem Mst.un {n B C : Nat} {p q r : Option Addr} {size : Int} {bs : List (Nat × R)} {T : List M3} {v u : Value} {W : World} {Bo : Nat} {x : R} (h : Mst n B C p q r size ((Bo, x) :: bs) T v u W) : Bx1 B C Bo x W :=
  ⟨(h.rbs _ (List.mem_cons_self ..)).2, (h.rbs _ (List.mem_cons_self ..)).1, v, h.two.bv, h.ap _ (List.mem_cons_self ..)⟩
theorem keeps_below {W W' : World} (h : Below W.heap.size W W') : KeepsOthers W W' := ⟨h.size, fun k _ hk _ => (h.block k (Array.getElem?_eq_some_iff.1 hk).1).trans hk⟩
theorem KeepsFrom.up {B B' : Nat} {W W' : World} (h : KeepsFrom B W W') (hb : B ≤ B') : KeepsFrom B' W W' := ⟨h.size, fun k o hB hk ho => h.same k o (Nat.le_trans hb hB) hk ho⟩
theorem four_maps (W : World) (p q r : Option Addr) (size : Int) (o : Obj) : Mhs (((((W.alloc (.cells #[.pointer p, .int .i64 size] 27)).alloc (.cells #[.pointer q, .int .i64 size] 27)).alloc (.cells #[.pointer r, .int .i64 size] 27)).alloc (.cells #[.pointer none, .int .i64 0] 27)).alloc o) W.heap.size p q r size := by
  have e : ∀ (w : World) (p : Option Addr) (s : Int), Mh (w.alloc (.cells #[.pointer p, .int .i64 s] 27)) w.heap.size p s := fun w p s => World.alloc_heap_new w _
  refine ⟨((((e W p size).alloc _).alloc _).alloc _).alloc _, ?_, ?_, ?_⟩
  · have := ((((e (W.alloc (.cells #[.pointer p, .int .i64 size] 27)) q size).alloc (.cells #[.pointer r, .int .i64 size] 27)).alloc (.cells #[.pointer none, .int .i64 0] 27)).alloc o)
    rwa [World.size_alloc] at this
  · have := (((e ((W.alloc (.cells #[.pointer p, .int .i64 size] 27)).alloc (.cells #[.pointer q, .int .i64 size] 27)) r size).alloc (.cells #[.pointer none, .int .i64 0] 27)).alloc o)
    rwa [World.size_alloc, World.size_alloc] at this
  · have := ((e (((W.alloc (.cells #[.pointer p, .int .i64 size] 27)).alloc (.cells #[.pointer q, .int .i64 size] 27)).alloc (.cells #[.pointer r, .int .i64 size] 27)) none 0).alloc o)
    rwa [World.size_alloc, World.size_alloc, World.size_alloc] at this
end Go.Proofs.Ytahgfggcpmnnaaa
namespace Go.Proofs.Ytahgfggcpmnnaaa
open Go Go.RowKit Gs

/-- a list of runs lies at a slice, wherever that begins -/
def IsRo (W : World) (v : Value) (l : List R) : Prop :=
  ∃ ao c, v = .slice ao l.length c ∧ l.length ≤ c ∧ (0 < l.length → ∃ B o, ao = some ⟨B, o, none⟩ ∧ B < W.heap.size ∧ ∀ j (h : j < l.length),
    W.cell? ⟨B, o + j * 3, none⟩ = some (.int .i64 l[j].lo) ∧ W.cell? ⟨B, o + j * 3 + 1, none⟩ = some (.int .i64 l[j].hi) ∧ W.cell? ⟨B, o + j * 3 + 2, none⟩ = some (.int .i64 l[j].tag))
theorem IsRo.below {W W' : World} {v : Value} {l : List R} (h : IsRo W v l) (hb : Below W.heap.size W W') : IsRo W' v l := by
  obtain ⟨ao, c, hv, hc, h⟩ := h
  refine ⟨ao, c, hv, hc, fun hp => ?_⟩
  obtain ⟨B, o, e, hB, hc⟩ := h hp
  refine ⟨B, o, e, Nat.lt_of_lt_of_le hB hb.size, fun j hj => ?_⟩
  obtain ⟨h0, h1, h2⟩ := hc j hj
  exact ⟨(hb.cell (p := ⟨B, _, none⟩) hB).trans h0, (hb.cell (p := ⟨B, _, none⟩) hB).trans h1, (hb.cell (p := ⟨B, _, none⟩) hB).trans h2⟩
/-- a tree of these runs -/
def TrOf (L : List R) (W : World) (p : Option Addr) : Prop := ∃ t : T, t.L = L ∧ IsT W t (.pointer p)
theorem TrOf.below {L : List R} {W W' : World} {p : Option Addr} (h : TrOf L W p) (hb : Below W.heap.size W W') : TrOf L W' p := by
  obtain ⟨t, h1, h2⟩ := h
  exact ⟨t, h1, IsT.below hb h2⟩
set_option maxHeartbeats 2000000 in
theorem build_any : ∀ (n : Nat) (l : List R) (a : Option Addr) (c : Nat) (W : World), l.length = n → n ≤ c → IsRo W (.slice a n c) l → Bd l →
    Calls Try.prog 56 #[.slice a n c] W fun e w' => ∃ p, e = .returned (.pointer p) ∧ Hid (TrOf l w' p) ∧ Below W.heap.size W w' := by
  intro n
  induction n using Nat.strongRecOn with
  | _ n ih =>
    intro l a c W hn hc hro hbd
    by_cases h0 : n = 0
    · subst h0
      refine (build_empty a c W).mono ?_
      rintro e w' ⟨rfl, rfl⟩
      exact ⟨none, rfl, ⟨.nil, (List.eq_nil_of_length_eq_zero hn).symm, rfl⟩, Below.refl _ _⟩
    · obtain ⟨_, _, hv, _, hcs⟩ := hro
      injection hv with hv1 hv2 hv3
      subst hv1
      obtain ⟨B, o, rfl, hB, hcs⟩ := hcs (by omega)
      obtain ⟨md, hmd⟩ : ∃ md, md = n / 2 := ⟨_, rfl⟩
      have hml : md < l.length := by omega
      obtain ⟨L1, hL1⟩ : ∃ L1, L1 = l.take md := ⟨_, rfl⟩
      obtain ⟨L2, hL2⟩ : ∃ L2, L2 = l.drop (md + 1) := ⟨_, rfl⟩
      obtain ⟨⟨rlo, rhi, rtag⟩, hr⟩ : ∃ r, r = l[md] := ⟨_, rfl⟩
      have hsp : l = L1 ++ ⟨rlo, rhi, rtag⟩ :: L2 := by rw [hL1, hL2, hr, ← List.drop_eq_getElem_cons hml, List.take_append_drop]
      have HSP := Lib.hid hsp
      have HBD := Lib.hid hbd
      have hlen : l.length ≤ 100000 := hbd.1
      have hl1 : L1.length = md := by rw [hL1, List.length_take]; omega
      have hl2 : L2.length = n - (md + 1) := by rw [hL2, List.length_drop]; omega
      have HC : Hid (∀ W', Below W.heap.size W W' → W'.cell? ⟨B, o + md * 3, none⟩ = some (.int .i64 rlo) ∧ W'.cell? ⟨B, o + md * 3 + 1, none⟩ = some (.int .i64 rhi) ∧ W'.cell? ⟨B, o + md * 3 + 2, none⟩ = some (.int .i64 rtag)) := fun W' hW => by
        obtain ⟨c0, c1, c2⟩ := hcs md hml
        rw [← hr] at c0 c1 c2
        exact ⟨(hW.cell (p := ⟨B, _, none⟩) hB).trans c0, (hW.cell (p := ⟨B, _, none⟩) hB).trans c1, (hW.cell (p := ⟨B, _, none⟩) hB).trans c2⟩
      have HL : Hid (∀ W', Below W.heap.size W W' → Calls Try.prog 56 #[.slice (some ⟨B, o, none⟩) md c] W' fun e w' => ∃ p, e = .returned (.pointer p) ∧ Hid (TrOf L1 w' p) ∧ Below W'.heap.size W' w' ∧ Below W.heap.size W w') := fun W' hW => (ih md (by omega) L1 _ c W' hl1 (by omega) (IsRo.below ⟨_, c, by rw [hl1], by omega, fun _ => ⟨B, o, rfl, hB, fun j hj => by
          have hj2 : j < l.length := by omega
          have e : L1[j] = l[j] := by subst hL1; rw [List.getElem_take]
          rw [e]
          exact hcs j hj2⟩⟩ hW) ⟨by omega, fun r hr => hbd.2 r (by rw [hsp]; simp [hr])⟩).mono fun e w' ⟨p, he, ht, hb⟩ => ⟨p, he, ht, hb, hW.trans (hb.mono hW.size)⟩
      obtain ⟨rp, hrp⟩ : ∃ rp : Option Addr, rp = if c = md + 1 then some ⟨B, o, none⟩ else some ⟨B, o + (md + 1) * 3, none⟩ := ⟨_, rfl⟩
      have HR : Hid (∀ W', Below W.heap.size W W' → Calls Try.prog 56 #[.slice rp (n - (md + 1)) (c - (md + 1))] W' fun e w' => ∃ p, e = .returned (.pointer p) ∧ Hid (TrOf L2 w' p) ∧ Below W'.heap.size W' w' ∧ Below W.heap.size W w') := fun W' hW => (ih (n - (md + 1)) (by omega) L2 _ (c - (md + 1)) W' hl2 (by omega) (IsRo.below ⟨_, c - (md + 1), by rw [hl2], by omega, fun hz => ⟨B, o + (md + 1) * 3, by rw [hrp, if_neg (by omega)], hB, fun j hj => by
          have hj2 : md + 1 + j < l.length := by omega
          have e : L2[j] = l[md + 1 + j] := by subst hL2; rw [List.getElem_drop]
          rw [e]
          have := hcs (md + 1 + j) hj2
          rw [show o + (md + 1) * 3 + j * 3 = o + (md + 1 + j) * 3 by omega]
          exact this⟩⟩ hW) ⟨by omega, fun r hr => hbd.2 r (by rw [hsp]; simp [hr])⟩).mono fun e w' ⟨p, he, ht, hb⟩ => ⟨p, he, ht, hb, hW.trans (hb.mono hW.size)⟩
      have HNN : Hid (∀ W' p1 p2, Below W.heap.size W W' → Hid (TrOf L1 W' p1) → Hid (TrOf L2 W' p2) → Calls Try.prog 74 #[.pointer p1, .agg #[.int .i64 rlo, .int .i64 rhi, .int .i64 rtag], .pointer p2] W' fun e w' => ∃ g, e = .returned (.pointer (some ⟨g, 0, none⟩)) ∧ Hid (TrOf l w' (some ⟨g, 0, none⟩)) ∧ Below W.heap.size W w') := fun W' p1 p2 hW h1 h2 => by
        obtain ⟨t1, e1, i1⟩ := h1.out
        obtain ⟨t2, e2, i2⟩ := h2.out
        refine (newNode_any t1 t2 rlo rhi rtag _ _ W' i1 i2 (by rw [e1, e2, ← HSP.out]; exact HBD.out)).mono ?_
        rintro e w' ⟨g, rfl, hi, hb⟩
        exact ⟨g, rfl, ⟨_, by show t1.L ++ ⟨rlo, rhi, rtag⟩ :: t2.L = l; rw [e1, e2]; exact HSP.out.symm, hi⟩, hW.trans (hb.mono hW.size)⟩
      have HTB : Hid (∀ L W' W'' p, Hid (TrOf L W' p) → Below W'.heap.size W' W'' → Hid (TrOf L W'' p)) := fun L W' W'' p h hb => h.out.below hb
      have hrp2 := hrp.symm
      clear hrp
      have hq : (n : Int).tdiv 2 = (md : Int) := by rw [hmd]; exact Int.ofNat_tdiv n 2 |>.symm ▸ rfl
      have hq2 : (n : Int) / 2 = (md : Int) := by omega
      have hw0 : IntKind.i64.wrap (md : Int) = (md : Int) := IntWalk.i64_in _ (by omega)
      have hw1 : IntKind.i64.wrap ((md : Int) + 1) = (md : Int) + 1 := IntWalk.i64_in _ (by omega)
      have hp0 : (0 : Int) ≤ (md : Int) := by omega
      have hp1 : (md : Int) ≤ (c : Int) := by omega
      have hp2 : (md : Int) < (n : Int) := by omega
      have hp3 : (0 : Int) ≤ (md : Int) + 1 := by omega
      have hp4 : (md : Int) + 1 ≤ (n : Int) := by omega
      have hp5 : (n : Int) ≤ (c : Int) := by omega
      have hnz : ((n : Int) == 0) = false := beq_eq_false_iff_ne.2 (by omega)
      have hs : Below W.heap.size W W := Below.refl _ _
      have hs2 := hs.drew
      have hcl := HC.out _ hs2
      have hc0 := HC.out _ hs
      clear hcs hmd hml hL1 hL2 hr hsp hbd hlen hl1 hl2 ih hn hv2 hv3 h0
      go_enter Try.func56, Try.ntmps56
      go_wp2_with fail
      go_region_held3 (fun W' : World => W'.cell? ⟨B, o + md * 3, none⟩ = some (.int .i64 rlo) ∧ W'.cell? ⟨B, o + md * 3 + 1, none⟩ = some (.int .i64 rhi) ∧ W'.cell? ⟨B, o + md * 3 + 2, none⟩ = some (.int .i64 rtag)) (first | assumption | fail) (first
        | (go_at_call 56; with_reducible refine (HL.out _ ?h).mono ?_; (case h => assumption); rintro e w' ⟨p1, rfl, ht1, hb1, hs1'⟩; have hc1' := HC.out _ hs1')
        | (go_at_call 56; with_reducible refine (HR.out _ ?h).mono ?_; (case h => assumption); rintro e w' ⟨p2, rfl, ht2, hb2, hs2'⟩; have hc2' := HC.out _ hs2')
        | (go_at_call 74; with_reducible refine (HNN.out _ _ _ ?h ?r1 ?r2).mono ?_; (case h => assumption); (case r1 => (first | assumption | exact HTB.out _ _ _ _ ht1 hb2 | fail)); (case r2 => (first | assumption | exact HTB.out _ _ _ _ ht2 hb1 | fail)); rintro e w' ⟨g, rfl, hgt, hs3'⟩; have hc3' := HC.out _ hs3') | fail)
      all_goals
        have HBF := Lib.hid hs3'
        go_wp2_with fail
        go_ret
        exact ⟨_, rfl, hgt, HBF.out⟩
end Go.Proofs.Ytahgfggcpmnnaaa
