/- A change of a map: the contracts of change and Apply. -/
import Derived.Test.YtahgfggcpmnnaabQl
import Derived.Test.YtahgfggcpmnnaabYk
import Derived.Test.YtahgfggcpmnnaabYx
namespace Go.Proofs.Ytahgfggcpmnnaab
open Go Go.RowKit Gs

structure Ch where
  lo : Int
  hi : Int
  fr : Int
  tt : Int
deriving DecidableEq
/-- a list of changes lies at a slice -/
def IsCs (W : World) (v : Value) (l : List Ch) : Prop :=
  ∃ ao c, v = .slice ao l.length c ∧ (0 < l.length → ∃ B o, ao = some ⟨B, o, none⟩ ∧ B < W.heap.size ∧ ∀ j (h : j < l.length),
    W.cell? ⟨B, o + j * 4, none⟩ = some (.int .i64 l[j].lo) ∧ W.cell? ⟨B, o + j * 4 + 1, none⟩ = some (.int .i64 l[j].hi) ∧ W.cell? ⟨B, o + j * 4 + 2, none⟩ = some (.int .i64 l[j].fr) ∧ W.cell? ⟨B, o + j * 4 + 3, none⟩ = some (.int .i64 l[j].tt))
theorem IsCs.below {W W' : World} {v : Value} {l : List Ch} (h : IsCs W v l) (hb : Below W.heap.size W W') : IsCs W' v l := by
  obtain ⟨ao, c, hv, h⟩ := h
  refine ⟨ao, c, hv, fun hp => ?_⟩
  obtain ⟨B, o, e, hB, hc⟩ := h hp
  refine ⟨B, o, e, Nat.lt_of_lt_of_le hB hb.size, fun j hj => ?_⟩
  obtain ⟨h0, h1, h2, h3⟩ := hc j hj
  exact ⟨(hb.cell (p := ⟨B, _, none⟩) hB).trans h0, (hb.cell (p := ⟨B, _, none⟩) hB).trans h1, (hb.cell (p := ⟨B, _, none⟩) hB).trans h2, (hb.cell (p := ⟨B, _, none⟩) hB).trans h3⟩
theorem IsCs.at' {W : World} {a : Option Addr} {n c : Nat} {l : List Ch} (h : IsCs W (.slice a n c) l) {j : Nat} (hj : j < l.length) :
    ∃ B o, a = some ⟨B, o, none⟩ ∧ W.cell? ⟨B, o + j * 4, none⟩ = some (.int .i64 l[j].lo) ∧ W.cell? ⟨B, o + j * 4 + 1, none⟩ = some (.int .i64 l[j].hi) ∧ W.cell? ⟨B, o + j * 4 + 2, none⟩ = some (.int .i64 l[j].fr) ∧ W.cell? ⟨B, o + j * 4 + 3, none⟩ = some (.int .i64 l[j].tt) := by
  obtain ⟨a', c', hv, hcs⟩ := h
  injection hv with hv1 hv2 hv3
  subst hv1
  obtain ⟨B, o, e1, -, hcs2⟩ := hcs (by omega)
  exact ⟨B, o, e1, hcs2 j hj⟩
open Classical in
/-- what is wrong with a change -/
noncomputable def chE (size : Int) (f : Int → Int) (c : Ch) : Int :=
  if ¬ (0 ≤ c.lo ∧ c.lo < c.hi ∧ c.hi ≤ size) then 3 else if isT c.fr = true ∧ isT c.tt = true then (if ∀ x, c.lo ≤ x → x < c.hi → f x = c.fr then 0 else 30) else 2
/-- the boxes of change -/
theorem boxes_ch (W : World) (x0 x1 : Value) (zs : List Value) (hz : zs.length ≤ 22) (T1 T3 : TypeId) : ∃ w0, w0 = ((W.alloc (.cells #[x0, x1] T1)).alloc (.cells zs.toArray T3)).alloc (.cells #[.pointer none, .int .i64 0] T1) ∧
    Bx W.heap.size [x0, x1] w0 ∧ Bx (W.heap.size + 1) zs w0 ∧ Bx (W.heap.size + 1 + 1) [.pointer none, .int .i64 0] w0 ∧ Below W.heap.size W w0 ∧ w0.heap.size = W.heap.size + 3 := by
  obtain ⟨w1, e1⟩ : ∃ w1, w1 = W.alloc (.cells #[x0, x1] T1) := ⟨_, rfl⟩
  obtain ⟨w2, e2⟩ : ∃ w2, w2 = w1.alloc (.cells zs.toArray T3) := ⟨_, rfl⟩
  obtain ⟨w3, e3⟩ : ∃ w3, w3 = w2.alloc (.cells #[.pointer none, .int .i64 0] T1) := ⟨_, rfl⟩
  have s1 : w1.heap.size = W.heap.size + 1 := by rw [e1]; simp
  have s2 : w2.heap.size = W.heap.size + 1 + 1 := by rw [e2]; simp [s1]
  have s3 : w3.heap.size = W.heap.size + 1 + 1 + 1 := by rw [e3]; simp [s2]
  have a1 : Below W.heap.size W w1 := by rw [e1]; exact alloc_below _ _
  have a2 : Below w1.heap.size w1 w2 := by rw [e2]; exact alloc_below _ _
  have a3 : Below w2.heap.size w2 w3 := by rw [e3]; exact alloc_below _ _
  have n1 : Bx W.heap.size [x0, x1] w1 := by rw [e1]; exact Bx.new W [x0, x1] T1 (by simp)
  have n2 : Bx w1.heap.size zs w2 := by rw [e2]; exact Bx.new w1 zs T3 hz
  have n3 : Bx w2.heap.size [.pointer none, .int .i64 0] w3 := by rw [e3]; exact Bx.new w2 [.pointer none, .int .i64 0] T1 (by simp)
  rw [s1] at n2; rw [s2] at n3
  have a23 := a2.trans (a3.mono a2.size)
  rw [← e1, ← e2, ← e3]
  exact ⟨w3, rfl, n1.next a23, n2.next a3, n3, a1.trans (a23.mono a1.size), s3⟩
set_option maxRecDepth 100000 in
set_option maxHeartbeats 4000000 in
theorem change_any {f : Int → Int} {size : Int} {W : World} {p : Option Addr} (h : IsM f size W p) (lo hi fr tt : Int) :
    Calls Try.prog 44 #[.agg #[.pointer p, .int .i64 size], .agg #[.int .i64 lo, .int .i64 hi, .int .i64 fr, .int .i64 tt]] W fun e w' => ∃ q s e2, e = .returned (.tuple #[.agg #[.pointer q, .int .i64 s], .int .i64 e2]) ∧ Hid (Upd f (put f lo hi tt) size (chE size f ⟨lo, hi, fr, tt⟩) q s e2 w') ∧ Below W.heap.size W w' := by
  obtain ⟨w0, HW, n1, n2, n3, hb, hs0⟩ := boxes_ch W (.pointer p) (.int .i64 size) [.int .i64 lo, .int .i64 hi, .int .i64 fr, .int .i64 tt] (by simp) 27 59
  have H1 := Lib.hid n1; have H2 := Lib.hid n2; have H3 := Lib.hid n3; have HB := Lib.hid hb; have HS0 := Lib.hid hs0; have HW' := Lib.hid HW
  have c0 := (n2.c 0 _ rfl).1; have c1 := (n2.c 1 _ rfl).1; have c2 := (n2.c 2 _ rfl).1; have c3 := (n2.c 3 _ rfl).1
  have HBF : Hid (∀ W' x y, Below W.heap.size W W' → Below W.heap.size W ((W'.setCell ⟨W.heap.size + 1 + 1, 0, none⟩ x).setCell ⟨W.heap.size + 1 + 1, 1, none⟩ y)) := fun W' x y h => below_put h (by omega) _ _
  by_cases he : lo = hi
  · subst he
    have HE : Hid (chE size f ⟨lo, lo, fr, tt⟩ = 3) := by show chE _ _ _ = 3; unfold chE; rw [if_pos (by simp)]
    obtain ⟨x0, x1, x2, x3⟩ := n3.c2
    obtain ⟨u0, u1, -, -⟩ := (n3.two (.pointer none) (.int .i64 0)).c2
    clear n1 n2 n3 hb hs0 HW h
    go_enter Try.func44, Try.ntmps44
    go_upto_region 1 with fail
    rw [← HW'.out]
    go_wp2_with fail
    refine bodyPost_ret (v := .tuple #[.agg #[.pointer none, .int .i64 0], .int .i64 3]) (by simp [results, Try.results44, go_sem, u0, u1]) rfl ?_
    have HU : ∀ W', Upd f (put f lo lo tt) size (chE size f ⟨lo, lo, fr, tt⟩) none 0 3 W' := fun W' => .inl ⟨by rw [HE.out]; decide, HE.out.symm, rfl, rfl⟩
    first
    | exact ⟨none, 0, 3, rfl, HU _, HB.out⟩
    | exact ⟨none, 0, 3, rfl, HU _, HBF.out _ _ _ HB.out⟩
  · obtain ⟨b, rfl⟩ := h.some
    have hlb : (lo == hi) = false := beq_eq_false_iff_ne.2 he
    obtain ⟨w1, HW1⟩ : ∃ w1, w1 = w0.alloc (.cells #[.int .i64 fr, .int .i64 tt] 3) := ⟨_, rfl⟩
    have b1 : Below w0.heap.size w0 w1 := by rw [HW1]; exact alloc_below _ _
    have hck : Calls Try.prog 31 #[.agg #[.pointer (some ⟨b, 0, none⟩), .int .i64 size], .int .i64 lo, .int .i64 hi, .slice (some ⟨w0.heap.size, 0, none⟩) 2 2] w1 fun e w' => e = .returned (.int .i64 (errOf size lo hi [fr, tt])) ∧ Below w1.heap.size w1 w' :=
      check_any b w0.heap.size 2 size lo hi [fr, tt] w1 (by rw [HW1]; simp) (fun i hi => by
        have : i = 0 ∨ i = 1 := by simp at hi; omega
        rw [HW1]
        rcases this with rfl | rfl
        · exact World.cell?_alloc_at _ _ _ _ rfl
        · exact World.cell?_alloc_at _ _ _ _ rfl) (by simp)
    have G1 := Lib.hid (n1.next b1); have G2 := Lib.hid (n2.next b1); have G3 := Lib.hid (n3.next b1)
    have HB1 := Lib.hid (hb.trans (b1.mono hb.size))
    have HW1' := Lib.hid HW1
    obtain ⟨m0, m1, -, -⟩ := n1.c2
    by_cases her : errOf size lo hi [fr, tt] = 0
    · rw [her] at hck
      obtain ⟨r1, r2, r3, r4⟩ := errOf_zero her
      have r5 := r4 fr (by simp); have r6 := r4 tt (by simp)
      obtain ⟨t, t1, t2, t3⟩ := h.tr
      have HAT : Hid (∀ W', Below W.heap.size W W' → Calls Try.prog 30 #[.pointer (some ⟨b, 0, none⟩), .int .i64 lo] W' fun e w' => ∃ rlo rhi rtag, e = .returned (.agg #[.int .i64 rlo, .int .i64 rhi, .int .i64 rtag]) ∧ Hid (∃ l k, t.L = l ++ ⟨rlo, rhi, rtag⟩ :: k ∧ rlo ≤ lo ∧ lo < rhi) ∧ Below W'.heap.size W' w') := fun W' hW => (at_any f 0 size t _ W' lo (IsT.below hW t1) t2 r1 (by omega)).mono fun e w' ⟨l, a1, a2, a3, k, he, hp, hB⟩ => ⟨a1, a2, a3, he, ⟨l, k, hp.out⟩, hB⟩
      have HCAN := Lib.hid t2
      have hst : errOf size lo hi [tt] = 0 := by unfold errOf; rw [if_neg (by omega)]; simp [isT, r6]
      have HST : Hid (∀ W', Below W.heap.size W W' → Calls Try.prog 14 #[.agg #[.pointer (some ⟨b, 0, none⟩), .int .i64 size], .int .i64 lo, .int .i64 hi, .int .i64 tt] W' fun e w' => ∃ q s e2, e = .returned (.tuple #[.agg #[.pointer q, .int .i64 s], .int .i64 e2]) ∧ Hid (Upd f (put f lo hi tt) size 0 q s e2 w') ∧ Below W'.heap.size W' w') := fun W' hW => by
        have := Set_any (h.below hW) (lo := lo) (hi := hi) (tag := tt)
        rw [hst] at this
        exact this
      have HCH : Hid (chE size f ⟨lo, hi, fr, tt⟩ = open Classical in if ∀ x, lo ≤ x → x < hi → f x = fr then 0 else 30) := by
        show chE _ _ _ = _
        unfold chE
        rw [if_neg (by simp; omega), if_pos ⟨decide_eq_true r5, decide_eq_true r6⟩]
      have HCK := Lib.hid hck
      have HLH : Hid (0 ≤ lo ∧ lo < hi ∧ hi ≤ size) := ⟨r1, by omega, r3⟩
      clear n1 n2 n3 hb hs0 HW h HW1 b1 hck her r1 r2 r3 r4 r5 r6 t1 t2 t3 hst he
      go_enter Try.func44, Try.ntmps44
      go_upto_region 1 with fail
      rw [← HW'.out]
      go_wp2_with fail
      rw [← HW1'.out]
      refine HCK.out.mono ?_
      rintro e w2 ⟨rfl, hb⟩
      have F1 := Lib.hid (G1.out.next hb); have F2 := Lib.hid (G2.out.next hb); have F3 := Lib.hid (G3.out.next hb)
      have HB2 := Lib.hid (HB1.out.trans (hb.mono HB1.out.size))
      clear hb m0 m1 c0 c1 c2 c3 G1 G2 G3 HB1
      obtain ⟨m0, m1, -, -⟩ := F1.out.c2
      have c0 := (F2.out.c 0 _ rfl).1; have c1 := (F2.out.c 1 _ rfl).1; have c2 := (F2.out.c 2 _ rfl).1; have c3 := (F2.out.c 3 _ rfl).1
      go_wp2_with fail
      refine (HAT.out _ HB2.out).mono ?_
      rintro e w3 ⟨rlo, rhi, rtag, rfl, HRN, hb⟩
      obtain ⟨w4, HW4⟩ : ∃ w4, w4 = w3.alloc (.cells #[.int .i64 rlo, .int .i64 rhi, .int .i64 rtag] 46) := ⟨_, rfl⟩
      have b4 : Below w3.heap.size w3 w4 := by rw [HW4]; exact alloc_below _ _
      have n4 : Bx w3.heap.size [.int .i64 rlo, .int .i64 rhi, .int .i64 rtag] w4 := by rw [HW4]; exact Bx.new w3 [.int .i64 rlo, .int .i64 rhi, .int .i64 rtag] 46 (by simp)
      have b34 := hb.trans (b4.mono hb.size)
      have K1 := Lib.hid (F1.out.next b34); have K2 := Lib.hid (F2.out.next b34); have K3 := Lib.hid (F3.out.next b34); have K4 := Lib.hid n4
      have HB4 := Lib.hid (HB2.out.trans (b34.mono HB2.out.size))
      have HW4' := Lib.hid HW4
      clear HW4 b4 n4 b34 hb m0 m1 c0 c1 c2 c3 F1 F2 F3 HB2
      go_upto_region 7 with fail
      rw [← HW4'.out]
      obtain ⟨m0, m1, -, -⟩ := K1.out.c2
      have c0 := (K2.out.c 0 _ rfl).1; have c1 := (K2.out.c 1 _ rfl).1; have c2 := (K2.out.c 2 _ rfl).1; have c3 := (K2.out.c 3 _ rfl).1
      have d1 := (K4.out.c 1 _ rfl).1; have d2 := (K4.out.c 2 _ rfl).1
      obtain ⟨x0, x1, x2, x3⟩ := K3.out.c2
      by_cases g1 : rtag = fr
      · have hbe : (rtag == fr) = true := by rw [g1]; exact beq_self_eq_true _
        by_cases g2 : rhi < hi
        · have HE : Hid (chE size f ⟨lo, hi, fr, tt⟩ = 30) := by
            obtain ⟨l, k, hL, q1, q2⟩ := HRN.out
            have hc := HCAN.out
            rw [hL] at hc
            obtain ⟨_, _, a3, a4, _, a6⟩ := hc.mid
            have e1 := a6 (by show rhi < size; have := HLH.out; omega)
            have e2 := a4 (rhi - 1) (by show rlo ≤ _; omega) (by show _ < rhi; omega)
            show chE _ _ _ = 30
            rw [HCH.out, if_neg]
            intro hall
            have e3 := hall rhi (by omega) g2
            have e1 : f (rhi - 1) ≠ f rhi := e1
            have e2 : f (rhi - 1) = rtag := e2
            exact e1 (by rw [e2, e3, g1])
          obtain ⟨u0, u1, -, -⟩ := (K3.out.two (.pointer none) (.int .i64 0)).c2
          clear hbe
          subst g1
          go_wp2_with fail
          refine bodyPost_ret (v := .tuple #[.agg #[.pointer none, .int .i64 0], .int .i64 30]) (by simp [results, Try.results44, go_sem, u0, u1]) rfl ?_
          have HU : ∀ W', Upd f (put f lo hi tt) size (chE size f ⟨lo, hi, rtag, tt⟩) none 0 30 W' := fun W' => .inl ⟨by rw [HE.out]; decide, HE.out.symm, rfl, rfl⟩
          first
          | exact ⟨none, 0, 30, rfl, HU _, HB4.out⟩
          | exact ⟨none, 0, 30, rfl, HU _, HBF.out _ _ _ HB4.out⟩
        · have HE : Hid (chE size f ⟨lo, hi, fr, tt⟩ = 0) := by
            obtain ⟨l, k, hL, q1, q2⟩ := HRN.out
            have hc := HCAN.out
            rw [hL] at hc
            obtain ⟨_, _, a3, a4, _, a6⟩ := hc.mid
            show chE _ _ _ = 0
            rw [HCH.out, if_pos]
            intro x x1 x2
            rw [← g1]
            exact a4 x (by show rlo ≤ x; omega) (by show x < rhi; omega)
          clear hbe
          subst g1
          go_wp2_with fail
          refine (HST.out _ HB4.out).mono ?_
          rintro e w5 ⟨q, s, e2, rfl, HU, hb⟩
          have K5 := Lib.hid (K3.out.next hb)
          have HB5 := Lib.hid (HB4.out.trans (hb.mono HB4.out.size))
          obtain ⟨y0, y1, y2, y3⟩ := K5.out.c2
          obtain ⟨u0, u1, -, -⟩ := (K5.out.two (.pointer q) (.int .i64 s)).c2
          have HUF : Hid (Upd f (put f lo hi tt) size (chE size f ⟨lo, hi, rtag, tt⟩) q s e2 ((w5.setCell ⟨W.heap.size + 1 + 1, 0, none⟩ (.pointer q)).setCell ⟨W.heap.size + 1 + 1, 1, none⟩ (.int .i64 s))) := by
            show Upd _ _ _ (chE _ _ _) _ _ _ _
            rw [HE.out]
            rcases HU.out with g | g | ⟨g1, g2, g3, g4⟩
            · exact .inl g
            · exact .inr (.inl g)
            · exact .inr (.inr ⟨g1, g2, g3, g4.lo, g4.ctx, (g4.tr.set K5.out.c22 _).set (K5.out.put (i := 0) (by simp) (by decide) _).c22 _⟩)
          clear hb m0 m1 c0 c1 c2 c3 d1 d2 x0 x1 x2 x3
          go_wp2_with fail
          refine bodyPost_ret (v := .tuple #[.agg #[.pointer q, .int .i64 s], .int .i64 e2]) (by simp [results, Try.results44, go_sem, u0, u1]) rfl ?_
          exact ⟨q, s, e2, rfl, HUF, HBF.out _ _ _ HB5.out⟩
      · have hbe : (rtag == fr) = false := beq_eq_false_iff_ne.2 g1
        have HE : Hid (chE size f ⟨lo, hi, fr, tt⟩ = 30) := by
          obtain ⟨l, k, hL, q1, q2⟩ := HRN.out
          have hc := HCAN.out
          rw [hL] at hc
          obtain ⟨_, _, a3, a4, _, a6⟩ := hc.mid
          show chE _ _ _ = 30
          rw [HCH.out, if_neg]
          intro hall
          exact g1 ((a4 lo q1 q2).symm.trans (hall lo (Int.le_refl _) HLH.out.2.1))
        obtain ⟨u0, u1, -, -⟩ := (K3.out.two (.pointer none) (.int .i64 0)).c2
        go_wp2_with fail
        refine bodyPost_ret (v := .tuple #[.agg #[.pointer none, .int .i64 0], .int .i64 30]) (by simp [results, Try.results44, go_sem, u0, u1]) rfl ?_
        have HU : ∀ W', Upd f (put f lo hi tt) size (chE size f ⟨lo, hi, fr, tt⟩) none 0 30 W' := fun W' => .inl ⟨by rw [HE.out]; decide, HE.out.symm, rfl, rfl⟩
        first
        | exact ⟨none, 0, 30, rfl, HU _, HB4.out⟩
        | exact ⟨none, 0, 30, rfl, HU _, HBF.out _ _ _ HB4.out⟩
    · have HE : Hid (chE size f ⟨lo, hi, fr, tt⟩ = errOf size lo hi [fr, tt]) := by
        show chE _ _ _ = _
        unfold errOf at her ⊢
        unfold chE
        by_cases hv : lo < 0 ∨ hi < lo ∨ size < hi
        · rw [if_pos (by simp; omega), if_pos hv]
        · rw [if_neg (by simp; omega), if_neg hv]
          rw [if_neg hv] at her
          by_cases ht : isT fr = true ∧ isT tt = true
          · exfalso
            apply her
            rw [if_pos (by simp [ht])]
          · rw [if_neg ht, if_neg]
            intro h
            apply ht
            simpa using h
      have hne : (errOf size lo hi [fr, tt] == 0) = false := beq_eq_false_iff_ne.2 her
      have HER := Lib.hid her
      have HCK := Lib.hid hck
      clear n1 n2 n3 hb hs0 HW h HW1 b1 hck her he
      generalize errOf size lo hi [fr, tt] = er at *
      go_enter Try.func44, Try.ntmps44
      go_upto_region 1 with fail
      rw [← HW'.out]
      go_wp2_with fail
      rw [← HW1'.out]
      refine HCK.out.mono ?_
      rintro e w2 ⟨rfl, hb⟩
      have F3 := Lib.hid (G3.out.next hb)
      have HB2 := Lib.hid (HB1.out.trans (hb.mono HB1.out.size))
      clear hb m0 m1 c0 c1 c2 c3 G1 G2 G3 HB1
      obtain ⟨x0, x1, x2, x3⟩ := F3.out.c2
      obtain ⟨u0, u1, -, -⟩ := (F3.out.two (.pointer none) (.int .i64 0)).c2
      go_wp2_with fail
      refine bodyPost_ret (v := .tuple #[.agg #[.pointer none, .int .i64 0], .int .i64 er]) (by simp [results, Try.results44, go_sem, u0, u1]) rfl ?_
      have HU : ∀ W', Upd f (put f lo hi tt) size (chE size f ⟨lo, hi, fr, tt⟩) none 0 er W' := fun W' => .inl ⟨by rw [HE.out]; exact HER.out, HE.out.symm, rfl, rfl⟩
      first
      | exact ⟨none, 0, er, rfl, HU _, HB2.out⟩
      | exact ⟨none, 0, er, rfl, HU _, HBF.out _ _ _ HB2.out⟩
open Classical in
/-- what a change answers -/
noncomputable def chK (size : Int) (f : Int → Int) (c : Ch) : Int :=
  if chE size f c ≠ 0 then chE size f c else if ∃ L, Gs.Can (put f c.lo c.hi c.tt) 0 L size ∧ 4096 < L.length then 5 else 0
open Classical in
/-- what several changes answer: the first error, or what the function becomes -/
noncomputable def apF (size : Int) : (Int → Int) → List Ch → Int × (Int → Int)
  | f, [] => (0, f)
  | f, c :: l => if chK size f c = 0 then apF size (put f c.lo c.hi c.tt) l else (chK size f c, f)
theorem apF_nil (size : Int) (f : Int → Int) : apF size f [] = (0, f) := rfl
theorem apF_ok {size : Int} {f : Int → Int} {c : Ch} {l : List Ch} (h : chK size f c = 0) : apF size f (c :: l) = apF size (put f c.lo c.hi c.tt) l := by
  show (if _ then _ else _) = _
  rw [if_pos h]
theorem apF_err {size : Int} {f : Int → Int} {c : Ch} {l : List Ch} (h : chK size f c ≠ 0) : apF size f (c :: l) = (chK size f c, f) := by
  show (if _ then _ else _) = _
  rw [if_neg h]
theorem upd_chK {f : Int → Int} {size : Int} {c : Ch} {q : Option Addr} {s e : Int} {W : World} (h : Upd f (put f c.lo c.hi c.tt) size (chE size f c) q s e W) :
    e = chK size f c ∧ ((e ≠ 0 ∧ q = none ∧ s = 0) ∨ (e = 0 ∧ s = size ∧ IsM (put f c.lo c.hi c.tt) size W q)) := by
  rcases h with ⟨h1, rfl, h3, h4⟩ | ⟨h1, rfl, h3, h4, L, hL, hl⟩ | ⟨h1, rfl, h3, h4⟩
  · refine ⟨?_, .inl ⟨h1, h3, h4⟩⟩
    unfold chK
    rw [if_pos h1]
  · refine ⟨?_, .inl ⟨by decide, h3, h4⟩⟩
    unfold chK
    rw [if_neg (fun h => h h1), if_pos ⟨L, hL, hl⟩]
  · refine ⟨?_, .inr ⟨rfl, h3, h4⟩⟩
    unfold chK
    rw [if_neg (fun h => h h1), if_neg]
    rintro ⟨L, hL, hl⟩
    obtain ⟨K, hK, hk⟩ := h4.can
    have := hK.same hL
    subst this
    omega
/-- what Apply answers -/
def ApP (size : Int) (r : Int × (Int → Int)) (q : Option Addr) (s e : Int) (W : World) : Prop :=
  e = r.1 ∧ ((e ≠ 0 ∧ q = none ∧ s = 0) ∨ (e = 0 ∧ s = size ∧ IsM r.2 size W q))
theorem ApP.below {size : Int} {r : Int × (Int → Int)} {q : Option Addr} {s e : Int} {W W' : World} (h : ApP size r q s e W) (hb : Below W.heap.size W W') : ApP size r q s e W' := by
  obtain ⟨h1, h | ⟨h2, h3, h4⟩⟩ := h
  · exact ⟨h1, .inl h⟩
  · exact ⟨h1, .inr ⟨h2, h3, h4.below hb⟩⟩
theorem IsM.set {f : Int → Int} {size : Int} {W : World} {p : Option Addr} (h : IsM f size W p) {X : Nat} (h22 : W.cell? ⟨X, 22, none⟩ = none) (i : Nat) (u : Value) : IsM f size (W.setCell ⟨X, i, none⟩ u) p := ⟨h.lo, h.ctx, h.tr.set h22 u⟩
theorem IsM.two {f : Int → Int} {size : Int} {W : World} {p : Option Addr} (h : IsM f size W p) {X : Nat} {x y : Value} (hb : Bx X [x, y] W) (u v : Value) : IsM f size ((W.setCell ⟨X, 0, none⟩ u).setCell ⟨X, 1, none⟩ v) p :=
  (h.set hb.c22 0 u).set (hb.put (i := 0) (by simp) (by decide) u).c22 1 v
set_option maxRecDepth 100000 in
set_option maxHeartbeats 4000000 in
theorem Apply_any {f : Int → Int} {size : Int} {W : World} {p : Option Addr} {v : Value} {l : List Ch} (h : IsM f size W p) (hl : IsCs W v l) (hn : l.length ≤ 100000) :
    Calls Try.prog 20 #[.agg #[.pointer p, .int .i64 size], v] W fun e w' => ∃ q s e2, e = .returned (.tuple #[.agg #[.pointer q, .int .i64 s], .int .i64 e2]) ∧ Hid (ApP size (apF size f l) q s e2 w') ∧ Below W.heap.size W w' := by
  have HCS := Lib.hid hl
  obtain ⟨ao, c, rfl, -⟩ := hl
  obtain ⟨n, hnn⟩ : ∃ n, n = l.length := ⟨_, rfl⟩
  have HN := Lib.hid hnn
  rw [← hnn] at hn HCS ⊢
  obtain ⟨b, rfl⟩ := h.some
  obtain ⟨w0, HW⟩ : ∃ w0, w0 = (W.alloc (.cells #[.pointer (some ⟨b, 0, none⟩), .int .i64 size] 27)).alloc (.cells #[.pointer none, .int .i64 0] 27) := ⟨_, rfl⟩
  have hb : Below W.heap.size W w0 := by rw [HW]; exact (alloc_below _ _).alloc (by simp) _
  have n1 : Bx W.heap.size [.pointer (some ⟨b, 0, none⟩), .int .i64 size] w0 := by rw [HW]; exact (Bx.new W [.pointer (some ⟨b, 0, none⟩), .int .i64 size] 27 (by simp)).next (alloc_below _ _)
  have n2 : Bx (W.heap.size + 1) [.pointer none, .int .i64 0] w0 := by
    have := Bx.new (W.alloc (.cells #[.pointer (some ⟨b, 0, none⟩), .int .i64 size] 27)) [.pointer none, .int .i64 0] 27 (by simp)
    rw [World.size_alloc, ← HW] at this
    exact this
  have HUS := Lib.hid (fun W' => isUsable_any b size W')
  have H1 := Lib.hid n1; have H2 := Lib.hid n2; have HB := Lib.hid hb; have HW' := Lib.hid HW; have HI := Lib.hid (h.below hb)
  obtain ⟨m0, m1, -, -⟩ := n1.c2
  clear hnn hb n1 n2 HW h
  go_enter Try.func20, Try.ntmps20
  go_upto_region 1 with fail
  rw [← HW'.out]
  go_wp2_with fail
  refine (HUS.out _).mono ?_
  rintro e w1 ⟨rfl, hb⟩
  have G1 := Lib.hid (H1.out.next hb); have G2 := Lib.hid (H2.out.next hb); have HB1 := Lib.hid (HB.out.trans (hb.mono HB.out.size)); have HI1 := Lib.hid (HI.out.below hb)
  clear hb m0 m1 H1 H2 HB HI HW'
  go_wp2_with fail
  go_loopg [16] n (fun k i wr => ∃ (j : Nat) (q : Option Addr) (g : Int → Int), Hid (k + j = n) ∧ i = .int .i64 j ∧ Hid (apF size f l = apF size g (l.drop j)) ∧ Hid (IsM g size wr q) ∧ Hid (Bx W.heap.size [.pointer q, .int .i64 size] wr) ∧ Hid (Bx (W.heap.size + 1) [.pointer none, .int .i64 0] wr) ∧ Hid (Below W.heap.size W wr))
  case atStart => exact ⟨0, some ⟨b, 0, none⟩, f, by show _ = _; omega, rfl, rfl, HI1, G1, G2, HB1⟩
  case round =>
    obtain ⟨j, q, g, HK, rfl, HAP, HI', F1, F2, HBr⟩ := hrel
    clear HI1 G1 G2 HB1
    have hjn : j ≤ n := by have := HK.out; omega
    by_cases hlt : j < n
    · have hlt2 : (j : Int) < n := by omega
      have hjl : j < l.length := by have := HN.out; omega
      obtain ⟨B, o, rfl, g0, g1, g2, g3⟩ := (HCS.out.below HBr.out).at' hjl
      have HDR : Hid (l.drop j = l[j] :: l.drop (j + 1)) := List.drop_eq_getElem_cons hjl
      generalize l[j] = a at *
      obtain ⟨alo, ahi, afr, att⟩ := a
      simp only at g0 g1 g2 g3
      obtain ⟨w2, HW2⟩ : ∃ w2, w2 = wr.alloc (.cells #[.int .i64 alo, .int .i64 ahi, .int .i64 afr, .int .i64 att] 59) := ⟨_, rfl⟩
      have b2 : Below wr.heap.size wr w2 := by rw [HW2]; exact alloc_below _ _
      have n3 : Bx wr.heap.size [.int .i64 alo, .int .i64 ahi, .int .i64 afr, .int .i64 att] w2 := by rw [HW2]; exact Bx.new wr [.int .i64 alo, .int .i64 ahi, .int .i64 afr, .int .i64 att] 59 (by simp)
      have HCH := Lib.hid (change_any (HI'.out.below b2) alo ahi afr att)
      have K1 := Lib.hid (F1.out.next b2); have K2 := Lib.hid (F2.out.next b2)
      have HB2 := Lib.hid (HBr.out.trans (b2.mono HBr.out.size))
      have c0 := (n3.c 0 _ rfl).1; have c1 := (n3.c 1 _ rfl).1; have c2 := (n3.c 2 _ rfl).1; have c3 := (n3.c 3 _ rfl).1
      have HW2' := Lib.hid HW2
      clear HW2 n3
      go_upto_region 6 with fail
      rw [← HW2'.out]
      clear g0 g1 g2 g3
      obtain ⟨m0, m1, -, -⟩ := K1.out.c2
      go_wp2_with fail
      refine HCH.out.mono ?_
      rintro e w3 ⟨q2, s2, e2, rfl, HU, hb⟩
      obtain ⟨w4, HW4⟩ : ∃ w4, w4 = w3.alloc (.cells #[.pointer q2, .int .i64 s2] 27) := ⟨_, rfl⟩
      have b4 : Below w3.heap.size w3 w4 := by rw [HW4]; exact alloc_below _ _
      have n4 : Bx w3.heap.size [.pointer q2, .int .i64 s2] w4 := by rw [HW4]; exact Bx.new w3 [.pointer q2, .int .i64 s2] 27 (by simp)
      have b34 := hb.trans (b4.mono hb.size)
      have L1 := Lib.hid (K1.out.next b34); have L2 := Lib.hid (K2.out.next b34); have L4 := Lib.hid n4
      have HB4 := Lib.hid (HB2.out.trans (b34.mono HB2.out.size))
      have HHU := Lib.hid (upd_chK (HU.out.below b4))
      have HCK := Lib.hid HHU.out.1
      have HSZ : Hid (wr.heap.size ≤ w3.heap.size) := Nat.le_trans b2.size hb.size
      have HW4' := Lib.hid HW4
      clear HW4 b4 n4 b34 hb m0 m1 c0 c1 c2 c3 K1 K2 HB2 b2
      go_upto_region 7 with fail
      rw [← HW4'.out]
      clear HW4' HW2'
      rcases HHU.out.2 with ⟨h1, rfl, rfl⟩ | ⟨rfl, rfl, h3⟩
      · have HF : Hid (ApP size (apF size f l) none 0 e2 w4) := by
          show ApP _ (apF _ _ _) _ _ _ _
          rw [HAP.out, HDR.out, apF_err (by rw [← HCK.out]; exact h1)]
          exact ⟨HCK.out, .inl ⟨h1, rfl, rfl⟩⟩
        have hne : (e2 == 0) = false := beq_eq_false_iff_ne.2 h1
        obtain ⟨x0, x1, x2, x3⟩ := L2.out.c2
        obtain ⟨u0, u1, -, -⟩ := (L2.out.two (.pointer none) (.int .i64 0)).c2
        clear h1
        go_wp2_with fail
        refine bodyPost_ret (v := .tuple #[.agg #[.pointer none, .int .i64 0], .int .i64 e2]) (by simp [results, Try.results20, go_sem, u0, u1]) rfl ?_
        obtain ⟨f1, f2⟩ := HF.out
        have hF : ∀ W', ApP size (apF size f l) none 0 e2 W' := fun W' => ⟨f1, by rcases f2 with f2 | ⟨_, f3, f4⟩; exact .inl f2; exact absurd f4.lo (by omega)⟩
        first
        | exact ⟨none, 0, e2, rfl, hF _, HB4.out⟩
        | exact ⟨none, 0, e2, rfl, hF _, below_put HB4.out (by omega) _ _⟩
      · have HA2 : Hid (apF s2 f l = apF s2 (put g alo ahi att) (l.drop (j + 1))) := by
          show _ = _
          rw [HAP.out, HDR.out, apF_ok HCK.out.symm]
        have HI2 := Lib.hid h3
        obtain ⟨p0, p1, -, -⟩ := L4.out.c2
        obtain ⟨m0, m1, m2, m3⟩ := L1.out.c2
        have hlt4 : W.heap.size + 1 < w3.heap.size := Nat.lt_of_lt_of_le F2.out.lt HSZ.out
        clear h3
        go_wp2_with fail
        go_roundg (n - (j + 1))
        case measure => have := HK.out; omega
        case rel => exact ⟨j + 1, q2, _, by show _ = _; omega, by go_num, HA2, HI2.out.two L1.out _ _, L1.out.two _ _, (L2.out.other (by omega) _).other (by omega) _, below_put HB4.out (Nat.le_refl _) _ _⟩
    · have hlt3 : ¬ (j : Int) < n := by omega
      have hdr : l.drop j = [] := List.drop_eq_nil_of_le (by have := HN.out; omega)
      have HF : Hid (apF size f l = (0, g)) := by
        show _ = _
        rw [HAP.out, hdr, apF_nil]
      clear hdr
      obtain ⟨m0, m1, -, -⟩ := F1.out.c2
      obtain ⟨x0, x1, x2, x3⟩ := F2.out.c2
      obtain ⟨u0, u1, -, -⟩ := (F2.out.two (.pointer q) (.int .i64 size)).c2
      have HI9 := Lib.hid (HI'.out.two F2.out (.pointer q) (.int .i64 size))
      go_wp2_with fail
      refine bodyPost_ret (v := .tuple #[.agg #[.pointer q, .int .i64 size], .int .i64 0]) (by simp [results, Try.results20, go_sem, u0, u1]) rfl ?_
      exact ⟨q, size, 0, rfl, by rw [HF.out]; exact ⟨rfl, .inr ⟨rfl, rfl, HI9.out⟩⟩, below_put HBr.out (by omega) _ _⟩
end Go.Proofs.Ytahgfggcpmnnaab
