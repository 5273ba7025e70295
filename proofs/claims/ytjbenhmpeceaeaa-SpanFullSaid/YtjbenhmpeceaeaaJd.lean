/- The contract of the document's From. -/
import Derived.Test.YtjbenhmpeceaeaaJc
namespace Go.Proofs.Ytjbenhmpeceaeaa
open Go Go.RowKit Gs

set_option maxRecDepth 100000 in
set_option maxHeartbeats 8000000 in
theorem RFrom_any {size : Int} {W : World} {v : Value} {l : List R} (hl : IsRo W v l) (hlv : v = .slice none 0 0 ∨ ∃ a m c, v = .slice (some a) m c) (hn : l.length ≤ 100000) :
    Calls Try.prog 28 #[.int .i64 size, v] W fun e w' => ∃ s v' e2, e = .returned (.tuple #[.agg #[.int .i64 s, v'], .int .i64 e2]) ∧ Hid (RFromP size l W.heap.size s v' e2 w') ∧ Below W.heap.size W w' := by
  obtain ⟨w0, HW⟩ : ∃ w0, w0 = W.alloc (.cells #[.int .i64 0, .slice none 0 0] 33) := ⟨_, rfl⟩
  have hb : Below W.heap.size W w0 := by rw [HW]; exact alloc_below _ _
  have n1 : Bx W.heap.size [.int .i64 0, .slice none 0 0] w0 := by rw [HW]; exact Bx.new W [.int .i64 0, .slice none 0 0] 33 (by simp)
  have HRO := Lib.hid (hl.below hb)
  have HLV := Lib.hid hlv
  clear hlv
  obtain ⟨ao, c, rfl, -, -⟩ := hl
  obtain ⟨n, hnn⟩ : ∃ n, n = l.length := ⟨_, rfl⟩
  have HN := Lib.hid hnn
  rw [← hnn] at hn HRO HLV ⊢
  have H1 := Lib.hid n1; have HB := Lib.hid hb; have HW' := Lib.hid HW
  have HBF : Hid (∀ W' x y, Below W.heap.size W W' → Below W.heap.size W ((W'.setCell ⟨W.heap.size, 0, none⟩ x).setCell ⟨W.heap.size, 1, none⟩ y)) := fun W' x y h => below_put h (Nat.le_refl _) _ _
  have HBAD : Hid (¬ good size l → ∀ W', RFromP size l W.heap.size 0 (.slice none 0 0) 2 W') := fun h W' => .inl ⟨rfl, rfl, rfl, h⟩
  have HT : Hid (∀ t W', Calls Try.prog 51 #[.int .i64 t] W' fun e w' => e = .returned (.bool (isT t)) ∧ W' = w') := fun t W' => RTag_any t W'
  clear hnn hb HW
  by_cases h1 : size < 1
  · skip
    have HX := Lib.hid (HBAD.out (fun h => by have := h.1; omega))
    obtain ⟨x0, x1, x2, x3⟩ := n1.c2
    obtain ⟨u0, u1, -, -⟩ := (n1.two (.int .i64 0) (.slice none 0 0)).c2
    clear n1
    go_enter Try.func28, Try.ntmps28
    go_upto_region 1 with fail
    rw [← HW'.out]
    go_wp2_with fail
    refine bodyPost_ret (v := .tuple #[.agg #[.int .i64 0, .slice none 0 0], .int .i64 2]) (by simp [results, Try.results28, go_sem, u0, u1]) rfl ?_
    first
    | exact ⟨0, _, 2, rfl, HX.out _, HB.out⟩
    | exact ⟨0, _, 2, rfl, HX.out _, HBF.out _ _ _ HB.out⟩
  · by_cases h2 : size > 1099511627776
    · skip
      have HX := Lib.hid (HBAD.out (fun h => by have := h.2.1; omega))
      obtain ⟨x0, x1, x2, x3⟩ := n1.c2
      obtain ⟨u0, u1, -, -⟩ := (n1.two (.int .i64 0) (.slice none 0 0)).c2
      clear n1
      go_enter Try.func28, Try.ntmps28
      go_upto_region 1 with fail
      rw [← HW'.out]
      go_wp2_with fail
      refine bodyPost_ret (v := .tuple #[.agg #[.int .i64 0, .slice none 0 0], .int .i64 2]) (by simp [results, Try.results28, go_sem, u0, u1]) rfl ?_
      first
      | exact ⟨0, _, 2, rfl, HX.out _, HB.out⟩
      | exact ⟨0, _, 2, rfl, HX.out _, HBF.out _ _ _ HB.out⟩
    · have HSZ : Hid (1 ≤ size ∧ size ≤ 1099511627776) := ⟨by omega, by omega⟩
      clear n1
      go_enter Try.func28, Try.ntmps28
      go_upto_region 1 with fail
      rw [← HW'.out]
      go_wp2_with fail
      clear h1 h2 HW'
      go_loopw [6, 7, 8] (fun s6 s7 s8 wr => ∃ (j : Nat) (at' last : Int), j ≤ n ∧ s8 = .int .i64 j ∧ s6 = .int .i64 at' ∧ s7 = .int .i64 last ∧ Hid (chk 0 (-1) l = chk at' last (l.drop j)) ∧ Hid (Below w0.heap.size w0 wr)) (fun _ _ i _ => n - (intOf i).toNat)
      case atStart => exact ⟨0, 0, -1, by omega, rfl, rfl, rfl, rfl, Below.refl _ _⟩
      case round =>
        obtain ⟨j, at', last, hj, rfl, rfl, rfl, HCK, HB0⟩ := hrel
        have G1 := Lib.hid (H1.out.next HB0.out)
        have HBr := Lib.hid (HB.out.trans (HB0.out.mono HB.out.size))
        by_cases hlt : j < n
        · have hj2 : (j : Int) < n := by omega
          have hjl : j < l.length := by have := HN.out; omega
          obtain ⟨B, o, rfl, c0, c1, c2⟩ := (HRO.out.below HB0.out).at' hjl
          have HDR : Hid (l.drop j = l[j] :: l.drop (j + 1)) := List.drop_eq_getElem_cons hjl
          generalize l[j] = r at *
          obtain ⟨ra, rb, rc⟩ := r
          simp only at c0 c1 c2
          obtain ⟨w1, HW1⟩ : ∃ w1, w1 = wr.alloc (.cells #[.int .i64 ra, .int .i64 rb, .int .i64 rc] 64) := ⟨_, rfl⟩
          have b1 : Below wr.heap.size wr w1 := by rw [HW1]; exact alloc_below _ _
          have n1 : Bx wr.heap.size [.int .i64 ra, .int .i64 rb, .int .i64 rc] w1 := by rw [HW1]; exact Bx.new wr [.int .i64 ra, .int .i64 rb, .int .i64 rc] 64 (by simp)
          have k0 := (n1.c 0 _ rfl).1; have k1 := (n1.c 1 _ rfl).1; have k2 := (n1.c 2 _ rfl).1
          have G2 := Lib.hid (G1.out.next b1)
          have HB1 := Lib.hid (HBr.out.trans (b1.mono HBr.out.size))
          have HB01 := Lib.hid (HB0.out.trans (b1.mono HB0.out.size))
          have HW1' := Lib.hid HW1
          have HNO : Hid ((ra ≠ at' ∨ rb ≤ ra ∨ ¬ (0 ≤ rc ∧ rc < 16) ∨ rc = last) → ¬ good size l) := fun h hg => by
            have := hg.2.2
            rw [HCK.out, HDR.out, chk_no h] at this
            cases this
          clear HW1 b1 n1
          go_upto_region 8 with fail
          rw [← HW1'.out]
          clear c0 c1 c2 HW1'
          by_cases h1 : ra = at'
          · subst h1
            by_cases h2 : ra ≥ rb
            · have HX := Lib.hid (HBAD.out (HNO.out (.inr (.inl h2))))
              obtain ⟨x0, x1, x2, x3⟩ := G2.out.c2
              obtain ⟨u0, u1, -, -⟩ := (G2.out.two (.int .i64 0) (.slice none 0 0)).c2
              go_wp2_with fail
              refine bodyPost_ret (v := .tuple #[.agg #[.int .i64 0, .slice none 0 0], .int .i64 2]) (by simp [results, Try.results28, go_sem, u0, u1]) rfl ?_
              first
              | exact ⟨0, _, 2, rfl, HX.out _, HB1.out⟩
              | exact ⟨0, _, 2, rfl, HX.out _, HBF.out _ _ _ HB1.out⟩
            · by_cases h3 : isT rc = true
              · have HT1 : Hid (∀ W', Calls Try.prog 51 #[.int .i64 rc] W' fun e w' => e = .returned (.bool true) ∧ W' = w') := fun W' => by
                  have := HT.out rc W'
                  rwa [h3] at this
                have HTR : Hid (0 ≤ rc ∧ rc < 16) := (show 0 ≤ rc ∧ rc < 16 from of_decide_eq_true h3)
                by_cases h4 : rc = last
                · subst h4
                  have HX := Lib.hid (HBAD.out (HNO.out (.inr (.inr (.inr rfl)))))
                  obtain ⟨x0, x1, x2, x3⟩ := G2.out.c2
                  obtain ⟨u0, u1, -, -⟩ := (G2.out.two (.int .i64 0) (.slice none 0 0)).c2
                  clear h3
                  go_wp2_with fail
                  refine (HT1.out _).mono ?_
                  rintro e w2 ⟨rfl, rfl⟩
                  go_wp2_with fail
                  refine bodyPost_ret (v := .tuple #[.agg #[.int .i64 0, .slice none 0 0], .int .i64 2]) (by simp [results, Try.results28, go_sem, u0, u1]) rfl ?_
                  first
                  | exact ⟨0, _, 2, rfl, HX.out _, HB1.out⟩
                  | exact ⟨0, _, 2, rfl, HX.out _, HBF.out _ _ _ HB1.out⟩
                · have HC2 : Hid (chk 0 (-1) l = chk rb rc (l.drop (j + 1))) := by
                    show _ = _
                    rw [HCK.out, HDR.out]
                    have := HTR.out
                    exact chk_yes (r := ⟨ra, rb, rc⟩) (by simp; omega)
                  have hbe : (rc == last) = false := beq_eq_false_iff_ne.2 h4
                  clear h3
                  go_wp2_with fail
                  refine (HT1.out _).mono ?_
                  rintro e w2 ⟨rfl, rfl⟩
                  go_wp2_with fail
                  go_roundw
                  case rel => exact ⟨j + 1, rb, rc, by omega, by go_num, rfl, rfl, HC2.out, HB01.out⟩
                  case measure => simp [intOf]; omega
              · have h3 := Bool.eq_false_iff.2 h3
                have HT1 : Hid (∀ W', Calls Try.prog 51 #[.int .i64 rc] W' fun e w' => e = .returned (.bool false) ∧ W' = w') := fun W' => by
                  have := HT.out rc W'
                  rwa [h3] at this
                have HX := Lib.hid (HBAD.out (HNO.out (.inr (.inr (.inl (of_decide_eq_false h3))))))
                obtain ⟨x0, x1, x2, x3⟩ := G2.out.c2
                obtain ⟨u0, u1, -, -⟩ := (G2.out.two (.int .i64 0) (.slice none 0 0)).c2
                clear h3
                go_wp2_with fail
                refine (HT1.out _).mono ?_
                rintro e w2 ⟨rfl, rfl⟩
                go_wp2_with fail
                refine bodyPost_ret (v := .tuple #[.agg #[.int .i64 0, .slice none 0 0], .int .i64 2]) (by simp [results, Try.results28, go_sem, u0, u1]) rfl ?_
                first
                | exact ⟨0, _, 2, rfl, HX.out _, HB1.out⟩
                | exact ⟨0, _, 2, rfl, HX.out _, HBF.out _ _ _ HB1.out⟩
          · have hbe : (ra == at') = false := beq_eq_false_iff_ne.2 h1
            have HX := Lib.hid (HBAD.out (HNO.out (.inl h1)))
            obtain ⟨x0, x1, x2, x3⟩ := G2.out.c2
            obtain ⟨u0, u1, -, -⟩ := (G2.out.two (.int .i64 0) (.slice none 0 0)).c2
            go_wp2_with fail
            refine bodyPost_ret (v := .tuple #[.agg #[.int .i64 0, .slice none 0 0], .int .i64 2]) (by simp [results, Try.results28, go_sem, u0, u1]) rfl ?_
            first
            | exact ⟨0, _, 2, rfl, HX.out _, HB1.out⟩
            | exact ⟨0, _, 2, rfl, HX.out _, HBF.out _ _ _ HB1.out⟩
        · have hj2 : ¬ (j : Int) < n := by omega
          have HF : Hid (chk 0 (-1) l = some at') := by
            have := HCK.out
            rw [List.drop_eq_nil_of_le (by have := HN.out; omega)] at this
            exact this
          by_cases he : at' = size
          · subst he
            have HG : Hid (good at' l) := ⟨HSZ.out.1, HSZ.out.2, HF.out⟩
            by_cases h3 : 4096 < n
            · have h4 : (n : Int) > 4096 := by omega
              have HX : Hid (∀ W', RFromP at' l W.heap.size 0 (.slice none 0 0) 5 W') := fun W' => .inr (.inl ⟨rfl, rfl, rfl, HG.out, by rw [← HN.out]; exact h3⟩)
              obtain ⟨x0, x1, x2, x3⟩ := G1.out.c2
              obtain ⟨u0, u1, -, -⟩ := (G1.out.two (.int .i64 0) (.slice none 0 0)).c2
              go_wp2_with fail
              refine bodyPost_ret (v := .tuple #[.agg #[.int .i64 0, .slice none 0 0], .int .i64 5]) (by simp [results, Try.results28, go_sem, u0, u1]) rfl ?_
              first
              | exact ⟨0, _, 5, rfl, HX.out _, HBr.out⟩
              | exact ⟨0, _, 5, rfl, HX.out _, HBF.out _ _ _ HBr.out⟩
            · have h4 : ¬ (n : Int) > 4096 := by omega
              have HRr := Lib.hid (HRO.out.below HB0.out)
              have HNB : Hid (n ≤ 100000) := by show _ ≤ _; omega
              go_wp2_with (at_builtin; refine wpList_copyR rfl _ _ rfl (w3 := wr) HN.out rfl rfl HRr.out HLV.out HNB.out ?_)
              intro a2 c2 w5 hown5 hb5
              have G5 := Lib.hid (G1.out.next hb5)
              have HB5 := Lib.hid (HBr.out.trans (hb5.mono HBr.out.size))
              have HI5 : Hid (IsRs W.heap.size w5 (.slice a2 n c2) l) := by
                have h := hown5
                rw [HN.out] at h ⊢
                exact (IsRs.of_row h).mono HBr.out.size
              clear hown5 hb5
              obtain ⟨x0, x1, x2, x3⟩ := G5.out.c2
              obtain ⟨u0, u1, -, -⟩ := (G5.out.two (.int .i64 at') (.slice a2 n c2)).c2
              have HI9 : Hid (IsRs W.heap.size ((w5.setCell ⟨W.heap.size, 0, none⟩ (.int .i64 at')).setCell ⟨W.heap.size, 1, none⟩ (.slice a2 n c2)) (.slice a2 n c2) l) := (HI5.out.apart (.inr fun x e => by rw [G5.out.c2.2.1] at e; cases e)).apart (.inr fun x e => by rw [((G5.out.put (i := 0) (by simp) (by decide) _).c 1 _ rfl).1] at e; cases e)
              go_wp2_with fail
              refine bodyPost_ret (v := .tuple #[.agg #[.int .i64 at', .slice a2 n c2], .int .i64 0]) (by simp [results, Try.results28, go_sem, u0, u1]) rfl ?_
              exact ⟨at', _, 0, rfl, .inr (.inr ⟨rfl, HG.out, by rw [← HN.out]; omega, rfl, HI9.out⟩), HBF.out _ _ _ HB5.out⟩
          · have hbe : (at' == size) = false := beq_eq_false_iff_ne.2 he
            have HX := Lib.hid (HBAD.out (fun hg => by have := hg.2.2; rw [HF.out] at this; injection this with this; exact he this))
            obtain ⟨x0, x1, x2, x3⟩ := G1.out.c2
            obtain ⟨u0, u1, -, -⟩ := (G1.out.two (.int .i64 0) (.slice none 0 0)).c2
            go_wp2_with fail
            refine bodyPost_ret (v := .tuple #[.agg #[.int .i64 0, .slice none 0 0], .int .i64 2]) (by simp [results, Try.results28, go_sem, u0, u1]) rfl ?_
            first
            | exact ⟨0, _, 2, rfl, HX.out _, HBr.out⟩
            | exact ⟨0, _, 2, rfl, HX.out _, HBF.out _ _ _ HBr.out⟩
end Go.Proofs.Ytjbenhmpeceaeaa
