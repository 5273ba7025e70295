/- The contract of areRuns. -/
import Derived.Test.YtjbenhmpeceaeaaJa
import Derived.BigQuiet
namespace Gs
/-- where the runs end, if they are those of a map -/
def chk : Int → Int → List R → Option Int
  | at', _, [] => some at'
  | at', last, r :: l => if r.lo ≠ at' ∨ r.hi ≤ r.lo ∨ ¬ (0 ≤ r.tag ∧ r.tag < 16) ∨ r.tag = last then none else chk r.hi r.tag l
theorem chk_no {at' last : Int} {r : R} {l : List R} (h : r.lo ≠ at' ∨ r.hi ≤ r.lo ∨ ¬ (0 ≤ r.tag ∧ r.tag < 16) ∨ r.tag = last) : chk at' last (r :: l) = none := by
  show (if _ then _ else _) = _
  rw [if_pos h]
theorem chk_yes {at' last : Int} {r : R} {l : List R} (h : ¬ (r.lo ≠ at' ∨ r.hi ≤ r.lo ∨ ¬ (0 ≤ r.tag ∧ r.tag < 16) ∨ r.tag = last)) : chk at' last (r :: l) = chk r.hi r.tag l := by
  show (if _ then _ else _) = _
  rw [if_neg h]
theorem chk_can : ∀ {l : List R} {at' last b : Int}, chk at' last l = some b → ∃ f : Int → Int, Can f at' l b ∧ (∀ p, at' ≤ p → p < b → 0 ≤ f p ∧ f p < 16) ∧ (∀ y, l.head? = some y → y.tag ≠ last)
  | [], at', last, b, h => by
    have h : some at' = some b := h
    injection h with h
    subst h
    exact ⟨fun _ => 0, Can.nil _ _, fun p h1 h2 => absurd h1 (by omega), fun y hy => by simp at hy⟩
  | r :: l, at', last, b, h => by
    by_cases hc : r.lo ≠ at' ∨ r.hi ≤ r.lo ∨ ¬ (0 ≤ r.tag ∧ r.tag < 16) ∨ r.tag = last
    · rw [chk_no hc] at h
      cases h
    · rw [chk_yes hc] at h
      obtain ⟨f, h1, h2, h3⟩ := chk_can h
      have hle := h1.le
      refine ⟨fun p => if p < r.hi then r.tag else f p, ⟨⟨by omega, by omega, fun p p1 p2 => if_pos p2, ?_⟩, ?_⟩, fun p p1 p2 => ?_, fun y hy => ?_⟩
      · exact h1.1.congr fun p p1 p2 => (if_neg (by omega)).symm
      · exact alt_cons h1.2 fun y hy => (h3 y hy).symm
      · by_cases hp : p < r.hi
        · simp only [hp, if_true]; omega
        · simp only [hp, if_false]; exact h2 p (by omega) p2
      · simp at hy
        subst hy
        omega
end Gs
namespace Go.Proofs.Ytjbenhmpeceaeaa
open Go Go.RowKit Gs

theorem IsRo.at' {W : World} {a : Option Addr} {n c : Nat} {L : List R} (h : IsRo W (.slice a n c) L) {j : Nat} (hj : j < L.length) :
    ∃ B o, a = some ⟨B, o, none⟩ ∧ W.cell? ⟨B, o + j * 3, none⟩ = some (.int .i64 L[j].lo) ∧ W.cell? ⟨B, o + j * 3 + 1, none⟩ = some (.int .i64 L[j].hi) ∧ W.cell? ⟨B, o + j * 3 + 2, none⟩ = some (.int .i64 L[j].tag) := by
  obtain ⟨a', c', hv, _, hcs⟩ := h
  injection hv with hv1 hv2 hv3
  subst hv1
  obtain ⟨B, o, e1, -, hcs2⟩ := hcs (by omega)
  exact ⟨B, o, e1, hcs2 j hj⟩
theorem IsRo.len {W : World} {a : Option Addr} {n c : Nat} {l : List R} (h : IsRo W (.slice a n c) l) : n = l.length := by
  obtain ⟨_, _, hv, _⟩ := h
  injection hv
set_option maxRecDepth 100000 in
set_option maxHeartbeats 2000000 in
theorem areRuns_any {size : Int} {W : World} {v : Value} {l : List R} (hl : IsRo W v l) (hn : l.length ≤ 100000) :
    Calls Try.prog 55 #[.int .i64 size, v] W fun e w' => ∃ b, e = .returned (.bool b) ∧ Hid (b = true ↔ chk 0 (-1) l = some size) ∧ Below W.heap.size W w' := by
  have HRO := Lib.hid hl
  obtain ⟨ao, c, rfl, -⟩ := hl
  obtain ⟨n, hnn⟩ : ∃ n, n = l.length := ⟨_, rfl⟩
  have HN := Lib.hid hnn
  rw [← hnn] at hn HRO ⊢
  have HT : Hid (∀ t W', Calls Try.prog 52 #[.int .i64 t] W' fun e w' => e = .returned (.bool (isT t)) ∧ W' = w') := fun t W' => isTag_any t W'
  have HR : Hid (Below W.heap.size W W) := Below.refl _ _
  clear hnn
  go_enter Try.func55, Try.ntmps55
  go_wp2_with fail
  go_loopw [5, 6, 11] (fun s5 s6 s11 wr => ∃ (j : Nat) (at' last : Int), j ≤ n ∧ s11 = .int .i64 j ∧ s5 = .int .i64 at' ∧ s6 = .int .i64 last ∧ Hid (chk 0 (-1) l = chk at' last (l.drop j)) ∧ Hid (Below W.heap.size W wr)) (fun _ _ i _ => n - (intOf i).toNat)
  case atStart => exact ⟨0, 0, -1, by omega, rfl, rfl, rfl, rfl, HR⟩
  case round =>
    obtain ⟨j, at', last, hj, rfl, rfl, rfl, HCK, HB⟩ := hrel
    by_cases hlt : j < n
    · have hj2 : (j : Int) < n := by omega
      have hjl : j < l.length := by have := HN.out; omega
      obtain ⟨B, o, rfl, c0, c1, c2⟩ := (HRO.out.below HB.out).at' hjl
      have HDR : Hid (l.drop j = l[j] :: l.drop (j + 1)) := List.drop_eq_getElem_cons hjl
      generalize l[j] = r at *
      obtain ⟨ra, rb, rc⟩ := r
      simp only at c0 c1 c2
      obtain ⟨w1, HW1⟩ : ∃ w1, w1 = wr.alloc (.cells #[.int .i64 ra, .int .i64 rb, .int .i64 rc] 64) := ⟨_, rfl⟩
      have b1 : Below wr.heap.size wr w1 := by rw [HW1]; exact alloc_below _ _
      have n1 : Bx wr.heap.size [.int .i64 ra, .int .i64 rb, .int .i64 rc] w1 := by rw [HW1]; exact Bx.new wr [.int .i64 ra, .int .i64 rb, .int .i64 rc] 64 (by simp)
      have k0 := (n1.c 0 _ rfl).1; have k1 := (n1.c 1 _ rfl).1; have k2 := (n1.c 2 _ rfl).1
      have HB1 := Lib.hid (HB.out.trans (b1.mono HB.out.size))
      have HW1' := Lib.hid HW1
      have HNO : Hid ((ra ≠ at' ∨ rb ≤ ra ∨ ¬ (0 ≤ rc ∧ rc < 16) ∨ rc = last) → chk 0 (-1) l ≠ some size) := fun h => by
        rw [HCK.out, HDR.out, chk_no h]
        exact fun h => by cases h
      clear HW1 b1 n1
      go_upto_region 5 with fail
      rw [← HW1'.out]
      clear c0 c1 c2 HW1'
      by_cases h1 : ra = at'
      · subst h1
        by_cases h2 : rb ≤ ra
        · have HX := HNO.out (.inr (.inl h2))
          have HXX := Lib.hid HX
          clear HX
          go_wp2_with fail
          go_ret
          first
          | exact ⟨false, rfl, ⟨(fun h => by cases h), fun h => absurd h HXX.out⟩, HB1.out⟩
          | exact .inl ⟨rfl, HXX.out, HB1.out⟩
          | exact ⟨rfl, HXX.out, HB1.out⟩
          | exact .inl ⟨rfl, HB1.out⟩
          | exact .inr ⟨rfl, HB1.out⟩
        · by_cases h3 : isT rc = true
          · have HT1 : Hid (∀ W', Calls Try.prog 52 #[.int .i64 rc] W' fun e w' => e = .returned (.bool true) ∧ W' = w') := fun W' => by
              have := HT.out rc W'
              rwa [h3] at this
            have HTR : Hid (0 ≤ rc ∧ rc < 16) := (show 0 ≤ rc ∧ rc < 16 from of_decide_eq_true h3)
            by_cases h4 : rc = last
            · subst h4
              have HXX := Lib.hid (HNO.out (.inr (.inr (.inr rfl))))
              clear h3
              go_wp2_with fail
              refine (HT1.out _).mono ?_
              rintro e w2 ⟨rfl, rfl⟩
              go_wp2_with fail
              go_ret
              first
              | exact ⟨false, rfl, ⟨(fun h => by cases h), fun h => absurd h HXX.out⟩, HB1.out⟩
              | exact .inl ⟨rfl, HXX.out, HB1.out⟩
              | exact ⟨rfl, HXX.out, HB1.out⟩
              | exact .inl ⟨rfl, HB1.out⟩
              | exact .inr ⟨rfl, HB1.out⟩
            · have HC2 : Hid (chk 0 (-1) l = chk rb rc (l.drop (j + 1))) := by
                show _ = _
                rw [HCK.out, HDR.out]
                have := HTR.out
                exact chk_yes (r := ⟨ra, rb, rc⟩) (by simp; omega)
              have hbe : (rc == last) = false := beq_eq_false_iff_ne.2 h4
              clear h3
              go_wp2_with fail
              refine (HT1.out _).mono ?_
              rintro e w2 ⟨rfl, rfl⟩
              go_wp2_with fail
              go_quiet (fail)
              rename_i nq
              have HBn : Hid (Below W.heap.size W (World.drewN w1 nq)) := below_drewN HB1.out nq
              clear k0 k1 k2
              generalize hw : World.drewN _ nq = w3 at HBn ⊢
              clear hw
              go_wp2_with fail
              go_roundw
              case rel => exact ⟨j + 1, rb, rc, by omega, by go_num, rfl, rfl, HC2.out, HBn.out⟩
              case measure => simp [intOf]; omega
          · have h3 := Bool.eq_false_iff.2 h3
            have HT1 : Hid (∀ W', Calls Try.prog 52 #[.int .i64 rc] W' fun e w' => e = .returned (.bool false) ∧ W' = w') := fun W' => by
              have := HT.out rc W'
              rwa [h3] at this
            have HXX := Lib.hid (HNO.out (.inr (.inr (.inl (of_decide_eq_false h3)))))
            clear h3
            go_wp2_with fail
            refine (HT1.out _).mono ?_
            rintro e w2 ⟨rfl, rfl⟩
            go_wp2_with fail
            go_ret
            first
            | exact ⟨false, rfl, ⟨(fun h => by cases h), fun h => absurd h HXX.out⟩, HB1.out⟩
            | exact .inl ⟨rfl, HXX.out, HB1.out⟩
            | exact ⟨rfl, HXX.out, HB1.out⟩
            | exact .inl ⟨rfl, HB1.out⟩
            | exact .inr ⟨rfl, HB1.out⟩
      · have HXX := Lib.hid (HNO.out (.inl h1))
        have hbe : (ra == at') = false := beq_eq_false_iff_ne.2 h1
        go_wp2_with fail
        go_ret
        first
        | exact ⟨false, rfl, ⟨(fun h => by cases h), fun h => absurd h HXX.out⟩, HB1.out⟩
        | exact .inl ⟨rfl, HXX.out, HB1.out⟩
        | exact ⟨rfl, HXX.out, HB1.out⟩
        | exact .inl ⟨rfl, HB1.out⟩
        | exact .inr ⟨rfl, HB1.out⟩
    · have hj2 : ¬ (j : Int) < n := by omega
      have HF : Hid (chk 0 (-1) l = some at') := by
        have := HCK.out
        rw [List.drop_eq_nil_of_le (by have := HN.out; omega)] at this
        exact this
      by_cases he : at' = size
      · subst he
        go_wp2_with fail
        go_ret
        first
        | exact ⟨true, rfl, ⟨fun _ => HF.out, fun _ => rfl⟩, HB.out⟩
        | exact .inr ⟨rfl, HF.out, HB.out⟩
        | exact ⟨rfl, HF.out, HB.out⟩
        | exact .inl ⟨rfl, HB.out⟩
        | exact .inr ⟨rfl, HB.out⟩
      · have hbe : (at' == size) = false := beq_eq_false_iff_ne.2 he
        have HXX : Hid (chk 0 (-1) l ≠ some size) := by
          show _ ≠ _
          rw [HF.out]
          intro h
          injection h with h
          exact he h
        go_wp2_with fail
        go_ret
        first
        | exact ⟨false, rfl, ⟨(fun h => by cases h), fun h => absurd h HXX.out⟩, HB.out⟩
        | exact .inl ⟨rfl, HXX.out, HB.out⟩
        | exact ⟨rfl, HXX.out, HB.out⟩
        | exact .inl ⟨rfl, HB.out⟩
        | exact .inr ⟨rfl, HB.out⟩
end Go.Proofs.Ytjbenhmpeceaeaa
