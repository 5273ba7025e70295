/- The contract of the document's Judge; the law SampleJudges: its walk, where the layer's self-test returns true. -/
import Derived.Test.YteieedfigoihpaaDoorIb
namespace Go.Proofs.YteieedfigoihpaaDoor
open Go Go.RowKit

set_option maxHeartbeats 1000000 in
theorem RJudge_any {n c : Int} {v : Value} {l : List Bool} {W : World} (hl : IsBs W v l) (hn0 : 0 ≤ n) (hn1 : n ≤ 9223372036854775807) (hc0 : 0 ≤ c) (hc1 : c ≤ 9223372036854775807) (hlen : l.length ≤ 1000000) :
    Calls Tryd.prog 11 #[.int .i64 n, .int .i64 c, v] W fun e w' => e = .returned (.tuple #[.int .i64 (jrun n c l 0 0).1, .int .i64 ((jrun n c l 0 0).2.1 + (jrun n c l 0 0).2.2)]) ∧ W = w' := by
  have HL := Lib.hid hl
  obtain ⟨ao, cp, rfl, -⟩ := hl
  obtain ⟨m, hm⟩ : ∃ m, m = l.length := ⟨_, rfl⟩
  rw [← hm] at HL hlen ⊢
  have HM := Lib.hid hm
  have hw : IntKind.i64.wrap (n - c) = n - c := IntWalk.i64_in _ (by omega)
  clear hm
  go_enter Tryd.func11, Tryd.ntmps11
  go_wp2_with fail
  go_loopw [8, 9] (fun s8 i wr => ∃ j g b : Nat, j ≤ m ∧ i = .int .i64 j ∧ s8 = .int .i64 b ∧ g + b = j ∧ Hid (jrun n c (l.drop j) g b = jrun n c l 0 0) ∧ W = wr) (fun _ i _ => m - (intOf i).toNat)
  case atStart => exact ⟨0, 0, 0, by omega, rfl, rfl, rfl, rfl, rfl⟩
  case round =>
    obtain ⟨j, g, b, hj, rfl, rfl, hgb, HJ, rfl⟩ := hrel
    have hkb : IntKind.i64.wrap ((j : Int) - b) = g := by rw [IntWalk.i64_in _ (by omega)]; omega
    have hj1 : IntKind.i64.wrap ((j : Int) + 1) = j + 1 := IntWalk.i64_in _ (by omega)
    have hb1 : IntKind.i64.wrap ((b : Int) + 1) = b + 1 := IntWalk.i64_in _ (by omega)
    have HS : Hid ((g : Int) + b = j) := by show _ = _; omega
    have HGB := Lib.hid hgb
    clear hgb
    by_cases h1 : (g : Int) ≥ n - c
    · have HE : Hid (jrun n c l 0 0 = (1, (g : Int), (b : Int))) := by
        have e1 : jrun n c (l.drop j) g b = (verd n c g b, (g : Int), (b : Int)) := jrun_stop (by rw [show verd n c g b = 1 from if_pos h1]; decide)
        rw [show verd n c g b = 1 from if_pos h1] at e1
        exact HJ.out.symm.trans e1
      go_wp2_with fail
      refine bodyPost_ret (v := .tuple #[.int .i64 1, .int .i64 j]) (by simp [results, Tryd.results11, go_sem]) rfl ?_
      exact ⟨by rw [HE.out, ← HS.out], rfl⟩
    · by_cases h2 : (b : Int) > c
      · have HE : Hid (jrun n c l 0 0 = (2, (g : Int), (b : Int))) := by
          have hv : verd n c g b = 2 := (if_neg h1).trans (if_pos h2)
          have e1 : jrun n c (l.drop j) g b = (verd n c g b, (g : Int), (b : Int)) := jrun_stop (by rw [hv]; decide)
          rw [hv] at e1
          exact HJ.out.symm.trans e1
        go_wp2_with fail
        refine bodyPost_ret (v := .tuple #[.int .i64 2, .int .i64 j]) (by simp [results, Tryd.results11, go_sem]) rfl ?_
        exact ⟨by rw [HE.out, ← HS.out], rfl⟩
      · have HV : Hid (verd n c g b = 0) := (if_neg h1).trans (if_neg h2)
        by_cases hlt : j < m
        · have hj2 : (j : Int) < m := by omega
          have hj3 : ¬ ((j : Int) = m) := by omega
          have h3 : j < l.length := by rw [← HM.out]; exact hlt
          obtain ⟨B, o, e1, d0⟩ := HL.out.at' h3
          obtain ⟨x, hx⟩ : ∃ x, x = l[j] := ⟨_, rfl⟩
          rw [← hx] at d0
          have HX := Lib.hid hx
          clear hx
          subst e1
          cases x with
          | true =>
            have HN2 : Hid (jrun n c (l.drop (j + 1)) g ((b + 1 : Nat) : Int) = jrun n c l 0 0) := by
              rw [← HJ.out, jrun_bad h3 HV.out HX.out.symm]; rfl
            go_wp2_with fail
            go_roundw
            case rel => exact ⟨j + 1, g, b + 1, by omega, by go_num, by go_num, by have := HGB.out; omega, HN2, trivial⟩
            case measure => simp [intOf]; omega
          | false =>
            have HN2 : Hid (jrun n c (l.drop (j + 1)) ((g + 1 : Nat) : Int) b = jrun n c l 0 0) := by
              rw [← HJ.out, jrun_good h3 HV.out HX.out.symm]; rfl
            go_wp2_with fail
            go_roundw
            case rel => exact ⟨j + 1, g + 1, b, by omega, by go_num, rfl, by have := HGB.out; omega, HN2, trivial⟩
            case measure => simp [intOf]; omega
        · have hjm : j = m := by omega
          have HE : Hid (jrun n c l 0 0 = (0, (g : Int), (b : Int))) := by
            have e0 := HJ.out
            rw [List.drop_eq_nil_of_le (by rw [← HM.out]; omega)] at e0
            have e1 : jrun n c [] g b = (verd n c g b, (g : Int), (b : Int)) := rfl
            rw [HV.out] at e1
            exact e0.symm.trans e1
          subst hjm
          clear hlt hj
          go_wp2_with fail
          refine bodyPost_ret (v := .tuple #[.int .i64 0, .int .i64 j]) (by simp [results, Tryd.results11, go_sem]) rfl ?_
          exact ⟨by rw [HE.out, ← HS.out], rfl⟩
set_option maxHeartbeats 1000000 in
/-- where the layer's self-test returns true -/
theorem sampleJudges_walk {n c : Int} {v : Value} {l : List Bool} {W : World} (hl : IsBs W v l) (hn0 : -9223372036854775808 ≤ n) (hn1 : n ≤ 9223372036854775807) (hc0 : -9223372036854775808 ≤ c) (hc1 : c ≤ 9223372036854775807)
    (haw : Calls Tryd.prog 9 #[] W fun e w' => e = .returned (.bool true) ∧ Below W.heap.size W w') :
    Calls Tryd.prog 3 #[.int .i64 n, .int .i64 c, v] W fun e w' => e = .returned (.bool true) ∧ Below W.heap.size W w' := by
  have HL := Lib.hid hl; have HAW := Lib.hid haw
  obtain ⟨ao, cp, rfl, -⟩ := hl
  obtain ⟨m, hm⟩ : ∃ m, m = l.length := ⟨_, rfl⟩
  rw [← hm] at HL ⊢
  have HM := Lib.hid hm
  clear hm haw
  by_cases hf : (m : Int) > 4000
  · go_enter Tryd.func3, Tryd.ntmps3
    go_wp2_with fail
    refine HAW.out.mono ?_
    rintro e w' ⟨rfl, hb⟩
    have HB := Lib.hid hb
    clear hb
    go_wp2_with fail
    go_ret
    exact ⟨rfl, HB.out⟩
  · by_cases hbad : n < 0 ∨ c < 0
    · have HJ := Lib.hid (Judge_bad n c (.slice ao m cp) W hbad)
      by_cases h1 : n < 0
      · clear hbad
        go_enter Tryd.func3, Tryd.ntmps3
        go_wp2_with fail
        refine HJ.out.mono ?_
        rintro e w' ⟨rfl, rfl⟩
        go_wp2_with fail
        refine HAW.out.mono ?_
        rintro e w' ⟨rfl, hb⟩
        have HB := Lib.hid hb
        clear hb
        go_wp2_with fail
        go_ret
        exact ⟨rfl, HB.out⟩
      · have h2 : c < 0 := by omega
        clear hbad
        go_enter Tryd.func3, Tryd.ntmps3
        go_wp2_with fail
        refine HJ.out.mono ?_
        rintro e w' ⟨rfl, rfl⟩
        go_wp2_with fail
        refine HAW.out.mono ?_
        rintro e w' ⟨rfl, hb⟩
        have HB := Lib.hid hb
        clear hb
        go_wp2_with fail
        go_ret
        exact ⟨rfl, HB.out⟩
    · have h1 : ¬ n < 0 := fun h => hbad (.inl h)
      have h2 : ¬ c < 0 := fun h => hbad (.inr h)
      have HJ := Lib.hid (Judge_any HL.out (by omega) hn1 (by omega) hc1 (by have := HM.out; omega))
      have HR := Lib.hid (RJudge_any HL.out (by omega) hn1 (by omega) hc1 (by have := HM.out; omega))
      clear hbad
      generalize jrun n c l 0 0 = q at HJ HR
      obtain ⟨q0, q1, q2⟩ := q
      simp only at HJ HR
      generalize q1 + q2 = k at HJ HR
      go_enter Tryd.func3, Tryd.ntmps3
      go_wp2_with fail
      refine HJ.out.mono ?_
      rintro e w' ⟨rfl, rfl⟩
      go_wp2_with fail
      refine HR.out.mono ?_
      rintro e w' ⟨rfl, rfl⟩
      go_wp2_with fail
      refine HAW.out.mono ?_
      rintro e w' ⟨rfl, hb⟩
      have HB := Lib.hid hb
      clear hb
      go_wp2_with fail
      go_ret
      exact ⟨rfl, HB.out⟩
end Go.Proofs.YteieedfigoihpaaDoor
