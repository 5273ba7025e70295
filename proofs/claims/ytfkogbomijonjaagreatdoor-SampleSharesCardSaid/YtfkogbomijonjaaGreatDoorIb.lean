/- The contracts of verdict, Judge, and the document's Judge. -/
import Derived.Test.YtfkogbomijonjaaGreatDoorIa
namespace Go.Proofs.YtfkogbomijonjaaGreatDoor
open Go Go.RowKit

theorem verdict_any (n c g b : Int) (W : World) (hn0 : 0 ≤ n) (hn1 : n ≤ 9223372036854775807) (hc0 : 0 ≤ c) (hc1 : c ≤ 9223372036854775807) :
    Calls Tryz.prog 18 #[.int .i64 n, .int .i64 c, .int .i64 g, .int .i64 b] W fun e w' => e = .returned (.int .i64 (verd n c g b)) ∧ W = w' := by
  have hw : IntKind.i64.wrap (n - c) = n - c := IntWalk.i64_in _ (by omega)
  by_cases h1 : g ≥ n - c
  · rw [show verd n c g b = 1 from if_pos h1]
    go_enter Tryz.func18, Tryz.ntmps18
    go_wp2_with fail
    go_ret
    exact ⟨rfl, rfl⟩
  · by_cases h2 : b > c
    · rw [show verd n c g b = 2 from (if_neg h1).trans (if_pos h2)]
      go_enter Tryz.func18, Tryz.ntmps18
      go_wp2_with fail
      go_ret
      exact ⟨rfl, rfl⟩
    · rw [show verd n c g b = 0 from (if_neg h1).trans (if_neg h2)]
      go_enter Tryz.func18, Tryz.ntmps18
      go_wp2_with fail
      go_ret
      exact ⟨rfl, rfl⟩
theorem Judge_bad (n c : Int) (v : Value) (W : World) (h : n < 0 ∨ c < 0) :
    Calls Tryz.prog 9 #[.int .i64 n, .int .i64 c, v] W fun e w' => e = .returned (.tuple #[.int .i64 0, .int .i64 0, .int .i64 2]) ∧ W = w' := by
  by_cases h1 : n < 0
  · clear h
    go_enter Tryz.func9, Tryz.ntmps9
    go_wp2_with fail
    refine bodyPost_ret (v := .tuple #[.int .i64 0, .int .i64 0, .int .i64 2]) (by simp [results, Tryz.results9, go_sem]) rfl ?_
    exact ⟨rfl, rfl⟩
  · have h2 : c < 0 := by omega
    clear h
    go_enter Tryz.func9, Tryz.ntmps9
    go_wp2_with fail
    refine bodyPost_ret (v := .tuple #[.int .i64 0, .int .i64 0, .int .i64 2]) (by simp [results, Tryz.results9, go_sem]) rfl ?_
    exact ⟨rfl, rfl⟩
set_option maxHeartbeats 1000000 in
theorem Judge_any {n c : Int} {v : Value} {l : List Bool} {W : World} (hl : IsBs W v l) (hn0 : 0 ≤ n) (hn1 : n ≤ 9223372036854775807) (hc0 : 0 ≤ c) (hc1 : c ≤ 9223372036854775807) (hlen : l.length ≤ 1000000) :
    Calls Tryz.prog 9 #[.int .i64 n, .int .i64 c, v] W fun e w' => e = .returned (.tuple #[.int .i64 (jrun n c l 0 0).1, .int .i64 ((jrun n c l 0 0).2.1 + (jrun n c l 0 0).2.2), .int .i64 0]) ∧ W = w' := by
  have HL := Lib.hid hl
  obtain ⟨ao, cp, rfl, -⟩ := hl
  obtain ⟨m, hm⟩ : ∃ m, m = l.length := ⟨_, rfl⟩
  rw [← hm] at HL hlen ⊢
  have HM := Lib.hid hm
  have HV : Hid (∀ (g b : Int) (r : Int), verd n c g b = r → Calls Tryz.prog 18 #[.int .i64 n, .int .i64 c, .int .i64 g, .int .i64 b] W fun e w' => e = .returned (.int .i64 r) ∧ W = w') := fun g b r h => by
    subst h; exact verdict_any n c g b W hn0 hn1 hc0 hc1
  have hlt1 : ¬ n < 0 := by omega
  have hlt2 : ¬ c < 0 := by omega
  clear hm
  go_enter Tryz.func9, Tryz.ntmps9
  go_wp2_with fail
  go_loopw [9, 10, 12, 21] (fun s9 s10 _ i wr => ∃ j g b : Nat, j ≤ m ∧ i = .int .i64 j ∧ s9 = .int .i64 g ∧ s10 = .int .i64 b ∧ g + b = j ∧ Hid (jrun n c (l.drop j) g b = jrun n c l 0 0) ∧ W = wr) (fun _ _ _ i _ => m - (intOf i).toNat)
  case atStart => exact ⟨0, 0, 0, by omega, rfl, rfl, rfl, rfl, rfl, rfl⟩
  case round =>
    obtain ⟨j, g, b, hj, rfl, rfl, rfl, hgb, HJ, rfl⟩ := hrel
    have hgw : IntKind.i64.wrap ((g : Int) + b) = g + b := IntWalk.i64_in _ (by omega)
    have hg1 : IntKind.i64.wrap ((g : Int) + 1) = g + 1 := IntWalk.i64_in _ (by omega)
    have hb1 : IntKind.i64.wrap ((b : Int) + 1) = b + 1 := IntWalk.i64_in _ (by omega)
    obtain ⟨R, hR⟩ : ∃ R, R = verd n c g b := ⟨_, rfl⟩
    have HVR := Lib.hid (HV.out g b R hR.symm)
    have HR := Lib.hid hR
    clear hR
    by_cases hlt : j < m
    · have hj2 : (j : Int) < m := by omega
      have h1 : j < l.length := by rw [← HM.out]; exact hlt
      obtain ⟨B, o, e1, d0⟩ := HL.out.at' h1
      obtain ⟨x, hx⟩ : ∃ x, x = l[j] := ⟨_, rfl⟩
      rw [← hx] at d0
      have HX := Lib.hid hx
      clear hx
      subst e1
      go_wp2_with fail
      refine HVR.out.mono ?_
      rintro e w9 ⟨rfl, rfl⟩
      by_cases hr : R = 0
      · subst hr
        cases x with
        | true =>
          have HN2 : Hid (jrun n c (l.drop (j + 1)) g ((b + 1 : Nat) : Int) = jrun n c l 0 0) := by
            rw [← HJ.out, jrun_bad h1 HR.out.symm HX.out.symm]; rfl
          go_wp2_with fail
          go_roundw
          case rel => exact ⟨j + 1, g, b + 1, by omega, by go_num, rfl, by go_num, by omega, HN2, trivial⟩
          case measure => simp [intOf]; omega
        | false =>
          have HN2 : Hid (jrun n c (l.drop (j + 1)) ((g + 1 : Nat) : Int) b = jrun n c l 0 0) := by
            rw [← HJ.out, jrun_good h1 HR.out.symm HX.out.symm]; rfl
          go_wp2_with fail
          go_roundw
          case rel => exact ⟨j + 1, g + 1, b, by omega, by go_num, by go_num, rfl, by omega, HN2, trivial⟩
          case measure => simp [intOf]; omega
      · have HE : Hid (jrun n c l 0 0 = (R, (g : Int), (b : Int))) := by
          have e1 : jrun n c (l.drop j) g b = (verd n c g b, (g : Int), (b : Int)) := jrun_stop (by rw [← HR.out]; exact hr)
          rw [← HR.out] at e1
          exact HJ.out.symm.trans e1
        have hr2 : ¬ (R = 0) := hr
        go_wp2_with fail
        refine HVR.out.mono ?_
        rintro e w9 ⟨rfl, rfl⟩
        go_wp2_with fail
        refine bodyPost_ret (v := .tuple #[.int .i64 R, .int .i64 (g + b), .int .i64 0]) (by simp [results, Tryz.results9, go_sem]) rfl ?_
        exact ⟨by rw [HE.out], rfl⟩
    · have hlt' : ¬ ((j : Int) < m) := by omega
      have HE : Hid (jrun n c l 0 0 = (R, (g : Int), (b : Int))) := by
        have e0 := HJ.out
        rw [List.drop_eq_nil_of_le (by rw [← HM.out]; omega)] at e0
        have e1 : jrun n c [] g b = (verd n c g b, (g : Int), (b : Int)) := rfl
        rw [← HR.out] at e1
        exact e0.symm.trans e1
      go_wp2_with fail
      refine HVR.out.mono ?_
      rintro e w9 ⟨rfl, rfl⟩
      go_wp2_with fail
      refine bodyPost_ret (v := .tuple #[.int .i64 R, .int .i64 (g + b), .int .i64 0]) (by simp [results, Tryz.results9, go_sem]) rfl ?_
      exact ⟨by rw [HE.out], rfl⟩
end Go.Proofs.YtfkogbomijonjaaGreatDoor
