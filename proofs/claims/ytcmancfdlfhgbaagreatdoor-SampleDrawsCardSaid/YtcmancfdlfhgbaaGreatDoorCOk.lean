/- The law SampleDraws: its walk. -/
import Derived.Test.YtcmancfdlfhgbaaGreatDoorTSz9
import Derived.Test.YtcmancfdlfhgbaaGreatDoorTSz3
namespace Go.Proofs.YtcmancfdlfhgbaaGreatDoor
open Go Go.RowKit Gu

set_option maxRecDepth 100000 in
set_option maxHeartbeats 2000000 in
theorem sampleDraws_law {seed lot n : Int} {W : World} (_h0 : 0 ≤ seed ∧ seed ≤ 18446744073709551615) (_h1 : -9223372036854775808 ≤ lot ∧ lot ≤ 9223372036854775807) (_h2 : -9223372036854775808 ≤ n ∧ n ≤ 9223372036854775807) (he : Env W) :
    Calls Tryz.prog 6 #[.int .u64 seed, .int .i64 lot, .int .i64 n] W fun e w' => e = .returned (.bool true) ∧ Below W.heap.size W w' := by
  have HAW : Hid (∀ W', Below W.heap.size W W' → Calls Tryz.prog 9 #[] W' fun e w' => e = .returned (.bool true) ∧ Hid (Below W'.heap.size W' w')) := fun W' h => sawake_any W' (he.below h)
  obtain ⟨sd, rfl⟩ : ∃ s : Nat, seed = (s : Int) := ⟨seed.toNat, by omega⟩
  have hsd : sd < 18446744073709551616 := by omega
  have HSD := Lib.hid hsd
  clear he _h0 _h1 _h2 hsd
  by_cases q1 : n > 600
  · by_cases q2 : n ≤ 4096
    · go_enter Tryz.func6, Tryz.ntmps6
      go_wp2_with fail
      refine (HAW.out _ (Below.refl _ _)).mono ?_
      rintro e w' ⟨rfl, hb⟩
      go_wp2_with fail
      go_ret
      exact ⟨rfl, hb.out⟩
    · have hd : ¬ DrawnP lot n := fun h => q2 h.2.2.2.2
      have HG := Drawn_no hd
      have HD : Hid (∀ W', Calls Tryz.prog 22 #[.int .u64 sd, .int .i64 lot, .int .i64 n] W' fun e w' => e = .returned (.tuple #[.slice none 0 0, .int .i64 2]) ∧ W' = w') := fun W' => Draw_bad hd
      clear hd
      go_enter Tryz.func6, Tryz.ntmps6
      go_wp2_with fail
      refine (HD.out _).mono ?_
      rintro e w' ⟨rfl, rfl⟩
      go_wp2_with fail
      refine (HG.out _).mono ?_
      rintro e w' ⟨rfl, rfl⟩
      go_wp2_with fail
      refine (HAW.out _ (Below.refl _ _)).mono ?_
      rintro e w' ⟨rfl, hb⟩
      go_wp2_with fail
      go_ret
      exact ⟨rfl, hb.out⟩
  by_cases hd : DrawnP lot n
  case neg =>
    have HG := Drawn_no hd
    have HD : Hid (∀ W', Calls Tryz.prog 22 #[.int .u64 sd, .int .i64 lot, .int .i64 n] W' fun e w' => e = .returned (.tuple #[.slice none 0 0, .int .i64 2]) ∧ W' = w') := fun W' => Draw_bad hd
    clear hd
    go_enter Tryz.func6, Tryz.ntmps6
    go_wp2_with fail
    refine (HD.out _).mono ?_
    rintro e w' ⟨rfl, rfl⟩
    go_wp2_with fail
    refine (HG.out _).mono ?_
    rintro e w' ⟨rfl, rfl⟩
    go_wp2_with fail
    refine (HAW.out _ (Below.refl _ _)).mono ?_
    rintro e w' ⟨rfl, hb⟩
    go_wp2_with fail
    go_ret
    exact ⟨rfl, hb.out⟩
  have HG := Drawn_yes hd
  obtain ⟨h1, h2, h3, h4, h5⟩ := hd
  obtain ⟨lot, rfl⟩ : ∃ b : Nat, lot = (b : Int) := ⟨lot.toNat, by omega⟩
  obtain ⟨n, rfl⟩ : ∃ b : Nat, n = (b : Int) := ⟨n.toNat, by omega⟩
  obtain ⟨L, hL⟩ : ∃ L, L = drawL sd lot n := ⟨_, rfl⟩
  have hLl : L.length = n := by rw [hL, drawL_len]
  have HD : Hid (∀ W', Calls Tryz.prog 22 #[.int .u64 sd, .int .i64 lot, .int .i64 n] W' fun e w' => ∃ a c, e = .returned (.tuple #[.slice a n c, .int .i64 0]) ∧ Hid (IsZs w' (.slice a n c) L) ∧ Hid (Below W'.heap.size W' w')) := fun W' =>
    (Draw_any HSD.out (by omega) (by omega) (by omega)).mono fun e w' ⟨a, c, e1, e2, e3⟩ => ⟨a, c, e1, by rw [hL]; exact IsZs.of_row e2.out (drawL_len _ _ _).symm, e3⟩
  have HRD : Hid (∀ W', Calls Tryz.prog 24 #[.int .u64 sd, .int .i64 lot, .int .i64 n] W' fun e w' => ∃ a c, e = .returned (.slice a n c) ∧ Hid (IsZs w' (.slice a n c) L) ∧ Hid (Below W'.heap.size W' w')) := fun W' => by
    rw [hL]; exact RDraw_any HSD.out (by omega) (by omega) (by omega)
  have HLL := Lib.hid hLl
  have hn40 : n ≤ 4096 := by omega
  clear hL hLl h1 h2 h3 h4 h5 HSD
  go_enter Tryz.func6, Tryz.ntmps6
  go_wp2_with fail
  refine (HD.out _).mono ?_
  rintro e v1 ⟨a1, c1, rfl, hz1, hb1⟩
  go_wp2_with fail
  refine (HG.out _).mono ?_
  rintro e w' ⟨rfl, rfl⟩
  go_wp2_with fail
  refine (HRD.out _).mono ?_
  rintro e v2 ⟨a2, c2, rfl, hz2, hb2⟩
  have HZ1 : Hid (IsZs v2 (.slice a1 n c1) L) := hz1.out.below hb2.out
  have HB2 : Hid (Below W.heap.size W v2) := hb1.out.trans (hb2.out.mono hb1.out.size)
  clear hz1 hb1 hb2
  have HSM := Lib.hid (Same_yes HZ1.out hz2.out (by rw [HLL.out]; omega))
  go_wp2_with fail
  refine HSM.out.mono ?_
  rintro e v3 ⟨rfl, hb3⟩
  have HB3 : Hid (Below W.heap.size W v3) := HB2.out.trans (hb3.out.mono HB2.out.size)
  clear hb3
  go_wp2_with fail
  refine (HAW.out _ HB3.out).mono ?_
  rintro e v4 ⟨rfl, hb4⟩
  go_wp2_with fail
  go_ret
  exact ⟨rfl, HB3.out.trans (hb4.out.mono HB3.out.size)⟩
end Go.Proofs.YtcmancfdlfhgbaaGreatDoor
