/- The law SampleOdd: its walk. -/
import Derived.Test.YtcmancfdlfhgbaaGreatDoorTSz8
import Derived.Test.YtcmancfdlfhgbaaGreatDoorTSz3
namespace Go.Proofs.YtcmancfdlfhgbaaGreatDoor
open Go Go.RowKit Gu

/-- from the place j on all numbers are greater than z -/
def AboveZ (L : List Nat) (j : Nat) (z : Int) : Prop := ∀ i (h : i < L.length), j ≤ i → z < (L[i] : Int)
theorem AboveZ.start (L : List Nat) : AboveZ L 0 (-1) := fun i h _ => by omega
theorem AboveZ.next {L : List Nat} (hL : L.Pairwise (· < ·)) {j : Nat} (hj : j < L.length) : AboveZ L (j + 1) (L[j] : Int) := fun i h hi => by
  have := List.pairwise_iff_getElem.1 hL j i hj h (by omega)
  exact_mod_cast this
theorem drawL_asc (seed lot n : Nat) : (drawL seed lot n).Pairwise (· < ·) := sortN_lt (drawn_nodup _ _ _)
theorem drawL_lt {seed lot n x : Nat} (hn : n ≤ lot) (h : x ∈ drawL seed lot n) : x < lot := by
  have := drawn_lt (lot - n) seed n x ((sortN_perm _).mem_iff.1 h)
  omega
set_option maxRecDepth 100000 in
set_option maxHeartbeats 2000000 in
theorem sampleOdd_law {seed lot n : Int} {W : World} (_h0 : 0 ≤ seed ∧ seed ≤ 18446744073709551615) (_h1 : -9223372036854775808 ≤ lot ∧ lot ≤ 9223372036854775807) (_h2 : -9223372036854775808 ≤ n ∧ n ≤ 9223372036854775807) (he : Env W) :
    Calls Tryz.prog 8 #[.int .u64 seed, .int .i64 lot, .int .i64 n] W fun e w' => e = .returned (.bool true) ∧ Below W.heap.size W w' := by
  have HAW : Hid (∀ W', Below W.heap.size W W' → Calls Tryz.prog 9 #[] W' fun e w' => e = .returned (.bool true) ∧ Hid (Below W'.heap.size W' w')) := fun W' h => sawake_any W' (he.below h)
  obtain ⟨sd, rfl⟩ : ∃ s : Nat, seed = (s : Int) := ⟨seed.toNat, by omega⟩
  have hsd : sd < 18446744073709551616 := by omega
  have HSD := Lib.hid hsd
  clear he _h0 _h1 _h2 hsd
  by_cases hd : DrawnP lot n
  case neg =>
    have HG := Drawn_no hd
    have HD : Hid (∀ W', Calls Tryz.prog 22 #[.int .u64 sd, .int .i64 lot, .int .i64 n] W' fun e w' => e = .returned (.tuple #[.slice none 0 0, .int .i64 2]) ∧ W' = w') := fun W' => Draw_bad hd
    clear hd
    go_enter Tryz.func8, Tryz.ntmps8
    go_wp2_with fail
    refine (HD.out _).mono ?_
    rintro e w' ⟨rfl, rfl⟩
    go_wp2_with fail
    refine (HD.out _).mono ?_
    rintro e w' ⟨rfl, rfl⟩
    go_wp2_with fail
    refine (HG.out _).mono ?_
    rintro e w' ⟨rfl, rfl⟩
    go_wp2_with fail
    refine (HAW.out _ (Below.refl _ _)).mono ?_
    rintro e w' ⟨rfl, hb⟩
    go_wp2_with fail
    go_ret
    exact ⟨rfl, hb.out⟩
  have HG := Drawn_yes hd
  obtain ⟨h1, h2, h3, h4, h5⟩ := hd
  obtain ⟨lot, rfl⟩ : ∃ b : Nat, lot = (b : Int) := ⟨lot.toNat, by omega⟩
  obtain ⟨n, rfl⟩ : ∃ b : Nat, n = (b : Int) := ⟨n.toNat, by omega⟩
  obtain ⟨L, hL⟩ : ∃ L, L = drawL sd lot n := ⟨_, rfl⟩
  have hLl : L.length = n := by rw [hL, drawL_len]
  have HD : Hid (∀ W', Calls Tryz.prog 22 #[.int .u64 sd, .int .i64 lot, .int .i64 n] W' fun e w' => ∃ a c, e = .returned (.tuple #[.slice a n c, .int .i64 0]) ∧ Hid (IsZs w' (.slice a n c) L) ∧ Hid (Below W'.heap.size W' w')) := fun W' =>
    (Draw_any HSD.out (by omega) (by omega) (by omega)).mono fun e w' ⟨a, c, e1, e2, e3⟩ => ⟨a, c, e1, by rw [hL]; exact IsZs.of_row e2.out (drawL_len _ _ _).symm, e3⟩
  have HAS : Hid (L.Pairwise (· < ·)) := by rw [hL]; exact drawL_asc _ _ _
  have HLT : Hid (∀ j (h : j < L.length), L[j] < lot) := fun j h => drawL_lt (seed := sd) (n := n) (by omega) (by rw [← hL]; exact List.getElem_mem h)
  have HLL := Lib.hid hLl
  have hn40 : n ≤ 4096 := by omega
  have hl40 : lot ≤ 1099511627776 := by omega
  clear hL hLl h1 h2 h3 h4 h5 HSD
  go_enter Tryz.func8, Tryz.ntmps8
  go_wp2_with fail
  refine (HD.out _).mono ?_
  rintro e v1 ⟨a1, c1, rfl, hz1, hb1⟩
  go_wp2_with fail
  refine (HD.out _).mono ?_
  rintro e v2 ⟨a2, c2, rfl, hz2, hb2⟩
  have HZ1 : Hid (IsZs v2 (.slice a1 n c1) L) := hz1.out.below hb2.out
  have HB2 : Hid (Below W.heap.size W v2) := hb1.out.trans (hb2.out.mono hb1.out.size)
  clear hz1 hb1 hb2
  go_wp2_with fail
  refine (HG.out _).mono ?_
  rintro e w' ⟨rfl, rfl⟩
  go_wp2_with fail
  go_loopw [11, 13, 43] (fun z _ t wr => ∃ (j : Nat) (y : Int), j ≤ n ∧ t = .int .i64 j ∧ z = .int .i64 y ∧ Hid (AboveZ L j y) ∧ v2 = wr) (fun _ _ t _ => n - (intOf t).toNat)
  case atStart => exact ⟨0, -1, Nat.zero_le _, rfl, rfl, AboveZ.start L, rfl⟩
  case round =>
    obtain ⟨j, y, hj, rfl, rfl, HA, rfl⟩ := hrel
    by_cases q : j < n
    · have q1 : (j : Int) < n := by omega
      have hw : IntKind.i64.wrap ((j : Int) + 1) = ((j + 1 : Nat) : Int) := by rw [IntWalk.i64_in _ (by omega)]; omega
      have h1 : j < L.length := by rw [HLL.out]; exact q
      obtain ⟨B, o, e1, d0⟩ := HZ1.out.at' h1
      have x1 := HA.out j h1 (Nat.le_refl _)
      have x2 := HLT.out j h1
      have HN := Lib.hid (AboveZ.next HAS.out h1)
      obtain ⟨x, hx⟩ : ∃ x, x = L[j] := ⟨_, rfl⟩
      rw [← hx] at d0 x1 x2 HN
      have x3 : ¬ (x : Int) ≤ y := by omega
      have x4 : ¬ (x : Int) ≥ (lot : Int) := by omega
      have dx : decide ((x : Int) ≤ y) = false := decide_eq_false x3
      have dy : decide ((x : Int) ≥ (lot : Int)) = false := decide_eq_false x4
      subst e1
      clear hx
      go_wp2_with fail
      go_roundw
      case rel => exact ⟨j + 1, x, by omega, by go_num, rfl, HN, trivial⟩
      case measure => simp [intOf]; omega
    · have q1 : ¬ (j : Int) < n := by omega
      have HSM := Lib.hid (Same_yes HZ1.out hz2.out (by rw [HLL.out]; omega))
      go_wp2_with fail
      refine HSM.out.mono ?_
      rintro e v3 ⟨rfl, hb3⟩
      have HB3 : Hid (Below W.heap.size W v3) := HB2.out.trans (hb3.out.mono HB2.out.size)
      clear hb3
      go_wp2_with fail
      refine (HAW.out _ HB3.out).mono ?_
      rintro e v4 ⟨rfl, hb4⟩
      go_wp2_with fail
      go_ret
      exact ⟨rfl, HB3.out.trans (hb4.out.mono HB3.out.size)⟩
end Go.Proofs.YtcmancfdlfhgbaaGreatDoor
