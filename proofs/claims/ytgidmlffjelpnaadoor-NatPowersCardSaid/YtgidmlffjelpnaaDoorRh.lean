/- The contract of the document's own Raw: the number with given digits. -/
import Derived.Test.YtgidmlffjelpnaaDoorRg
namespace Go.Proofs.YtgidmlffjelpnaaDoor
open Go Go.RowKit Gu

theorem Trim_none (w : World) : Calls Tryd.prog 49 #[.slice none 0 0] w fun e w' => e = .returned (.slice none 0 0) ∧ w = w' := by
  go_enter Tryd.func49, Tryd.ntmps49
  go_wp2
  go_loop [3] (fun n => n = .int .i64 0) (fun _ => 0)
  case atStart => rfl
  case round =>
    subst hrel
    go_wp2
    go_ret
    exact ⟨rfl, rfl⟩
theorem Trim_own (base k X : Nat) (v : Value) (w : World) (h : Own .i64 65536 3 w base v k X) (hX : X < 65536 ^ k) (hk : k ≤ 4611686018427387904) :
    Calls Tryd.prog 49 #[v] w fun e w' => ∃ r, e = .returned r ∧ R w' r X ∧ w = w' := by
  rcases h.shape with ⟨rfl, rfl⟩ | ⟨g, cap, rfl, _, _, hm, hc, hcell⟩
  · obtain rfl : X = 0 := by rw [Nat.pow_zero] at hX; omega
    exact (Trim_none w).mono fun e w' ⟨he, hw⟩ => ⟨_, he, IsN.zero _ _ _ _ _, hw⟩
  · refine (Trim_any g k cap X w hcell hX hk hm).mono fun e w' ⟨he, hw⟩ => ⟨_, he, ?_, hw⟩
    rw [← hw]
    rcases Nat.eq_zero_or_pos X with h0 | h0
    · subst h0; rw [nd_zero]; exact IsN.zero _ _ _ _ _
    · exact .inr ⟨h0, g, 0, cap, rfl, fun i hi => by rw [Nat.zero_add]; exact hcell i (Nat.lt_of_lt_of_le hi ((nd_le (by decide)).2 hX))⟩
/-- a slice of digits that came in -/
def IsRaw (w : World) (v : Value) (xs : List Nat) : Prop :=
  Dig 65536 xs ∧ ((xs = [] ∧ ∃ ao c, v = .slice ao 0 c) ∨ ∃ b o c, v = .slice (some ⟨b, o, none⟩) xs.length c ∧ ∀ i (h : i < xs.length), w.cell? ⟨b, o + i, none⟩ = some (.int .u16 (xs[i] : Nat)))
theorem IsRaw.shape {w : World} {v : Value} {xs : List Nat} (h : IsRaw w v xs) : ∃ ao c, v = .slice ao xs.length c ∧ ∀ i (h : i < xs.length), ∃ b o, ao = some ⟨b, o, none⟩ ∧ w.cell? ⟨b, o + i, none⟩ = some (.int .u16 (xs[i] : Nat)) := by
  rcases h.2 with ⟨rfl, ao, c, rfl⟩ | ⟨b, o, c, rfl, hc⟩
  · exact ⟨ao, c, rfl, fun i h => by simp at h⟩
  · exact ⟨_, c, rfl, fun i h => ⟨b, o, rfl, hc i h⟩⟩
/-- the number that the first m digits make -/
def rawN (xs : List Nat) (m : Nat) : Nat := val 65536 (xs.take m)
theorem rawN_lt {xs : List Nat} (h : Dig 65536 xs) {k : Nat} (hk : k ≤ xs.length) : rawN xs k < 65536 ^ k := by
  have := val_lt (h.take k)
  rw [List.length_take, Nat.min_eq_left hk] at this
  exact this
theorem rawN_nd {xs : List Nat} (h : Dig 65536 xs) (m : Nat) : nd 65536 (rawN xs m) ≤ m := by
  apply (nd_le (by decide : 2 ≤ 65536)).2
  have := val_lt (h.take m)
  refine Nat.lt_of_lt_of_le this (Nat.pow_le_pow_right (by decide) ?_)
  rw [List.length_take]; omega
/-- what the loop of Raw keeps -/
def RawRel (xs : List Nat) (w : World) (k : Nat) (v : Value) (wr : World) : Prop :=
  Own .i64 65536 3 wr w.heap.size v k (rawN xs k) ∧ Below w.heap.size w wr
set_option maxHeartbeats 1000000 in
set_option maxRecDepth 100000 in
theorem Raw_any (v : Value) (xs : List Nat) (most : Nat) (w : World) (hv : IsRaw w v xs) (_hlen : xs.length ≤ maxLen) (hm : most ≤ 1048576) :
    Calls Tryd.prog 15 #[v, .int .i64 most] w fun e w' => ∃ r, e = .returned r ∧ R w' r (rawN xs most) ∧ Below w.heap.size w w' := by
  obtain ⟨i0, hi, hz0, hz1, hz2⟩ := info_parts Tryd.infoInt
  have HDg := Lib.hid hv.1
  obtain ⟨ao, c, rfl, hcv⟩ := hv.shape
  have HC := Lib.hid hcv
  obtain ⟨K, hK⟩ : ∃ K, K = min xs.length most := ⟨_, rfl⟩
  have hL : Hid (rawN xs K = rawN xs most) := by
    show _ = _
    rw [hK]; unfold rawN
    rcases Nat.le_total xs.length most with h | h
    · rw [Nat.min_eq_left h, List.take_of_length_le (Nat.le_refl _), List.take_of_length_le h]
    · rw [Nat.min_eq_right h]
  have hKl : K ≤ xs.length := by omega
  have hKm : K ≤ most := by omega
  have hKe : K = xs.length ∨ K = most := by omega
  have HKE := Lib.hid hKe
  unfold maxLen at _hlen
  clear hv hcv hK hKe
  obtain ⟨L, hxl⟩ : ∃ L, xs.length = L := ⟨_, rfl⟩
  have HXL := Lib.hid hxl
  rw [hxl] at _hlen hKl HKE ⊢
  clear hxl
  go_enter Tryd.func15, Tryd.ntmps15
  go_wp2
  go_loopg [5, 6] K (fun m out x wr => ∃ k, Hid (m + k = K) ∧ x = .int .i64 k ∧ RawRel xs w k out wr)
  case atStart => exact ⟨0, rfl, rfl, by unfold rawN; exact Own.nil _ _ _ _ _, Below.refl _ _⟩
  case round =>
    obtain ⟨k, HKK, rfl, hown, hbel⟩ := hrel
    have hkK : k ≤ K := by have := HKK.out; omega
    by_cases hlt : k < K
    · have h1 : (k : Int) < L := by omega
      have h2 : (k : Int) < most := by omega
      have hkx : k < xs.length := by rw [HXL.out]; omega
      obtain ⟨gb, go, rfl, hca⟩ := HC.out k hkx
      have hd : xs[k] < 65536 := HDg.out k hkx
      have hca' : wr.cell? ⟨gb, go + k, none⟩ = some (.int .u16 (xs[k] : Nat)) := by
        rw [hbel.cell (p := ⟨gb, go + k, none⟩) (World.block_lt_of_cell? _ _ hca)]; exact hca
      have HPS : Hid (pad 65536 (k + 1) (rawN xs (k + 1)) = pad 65536 k (rawN xs k) ++ [xs[k]]) := by
        show _ = _
        unfold rawN
        rw [val_take_succ _ _ _ hkx]
        exact pad_succ (by decide) (rawN_lt HDg.out (by omega)) hd
      have HB := Lib.hid hbel
      have hltw := hown.lt
      have HLT := Lib.hid hltw
      have hsz := hbel.size
      unfold Own at hown
      clear hca hbel hltw
      generalize xs[k] = d at *
      go_wp2_with (at_builtin; refine wpList_append_own _ rfl _ _ 30 rfl w.heap.size 3 i0 (.int .i64 0) 1 8 Tryd.underlying30 hi hz0 hz1 hz2 rfl (by decide) _ _ _ rfl (hown.alloc _) ⟨wr.heap.size, 0, none⟩ 1 1 [.int .i64 (d : Int)] rfl rfl ?c1 ?c2 ?c3 ?c4 ?c5 ?_)
      case c1 => exact cell_one_new _ _ _
      case c2 => intro u hu; simp at hu; subst hu; rfl
      case c3 => unfold maxLen; omega
      case c4 => omega
      case c5 => simp; omega
      intro v' w4 hown4 hgrow hnil
      have HFIN : Hid (RawRel xs w (k + 1) v' w4) := by
        refine ⟨?_, ?_⟩
        · unfold Own
          rw [HPS.out, List.map_append]
          exact hown4
        · refine Below.grown (HB.out.alloc (by omega) _) hgrow (by simp; omega) ?_
          intro j hj
          exact (HLT.out _ hj).1
      clear hown4 hgrow hnil hown
      go_wp2
      go_roundg (K - (k + 1))
      case measure => have := HKK.out; omega
      case rel => exact ⟨k + 1, by show _ = _; omega, by go_num, HFIN.out⟩
    · obtain rfl : k = K := by omega
      have HT := Lib.hid (Trim_own _ _ _ _ _ hown (rawN_lt HDg.out (by rw [HXL.out]; omega)) (by omega))
      have HB := Lib.hid hbel
      have hor : ¬ (k : Int) < L ∨ ¬ (k : Int) < most := by have := HKE.out; omega
      have h3 : ((decide ((k : Int) < L)) && (decide ((k : Int) < most))) = false := by
        rcases hor with h | h <;> simp [h]
      clear hown hbel
      rcases hor with h | h
      · clear h3
        go_wp2_with fail
        refine HT.out.mono ?_
        rintro e w5 ⟨r, rfl, hr, rfl⟩
        obtain ⟨ro, rc, rfl, -⟩ := hr.shape
        have HR := Lib.hid hr
        clear hr
        go_wp2
        go_ret
        exact ⟨_, rfl, by rw [← hL.out]; exact HR.out, HB.out⟩
      · clear h3
        by_cases h4 : (k : Int) < L
        all_goals
          go_wp2_with fail
          refine HT.out.mono ?_
          rintro e w5 ⟨r, rfl, hr, rfl⟩
          obtain ⟨ro, rc, rfl, -⟩ := hr.shape
          have HR := Lib.hid hr
          clear hr
          go_wp2
          go_ret
          exact ⟨_, rfl, by rw [← hL.out]; exact HR.out, HB.out⟩
end Go.Proofs.YtgidmlffjelpnaaDoor
