/- The contract of the document's own function Sub. -/
import Derived.Test.YtgjkhbognenajaaGreatDoorSb
namespace Go.Proofs.YtgjkhbognenajaaGreatDoor
open Go Go.RowKit Gu

/-- what the loop of Sub keeps: k digits are out, the borrow -/
def SbRel (a b : Nat) (w : World) (k X br : Nat) (v : Value) (wr : World) : Prop :=
  br ≤ 1 ∧ X < 65536 ^ k ∧ X + b % 65536 ^ k = a % 65536 ^ k + 65536 ^ k * br ∧ Own .i64 65536 3 wr w.heap.size v k X ∧ Below w.heap.size w wr
set_option maxHeartbeats 2000000 in
set_option maxRecDepth 100000 in
theorem RSub_any (v u : Value) (a b : Nat) (w : World) (hv : R w v a) (hu : R w u b) (ha : nd 65536 a ≤ 1048576) (hb : nd 65536 b ≤ 1048576) (hle : b ≤ a) :
    Calls Tryz.prog 39 #[v, u] w fun e w' => ∃ r, e = .returned r ∧ R w' r (a - b) ∧ Below w.heap.size w w' := by
  obtain ⟨i0, hi, hz0, hz1, hz2⟩ := info_parts Tryz.infoInt
  have hB : 2 ≤ 65536 := by decide
  obtain ⟨ao, ac, rfl, hcv⟩ := hv.shape
  obtain ⟨bo, bc, rfl, -⟩ := hu.shape
  have HU := Lib.hid hu
  have HC := Lib.hid hcv
  have HAB := Lib.hid hle
  clear hv hu hcv hle
  have HAl := Lib.hid (nd_lt hB a)
  have HNb : Hid (nd 65536 b ≤ 4611686018427387904) := by show _ ≤ _; omega
  generalize nd 65536 a = la at *
  obtain ⟨lb, hlb⟩ : ∃ lb, nd 65536 b = lb := ⟨_, rfl⟩
  rw [hlb] at hb HU ⊢
  clear hlb
  go_enter Tryz.func39, Tryz.ntmps39
  go_wp2
  go_loopg [5, 6, 7] la (fun m out c i wr => ∃ k X br : Nat, Hid (m + k = la) ∧ i = .int .i64 k ∧ c = .int .i64 br ∧ SbRel a b w k X br out wr)
  case atStart => exact ⟨0, 0, 0, rfl, rfl, rfl, by omega, by simp, by simp [Nat.mod_one], Own.nil _ _ _ _ _, Below.refl _ _⟩
  case round =>
    obtain ⟨k, X, br, HK, rfl, rfl, hrel⟩ := hrel
    have hkl : k ≤ la := by have := HK.out; omega
    obtain ⟨hbr, hX, hsum, hown, hbel⟩ := hrel
    by_cases hlt : k < la
    · have hlt' : (k : Int) < la := by omega
      have hB' := Lib.hid (fun q => Rat_any _ b k (wr.drewN q) (HU.out.below (below_drewN hbel q)) HNb.out)
      obtain ⟨gb, go, rfl, hca⟩ := HC.out k hlt
      have hca' : wr.cell? ⟨gb, go + k, none⟩ = some (.int .i64 (dg 65536 a k : Nat)) := by
        rw [hbel.cell (p := ⟨gb, go + k, none⟩) (World.block_lt_of_cell? _ _ hca)]; exact hca
      have hda := dg_lt (B := 65536) (by decide) a k
      have hdb := dg_lt (B := 65536) (by decide) b k
      obtain ⟨d, br', hd, hd1, hd2, hneg⟩ : ∃ d br' : Nat, d + dg 65536 b k + br = dg 65536 a k + 65536 * br' ∧ d < 65536 ∧ br' ≤ 1 ∧ ((br' = 1 ∧ (dg 65536 a k : Int) - (dg 65536 b k : Nat) - br < 0) ∨ (br' = 0 ∧ 0 ≤ (dg 65536 a k : Int) - (dg 65536 b k : Nat) - br)) := by
        by_cases h : dg 65536 b k + br ≤ dg 65536 a k
        · exact ⟨dg 65536 a k - dg 65536 b k - br, 0, by omega, by omega, by omega, .inr ⟨rfl, by omega⟩⟩
        · exact ⟨dg 65536 a k + 65536 - dg 65536 b k - br, 1, by omega, by omega, by omega, .inl ⟨rfl, by omega⟩⟩
      have HSR := Lib.hid (sub_round (B := 65536) hsum hd)
      have HPS := Lib.hid (pad_succ (by decide) hX hd1)
      have HLT2 := Lib.hid (snoc_lt hX hd1)
      have HB := Lib.hid hbel
      have hltw := hown.lt
      have HLT := Lib.hid hltw
      have hsz := hbel.size
      unfold Own at hown
      clear hbel hltw hsum hX hca
      generalize dg 65536 a k = da at *
      generalize dg 65536 b k = db at *
      rcases hneg with ⟨rfl, hneg⟩ | ⟨rfl, hneg⟩
      · go_wp2_with fail
        go_quiet ((go_at_call 42; exact Calls.quiet_of_same ((hB'.out _).mono fun _ _ ⟨h, h'⟩ => ⟨h, h'.symm⟩)))
        have hown' := ownsRow_below hown (below_drewN (Below.refl wr.heap.size wr) nq)
        have hsz2 : w.heap.size ≤ (wr.drewN nq).heap.size := by have := (below_drewN (Below.refl wr.heap.size wr) nq).size; omega
        have HB2 : Hid (Below w.heap.size w (wr.drewN nq)) := below_drewN HB.out nq
        have HLT3 := Lib.hid hown'.lt
        have HD : Hid (((d : Nat) : Int) = (da : Int) - db - br + 65536) := by show _ = _; omega
        generalize wr.drewN nq = wq at *
        go_wp2_with (at_builtin; refine wpList_append_own _ rfl _ _ 22 rfl w.heap.size 3 i0 (.int .i64 0) 1 8 Tryz.underlying22 hi hz0 hz1 hz2 rfl (by decide) _ _ _ rfl (hown'.alloc _) ⟨wq.heap.size, 0, none⟩ 1 1 [.int .i64 ((da : Int) - db - br + 65536)] rfl rfl ?c1 ?c2 ?c3 ?c4 ?c5 ?_)
        case c1 => exact cell_one_new _ _ _
        case c2 => intro u hu; simp at hu; subst hu; rfl
        case c3 => unfold maxLen; omega
        case c4 => omega
        case c5 => simp; omega
        intro v' w4 hown4 hgrow hnil
        have HFIN : Hid (SbRel a b w (k + 1) (X + 65536 ^ k * d) 1 v' w4) := by
          refine ⟨by omega, HLT2.out, HSR.out, ?_, ?_⟩
          · unfold Own
            rw [HPS.out, List.map_append]
            show w4.ownsRow _ _ _ _ _ (_ ++ [Value.int .i64 ((d : Nat) : Int)])
            rw [HD.out]
            exact hown4
          · refine Below.grown (HB2.out.alloc (by omega) _) hgrow (by simp; omega) ?_
            intro j hj
            exact (HLT3.out _ hj).1
        clear hown4 hgrow hnil
        go_wp2
        go_roundg (la - (k + 1))
        case measure => have := HK.out; omega
        case rel => exact ⟨k + 1, _, 1, by show _ = _; omega, by go_num, rfl, HFIN.out⟩
      · go_wp2_with fail
        go_quiet ((go_at_call 42; exact Calls.quiet_of_same ((hB'.out _).mono fun _ _ ⟨h, h'⟩ => ⟨h, h'.symm⟩)))
        have hown' := ownsRow_below hown (below_drewN (Below.refl wr.heap.size wr) nq)
        have hsz2 : w.heap.size ≤ (wr.drewN nq).heap.size := by have := (below_drewN (Below.refl wr.heap.size wr) nq).size; omega
        have HB2 : Hid (Below w.heap.size w (wr.drewN nq)) := below_drewN HB.out nq
        have HLT3 := Lib.hid hown'.lt
        have HD : Hid (((d : Nat) : Int) = (da : Int) - db - br) := by show _ = _; omega
        generalize wr.drewN nq = wq at *
        go_wp2_with (at_builtin; refine wpList_append_own _ rfl _ _ 22 rfl w.heap.size 3 i0 (.int .i64 0) 1 8 Tryz.underlying22 hi hz0 hz1 hz2 rfl (by decide) _ _ _ rfl (hown'.alloc _) ⟨wq.heap.size, 0, none⟩ 1 1 [.int .i64 ((da : Int) - db - br)] rfl rfl ?c1 ?c2 ?c3 ?c4 ?c5 ?_)
        case c1 => exact cell_one_new _ _ _
        case c2 => intro u hu; simp at hu; subst hu; rfl
        case c3 => unfold maxLen; omega
        case c4 => omega
        case c5 => simp; omega
        intro v' w4 hown4 hgrow hnil
        have HFIN : Hid (SbRel a b w (k + 1) (X + 65536 ^ k * d) 0 v' w4) := by
          refine ⟨by omega, HLT2.out, HSR.out, ?_, ?_⟩
          · unfold Own
            rw [HPS.out, List.map_append]
            show w4.ownsRow _ _ _ _ _ (_ ++ [Value.int .i64 ((d : Nat) : Int)])
            rw [HD.out]
            exact hown4
          · refine Below.grown (HB2.out.alloc (by omega) _) hgrow (by simp; omega) ?_
            intro j hj
            exact (HLT3.out _ hj).1
        clear hown4 hgrow hnil
        go_wp2
        go_roundg (la - (k + 1))
        case measure => have := HK.out; omega
        case rel => exact ⟨k + 1, _, 0, by show _ = _; omega, by go_num, rfl, HFIN.out⟩
    · obtain rfl : k = la := by omega
      have hb1 : b < 65536 ^ k := Nat.lt_of_le_of_lt HAB.out HAl.out
      rw [Nat.mod_eq_of_lt HAl.out, Nat.mod_eq_of_lt hb1] at hsum
      have hb0 : br = 0 := by
        rcases Nat.lt_or_ge br 1 with h | h
        · omega
        · have h1 : br = 1 := by omega
          subst h1
          have := HAB.out
          rw [Nat.mul_one] at hsum
          omega
      subst hb0
      have hXe : X = a - b := by rw [Nat.mul_zero] at hsum; omega
      subst hXe
      have HT := Lib.hid (Trim_own _ _ _ _ _ hown hX (by omega))
      have HB := Lib.hid hbel
      clear hown hbel hsum hX
      go_wp2_with fail
      refine HT.out.mono ?_
      rintro e w5 ⟨r, rfl, hr, rfl⟩
      obtain ⟨ro, rc, rfl, -⟩ := hr.shape
      have HR := Lib.hid hr
      clear hr
      go_wp2
      go_ret
      exact ⟨_, rfl, HR.out, HB.out⟩
end Go.Proofs.YtgjkhbognenajaaGreatDoor
