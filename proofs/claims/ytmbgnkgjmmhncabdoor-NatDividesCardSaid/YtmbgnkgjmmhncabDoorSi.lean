/- The document's own Sub, Add and Shl once more, with this besides: what they give lies in new memory. -/
import Derived.Test.YtmbgnkgjmmhncabDoorSc
import Derived.Test.YtmbgnkgjmmhncabDoorSf
namespace Go.Proofs.YtmbgnkgjmmhncabDoor
open Go Go.RowKit Gu

/-- the slice lies in a block from base on, if it has a cell -/
def FR (base : Nat) (r : Value) (X : Nat) : Prop := ∀ bb o l c, r = .slice (some ⟨bb, o, none⟩) l c → 0 < X → base ≤ bb
theorem FR.mono {b b' : Nat} {r : Value} {X : Nat} (h : FR b' r X) (hb : b ≤ b') : FR b r X := fun bb o l c he h0 => Nat.le_trans hb (h bb o l c he h0)
theorem own_FR {k : IntKind} {B : Nat} {T : TypeId} {w : World} {base : Nat} {v : Value} {m x : Nat} (h : Own k B T w base v m x) (X : Nat) : FR base v X := by
  intro bb o l c he _
  rcases h.shape with ⟨rfl, _⟩ | ⟨g, cap, rfl, hb, _⟩
  · cases he
  · simp only [Value.slice.injEq, Option.some.injEq, Addr.mk.injEq, and_true] at he
    obtain ⟨⟨rfl, rfl⟩, _, _⟩ := he
    exact hb
theorem Trim_own_f (base k X : Nat) (v : Value) (w : World) (h : Own .i64 65536 3 w base v k X) (hX : X < 65536 ^ k) (hk : k ≤ 4611686018427387904) :
    Calls Tryd.prog 41 #[v] w fun e w' => ∃ r, e = .returned r ∧ R w' r X ∧ w = w' ∧ FR base r X := by
  rcases h.shape with ⟨rfl, rfl⟩ | ⟨g, cap, rfl, hb, _, hm, hc, hcell⟩
  · obtain rfl : X = 0 := by rw [Nat.pow_zero] at hX; omega
    exact (Trim_none w).mono fun e w' ⟨he, hw⟩ => ⟨_, he, IsN.zero _ _ _ _ _, hw, fun _ _ _ _ _ h0 => absurd h0 (Nat.lt_irrefl _)⟩
  · refine (Trim_any g k cap X w hcell hX hk hm).mono fun e w' ⟨he, hw⟩ => ⟨_, he, ?_, hw, ?_⟩
    · rw [← hw]
      rcases Nat.eq_zero_or_pos X with h0 | h0
      · subst h0; rw [nd_zero]; exact IsN.zero _ _ _ _ _
      · exact .inr ⟨h0, g, 0, cap, rfl, fun i hi => by rw [Nat.zero_add]; exact hcell i (Nat.lt_of_lt_of_le hi ((nd_le (by decide)).2 hX))⟩
    · intro bb o l c he _
      simp only [Value.slice.injEq, Option.some.injEq, Addr.mk.injEq, and_true] at he
      obtain ⟨⟨rfl, rfl⟩, _, _⟩ := he
      exact hb
/-- a store into another block leaves the number -/
theorem FR.setCell {r : Value} {X base g j : Nat} {w : World} {u : Value} (h : R w r X) (hf : FR base r X) (hg : g < base) : R (w.setCell ⟨g, j, none⟩ u) r X := by
  refine IsN.grown h (grownBy_setCell w g j u) (fun b o c l he h0 => ?_)
  have := hf b o l c
  have h1 := hf b o _ _ he h0
  omega
set_option maxHeartbeats 2000000 in
set_option maxRecDepth 100000 in
theorem RSub_f (v u : Value) (a b : Nat) (w : World) (hv : R w v a) (hu : R w u b) (ha : nd 65536 a ≤ 1048576) (hb : nd 65536 b ≤ 1048576) (hle : b ≤ a) :
    Calls Tryd.prog 47 #[v, u] w fun e w' => ∃ r, e = .returned r ∧ R w' r (a - b) ∧ Below w.heap.size w w' ∧ FR w.heap.size r (a - b) := by
  obtain ⟨i0, hi, hz0, hz1, hz2⟩ := info_parts Tryd.infoInt
  have hB : 2 ≤ 65536 := by decide
  obtain ⟨ao, ac, rfl, hcv⟩ := hv.shape
  obtain ⟨bo, bc, rfl, -⟩ := hu.shape
  have HU := Lib.hid hu
  have HC := Lib.hid hcv
  have HAB := Lib.hid hle
  clear hv hu hcv hle
  have HAl := Lib.hid (nd_lt hB a)
  have HNb : Hid (nd 65536 b ≤ 4611686018427387904) := by show _ ≤ _; omega
  generalize nd 65536 a = la at *
  obtain ⟨lb, hlb⟩ : ∃ lb, nd 65536 b = lb := ⟨_, rfl⟩
  rw [hlb] at hb HU ⊢
  clear hlb
  go_enter Tryd.func47, Tryd.ntmps47
  go_wp2
  go_loopg [5, 6, 7] la (fun m out c i wr => ∃ k X br : Nat, Hid (m + k = la) ∧ i = .int .i64 k ∧ c = .int .i64 br ∧ SbRel a b w k X br out wr)
  case atStart => exact ⟨0, 0, 0, rfl, rfl, rfl, by omega, by simp, by simp [Nat.mod_one], Own.nil _ _ _ _ _, Below.refl _ _⟩
  case round =>
    obtain ⟨k, X, br, HK, rfl, rfl, hrel⟩ := hrel
    have hkl : k ≤ la := by have := HK.out; omega
    obtain ⟨hbr, hX, hsum, hown, hbel⟩ := hrel
    by_cases hlt : k < la
    · have hlt' : (k : Int) < la := by omega
      have hB' := Lib.hid (fun q => Rat_any _ b k (wr.drewN q) (HU.out.below (below_drewN hbel q)) HNb.out)
      obtain ⟨gb, go, rfl, hca⟩ := HC.out k hlt
      have hca' : wr.cell? ⟨gb, go + k, none⟩ = some (.int .i64 (dg 65536 a k : Nat)) := by
        rw [hbel.cell (p := ⟨gb, go + k, none⟩) (World.block_lt_of_cell? _ _ hca)]; exact hca
      have hda := dg_lt (B := 65536) (by decide) a k
      have hdb := dg_lt (B := 65536) (by decide) b k
      obtain ⟨d, br', hd, hd1, hd2, hneg⟩ : ∃ d br' : Nat, d + dg 65536 b k + br = dg 65536 a k + 65536 * br' ∧ d < 65536 ∧ br' ≤ 1 ∧ ((br' = 1 ∧ (dg 65536 a k : Int) - (dg 65536 b k : Nat) - br < 0) ∨ (br' = 0 ∧ 0 ≤ (dg 65536 a k : Int) - (dg 65536 b k : Nat) - br)) := by
        by_cases h : dg 65536 b k + br ≤ dg 65536 a k
        · exact ⟨dg 65536 a k - dg 65536 b k - br, 0, by omega, by omega, by omega, .inr ⟨rfl, by omega⟩⟩
        · exact ⟨dg 65536 a k + 65536 - dg 65536 b k - br, 1, by omega, by omega, by omega, .inl ⟨rfl, by omega⟩⟩
      have HSR := Lib.hid (sub_round (B := 65536) hsum hd)
      have HPS := Lib.hid (pad_succ (by decide) hX hd1)
      have HLT2 := Lib.hid (snoc_lt hX hd1)
      have HB := Lib.hid hbel
      have hltw := hown.lt
      have HLT := Lib.hid hltw
      have hsz := hbel.size
      unfold Own at hown
      clear hbel hltw hsum hX hca
      generalize dg 65536 a k = da at *
      generalize dg 65536 b k = db at *
      rcases hneg with ⟨rfl, hneg⟩ | ⟨rfl, hneg⟩
      · go_wp2_with fail
        go_quiet ((go_at_call 58; exact Calls.quiet_of_same ((hB'.out _).mono fun _ _ ⟨h, h'⟩ => ⟨h, h'.symm⟩)))
        have hown' := ownsRow_below hown (below_drewN (Below.refl wr.heap.size wr) nq)
        have hsz2 : w.heap.size ≤ (wr.drewN nq).heap.size := by have := (below_drewN (Below.refl wr.heap.size wr) nq).size; omega
        have HB2 : Hid (Below w.heap.size w (wr.drewN nq)) := below_drewN HB.out nq
        have HLT3 := Lib.hid hown'.lt
        have HD : Hid (((d : Nat) : Int) = (da : Int) - db - br + 65536) := by show _ = _; omega
        generalize wr.drewN nq = wq at *
        go_wp2_with (at_builtin; refine wpList_append_own _ rfl _ _ 34 rfl w.heap.size 3 i0 (.int .i64 0) 1 8 Tryd.underlying34 hi hz0 hz1 hz2 rfl (by decide) _ _ _ rfl (hown'.alloc _) ⟨wq.heap.size, 0, none⟩ 1 1 [.int .i64 ((da : Int) - db - br + 65536)] rfl rfl ?c1 ?c2 ?c3 ?c4 ?c5 ?_)
        case c1 => exact cell_one_new _ _ _
        case c2 => intro u hu; simp at hu; subst hu; rfl
        case c3 => unfold maxLen; omega
        case c4 => omega
        case c5 => simp; omega
        intro v' w4 hown4 hgrow hnil
        have HFIN : Hid (SbRel a b w (k + 1) (X + 65536 ^ k * d) 1 v' w4) := by
          refine ⟨by omega, HLT2.out, HSR.out, ?_, ?_⟩
          · unfold Own
            rw [HPS.out, List.map_append]
            show w4.ownsRow _ _ _ _ _ (_ ++ [Value.int .i64 ((d : Nat) : Int)])
            rw [HD.out]
            exact hown4
          · refine Below.grown (HB2.out.alloc (by omega) _) hgrow (by simp; omega) ?_
            intro j hj
            exact (HLT3.out _ hj).1
        clear hown4 hgrow hnil
        go_wp2
        go_roundg (la - (k + 1))
        case measure => have := HK.out; omega
        case rel => exact ⟨k + 1, _, 1, by show _ = _; omega, by go_num, rfl, HFIN.out⟩
      · go_wp2_with fail
        go_quiet ((go_at_call 58; exact Calls.quiet_of_same ((hB'.out _).mono fun _ _ ⟨h, h'⟩ => ⟨h, h'.symm⟩)))
        have hown' := ownsRow_below hown (below_drewN (Below.refl wr.heap.size wr) nq)
        have hsz2 : w.heap.size ≤ (wr.drewN nq).heap.size := by have := (below_drewN (Below.refl wr.heap.size wr) nq).size; omega
        have HB2 : Hid (Below w.heap.size w (wr.drewN nq)) := below_drewN HB.out nq
        have HLT3 := Lib.hid hown'.lt
        have HD : Hid (((d : Nat) : Int) = (da : Int) - db - br) := by show _ = _; omega
        generalize wr.drewN nq = wq at *
        go_wp2_with (at_builtin; refine wpList_append_own _ rfl _ _ 34 rfl w.heap.size 3 i0 (.int .i64 0) 1 8 Tryd.underlying34 hi hz0 hz1 hz2 rfl (by decide) _ _ _ rfl (hown'.alloc _) ⟨wq.heap.size, 0, none⟩ 1 1 [.int .i64 ((da : Int) - db - br)] rfl rfl ?c1 ?c2 ?c3 ?c4 ?c5 ?_)
        case c1 => exact cell_one_new _ _ _
        case c2 => intro u hu; simp at hu; subst hu; rfl
        case c3 => unfold maxLen; omega
        case c4 => omega
        case c5 => simp; omega
        intro v' w4 hown4 hgrow hnil
        have HFIN : Hid (SbRel a b w (k + 1) (X + 65536 ^ k * d) 0 v' w4) := by
          refine ⟨by omega, HLT2.out, HSR.out, ?_, ?_⟩
          · unfold Own
            rw [HPS.out, List.map_append]
            show w4.ownsRow _ _ _ _ _ (_ ++ [Value.int .i64 ((d : Nat) : Int)])
            rw [HD.out]
            exact hown4
          · refine Below.grown (HB2.out.alloc (by omega) _) hgrow (by simp; omega) ?_
            intro j hj
            exact (HLT3.out _ hj).1
        clear hown4 hgrow hnil
        go_wp2
        go_roundg (la - (k + 1))
        case measure => have := HK.out; omega
        case rel => exact ⟨k + 1, _, 0, by show _ = _; omega, by go_num, rfl, HFIN.out⟩
    · obtain rfl : k = la := by omega
      have hb1 : b < 65536 ^ k := Nat.lt_of_le_of_lt HAB.out HAl.out
      rw [Nat.mod_eq_of_lt HAl.out, Nat.mod_eq_of_lt hb1] at hsum
      have hb0 : br = 0 := by
        rcases Nat.lt_or_ge br 1 with h | h
        · omega
        · have h1 : br = 1 := by omega
          subst h1
          have := HAB.out
          rw [Nat.mul_one] at hsum
          omega
      subst hb0
      have hXe : X = a - b := by rw [Nat.mul_zero] at hsum; omega
      subst hXe
      have HT := Lib.hid (Trim_own_f _ _ _ _ _ hown hX (by omega))
      have HB := Lib.hid hbel
      clear hown hbel hsum hX
      go_wp2_with fail
      refine HT.out.mono ?_
      rintro e w5 ⟨r, rfl, hr, rfl, hfrr⟩
      obtain ⟨ro, rc, rfl, -⟩ := hr.shape
      have HR := Lib.hid hr
      have HFR := Lib.hid hfrr
      clear hr hfrr
      go_wp2
      go_ret
      exact ⟨_, rfl, HR.out, HB.out, HFR.out⟩
set_option maxHeartbeats 2000000 in
set_option maxRecDepth 100000 in
theorem RAdd_f (v u : Value) (a b : Nat) (w : World) (hv : R w v a) (hu : R w u b) (ha : nd 65536 a ≤ 1048576) (hb : nd 65536 b ≤ 1048576) :
    Calls Tryd.prog 25 #[v, u] w fun e w' => ∃ r, e = .returned r ∧ R w' r (a + b) ∧ Below w.heap.size w w' ∧ FR w.heap.size r (a + b) := by
  obtain ⟨i0, hi, hz0, hz1, hz2⟩ := info_parts Tryd.infoInt
  have hB : 2 ≤ 65536 := by decide
  obtain ⟨ao, ac, rfl, -⟩ := hv.shape
  obtain ⟨bo, bc, rfl, -⟩ := hu.shape
  have HV := Lib.hid hv; have HU := Lib.hid hu
  clear hv hu
  have HAl := Lib.hid (nd_lt hB a); have HBl := Lib.hid (nd_lt hB b)
  have HNa : Hid (nd 65536 a ≤ 4611686018427387904) := by show _ ≤ _; omega
  have HNb : Hid (nd 65536 b ≤ 4611686018427387904) := by show _ ≤ _; omega
  obtain ⟨la, hla⟩ : ∃ la, nd 65536 a = la := ⟨_, rfl⟩
  obtain ⟨lb, hlb⟩ : ∃ lb, nd 65536 b = lb := ⟨_, rfl⟩
  have HLA := Lib.hid hla; have HLB := Lib.hid hlb
  rw [hla] at ha HV HAl ⊢
  rw [hlb] at hb HU HBl ⊢
  clear hla hlb
  obtain ⟨M, hM1, hM2, hM3⟩ : ∃ M, la ≤ M ∧ lb ≤ M ∧ (M = la ∨ M = lb) := ⟨max la lb, by omega, by omega, by omega⟩
  have HM3 := Lib.hid hM3
  have hM : M ≤ 1048576 := by omega
  clear hM3
  go_enter Tryd.func25, Tryd.ntmps25
  go_wp2
  go_loopg [5, 6, 7] (M + 1) (fun m out c i wr => ∃ k X cc : Nat, Hid (m + k = M + 1) ∧ i = .int .i64 k ∧ c = .int .i64 cc ∧ AddRel a b w k X cc out wr ∧ Hid (k ≤ M ∨ (65536 ^ M ≤ a + b ∧ cc = 0)))
  case atStart => exact ⟨0, 0, 0, rfl, rfl, rfl, ⟨by omega, by simp, by simp [Nat.mod_one], Own.nil _ _ _ _ _, Below.refl _ _⟩, .inl (Nat.zero_le _)⟩
  case round =>
    obtain ⟨k, X, c, HK, rfl, rfl, hrel, HKM⟩ := hrel
    have hc1 : c ≤ 1 := hrel.1
    have hk1 : k ≤ M + 1 := by have := HK.out; omega
    by_cases hcont : k < la ∨ k < lb ∨ 0 < c
    · have hkM : k ≤ M := by
        rcases HKM.out with h | ⟨_, h⟩
        · exact h
        · omega
      obtain ⟨-, hX, hsum, hown, hbel⟩ := hrel
      have hA := Lib.hid (Rat_any _ a k wr (HV.out.below hbel) HNa.out)
      have hB' := Lib.hid (Rat_any _ b k wr (HU.out.below hbel) HNb.out)
      have hda := dg_lt (B := 65536) (by decide) a k
      have hdb := dg_lt (B := 65536) (by decide) b k
      have hd : (c + dg 65536 a k + dg 65536 b k) % 65536 < 65536 := Nat.mod_lt _ (by decide)
      have HSR := Lib.hid (sum_round (B := 65536) hsum)
      have HPS := Lib.hid (pad_succ (by decide) hX hd)
      have HLT2 := Lib.hid (snoc_lt hX hd)
      have HKM2 : Hid (k + 1 ≤ M ∨ (65536 ^ M ≤ a + b ∧ (c + dg 65536 a k + dg 65536 b k) / 65536 = 0)) := by
        show _ ∨ _
        rcases Nat.lt_or_ge k M with h | h
        · exact .inl h
        · refine .inr ?_
          have hkM2 : k = M := by omega
          subst hkM2
          have h1 : a < 65536 ^ k := Nat.lt_of_lt_of_le HAl.out (Nat.pow_le_pow_right (by decide) hM1)
          have h2 : b < 65536 ^ k := Nat.lt_of_lt_of_le HBl.out (Nat.pow_le_pow_right (by decide) hM2)
          rw [Nat.mod_eq_of_lt h1, Nat.mod_eq_of_lt h2] at hsum
          have hcc : c = 1 := by omega
          subst hcc
          refine ⟨by omega, ?_⟩
          have h3 : dg 65536 a k = 0 := dg_high (by decide) h1 (Nat.le_refl _)
          have h4 : dg 65536 b k = 0 := dg_high (by decide) h2 (Nat.le_refl _)
          rw [h3, h4]
      have HB := Lib.hid hbel
      have hltw := hown.lt
      have HLT := Lib.hid hltw
      have hsz := hbel.size
      unfold Own at hown
      clear hbel hltw hsum hX
      generalize dg 65536 a k = da at *
      generalize dg 65536 b k = db at *
      have HE : Hid ((((c + da + db) % 65536 : Nat) : Int) = (c + (da + db) : Int) % 65536) := by show _ = _; omega
      have HE2 : Hid ((((c + da + db) / 65536 : Nat) : Int) = (c + (da + db) : Int) / 65536) := by show _ = _; omega
      have hcond : (k : Int) < la ∨ (¬ (k : Int) < la ∧ (k : Int) < lb) ∨ (¬ (k : Int) < la ∧ ¬ (k : Int) < lb ∧ (0 : Int) < c) := by omega
      clear hcont
      rcases hcond with hcond | ⟨hcond0, hcond⟩ | ⟨hcond0, hcond1, hcond⟩
      all_goals
        go_wp2_with fail
        refine hA.out.mono ?_
        rintro e w' ⟨rfl, rfl⟩
        go_wp2_with fail
        refine hB'.out.mono ?_
        rintro e w' ⟨rfl, rfl⟩
        go_wp2_with (at_builtin; refine wpList_append_own _ rfl _ _ 34 rfl w.heap.size 3 i0 (.int .i64 0) 1 8 Tryd.underlying34 hi hz0 hz1 hz2 rfl (by decide) _ _ _ rfl (hown.alloc _) ⟨wr.heap.size, 0, none⟩ 1 1 [.int .i64 ((c + (da + db) : Int) % 65536)] rfl rfl ?c1 ?c2 ?c3 ?c4 ?c5 ?_)
        case c1 => exact cell_one_new _ _ _
        case c2 => intro u hu; simp at hu; subst hu; rfl
        case c3 => unfold maxLen; omega
        case c4 => omega
        case c5 => simp; omega
        intro v' w4 hown4 hgrow hnil
        have HFIN : Hid (AddRel a b w (k + 1) (X + 65536 ^ k * ((c + da + db) % 65536)) ((c + da + db) / 65536) v' w4) := by
          refine ⟨by omega, HLT2.out, HSR.out, ?_, ?_⟩
          · unfold Own
            rw [HPS.out, List.map_append]
            show w4.ownsRow _ _ _ _ _ (_ ++ [Value.int .i64 (((c + da + db) % 65536 : Nat) : Int)])
            rw [HE.out]
            exact hown4
          · refine Below.grown (HB.out.alloc (by omega) _) hgrow (by simp; omega) ?_
            intro j hj
            exact (HLT.out _ hj).1
        clear hown4 hgrow hnil
        go_wp2
        go_roundg (M + 1 - (k + 1))
        case measure => have := HK.out; omega
        case rel => exact ⟨k + 1, _, _, by show _ = _; omega, by go_num, congrArg _ HE2.out.symm, HFIN.out, HKM2.out⟩
    · have hk : la ≤ k ∧ lb ≤ k ∧ c = 0 := by omega
      obtain ⟨hk2, hk3, hc0⟩ := hk
      subst hc0
      obtain ⟨-, hX, hsum, hown, hbel⟩ := hrel
      have h1 : a < 65536 ^ k := Nat.lt_of_lt_of_le HAl.out (Nat.pow_le_pow_right (by decide) hk2)
      have h2 : b < 65536 ^ k := Nat.lt_of_lt_of_le HBl.out (Nat.pow_le_pow_right (by decide) hk3)
      rw [Nat.mod_eq_of_lt h1, Nat.mod_eq_of_lt h2, Nat.mul_zero, Nat.add_zero] at hsum
      subst hsum
      have hnd : nd 65536 (a + b) = k := by
        refine add_len HLA.out HLB.out hX hk2 hk3 ?_
        rcases HKM.out with h | ⟨h, _⟩
        · have := HM3.out; omega
        · rcases Nat.lt_or_ge k (M + 1) with h' | h'
          · have := HM3.out; omega
          · have : k = M + 1 := by omega
            subst this
            exact .inr (.inr ⟨by omega, h⟩)
      have HIS := Lib.hid (hown.isN (by decide) hnd)
      have HFR := Lib.hid (own_FR hown (a + b))
      have HB := Lib.hid hbel
      have hn1 : ¬ (k : Int) < la := by omega
      have hn2 : ¬ (k : Int) < lb := by omega
      clear hX hown hbel hcont
      go_wp2
      go_ret
      exact ⟨_, rfl, HIS.out, HB.out, HFR.out⟩
set_option maxHeartbeats 2000000 in
set_option maxRecDepth 100000 in
theorem RShl_f (v : Value) (a n : Nat) (w : World) (hv : R w v a) (ha : nd 65536 a ≤ 500000) (hn : n ≤ 8000000) :
    Calls Tryd.prog 45 #[v, .int .i64 n] w fun e w' => ∃ r, e = .returned r ∧ R w' r (a * 2 ^ n) ∧ Below w.heap.size w w' ∧ FR w.heap.size r (a * 2 ^ n) := by
  obtain ⟨i0, hi, hz0, hz1, hz2⟩ := info_parts Tryd.infoInt
  have hB : 2 ≤ 65536 := by decide
  obtain ⟨ao, ac, rfl, hcv⟩ := hv.shape
  have HC := Lib.hid hcv
  clear hv hcv
  have HAl := Lib.hid (nd_lt hB a)
  generalize hna : nd 65536 a = la at *
  clear hna
  obtain ⟨wh, hwh⟩ : ∃ wh, wh = n / 16 := ⟨_, rfl⟩
  obtain ⟨s, hs⟩ : ∃ s, s = n % 16 := ⟨_, rfl⟩
  have hs16 : s < 16 := by omega
  have q1 : (n : Int) / 16 = wh := by omega
  have q2 : (n : Int) % 16 = s := by omega
  have HNW : Hid (n = 16 * wh + s) := by show _ = _; omega
  have hwl : wh ≤ 500000 := by omega
  clear hwh hs
  have hpp : 0 < 2 ^ s := Nat.pow_pos (by decide)
  have hpl : 2 ^ s ≤ 65536 := Nat.le_trans (Nat.pow_le_pow_right (by decide) (show s ≤ 16 by omega)) (by decide)
  have HP := Lib.hid (fun w => power_any s w (by omega))
  obtain ⟨p, hpe⟩ : ∃ p, p = 2 ^ s := ⟨_, rfl⟩
  have HPE := Lib.hid hpe
  rw [← hpe] at HP hpp hpl
  clear hpe
  have hmk := made_int wh (by omega)
  go_enter Tryd.func45, Tryd.ntmps45
  go_wp2_with fail
  refine (HP.out _).mono ?_
  rintro e w' ⟨rfl, rfl⟩
  have HPD : Hid (∀ c d : Nat, c < p → d < 65536 → c + d * p < 8589934592) := by
    intro c d h1 h2
    have h3 : d * p ≤ 65535 * 65536 := Nat.mul_le_mul (by omega) hpl
    omega
  go_wp2
  go_loopg [5, 6, 8] la (fun m out c x wr => ∃ k X cc : Nat, Hid (k + m = la) ∧ x = .int .i64 k ∧ c = .int .i64 cc ∧ RShlRel a s wh w k X cc out wr)
  case atStart => exact ⟨0, 0, 0, by show _ = _; omega, rfl, rfl, by rw [← HPE.out]; exact hpp, by simp, by simp [Nat.mod_one], by simpa using own_zeros wh (by omega), (Below.refl _ _).alloc (Nat.le_refl _) _⟩
  case round =>
    obtain ⟨k, X, c, HK, rfl, rfl, hc1, hX, hsum, hown, hbel⟩ := hrel
    have hkl : k ≤ la := by have := HK.out; omega
    rw [← HPE.out] at hc1 hsum
    by_cases hlt : k < la
    · have hlt' : (k : Int) < la := by omega
      obtain ⟨gb, go, rfl, hca⟩ := HC.out k hlt
      have hca' : wr.cell? ⟨gb, go + k, none⟩ = some (.int .i64 (dg 65536 a k : Nat)) := by
        rw [hbel.cell (p := ⟨gb, go + k, none⟩) (World.block_lt_of_cell? _ _ hca)]; exact hca
      have hda := dg_lt (B := 65536) (by decide) a k
      have hq := HPD.out c _ hc1 hda
      obtain ⟨q, hqe⟩ : ∃ q, q = c + dg 65536 a k * p := ⟨_, rfl⟩
      have hX2 : X + 65536 ^ k * (q % 65536) < 65536 ^ (k + 1) := snoc_lt hX (Nat.mod_lt _ (by decide))
      have hsum2 : (X + 65536 ^ k * (q % 65536)) + 65536 ^ (k + 1) * (q / 65536) = a % 65536 ^ (k + 1) * p := by rw [hqe]; exact shl_round hsum
      have hc2 : q / 65536 < p := by rw [hqe]; exact shl_carry hc1 hda
      have HPS := Lib.hid (pad_wh (wh := wh) hX (show q % 65536 < 65536 from Nat.mod_lt _ (by decide)))
      have HE : Hid (wrap64 ((c : Int) + wrap64 ((dg 65536 a k : Nat) * (p : Int))) = (q : Int)) := by
        show _ = _
        have hq2 := hqe
        have hq3 := hq
        rw [show ((dg 65536 a k : Nat) : Int) * (p : Int) = ((dg 65536 a k * p : Nat) : Int) from by simp]
        generalize dg 65536 a k * p = y at hq2 hq3 ⊢
        rw [IntWalk.wrap64_in (y : Int) (by omega), IntWalk.wrap64_in _ (by omega)]
        omega
      rw [← hqe] at hq
      have HS2 := Lib.hid (And.intro hc2 (And.intro hX2 hsum2))
      have HB := Lib.hid hbel
      have hltw := hown.lt
      have HLT := Lib.hid hltw
      have hsz := hbel.size
      unfold Own at hown
      have HONE : Hid (∀ x : Int, ∀ u ∈ [Value.int .i64 x], u.oneCell' = true) := by intro x u hu; simp at hu; subst hu; rfl
      clear hca hbel hltw hX hsum hqe hc2 hX2 hsum2
      generalize dg 65536 a k = da at *
      go_wp2_with (at_builtin; go_must (refine wpList_append_own _ rfl _ _ 34 rfl w.heap.size 3 i0 (.int .i64 0) 1 8 Tryd.underlying34 hi hz0 hz1 hz2 rfl (by decide) _ _ _ rfl (hown.alloc _) ⟨wr.heap.size, 0, none⟩ 1 1 [_] rfl rfl (cell_one_new _ _ _) (HONE.out _) ?c3 ?c4 ?c5 ?_))
      case c3 => unfold maxLen; omega
      case c4 => omega
      case c5 => simp; omega
      intro v' w4 hown4 hgrow hnil
      have hq0 : (q : Int).tmod 65536 = ((q % 65536 : Nat) : Int) := by rw [Int.tmod_eq_emod_of_nonneg (by omega)]; omega
      have hq4 : (q : Int).tdiv 65536 = ((q / 65536 : Nat) : Int) := by rw [Int.tdiv_eq_ediv_of_nonneg (by omega)]; omega
      have HFIN : Hid (RShlRel a s wh w (k + 1) (X + 65536 ^ k * (q % 65536)) (q / 65536) v' w4) := by
        rw [HE.out, hq0] at hown4
        refine ⟨by rw [← HPE.out]; exact HS2.out.1, HS2.out.2.1, by rw [← HPE.out]; exact HS2.out.2.2, ?_, ?_⟩
        · unfold Own
          rw [← Nat.add_assoc, HPS.out, List.map_append]
          exact hown4
        · refine Below.grown (HB.out.alloc (by omega) _) hgrow (by simp; omega) ?_
          intro j hj
          exact (HLT.out _ hj).1
      have HQ4 := Lib.hid hq4
      clear hown4 hgrow hnil hown hq0 hq4
      go_wp2
      rw [HE.out, HQ4.out]
      go_roundg (la - (k + 1))
      case measure => have := HK.out; omega
      case rel => exact ⟨k + 1, _, q / 65536, by have := HK.out; show _ = _; omega, by go_num, by first | rfl | (rw [IntWalk.wrap64_in _ (by omega)]) | go_num, HFIN.out⟩
    · obtain rfl : k = la := by omega
      have hnl : ¬ ((k : Int) < k) := by omega
      rw [Nat.mod_eq_of_lt HAl.out] at hsum
      have hval : 65536 ^ wh * (X + 65536 ^ k * c) = a * 2 ^ n := by
        rw [hsum, HPE.out, pow_n HNW.out, Nat.mul_left_comm]
      have hxl : a * 2 ^ n < 65536 ^ (wh + k + 1) := by
        rw [← hval, Nat.add_assoc, Nat.pow_add 65536 wh]
        exact Nat.mul_lt_mul_of_pos_left (snoc_lt hX (by omega)) (Nat.pow_pos (by decide))
      have HPS := Lib.hid (pad_wh (wh := wh) (d := c) hX (by omega))
      rw [hval] at HPS
      have HT := Lib.hid (fun v' w4 (h : Own .i64 65536 3 w4 w.heap.size v' (wh + k + 1) (a * 2 ^ n)) => Trim_own_f _ _ _ _ _ h hxl (by omega))
      have HB := Lib.hid hbel
      have hltw := hown.lt
      have HLT := Lib.hid hltw
      have hsz := hbel.size
      have HONE : Hid (∀ x : Int, ∀ u ∈ [Value.int .i64 x], u.oneCell' = true) := by intro x u hu; simp at hu; subst hu; rfl
      unfold Own at hown
      clear hbel hltw hX hsum hval hxl hlt
      go_wp2_with (at_builtin; go_must (refine wpList_append_own _ rfl _ _ 34 rfl w.heap.size 3 i0 (.int .i64 0) 1 8 Tryd.underlying34 hi hz0 hz1 hz2 rfl (by decide) _ _ _ rfl (hown.alloc _) ⟨wr.heap.size, 0, none⟩ 1 1 [_] rfl rfl (cell_one_new _ _ _) (HONE.out _) ?d3 ?d4 ?d5 ?_))
      case d3 => unfold maxLen; omega
      case d4 => omega
      case d5 => first | omega | (simp; omega)
      intro v' w4 hown4 hgrow hnil
      have HT2 : Hid (Below w.heap.size w w4) := by
        refine Below.grown (HB.out.alloc (by omega) _) hgrow (by simp; omega) ?_
        intro j hj
        exact (HLT.out _ hj).1
      have HO4 : Hid (Own .i64 65536 3 w4 w.heap.size v' (wh + k + 1) (a * 2 ^ n)) := by
        show Own _ _ _ _ _ _ _ _
        unfold Own
        rw [HPS.out, List.map_append]
        exact hown4
      clear hown4 hgrow hnil hown
      go_wp2_with fail
      refine (HT.out _ _ HO4.out).mono ?_
      rintro e w5 ⟨r, rfl, hr, rfl, hfrr⟩
      obtain ⟨ro, rc, rfl, -⟩ := hr.shape
      have HR := Lib.hid hr
      have HFR := Lib.hid hfrr
      clear hr hfrr
      go_wp2
      go_ret
      exact ⟨_, rfl, HR.out, HT2.out, HFR.out⟩
end Go.Proofs.YtmbgnkgjmmhncabDoor
