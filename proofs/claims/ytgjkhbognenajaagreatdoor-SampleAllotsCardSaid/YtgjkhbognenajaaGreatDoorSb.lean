/- The contract of the document's own function Add. -/
import Derived.Test.YtgjkhbognenajaaGreatDoorSa
namespace Go.Proofs.YtgjkhbognenajaaGreatDoor
open Go Go.RowKit Gu

/-- what the loop of Add keeps: k digits are out, the carry -/
def AddRel (a b : Nat) (w : World) (k X c : Nat) (v : Value) (wr : World) : Prop :=
  c ≤ 1 ∧ X < 65536 ^ k ∧ X + 65536 ^ k * c = a % 65536 ^ k + b % 65536 ^ k ∧ Own .i64 65536 3 wr w.heap.size v k X ∧ Below w.heap.size w wr
/-- how many digits a sum has -/
theorem sum_top {B a b M : Nat} (hB : 2 ≤ B) (ha : a < B ^ M) (hb : b < B ^ M) : a + b < B ^ (M + 1) := by
  rw [Nat.pow_succ]
  have := Nat.mul_le_mul_left (B ^ M) hB
  omega
theorem add_len {a b la lb k : Nat} (ha : nd 65536 a = la) (hb : nd 65536 b = lb) (hX : a + b < 65536 ^ k) (h1 : la ≤ k) (h2 : lb ≤ k)
    (h : k ≤ la ∨ k ≤ lb ∨ (0 < k ∧ 65536 ^ (k - 1) ≤ a + b)) : nd 65536 (a + b) = k := by
  have hB : 2 ≤ 65536 := by decide
  have hle := (nd_le hB).2 hX
  rcases Nat.eq_or_lt_of_le hle with h3 | h3
  · exact h3
  · exfalso
    have h4 := nd_mono hB (show a ≤ a + b by omega)
    have h5 := nd_mono hB (show b ≤ a + b by omega)
    rcases h with h | h | ⟨h0, h⟩
    · omega
    · omega
    · have := (nd_le hB (n := a + b) (k := k - 1)).1 (by omega)
      omega
set_option maxHeartbeats 2000000 in
set_option maxRecDepth 100000 in
theorem RAdd_any (v u : Value) (a b : Nat) (w : World) (hv : R w v a) (hu : R w u b) (ha : nd 65536 a ≤ 1048576) (hb : nd 65536 b ≤ 1048576) :
    Calls Tryz.prog 36 #[v, u] w fun e w' => ∃ r, e = .returned r ∧ R w' r (a + b) ∧ Below w.heap.size w w' := by
  obtain ⟨i0, hi, hz0, hz1, hz2⟩ := info_parts Tryz.infoInt
  have hB : 2 ≤ 65536 := by decide
  obtain ⟨ao, ac, rfl, -⟩ := hv.shape
  obtain ⟨bo, bc, rfl, -⟩ := hu.shape
  have HV := Lib.hid hv; have HU := Lib.hid hu
  clear hv hu
  have HAl := Lib.hid (nd_lt hB a); have HBl := Lib.hid (nd_lt hB b)
  have HNa : Hid (nd 65536 a ≤ 4611686018427387904) := by show _ ≤ _; omega
  have HNb : Hid (nd 65536 b ≤ 4611686018427387904) := by show _ ≤ _; omega
  obtain ⟨la, hla⟩ : ∃ la, nd 65536 a = la := ⟨_, rfl⟩
  obtain ⟨lb, hlb⟩ : ∃ lb, nd 65536 b = lb := ⟨_, rfl⟩
  have HLA := Lib.hid hla; have HLB := Lib.hid hlb
  rw [hla] at ha HV HAl ⊢
  rw [hlb] at hb HU HBl ⊢
  clear hla hlb
  obtain ⟨M, hM1, hM2, hM3⟩ : ∃ M, la ≤ M ∧ lb ≤ M ∧ (M = la ∨ M = lb) := ⟨max la lb, by omega, by omega, by omega⟩
  have HM3 := Lib.hid hM3
  have hM : M ≤ 1048576 := by omega
  clear hM3
  go_enter Tryz.func36, Tryz.ntmps36
  go_wp2
  go_loopg [5, 6, 7] (M + 1) (fun m out c i wr => ∃ k X cc : Nat, Hid (m + k = M + 1) ∧ i = .int .i64 k ∧ c = .int .i64 cc ∧ AddRel a b w k X cc out wr ∧ Hid (k ≤ M ∨ (65536 ^ M ≤ a + b ∧ cc = 0)))
  case atStart => exact ⟨0, 0, 0, rfl, rfl, rfl, ⟨by omega, by simp, by simp [Nat.mod_one], Own.nil _ _ _ _ _, Below.refl _ _⟩, .inl (Nat.zero_le _)⟩
  case round =>
    obtain ⟨k, X, c, HK, rfl, rfl, hrel, HKM⟩ := hrel
    have hc1 : c ≤ 1 := hrel.1
    have hk1 : k ≤ M + 1 := by have := HK.out; omega
    by_cases hcont : k < la ∨ k < lb ∨ 0 < c
    · have hkM : k ≤ M := by
        rcases HKM.out with h | ⟨_, h⟩
        · exact h
        · omega
      obtain ⟨-, hX, hsum, hown, hbel⟩ := hrel
      have hA := Lib.hid (Rat_any _ a k wr (HV.out.below hbel) HNa.out)
      have hB' := Lib.hid (Rat_any _ b k wr (HU.out.below hbel) HNb.out)
      have hda := dg_lt (B := 65536) (by decide) a k
      have hdb := dg_lt (B := 65536) (by decide) b k
      have hd : (c + dg 65536 a k + dg 65536 b k) % 65536 < 65536 := Nat.mod_lt _ (by decide)
      have HSR := Lib.hid (sum_round (B := 65536) hsum)
      have HPS := Lib.hid (pad_succ (by decide) hX hd)
      have HLT2 := Lib.hid (snoc_lt hX hd)
      have HKM2 : Hid (k + 1 ≤ M ∨ (65536 ^ M ≤ a + b ∧ (c + dg 65536 a k + dg 65536 b k) / 65536 = 0)) := by
        show _ ∨ _
        rcases Nat.lt_or_ge k M with h | h
        · exact .inl h
        · refine .inr ?_
          have hkM2 : k = M := by omega
          subst hkM2
          have h1 : a < 65536 ^ k := Nat.lt_of_lt_of_le HAl.out (Nat.pow_le_pow_right (by decide) hM1)
          have h2 : b < 65536 ^ k := Nat.lt_of_lt_of_le HBl.out (Nat.pow_le_pow_right (by decide) hM2)
          rw [Nat.mod_eq_of_lt h1, Nat.mod_eq_of_lt h2] at hsum
          have hcc : c = 1 := by omega
          subst hcc
          refine ⟨by omega, ?_⟩
          have h3 : dg 65536 a k = 0 := dg_high (by decide) h1 (Nat.le_refl _)
          have h4 : dg 65536 b k = 0 := dg_high (by decide) h2 (Nat.le_refl _)
          rw [h3, h4]
      have HB := Lib.hid hbel
      have hltw := hown.lt
      have HLT := Lib.hid hltw
      have hsz := hbel.size
      unfold Own at hown
      clear hbel hltw hsum hX
      generalize dg 65536 a k = da at *
      generalize dg 65536 b k = db at *
      have HE : Hid ((((c + da + db) % 65536 : Nat) : Int) = (c + (da + db) : Int) % 65536) := by show _ = _; omega
      have HE2 : Hid ((((c + da + db) / 65536 : Nat) : Int) = (c + (da + db) : Int) / 65536) := by show _ = _; omega
      have hcond : (k : Int) < la ∨ (¬ (k : Int) < la ∧ (k : Int) < lb) ∨ (¬ (k : Int) < la ∧ ¬ (k : Int) < lb ∧ (0 : Int) < c) := by omega
      clear hcont
      rcases hcond with hcond | ⟨hcond0, hcond⟩ | ⟨hcond0, hcond1, hcond⟩
      all_goals
        go_wp2_with fail
        refine hA.out.mono ?_
        rintro e w' ⟨rfl, rfl⟩
        go_wp2_with fail
        refine hB'.out.mono ?_
        rintro e w' ⟨rfl, rfl⟩
        go_wp2_with (at_builtin; refine wpList_append_own _ rfl _ _ 22 rfl w.heap.size 3 i0 (.int .i64 0) 1 8 Tryz.underlying22 hi hz0 hz1 hz2 rfl (by decide) _ _ _ rfl (hown.alloc _) ⟨wr.heap.size, 0, none⟩ 1 1 [.int .i64 ((c + (da + db) : Int) % 65536)] rfl rfl ?c1 ?c2 ?c3 ?c4 ?c5 ?_)
        case c1 => exact cell_one_new _ _ _
        case c2 => intro u hu; simp at hu; subst hu; rfl
        case c3 => unfold maxLen; omega
        case c4 => omega
        case c5 => simp; omega
        intro v' w4 hown4 hgrow hnil
        have HFIN : Hid (AddRel a b w (k + 1) (X + 65536 ^ k * ((c + da + db) % 65536)) ((c + da + db) / 65536) v' w4) := by
          refine ⟨by omega, HLT2.out, HSR.out, ?_, ?_⟩
          · unfold Own
            rw [HPS.out, List.map_append]
            show w4.ownsRow _ _ _ _ _ (_ ++ [Value.int .i64 (((c + da + db) % 65536 : Nat) : Int)])
            rw [HE.out]
            exact hown4
          · refine Below.grown (HB.out.alloc (by omega) _) hgrow (by simp; omega) ?_
            intro j hj
            exact (HLT.out _ hj).1
        clear hown4 hgrow hnil
        go_wp2
        go_roundg (M + 1 - (k + 1))
        case measure => have := HK.out; omega
        case rel => exact ⟨k + 1, _, _, by show _ = _; omega, by go_num, congrArg _ HE2.out.symm, HFIN.out, HKM2.out⟩
    · have hk : la ≤ k ∧ lb ≤ k ∧ c = 0 := by omega
      obtain ⟨hk2, hk3, hc0⟩ := hk
      subst hc0
      obtain ⟨-, hX, hsum, hown, hbel⟩ := hrel
      have h1 : a < 65536 ^ k := Nat.lt_of_lt_of_le HAl.out (Nat.pow_le_pow_right (by decide) hk2)
      have h2 : b < 65536 ^ k := Nat.lt_of_lt_of_le HBl.out (Nat.pow_le_pow_right (by decide) hk3)
      rw [Nat.mod_eq_of_lt h1, Nat.mod_eq_of_lt h2, Nat.mul_zero, Nat.add_zero] at hsum
      subst hsum
      have hnd : nd 65536 (a + b) = k := by
        refine add_len HLA.out HLB.out hX hk2 hk3 ?_
        rcases HKM.out with h | ⟨h, _⟩
        · have := HM3.out; omega
        · rcases Nat.lt_or_ge k (M + 1) with h' | h'
          · have := HM3.out; omega
          · have : k = M + 1 := by omega
            subst this
            exact .inr (.inr ⟨by omega, h⟩)
      have HIS := Lib.hid (hown.isN (by decide) hnd)
      have HB := Lib.hid hbel
      have hn1 : ¬ (k : Int) < la := by omega
      have hn2 : ¬ (k : Int) < lb := by omega
      clear hX hown hbel hcont
      go_wp2
      go_ret
      exact ⟨_, rfl, HIS.out, HB.out⟩
end Go.Proofs.YtgjkhbognenajaaGreatDoor
