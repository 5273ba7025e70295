/- The contracts of the document's own functions on numbers: Of, BitLen. -/
import Derived.Test.YtgjkhbognenajaaGreatDoorRa
namespace Go.Proofs.YtgjkhbognenajaaGreatDoor
open Go Go.RowKit Gu

theorem nd_le_self16 {n : Nat} (h : n ≤ 9223372036854775807) : nd 65536 n ≤ 4 := (nd_le (by decide)).2 (by omega)
/-- what the loop of Of keeps: k digits are out -/
def OfRel (n : Nat) (w : World) (k : Nat) (v : Value) (wr : World) : Prop :=
  k ≤ nd 65536 n ∧ Own .i64 65536 3 wr w.heap.size v k (n % 65536 ^ k) ∧ Below w.heap.size w wr
set_option maxHeartbeats 1000000 in
set_option maxRecDepth 100000 in
theorem Of_any (n : Nat) (w : World) (hn : n ≤ 9223372036854775807) :
    Calls Tryz.prog 37 #[.int .i64 n] w fun e w' => ∃ r, e = .returned r ∧ R w' r n ∧ Below w.heap.size w w' := by
  obtain ⟨i0, hi, hz0, hz1, hz2⟩ := info_parts Tryz.infoInt
  have h4 := nd_le_self16 hn
  go_enter Tryz.func37, Tryz.ntmps37
  go_wp2
  go_loopg [0, 3] (nd 65536 n) (fun m x v wr => ∃ k, Hid (m + k = nd 65536 n) ∧ x = .int .i64 (n / 65536 ^ k : Nat) ∧ OfRel n w k v wr)
  case atStart => exact ⟨0, rfl, by simp, Nat.zero_le _, by rw [Nat.pow_zero, Nat.mod_one]; exact Own.nil _ _ _ _ _, Below.refl _ _⟩
  case round =>
    obtain ⟨k, HK, rfl, hk, hown, hbel⟩ := hrel
    have hle : n / 65536 ^ k ≤ n := Nat.div_le_self _ _
    rcases Nat.eq_zero_or_pos (n / 65536 ^ k) with hz | hz
    · have hkm : nd 65536 n = k := by
        have h1 := (nd_le (by decide : 2 ≤ 65536) (n := n) (k := k)).2 (by
          rcases Nat.lt_or_ge n (65536 ^ k) with h | h
          · exact h
          · have := Nat.div_pos h (Nat.pow_pos (by decide)); omega)
        omega
      have hmod : n % 65536 ^ k = n := Nat.mod_eq_of_lt (by rw [← hkm]; exact nd_lt (by decide) n)
      rw [hmod] at hown
      have HIS := Lib.hid (hown.isN (by decide) hkm)
      have HB := Lib.hid hbel
      rw [hz]
      clear hz hkm hmod hown hbel hle
      go_wp2
      go_ret
      exact ⟨_, rfl, HIS.out, HB.out⟩
    · have hpos : (0 : Int) < ((n / 65536 ^ k : Nat) : Int) := by omega
      have hdig : (n / 65536 ^ k) % 65536 = dg 65536 n k := rfl
      have hnext : (n / 65536 ^ k) / 65536 = n / 65536 ^ (k + 1) := by rw [Nat.div_div_eq_div_mul, ← Nat.pow_succ]
      have hkm : k < nd 65536 n := by
        rcases Nat.lt_or_ge k (nd 65536 n) with h | h
        · exact h
        · have := Nat.div_eq_of_lt (Nat.lt_of_lt_of_le (nd_lt (by decide : 2 ≤ 65536) n) (Nat.pow_le_pow_right (by decide) h))
          omega
      have hd := dg_lt (B := 65536) (by decide) n k
      have HD1 : Hid (((n / 65536 ^ k : Nat) : Int) % 65536 = (dg 65536 n k : Nat)) := by show _ = _; rw [← hdig]; omega
      have HD2 : Hid (((n / 65536 ^ k : Nat) : Int) / 65536 = (n / 65536 ^ (k + 1) : Nat)) := by show _ = _; rw [← hnext]; omega
      have HPS : Hid (pad 65536 (k + 1) (n % 65536 ^ (k + 1)) = pad 65536 k (n % 65536 ^ k) ++ [dg 65536 n k]) := by
        show _ = _
        rw [mod_succ]
        exact pad_succ (by decide) (Nat.mod_lt _ (Nat.pow_pos (by decide))) hd
      have HB := Lib.hid hbel
      have hlt := hown.lt
      have HLT := Lib.hid hlt
      have hsz := hbel.size
      unfold Own at hown
      clear hbel hdig hnext hlt hz
      generalize n / 65536 ^ k = x at *
      generalize dg 65536 n k = d at *
      go_wp2_with (at_builtin; refine wpList_append_own _ rfl _ _ 22 rfl w.heap.size 3 i0 (.int .i64 0) 1 8 Tryz.underlying22 hi hz0 hz1 hz2 rfl (by decide) _ _ _ rfl (hown.alloc _) ⟨wr.heap.size, 0, none⟩ 1 1 [.int .i64 ((x : Int) % 65536)] rfl rfl ?c1 ?c2 ?c3 ?c4 ?c5 ?_)
      case c1 => exact cell_one_new _ _ _
      case c2 => intro u hu; simp at hu; subst hu; rfl
      case c3 => unfold maxLen; omega
      case c4 => omega
      case c5 => simp; omega
      intro v' w4 hown4 hgrow hnil
      have HFIN : Hid (OfRel n w (k + 1) v' w4) := by
        refine ⟨by omega, ?_, ?_⟩
        · unfold Own
          rw [HPS.out, List.map_append]
          rw [HD1.out] at hown4
          exact hown4
        · refine Below.grown (HB.out.alloc (by omega) _) hgrow (by simp; omega) ?_
          intro j hj
          exact (HLT.out _ hj).1
      clear hown4 hgrow hnil hown
      go_wp2
      go_roundg (nd 65536 n - (k + 1))
      case measure => have := HK.out; omega
      case rel => exact ⟨k + 1, by show _ = _; omega, by rw [HD2.out], HFIN.out⟩
end Go.Proofs.YtgjkhbognenajaaGreatDoor
