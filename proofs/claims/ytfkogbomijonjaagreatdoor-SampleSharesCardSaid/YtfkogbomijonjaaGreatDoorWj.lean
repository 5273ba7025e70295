/- The contracts of clone, and of divide where the divisor has one digit or is greater. -/
import Derived.Test.YtfkogbomijonjaaGreatDoorWi
namespace Go.Proofs.YtfkogbomijonjaaGreatDoor
open Go Go.RowKit Gu

theorem trim_nil (w : World) : Calls Tryz.prog 55 #[.slice none 0 0] w fun e w' => (∃ r, e = .returned r ∧ D w' r 0) ∧ w = w' := by
  go_enter Tryz.func55, Tryz.ntmps55
  go_wp2
  refine wp_loop_rounds 1 ?_; rw [rounds_succ]
  go_wp2
  go_ret
  exact ⟨⟨_, rfl, IsN.zero _ _ _ _ _⟩, rfl⟩
theorem newsU32 (n m : Nat) : ∀ u ∈ (pad 4294967296 m n).map (fun d : Nat => Value.int .u32 (d : Int)), u.oneCell' = true := by
  intro u hu
  obtain ⟨d, _, rfl⟩ := List.mem_map.1 hu
  rfl
theorem eqlNil (w : World) (a : Option Addr) (n c n' c' : Nat) : (binOp .eql 31 (.slice a n c) (.slice none n' c')).run Tryz.prog w = .ok (.bool a.isNone) w := Lib.run_eql_slice_nil w _ _ a n c n' c' Tryz.underlying31
theorem sclone_nil (n c : Nat) (w : World) : Calls Tryz.prog 93 #[.slice none n c] w fun e w' => e = .returned (.slice none 0 0) ∧ w = w' := by
  have q := eqlNil
  go_enter Tryz.func93, Tryz.ntmps93
  go_wp2
  go_ret
  exact ⟨rfl, rfl⟩
set_option maxHeartbeats 400000 in
set_option maxRecDepth 100000 in
theorem sclone_some (b o m cap a : Nat) (w : World) (hc : ∀ i, i < m → w.cell? ⟨b, o + i, none⟩ = some (.int .u32 (dg 4294967296 a i : Nat))) (hm : m ≤ 1048576) :
    Calls Tryz.prog 93 #[.slice (some ⟨b, o, none⟩) m cap] w fun e w' => ∃ v', e = .returned v' ∧ Own .u32 4294967296 75 w' w.heap.size v' m a ∧ v' ≠ .slice none 0 0 ∧ Below w.heap.size w w' := by
  obtain ⟨i0, hi, hz0, hz1, hz2⟩ := info_parts Tryz.infoU32
  have q := eqlNil
  have HC := Lib.hid hc; clear hc
  go_enter Tryz.func93, Tryz.ntmps93
  go_wp2_with (at_builtin; refine wpList_append_own _ rfl _ _ 31 rfl w.heap.size 75 i0 (.int .u32 0) 1 4 Tryz.underlying31 hi hz0 hz1 hz2 rfl (by decide) _ _ _ rfl (World.ownsRow_made w #[] 0 (Nat.le_refl _) (Nat.zero_le _) rfl) ⟨b, o, none⟩ m cap ((pad 4294967296 m a).map fun d : Nat => Value.int .u32 (d : Int)) rfl ?qc1 ?qc2 ?qc3 ?qc4 ?qc5 ?qc6 ?_)
  case qc1 => simp [pad]
  case qc2 =>
    intro j u hj
    have hjm : j < m := by
      have := (List.getElem?_eq_some_iff.1 hj).1
      simpa [pad] using this
    rw [Addr.add_lit]
    refine Lib.cell?_alloc_some _ ?_
    rw [HC.out j hjm]
    rw [← hj]
    simp [pad, hjm]
  case qc3 => exact newsU32 a m
  case qc4 => unfold maxLen; omega
  case qc5 => omega
  case qc6 => simp
  intro v' w1 hown hgrow hnil
  go_wp2
  go_ret
  refine ⟨v', rfl, by unfold Own; simpa using hown, ?_, ?_⟩
  · exact hnil
  · exact ((Below.refl _ w).alloc (Nat.le_refl _) _).grown hgrow (by simp) (by intro k hk; simp [Value.ownBlock] at hk; omega)
set_option maxHeartbeats 400000 in
set_option maxRecDepth 100000 in
theorem sclone_zero (ad : Addr) (cap : Nat) (w : World) :
    Calls Tryz.prog 93 #[.slice (some ad) 0 cap] w fun e w' => ∃ v', e = .returned v' ∧ Own .u32 4294967296 75 w' w.heap.size v' 0 0 ∧ v' ≠ .slice none 0 0 ∧ Below w.heap.size w w' := by
  obtain ⟨i0, hi, hz0, hz1, hz2⟩ := info_parts Tryz.infoU32
  have q := eqlNil
  go_enter Tryz.func93, Tryz.ntmps93
  go_wp2_with (at_builtin; refine wpList_append_own _ rfl _ _ 31 rfl w.heap.size 75 i0 (.int .u32 0) 1 4 Tryz.underlying31 hi hz0 hz1 hz2 rfl (by decide) _ _ _ rfl (World.ownsRow_made w #[] 0 (Nat.le_refl _) (Nat.zero_le _) rfl) ad 0 cap [] rfl rfl (by intro j u hj; simp at hj) (by intro u hu; cases hu) (by unfold maxLen; omega) (by omega) (by simp) ?_)
  intro v' w1 hown hgrow hnil
  go_wp2
  go_ret
  refine ⟨v', rfl, by unfold Own; simpa [pad] using hown, ?_, ?_⟩
  · exact hnil
  · exact ((Below.refl _ w).alloc (Nat.le_refl _) _).grown hgrow (by simp) (by intro k hk; simp [Value.ownBlock] at hk; omega)
set_option maxHeartbeats 400000 in
theorem clone_any (v : Value) (a : Nat) (w : World) (hv : D w v a) (ha : nd 4294967296 a ≤ 1048576) :
    Calls Tryz.prog 79 #[v] w fun e w' => ∃ r, e = .returned r ∧ D w' r a ∧ Below w.heap.size w w' := by
  have hB : 2 ≤ 4294967296 := by decide
  have fin : ∀ (m : Nat) (v' : Value) (w' : World), a < 4294967296 ^ m → m ≤ 1048576 → Own .u32 4294967296 75 w' w.heap.size v' m a → v' ≠ .slice none 0 0 → Calls Tryz.prog 55 #[v'] w' fun e w2 => (∃ r, e = .returned r ∧ D w2 r a) ∧ w' = w2 := by
    intro m v' w' hlt hm hown hne
    rcases hown.shape with ⟨h, _⟩ | ⟨g, cap, rfl, _, _, hcap, _, hc⟩
    · exact absurd h hne
    · refine (trim_any g m cap a w' hc hlt (by omega) hcap).mono ?_
      rintro e w2 ⟨rfl, rfl⟩
      refine ⟨⟨_, rfl, ?_⟩, rfl⟩
      rcases Nat.eq_zero_or_pos a with h0 | h0
      · subst h0; rw [nd_zero]; exact IsN.zero _ _ _ _ _
      · exact .inr ⟨h0, g, 0, _, rfl, fun i hi => by rw [Nat.zero_add]; exact hc i (Nat.lt_of_lt_of_le hi ((nd_le hB).2 hlt))⟩
  have FIN := Lib.hid fin; clear fin
  rcases hv with ⟨h0, ao, cap, rfl⟩ | ⟨h0, b, o, cap, rfl, hc⟩
  · subst h0
    cases ao with
    | none =>
      go_enter Tryz.func79, Tryz.ntmps79
      go_wp2_with fail
      refine (sclone_nil _ _ _).mono ?_
      rintro e w' ⟨rfl, rfl⟩
      go_wp2_with fail
      refine (trim_nil _).mono ?_
      rintro e w' ⟨⟨r, rfl, hr⟩, rfl⟩
      go_wp2
      go_ret
      exact ⟨r, rfl, hr, Below.refl _ _⟩
    | some ad =>
      go_enter Tryz.func79, Tryz.ntmps79
      go_wp2_with fail
      refine (sclone_zero _ _ _).mono ?_
      rintro e w' ⟨v', rfl, hown, hne, hbel⟩
      go_wp2_with fail
      refine (FIN.out 0 _ _ (by simp) (by omega) hown hne).mono ?_
      rintro e w2 ⟨⟨r, rfl, hr⟩, rfl⟩
      go_wp2
      go_ret
      exact ⟨r, rfl, hr, hbel⟩
  · have HL := Lib.hid (nd_lt hB a)
    have HC := Lib.hid hc; clear hc
    generalize hm : nd 4294967296 a = m at *
    clear hm
    go_enter Tryz.func79, Tryz.ntmps79
    go_wp2_with fail
    refine (sclone_some _ _ _ _ a _ HC.out (by omega)).mono ?_
    rintro e w' ⟨v', rfl, hown, hne, hbel⟩
    go_wp2_with fail
    refine (FIN.out m _ _ HL.out (by omega) hown hne).mono ?_
    rintro e w2 ⟨⟨r, rfl, hr⟩, rfl⟩
    go_wp2
    go_ret
    exact ⟨r, rfl, hr, hbel⟩
end Go.Proofs.YtfkogbomijonjaaGreatDoor
