/- The contracts of the document's own functions on numbers: at, Cmp, Add. -/
import Derived.Test.YtgjkhbognenajaaGreatDoorRh
namespace Go.Proofs.YtgjkhbognenajaaGreatDoor
open Go Go.RowKit Gu

theorem Rat_any (v : Value) (n i : Nat) (w : World) (h : R w v n) (hn : nd 65536 n ≤ 4611686018427387904) :
    Calls Tryz.prog 42 #[v, .int .i64 i] w fun e w' => e = .returned (.int .i64 (dg 65536 n i)) ∧ w = w' := by
  rcases h with ⟨h0, ao, cap, hv⟩ | ⟨h0, b, o, cap, hv, hc⟩
  · subst h0; subst hv
    go_enter Tryz.func42, Tryz.ntmps42
    go_wp2
    go_ret
    exact ⟨by rw [dg_zero]; rfl, rfl⟩
  · subst hv
    have hB : 2 ≤ 65536 := by decide
    have hx := dg_lt (B := 65536) (by decide) n i
    by_cases hlt : i < nd 65536 n
    · have hci := hc i hlt
      clear hc
      generalize hd : dg 65536 n i = d at *
      generalize hm : nd 65536 n = m at *
      clear hd hm
      go_enter Tryz.func42, Tryz.ntmps42
      go_wp2
      go_ret
      exact ⟨rfl, rfl⟩
    · have hz : dg 65536 n i = 0 := dg_high (by decide) (nd_lt hB n) (by omega)
      clear hc
      rw [hz]
      generalize hm : nd 65536 n = m at *
      clear hm hz hx
      go_enter Tryz.func42, Tryz.ntmps42
      go_wp2
      go_ret
      exact ⟨rfl, rfl⟩
theorem lt_of_div {a b P : Nat} (h : a / P < b / P) : a < b := by
  rcases Nat.lt_or_ge a b with h1 | h1
  · exact h1
  · have := Nat.div_le_div_right (c := P) h1; omega
set_option maxHeartbeats 1000000 in
theorem RCmp_any (v u : Value) (a b : Nat) (w : World) (hv : R w v a) (hu : R w u b) (ha : nd 65536 a ≤ 1048576) (_hb : nd 65536 b ≤ 1048576) :
    Calls Tryz.prog 38 #[v, u] w fun e w' => e = .returned (.int .i64 (cmpN a b)) ∧ ∃ k, w' = w.drewN k := by
  have hB : 2 ≤ 65536 := by decide
  obtain ⟨ao, ac, rfl, hca⟩ := hv.shape
  obtain ⟨bo, bc, rfl, hcb⟩ := hu.shape
  clear hv hu
  rcases Nat.lt_trichotomy (nd 65536 a) (nd 65536 b) with hl | hl | hl
  · have hlt : a < b := by
      rcases Nat.lt_or_ge a b with h | h
      · exact h
      · have := nd_mono hB h; omega
    have HN : Hid (cmpN a b = -1) := cmpN_lt (by omega)
    clear hca hcb hlt
    generalize nd 65536 a = la at *
    generalize nd 65536 b = lb at *
    have hl' : (la : Int) < lb := by omega
    go_enter Tryz.func38, Tryz.ntmps38
    go_wp2
    go_ret
    exact ⟨by rw [HN.out]; rfl, 0, rfl⟩
  · have hla := nd_lt hB a
    have hlb := nd_lt hB b
    rw [← hl] at hlb hcb ⊢
    have HA := Lib.hid hla; have HBd := Lib.hid hlb
    clear hla hlb hl _hb
    generalize nd 65536 a = n at *
    go_enter Tryz.func38, Tryz.ntmps38
    go_wp2
    go_loopw [5] (fun i wr => ∃ k : Nat, k ≤ n ∧ i = .int .i64 ((k : Int) - 1) ∧ Hid (a / 65536 ^ k = b / 65536 ^ k) ∧ ∃ q, wr = w.drewN q) (fun i _ => (intOf i + 1).toNat)
    case atStart => exact ⟨n, Nat.le_refl _, rfl, by show _ = _; rw [Nat.div_eq_of_lt HA.out, Nat.div_eq_of_lt HBd.out], 0, rfl⟩
    case round =>
      obtain ⟨k, hk, rfl, HE, q, rfl⟩ := hrel
      cases k with
      | zero =>
        rw [show ((0 : Nat) : Int) - 1 = -1 from rfl]
        have HN : Hid (cmpN a b = 0) := by
          show _ = _
          have := HE.out
          rw [Nat.pow_zero, Nat.div_one, Nat.div_one] at this
          exact cmpN_eq (by omega)
        clear hca hcb
        go_wp2
        go_ret
        exact ⟨by rw [HN.out]; rfl, q, rfl⟩
      | succ k =>
        rw [show ((k + 1 : Nat) : Int) - 1 = k from by omega]
        obtain ⟨ga, oa, rfl, h1⟩ := hca k (by omega)
        obtain ⟨gb, ob, rfl, h2⟩ := hcb k (by omega)
        have HDa := Lib.hid (div_succ 65536 a k)
        have HDb := Lib.hid (div_succ 65536 b k)
        have hkn : (k : Int) < n := by omega
        clear hca hcb
        generalize dg 65536 a k = da at *
        generalize dg 65536 b k = db at *
        rcases Nat.lt_trichotomy da db with h | h | h
        · have HN : Hid (cmpN a b = -1) := by
            show _ = _
            have : a < b := lt_of_div (P := 65536 ^ k) (by rw [HDa.out, HDb.out, HE.out]; omega)
            exact cmpN_lt (by omega)
          have h' : (da : Int) < db := by omega
          go_wp2
          go_quiet (fail)
          go_wp2
          go_ret
          refine ⟨by rw [HN.out]; rfl, ?_⟩
          simp only [World.drewN_drewN]
          exact ⟨_, rfl⟩
        · subst h
          have HS : Hid (a / 65536 ^ k = b / 65536 ^ k) := by show _ = _; rw [HDa.out, HDb.out, HE.out]
          go_wp2
          go_quiet (fail)
          go_wp2
          go_quiet (fail)
          go_wp2
          go_roundw
          case rel => exact ⟨k, by omega, by go_num, HS, by first | exact ⟨_, rfl⟩ | (simp only [World.drewN_drewN]; exact ⟨_, rfl⟩)⟩
          case measure => simp [intOf]
        · have HN : Hid (cmpN a b = 1) := by
            show _ = _
            have : b < a := lt_of_div (P := 65536 ^ k) (by rw [HDa.out, HDb.out, HE.out]; omega)
            exact cmpN_gt (by omega)
          have h' : (db : Int) < da := by omega
          have h'' : ¬ (da : Int) < db := by omega
          go_wp2
          go_quiet (fail)
          go_wp2
          go_quiet (fail)
          go_wp2
          go_ret
          refine ⟨by rw [HN.out]; rfl, ?_⟩
          simp only [World.drewN_drewN]
          exact ⟨_, rfl⟩
  · have hlt : b < a := by
      rcases Nat.lt_or_ge b a with h | h
      · exact h
      · have := nd_mono hB h; omega
    have HN : Hid (cmpN a b = 1) := cmpN_gt (by omega)
    clear hca hcb hlt
    generalize nd 65536 a = la at *
    generalize nd 65536 b = lb at *
    have hl' : (lb : Int) < la := by omega
    go_enter Tryz.func38, Tryz.ntmps38
    go_wp2
    go_ret
    exact ⟨by rw [HN.out]; rfl, 0, rfl⟩
end Go.Proofs.YtgjkhbognenajaaGreatDoor
