/- The document's Formed. -/
import Derived.Test.YtgblfobomiiofaaCSda
namespace Go.Proofs.Ytgblfobomiiofaa
open Go Go.RowKit Go.Shelf Gw Go.Maps

set_option maxRecDepth 100000 in
set_option maxHeartbeats 4000000 in
theorem Formed_any {s : Sch} {bv : Value} {w : World} (hv : IsSs w bv s.bl) (ha : s.al.size ≤ 1000) : Calls Try.prog 42 #[schV s bv] w (BoolP (WellF s) w) := by
  obtain ⟨w1, hw1⟩ : ∃ w1, w1 = w.alloc (.cells #[.string s.al, .int .i64 s.len, bv, .bool s.ck] 24) := ⟨_, rfl⟩
  have hb1 : Below w.heap.size w w1 := by rw [hw1]; exact below_al _ _
  have H4 : Hid (B4 w.heap.size (.string s.al) (.int .i64 s.len) bv (.bool s.ck) w1) := by rw [hw1]; exact B4.new _ _ _ _ _ _
  have HV := Lib.hid (hv.below hb1)
  have HB1 := Lib.hid hb1
  have HW1 := Lib.hid hw1
  obtain ⟨bo, bc, rfl, -⟩ := hv
  obtain ⟨al, len, bl, ck⟩ := s
  unfold schV
  dsimp only at *
  clear hw1 hb1
  obtain ⟨m, hm⟩ : ∃ m, m = bl.length := ⟨_, rfl⟩
  rw [← hm] at HV HW1 H4 ⊢
  have HM := Lib.hid hm
  clear hm
  have k0 := H4.out.c0; have k1 := H4.out.c1; have k2 := H4.out.c2; have k3 := H4.out.c3
  go_enter Try.func42, Try.ntmps42
  go_upto_region 1 with fail
  rw [← HW1.out]
  by_cases a1 : al.size < 2
  · have a2 : (al.size : Int) < 2 := by omega
    have HN : Hid (IffB false (WellF ⟨al, len, bl, ck⟩)) := IffB.no fun h => by have := h.1.1; dsimp only at this; omega
    go_wp2_with fail
    go_ret
    exact ⟨false, rfl, HN, HB1⟩
  have a2 : ¬ (al.size : Int) < 2 := by omega
  by_cases b1 : al.size > 36
  · have b2 : (al.size : Int) > 36 := by omega
    have HN : Hid (IffB false (WellF ⟨al, len, bl, ck⟩)) := IffB.no fun h => by have := h.1.2.1; dsimp only at this; omega
    go_wp2_with fail
    go_ret
    exact ⟨false, rfl, HN, HB1⟩
  have b2 : ¬ (al.size : Int) > 36 := by omega
  by_cases c1 : len < 1
  · skip
    have HN : Hid (IffB false (WellF ⟨al, len, bl, ck⟩)) := IffB.no fun h => by have := h.2.1; dsimp only at this; omega
    go_wp2_with fail
    go_ret
    exact ⟨false, rfl, HN, HB1⟩
  have c2 : ¬ len < 1 := by exact c1
  by_cases d1 : len > 16
  · skip
    have HN : Hid (IffB false (WellF ⟨al, len, bl, ck⟩)) := IffB.no fun h => by have := h.2.2.1; dsimp only at this; omega
    go_wp2_with fail
    go_ret
    exact ⟨false, rfl, HN, HB1⟩
  have d2 : ¬ len > 16 := by exact d1
  by_cases e1 : m > 16
  · have e2 : (m : Int) > 16 := by omega
    have HN : Hid (IffB false (WellF ⟨al, len, bl, ck⟩)) := IffB.no fun h => by have := h.2.2.2.1.1; rw [← HM.out] at this; omega
    go_wp2_with fail
    go_ret
    exact ⟨false, rfl, HN, HB1⟩
  have e2 : ¬ (m : Int) > 16 := by omega
  have hrem : ((al.size : Int)).tmod 2 = ((al.size % 2 : Nat) : Int) := by rw [Int.tmod_eq_emod_of_nonneg (by omega)]; omega
  have hrem2 : ((al.size : Int)) % 2 = ((al.size % 2 : Nat) : Int) := by omega
  obtain ⟨z, hz⟩ : ∃ z, z = al.size % 2 := ⟨_, rfl⟩
  rw [← hz] at hrem hrem2
  have hz2 : z < 2 := by omega
  have HZ := Lib.hid hz
  clear hz
  by_cases f1 : ck = true ∧ z = 1
  · obtain ⟨rfl, rfl⟩ := f1
    have HN : Hid (IffB false (WellF ⟨al, len, bl, true⟩)) := IffB.no fun h => by have h2 := h.2.2.2.2 rfl; dsimp only at h2; have := HZ.out; omega
    go_wp2_with fail
    go_ret
    exact ⟨false, rfl, HN, HB1⟩
  cases ck with
  | false =>
    have HCK : Hid (false = true → al.size % 2 = 0) := fun h => by cases h
    go_wp2_with fail
    go_loopw [3] (fun s2 wr => ∃ i : Nat, i ≤ al.size ∧ s2 = .int .i64 i ∧ Hid (w1 = wr) ∧ Hid (∀ i' (h : i' < al.size), i' < i → OkB al[i'] ∧ ∀ j (hj : j < al.size), j < i' → al[j] ≠ al[i'])) (fun s2 _ => al.size - (intOf s2).toNat)
    case atStart => exact ⟨0, Nat.zero_le _, rfl, rfl, fun j _ h => by omega⟩
    case round =>
      obtain ⟨i, hi, rfl, HWR, HA⟩ := hrel
      obtain rfl := HWR.out
      by_cases q : i < al.size
      · have q1 : (i : Int) < al.size := by omega
        have hw : IntKind.i64.wrap ((i : Int) + 1) = ((i + 1 : Nat) : Int) := by rw [IntWalk.i64_in _ (by omega)]; omega
        have hix := fun W => index_str q W
        have hie := index_eq q
        obtain ⟨y, hy⟩ : ∃ y, y = al[i] := ⟨_, rfl⟩
        rw [← hy] at hix hie
        have HY := Lib.hid hy
        obtain ⟨r, hr⟩ : ∃ r, r = Lib.indexByte (bys al) y := ⟨_, rfl⟩
        have HV1 : Hid (∀ W : World, Calls Try.prog 41 #[.string al, .int .u8 (y.toNat : Int)] W fun e w' => e = .returned (.int .i64 r) ∧ W = w') := fun W => by rw [hr]; exact Value_any y ha W
        rw [← hr] at hie
        have HIE := Lib.hid hie
        clear hr hy hie
        by_cases c : r = (i : Int)
        case neg =>
          have c2 : (r != (i : Int)) = true := by rw [bne_iff_ne]; exact c
          have HN : Hid (IffB false (WellF ⟨al, len, bl, false⟩)) := IffB.no fun h => c (HIE.out.2 (by rw [HY.out]; exact (h.1.2.2 i q).2))
          go_wp2_with (first
            | (go_at_call 41; (with_reducible refine (HV1.out _).mono ?_); rintro e wa ⟨rfl, rfl⟩)
            | fail)
          go_ret
          exact ⟨false, rfl, HN, HB1⟩
        subst c
        have HDI := Lib.hid (HIE.out.1 rfl)
        have hyy : ∀ n : Nat, y.toNat = n → y.toNat = n := fun _ h => h
        obtain ⟨b, hb⟩ : ∃ b : Nat, b = y.toNat := ⟨_, rfl⟩
        rw [← hb] at hix HV1
        have HBY := Lib.hid hb
        clear hb hyy HIE
        by_cases d1 : b < 48
        · have g1 : ¬ (b : Int) ≥ 48 := by omega
          have g2 : ¬ (b : Int) ≥ 65 := by omega
          have HN : Hid (IffB false (WellF ⟨al, len, bl, false⟩)) := IffB.no fun h => by
            have h2 := (h.1.2.2 i q).1
            dsimp only at h2
            rw [← HY.out] at h2
            unfold OkB at h2
            rw [← HBY.out] at h2
            omega
          go_wp2_with (first
            | (go_at_call 41; (with_reducible refine (HV1.out _).mono ?_); rintro e wa ⟨rfl, rfl⟩)
            | fail)
          all_goals try (exfalso; rename_i hx; simp at hx; omega)
          go_ret
          exact ⟨false, rfl, HN, HB1⟩
        have g1 : (b : Int) ≥ 48 := by omega
        by_cases d2 : b ≤ 57
        · have g2 : (b : Int) ≤ 57 := by omega
          have HA2 : Hid (∀ i' (h : i' < al.size), i' < i + 1 → OkB al[i'] ∧ ∀ j (hj : j < al.size), j < i' → al[j] ≠ al[i']) := fun i' h hi' => by
            rcases Nat.lt_succ_iff_lt_or_eq.1 hi' with h3 | h3
            · exact HA.out i' h h3
            · subst h3
              rw [← HY.out]
              exact ⟨by unfold OkB; rw [← HBY.out]; omega, HDI.out⟩
          go_wp2_with (first
            | (go_at_call 41; (with_reducible refine (HV1.out _).mono ?_); rintro e wa ⟨rfl, rfl⟩)
            | fail)
          all_goals try (exfalso; rename_i hx; simp at hx; omega)
          go_roundw
          case rel => exact ⟨i + 1, q, by go_num, (by first | exact rfl | exact Lib.hid trivial), HA2⟩
          case measure => simp [intOf]; omega
        have g2 : ¬ (b : Int) ≤ 57 := by omega
        by_cases d3 : b < 65
        · have g3 : ¬ (b : Int) ≥ 65 := by omega
          have HN : Hid (IffB false (WellF ⟨al, len, bl, false⟩)) := IffB.no fun h => by
            have h2 := (h.1.2.2 i q).1
            dsimp only at h2
            rw [← HY.out] at h2
            unfold OkB at h2
            rw [← HBY.out] at h2
            omega
          go_wp2_with (first
            | (go_at_call 41; (with_reducible refine (HV1.out _).mono ?_); rintro e wa ⟨rfl, rfl⟩)
            | fail)
          all_goals try (exfalso; rename_i hx; simp at hx; omega)
          go_ret
          exact ⟨false, rfl, HN, HB1⟩
        have g3 : (b : Int) ≥ 65 := by omega
        by_cases d4 : b ≤ 90
        · have g4 : (b : Int) ≤ 90 := by omega
          have HA2 : Hid (∀ i' (h : i' < al.size), i' < i + 1 → OkB al[i'] ∧ ∀ j (hj : j < al.size), j < i' → al[j] ≠ al[i']) := fun i' h hi' => by
            rcases Nat.lt_succ_iff_lt_or_eq.1 hi' with h3 | h3
            · exact HA.out i' h h3
            · subst h3
              rw [← HY.out]
              exact ⟨by unfold OkB; rw [← HBY.out]; omega, HDI.out⟩
          go_wp2_with (first
            | (go_at_call 41; (with_reducible refine (HV1.out _).mono ?_); rintro e wa ⟨rfl, rfl⟩)
            | fail)
          all_goals try (exfalso; rename_i hx; simp at hx; omega)
          go_roundw
          case rel => exact ⟨i + 1, q, by go_num, (by first | exact rfl | exact Lib.hid trivial), HA2⟩
          case measure => simp [intOf]; omega
        have g4 : ¬ (b : Int) ≤ 90 := by omega
        have HN : Hid (IffB false (WellF ⟨al, len, bl, false⟩)) := IffB.no fun h => by
          have h2 := (h.1.2.2 i q).1
          dsimp only at h2
          rw [← HY.out] at h2
          unfold OkB at h2
          rw [← HBY.out] at h2
          omega
        go_wp2_with (first
          | (go_at_call 41; (with_reducible refine (HV1.out _).mono ?_); rintro e wa ⟨rfl, rfl⟩)
          | fail)
        all_goals try (exfalso; rename_i hx; simp at hx; omega)
        go_ret
        exact ⟨false, rfl, HN, HB1⟩
      · obtain rfl : i = al.size := by omega
        have q1 : ¬ (al.size : Int) < (al.size : Int) := by omega
        have HGA : Hid (GoodA al) := ⟨by omega, by omega, fun i h => HA.out i h h⟩
        go_wp2_with fail
        go_loopw [5] (fun s5 wr => ∃ i : Nat, i ≤ m ∧ s5 = .int .i64 i ∧ Hid (B4 w.heap.size (.string al) (.int .i64 len) (.slice bo m bc) (.bool false) wr) ∧ Hid (IsSs wr (.slice bo m bc) bl) ∧ Hid (Below w.heap.size w wr) ∧ Hid (∀ j (h : j < bl.length), j < i → OkBan bl[j] al)) (fun s5 _ => m - (intOf s5).toNat)
        case atStart => exact ⟨0, Nat.zero_le _, rfl, H4, HV, HB1, fun j _ h => by omega⟩
        case round =>
          obtain ⟨i, hi, rfl, H4R, HVR, HBR, HBA⟩ := hrel
          clear k0 k1 k2 k3
          have k0 := H4R.out.c0; have k1 := H4R.out.c1; have k2 := H4R.out.c2; have k3 := H4R.out.c3
          by_cases q : i < m
          · have q2 : (i : Int) < m := by omega
            have hw : IntKind.i64.wrap ((i : Int) + 1) = ((i + 1 : Nat) : Int) := by rw [IntWalk.i64_in _ (by omega)]; omega
            have hib : i < bl.length := by rw [← HM.out]; exact q
            obtain ⟨B, o, rfl, d0⟩ := HVR.out.at' hib
            obtain ⟨b, hbb⟩ : ∃ b, b = bl[i] := ⟨_, rfl⟩
            rw [← hbb] at d0
            have HBE := Lib.hid hbb
            clear hbb
            by_cases d1 : b.size < 1
            · have g1 : (b.size : Int) < 1 := by omega
              have HN : Hid (IffB false (WellF ⟨al, len, bl, false⟩)) := IffB.no fun h => by
                have h2 := (h.2.2.2.1.2 i hib).1
                dsimp only at h2
                rw [← HBE.out] at h2
                omega
              go_upto_region 12 with fail
              go_quiet (fail)
              rename_i nq
              have HBq := Lib.hid (HBR.out.trans ((below_dr wr nq).mono HBR.out.size))
              go_wp2_with fail
              go_ret
              exact ⟨false, rfl, HN, HBq⟩
            have g1 : ¬ (b.size : Int) < 1 := by omega
            by_cases d2 : b.size > 8
            · have g2 : (b.size : Int) > 8 := by omega
              have HN : Hid (IffB false (WellF ⟨al, len, bl, false⟩)) := IffB.no fun h => by
                have h2 := (h.2.2.2.1.2 i hib).2.1
                dsimp only at h2
                rw [← HBE.out] at h2
                omega
              go_upto_region 12 with fail
              go_quiet (fail)
              rename_i nq
              have HBq := Lib.hid (HBR.out.trans ((below_dr wr nq).mono HBR.out.size))
              go_wp2_with fail
              go_ret
              exact ⟨false, rfl, HN, HBq⟩
            have g2 : ¬ (b.size : Int) > 8 := by omega
            have HOF := Lib.hid (fun (W : World) => of_any (al := al) (t := b) ha (by omega) W)
            by_cases d3 : OfA b al
            · have HOT : Hid (∀ q, Calls Try.prog 59 #[.string al, .string b] (wr.drewN q) fun e w' => e = .returned (.bool true) ∧ ∃ k, w' = wr.drewN k) := fun q => (HOF.out _).mono (by rintro e w' ⟨r, rfl, hr, hb⟩; rw [hr.2 d3]; exact ⟨rfl, q, hb.symm⟩)
              have HBA2 : Hid (∀ j (h : j < bl.length), j < i + 1 → OkBan bl[j] al) := fun j h hj => by
                rcases Nat.lt_succ_iff_lt_or_eq.1 hj with h3 | h3
                · exact HBA.out j h h3
                · subst h3; rw [← HBE.out]; exact ⟨by omega, by omega, d3⟩
              clear HOF d3
              go_upto_region 12 with fail
              go_quiet ((go_at_call 59; with_reducible exact HOT.out _))
              rename_i nq
              have HBq := Lib.hid (HBR.out.trans ((below_dr wr nq).mono HBR.out.size))
              have H4q := Lib.hid (H4R.out.below (below_dr wr nq))
              have HVq := Lib.hid (HVR.out.below (below_dr wr nq))
              go_wp2_with fail
              go_roundw
              case rel => exact ⟨i + 1, q, by go_num, H4q, HVq, HBq, HBA2⟩
              case measure => simp [intOf]; omega
            · have HOT : Hid (∀ q, Calls Try.prog 59 #[.string al, .string b] (wr.drewN q) fun e w' => e = .returned (.bool false) ∧ ∃ k, w' = wr.drewN k) := fun q => (HOF.out _).mono (by
                rintro e w' ⟨r, rfl, hr, hb⟩
                cases r with
                | true => exact absurd (hr.1 rfl) d3
                | false => exact ⟨rfl, q, hb.symm⟩)
              have HN : Hid (IffB false (WellF ⟨al, len, bl, false⟩)) := IffB.no fun h => by
                have h2 := (h.2.2.2.1.2 i hib).2.2
                dsimp only at h2
                rw [← HBE.out] at h2
                exact d3 h2
              clear HOF d3
              go_upto_region 12 with fail
              go_quiet ((go_at_call 59; with_reducible exact HOT.out _))
              rename_i nq
              have HBq := Lib.hid (HBR.out.trans ((below_dr wr nq).mono HBR.out.size))
              go_wp2_with fail
              go_ret
              exact ⟨false, rfl, HN, HBq⟩
          · obtain rfl : i = m := by omega
            have q2 : ¬ (i : Int) < i := by omega
            have HN : Hid (IffB true (WellF ⟨al, len, bl, false⟩)) := IffB.yes ⟨HGA.out, by show 1 ≤ len; omega, by show len ≤ 16; omega, ⟨by rw [← HM.out]; omega, fun j hj => HBA.out j hj (by rw [HM.out]; exact hj)⟩, (by intro h; first | exact HCK.out h | exact HCK.out trivial)⟩
            go_wp2_with fail
            go_ret
            exact ⟨true, rfl, HN, HBR⟩
  | true =>
    have hz0 : z = 0 := by
      have h2 : ¬ z = 1 := fun h => f1 ⟨rfl, h⟩
      omega
    subst hz0
    have HCK : Hid (true = true → al.size % 2 = 0) := fun _ => HZ.out.symm
    clear f1
    go_wp2_with fail
    go_loopw [3] (fun s2 wr => ∃ i : Nat, i ≤ al.size ∧ s2 = .int .i64 i ∧ Hid (w1 = wr) ∧ Hid (∀ i' (h : i' < al.size), i' < i → OkB al[i'] ∧ ∀ j (hj : j < al.size), j < i' → al[j] ≠ al[i'])) (fun s2 _ => al.size - (intOf s2).toNat)
    case atStart => exact ⟨0, Nat.zero_le _, rfl, rfl, fun j _ h => by omega⟩
    case round =>
      obtain ⟨i, hi, rfl, HWR, HA⟩ := hrel
      obtain rfl := HWR.out
      by_cases q : i < al.size
      · have q1 : (i : Int) < al.size := by omega
        have hw : IntKind.i64.wrap ((i : Int) + 1) = ((i + 1 : Nat) : Int) := by rw [IntWalk.i64_in _ (by omega)]; omega
        have hix := fun W => index_str q W
        have hie := index_eq q
        obtain ⟨y, hy⟩ : ∃ y, y = al[i] := ⟨_, rfl⟩
        rw [← hy] at hix hie
        have HY := Lib.hid hy
        obtain ⟨r, hr⟩ : ∃ r, r = Lib.indexByte (bys al) y := ⟨_, rfl⟩
        have HV1 : Hid (∀ W : World, Calls Try.prog 41 #[.string al, .int .u8 (y.toNat : Int)] W fun e w' => e = .returned (.int .i64 r) ∧ W = w') := fun W => by rw [hr]; exact Value_any y ha W
        rw [← hr] at hie
        have HIE := Lib.hid hie
        clear hr hy hie
        by_cases c : r = (i : Int)
        case neg =>
          have c2 : (r != (i : Int)) = true := by rw [bne_iff_ne]; exact c
          have HN : Hid (IffB false (WellF ⟨al, len, bl, true⟩)) := IffB.no fun h => c (HIE.out.2 (by rw [HY.out]; exact (h.1.2.2 i q).2))
          go_wp2_with (first
            | (go_at_call 41; (with_reducible refine (HV1.out _).mono ?_); rintro e wa ⟨rfl, rfl⟩)
            | fail)
          go_ret
          exact ⟨false, rfl, HN, HB1⟩
        subst c
        have HDI := Lib.hid (HIE.out.1 rfl)
        have hyy : ∀ n : Nat, y.toNat = n → y.toNat = n := fun _ h => h
        obtain ⟨b, hb⟩ : ∃ b : Nat, b = y.toNat := ⟨_, rfl⟩
        rw [← hb] at hix HV1
        have HBY := Lib.hid hb
        clear hb hyy HIE
        by_cases d1 : b < 48
        · have g1 : ¬ (b : Int) ≥ 48 := by omega
          have g2 : ¬ (b : Int) ≥ 65 := by omega
          have HN : Hid (IffB false (WellF ⟨al, len, bl, true⟩)) := IffB.no fun h => by
            have h2 := (h.1.2.2 i q).1
            dsimp only at h2
            rw [← HY.out] at h2
            unfold OkB at h2
            rw [← HBY.out] at h2
            omega
          go_wp2_with (first
            | (go_at_call 41; (with_reducible refine (HV1.out _).mono ?_); rintro e wa ⟨rfl, rfl⟩)
            | fail)
          all_goals try (exfalso; rename_i hx; simp at hx; omega)
          go_ret
          exact ⟨false, rfl, HN, HB1⟩
        have g1 : (b : Int) ≥ 48 := by omega
        by_cases d2 : b ≤ 57
        · have g2 : (b : Int) ≤ 57 := by omega
          have HA2 : Hid (∀ i' (h : i' < al.size), i' < i + 1 → OkB al[i'] ∧ ∀ j (hj : j < al.size), j < i' → al[j] ≠ al[i']) := fun i' h hi' => by
            rcases Nat.lt_succ_iff_lt_or_eq.1 hi' with h3 | h3
            · exact HA.out i' h h3
            · subst h3
              rw [← HY.out]
              exact ⟨by unfold OkB; rw [← HBY.out]; omega, HDI.out⟩
          go_wp2_with (first
            | (go_at_call 41; (with_reducible refine (HV1.out _).mono ?_); rintro e wa ⟨rfl, rfl⟩)
            | fail)
          all_goals try (exfalso; rename_i hx; simp at hx; omega)
          go_roundw
          case rel => exact ⟨i + 1, q, by go_num, (by first | exact rfl | exact Lib.hid trivial), HA2⟩
          case measure => simp [intOf]; omega
        have g2 : ¬ (b : Int) ≤ 57 := by omega
        by_cases d3 : b < 65
        · have g3 : ¬ (b : Int) ≥ 65 := by omega
          have HN : Hid (IffB false (WellF ⟨al, len, bl, true⟩)) := IffB.no fun h => by
            have h2 := (h.1.2.2 i q).1
            dsimp only at h2
            rw [← HY.out] at h2
            unfold OkB at h2
            rw [← HBY.out] at h2
            omega
          go_wp2_with (first
            | (go_at_call 41; (with_reducible refine (HV1.out _).mono ?_); rintro e wa ⟨rfl, rfl⟩)
            | fail)
          all_goals try (exfalso; rename_i hx; simp at hx; omega)
          go_ret
          exact ⟨false, rfl, HN, HB1⟩
        have g3 : (b : Int) ≥ 65 := by omega
        by_cases d4 : b ≤ 90
        · have g4 : (b : Int) ≤ 90 := by omega
          have HA2 : Hid (∀ i' (h : i' < al.size), i' < i + 1 → OkB al[i'] ∧ ∀ j (hj : j < al.size), j < i' → al[j] ≠ al[i']) := fun i' h hi' => by
            rcases Nat.lt_succ_iff_lt_or_eq.1 hi' with h3 | h3
            · exact HA.out i' h h3
            · subst h3
              rw [← HY.out]
              exact ⟨by unfold OkB; rw [← HBY.out]; omega, HDI.out⟩
          go_wp2_with (first
            | (go_at_call 41; (with_reducible refine (HV1.out _).mono ?_); rintro e wa ⟨rfl, rfl⟩)
            | fail)
          all_goals try (exfalso; rename_i hx; simp at hx; omega)
          go_roundw
          case rel => exact ⟨i + 1, q, by go_num, (by first | exact rfl | exact Lib.hid trivial), HA2⟩
          case measure => simp [intOf]; omega
        have g4 : ¬ (b : Int) ≤ 90 := by omega
        have HN : Hid (IffB false (WellF ⟨al, len, bl, true⟩)) := IffB.no fun h => by
          have h2 := (h.1.2.2 i q).1
          dsimp only at h2
          rw [← HY.out] at h2
          unfold OkB at h2
          rw [← HBY.out] at h2
          omega
        go_wp2_with (first
          | (go_at_call 41; (with_reducible refine (HV1.out _).mono ?_); rintro e wa ⟨rfl, rfl⟩)
          | fail)
        all_goals try (exfalso; rename_i hx; simp at hx; omega)
        go_ret
        exact ⟨false, rfl, HN, HB1⟩
      · obtain rfl : i = al.size := by omega
        have q1 : ¬ (al.size : Int) < (al.size : Int) := by omega
        have HGA : Hid (GoodA al) := ⟨by omega, by omega, fun i h => HA.out i h h⟩
        go_wp2_with fail
        go_loopw [5] (fun s5 wr => ∃ i : Nat, i ≤ m ∧ s5 = .int .i64 i ∧ Hid (B4 w.heap.size (.string al) (.int .i64 len) (.slice bo m bc) (.bool true) wr) ∧ Hid (IsSs wr (.slice bo m bc) bl) ∧ Hid (Below w.heap.size w wr) ∧ Hid (∀ j (h : j < bl.length), j < i → OkBan bl[j] al)) (fun s5 _ => m - (intOf s5).toNat)
        case atStart => exact ⟨0, Nat.zero_le _, rfl, H4, HV, HB1, fun j _ h => by omega⟩
        case round =>
          obtain ⟨i, hi, rfl, H4R, HVR, HBR, HBA⟩ := hrel
          clear k0 k1 k2 k3
          have k0 := H4R.out.c0; have k1 := H4R.out.c1; have k2 := H4R.out.c2; have k3 := H4R.out.c3
          by_cases q : i < m
          · have q2 : (i : Int) < m := by omega
            have hw : IntKind.i64.wrap ((i : Int) + 1) = ((i + 1 : Nat) : Int) := by rw [IntWalk.i64_in _ (by omega)]; omega
            have hib : i < bl.length := by rw [← HM.out]; exact q
            obtain ⟨B, o, rfl, d0⟩ := HVR.out.at' hib
            obtain ⟨b, hbb⟩ : ∃ b, b = bl[i] := ⟨_, rfl⟩
            rw [← hbb] at d0
            have HBE := Lib.hid hbb
            clear hbb
            by_cases d1 : b.size < 1
            · have g1 : (b.size : Int) < 1 := by omega
              have HN : Hid (IffB false (WellF ⟨al, len, bl, true⟩)) := IffB.no fun h => by
                have h2 := (h.2.2.2.1.2 i hib).1
                dsimp only at h2
                rw [← HBE.out] at h2
                omega
              go_upto_region 12 with fail
              go_quiet (fail)
              rename_i nq
              have HBq := Lib.hid (HBR.out.trans ((below_dr wr nq).mono HBR.out.size))
              go_wp2_with fail
              go_ret
              exact ⟨false, rfl, HN, HBq⟩
            have g1 : ¬ (b.size : Int) < 1 := by omega
            by_cases d2 : b.size > 8
            · have g2 : (b.size : Int) > 8 := by omega
              have HN : Hid (IffB false (WellF ⟨al, len, bl, true⟩)) := IffB.no fun h => by
                have h2 := (h.2.2.2.1.2 i hib).2.1
                dsimp only at h2
                rw [← HBE.out] at h2
                omega
              go_upto_region 12 with fail
              go_quiet (fail)
              rename_i nq
              have HBq := Lib.hid (HBR.out.trans ((below_dr wr nq).mono HBR.out.size))
              go_wp2_with fail
              go_ret
              exact ⟨false, rfl, HN, HBq⟩
            have g2 : ¬ (b.size : Int) > 8 := by omega
            have HOF := Lib.hid (fun (W : World) => of_any (al := al) (t := b) ha (by omega) W)
            by_cases d3 : OfA b al
            · have HOT : Hid (∀ q, Calls Try.prog 59 #[.string al, .string b] (wr.drewN q) fun e w' => e = .returned (.bool true) ∧ ∃ k, w' = wr.drewN k) := fun q => (HOF.out _).mono (by rintro e w' ⟨r, rfl, hr, hb⟩; rw [hr.2 d3]; exact ⟨rfl, q, hb.symm⟩)
              have HBA2 : Hid (∀ j (h : j < bl.length), j < i + 1 → OkBan bl[j] al) := fun j h hj => by
                rcases Nat.lt_succ_iff_lt_or_eq.1 hj with h3 | h3
                · exact HBA.out j h h3
                · subst h3; rw [← HBE.out]; exact ⟨by omega, by omega, d3⟩
              clear HOF d3
              go_upto_region 12 with fail
              go_quiet ((go_at_call 59; with_reducible exact HOT.out _))
              rename_i nq
              have HBq := Lib.hid (HBR.out.trans ((below_dr wr nq).mono HBR.out.size))
              have H4q := Lib.hid (H4R.out.below (below_dr wr nq))
              have HVq := Lib.hid (HVR.out.below (below_dr wr nq))
              go_wp2_with fail
              go_roundw
              case rel => exact ⟨i + 1, q, by go_num, H4q, HVq, HBq, HBA2⟩
              case measure => simp [intOf]; omega
            · have HOT : Hid (∀ q, Calls Try.prog 59 #[.string al, .string b] (wr.drewN q) fun e w' => e = .returned (.bool false) ∧ ∃ k, w' = wr.drewN k) := fun q => (HOF.out _).mono (by
                rintro e w' ⟨r, rfl, hr, hb⟩
                cases r with
                | true => exact absurd (hr.1 rfl) d3
                | false => exact ⟨rfl, q, hb.symm⟩)
              have HN : Hid (IffB false (WellF ⟨al, len, bl, true⟩)) := IffB.no fun h => by
                have h2 := (h.2.2.2.1.2 i hib).2.2
                dsimp only at h2
                rw [← HBE.out] at h2
                exact d3 h2
              clear HOF d3
              go_upto_region 12 with fail
              go_quiet ((go_at_call 59; with_reducible exact HOT.out _))
              rename_i nq
              have HBq := Lib.hid (HBR.out.trans ((below_dr wr nq).mono HBR.out.size))
              go_wp2_with fail
              go_ret
              exact ⟨false, rfl, HN, HBq⟩
          · obtain rfl : i = m := by omega
            have q2 : ¬ (i : Int) < i := by omega
            have HN : Hid (IffB true (WellF ⟨al, len, bl, true⟩)) := IffB.yes ⟨HGA.out, by show 1 ≤ len; omega, by show len ≤ 16; omega, ⟨by rw [← HM.out]; omega, fun j hj => HBA.out j hj (by rw [HM.out]; exact hj)⟩, (by intro h; first | exact HCK.out h | exact HCK.out trivial)⟩
            go_wp2_with fail
            go_ret
            exact ⟨true, rfl, HN, HBR⟩
end Go.Proofs.Ytgblfobomiiofaa
