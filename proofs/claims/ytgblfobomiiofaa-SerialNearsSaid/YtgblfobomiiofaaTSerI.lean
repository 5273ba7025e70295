/- Contracts and lemmas (several texts merged into one). -/
import Derived.Test.YtgblfobomiiofaaTSerB
import Derived.Test.YtgblfobomiiofaaTSerD
namespace Go.Proofs.Ytgblfobomiiofaa
open Go Go.RowKit Go.Shelf Gw Go.Maps

/-- an answer whether P holds, in the same world -/
def OfP (P : Prop) (w : World) (e : Ending) (w' : World) : Prop := ∃ r : Bool, e = .returned (.bool r) ∧ IffB r P ∧ w = w'
set_option maxRecDepth 100000 in
set_option maxHeartbeats 2000000 in
theorem of_any {al t : ByteArray} (hal : al.size ≤ 1000) (ht : t.size ≤ 1000000) (w : World) : Calls Try.prog 59 #[.string al, .string t] w (OfP (OfA t al) w) := by
  have HV := Lib.hid (fun (b : UInt8) (W : World) => Value_any (al := al) b hal W)
  go_enter Try.func59, Try.ntmps59
  go_wp2_with fail
  go_loopw [5] (fun s4 wr => ∃ i : Nat, i ≤ t.size ∧ s4 = .int .i64 i ∧ Hid (w = wr) ∧ Hid (∀ j (h : j < t.size), j < i → t[j] ∈ bys al)) (fun s4 _ => t.size - (intOf s4).toNat)
  case atStart => exact ⟨0, Nat.zero_le _, rfl, rfl, fun j _ h => by omega⟩
  case round =>
    obtain ⟨i, hi, rfl, HWR, HN⟩ := hrel
    obtain rfl := HWR.out
    by_cases q : i < t.size
    · have q1 : (i : Int) < (t.size : Int) := by omega
      have hw : IntKind.i64.wrap ((i : Int) + 1) = ((i + 1 : Nat) : Int) := by rw [IntWalk.i64_in _ (by omega)]; omega
      have hix := fun W => index_str q W
      obtain ⟨y, hy⟩ : ∃ y, y = t[i] := ⟨_, rfl⟩
      rw [← hy] at hix
      obtain ⟨r, hr⟩ : ∃ r, r = Lib.indexByte (bys al) y := ⟨_, rfl⟩
      have HV1 : Hid (∀ W : World, Calls Try.prog 41 #[.string al, .int .u8 (y.toNat : Int)] W fun e w' => e = .returned (.int .i64 r) ∧ W = w') := fun W => by rw [hr]; exact HV.out y W
      by_cases c : y ∈ bys al
      · have hr0 : ¬ r < 0 := by have := indexByte_mem.2 c; rw [hr]; omega
        have HN2 : Hid (∀ j (h : j < t.size), j < i + 1 → t[j] ∈ bys al) := fun j h hj => by
          rcases Nat.lt_succ_iff_lt_or_eq.1 hj with h3 | h3
          · exact HN.out j h h3
          · subst h3; rw [← hy]; exact c
        clear hr hy c
        go_wp2_with (first
          | (go_at_call 41; (with_reducible refine (HV1.out _).mono ?_); rintro e wa ⟨rfl, rfl⟩)
          | fail)
        go_roundw
        case rel => exact ⟨i + 1, q, by go_num, (by first | exact rfl | exact Lib.hid trivial), HN2⟩
        case measure => simp [intOf]; omega
      · have hr0 : r < 0 := by
          have : ¬ 0 ≤ Lib.indexByte (bys al) y := fun h => c (indexByte_mem.1 h)
          rw [hr]; omega
        have HF : Hid (IffB false (OfA t al)) := IffB.no fun h => c (by rw [hy]; exact h _ (bys_at q))
        clear hr hy c
        go_wp2_with (first
          | (go_at_call 41; (with_reducible refine (HV1.out _).mono ?_); rintro e wa ⟨rfl, rfl⟩)
          | fail)
        go_ret
        exact ⟨false, rfl, HF.out, rfl⟩
    · obtain rfl : i = t.size := by omega
      have q1 : ¬ (t.size : Int) < (t.size : Int) := by omega
      have HF : Hid (IffB true (OfA t al)) := IffB.yes fun b hb => by
        obtain ⟨j, hj, rfl⟩ := mem_bys.1 hb
        exact HN.out j hj hj
      go_wp2_with fail
      go_ret
      exact ⟨true, rfl, HF.out, rfl⟩
/-- where a byte lies first, there no byte before it is it -/
theorem index_eq {al : ByteArray} {i : Nat} (hi : i < al.size) : Lib.indexByte (bys al) al[i] = (i : Int) ↔ ∀ j (hj : j < al.size), j < i → al[j] ≠ al[i] := by
  have hm : al[i] ∈ bys al := bys_at hi
  rw [indexByte_idx hm]
  have hl := List.idxOf_lt_length_of_mem hm
  have hg := List.getElem_idxOf hl
  constructor
  · intro h j hj hji e
    have h1 : (bys al).idxOf al[i] = i := by omega
    have h3 : j < (bys al).findIdx (· == al[i]) := by
      show j < (bys al).idxOf al[i]
      omega
    have h4 := List.not_of_lt_findIdx h3
    have h5 : (al[j] == al[i]) = false := h4
    rw [e] at h5
    simp at h5
  · intro h
    have h1 := index_first (l := bys al) (i := i) (b := al[i]) (by rw [bys_len]; exact hi) rfl (fun j hj => h j (by omega) hj)
    rw [indexByte_idx hm] at h1
    exact h1
end Go.Proofs.Ytgblfobomiiofaa
namespace Go.Proofs.Ytgblfobomiiofaa
open Go Go.RowKit Go.Shelf Gw Go.Maps

set_option maxRecDepth 100000 in
set_option maxHeartbeats 4000000 in
theorem Formed_any {s : Sch} {bv : Value} {w : World} (hv : IsSs w bv s.bl) (ha : s.al.size ≤ 1000) : Calls Try.prog 42 #[schV s bv] w (BoolP (WellF s) w) := by
  obtain ⟨w1, hw1⟩ : ∃ w1, w1 = w.alloc (.cells #[.string s.al, .int .i64 s.len, bv, .bool s.ck] 24) := ⟨_, rfl⟩
  have hb1 : Below w.heap.size w w1 := by rw [hw1]; exact below_al _ _
  have H4 : Hid (B4 w.heap.size (.string s.al) (.int .i64 s.len) bv (.bool s.ck) w1) := by rw [hw1]; exact B4.new _ _ _ _ _ _
  have HV := Lib.hid (hv.below hb1)
  have HB1 := Lib.hid hb1
  have HW1 := Lib.hid hw1
  obtain ⟨bo, bc, rfl, -⟩ := hv
  obtain ⟨al, len, bl, ck⟩ := s
  unfold schV
  dsimp only at *
  clear hw1 hb1
  obtain ⟨m, hm⟩ : ∃ m, m = bl.length := ⟨_, rfl⟩
  rw [← hm] at HV HW1 H4 ⊢
  have HM := Lib.hid hm
  clear hm
  have k0 := H4.out.c0; have k1 := H4.out.c1; have k2 := H4.out.c2; have k3 := H4.out.c3
  go_enter Try.func42, Try.ntmps42
  go_upto_region 1 with fail
  rw [← HW1.out]
  by_cases a1 : al.size < 2
  · have a2 : (al.size : Int) < 2 := by omega
    have HN : Hid (IffB false (WellF ⟨al, len, bl, ck⟩)) := IffB.no fun h => by have := h.1.1; dsimp only at this; omega
    go_wp2_with fail
    go_ret
    exact ⟨false, rfl, HN, HB1⟩
  have a2 : ¬ (al.size : Int) < 2 := by omega
  by_cases b1 : al.size > 36
  · have b2 : (al.size : Int) > 36 := by omega
    have HN : Hid (IffB false (WellF ⟨al, len, bl, ck⟩)) := IffB.no fun h => by have := h.1.2.1; dsimp only at this; omega
    go_wp2_with fail
    go_ret
    exact ⟨false, rfl, HN, HB1⟩
  have b2 : ¬ (al.size : Int) > 36 := by omega
  by_cases c1 : len < 1
  · skip
    have HN : Hid (IffB false (WellF ⟨al, len, bl, ck⟩)) := IffB.no fun h => by have := h.2.1; dsimp only at this; omega
    go_wp2_with fail
    go_ret
    exact ⟨false, rfl, HN, HB1⟩
  have c2 : ¬ len < 1 := by exact c1
  by_cases d1 : len > 16
  · skip
    have HN : Hid (IffB false (WellF ⟨al, len, bl, ck⟩)) := IffB.no fun h => by have := h.2.2.1; dsimp only at this; omega
    go_wp2_with fail
    go_ret
    exact ⟨false, rfl, HN, HB1⟩
  have d2 : ¬ len > 16 := by exact d1
  by_cases e1 : m > 16
  · have e2 : (m : Int) > 16 := by omega
    have HN : Hid (IffB false (WellF ⟨al, len, bl, ck⟩)) := IffB.no fun h => by have := h.2.2.2.1.1; rw [← HM.out] at this; omega
    go_wp2_with fail
    go_ret
    exact ⟨false, rfl, HN, HB1⟩
  have e2 : ¬ (m : Int) > 16 := by omega
  have hrem : ((al.size : Int)).tmod 2 = ((al.size % 2 : Nat) : Int) := by rw [Int.tmod_eq_emod_of_nonneg (by omega)]; omega
  have hrem2 : ((al.size : Int)) % 2 = ((al.size % 2 : Nat) : Int) := by omega
  obtain ⟨z, hz⟩ : ∃ z, z = al.size % 2 := ⟨_, rfl⟩
  rw [← hz] at hrem hrem2
  have hz2 : z < 2 := by omega
  have HZ := Lib.hid hz
  clear hz
  by_cases f1 : ck = true ∧ z = 1
  · obtain ⟨rfl, rfl⟩ := f1
    have HN : Hid (IffB false (WellF ⟨al, len, bl, true⟩)) := IffB.no fun h => by have h2 := h.2.2.2.2 rfl; dsimp only at h2; have := HZ.out; omega
    go_wp2_with fail
    go_ret
    exact ⟨false, rfl, HN, HB1⟩
  cases ck with
  | false =>
    have HCK : Hid (false = true → al.size % 2 = 0) := fun h => by cases h
    go_wp2_with fail
    go_loopw [3] (fun s2 wr => ∃ i : Nat, i ≤ al.size ∧ s2 = .int .i64 i ∧ Hid (w1 = wr) ∧ Hid (∀ i' (h : i' < al.size), i' < i → OkB al[i'] ∧ ∀ j (hj : j < al.size), j < i' → al[j] ≠ al[i'])) (fun s2 _ => al.size - (intOf s2).toNat)
    case atStart => exact ⟨0, Nat.zero_le _, rfl, rfl, fun j _ h => by omega⟩
    case round =>
      obtain ⟨i, hi, rfl, HWR, HA⟩ := hrel
      obtain rfl := HWR.out
      by_cases q : i < al.size
      · have q1 : (i : Int) < al.size := by omega
        have hw : IntKind.i64.wrap ((i : Int) + 1) = ((i + 1 : Nat) : Int) := by rw [IntWalk.i64_in _ (by omega)]; omega
        have hix := fun W => index_str q W
        have hie := index_eq q
        obtain ⟨y, hy⟩ : ∃ y, y = al[i] := ⟨_, rfl⟩
        rw [← hy] at hix hie
        have HY := Lib.hid hy
        obtain ⟨r, hr⟩ : ∃ r, r = Lib.indexByte (bys al) y := ⟨_, rfl⟩
        have HV1 : Hid (∀ W : World, Calls Try.prog 41 #[.string al, .int .u8 (y.toNat : Int)] W fun e w' => e = .returned (.int .i64 r) ∧ W = w') := fun W => by rw [hr]; exact Value_any y ha W
        rw [← hr] at hie
        have HIE := Lib.hid hie
        clear hr hy hie
        by_cases c : r = (i : Int)
        case neg =>
          have c2 : (r != (i : Int)) = true := by rw [bne_iff_ne]; exact c
          have HN : Hid (IffB false (WellF ⟨al, len, bl, false⟩)) := IffB.no fun h => c (HIE.out.2 (by rw [HY.out]; exact (h.1.2.2 i q).2))
          go_wp2_with (first
            | (go_at_call 41; (with_reducible refine (HV1.out _).mono ?_); rintro e wa ⟨rfl, rfl⟩)
            | fail)
          go_ret
          exact ⟨false, rfl, HN, HB1⟩
        subst c
        have HDI := Lib.hid (HIE.out.1 rfl)
        have hyy : ∀ n : Nat, y.toNat = n → y.toNat = n := fun _ h => h
        obtain ⟨b, hb⟩ : ∃ b : Nat, b = y.toNat := ⟨_, rfl⟩
        rw [← hb] at hix HV1
        have HBY := Lib.hid hb
        clear hb hyy HIE
        by_cases d1 : b < 48
        · have g1 : ¬ (b : Int) ≥ 48 := by omega
          have g2 : ¬ (b : Int) ≥ 65 := by omega
          have HN : Hid (IffB false (WellF ⟨al, len, bl, false⟩)) := IffB.no fun h => by
            have h2 := (h.1.2.2 i q).1
            dsimp only at h2
            rw [← HY.out] at h2
            unfold OkB at h2
            rw [← HBY.out] at h2
            omega
          go_wp2_with (first
            | (go_at_call 41; (with_reducible refine (HV1.out _).mono ?_); rintro e wa ⟨rfl, rfl⟩)
            | fail)
          all_goals try (exfalso; rename_i hx; simp at hx; omega)
          go_ret
          exact ⟨false, rfl, HN, HB1⟩
        have g1 : (b : Int) ≥ 48 := by omega
        by_cases d2 : b ≤ 57
        · have g2 : (b : Int) ≤ 57 := by omega
          have HA2 : Hid (∀ i' (h : i' < al.size), i' < i + 1 → OkB al[i'] ∧ ∀ j (hj : j < al.size), j < i' → al[j] ≠ al[i']) := fun i' h hi' => by
            rcases Nat.lt_succ_iff_lt_or_eq.1 hi' with h3 | h3
            · exact HA.out i' h h3
            · subst h3
              rw [← HY.out]
              exact ⟨by unfold OkB; rw [← HBY.out]; omega, HDI.out⟩
          go_wp2_with (first
            | (go_at_call 41; (with_reducible refine (HV1.out _).mono ?_); rintro e wa ⟨rfl, rfl⟩)
            | fail)
          all_goals try (exfalso; rename_i hx; simp at hx; omega)
          go_roundw
          case rel => exact ⟨i + 1, q, by go_num, (by first | exact rfl | exact Lib.hid trivial), HA2⟩
          case measure => simp [intOf]; omega
        have g2 : ¬ (b : Int) ≤ 57 := by omega
        by_cases d3 : b < 65
        · have g3 : ¬ (b : Int) ≥ 65 := by omega
          have HN : Hid (IffB false (WellF ⟨al, len, bl, false⟩)) := IffB.no fun h => by
            have h2 := (h.1.2.2 i q).1
            dsimp only at h2
            rw [← HY.out] at h2
            unfold OkB at h2
            rw [← HBY.out] at h2
            omega
          go_wp2_with (first
            | (go_at_call 41; (with_reducible refine (HV1.out _).mono ?_); rintro e wa ⟨rfl, rfl⟩)
            | fail)
          all_goals try (exfalso; rename_i hx; simp at hx; omega)
          go_ret
          exact ⟨false, rfl, HN, HB1⟩
        have g3 : (b : Int) ≥ 65 := by omega
        by_cases d4 : b ≤ 90
        · have g4 : (b : Int) ≤ 90 := by omega
          have HA2 : Hid (∀ i' (h : i' < al.size), i' < i + 1 → OkB al[i'] ∧ ∀ j (hj : j < al.size), j < i' → al[j] ≠ al[i']) := fun i' h hi' => by
            rcases Nat.lt_succ_iff_lt_or_eq.1 hi' with h3 | h3
            · exact HA.out i' h h3
            · subst h3
              rw [← HY.out]
              exact ⟨by unfold OkB; rw [← HBY.out]; omega, HDI.out⟩
          go_wp2_with (first
            | (go_at_call 41; (with_reducible refine (HV1.out _).mono ?_); rintro e wa ⟨rfl, rfl⟩)
            | fail)
          all_goals try (exfalso; rename_i hx; simp at hx; omega)
          go_roundw
          case rel => exact ⟨i + 1, q, by go_num, (by first | exact rfl | exact Lib.hid trivial), HA2⟩
          case measure => simp [intOf]; omega
        have g4 : ¬ (b : Int) ≤ 90 := by omega
        have HN : Hid (IffB false (WellF ⟨al, len, bl, false⟩)) := IffB.no fun h => by
          have h2 := (h.1.2.2 i q).1
          dsimp only at h2
          rw [← HY.out] at h2
          unfold OkB at h2
          rw [← HBY.out] at h2
          omega
        go_wp2_with (first
          | (go_at_call 41; (with_reducible refine (HV1.out _).mono ?_); rintro e wa ⟨rfl, rfl⟩)
          | fail)
        all_goals try (exfalso; rename_i hx; simp at hx; omega)
        go_ret
        exact ⟨false, rfl, HN, HB1⟩
      · obtain rfl : i = al.size := by omega
        have q1 : ¬ (al.size : Int) < (al.size : Int) := by omega
        have HGA : Hid (GoodA al) := ⟨by omega, by omega, fun i h => HA.out i h h⟩
        go_wp2_with fail
        go_loopw [5] (fun s5 wr => ∃ i : Nat, i ≤ m ∧ s5 = .int .i64 i ∧ Hid (B4 w.heap.size (.string al) (.int .i64 len) (.slice bo m bc) (.bool false) wr) ∧ Hid (IsSs wr (.slice bo m bc) bl) ∧ Hid (Below w.heap.size w wr) ∧ Hid (∀ j (h : j < bl.length), j < i → OkBan bl[j] al)) (fun s5 _ => m - (intOf s5).toNat)
        case atStart => exact ⟨0, Nat.zero_le _, rfl, H4, HV, HB1, fun j _ h => by omega⟩
        case round =>
          obtain ⟨i, hi, rfl, H4R, HVR, HBR, HBA⟩ := hrel
          clear k0 k1 k2 k3
          have k0 := H4R.out.c0; have k1 := H4R.out.c1; have k2 := H4R.out.c2; have k3 := H4R.out.c3
          by_cases q : i < m
          · have q2 : (i : Int) < m := by omega
            have hw : IntKind.i64.wrap ((i : Int) + 1) = ((i + 1 : Nat) : Int) := by rw [IntWalk.i64_in _ (by omega)]; omega
            have hib : i < bl.length := by rw [← HM.out]; exact q
            obtain ⟨B, o, rfl, d0⟩ := HVR.out.at' hib
            obtain ⟨b, hbb⟩ : ∃ b, b = bl[i] := ⟨_, rfl⟩
            rw [← hbb] at d0
            have HBE := Lib.hid hbb
            clear hbb
            by_cases d1 : b.size < 1
            · have g1 : (b.size : Int) < 1 := by omega
              have HN : Hid (IffB false (WellF ⟨al, len, bl, false⟩)) := IffB.no fun h => by
                have h2 := (h.2.2.2.1.2 i hib).1
                dsimp only at h2
                rw [← HBE.out] at h2
                omega
              go_upto_region 12 with fail
              go_quiet (fail)
              rename_i nq
              have HBq := Lib.hid (HBR.out.trans ((below_dr wr nq).mono HBR.out.size))
              go_wp2_with fail
              go_ret
              exact ⟨false, rfl, HN, HBq⟩
            have g1 : ¬ (b.size : Int) < 1 := by omega
            by_cases d2 : b.size > 8
            · have g2 : (b.size : Int) > 8 := by omega
              have HN : Hid (IffB false (WellF ⟨al, len, bl, false⟩)) := IffB.no fun h => by
                have h2 := (h.2.2.2.1.2 i hib).2.1
                dsimp only at h2
                rw [← HBE.out] at h2
                omega
              go_upto_region 12 with fail
              go_quiet (fail)
              rename_i nq
              have HBq := Lib.hid (HBR.out.trans ((below_dr wr nq).mono HBR.out.size))
              go_wp2_with fail
              go_ret
              exact ⟨false, rfl, HN, HBq⟩
            have g2 : ¬ (b.size : Int) > 8 := by omega
            have HOF := Lib.hid (fun (W : World) => of_any (al := al) (t := b) ha (by omega) W)
            by_cases d3 : OfA b al
            · have HOT : Hid (∀ q, Calls Try.prog 59 #[.string al, .string b] (wr.drewN q) fun e w' => e = .returned (.bool true) ∧ ∃ k, w' = wr.drewN k) := fun q => (HOF.out _).mono (by rintro e w' ⟨r, rfl, hr, hb⟩; rw [hr.2 d3]; exact ⟨rfl, q, hb.symm⟩)
              have HBA2 : Hid (∀ j (h : j < bl.length), j < i + 1 → OkBan bl[j] al) := fun j h hj => by
                rcases Nat.lt_succ_iff_lt_or_eq.1 hj with h3 | h3
                · exact HBA.out j h h3
                · subst h3; rw [← HBE.out]; exact ⟨by omega, by omega, d3⟩
              clear HOF d3
              go_upto_region 12 with fail
              go_quiet ((go_at_call 59; with_reducible exact HOT.out _))
              rename_i nq
              have HBq := Lib.hid (HBR.out.trans ((below_dr wr nq).mono HBR.out.size))
              have H4q := Lib.hid (H4R.out.below (below_dr wr nq))
              have HVq := Lib.hid (HVR.out.below (below_dr wr nq))
              go_wp2_with fail
              go_roundw
              case rel => exact ⟨i + 1, q, by go_num, H4q, HVq, HBq, HBA2⟩
              case measure => simp [intOf]; omega
            · have HOT : Hid (∀ q, Calls Try.prog 59 #[.string al, .string b] (wr.drewN q) fun e w' => e = .returned (.bool false) ∧ ∃ k, w' = wr.drewN k) := fun q => (HOF.out _).mono (by
                rintro e w' ⟨r, rfl, hr, hb⟩
                cases r with
                | true => exact absurd (hr.1 rfl) d3
                | false => exact ⟨rfl, q, hb.symm⟩)
              have HN : Hid (IffB false (WellF ⟨al, len, bl, false⟩)) := IffB.no fun h => by
                have h2 := (h.2.2.2.1.2 i hib).2.2
                dsimp only at h2
                rw [← HBE.out] at h2
                exact d3 h2
              clear HOF d3
              go_upto_region 12 with fail
              go_quiet ((go_at_call 59; with_reducible exact HOT.out _))
              rename_i nq
              have HBq := Lib.hid (HBR.out.trans ((below_dr wr nq).mono HBR.out.size))
              go_wp2_with fail
              go_ret
              exact ⟨false, rfl, HN, HBq⟩
          · obtain rfl : i = m := by omega
            have q2 : ¬ (i : Int) < i := by omega
            have HN : Hid (IffB true (WellF ⟨al, len, bl, false⟩)) := IffB.yes ⟨HGA.out, by show 1 ≤ len; omega, by show len ≤ 16; omega, ⟨by rw [← HM.out]; omega, fun j hj => HBA.out j hj (by rw [HM.out]; exact hj)⟩, (by intro h; first | exact HCK.out h | exact HCK.out trivial)⟩
            go_wp2_with fail
            go_ret
            exact ⟨true, rfl, HN, HBR⟩
  | true =>
    have hz0 : z = 0 := by
      have h2 : ¬ z = 1 := fun h => f1 ⟨rfl, h⟩
      omega
    subst hz0
    have HCK : Hid (true = true → al.size % 2 = 0) := fun _ => HZ.out.symm
    clear f1
    go_wp2_with fail
    go_loopw [3] (fun s2 wr => ∃ i : Nat, i ≤ al.size ∧ s2 = .int .i64 i ∧ Hid (w1 = wr) ∧ Hid (∀ i' (h : i' < al.size), i' < i → OkB al[i'] ∧ ∀ j (hj : j < al.size), j < i' → al[j] ≠ al[i'])) (fun s2 _ => al.size - (intOf s2).toNat)
    case atStart => exact ⟨0, Nat.zero_le _, rfl, rfl, fun j _ h => by omega⟩
    case round =>
      obtain ⟨i, hi, rfl, HWR, HA⟩ := hrel
      obtain rfl := HWR.out
      by_cases q : i < al.size
      · have q1 : (i : Int) < al.size := by omega
        have hw : IntKind.i64.wrap ((i : Int) + 1) = ((i + 1 : Nat) : Int) := by rw [IntWalk.i64_in _ (by omega)]; omega
        have hix := fun W => index_str q W
        have hie := index_eq q
        obtain ⟨y, hy⟩ : ∃ y, y = al[i] := ⟨_, rfl⟩
        rw [← hy] at hix hie
        have HY := Lib.hid hy
        obtain ⟨r, hr⟩ : ∃ r, r = Lib.indexByte (bys al) y := ⟨_, rfl⟩
        have HV1 : Hid (∀ W : World, Calls Try.prog 41 #[.string al, .int .u8 (y.toNat : Int)] W fun e w' => e = .returned (.int .i64 r) ∧ W = w') := fun W => by rw [hr]; exact Value_any y ha W
        rw [← hr] at hie
        have HIE := Lib.hid hie
        clear hr hy hie
        by_cases c : r = (i : Int)
        case neg =>
          have c2 : (r != (i : Int)) = true := by rw [bne_iff_ne]; exact c
          have HN : Hid (IffB false (WellF ⟨al, len, bl, true⟩)) := IffB.no fun h => c (HIE.out.2 (by rw [HY.out]; exact (h.1.2.2 i q).2))
          go_wp2_with (first
            | (go_at_call 41; (with_reducible refine (HV1.out _).mono ?_); rintro e wa ⟨rfl, rfl⟩)
            | fail)
          go_ret
          exact ⟨false, rfl, HN, HB1⟩
        subst c
        have HDI := Lib.hid (HIE.out.1 rfl)
        have hyy : ∀ n : Nat, y.toNat = n → y.toNat = n := fun _ h => h
        obtain ⟨b, hb⟩ : ∃ b : Nat, b = y.toNat := ⟨_, rfl⟩
        rw [← hb] at hix HV1
        have HBY := Lib.hid hb
        clear hb hyy HIE
        by_cases d1 : b < 48
        · have g1 : ¬ (b : Int) ≥ 48 := by omega
          have g2 : ¬ (b : Int) ≥ 65 := by omega
          have HN : Hid (IffB false (WellF ⟨al, len, bl, true⟩)) := IffB.no fun h => by
            have h2 := (h.1.2.2 i q).1
            dsimp only at h2
            rw [← HY.out] at h2
            unfold OkB at h2
            rw [← HBY.out] at h2
            omega
          go_wp2_with (first
            | (go_at_call 41; (with_reducible refine (HV1.out _).mono ?_); rintro e wa ⟨rfl, rfl⟩)
            | fail)
          all_goals try (exfalso; rename_i hx; simp at hx; omega)
          go_ret
          exact ⟨false, rfl, HN, HB1⟩
        have g1 : (b : Int) ≥ 48 := by omega
        by_cases d2 : b ≤ 57
        · have g2 : (b : Int) ≤ 57 := by omega
          have HA2 : Hid (∀ i' (h : i' < al.size), i' < i + 1 → OkB al[i'] ∧ ∀ j (hj : j < al.size), j < i' → al[j] ≠ al[i']) := fun i' h hi' => by
            rcases Nat.lt_succ_iff_lt_or_eq.1 hi' with h3 | h3
            · exact HA.out i' h h3
            · subst h3
              rw [← HY.out]
              exact ⟨by unfold OkB; rw [← HBY.out]; omega, HDI.out⟩
          go_wp2_with (first
            | (go_at_call 41; (with_reducible refine (HV1.out _).mono ?_); rintro e wa ⟨rfl, rfl⟩)
            | fail)
          all_goals try (exfalso; rename_i hx; simp at hx; omega)
          go_roundw
          case rel => exact ⟨i + 1, q, by go_num, (by first | exact rfl | exact Lib.hid trivial), HA2⟩
          case measure => simp [intOf]; omega
        have g2 : ¬ (b : Int) ≤ 57 := by omega
        by_cases d3 : b < 65
        · have g3 : ¬ (b : Int) ≥ 65 := by omega
          have HN : Hid (IffB false (WellF ⟨al, len, bl, true⟩)) := IffB.no fun h => by
            have h2 := (h.1.2.2 i q).1
            dsimp only at h2
            rw [← HY.out] at h2
            unfold OkB at h2
            rw [← HBY.out] at h2
            omega
          go_wp2_with (first
            | (go_at_call 41; (with_reducible refine (HV1.out _).mono ?_); rintro e wa ⟨rfl, rfl⟩)
            | fail)
          all_goals try (exfalso; rename_i hx; simp at hx; omega)
          go_ret
          exact ⟨false, rfl, HN, HB1⟩
        have g3 : (b : Int) ≥ 65 := by omega
        by_cases d4 : b ≤ 90
        · have g4 : (b : Int) ≤ 90 := by omega
          have HA2 : Hid (∀ i' (h : i' < al.size), i' < i + 1 → OkB al[i'] ∧ ∀ j (hj : j < al.size), j < i' → al[j] ≠ al[i']) := fun i' h hi' => by
            rcases Nat.lt_succ_iff_lt_or_eq.1 hi' with h3 | h3
            · exact HA.out i' h h3
            · subst h3
              rw [← HY.out]
              exact ⟨by unfold OkB; rw [← HBY.out]; omega, HDI.out⟩
          go_wp2_with (first
            | (go_at_call 41; (with_reducible refine (HV1.out _).mono ?_); rintro e wa ⟨rfl, rfl⟩)
            | fail)
          all_goals try (exfalso; rename_i hx; simp at hx; omega)
          go_roundw
          case rel => exact ⟨i + 1, q, by go_num, (by first | exact rfl | exact Lib.hid trivial), HA2⟩
          case measure => simp [intOf]; omega
        have g4 : ¬ (b : Int) ≤ 90 := by omega
        have HN : Hid (IffB false (WellF ⟨al, len, bl, true⟩)) := IffB.no fun h => by
          have h2 := (h.1.2.2 i q).1
          dsimp only at h2
          rw [← HY.out] at h2
          unfold OkB at h2
          rw [← HBY.out] at h2
          omega
        go_wp2_with (first
          | (go_at_call 41; (with_reducible refine (HV1.out _).mono ?_); rintro e wa ⟨rfl, rfl⟩)
          | fail)
        all_goals try (exfalso; rename_i hx; simp at hx; omega)
        go_ret
        exact ⟨false, rfl, HN, HB1⟩
      · obtain rfl : i = al.size := by omega
        have q1 : ¬ (al.size : Int) < (al.size : Int) := by omega
        have HGA : Hid (GoodA al) := ⟨by omega, by omega, fun i h => HA.out i h h⟩
        go_wp2_with fail
        go_loopw [5] (fun s5 wr => ∃ i : Nat, i ≤ m ∧ s5 = .int .i64 i ∧ Hid (B4 w.heap.size (.string al) (.int .i64 len) (.slice bo m bc) (.bool true) wr) ∧ Hid (IsSs wr (.slice bo m bc) bl) ∧ Hid (Below w.heap.size w wr) ∧ Hid (∀ j (h : j < bl.length), j < i → OkBan bl[j] al)) (fun s5 _ => m - (intOf s5).toNat)
        case atStart => exact ⟨0, Nat.zero_le _, rfl, H4, HV, HB1, fun j _ h => by omega⟩
        case round =>
          obtain ⟨i, hi, rfl, H4R, HVR, HBR, HBA⟩ := hrel
          clear k0 k1 k2 k3
          have k0 := H4R.out.c0; have k1 := H4R.out.c1; have k2 := H4R.out.c2; have k3 := H4R.out.c3
          by_cases q : i < m
          · have q2 : (i : Int) < m := by omega
            have hw : IntKind.i64.wrap ((i : Int) + 1) = ((i + 1 : Nat) : Int) := by rw [IntWalk.i64_in _ (by omega)]; omega
            have hib : i < bl.length := by rw [← HM.out]; exact q
            obtain ⟨B, o, rfl, d0⟩ := HVR.out.at' hib
            obtain ⟨b, hbb⟩ : ∃ b, b = bl[i] := ⟨_, rfl⟩
            rw [← hbb] at d0
            have HBE := Lib.hid hbb
            clear hbb
            by_cases d1 : b.size < 1
            · have g1 : (b.size : Int) < 1 := by omega
              have HN : Hid (IffB false (WellF ⟨al, len, bl, true⟩)) := IffB.no fun h => by
                have h2 := (h.2.2.2.1.2 i hib).1
                dsimp only at h2
                rw [← HBE.out] at h2
                omega
              go_upto_region 12 with fail
              go_quiet (fail)
              rename_i nq
              have HBq := Lib.hid (HBR.out.trans ((below_dr wr nq).mono HBR.out.size))
              go_wp2_with fail
              go_ret
              exact ⟨false, rfl, HN, HBq⟩
            have g1 : ¬ (b.size : Int) < 1 := by omega
            by_cases d2 : b.size > 8
            · have g2 : (b.size : Int) > 8 := by omega
              have HN : Hid (IffB false (WellF ⟨al, len, bl, true⟩)) := IffB.no fun h => by
                have h2 := (h.2.2.2.1.2 i hib).2.1
                dsimp only at h2
                rw [← HBE.out] at h2
                omega
              go_upto_region 12 with fail
              go_quiet (fail)
              rename_i nq
              have HBq := Lib.hid (HBR.out.trans ((below_dr wr nq).mono HBR.out.size))
              go_wp2_with fail
              go_ret
              exact ⟨false, rfl, HN, HBq⟩
            have g2 : ¬ (b.size : Int) > 8 := by omega
            have HOF := Lib.hid (fun (W : World) => of_any (al := al) (t := b) ha (by omega) W)
            by_cases d3 : OfA b al
            · have HOT : Hid (∀ q, Calls Try.prog 59 #[.string al, .string b] (wr.drewN q) fun e w' => e = .returned (.bool true) ∧ ∃ k, w' = wr.drewN k) := fun q => (HOF.out _).mono (by rintro e w' ⟨r, rfl, hr, hb⟩; rw [hr.2 d3]; exact ⟨rfl, q, hb.symm⟩)
              have HBA2 : Hid (∀ j (h : j < bl.length), j < i + 1 → OkBan bl[j] al) := fun j h hj => by
                rcases Nat.lt_succ_iff_lt_or_eq.1 hj with h3 | h3
                · exact HBA.out j h h3
                · subst h3; rw [← HBE.out]; exact ⟨by omega, by omega, d3⟩
              clear HOF d3
              go_upto_region 12 with fail
              go_quiet ((go_at_call 59; with_reducible exact HOT.out _))
              rename_i nq
              have HBq := Lib.hid (HBR.out.trans ((below_dr wr nq).mono HBR.out.size))
              have H4q := Lib.hid (H4R.out.below (below_dr wr nq))
              have HVq := Lib.hid (HVR.out.below (below_dr wr nq))
              go_wp2_with fail
              go_roundw
              case rel => exact ⟨i + 1, q, by go_num, H4q, HVq, HBq, HBA2⟩
              case measure => simp [intOf]; omega
            · have HOT : Hid (∀ q, Calls Try.prog 59 #[.string al, .string b] (wr.drewN q) fun e w' => e = .returned (.bool false) ∧ ∃ k, w' = wr.drewN k) := fun q => (HOF.out _).mono (by
                rintro e w' ⟨r, rfl, hr, hb⟩
                cases r with
                | true => exact absurd (hr.1 rfl) d3
                | false => exact ⟨rfl, q, hb.symm⟩)
              have HN : Hid (IffB false (WellF ⟨al, len, bl, true⟩)) := IffB.no fun h => by
                have h2 := (h.2.2.2.1.2 i hib).2.2
                dsimp only at h2
                rw [← HBE.out] at h2
                exact d3 h2
              clear HOF d3
              go_upto_region 12 with fail
              go_quiet ((go_at_call 59; with_reducible exact HOT.out _))
              rename_i nq
              have HBq := Lib.hid (HBR.out.trans ((below_dr wr nq).mono HBR.out.size))
              go_wp2_with fail
              go_ret
              exact ⟨false, rfl, HN, HBq⟩
          · obtain rfl : i = m := by omega
            have q2 : ¬ (i : Int) < i := by omega
            have HN : Hid (IffB true (WellF ⟨al, len, bl, true⟩)) := IffB.yes ⟨HGA.out, by show 1 ≤ len; omega, by show len ≤ 16; omega, ⟨by rw [← HM.out]; omega, fun j hj => HBA.out j hj (by rw [HM.out]; exact hj)⟩, (by intro h; first | exact HCK.out h | exact HCK.out trivial)⟩
            go_wp2_with fail
            go_ret
            exact ⟨true, rfl, HN, HBR⟩
end Go.Proofs.Ytgblfobomiiofaa
namespace Go.Proofs.Ytgblfobomiiofaa
open Go Go.RowKit Go.Shelf Gw Go.Maps

theorem lcN_at {A p : Nat} (hA : 2 ≤ A) (hp : p ≤ A) : (p + lcN A p) % A = 1 := by
  unfold lcN
  rw [Nat.add_mod_mod, show p + (A + 1 - p) = 1 + A by omega, Nat.add_mod_right]
  exact Nat.mod_eq_of_lt (by omega)
theorem lcN_first {A p c : Nat} (hA : 2 ≤ A) (hp : p ≤ A) (hc : c < lcN A p) : (p + c) % A ≠ 1 := by
  intro h
  have h1 := lcN_at hA hp
  have h2 : lcN A p < A := Nat.mod_lt _ (by omega)
  have h3 := Nat.sub_mod_eq_zero_of_mod_eq (h1.trans h.symm)
  rw [show p + lcN A p - (p + c) = lcN A p - c by omega, Nat.mod_eq_of_lt (by omega)] at h3
  omega
/-- a body's check character -/
def sumT (al t : ByteArray) : ByteArray := al.extract (lcN al.size (chk (ncN al.size) al.size (wordN al t))) (lcN al.size (chk (ncN al.size) al.size (wordN al t)) + 1)
set_option maxRecDepth 100000 in
set_option maxHeartbeats 4000000 in
theorem Sum_any {al t : ByteArray} (h1 : 2 ≤ al.size) (h2 : al.size ≤ 36) (ht : t.size ≤ 1000) (ho : OfA t al) (w : World) : Calls Try.prog 60 #[.string al, .string t] w fun e w' => e = .returned (.string (sumT al t)) ∧ Hid (Below w.heap.size w w') := by
  have HV := Lib.hid (fun (b : UInt8) (W : World) => Value_any (al := al) b (by omega) W)
  obtain ⟨R, hR⟩ : ∃ R, R = sumT al t := ⟨_, rfl⟩
  rw [← hR]
  have HRR := Lib.hid hR
  obtain ⟨A, hA⟩ : ∃ A, A = al.size := ⟨_, rfl⟩
  have hls : ∀ (t ty : TypeId), Try.prog.underlying t = some .string → ∀ W, (Builtin.len_ #[t] ty #[.string al]).run Try.prog W = .ok (.int .i64 (A : Int)) W := fun t ty ht W => by rw [run_len_string _ _ _ _ ht, hA]; rfl
  rw [← hA] at h1 h2
  have HA := Lib.hid hA
  have HO := Lib.hid ho
  clear hA hR ho
  have hAz : ((A : Int) == 0) = false := beq_eq_false_iff_ne.2 (by omega)
  have hAz2 : ¬ (A : Int) = 0 := by omega
  have w4 : IntKind.i64.wrap ((A : Int) + 1) = ((A + 1 : Nat) : Int) := by rw [IntWalk.i64_in _ (by omega)]; omega
  have hBz : (((A + 1 : Nat) : Int) == 0) = false := beq_eq_false_iff_ne.2 (by omega)
  obtain ⟨A1, hA1⟩ : ∃ k, k = A + 1 := ⟨_, rfl⟩
  rw [← hA1] at w4 hBz
  have hBz2 : ¬ (A1 : Int) = 0 := by omega
  have hA1b : A1 ≤ 37 := by omega
  have HA1 := Lib.hid hA1
  clear hA1
  go_enter Try.func60, Try.ntmps60
  go_wp2_with fail
  go_loopw [6, 7] (fun sP sI wr => ∃ i p : Nat, i ≤ t.size ∧ p ≤ A ∧ sI = .int .i64 i ∧ sP = .int .i64 p ∧ Hid (chk (ncN A) p ((wordN al t).drop i) = chk (ncN A) A (wordN al t)) ∧ Hid (Below w.heap.size w wr)) (fun _ sI _ => t.size - (intOf sI).toNat)
  case atStart => exact ⟨0, A, Nat.zero_le _, Nat.le_refl _, rfl, rfl, rfl, Below.refl _ _⟩
  case round =>
    obtain ⟨i, p, hi, hp, rfl, rfl, HP, HBR⟩ := hrel
    by_cases q : i < t.size
    · have q1 : (i : Int) < (t.size : Int) := by omega
      obtain ⟨i1, hi1⟩ : ∃ i1, i1 = i + 1 := ⟨_, rfl⟩
      have hw : IntKind.i64.wrap ((i : Int) + 1) = (i1 : Int) := by rw [IntWalk.i64_in _ (by omega)]; omega
      have hix := fun W => index_str q W
      obtain ⟨y, hy⟩ : ∃ y, y = t[i] := ⟨_, rfl⟩
      rw [← hy] at hix
      have hym : y ∈ bys al := by rw [hy]; exact HO.out _ (bys_at q)
      have hiu : i < (wordN al t).length := by rw [wordN_len]; exact q
      obtain ⟨v, hv⟩ : ∃ v, v = (bys al).idxOf y := ⟨_, rfl⟩
      have hvu : (wordN al t)[i] = v := by
        have e4 : (wordN al t)[i] = (fun b => (bys al).idxOf b) ((bys t)[i]'(by rw [bys_len]; exact q)) := List.getElem_map _
        rw [e4, hv, hy]; rfl
      have hvA : v < A := by rw [hv, HA.out, ← bys_len]; exact List.idxOf_lt_length_of_mem hym
      have HV1 : Hid (∀ W : World, Calls Try.prog 41 #[.string al, .int .u8 (y.toNat : Int)] W fun e w' => e = .returned (.int .i64 (v : Int)) ∧ W = w') := fun W => by
        have h5 := HV.out y W
        rw [indexByte_idx hym, ← hv] at h5
        exact h5
      have HP2 : Hid (chk (ncN A) (ncN A p v) ((wordN al t).drop (i + 1)) = chk (ncN A) A (wordN al t)) := by
        have := HP.out
        rw [List.drop_eq_getElem_cons hiu, hvu] at this
        exact this
      have hle : ncN A p v ≤ A := ncN_le
      have hil : i1 ≤ t.size := by omega
      have him : t.size - i1 < t.size - i := by omega
      rw [← hi1] at HP2
      obtain ⟨s, hs⟩ : ∃ s, s = (p + v) % A := ⟨_, rfl⟩
      have hsl : s < A := by rw [hs]; exact Nat.mod_lt _ (by omega)
      have w1 : IntKind.i64.wrap ((p : Int) + (v : Int)) = ((p + v : Nat) : Int) := by rw [IntWalk.i64_in _ (by omega)]; omega
      have w2 : (((p + v : Nat) : Int)).tmod (A : Int) = (s : Int) := by rw [Int.tmod_eq_emod_of_nonneg (by omega), hs]; simp
      have w2b : (((p + v : Nat) : Int)) % (A : Int) = (s : Int) := by rw [hs]; simp
      obtain ⟨pv, hpv⟩ : ∃ k, k = p + v := ⟨_, rfl⟩
      rw [← hpv] at w1 w2 w2b
      have w3 : IntKind.i64.wrap (s : Int) = (s : Int) := IntWalk.i64_in _ (by omega)
      have hN : ncN A p v = 2 * (if s = 0 then A else s) % A1 := by unfold ncN; rw [← hs, HA1.out]
      obtain ⟨u, hu⟩ : ∃ u, u = ncN A p v := ⟨_, rfl⟩
      rw [← hu] at hle HP2
      rw [hN] at hu
      have hul : u < A1 := by rw [hu]; exact Nat.mod_lt _ (by omega)
      have v3 : IntKind.i64.wrap (u : Int) = (u : Int) := IntWalk.i64_in _ (by omega)
      by_cases c : s = 0
      · subst c
        rw [if_pos rfl] at hu
        obtain ⟨d, hd⟩ : ∃ d, d = 2 * A := ⟨_, rfl⟩
        rw [← hd] at hu
        have v1 : IntKind.i64.wrap (2 * (A : Int)) = (d : Int) := by rw [IntWalk.i64_in _ (by omega)]; omega
        have v2 : ((d : Int)).tmod (A1 : Int) = (u : Int) := by rw [Int.tmod_eq_emod_of_nonneg (by omega), hu]; simp
        have v2b : ((d : Int)) % (A1 : Int) = (u : Int) := by rw [hu]; simp
        clear hy hym hiu hvu hs hN hu hd hpv hv hi1
        go_wp2_with (first
          | (go_at_call 41; (with_reducible refine (HV1.out _).mono ?_); rintro e wa ⟨rfl, rfl⟩)
          | fail)
        go_roundw
        case rel => exact ⟨i1, u, hil, hle, by go_num, by go_num, HP2, HBR⟩
        case measure => simp [intOf]; omega
      · rw [if_neg c] at hu
        have c2 : ((s : Int) == 0) = false := beq_eq_false_iff_ne.2 (by omega)
        have c3 : ¬ (s : Int) = 0 := by omega
        obtain ⟨d, hd⟩ : ∃ d, d = 2 * s := ⟨_, rfl⟩
        rw [← hd] at hu
        have v1 : IntKind.i64.wrap (2 * (s : Int)) = (d : Int) := by rw [IntWalk.i64_in _ (by omega)]; omega
        have v2 : ((d : Int)).tmod (A1 : Int) = (u : Int) := by rw [Int.tmod_eq_emod_of_nonneg (by omega), hu]; simp
        have v2b : ((d : Int)) % (A1 : Int) = (u : Int) := by rw [hu]; simp
        clear hy hym hiu hvu hs hN hu hd hpv hv hi1
        go_wp2_with (first
          | (go_at_call 41; (with_reducible refine (HV1.out _).mono ?_); rintro e wa ⟨rfl, rfl⟩)
          | fail)
        go_roundw
        case rel => exact ⟨i1, u, hil, hle, by go_num, by go_num, HP2, HBR⟩
        case measure => simp [intOf]; omega
    · obtain rfl : i = t.size := by omega
      have q1 : ¬ (t.size : Int) < (t.size : Int) := by omega
      have hpe : p = chk (ncN A) A (wordN al t) := by
        have := HP.out
        rw [← wordN_len al t, List.drop_length] at this
        exact this
      obtain ⟨k, hk⟩ : ∃ k, k = lcN A p := ⟨_, rfl⟩
      have HK : Hid (R = al.extract k (k + 1)) := by
        show R = _
        rw [HRR.out, hk, hpe]
        unfold sumT
        rw [← HA.out]
      have hkA : k < A := by rw [hk]; exact Nat.mod_lt _ (by omega)
      have HF := Lib.hid (lcN_at h1 hp)
      have HG := Lib.hid (fun c (hc : c < lcN A p) => lcN_first h1 hp hc)
      rw [← hk] at HF HG
      clear hpe hk
      go_wp2_with fail
      go_loopw [9] (fun sC wr => ∃ c : Nat, c ≤ k ∧ sC = .int .i64 c ∧ Hid (Below w.heap.size w wr)) (fun sC _ => A - (intOf sC).toNat)
      case atStart => exact ⟨0, Nat.zero_le _, rfl, HBR⟩
      case round =>
        obtain ⟨c, hck, rfl, HBC⟩ := hrel
        have q2 : (c : Int) < (A : Int) := by omega
        obtain ⟨s, hs⟩ : ∃ s, s = (p + c) % A := ⟨_, rfl⟩
        have hsl : s < A := by rw [hs]; exact Nat.mod_lt _ (by omega)
        have w1 : IntKind.i64.wrap ((p : Int) + (c : Int)) = ((p + c : Nat) : Int) := by rw [IntWalk.i64_in _ (by omega)]; omega
        have w2 : (((p + c : Nat) : Int)).tmod (A : Int) = (s : Int) := by rw [Int.tmod_eq_emod_of_nonneg (by omega), hs]; simp
        have w2b : (((p + c : Nat) : Int)) % (A : Int) = (s : Int) := by rw [hs]; simp
        obtain ⟨pv, hpv⟩ : ∃ k, k = p + c := ⟨_, rfl⟩
        rw [← hpv] at w1 w2 w2b
        have w3 : IntKind.i64.wrap (s : Int) = (s : Int) := IntWalk.i64_in _ (by omega)
        obtain ⟨cc, hcc⟩ : ∃ cc, cc = c + 1 := ⟨_, rfl⟩
        have hw : IntKind.i64.wrap ((c : Int) + 1) = (cc : Int) := by rw [IntWalk.i64_in _ (by omega)]; omega
        have hAs := HA.out
        by_cases x : c = k
        · subst x
          obtain rfl : s = 1 := by rw [hs]; exact HF.out
          have hsl2 : ∀ W, (Instr.slice 9 (.string al) (some (.int .i64 (c : Int))) (some (.int .i64 (cc : Int))) none).run Try.prog W = .ok (.string R) W := fun W => by rw [slice_in (by omega) (by omega) W, HK.out, hcc]
          clear hs hpv hcc hAs
          go_wp2_with fail
          go_ret
          exact ⟨rfl, HBC⟩
        · have hs1 : s ≠ 1 := by rw [hs]; exact HG.out c (by omega)
          have hs2 : ((s : Int) == 1) = false := beq_eq_false_iff_ne.2 (by omega)
          have hs3 : ¬ (s : Int) = 1 := by omega
          have hcc2 : cc ≤ k := by omega
          have hm : A - cc < A - c := by omega
          clear hs hpv hcc hAs
          go_wp2_with fail
          go_roundw
          case rel => exact ⟨cc, hcc2, by go_num, HBC⟩
          case measure => simp [intOf]; omega
end Go.Proofs.Ytgblfobomiiofaa
namespace Go.Proofs.Ytgblfobomiiofaa
open Go Go.RowKit Go.Shelf Gw Go.Maps

/-- all words of a length, in order -/
def allW (A : Nat) : Nat → List (List Nat)
  | 0 => [[]]
  | k + 1 => (List.range A).flatMap fun v => (allW A k).map (v :: ·)
/-- the low digits of a number, the highest first -/
def lowD (A : Nat) : Nat → Nat → List Nat
  | 0, _ => []
  | k + 1, n => (n / A ^ k % A) :: lowD A k n
theorem lowD_len (A : Nat) : ∀ (k n : Nat), (lowD A k n).length = k
  | 0, _ => rfl
  | k + 1, n => by
    show (lowD A k n).length + 1 = k + 1
    rw [lowD_len A k n]
theorem lowD_lt {A : Nat} (hA : 0 < A) : ∀ {k n v : Nat}, v ∈ lowD A k n → v < A
  | 0, n, v, h => by
    have h' : v ∈ ([] : List Nat) := h
    simp at h'
  | k + 1, n, v, h => by
    have h' : v ∈ (n / A ^ k % A) :: lowD A k n := h
    rcases List.mem_cons.1 h' with rfl | h2
    · exact Nat.mod_lt _ hA
    · exact lowD_lt hA h2
theorem lowD_mod {A m : Nat} : ∀ {k : Nat} (n : Nat), k ≤ m → lowD A k (n % A ^ m) = lowD A k n
  | 0, _, _ => rfl
  | k + 1, n, h => by
    show (n % A ^ m / A ^ k % A) :: lowD A k (n % A ^ m) = (n / A ^ k % A) :: lowD A k n
    rw [lowD_mod n (by omega)]
    congr 1
    obtain ⟨d, rfl⟩ : ∃ d, m = k + (d + 1) := ⟨m - k - 1, by omega⟩
    rw [Nat.pow_add, Nat.mod_mul_right_div_self]
    exact Nat.mod_mod_of_dvd _ ⟨A ^ d, by rw [Nat.pow_succ, Nat.mul_comm]⟩
theorem flat_len {L : Nat} {g : Nat → List (List Nat)} (hg : ∀ v, (g v).length = L) : ∀ A, ((List.range A).flatMap g).length = A * L
  | 0 => by simp
  | A + 1 => by
    rw [List.range_succ, List.flatMap_append, List.length_append, flat_len hg A]
    simp [hg, Nat.add_mul]
theorem flat_at {L : Nat} {g : Nat → List (List Nat)} (hg : ∀ v, (g v).length = L) {v j : Nat} (hj : j < L) : ∀ {A : Nat}, v < A → ((List.range A).flatMap g)[v * L + j]? = (g v)[j]?
  | 0, h => by omega
  | A + 1, h => by
    have hl := flat_len hg A
    rw [List.range_succ, List.flatMap_append]
    rcases Nat.lt_succ_iff_lt_or_eq.1 h with h2 | h2
    · rw [List.getElem?_append_left, flat_at hg hj h2]
      rw [hl]
      have h3 : (v + 1) * L ≤ A * L := Nat.mul_le_mul_right L h2
      rw [Nat.add_mul] at h3
      omega
    · subst h2
      rw [List.getElem?_append_right (by rw [hl]; omega), hl, Nat.add_sub_cancel_left]
      simp
theorem allW_len (A : Nat) : ∀ k, (allW A k).length = A ^ k
  | 0 => rfl
  | k + 1 => by
    show ((List.range A).flatMap fun v => (allW A k).map (v :: ·)).length = _
    rw [flat_len (L := A ^ k) (fun v => by rw [List.length_map, allW_len A k]), Nat.pow_succ, Nat.mul_comm]
theorem allW_at {A : Nat} (hA : 0 < A) : ∀ {k n : Nat}, n < A ^ k → (allW A k)[n]? = some (lowD A k n)
  | 0, n, h => by
    have : n = 0 := by simpa using h
    subst this
    rfl
  | k + 1, n, h => by
    have hp : 0 < A ^ k := Nat.pow_pos hA
    have hv : n / A ^ k < A := Nat.div_lt_of_lt_mul (by rw [Nat.pow_succ] at h; exact h)
    have hr : n % A ^ k < A ^ k := Nat.mod_lt _ hp
    have e : n = n / A ^ k * A ^ k + n % A ^ k := (Nat.div_add_mod' n (A ^ k)).symm
    show ((List.range A).flatMap fun v => (allW A k).map (v :: ·))[n]? = some ((n / A ^ k % A) :: lowD A k n)
    rw [Nat.mod_eq_of_lt hv]
    have h3 := flat_at (L := A ^ k) (g := fun v => (allW A k).map (v :: ·)) (fun v => by rw [List.length_map, allW_len]) hr hv
    rw [← e] at h3
    rw [h3, List.getElem?_map, allW_at hA hr, lowD_mod n (Nat.le_refl k)]
    rfl
theorem run_snocP (f : Nat → Nat → Option Nat) (v : Nat) : ∀ (u : List Nat) (i : Nat), run f i (u ++ [v]) = (run f i u).bind fun j => f j v
  | [], i => by
    show run f i [v] = f i v
    unfold run
    cases f i v <;> rfl
  | x :: u, i => by
    show run f i (x :: (u ++ [v])) = _
    unfold run
    cases f i x with
    | none => rfl
    | some j => exact run_snocP f v u j
theorem words_full {f : Nat → Nat → Option Nat} {A : Nat} {nc : Nat → Nat → Nat} (hf : ∀ u : List Nat, (∀ v ∈ u, v < A) → (run f 0 u).isSome = true) : ∀ (k st p : Nat), (∃ u0 : List Nat, (∀ v ∈ u0, v < A) ∧ run f 0 u0 = some st) → words f A nc (fun _ => true) (List.replicate k none) st p = allW A k
  | 0, _, _, _ => rfl
  | k + 1, st, p, ⟨u0, h0, hr⟩ => by
    rw [List.replicate_succ, words_cons]
    show _ = (List.range A).flatMap fun v => (allW A k).map (v :: ·)
    rw [List.flatMap_def, List.flatMap_def]
    congr 1
    refine List.map_congr_left fun v hv => ?_
    have hvA : v < A := List.mem_range.1 hv
    have h1 : ∀ x ∈ u0 ++ [v], x < A := fun x hx => by
      rcases List.mem_append.1 hx with h | h
      · exact h0 x h
      · rw [List.mem_singleton.1 h]; exact hvA
    have h2 := hf _ h1
    have h3 := run_snocP f v u0 0
    rw [hr] at h3
    have h4 : (some st).bind (fun j => f j v) = f st v := rfl
    rw [h4] at h3
    cases hfv : f st v with
    | none => rw [h3, hfv] at h2; cases h2
    | some j =>
      have e0 : stepW f A nc (fun _ => true) none (List.replicate k none) st p v = words f A nc (fun _ => true) (List.replicate k none) j (nc p v) := by
        unfold stepW fitsM
        simp [hfv]
      rw [e0, words_full hf k j (nc p v) ⟨u0 ++ [v], h1, by rw [h3, hfv]⟩]
theorem plain_words {s : Sch} (h : WellF s) (hb : s.bl = []) : wordsS s = allW s.al.size (nS s) := by
  unfold wordsS wordsAt freeS
  rw [List.drop_zero, List.take_replicate, Nat.min_eq_left (le_szN _ _)]
  have e : (finL s.al.size none) = fun _ => true := by
    funext p
    unfold finL
    simp
  rw [e]
  refine words_full (fun u hu => ?_) _ _ _ ⟨[], by simp, rfl⟩
  rw [allow_fS h hu]
  refine decide_eq_true fun b hb2 => ?_
  unfold bansS at hb2
  rw [hb] at hb2
  simp at hb2
theorem plain_tot {s : Sch} (h : WellF s) (hb : s.bl = []) : totS s = s.al.size ^ nS s := by rw [totS_words, plain_words h hb, allW_len]
theorem plain_at {s : Sch} (h : WellF s) (hb : s.bl = []) {n : Nat} (hn : n < s.al.size ^ nS s) : (wordsS s)[n]? = some (lowD s.al.size (nS s) n) := by
  rw [plain_words h hb]
  exact allW_at (by have := h.1.1; omega) hn
end Go.Proofs.Ytgblfobomiiofaa
namespace Go.Proofs.Ytgblfobomiiofaa
open Go Go.RowKit Go.Shelf Gw Go.Maps

set_option maxRecDepth 100000 in
set_option maxHeartbeats 4000000 in
theorem Small_any {s : Sch} {bv : Value} {M : Nat} {w : World} (hW : WellF s) (hM : M ≤ 2 ^ 50) : Calls Try.prog 34 #[schV s bv, .int .i64 (M : Int)] w (BoolP (s.al.size ^ nS s ≤ M) w) := by
  obtain ⟨w1, hw1⟩ : ∃ w1, w1 = w.alloc (.cells #[.string s.al, .int .i64 s.len, bv, .bool s.ck] 24) := ⟨_, rfl⟩
  have hb1 : Below w.heap.size w w1 := by rw [hw1]; exact below_al _ _
  have H4 : Hid (B4 w.heap.size (.string s.al) (.int .i64 s.len) bv (.bool s.ck) w1) := by rw [hw1]; exact B4.new _ _ _ _ _ _
  have HB1 := Lib.hid hb1
  have HW1 := Lib.hid hw1
  clear hw1 hb1
  obtain ⟨al, len, bl, ck⟩ := s
  have h1 : 2 ≤ al.size := hW.1.1
  have h2 : al.size ≤ 36 := hW.1.2.1
  have hl : (⟨al, len, bl, ck⟩ : Sch).len = (nS ⟨al, len, bl, ck⟩ : Int) := by have := hW.2.1; unfold nS; omega
  obtain ⟨n, hn⟩ : ∃ n, n = nS ⟨al, len, bl, ck⟩ := ⟨_, rfl⟩
  rw [← hn] at hl ⊢
  have hl' : len = (n : Int) := hl
  unfold schV
  dsimp only at *
  subst hl'
  have hn16 : n ≤ 16 := by have h := hW.2.2.1; dsimp only at h; omega
  have hn1 : 1 ≤ n := by have h := hW.2.1; dsimp only at h; omega
  clear hW hn hl
  obtain ⟨A, hA⟩ : ∃ A, A = al.size := ⟨_, rfl⟩
  have hls : ∀ (t ty : TypeId), Try.prog.underlying t = some .string → ∀ W, (Builtin.len_ #[t] ty #[.string al]).run Try.prog W = .ok (.int .i64 (A : Int)) W := fun t ty ht W => by rw [run_len_string _ _ _ _ ht, hA]; rfl
  rw [← hA] at h1 h2 ⊢
  clear hA
  have k0 := H4.out.c0; have k1 := H4.out.c1
  go_enter Try.func34, Try.ntmps34
  go_upto_region 1 with fail
  rw [← HW1.out]
  go_wp2_with fail
  go_loopw [5, 6] (fun sN sI wr => ∃ i p : Nat, i ≤ n ∧ p ≤ 2 ^ 50 ∧ sI = .int .i64 i ∧ sN = .int .i64 p ∧ Hid (p = A ^ i ∧ (i ≠ 0 → p ≤ M)) ∧ w1 = wr) (fun _ sI _ => n - (intOf sI).toNat)
  case atStart => exact ⟨0, 1, Nat.zero_le _, by decide, rfl, rfl, ⟨rfl, fun h => absurd rfl h⟩, rfl⟩
  case round =>
    obtain ⟨i, p, hi, hp, rfl, rfl, HP, rfl⟩ := hrel
    by_cases q : i < n
    · have q1 : (i : Int) < (n : Int) := by omega
      obtain ⟨i1, hi1⟩ : ∃ i1, i1 = i + 1 := ⟨_, rfl⟩
      have hw : IntKind.i64.wrap ((i : Int) + 1) = (i1 : Int) := by rw [IntWalk.i64_in _ (by omega)]; omega
      obtain ⟨d, hd⟩ : ∃ d, d = p * A := ⟨_, rfl⟩
      have hdl : d ≤ 2 ^ 50 * 36 := by rw [hd]; exact Nat.mul_le_mul hp h2
      have hdi : (p : Int) * (A : Int) = (d : Int) := by rw [hd]; simp
      have v1 : IntKind.i64.wrap ((p : Int) * (A : Int)) = (d : Int) := by rw [hdi, IntWalk.i64_in _ (by omega)]
      have hdA : d = A ^ i1 := by rw [hd, HP.out.1, hi1, Nat.pow_succ]
      by_cases c : d > M
      · have c1 : (d : Int) > (M : Int) := by omega
        have HN : Hid (IffB false (A ^ n ≤ M)) := IffB.no fun h => by
          have h5 : A ^ i1 ≤ A ^ n := Nat.pow_le_pow_right (by omega) (by omega)
          omega
        clear hd hdA hdi hi1
        go_wp2_with fail
        go_ret
        exact ⟨false, rfl, HN, HB1⟩
      · have c1 : ¬ (d : Int) > (M : Int) := by omega
        have HP2 : Hid (d = A ^ i1 ∧ (i1 ≠ 0 → d ≤ M)) := ⟨hdA, fun _ => by omega⟩
        have him : n - i1 < n - i := by omega
        have hil : i1 ≤ n := by omega
        have hdm : d ≤ 2 ^ 50 := by omega
        clear hd hdA hdi hi1
        go_wp2_with fail
        go_roundw
        case rel => exact ⟨i1, d, hil, hdm, by go_num, by go_num, HP2, by trivial⟩
        case measure => simp [intOf]; omega
    · obtain rfl : i = n := by omega
      have q1 : ¬ (i : Int) < (i : Int) := by omega
      have HN : Hid (i ≠ 0 → IffB true (A ^ i ≤ M)) := fun h => IffB.yes (by rw [← HP.out.1]; exact HP.out.2 h)
      have hi0 : i ≠ 0 := by omega
      go_wp2_with fail
      go_ret
      exact ⟨true, rfl, HN.out hi0, HB1⟩
theorem serB_add {al : ByteArray} (ha : GoodA al) {u : List Nat} (hu : ∀ v ∈ u, v < al.size) : serB al false u ++ sumT al (serB al false u) = serB al true u := by
  refine bys_inj ?_
  have hl : lcN al.size (chk (ncN al.size) al.size u) < al.size := Nat.mod_lt _ (by have := ha.1; omega)
  have e1 : wordN al (serB al false u) = u := by
    rw [serB_word ha false hu]; rfl
  rw [bys_append]
  unfold sumT
  rw [e1, bys_extract]
  obtain ⟨c, hc⟩ : ∃ c, c = lcN al.size (chk (ncN al.size) al.size u) := ⟨_, rfl⟩
  have e3 : bys (serB al true u) = signs al u ++ signs al [c] := by rw [hc]; rfl
  have e4 : bys (serB al false u) = signs al u := rfl
  rw [e3, e4, ← hc]
  rw [← hc] at hl
  have e2 : ((bys al).take (c + 1)).drop c = [al[c]] := by
    rw [List.take_add_one, List.drop_append]
    have e2 : (bys al)[c]? = some al[c] := by rw [List.getElem?_eq_getElem (by rw [bys_len]; exact hl)]; rfl
    rw [e2]
    simp [Nat.min_eq_left (Nat.le_of_lt hl)]
  rw [e2]
  unfold signs
  simp [hl]
set_option maxRecDepth 100000 in
set_option maxHeartbeats 4000000 in
theorem RSerial_any {s : Sch} {bv : Value} {u : List Nat} {w : World} (hW : WellF s) (hu : ∀ v ∈ u, v < s.al.size) (hl : u.length ≤ 500) : Calls Try.prog 43 #[schV s bv, .string (serB s.al false u)] w fun e w' => e = .returned (.string (serB s.al s.ck u)) ∧ Hid (Below w.heap.size w w') := by
  obtain ⟨w1, hw1⟩ : ∃ w1, w1 = w.alloc (.cells #[.string s.al, .int .i64 s.len, bv, .bool s.ck] 24) := ⟨_, rfl⟩
  have hb1 : Below w.heap.size w w1 := by rw [hw1]; exact below_al _ _
  have H4 : Hid (B4 w.heap.size (.string s.al) (.int .i64 s.len) bv (.bool s.ck) w1) := by rw [hw1]; exact B4.new _ _ _ _ _ _
  have HB1 := Lib.hid hb1
  have HW1 := Lib.hid hw1
  clear hw1 hb1
  have ha := hW.1
  have hadd := serB_add ha hu
  have hsz : (serB s.al false u).size ≤ 500 := by rw [serB_size s.al u.length false rfl]; unfold szN; simpa using hl
  have HSU := Lib.hid (fun (W : World) => Sum_any ha.1 ha.2.1 (by omega) (serB_of ha.1 false hu) W)
  have hss : (sumT s.al (serB s.al false u)).size ≤ 500 := by
    unfold sumT
    rw [ByteArray.size_extract]
    have := ha.2.1
    omega
  have k0 := H4.out.c0; have k3 := H4.out.c3
  unfold schV
  cases hck : s.ck with
  | false =>
    rw [hck] at H4 HW1 k3
    generalize serB s.al false u = X at *
    clear hadd
    go_enter Try.func43, Try.ntmps43
    go_upto_region 1 with fail
    rw [← HW1.out]
    go_wp2_with fail
    go_ret
    exact ⟨rfl, HB1⟩
  | true =>
    rw [hck] at H4 HW1 k3
    rw [← hadd]
    generalize serB s.al false u = X at *
    generalize sumT s.al X = Y at *
    clear hadd
    have hadd : ∀ W : World, (Op.stringOp .add X Y).run Try.prog W = .ok (.string (X ++ Y)) W := fun W => run_string_add_sum W _ _ (by omega)
    go_enter Try.func43, Try.ntmps43
    go_upto_region 1 with fail
    rw [← HW1.out]
    go_wp2_with (first
      | (go_at_call 60; (with_reducible refine (HSU.out _).mono ?_); rintro e wa ⟨rfl, HBq⟩; have HBA := Lib.hid (HB1.out.trans (HBq.out.mono HB1.out.size)))
      | fail)
    go_ret
    exact ⟨rfl, HBA⟩
end Go.Proofs.Ytgblfobomiiofaa
