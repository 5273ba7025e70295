/- The document's Sum and Small. -/
import Derived.Test.YtgblfobomiiofaaCSdb
import Derived.Test.YtgblfobomiiofaaCSco
namespace Go.Proofs.Ytgblfobomiiofaa
open Go Go.RowKit Go.Shelf Gw Go.Maps

theorem lcN_at {A p : Nat} (hA : 2 ≤ A) (hp : p ≤ A) : (p + lcN A p) % A = 1 := by
  unfold lcN
  rw [Nat.add_mod_mod, show p + (A + 1 - p) = 1 + A by omega, Nat.add_mod_right]
  exact Nat.mod_eq_of_lt (by omega)
theorem lcN_first {A p c : Nat} (hA : 2 ≤ A) (hp : p ≤ A) (hc : c < lcN A p) : (p + c) % A ≠ 1 := by
  intro h
  have h1 := lcN_at hA hp
  have h2 : lcN A p < A := Nat.mod_lt _ (by omega)
  have h3 := Nat.sub_mod_eq_zero_of_mod_eq (h1.trans h.symm)
  rw [show p + lcN A p - (p + c) = lcN A p - c by omega, Nat.mod_eq_of_lt (by omega)] at h3
  omega
/-- a body's check character -/
def sumT (al t : ByteArray) : ByteArray := al.extract (lcN al.size (chk (ncN al.size) al.size (wordN al t))) (lcN al.size (chk (ncN al.size) al.size (wordN al t)) + 1)
set_option maxRecDepth 100000 in
set_option maxHeartbeats 4000000 in
theorem Sum_any {al t : ByteArray} (h1 : 2 ≤ al.size) (h2 : al.size ≤ 36) (ht : t.size ≤ 1000) (ho : OfA t al) (w : World) : Calls Try.prog 60 #[.string al, .string t] w fun e w' => e = .returned (.string (sumT al t)) ∧ Hid (Below w.heap.size w w') := by
  have HV := Lib.hid (fun (b : UInt8) (W : World) => Value_any (al := al) b (by omega) W)
  obtain ⟨R, hR⟩ : ∃ R, R = sumT al t := ⟨_, rfl⟩
  rw [← hR]
  have HRR := Lib.hid hR
  obtain ⟨A, hA⟩ : ∃ A, A = al.size := ⟨_, rfl⟩
  have hls : ∀ (t ty : TypeId), Try.prog.underlying t = some .string → ∀ W, (Builtin.len_ #[t] ty #[.string al]).run Try.prog W = .ok (.int .i64 (A : Int)) W := fun t ty ht W => by rw [run_len_string _ _ _ _ ht, hA]; rfl
  rw [← hA] at h1 h2
  have HA := Lib.hid hA
  have HO := Lib.hid ho
  clear hA hR ho
  have hAz : ((A : Int) == 0) = false := beq_eq_false_iff_ne.2 (by omega)
  have hAz2 : ¬ (A : Int) = 0 := by omega
  have w4 : IntKind.i64.wrap ((A : Int) + 1) = ((A + 1 : Nat) : Int) := by rw [IntWalk.i64_in _ (by omega)]; omega
  have hBz : (((A + 1 : Nat) : Int) == 0) = false := beq_eq_false_iff_ne.2 (by omega)
  obtain ⟨A1, hA1⟩ : ∃ k, k = A + 1 := ⟨_, rfl⟩
  rw [← hA1] at w4 hBz
  have hBz2 : ¬ (A1 : Int) = 0 := by omega
  have hA1b : A1 ≤ 37 := by omega
  have HA1 := Lib.hid hA1
  clear hA1
  go_enter Try.func60, Try.ntmps60
  go_wp2_with fail
  go_loopw [6, 7] (fun sP sI wr => ∃ i p : Nat, i ≤ t.size ∧ p ≤ A ∧ sI = .int .i64 i ∧ sP = .int .i64 p ∧ Hid (chk (ncN A) p ((wordN al t).drop i) = chk (ncN A) A (wordN al t)) ∧ Hid (Below w.heap.size w wr)) (fun _ sI _ => t.size - (intOf sI).toNat)
  case atStart => exact ⟨0, A, Nat.zero_le _, Nat.le_refl _, rfl, rfl, rfl, Below.refl _ _⟩
  case round =>
    obtain ⟨i, p, hi, hp, rfl, rfl, HP, HBR⟩ := hrel
    by_cases q : i < t.size
    · have q1 : (i : Int) < (t.size : Int) := by omega
      obtain ⟨i1, hi1⟩ : ∃ i1, i1 = i + 1 := ⟨_, rfl⟩
      have hw : IntKind.i64.wrap ((i : Int) + 1) = (i1 : Int) := by rw [IntWalk.i64_in _ (by omega)]; omega
      have hix := fun W => index_str q W
      obtain ⟨y, hy⟩ : ∃ y, y = t[i] := ⟨_, rfl⟩
      rw [← hy] at hix
      have hym : y ∈ bys al := by rw [hy]; exact HO.out _ (bys_at q)
      have hiu : i < (wordN al t).length := by rw [wordN_len]; exact q
      obtain ⟨v, hv⟩ : ∃ v, v = (bys al).idxOf y := ⟨_, rfl⟩
      have hvu : (wordN al t)[i] = v := by
        have e4 : (wordN al t)[i] = (fun b => (bys al).idxOf b) ((bys t)[i]'(by rw [bys_len]; exact q)) := List.getElem_map _
        rw [e4, hv, hy]; rfl
      have hvA : v < A := by rw [hv, HA.out, ← bys_len]; exact List.idxOf_lt_length_of_mem hym
      have HV1 : Hid (∀ W : World, Calls Try.prog 41 #[.string al, .int .u8 (y.toNat : Int)] W fun e w' => e = .returned (.int .i64 (v : Int)) ∧ W = w') := fun W => by
        have h5 := HV.out y W
        rw [indexByte_idx hym, ← hv] at h5
        exact h5
      have HP2 : Hid (chk (ncN A) (ncN A p v) ((wordN al t).drop (i + 1)) = chk (ncN A) A (wordN al t)) := by
        have := HP.out
        rw [List.drop_eq_getElem_cons hiu, hvu] at this
        exact this
      have hle : ncN A p v ≤ A := ncN_le
      have hil : i1 ≤ t.size := by omega
      have him : t.size - i1 < t.size - i := by omega
      rw [← hi1] at HP2
      obtain ⟨s, hs⟩ : ∃ s, s = (p + v) % A := ⟨_, rfl⟩
      have hsl : s < A := by rw [hs]; exact Nat.mod_lt _ (by omega)
      have w1 : IntKind.i64.wrap ((p : Int) + (v : Int)) = ((p + v : Nat) : Int) := by rw [IntWalk.i64_in _ (by omega)]; omega
      have w2 : (((p + v : Nat) : Int)).tmod (A : Int) = (s : Int) := by rw [Int.tmod_eq_emod_of_nonneg (by omega), hs]; simp
      have w2b : (((p + v : Nat) : Int)) % (A : Int) = (s : Int) := by rw [hs]; simp
      obtain ⟨pv, hpv⟩ : ∃ k, k = p + v := ⟨_, rfl⟩
      rw [← hpv] at w1 w2 w2b
      have w3 : IntKind.i64.wrap (s : Int) = (s : Int) := IntWalk.i64_in _ (by omega)
      have hN : ncN A p v = 2 * (if s = 0 then A else s) % A1 := by unfold ncN; rw [← hs, HA1.out]
      obtain ⟨u, hu⟩ : ∃ u, u = ncN A p v := ⟨_, rfl⟩
      rw [← hu] at hle HP2
      rw [hN] at hu
      have hul : u < A1 := by rw [hu]; exact Nat.mod_lt _ (by omega)
      have v3 : IntKind.i64.wrap (u : Int) = (u : Int) := IntWalk.i64_in _ (by omega)
      by_cases c : s = 0
      · subst c
        rw [if_pos rfl] at hu
        obtain ⟨d, hd⟩ : ∃ d, d = 2 * A := ⟨_, rfl⟩
        rw [← hd] at hu
        have v1 : IntKind.i64.wrap (2 * (A : Int)) = (d : Int) := by rw [IntWalk.i64_in _ (by omega)]; omega
        have v2 : ((d : Int)).tmod (A1 : Int) = (u : Int) := by rw [Int.tmod_eq_emod_of_nonneg (by omega), hu]; simp
        have v2b : ((d : Int)) % (A1 : Int) = (u : Int) := by rw [hu]; simp
        clear hy hym hiu hvu hs hN hu hd hpv hv hi1
        go_wp2_with (first
          | (go_at_call 41; (with_reducible refine (HV1.out _).mono ?_); rintro e wa ⟨rfl, rfl⟩)
          | fail)
        go_roundw
        case rel => exact ⟨i1, u, hil, hle, by go_num, by go_num, HP2, HBR⟩
        case measure => simp [intOf]; omega
      · rw [if_neg c] at hu
        have c2 : ((s : Int) == 0) = false := beq_eq_false_iff_ne.2 (by omega)
        have c3 : ¬ (s : Int) = 0 := by omega
        obtain ⟨d, hd⟩ : ∃ d, d = 2 * s := ⟨_, rfl⟩
        rw [← hd] at hu
        have v1 : IntKind.i64.wrap (2 * (s : Int)) = (d : Int) := by rw [IntWalk.i64_in _ (by omega)]; omega
        have v2 : ((d : Int)).tmod (A1 : Int) = (u : Int) := by rw [Int.tmod_eq_emod_of_nonneg (by omega), hu]; simp
        have v2b : ((d : Int)) % (A1 : Int) = (u : Int) := by rw [hu]; simp
        clear hy hym hiu hvu hs hN hu hd hpv hv hi1
        go_wp2_with (first
          | (go_at_call 41; (with_reducible refine (HV1.out _).mono ?_); rintro e wa ⟨rfl, rfl⟩)
          | fail)
        go_roundw
        case rel => exact ⟨i1, u, hil, hle, by go_num, by go_num, HP2, HBR⟩
        case measure => simp [intOf]; omega
    · obtain rfl : i = t.size := by omega
      have q1 : ¬ (t.size : Int) < (t.size : Int) := by omega
      have hpe : p = chk (ncN A) A (wordN al t) := by
        have := HP.out
        rw [← wordN_len al t, List.drop_length] at this
        exact this
      obtain ⟨k, hk⟩ : ∃ k, k = lcN A p := ⟨_, rfl⟩
      have HK : Hid (R = al.extract k (k + 1)) := by
        show R = _
        rw [HRR.out, hk, hpe]
        unfold sumT
        rw [← HA.out]
      have hkA : k < A := by rw [hk]; exact Nat.mod_lt _ (by omega)
      have HF := Lib.hid (lcN_at h1 hp)
      have HG := Lib.hid (fun c (hc : c < lcN A p) => lcN_first h1 hp hc)
      rw [← hk] at HF HG
      clear hpe hk
      go_wp2_with fail
      go_loopw [9] (fun sC wr => ∃ c : Nat, c ≤ k ∧ sC = .int .i64 c ∧ Hid (Below w.heap.size w wr)) (fun sC _ => A - (intOf sC).toNat)
      case atStart => exact ⟨0, Nat.zero_le _, rfl, HBR⟩
      case round =>
        obtain ⟨c, hck, rfl, HBC⟩ := hrel
        have q2 : (c : Int) < (A : Int) := by omega
        obtain ⟨s, hs⟩ : ∃ s, s = (p + c) % A := ⟨_, rfl⟩
        have hsl : s < A := by rw [hs]; exact Nat.mod_lt _ (by omega)
        have w1 : IntKind.i64.wrap ((p : Int) + (c : Int)) = ((p + c : Nat) : Int) := by rw [IntWalk.i64_in _ (by omega)]; omega
        have w2 : (((p + c : Nat) : Int)).tmod (A : Int) = (s : Int) := by rw [Int.tmod_eq_emod_of_nonneg (by omega), hs]; simp
        have w2b : (((p + c : Nat) : Int)) % (A : Int) = (s : Int) := by rw [hs]; simp
        obtain ⟨pv, hpv⟩ : ∃ k, k = p + c := ⟨_, rfl⟩
        rw [← hpv] at w1 w2 w2b
        have w3 : IntKind.i64.wrap (s : Int) = (s : Int) := IntWalk.i64_in _ (by omega)
        obtain ⟨cc, hcc⟩ : ∃ cc, cc = c + 1 := ⟨_, rfl⟩
        have hw : IntKind.i64.wrap ((c : Int) + 1) = (cc : Int) := by rw [IntWalk.i64_in _ (by omega)]; omega
        have hAs := HA.out
        by_cases x : c = k
        · subst x
          obtain rfl : s = 1 := by rw [hs]; exact HF.out
          have hsl2 : ∀ W, (Instr.slice 9 (.string al) (some (.int .i64 (c : Int))) (some (.int .i64 (cc : Int))) none).run Try.prog W = .ok (.string R) W := fun W => by rw [slice_in (by omega) (by omega) W, HK.out, hcc]
          clear hs hpv hcc hAs
          go_wp2_with fail
          go_ret
          exact ⟨rfl, HBC⟩
        · have hs1 : s ≠ 1 := by rw [hs]; exact HG.out c (by omega)
          have hs2 : ((s : Int) == 1) = false := beq_eq_false_iff_ne.2 (by omega)
          have hs3 : ¬ (s : Int) = 1 := by omega
          have hcc2 : cc ≤ k := by omega
          have hm : A - cc < A - c := by omega
          clear hs hpv hcc hAs
          go_wp2_with fail
          go_roundw
          case rel => exact ⟨cc, hcc2, by go_num, HBC⟩
          case measure => simp [intOf]; omega
end Go.Proofs.Ytgblfobomiiofaa
