/- The document's Small and Serial. -/
import Derived.Test.YtgblfobomiiofaaCSdc
import Derived.Test.YtgblfobomiiofaaCSdd
namespace Go.Proofs.Ytgblfobomiiofaa
open Go Go.RowKit Go.Shelf Gw Go.Maps

set_option maxRecDepth 100000 in
set_option maxHeartbeats 4000000 in
theorem Small_any {s : Sch} {bv : Value} {M : Nat} {w : World} (hW : WellF s) (hM : M ≤ 2 ^ 50) : Calls Try.prog 34 #[schV s bv, .int .i64 (M : Int)] w (BoolP (s.al.size ^ nS s ≤ M) w) := by
  obtain ⟨w1, hw1⟩ : ∃ w1, w1 = w.alloc (.cells #[.string s.al, .int .i64 s.len, bv, .bool s.ck] 24) := ⟨_, rfl⟩
  have hb1 : Below w.heap.size w w1 := by rw [hw1]; exact below_al _ _
  have H4 : Hid (B4 w.heap.size (.string s.al) (.int .i64 s.len) bv (.bool s.ck) w1) := by rw [hw1]; exact B4.new _ _ _ _ _ _
  have HB1 := Lib.hid hb1
  have HW1 := Lib.hid hw1
  clear hw1 hb1
  obtain ⟨al, len, bl, ck⟩ := s
  have h1 : 2 ≤ al.size := hW.1.1
  have h2 : al.size ≤ 36 := hW.1.2.1
  have hl : (⟨al, len, bl, ck⟩ : Sch).len = (nS ⟨al, len, bl, ck⟩ : Int) := by have := hW.2.1; unfold nS; omega
  obtain ⟨n, hn⟩ : ∃ n, n = nS ⟨al, len, bl, ck⟩ := ⟨_, rfl⟩
  rw [← hn] at hl ⊢
  have hl' : len = (n : Int) := hl
  unfold schV
  dsimp only at *
  subst hl'
  have hn16 : n ≤ 16 := by have h := hW.2.2.1; dsimp only at h; omega
  have hn1 : 1 ≤ n := by have h := hW.2.1; dsimp only at h; omega
  clear hW hn hl
  obtain ⟨A, hA⟩ : ∃ A, A = al.size := ⟨_, rfl⟩
  have hls : ∀ (t ty : TypeId), Try.prog.underlying t = some .string → ∀ W, (Builtin.len_ #[t] ty #[.string al]).run Try.prog W = .ok (.int .i64 (A : Int)) W := fun t ty ht W => by rw [run_len_string _ _ _ _ ht, hA]; rfl
  rw [← hA] at h1 h2 ⊢
  clear hA
  have k0 := H4.out.c0; have k1 := H4.out.c1
  go_enter Try.func34, Try.ntmps34
  go_upto_region 1 with fail
  rw [← HW1.out]
  go_wp2_with fail
  go_loopw [5, 6] (fun sN sI wr => ∃ i p : Nat, i ≤ n ∧ p ≤ 2 ^ 50 ∧ sI = .int .i64 i ∧ sN = .int .i64 p ∧ Hid (p = A ^ i ∧ (i ≠ 0 → p ≤ M)) ∧ w1 = wr) (fun _ sI _ => n - (intOf sI).toNat)
  case atStart => exact ⟨0, 1, Nat.zero_le _, by decide, rfl, rfl, ⟨rfl, fun h => absurd rfl h⟩, rfl⟩
  case round =>
    obtain ⟨i, p, hi, hp, rfl, rfl, HP, rfl⟩ := hrel
    by_cases q : i < n
    · have q1 : (i : Int) < (n : Int) := by omega
      obtain ⟨i1, hi1⟩ : ∃ i1, i1 = i + 1 := ⟨_, rfl⟩
      have hw : IntKind.i64.wrap ((i : Int) + 1) = (i1 : Int) := by rw [IntWalk.i64_in _ (by omega)]; omega
      obtain ⟨d, hd⟩ : ∃ d, d = p * A := ⟨_, rfl⟩
      have hdl : d ≤ 2 ^ 50 * 36 := by rw [hd]; exact Nat.mul_le_mul hp h2
      have hdi : (p : Int) * (A : Int) = (d : Int) := by rw [hd]; simp
      have v1 : IntKind.i64.wrap ((p : Int) * (A : Int)) = (d : Int) := by rw [hdi, IntWalk.i64_in _ (by omega)]
      have hdA : d = A ^ i1 := by rw [hd, HP.out.1, hi1, Nat.pow_succ]
      by_cases c : d > M
      · have c1 : (d : Int) > (M : Int) := by omega
        have HN : Hid (IffB false (A ^ n ≤ M)) := IffB.no fun h => by
          have h5 : A ^ i1 ≤ A ^ n := Nat.pow_le_pow_right (by omega) (by omega)
          omega
        clear hd hdA hdi hi1
        go_wp2_with fail
        go_ret
        exact ⟨false, rfl, HN, HB1⟩
      · have c1 : ¬ (d : Int) > (M : Int) := by omega
        have HP2 : Hid (d = A ^ i1 ∧ (i1 ≠ 0 → d ≤ M)) := ⟨hdA, fun _ => by omega⟩
        have him : n - i1 < n - i := by omega
        have hil : i1 ≤ n := by omega
        have hdm : d ≤ 2 ^ 50 := by omega
        clear hd hdA hdi hi1
        go_wp2_with fail
        go_roundw
        case rel => exact ⟨i1, d, hil, hdm, by go_num, by go_num, HP2, by trivial⟩
        case measure => simp [intOf]; omega
    · obtain rfl : i = n := by omega
      have q1 : ¬ (i : Int) < (i : Int) := by omega
      have HN : Hid (i ≠ 0 → IffB true (A ^ i ≤ M)) := fun h => IffB.yes (by rw [← HP.out.1]; exact HP.out.2 h)
      have hi0 : i ≠ 0 := by omega
      go_wp2_with fail
      go_ret
      exact ⟨true, rfl, HN.out hi0, HB1⟩
theorem serB_add {al : ByteArray} (ha : GoodA al) {u : List Nat} (hu : ∀ v ∈ u, v < al.size) : serB al false u ++ sumT al (serB al false u) = serB al true u := by
  refine bys_inj ?_
  have hl : lcN al.size (chk (ncN al.size) al.size u) < al.size := Nat.mod_lt _ (by have := ha.1; omega)
  have e1 : wordN al (serB al false u) = u := by
    rw [serB_word ha false hu]; rfl
  rw [bys_append]
  unfold sumT
  rw [e1, bys_extract]
  obtain ⟨c, hc⟩ : ∃ c, c = lcN al.size (chk (ncN al.size) al.size u) := ⟨_, rfl⟩
  have e3 : bys (serB al true u) = signs al u ++ signs al [c] := by rw [hc]; rfl
  have e4 : bys (serB al false u) = signs al u := rfl
  rw [e3, e4, ← hc]
  rw [← hc] at hl
  have e2 : ((bys al).take (c + 1)).drop c = [al[c]] := by
    rw [List.take_add_one, List.drop_append]
    have e2 : (bys al)[c]? = some al[c] := by rw [List.getElem?_eq_getElem (by rw [bys_len]; exact hl)]; rfl
    rw [e2]
    simp [Nat.min_eq_left (Nat.le_of_lt hl)]
  rw [e2]
  unfold signs
  simp [hl]
set_option maxRecDepth 100000 in
set_option maxHeartbeats 4000000 in
theorem RSerial_any {s : Sch} {bv : Value} {u : List Nat} {w : World} (hW : WellF s) (hu : ∀ v ∈ u, v < s.al.size) (hl : u.length ≤ 500) : Calls Try.prog 43 #[schV s bv, .string (serB s.al false u)] w fun e w' => e = .returned (.string (serB s.al s.ck u)) ∧ Hid (Below w.heap.size w w') := by
  obtain ⟨w1, hw1⟩ : ∃ w1, w1 = w.alloc (.cells #[.string s.al, .int .i64 s.len, bv, .bool s.ck] 24) := ⟨_, rfl⟩
  have hb1 : Below w.heap.size w w1 := by rw [hw1]; exact below_al _ _
  have H4 : Hid (B4 w.heap.size (.string s.al) (.int .i64 s.len) bv (.bool s.ck) w1) := by rw [hw1]; exact B4.new _ _ _ _ _ _
  have HB1 := Lib.hid hb1
  have HW1 := Lib.hid hw1
  clear hw1 hb1
  have ha := hW.1
  have hadd := serB_add ha hu
  have hsz : (serB s.al false u).size ≤ 500 := by rw [serB_size s.al u.length false rfl]; unfold szN; simpa using hl
  have HSU := Lib.hid (fun (W : World) => Sum_any ha.1 ha.2.1 (by omega) (serB_of ha.1 false hu) W)
  have hss : (sumT s.al (serB s.al false u)).size ≤ 500 := by
    unfold sumT
    rw [ByteArray.size_extract]
    have := ha.2.1
    omega
  have k0 := H4.out.c0; have k3 := H4.out.c3
  unfold schV
  cases hck : s.ck with
  | false =>
    rw [hck] at H4 HW1 k3
    generalize serB s.al false u = X at *
    clear hadd
    go_enter Try.func43, Try.ntmps43
    go_upto_region 1 with fail
    rw [← HW1.out]
    go_wp2_with fail
    go_ret
    exact ⟨rfl, HB1⟩
  | true =>
    rw [hck] at H4 HW1 k3
    rw [← hadd]
    generalize serB s.al false u = X at *
    generalize sumT s.al X = Y at *
    clear hadd
    have hadd : ∀ W : World, (Op.stringOp .add X Y).run Try.prog W = .ok (.string (X ++ Y)) W := fun W => run_string_add_sum W _ _ (by omega)
    go_enter Try.func43, Try.ntmps43
    go_upto_region 1 with fail
    rw [← HW1.out]
    go_wp2_with (first
      | (go_at_call 60; (with_reducible refine (HSU.out _).mono ?_); rintro e wa ⟨rfl, HBq⟩; have HBA := Lib.hid (HB1.out.trans (HBq.out.mono HB1.out.size)))
      | fail)
    go_ret
    exact ⟨rfl, HBA⟩
end Go.Proofs.Ytgblfobomiiofaa
