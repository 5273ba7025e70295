/- Contracts and lemmas (several texts merged into one). -/
import Derived.Test.YtcmancfdlfhgbaaGreatDoorTSz8
import Derived.RegionTactic
import Derived.Maps.AppendAt
namespace Go.Proofs.YtcmancfdlfhgbaaGreatDoor
open Go Go.RowKit Gu

set_option maxHeartbeats 1000000 in
theorem RWord_any {s : Nat} {W : World} :
    Calls Tryz.prog 91 #[.agg #[.int .u64 s]] W fun e w' => e = .returned (.tuple #[.agg #[.int .u64 (gstep s)], .int .u64 (gword (gstep s))]) ∧ Hid (Below W.heap.size W w') := by
  obtain ⟨w1, HW1⟩ : ∃ w, w = W.alloc (.cells #[.int .u64 s] 87) := ⟨_, rfl⟩
  obtain ⟨w2, HW2⟩ : ∃ w, w = w1.alloc (.cells #[.int .u64 0] 87) := ⟨_, rfl⟩
  have s1 : w1.heap.size = W.heap.size + 1 := by rw [HW1, World.size_alloc]
  have b1 : Below W.heap.size W w1 := by rw [HW1]; exact alloc1_below _ _
  have b2 : Below w1.heap.size w1 w2 := by rw [HW2]; exact alloc1_below _ _
  have n1 : Nx W.heap.size (.int .u64 s) w2 := by
    have : Nx W.heap.size (.int .u64 s) w1 := by rw [HW1]; exact Nx.new W _ _
    exact this.next b2
  have n2 : Nx (W.heap.size + 1) (.int .u64 0) w2 := by rw [HW2, ← s1]; exact Nx.new w1 _ _
  have B2 : Hid (Below W.heap.size W w2) := b1.trans (b2.mono b1.size)
  have HW1' := Lib.hid HW1; have HW2' := Lib.hid HW2
  have k0 := n1.c0; have k1 := n1.f0; have k2 := n2.c0; have k3 := n2.f0
  have hg := @gstep_is s
  obtain ⟨w3, HW3⟩ : ∃ w, w = w2.setCell ⟨W.heap.size, 0, none⟩ (.int .u64 (gstep s)) := ⟨_, rfl⟩
  have k4 : w3.cell? ⟨W.heap.size, 0, none⟩ = some (.int .u64 (gstep s)) := by rw [HW3]; exact World.cell?_setCell_same _ _ _ k0
  have k5 : w3.cell? ⟨W.heap.size + 1, 0, none⟩ = some (.int .u64 0) := by rw [HW3]; exact (World.cell?_setCell_other _ _ _ _ (by intro e; injection e with e; omega)).trans k2
  have k6 : w3.frozen? ⟨W.heap.size + 1, 0, none⟩ = false := by rw [HW3]; exact (World.frozen?_setCell _ _ _ _).trans k3
  have B3 : Hid (Below W.heap.size W w3) := by rw [HW3]; exact B2.out.setCell (p := ⟨W.heap.size, 0, none⟩) (Nat.le_refl _) _
  have k7 := World.cell?_setCell_same w3 ⟨W.heap.size + 1, 0, none⟩ (.int .u64 (gstep s)) k5
  have HBE := Lib.hid (B3.out.setCell (p := ⟨W.heap.size + 1, 0, none⟩) (Nat.le_succ _) (.int .u64 (gstep s)))
  have HW3' := Lib.hid HW3
  have e1 := mix1_is (gstep_lt s); have e2 := mix2_is (mix1_lt (gstep s)); have e3 := mix3_is (mix2_lt (mix1 (gstep s)))
  clear HW1 HW2 HW3 s1 b1 b2 n1 n2
  go_enter Tryz.func91, Tryz.ntmps91
  go_upto_region 1 with fail
  rw [← HW1'.out, ← HW2'.out]
  go_upto_region 2 with fail
  rw [← HW3'.out]
  clear k0 k1 k2 k3 HW1' HW2' HW3'
  go_wp2_with fail
  refine bodyPost_ret (v := .tuple #[.agg #[.int .u64 (gstep s)], .int .u64 (gword (gstep s))]) (by simp [results, Tryz.results91, go_sem, k7]; rfl) rfl ?_
  exact ⟨rfl, HBE.out⟩
set_option maxHeartbeats 1000000 in
theorem RBelow_any {s m : Nat} {W : World} (hm : 0 < m) (hm2 : m ≤ 1099511627776) :
    Calls Tryz.prog 53 #[.agg #[.int .u64 s], .int .i64 m] W fun e w' => e = .returned (.tuple #[.agg #[.int .u64 (stopAt m s)], .int .i64 ((gword (stopAt m s) % m : Nat) : Int)]) ∧ Hid (Below W.heap.size W w') := by
  obtain ⟨w1, HW1⟩ : ∃ w, w = W.alloc (.cells #[.int .u64 s] 87) := ⟨_, rfl⟩
  obtain ⟨w2, HW2⟩ : ∃ w, w = w1.alloc (.cells #[.int .u64 0] 87) := ⟨_, rfl⟩
  have s1 : w1.heap.size = W.heap.size + 1 := by rw [HW1, World.size_alloc]
  have b1 : Below W.heap.size W w1 := by rw [HW1]; exact alloc1_below _ _
  have b2 : Below w1.heap.size w1 w2 := by rw [HW2]; exact alloc1_below _ _
  have N1 : Hid (Nx W.heap.size (.int .u64 s) w2) := by
    have : Nx W.heap.size (.int .u64 s) w1 := by rw [HW1]; exact Nx.new W _ _
    exact this.next b2
  have N2 : Hid (Nx (W.heap.size + 1) (.int .u64 0) w2) := by rw [HW2, ← s1]; exact Nx.new w1 _ _
  have B2 : Hid (Below W.heap.size W w2) := b1.trans (b2.mono b1.size)
  have HW1' := Lib.hid HW1; have HW2' := Lib.hid HW2
  clear HW1 HW2 s1 b1 b2
  have HF : Hid (FinG (okAt m) (gstep s) (stopAt m s)) := stopAt_fin hm hm2 s
  have hr := rest_is hm hm2
  have hrl : rest64 m < m := Nat.mod_lt _ hm
  have HOK : Hid (∀ cur, okAt m cur ↔ gword cur + rest64 m ≤ 18446744073709551615) := fun cur => Iff.rfl
  have HMD : Hid (∀ x : Nat, x < 18446744073709551616 → IntKind.i64.wrap ((x : Int) % (m : Int)) = ((x % m : Nat) : Int)) := fun x _ => by
    have := Nat.mod_lt x hm
    rw [IntWalk.i64_in _ (by omega)]; omega
  obtain ⟨T, hT⟩ : ∃ x, x = stopAt m s := ⟨_, rfl⟩
  rw [← hT] at HF ⊢
  have hmi : (0 : Int) < (m : Int) := by omega
  clear hT
  generalize rest64 m = rest at hr HOK hrl
  have HNE : Hid (0 < rest → IntKind.u64.wrap (-(rest : Int)) = ((18446744073709551616 - rest : Nat) : Int)) := fun h => by rw [IntKind.wrap_u64]; omega
  obtain ⟨lim, hlim⟩ : ∃ x : Nat, x = 18446744073709551616 - rest := ⟨_, rfl⟩
  rw [← hlim] at HNE
  have HOL : Hid (∀ cur, 0 < rest → (okAt m cur ↔ gword cur < lim)) := fun cur h => by rw [HOK.out cur, hlim]; omega
  have HO0 : Hid (∀ cur, rest = 0 → okAt m cur) := fun cur h => (HOK.out cur).2 (by have := gword_lt cur; omega)
  clear hlim
  go_enter Tryz.func53, Tryz.ntmps53
  go_upto_region 1 with fail
  rw [← HW1'.out, ← HW2'.out]
  go_wp2_with fail
  clear hr
  go_loopg [7, 8] (aheadG (gstep s)) (fun kx _ _ wr => ∃ cur : Nat, aheadG (gstep cur) ≤ kx ∧ Hid (Nx W.heap.size (.int .u64 cur) wr) ∧ Hid (Nx (W.heap.size + 1) (.int .u64 0) wr) ∧ Hid (FinG (okAt m) (gstep cur) T) ∧ Hid (Below W.heap.size W wr))
  case atStart => exact ⟨s, Nat.le_refl _, N1, N2, HF, B2⟩
  case round =>
    obtain ⟨cur, hk, HX, HY, HFI, HB⟩ := hrel
    have k0 := HX.out.c0
    have HRW := Lib.hid (@RWord_any cur wr)
    go_wp2_with fail
    refine HRW.out.mono ?_
    rintro e w3 ⟨rfl, hb3⟩
    obtain ⟨w4, HW4⟩ : ∃ w, w = w3.alloc (.cells #[.int .u64 (gstep cur)] 87) := ⟨_, rfl⟩
    have b4 : Below w3.heap.size w3 w4 := by rw [HW4]; exact alloc1_below _ _
    have b34 := hb3.out.trans (b4.mono hb3.out.size)
    have n4 : Nx w3.heap.size (.int .u64 (gstep cur)) w4 := by rw [HW4]; exact Nx.new w3 _ _
    have x4 := HX.out.next b34
    have y4 := HY.out.next b34
    obtain ⟨w5, HW5⟩ : ∃ w, w = w4.setCell ⟨W.heap.size, 0, none⟩ (.int .u64 (gstep cur)) := ⟨_, rfl⟩
    have HX5 : Hid (Nx W.heap.size (.int .u64 (gstep cur)) w5) := by rw [HW5]; exact x4.set _
    have HY5 : Hid (Nx (W.heap.size + 1) (.int .u64 0) w5) := by rw [HW5]; exact y4.far (by omega) _
    have HB5 : Hid (Below W.heap.size W w5) := by rw [HW5]; exact (HB.out.trans (b34.mono HB.out.size)).setCell (p := ⟨W.heap.size, 0, none⟩) (Nat.le_refl _) _
    have k1 := n4.c0; have k2 := x4.c0; have k3 := x4.f0
    have HW4' := Lib.hid HW4; have HW5' := Lib.hid HW5
    clear hb3 b4 b34 n4 x4 y4 HW4 HW5 HX HY HB k0
    go_upto_region 3 with fail
    rw [← HW4'.out]
    go_upto_region 4 with fail
    rw [← HW5'.out]
    clear k1 k2 k3 HW4' HW5'
    by_cases q0 : rest = 0
    · have HE := Lib.hid (HFI.out.at' (HO0.out _ q0))
      have hz : ((rest : Int) == 0) = true := by rw [q0]; rfl
      clear q0
      have k0 : w5.drew.cell? ⟨W.heap.size, 0, none⟩ = some (.int .u64 (gstep cur)) := HX5.out.c0
      have k1 : w5.drew.cell? ⟨W.heap.size + 1, 0, none⟩ = some (.int .u64 0) := HY5.out.c0
      have k2 : w5.drew.frozen? ⟨W.heap.size + 1, 0, none⟩ = false := HY5.out.f0
      have k3 := World.cell?_setCell_same w5.drew ⟨W.heap.size + 1, 0, none⟩ (.int .u64 (gstep cur)) k1
      have k4 := World.cell?_setCell_same w5 ⟨W.heap.size + 1, 0, none⟩ (.int .u64 (gstep cur)) HY5.out.c0
      have HBF := Lib.hid (Below.drew (HB5.out.setCell (p := ⟨W.heap.size + 1, 0, none⟩) (Nat.le_succ _) (.int .u64 (gstep cur))))
      have hmd := HMD.out (gword (gstep cur)) (gword_lt _)
      have HBE := Lib.hid ((Below.drew HB5.out).setCell (p := ⟨W.heap.size + 1, 0, none⟩) (Nat.le_succ _) (.int .u64 (gstep cur)))
      go_upto_region 5 with fail
      go_region
      all_goals
        go_wp2_with fail
        refine bodyPost_ret (v := .tuple #[.agg #[.int .u64 (gstep cur)], .int .i64 ((gword (gstep cur) % m : Nat) : Int)]) (by simp [results, Tryz.results53, go_sem, k4]) rfl ?_
        rw [HE.out]
        first | exact ⟨rfl, HBE.out⟩ | exact ⟨rfl, HBF.out⟩
    · have hz : ((rest : Int) == 0) = false := beq_eq_false_iff_ne.2 (by omega)
      have hr0 : 0 < rest := by omega
      have hne := HNE.out hr0
      by_cases ql : gword (gstep cur) < lim
      · have HE := Lib.hid (HFI.out.at' ((HOL.out _ hr0).2 ql))
        have dl : decide ((gword (gstep cur) : Int) < (lim : Int)) = true := decide_eq_true (by omega)
        have q1 : (gword (gstep cur) : Int) < (lim : Int) := by omega
        have k0 : w5.drew.cell? ⟨W.heap.size, 0, none⟩ = some (.int .u64 (gstep cur)) := HX5.out.c0
        have k1 : w5.drew.cell? ⟨W.heap.size + 1, 0, none⟩ = some (.int .u64 0) := HY5.out.c0
        have k2 : w5.drew.frozen? ⟨W.heap.size + 1, 0, none⟩ = false := HY5.out.f0
        have k3 := World.cell?_setCell_same w5.drew ⟨W.heap.size + 1, 0, none⟩ (.int .u64 (gstep cur)) k1
        have k4 := World.cell?_setCell_same w5 ⟨W.heap.size + 1, 0, none⟩ (.int .u64 (gstep cur)) HY5.out.c0
        have HBF := Lib.hid (Below.drew (HB5.out.setCell (p := ⟨W.heap.size + 1, 0, none⟩) (Nat.le_succ _) (.int .u64 (gstep cur))))
        have hmd := HMD.out (gword (gstep cur)) (gword_lt _)
        have HBE := Lib.hid ((Below.drew HB5.out).setCell (p := ⟨W.heap.size + 1, 0, none⟩) (Nat.le_succ _) (.int .u64 (gstep cur)))
        go_upto_region 5 with fail
        go_region
        all_goals
          go_wp2_with fail
          refine bodyPost_ret (v := .tuple #[.agg #[.int .u64 (gstep cur)], .int .i64 ((gword (gstep cur) % m : Nat) : Int)]) (by simp [results, Tryz.results53, go_sem, k4]) rfl ?_
          rw [HE.out]
          first | exact ⟨rfl, HBE.out⟩ | exact ⟨rfl, HBF.out⟩
      · have dl : decide ((gword (gstep cur) : Int) < (lim : Int)) = false := decide_eq_false (by omega)
        have q1 : ¬ (gword (gstep cur) : Int) < (lim : Int) := by omega
        have hno : ¬ okAt m (gstep cur) := fun h => ql ((HOL.out _ hr0).1 h)
        have HN := Lib.hid (HFI.out.go hno)
        have hc0 : gstep cur ≠ 0 := fun h => hno (by rw [h]; exact okAt_zero hm hm2)
        have has := aheadG_step (aheadG_pos (gstep_lt cur) hc0)
        have HAS : aheadG (gstep (gstep cur)) < aheadG (gstep cur) := by omega
        clear has hno hc0
        go_wp2_with fail
        go_roundg (aheadG (gstep (gstep cur)))
        case measure => omega
        case rel => exact ⟨gstep cur, Nat.le_refl _, HX5, HY5, HN, HB5⟩
end Go.Proofs.YtcmancfdlfhgbaaGreatDoor
namespace Go.Proofs.YtcmancfdlfhgbaaGreatDoor
open Go Go.RowKit Gu

/-- where a number is in an ascending list, or would be -/
def PlaceP (l : List Nat) (k p : Nat) : Prop := p ≤ l.length ∧ (∀ i (h : i < l.length), i < p → l[i] < k) ∧ (∀ h : p < l.length, k ≤ l[p])
theorem place_mem {l : List Nat} (ha : l.Pairwise (· < ·)) {k p : Nat} (h1 : ∀ i (h : i < l.length), i < p → l[i] < k) (hp : p < l.length) (h2 : k ≤ l[p]) : k ∈ l ↔ l[p] = k := by
  constructor
  · intro hk
    obtain ⟨i, hi, e⟩ := List.getElem_of_mem hk
    rcases Nat.lt_trichotomy i p with h | h | h
    · have := h1 i hi h; omega
    · subst h; exact e
    · have := List.pairwise_iff_getElem.1 ha p i hp hi h; omega
  · intro e; rw [← e]; exact List.getElem_mem hp
set_option maxHeartbeats 1000000 in
theorem RPlace_any {v : Value} {l : List Nat} {k : Nat} {W : World} (hv : IsZs W v l) (ha : l.Pairwise (· < ·)) (hl : l.length ≤ 1000000) :
    Calls Tryz.prog 54 #[v, .int .i64 k] W fun e w' => ∃ p : Nat, e = .returned (.tuple #[.int .i64 p, .bool (decide (k ∈ l))]) ∧ Hid (PlaceP l k p) ∧ Hid (∃ q, w' = W.drewN q) := by
  have HV := Lib.hid hv
  obtain ⟨ao, ac, rfl, -⟩ := hv
  obtain ⟨m, hm⟩ : ∃ m, m = l.length := ⟨_, rfl⟩
  rw [← hm] at HV hl ⊢
  have HM := Lib.hid hm; have HA := Lib.hid ha
  clear hm ha
  go_enter Tryz.func54, Tryz.ntmps54
  go_wp2_with fail
  go_loopw [6] (fun t wr => ∃ j : Nat, j ≤ m ∧ t = .int .i64 j ∧ Hid (∀ i (h : i < l.length), i < j → l[i] < k) ∧ W = wr) (fun t _ => m - (intOf t).toNat)
  case atStart => exact ⟨0, Nat.zero_le _, rfl, fun i _ h => absurd h (Nat.not_lt_zero _), rfl⟩
  case round =>
    obtain ⟨j, hj, rfl, HJ, rfl⟩ := hrel
    by_cases q : j < m
    · have q1 : (j : Int) < m := by omega
      have h1 : j < l.length := by rw [← HM.out]; exact q
      obtain ⟨B, o, e1, d0⟩ := HV.out.at' h1
      have hmem : k ≤ l[j] → (k ∈ l ↔ l[j] = k) := place_mem HA.out HJ.out h1
      have HPP : k ≤ l[j] → PlaceP l k j := fun h => ⟨Nat.le_of_lt h1, HJ.out, fun _ => h⟩
      have HNX : l[j] < k → ∀ i (h : i < l.length), i < j + 1 → l[i] < k := fun h i hi hij => by
        rcases Nat.eq_or_lt_of_le (Nat.le_of_lt_succ hij) with e | e
        · subst e; exact h
        · exact HJ.out i hi e
      obtain ⟨x, hx⟩ : ∃ x, x = l[j] := ⟨_, rfl⟩
      rw [← hx] at d0 hmem HPP HNX
      have HMEM := Lib.hid hmem; have HP' := Lib.hid HPP; have HN' := Lib.hid HNX
      subst e1
      clear hx hmem HPP HNX
      by_cases qk : x < k
      · have q2 : (x : Int) < (k : Int) := by omega
        have dq : decide ((x : Int) < (k : Int)) = true := decide_eq_true q2
        have HN2 := Lib.hid (HN'.out qk)
        have hw : IntKind.i64.wrap ((j : Int) + 1) = ((j + 1 : Nat) : Int) := by rw [IntWalk.i64_in _ (by omega)]; omega
        go_wp2_with fail
        go_roundw
        case rel => exact ⟨j + 1, by omega, by go_num, HN2, trivial⟩
        case measure => simp [intOf]; omega
      · have q2 : ¬ (x : Int) < (k : Int) := by omega
        have dq : decide ((x : Int) < (k : Int)) = false := decide_eq_false q2
        have HP2 := Lib.hid (HP'.out (by omega))
        have hmk := HMEM.out (by omega)
        have HD : Hid (decide (k ∈ l) = ((x : Int) == (k : Int))) := by
          by_cases e : x = k
          · have : ((x : Int) == (k : Int)) = true := beq_iff_eq.2 (by omega)
            rw [this]; exact decide_eq_true (hmk.2 e)
          · have : ((x : Int) == (k : Int)) = false := beq_eq_false_iff_ne.2 (by omega)
            rw [this]; exact decide_eq_false fun h => e (hmk.1 h)
        obtain ⟨r, hr⟩ : ∃ r : Bool, ((x : Int) == (k : Int)) = r := ⟨_, rfl⟩
        rw [hr] at HD
        have d1 : W.drew.cell? ⟨B, o + j, none⟩ = some (.int .i64 (x : Int)) := d0
        clear hmk qk
        go_wp2_with fail
        go_quiet (fail)
        rename_i nq
        go_wp2_with fail
        refine bodyPost_ret (v := .tuple #[.int .i64 j, .bool r]) (by simp [results, Tryz.results54, go_sem]) rfl ?_
        exact ⟨j, by rw [HD.out], HP2, ⟨nq, rfl⟩⟩
    · have q1 : ¬ (j : Int) < m := by omega
      have hjm : j = l.length := by rw [← HM.out]; omega
      have HD : Hid (decide (k ∈ l) = false) := decide_eq_false fun h => by
        obtain ⟨i, hi, e⟩ := List.getElem_of_mem h
        have := HJ.out i hi (by omega)
        omega
      have HP2 : Hid (PlaceP l k j) := ⟨by omega, HJ.out, fun h => absurd h (by omega)⟩
      clear hjm
      go_wp2_with fail
      go_quiet (fail)
      rename_i nq
      go_wp2_with fail
      refine bodyPost_ret (v := .tuple #[.int .i64 j, .bool false]) (by simp [results, Tryz.results54, go_sem]) rfl ?_
      exact ⟨j, by rw [HD.out], HP2, ⟨nq, rfl⟩⟩
end Go.Proofs.YtcmancfdlfhgbaaGreatDoor
namespace Go.Proofs.YtcmancfdlfhgbaaGreatDoor
open Go Go.RowKit Gu

/-- a list with a cell more at the place j -/
def shiftL : List Nat → Nat → Nat → List Nat
  | l, 0, x => x :: l
  | [], _ + 1, x => [x]
  | a :: l, j + 1, x => a :: shiftL l j x
theorem shiftL_len : ∀ (l : List Nat) (j x : Nat), (shiftL l j x).length = l.length + 1
  | l, 0, x => by cases l <;> rfl
  | [], j + 1, x => rfl
  | a :: l, j + 1, x => by show (shiftL l j x).length + 1 = _; rw [shiftL_len l j x]; rfl
theorem shiftL_end : ∀ (l : List Nat) (x : Nat), shiftL l l.length x = l ++ [x]
  | [], x => rfl
  | a :: l, x => by show a :: shiftL l l.length x = _; rw [shiftL_end l x]; rfl
theorem shiftL_at : ∀ (l : List Nat) (j x : Nat) (h : j < l.length), (shiftL l (j + 1) x)[j]? = some l[j]
  | a :: l, 0, x, _ => rfl
  | a :: l, j + 1, x, h => shiftL_at l j x (by simpa using h)
theorem shiftL_step : ∀ (l : List Nat) (j x : Nat) (h : j < l.length), (shiftL l (j + 1) x).set (j + 1) l[j] = shiftL l j l[j]
  | a :: l, 0, x, _ => by cases l <;> rfl
  | a :: l, j + 1, x, h => congrArg (a :: ·) (shiftL_step l j x (by simpa using h))
theorem shiftL_put : ∀ (l : List Nat) (j x y : Nat), j ≤ l.length → (shiftL l j x).set j y = shiftL l j y
  | l, 0, x, y, _ => by cases l <;> rfl
  | [], j + 1, x, y, h => absurd h (by simp)
  | a :: l, j + 1, x, y, h => by
    show a :: (shiftL l j x).set j y = a :: shiftL l j y
    rw [shiftL_put l j x y (by simpa using h)]
theorem shiftL_mem : ∀ (l : List Nat) (j x z : Nat), z ∈ shiftL l j x ↔ z = x ∨ z ∈ l
  | l, 0, x, z => by cases l <;> simp [shiftL]
  | [], j + 1, x, z => by simp [shiftL]
  | a :: l, j + 1, x, z => by
    show z ∈ a :: shiftL l j x ↔ _
    rw [List.mem_cons, shiftL_mem l j x z, List.mem_cons]
    constructor
    · rintro (h | h | h) <;> simp [h]
    · rintro (h | h | h) <;> simp [h]
theorem shiftL_asc : ∀ (l : List Nat) (j x : Nat), l.Pairwise (· < ·) → j ≤ l.length → (∀ i (h : i < l.length), i < j → l[i] < x) → (∀ i (h : i < l.length), j ≤ i → x < l[i]) → (shiftL l j x).Pairwise (· < ·)
  | l, 0, x, h1, _, _, h3 => by
    have : shiftL l 0 x = x :: l := by cases l <;> rfl
    rw [this]
    refine List.pairwise_cons.2 ⟨fun y hy => ?_, h1⟩
    obtain ⟨i, hi, e⟩ := List.getElem_of_mem hy
    rw [← e]; exact h3 i hi (Nat.zero_le _)
  | [], j + 1, x, _, h, _, _ => absurd h (by simp)
  | a :: l, j + 1, x, h1, hj, h2, h3 => by
    obtain ⟨p1, p2⟩ := List.pairwise_cons.1 h1
    refine List.pairwise_cons.2 ⟨fun y hy => ?_, shiftL_asc l j x p2 (by simpa using hj) (fun i hi hij => h2 (i + 1) (by simpa using hi) (by omega)) (fun i hi hij => h3 (i + 1) (by simpa using hi) (by omega))⟩
    rcases (shiftL_mem l j x y).1 hy with e | e
    · rw [e]; exact h2 0 (by simp) (by omega)
    · exact p1 y e
/-- a new number at its place -/
theorem shiftL_sort {l : List Nat} {k p : Nat} (hnd : l.Nodup) (hk : k ∉ l) (hp : PlaceP (sortN l) k p) : shiftL (sortN l) p k = sortN (k :: l) := by
  obtain ⟨h1, h2, h3⟩ := hp
  have hks : k ∉ sortN l := fun h => hk ((sortN_perm l).mem_iff.1 h)
  have hasc := sortN_lt hnd
  refine asc_ext (shiftL_asc _ p k hasc h1 h2 (fun i hi hpi => ?_)) (sortN_lt (List.nodup_cons.2 ⟨hk, hnd⟩)) (fun x => ?_)
  · have a1 : k ≤ (sortN l)[p] := h3 (by omega)
    have a2 : (sortN l)[p] ≤ (sortN l)[i] := by
      rcases Nat.eq_or_lt_of_le hpi with e | e
      · subst e; exact Nat.le_refl _
      · exact Nat.le_of_lt (List.pairwise_iff_getElem.1 hasc p i (by omega) hi e)
    rcases Nat.eq_or_lt_of_le (Nat.le_trans a1 a2) with e | e
    · exact absurd (by rw [e]; exact List.getElem_mem hi) hks
    · exact e
  · rw [shiftL_mem, (sortN_perm l).mem_iff, (sortN_perm (k :: l)).mem_iff, List.mem_cons]
theorem encN_set (l : List Nat) (j x : Nat) : (encN l).set j (.int .i64 (x : Int)) = encN (l.set j x) := by
  unfold encN; rw [List.map_set]
theorem own_some {W : World} {base : Nat} {e : TypeId} {size : Nat} {v : Value} {k : Nat} {xs : List Value} (h : W.ownsRow base e size v (k + 1) xs) : ∃ g cap, v = .slice (some ⟨g, 0, none⟩) (k + 1) cap ∧ base ≤ g ∧ g < W.heap.size := by
  have hl := h.lt
  rcases h.2 with ⟨-, h0⟩ | ⟨g, cap, cur, rfl, hb, _⟩
  · omega
  · exact ⟨g, cap, rfl, hb, (hl g rfl).2⟩
/-- the list under way: a row of the call's own above the generator's box -/
def OutR (B : Nat) (v : Value) (l : List Nat) (W : World) : Prop := W.ownsRow B 3 1 v l.length (encN l)
theorem OutR.next {B : Nat} {v : Value} {l : List Nat} {W W' : World} (h : OutR B v l W) (hb : Below W.heap.size W W') : OutR B v l W' :=
  World.ownsRow.kept h (Kw.none hb) (by cases v.ownBlock <;> simp)
theorem OutR.zs {B : Nat} {v : Value} {l : List Nat} {W : World} (h : OutR B v l W) : IsZs W v l := IsZs.of_row h rfl
theorem GB.far {B s g j : Nat} {W : World} (h : GB B s W) (hne : B ≠ g) (u : Value) : GB B s (W.setCell ⟨g, j, none⟩ u) :=
  ⟨(World.cell?_setCell_other _ _ _ _ (by intro e; injection e with e; exact hne e.symm)).trans h.1, (World.frozen?_setCell _ _ _ _).trans h.2⟩
set_option maxHeartbeats 400000 in
set_option maxRecDepth 100000 in
theorem RDraw_any {seed lot n : Nat} {W : World} (_ : seed < 18446744073709551616) (hl : lot ≤ 1099511627776) (hn : n ≤ lot) (hn2 : n ≤ 4096) :
    Calls Tryz.prog 24 #[.int .u64 seed, .int .i64 lot, .int .i64 n] W fun e w' => ∃ a c, e = .returned (.slice a n c) ∧ Hid (IsZs w' (.slice a n c) (drawL seed lot n)) ∧ Hid (Below W.heap.size W w') := by
  obtain ⟨a, ha⟩ : ∃ a : Nat, a = lot - n := ⟨_, rfl⟩
  have hw : IntKind.i64.wrap ((lot : Int) - n) = (a : Int) := by rw [IntWalk.i64_in _ (by omega)]; omega
  obtain ⟨w1, HW1⟩ : ∃ w, w = W.alloc (.cells #[.int .u64 seed] 87) := ⟨_, rfl⟩
  have s1 : w1.heap.size = W.heap.size + 1 := by rw [HW1, World.size_alloc]
  have b1 : Below W.heap.size W w1 := by rw [HW1]; exact alloc1_below _ _
  have G1 : Hid (GB W.heap.size seed w1) := by rw [HW1]; exact ⟨(Nx.new W _ _).c0, (Nx.new W _ _).f0⟩
  have B1 : Hid (Below W.heap.size W w1) := b1
  have HW1' := Lib.hid HW1; have HS1 := Lib.hid s1
  have HBEL : Hid (∀ i W', i < n → Calls Tryz.prog 53 #[.agg #[.int .u64 (drawn a seed i).1], .int .i64 ((a + i + 1 : Nat) : Int)] W' fun e w' => e = .returned (.tuple #[.agg #[.int .u64 (drawn a seed (i + 1)).1], .int .i64 (pick (a + i) (drawn a seed i).1 : Int)]) ∧ Hid (Below W'.heap.size W' w')) := fun i W' hi =>
    RBelow_any (by omega) (by omega)
  have HPL : Hid (∀ i (v : Value) (k : Nat) W', i ≤ n → OutR (W.heap.size + 1) v (sortN (drawn a seed i).2) W' → Calls Tryz.prog 54 #[v, .int .i64 k] W' fun e w' => ∃ p : Nat, e = .returned (.tuple #[.int .i64 p, .bool (decide (k ∈ sortN (drawn a seed i).2))]) ∧ Hid (PlaceP (sortN (drawn a seed i).2) k p) ∧ Hid (∃ q, w' = W'.drewN q)) := fun i v k W' hi h =>
    RPlace_any h.zs (sortN_lt (drawn_nodup _ _ _)) (by rw [(sortN_perm _).length_eq, drawn_len]; omega)
  have h00 : sortN (drawn a seed 0).2 = [] := by simp [sortN, drawn]
  have HO0 : Hid (OutR (W.heap.size + 1) (.slice none 0 0) (sortN (drawn a seed 0).2) w1) := by
    rw [h00]
    exact ⟨rfl, .inl ⟨rfl, rfl⟩⟩
  have han : ∀ i, i < n → a + i < lot := fun i hi => by omega
  have HAN := Lib.hid han
  have hend : ¬ a + n < lot := by omega
  have HA := Lib.hid ha
  obtain ⟨i0, hi0, hz0, hz1, hz2⟩ := info_parts Tryz.infoInt
  clear HW1 s1 b1 ha han hn h00
  go_enter Tryz.func24, Tryz.ntmps24
  go_upto_region 2 with fail
  rw [← HW1'.out]
  clear HW1'
  go_wp2_with fail
  go_loopw [8, 9, 10, 11, 12, 13, 14] (fun v t _ _ _ _ _ wr => ∃ i : Nat, i ≤ n ∧ t = .int .i64 ((a + i : Nat) : Int) ∧ Hid (GB W.heap.size (drawn a seed i).1 wr) ∧ Hid (OutR (W.heap.size + 1) v (sortN (drawn a seed i).2) wr) ∧ Hid (Below W.heap.size W wr)) (fun _ t _ _ _ _ _ _ => a + n - (intOf t).toNat)
  case atStart => exact ⟨0, Nat.zero_le _, by go_num, G1, HO0, B1⟩
  case round =>
    obtain ⟨i, hi, ht, HG, HO, HB⟩ := hrel
    obtain ⟨tt, htt⟩ : ∃ x : Nat, x = a + i := ⟨_, rfl⟩
    rw [← htt] at ht
    have HTT := Lib.hid htt
    subst ht
    by_cases q : i < n
    · have q1 := HAN.out i q
      have q2 : (tt : Int) < (lot : Int) := by omega
      have dq : decide ((tt : Int) < (lot : Int)) = true := decide_eq_true q2
      have hw1 : IntKind.i64.wrap ((tt : Int) + 1) = (tt : Int) + 1 := IntWalk.i64_in _ (by omega)
      have HNT : Hid (((tt : Int) + 1) = ((a + (i + 1) : Nat) : Int)) := by show _ = _; omega
      have HC := Lib.hid (fun W' => HBEL.out i W' q)
      rw [← htt, show ((tt + 1 : Nat) : Int) = (tt : Int) + 1 by omega] at HC
      have HP1 := Lib.hid (fun v k W' => HPL.out i v k W' hi)
      obtain ⟨k, hk⟩ : ∃ k, k = pick tt (drawn a seed i).1 := ⟨_, rfl⟩
      obtain ⟨L, hL⟩ : ∃ L, L = sortN (drawn a seed i).2 := ⟨_, rfl⟩
      have hLl : L.length = i := by rw [hL, (sortN_perm _).length_eq, drawn_len]
      have HNW : Hid (∀ k' p, k' = (if k ∈ L then tt else k) → PlaceP L k' p → sortN (drawn a seed (i + 1)).2 = shiftL L p k') := fun k' p h1 h2 => by
        have hmem : (k ∈ L) ↔ k ∈ (drawn a seed i).2 := by rw [hL]; exact (sortN_perm _).mem_iff
        have e1 : k' = newAt (a + i) (drawn a seed i).1 (drawn a seed i).2 := by
          rw [h1, ← htt]
          unfold newAt
          rw [← hk]
          by_cases h : k ∈ L
          · rw [if_pos h, if_pos (hmem.1 h)]
          · rw [if_neg h, if_neg (fun x => h (hmem.2 x))]
        rw [hL, shiftL_sort (drawn_nodup _ _ _) (by rw [e1]; exact drawn_new _ _ _) (by rw [← hL]; exact h2), e1]
        rfl
      obtain ⟨s', hs'⟩ : ∃ x, x = (drawn a seed (i + 1)).1 := ⟨_, rfl⟩
      obtain ⟨l', hl'⟩ : ∃ x, x = sortN (drawn a seed (i + 1)).2 := ⟨_, rfl⟩
      rw [← hk, ← hs'] at HC
      rw [← hL] at HP1 HO
      rw [← hl'] at HNW
      have HS' := Lib.hid hs'; have HL' := Lib.hid hl'; have HLL := Lib.hid hLl
      have k0 := HG.out.1
      clear hk hL hLl hs' hl' htt
      go_wp2_with fail
      refine (HC.out _).mono ?_
      rintro e w3 ⟨rfl, hb3⟩
      obtain ⟨w4, HW4⟩ : ∃ w, w = w3.alloc (.cells #[.int .u64 s'] 87) := ⟨_, rfl⟩
      have b4 : Below w3.heap.size w3 w4 := by rw [HW4]; exact alloc1_below _ _
      have b34 := hb3.out.trans (b4.mono hb3.out.size)
      have n4 : Nx w3.heap.size (.int .u64 s') w4 := by rw [HW4]; exact Nx.new w3 _ _
      have g4 := HG.out.next (World.block_lt_of_cell? _ _ HG.out.1) b34
      obtain ⟨w5, HW5⟩ : ∃ w, w = w4.setCell ⟨W.heap.size, 0, none⟩ (.int .u64 s') := ⟨_, rfl⟩
      have HG5 : Hid (GB W.heap.size s' w5) := by rw [HW5]; exact g4.set _
      have HO5 : Hid (OutR (W.heap.size + 1) u8 L w5) := by rw [HW5]; exact ownsRow_setCell_below (HO.out.next b34) (a := ⟨W.heap.size, 0, none⟩) (Nat.lt_succ_self _) _
      have HB5 : Hid (Below W.heap.size W w5) := by rw [HW5]; exact (HB.out.trans (b34.mono HB.out.size)).setCell (p := ⟨W.heap.size, 0, none⟩) (Nat.le_refl _) _
      have k1 := n4.c0; have k2 := g4.1; have k3 := g4.2
      have HW4' := Lib.hid HW4; have HW5' := Lib.hid HW5
      clear hb3 b4 b34 n4 g4 HW4 HW5 HG HO HB k0
      go_upto_region 7 with fail
      rw [← HW4'.out]
      go_upto_region 8 with fail
      rw [← HW5'.out]
      clear k1 k2 k3 HW4' HW5'
      have HP2 := Lib.hid (HP1.out u8 k w5 HO5.out)
      obtain ⟨r, hr⟩ : ∃ r : Bool, r = decide (k ∈ L) := ⟨_, rfl⟩
      rw [← hr] at HP2
      have HR := Lib.hid hr
      clear hr
      go_wp2_with fail
      refine HP2.out.mono ?_
      rintro e w6 ⟨p, rfl, hp, hq⟩
      have HB6 : Hid (Below W.heap.size W w6) := by obtain ⟨q, rfl⟩ := hq.out; exact below_drewM HB5.out q
      have HG6 : Hid (GB W.heap.size s' w6) := by obtain ⟨q, rfl⟩ := hq.out; exact HG5.out
      have HO6 : Hid (OutR (W.heap.size + 1) u8 L w6) := by obtain ⟨q, rfl⟩ := hq.out; exact HO5.out
      clear hq HG5 HO5 HB5
      go_upto_if 39 with (fail)
      go_cut [11, 12] from 40 to 47 (fun s11 s12 wz => ∃ k' p' : Nat, s11 = .int .i64 k' ∧ s12 = .int .i64 p' ∧ Hid (PlaceP L k' p') ∧ Hid (l' = shiftL L p' k') ∧ Hid (GB W.heap.size s' wz) ∧ Hid (OutR (W.heap.size + 1) u8 L wz) ∧ Hid (Below W.heap.size W wz))
      case first =>
        cases r with
        | false =>
          have HE : Hid (l' = shiftL L p k) := HNW.out k p (by rw [if_neg (of_decide_eq_false HR.out.symm)]) hp.out
          go_wp2_with fail
          go_meet
          case rel => exact ⟨k, p, rfl, rfl, hp, HE, HG6, HO6, HB6⟩
        | true =>
          have HP3 := Lib.hid (HP1.out u8 tt w6 HO6.out)
          have HE : Hid (∀ p', PlaceP L tt p' → l' = shiftL L p' tt) := fun p' h => HNW.out tt p' (by rw [if_pos (of_decide_eq_true HR.out.symm)]) h
          go_wp2_with fail
          refine HP3.out.mono ?_
          rintro e w7 ⟨p', rfl, hp', hq⟩
          have HB7 : Hid (Below W.heap.size W w7) := by obtain ⟨q, rfl⟩ := hq.out; exact below_drewM HB6.out q
          have HG7 : Hid (GB W.heap.size s' w7) := by obtain ⟨q, rfl⟩ := hq.out; exact HG6.out
          have HO7 : Hid (OutR (W.heap.size + 1) u8 L w7) := by obtain ⟨q, rfl⟩ := hq.out; exact HO6.out
          have HE2 := Lib.hid (HE.out p' hp'.out)
          clear hq
          go_wp2_with fail
          go_meet
          case rel => exact ⟨tt, p', rfl, rfl, hp', HE2, HG7, HO7, HB7⟩
      case rest =>
        obtain ⟨k', p', rfl, rfl, HPP, HE, HG7, HO7, HB7⟩ := hcut
        obtain ⟨w7, hv7⟩ : ∃ x, x = wc := ⟨_, rfl⟩
        subst hv7
        clear HP1 HP2 hp HG6 HO6 HB6 HNW HR
        have hp1 := HPP.out.1
        have hpi : p' ≤ i := by rw [HLL.out] at hp1; exact hp1
        have hi1 : i < 4096 := by omega
        obtain ⟨ao, ac, hu8⟩ := row_slice HO7.out
        rw [HLL.out] at hu8
        subst hu8
        have HOW : Hid (w7.ownsRow (W.heap.size + 1) 3 1 (.slice ao i ac) i (encN L)) := by
          have := HO7.out
          unfold OutR at this
          rwa [HLL.out] at this
        have HSZ : Hid (W.heap.size + 1 ≤ w7.heap.size) := by
          have := World.block_lt_of_cell? _ _ HG7.out.1
          exact this
        have hsz := HSZ.out
        clear hp1 HPP HO7
        go_wp2_with (at_builtin; refine wpList_append_own _ rfl _ _ 36 rfl (W.heap.size + 1) 3 i0 (.int .i64 0) 1 8 Tryz.underlying36 hi0 hz0 hz1 hz2 rfl (by decide) (.slice ao i ac) i (encN L) rfl (HOW.out.alloc _) ⟨w7.heap.size, 0, none⟩ 1 1 [.int .i64 0] rfl rfl (cell_one_new _ _ _) (by simp [Value.oneCell']) (by unfold maxLen; omega) (by omega) (by simp; omega) ?_; intro v' w8 hown hgrow _; obtain ⟨g, cap, rfl, hbg, hgl⟩ := own_some hown)
        have hG8 := (World.grownBy_alloc w7 (.cells #[.int .i64 0] 3) none)
        have b78 : Below w7.heap.size w7 (w7.alloc (.cells #[.int .i64 0] 3)) := alloc1_below _ _
        have hrow : ∀ j, (Value.slice ao i ac).ownBlock = some j → W.heap.size + 1 ≤ j := fun j ej => (HOW.out.lt j ej).1
        have HB8 : Hid (Below W.heap.size W w8) := (HB7.out.trans (b78.mono HB7.out.size)).grown hgrow (Nat.le_trans HB7.out.size b78.size) (fun j hj => Nat.le_of_succ_le (hrow j hj))
        have hg7 := HG7.out.next (World.block_lt_of_cell? _ _ HG7.out.1) b78
        have HG8 : Hid (GB W.heap.size s' w8) := by
          have hne : some W.heap.size ≠ (Value.slice ao i ac).ownBlock := fun e => by have := hrow _ e.symm; omega
          refine ⟨hgrow.cell hg7.1 hne, (World.frozen?_of_block (hgrow.block _ (World.block_lt_of_cell? _ _ hg7.1) hne)).trans hg7.2⟩
        have HO8 : Hid (w8.ownsRow (W.heap.size + 1) 3 1 (.slice (some ⟨g, 0, none⟩) (i + 1) cap) (i + 1) (encN (shiftL L i 0))) := by
          have : encN L ++ [.int .i64 0] = encN (shiftL L i 0) := by
            rw [← HLL.out, shiftL_end]; unfold encN; simp
          rw [← this]; exact hown
        clear hown hgrow hG8 b78 hrow hg7 HB7 HG7 HOW hsz HSZ
        go_wp2_with fail
        go_loopw [14] (fun t wr => ∃ (j x : Nat), p' ≤ j ∧ j ≤ i ∧ t = .int .i64 j ∧ Hid (wr.ownsRow (W.heap.size + 1) 3 1 (.slice (some ⟨g, 0, none⟩) (i + 1) cap) (i + 1) (encN (shiftL L j x))) ∧ Hid (GB W.heap.size s' wr) ∧ Hid (Below W.heap.size W wr)) (fun t _ => (intOf t).toNat)
        case atStart => exact ⟨i, 0, hpi, Nat.le_refl _, by go_num, HO8, HG8, HB8⟩
        case round =>
          obtain ⟨j, x, hpj, hji, rfl, HO, HG, HB⟩ := hrel
          by_cases qj : p' < j
          · obtain ⟨b, rfl⟩ : ∃ b, j = b + 1 := ⟨j - 1, by omega⟩
            have dq2 : (p' : Int) < ((b + 1 : Nat) : Int) := by omega
            have dq3 : (p' : Int) < (b : Int) + 1 := by omega
            have hwb : IntKind.i64.wrap (((b + 1 : Nat) : Int) - 1) = (b : Int) := by rw [IntWalk.i64_in _ (by omega)]; omega
            have hwc : IntKind.i64.wrap ((b : Int) + 1 - 1) = (b : Int) := by rw [IntWalk.i64_in _ (by omega)]; omega
            have hll := HLL.out
            have c0 := (HO.out.cellAt b (by omega)).trans (show (encN (shiftL L (b + 1) x))[b]? = some (.int .i64 ((L[b]'(by omega) : Nat) : Int)) by unfold encN; rw [List.getElem?_map, shiftL_at L b x (by omega)]; rfl)
            have c1 := (HO.out.cellAt (b + 1) (by omega)).trans (List.getElem?_eq_getElem (by rw [show (encN (shiftL L (b + 1) x)).length = i + 1 by unfold encN; rw [List.length_map, shiftL_len]; omega]; omega))
            have f0 := HO.out.frozenAt (b + 1)
            have f1 := HO.out.frozenAt b
            go_wp2_with fail
            go_roundw
            case rel => exact ⟨b, L[b]'(by omega), by omega, by omega, rfl, by have := (HO.out.stored (b + 1) (.int .i64 ((L[b]'(by omega) : Nat) : Int))).1; rw [encN_set, shiftL_step L b x (by omega)] at this; exact this, HG.out.far (by omega) _, HB.out.setCell (by show _ ≤ g; omega) _⟩
            case measure => simp [intOf]
          · obtain rfl : j = p' := by omega
            have hll := HLL.out
            have dq2 : ¬ (j : Int) < (j : Int) := by omega
            have c1 := (HO.out.cellAt j (by omega)).trans (List.getElem?_eq_getElem (by rw [show (encN (shiftL L j x)).length = i + 1 by unfold encN; rw [List.length_map, shiftL_len]; omega]; omega))
            have f1 := HO.out.frozenAt j
            have HNT2 := HNT.out
            have HRW : Hid ((wr.setCell ⟨g, j, none⟩ (.int .i64 (k' : Int))).ownsRow (W.heap.size + 1) 3 1 (.slice (some ⟨g, 0, none⟩) (i + 1) cap) (i + 1) (encN l')) := by
              have := (HO.out.stored j (.int .i64 (k' : Int))).1
              rw [encN_set, shiftL_put L j x k' (by omega), ← HE.out] at this
              exact this
            go_wp2_with fail
            go_roundw
            case rel =>
              have hs' := HS'.out
              have hl' := HL'.out
              have hll2 : l'.length = i + 1 := by rw [hl', (sortN_perm _).length_eq, drawn_len]
              exact ⟨i + 1, q, congrArg _ (by omega), by rw [← hs']; exact HG.out.far (by omega) _, by rw [← hl']; show World.ownsRow _ _ _ _ _ l'.length _; rw [hll2]; exact HRW.out, HB.out.setCell (by show _ ≤ g; omega) _⟩
            case measure =>
              have := HTT.out
              simp [intOf]
              omega
    · obtain rfl : i = n := by omega
      have q2 : ¬ (tt : Int) < (lot : Int) := by have := HTT.out; omega
      obtain ⟨ao, ac, hv⟩ := row_slice HO.out
      rw [show (sortN (drawn a seed i).2).length = i by rw [(sortN_perm _).length_eq, drawn_len]] at hv
      subst hv
      have HF : Hid (IsZs wr (.slice ao i ac) (drawL seed lot i)) := by
        have := HO.out.zs
        rw [HA.out] at this
        exact this
      clear HO
      go_wp2_with fail
      go_ret
      exact ⟨ao, ac, rfl, HF, HB⟩
end Go.Proofs.YtcmancfdlfhgbaaGreatDoor
