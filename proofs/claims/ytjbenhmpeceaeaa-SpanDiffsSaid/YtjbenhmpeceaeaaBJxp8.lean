/- Contracts and lemmas (several texts merged into one). -/
import Derived.Test.YtjbenhmpeceaeaaBJxp7
import Derived.Test.YtjbenhmpeceaeaaBJxp4
import Derived.BigQuiet
import Derived.Test.YtjbenhmpeceaeaaBJxp6
import Derived.Test.YtjbenhmpeceaeaaRows
import Derived.ProofKit
import Derived.OpenShut
import Derived.Carry
import Derived.Deep.Slices
import Derived.Deep.Fields
import Derived.ChangeSame
import Derived.Deep.CutRange
import Derived.Deep.Cut
import Derived.Test.YtjbenhmpeceaeaaBJxp5
import Derived.RangeFuncBox
import Derived.RangeFuncNested
import Derived.Test.YtjbenhmpeceaeaaBJxp3
import Derived.Test.YtjbenhmpeceaeaaBJxp2
namespace Go.Proofs.Ytjbenhmpeceaeaa
open Go Go.RowKit Gs

theorem cb_in {f : Int → Int} {l m : List R} {r : R} {size x k : Int} (h : Gs.Can f 0 (l ++ r :: m) size) (h1 : r.lo ≤ x) (h2 : x ≤ r.hi) : cb x k (l ++ r :: m) = cnt k l + (if r.tag = k then x - r.lo else 0) := by
  obtain ⟨q1, q2, q3, q4, _, _⟩ := h.mid
  by_cases e : x = r.lo
  · rw [cb_left h (by omega), cb_high x k q1.1 (by omega)]
    split <;> omega
  · rw [cb_right h (by omega), cb_low x k q2.1 (by omega)]
    split <;> omega
theorem FindOf.same {f : Int → Int} {size tag k : Int} {L : List R} {x y : Int} {b c : Bool} (hL : Gs.Can f 0 L size) (h1 : FindOf f size tag k L x b) (h2 : FindOf f size tag k L y c) : x = y ∧ b = c := by
  rcases h1 with ⟨rfl, a1, a2, a3, a4, a5, a6, a7⟩ | ⟨rfl, rfl, a1⟩
  · rcases h2 with ⟨rfl, b1, b2, b3, b4, b5, b6, b7⟩ | ⟨rfl, rfl, b1⟩
    · exact ⟨find_one hL.1 a4 a5 b4 b5 a6 b6 a7 b7, rfl⟩
    · rcases b1 with b1 | b1 | b1
      · rw [a1] at b1; cases b1
      · omega
      · omega
  · rcases h2 with ⟨rfl, b1, b2, b3, b4, b5, b6, b7⟩ | ⟨rfl, rfl, b1⟩
    · rcases a1 with a1 | a1 | a1
      · rw [b1] at a1; cases a1
      · omega
      · omega
    · exact ⟨rfl, rfl⟩
set_option maxHeartbeats 2000000 in
/-- the document's Count, of a usable map, a valid range, and a tag -/
theorem RCount_ok {f : Int → Int} {size lo hi tag : Int} {base : Nat} {v : Value} {L : List R} {W : World} (hrs : IsRs base W v L) (hL : Gs.Can f 0 L size) (hx : Ctx f 0 size) (hne : 0 < L.length) (hlen : L.length ≤ 4096) (h1 : 0 ≤ lo) (h2 : lo ≤ hi) (h3 : hi ≤ size) (ht : isT tag = true) :
    Calls Try.prog 23 #[.agg #[.int .i64 size, v], .int .i64 lo, .int .i64 hi, .int .i64 tag] W fun e w' => e = .returned (.tuple #[.int .i64 (cnt tag (clip lo hi L)), .int .i64 0]) ∧ Below W.heap.size W w' := by
  have HRS := Lib.hid hrs
  obtain ⟨a, c, rfl, -⟩ := hrs
  obtain ⟨n, hn⟩ : ∃ n, n = L.length := ⟨_, rfl⟩
  rw [← hn] at HRS hne ⊢
  obtain ⟨w0, HW⟩ : ∃ w0, w0 = W.alloc (.cells #[.int .i64 size, .slice a n c] 33) := ⟨_, rfl⟩
  have hm : M2 W.heap.size (.int .i64 size) (.slice a n c) w0 := by rw [HW]; exact M2.new _ _ _ _
  have hb : Below W.heap.size W w0 := by rw [HW]; exact (Below.refl _ _).alloc (Nat.le_refl _) _
  obtain ⟨K, hK⟩ : ∃ K, K = clip lo hi L := ⟨_, rfl⟩
  have hcan := clip_can hL h1 h2 h3
  rw [← hK] at hcan ⊢
  have HRU : Hid (Calls Try.prog 21 #[.agg #[.int .i64 size, .slice a n c], .int .i64 lo, .int .i64 hi] w0 fun e w' => ∃ b c, e = .returned (.tuple #[.slice b K.length c, .int .i64 0]) ∧ Hid (IsRs w0.heap.size w' (.slice b K.length c) K) ∧ Below w0.heap.size w0 w') := by
    rw [hK]
    exact (RRuns_ok (HRS.out.below hb) hL (by omega) hlen h1 h2 h3).mono fun e w' ⟨v', he, hr, hB⟩ => by
      obtain ⟨b, c, rfl, h⟩ := hr.out.1
      exact ⟨b, c, he, ⟨b, c, rfl, h⟩, hB⟩
  have HTT : Hid (∀ W', Calls Try.prog 51 #[.int .i64 tag] W' fun e w' => e = .returned (.bool true) ∧ W' = w') := fun W' => by
    have := RTag_any tag W'
    rwa [ht] at this
  have HKL : Hid (K.length ≤ 4096) := by rw [hK]; exact Nat.le_trans (clip_len _ _ _) hlen
  have HKB : Hid (∀ r ∈ K, Bd1 r) := hcan.1.bd (hx.sub h1 h3)
  have HM := Lib.hid hm; have HB := Lib.hid hb; have HW' := Lib.hid HW
  have HLEN : Hid (∀ j, 0 ≤ cnt tag (K.take j) ∧ cnt tag (K.take j) ≤ 1099511627776 * 4096) := fun j => by
    have h := cnt_bd (k := tag) (l := K.take j) (fun r hr => HKB.out r (List.mem_of_mem_take hr))
    have h2 : (K.take j).length ≤ 4096 := Nat.le_trans (by rw [List.length_take]; omega) HKL.out
    refine ⟨h.1, Int.le_trans h.2 ?_⟩
    omega
  have k0 := HM.out.c0; have k1 := HM.out.c1
  clear hm hb HW hL hn hlen h1 h2 h3 hK hcan ht hne hx HRS
  obtain ⟨m, hmm⟩ : ∃ m, m = K.length := ⟨_, rfl⟩
  rw [← hmm] at HRU HKL
  have HMM := Lib.hid hmm
  have hmb : m ≤ 4096 := HKL.out
  clear hmm
  go_enter Try.func23, Try.ntmps23
  go_upto_region 1 with fail
  rw [← HW'.out]
  go_wp2_with fail
  refine HRU.out.mono ?_
  rintro e w1 ⟨b, d, rfl, HR1, hb⟩
  have HB1 := Lib.hid (HB.out.trans (hb.mono HB.out.size))
  clear hb k0 k1
  go_wp2_with fail
  refine (HTT.out _).mono ?_
  rintro e w2 ⟨rfl, rfl⟩
  go_wp2_with fail
  go_loopw [12, 13] (fun nv iv wr => ∃ (j : Nat) (nn : Int), j ≤ m ∧ iv = .int .i64 j ∧ nv = .int .i64 nn ∧ Hid (nn = cnt tag (K.take j)) ∧ Hid (Below w1.heap.size w1 wr)) (fun _ i _ => m - (intOf i).toNat)
  case atStart => exact ⟨0, 0, by omega, rfl, rfl, rfl, Below.refl _ _⟩
  case round =>
    obtain ⟨j, nn, hj, rfl, rfl, HNN, HBr⟩ := hrel
    by_cases hlt : j < m
    · have hj2 : (j : Int) < m := by omega
      have hj0 : (0 : Int) ≤ (j : Int) := by omega
      have hjl : j < K.length := by have := HMM.out; omega
      have hat := (HR1.out.below HBr.out)
      rw [HMM.out] at hj2
      obtain ⟨G, rfl, c0, c1, c2⟩ := (show IsRs _ wr (.slice b m d) K from hat).at' hjl
      have hbd := HKB.out K[j] (List.getElem_mem hjl)
      have HTK : Hid (cnt tag (K.take (j + 1)) = cnt tag (K.take j) + if K[j].tag = tag then K[j].hi - K[j].lo else 0) := by
        show _ = _
        rw [List.take_add_one, List.getElem?_eq_getElem hjl]
        show cnt tag (K.take j ++ [K[j]]) = _
        rw [cnt_append]
        show _ + ((if K[j].tag = tag then K[j].hi - K[j].lo else 0) + 0) = _
        omega
      rw [← HMM.out] at hj2
      clear hat
      generalize K[j] = r at *
      obtain ⟨ra, rb, rc⟩ := r
      simp only at c0 c1 c2
      obtain ⟨q1, q2, q3, q4, q5⟩ := hbd
      simp only at q1 q2 q3 q4 q5
      have hNN := HLEN.out j
      rw [← HNN.out] at hNN
      have hw1 : IntKind.i64.wrap (rb - ra) = rb - ra := IntWalk.i64_in _ (by omega)
      have hw2 : IntKind.i64.wrap (nn + (rb - ra)) = nn + (rb - ra) := IntWalk.i64_in _ (by omega)
      by_cases ht : rc = tag
      · have HT2 : Hid (nn + (rb - ra) = cnt tag (K.take (j + 1))) := by
          show _ = _
          rw [HTK.out, HNN.out]
          show _ = _ + if rc = tag then rb - ra else 0
          rw [if_pos ht]
        clear HTK
        have HE := Lib.hid ht
        have hbe : (rc == tag) = true := by rw [ht]; exact beq_self_eq_true _
        clear ht
        go_wp2_with fail
        go_quiet (fail)
        rename_i nq
        have HBn : Hid (Below w1.heap.size w1 (World.drewN wr nq)) := below_drewN HBr.out nq
        clear c0 c1 c2
        generalize hw : World.drewN _ nq = w2 at HBn ⊢
        clear hw
        go_wp2_with fail
        go_roundw
        case rel => exact ⟨j + 1, nn + (rb - ra), by omega, by go_num, by first | rfl | go_num, HT2.out, HBn.out⟩
        case measure => simp [intOf]; omega
      · have HT2 : Hid (nn = cnt tag (K.take (j + 1))) := by
          show _ = _
          rw [HTK.out, HNN.out]
          show _ = _ + if rc = tag then rb - ra else 0
          rw [if_neg ht]
          omega
        clear HTK
        have hbe : (rc == tag) = false := beq_eq_false_iff_ne.2 ht
        go_wp2_with fail
        go_roundw
        case rel => exact ⟨j + 1, nn, by omega, by go_num, rfl, HT2.out, HBr.out⟩
        case measure => simp [intOf]; omega
    · have hj2 : ¬ (j : Int) < m := by omega
      have HF : Hid (nn = cnt tag K) := by
        have := HNN.out
        rw [List.take_of_length_le (by have := HMM.out; omega)] at this
        exact this
      have HB9 := Lib.hid (HB1.out.trans (HBr.out.mono HB1.out.size))
      go_wp2_with fail
      refine bodyPost_ret (v := .tuple #[.int .i64 nn, .int .i64 0]) (by simp [results, Try.results23, go_sem]) rfl ?_
      exact ⟨by rw [HF.out], HB9.out⟩
/-- Runs refuses -/
theorem RCount_no {size lo hi tag e0 : Int} {v : Value} {W : World} (he : e0 ≠ 0) (hr : ∀ W', Below W.heap.size W W' → Calls Try.prog 21 #[.agg #[.int .i64 size, v], .int .i64 lo, .int .i64 hi] W' fun e w' => e = .returned (.tuple #[.slice none 0 0, .int .i64 e0]) ∧ Below W'.heap.size W' w') :
    Calls Try.prog 23 #[.agg #[.int .i64 size, v], .int .i64 lo, .int .i64 hi, .int .i64 tag] W fun e w' => e = .returned (.tuple #[.int .i64 0, .int .i64 e0]) ∧ Below W.heap.size W w' := by
  obtain ⟨w0, HW⟩ : ∃ w0, w0 = W.alloc (.cells #[.int .i64 size, v] 33) := ⟨_, rfl⟩
  have hm : M2 W.heap.size (.int .i64 size) v w0 := by rw [HW]; exact M2.new _ _ _ _
  have hb : Below W.heap.size W w0 := by rw [HW]; exact (Below.refl _ _).alloc (Nat.le_refl _) _
  have HRU := Lib.hid (hr w0 hb)
  have HB := Lib.hid hb; have HW' := Lib.hid HW
  have k0 := hm.c0; have k1 := hm.c1
  have hne : (e0 == 0) = false := beq_eq_false_iff_ne.2 he
  clear hm hb HW hr he
  go_enter Try.func23, Try.ntmps23
  go_upto_region 1 with fail
  rw [← HW'.out]
  go_wp2_with fail
  refine HRU.out.mono ?_
  rintro e w1 ⟨rfl, hb⟩
  have HB1 := Lib.hid (HB.out.trans (hb.mono HB.out.size))
  clear hb k0 k1
  go_wp2_with fail
  refine bodyPost_ret (v := .tuple #[.int .i64 0, .int .i64 e0]) (by simp [results, Try.results23, go_sem]) rfl ?_
  exact ⟨rfl, HB1.out⟩
/-- the tag is none -/
theorem RCount_tag {f : Int → Int} {size lo hi tag : Int} {base : Nat} {v : Value} {L : List R} {W : World} (hrs : IsRs base W v L) (hL : Gs.Can f 0 L size) (hne : 0 < L.length) (hlen : L.length ≤ 4096) (h1 : 0 ≤ lo) (h2 : lo ≤ hi) (h3 : hi ≤ size) (ht : isT tag = false) :
    Calls Try.prog 23 #[.agg #[.int .i64 size, v], .int .i64 lo, .int .i64 hi, .int .i64 tag] W fun e w' => e = .returned (.tuple #[.int .i64 0, .int .i64 2]) ∧ Below W.heap.size W w' := by
  obtain ⟨w0, HW⟩ : ∃ w0, w0 = W.alloc (.cells #[.int .i64 size, v] 33) := ⟨_, rfl⟩
  have hm : M2 W.heap.size (.int .i64 size) v w0 := by rw [HW]; exact M2.new _ _ _ _
  have hb : Below W.heap.size W w0 := by rw [HW]; exact (Below.refl _ _).alloc (Nat.le_refl _) _
  have HRU := Lib.hid (RRuns_ok (hrs.below hb) hL hne hlen h1 h2 h3)
  have HTT : Hid (∀ W', Calls Try.prog 51 #[.int .i64 tag] W' fun e w' => e = .returned (.bool false) ∧ W' = w') := fun W' => by
    have := RTag_any tag W'
    rwa [ht] at this
  have HB := Lib.hid hb; have HW' := Lib.hid HW
  have k0 := hm.c0; have k1 := hm.c1
  clear hm hb HW hrs hL hne hlen h1 h2 h3 ht
  go_enter Try.func23, Try.ntmps23
  go_upto_region 1 with fail
  rw [← HW'.out]
  go_wp2_with fail
  refine HRU.out.mono ?_
  rintro e w1 ⟨v', rfl, -, hb⟩
  have HB1 := Lib.hid (HB.out.trans (hb.mono HB.out.size))
  clear hb k0 k1
  go_wp2_with fail
  refine (HTT.out _).mono ?_
  rintro e w2 ⟨rfl, rfl⟩
  go_wp2_with fail
  refine bodyPost_ret (v := .tuple #[.int .i64 0, .int .i64 2]) (by simp [results, Try.results23, go_sem]) rfl ?_
  exact ⟨rfl, HB1.out⟩
set_option maxHeartbeats 2000000 in
/-- the document's Find -/
theorem RFind_any {f : Int → Int} {size tag k : Int} {base : Nat} {v : Value} {L : List R} {W : World} (hrs : IsRs base W v L) (hL : Gs.Can f 0 L size) (hx : Ctx f 0 size) (hlen : L.length ≤ 4096) (hk : k ≤ 9223372036854775807) :
    Calls Try.prog 25 #[.agg #[.int .i64 size, v], .int .i64 tag, .int .i64 k] W fun e w' => ∃ x is, e = .returned (.tuple #[.int .i64 x, .bool is]) ∧ Hid (FindOf f size tag k L x is) ∧ Below W.heap.size W w' := by
  have HRS := Lib.hid hrs
  obtain ⟨a, c, rfl, -⟩ := hrs
  obtain ⟨n, hn⟩ : ∃ n, n = L.length := ⟨_, rfl⟩
  rw [← hn] at HRS ⊢
  have HN := Lib.hid hn
  obtain ⟨w0, HW⟩ : ∃ w0, w0 = W.alloc (.cells #[.int .i64 size, .slice a n c] 33) := ⟨_, rfl⟩
  have hm : M2 W.heap.size (.int .i64 size) (.slice a n c) w0 := by rw [HW]; exact M2.new _ _ _ _
  have hb : Below W.heap.size W w0 := by rw [HW]; exact (Below.refl _ _).alloc (Nat.le_refl _) _
  have HM := Lib.hid hm; have HB := Lib.hid hb; have HW' := Lib.hid HW; have HL := Lib.hid hL; have HX := Lib.hid hx
  have HKB : Hid (∀ r ∈ L, Bd1 r) := hL.1.bd hx
  have hnb : n ≤ 4096 := by omega
  have k0 := HM.out.c0; have k1 := HM.out.c1
  clear hm hb HW hL hn hlen hx
  by_cases hneg : k < 0
  · have HF : Hid (FindOf f size tag k L 0 false) := .inr ⟨rfl, rfl, .inr (.inl hneg)⟩
    go_enter Try.func25, Try.ntmps25
    go_upto_region 1 with fail
    rw [← HW'.out]
    go_wp2_with fail
    refine bodyPost_ret (v := .tuple #[.int .i64 0, .bool false]) (by simp [results, Try.results25, go_sem]) rfl ?_
    exact ⟨0, false, rfl, HF, HB.out⟩
  · have hk0 : 0 ≤ k := by omega
    have HK0 : Hid (0 ≤ k ∧ k ≤ 9223372036854775807) := ⟨hk0, hk⟩
    go_enter Try.func25, Try.ntmps25
    go_upto_region 1 with fail
    rw [← HW'.out]
    clear k0 k1
    go_wp2_with fail
    clear hneg hk0 hk
    go_loopw [2, 8] (fun kv iv wr => ∃ (j : Nat) (kk : Int), j ≤ n ∧ iv = .int .i64 j ∧ kv = .int .i64 kk ∧ Hid (kk = k - cnt tag (L.take j) ∧ 0 ≤ kk) ∧ Hid (M2 W.heap.size (.int .i64 size) (.slice a n c) wr) ∧ Hid (Below W.heap.size W wr)) (fun _ i _ => n - (intOf i).toNat)
    case atStart => exact ⟨0, k, by omega, rfl, rfl, ⟨by show k = k - 0; omega, HK0.out.1⟩, HM.out, HB.out⟩
    case round =>
      obtain ⟨j, kk, hj, rfl, rfl, HKK, HMr, HBr⟩ := hrel
      have k0 := HMr.out.c0; have k1 := HMr.out.c1
      by_cases hlt : j < n
      · have hj2 : (j : Int) < n := by omega
        have hjl : j < L.length := by rw [← HN.out]; exact hlt
        obtain ⟨G, rfl, c0, c1, c2⟩ := (HRS.out.below HBr.out).at' hjl
        have hbd := HKB.out L[j] (List.getElem_mem hjl)
        have HAT := Lib.hid (fits_at HL.out.1 j hjl)
        have HSP : Hid (L = L.take j ++ L[j] :: L.drop (j + 1)) := by
          show _ = _
          rw [← List.drop_eq_getElem_cons hjl, List.take_append_drop]
        have HTK : Hid (cnt tag (L.take (j + 1)) = cnt tag (L.take j) + if L[j].tag = tag then L[j].hi - L[j].lo else 0) := by
          show _ = _
          rw [List.take_add_one, List.getElem?_eq_getElem hjl]
          show cnt tag (L.take j ++ [L[j]]) = _
          rw [cnt_append]
          show _ + ((if L[j].tag = tag then L[j].hi - L[j].lo else 0) + 0) = _
          omega
        have HC0 : Hid (0 ≤ cnt tag (L.take j) ∧ 0 ≤ cnt tag (L.drop (j + 1))) := ⟨(cnt_bd (k := tag) (l := L.take j) (fun r hr => HKB.out r (List.mem_of_mem_take hr))).1, (cnt_bd (k := tag) (l := L.drop (j + 1)) (fun r hr => HKB.out r (List.mem_of_mem_drop hr))).1⟩
        generalize L[j] = r at *
        obtain ⟨ra, rb, rc⟩ := r
        simp only at c0 c1 c2
        obtain ⟨q1, q2, q3, q4, q5⟩ := hbd
        simp only at q1 q2 q3 q4 q5
        have hkk := HKK.out.2
        have hkt : kk ≤ 9223372036854775807 := by have := HKK.out.1; have := HC0.out.1; have := HK0.out; omega
        have hw1 : IntKind.i64.wrap (rb - ra) = rb - ra := IntWalk.i64_in _ (by omega)
        have hw2 : IntKind.i64.wrap (kk - (rb - ra)) = kk - (rb - ra) := IntWalk.i64_in _ (by omega)
        obtain ⟨wx, HWX⟩ : ∃ wx, wx = wr.alloc (.cells #[.int .i64 ra, .int .i64 rb, .int .i64 rc] 64) := ⟨_, rfl⟩
        have bx : Below wr.heap.size wr wx := by rw [HWX]; exact (Below.refl _ _).alloc (Nat.le_refl _) _
        have hrb : Rb wx wr.heap.size ⟨ra, rb, rc⟩ := by rw [HWX]; exact Rb.new wr ⟨ra, rb, rc⟩
        obtain ⟨r0, r1, r2⟩ := hrb.cells
        simp only at r0 r1 r2
        have HMx := Lib.hid (HMr.out.next bx)
        have HBx := Lib.hid (HBr.out.trans (bx.mono HBr.out.size))
        have HWX' := Lib.hid HWX
        clear HWX bx hrb
        go_upto_region 7 with fail
        rw [← HWX'.out]
        clear c0 c1 c2 k0 k1
        by_cases ht : rc = tag
        · subst ht
          by_cases hin : kk < rb - ra
          · have hw3 : IntKind.i64.wrap (ra + kk) = ra + kk := IntWalk.i64_in _ (by omega)
            have HF : Hid (FindOf f size rc k L (ra + kk) true) := by
              obtain ⟨a1, a2, a3, a4⟩ := HAT.out
              simp only at a1 a2 a3 a4
              have hc : cnt rc L = cnt rc (L.take j) + ((rb - ra) + cnt rc (L.drop (j + 1))) := by
                conv => lhs; rw [HSP.out]
                rw [cnt_append]
                show _ + ((if rc = rc then rb - ra else 0) + _) = _
                rw [if_pos rfl]
              have hb := cb_in (l := L.take j) (r := ⟨ra, rb, rc⟩) (m := L.drop (j + 1)) (x := ra + kk) (k := rc) (by rw [← HSP.out]; exact HL.out) (by show ra ≤ _; omega) (by show _ ≤ rb; omega)
              rw [← HSP.out] at hb
              have hb2 : cb (ra + kk) rc L = cnt rc (L.take j) + kk := by
                rw [hb]
                show _ + (if rc = rc then ra + kk - ra else 0) = _
                rw [if_pos rfl]
                omega
              have := HKK.out.1; have := HC0.out
              exact .inl ⟨rfl, decide_eq_true ⟨q4, q5⟩, HK0.out.1, by omega, by omega, by omega, a4 _ (by omega) (by omega), by omega⟩
            clear HTK
            go_wp2_with fail
            refine bodyPost_ret (v := .tuple #[.int .i64 (ra + kk), .bool true]) (by simp [results, Try.results25, go_sem]) rfl ?_
            exact ⟨ra + kk, .inr ⟨rfl, HF, HBx.out⟩⟩
          · have HT2 : Hid (kk - (rb - ra) = k - cnt rc (L.take (j + 1)) ∧ 0 ≤ kk - (rb - ra)) := by
              refine ⟨?_, by omega⟩
              rw [HTK.out, HKK.out.1]
              show _ = k - (_ + if rc = rc then rb - ra else 0)
              rw [if_pos rfl]; omega
            clear HTK
            go_wp2_with fail
            go_roundw
            case rel => exact ⟨j + 1, kk - (rb - ra), by omega, by go_num, by first | rfl | go_num, HT2.out, HMx.out, HBx.out⟩
            case measure => simp [intOf]; omega
        · have HT2 : Hid (kk = k - cnt tag (L.take (j + 1)) ∧ 0 ≤ kk) := by
            refine ⟨?_, HKK.out.2⟩
            rw [HTK.out, HKK.out.1]
            show _ = k - (_ + if rc = tag then rb - ra else 0)
            rw [if_neg ht]; omega
          clear HTK
          have hbe : (rc == tag) = false := beq_eq_false_iff_ne.2 ht
          go_wp2_with fail
          go_roundw
          case rel => exact ⟨j + 1, kk, by omega, by go_num, rfl, HT2.out, HMx.out, HBx.out⟩
          case measure => simp [intOf]; omega
      · have hj2 : ¬ (j : Int) < n := by omega
        have HF : Hid (FindOf f size tag k L 0 false) := by
          have h1 := HKK.out.1
          rw [List.take_of_length_le (by have := HN.out; omega)] at h1
          have := HKK.out.2
          exact .inr ⟨rfl, rfl, .inr (.inr (by omega))⟩
        go_wp2_with fail
        refine bodyPost_ret (v := .tuple #[.int .i64 0, .bool false]) (by simp [results, Try.results25, go_sem]) rfl ?_
        exact ⟨0, .inl ⟨rfl, HF, HBr.out⟩⟩
end Go.Proofs.Ytjbenhmpeceaeaa
namespace Go.Proofs.Ytjbenhmpeceaeaa
open Go Go.ChangeShapes Go.WideShapes Go.ChangeAt Go.RowKit Go.Deep Gs

theorem addz (b o k : Nat) : (⟨b, o, none⟩ : Addr).add k = ⟨b, o + k, none⟩ := by
  unfold Addr.add
  split <;> simp_all
theorem own : ownKnob Try.prog.godebug = none := by kernel_rfl
theorem laidOut' : laidOutB Try.prog = true := by kernel_rfl
theorem one_int : Try.prog.cellsOf 3 = 1 := by kernel_rfl
theorem one_bool : Try.prog.cellsOf 4 = 1 := by kernel_rfl
theorem five_act : Try.prog.cellsOf 42 = 5 := by kernel_rfl
theorem six_query : Try.prog.cellsOf 45 = 6 := by kernel_rfl
section
variable {H : Type} {enc : TypeId × Value → H} {W : World} {base : Nat} {sp : Nat → Bool} {held : Bool}
theorem fld_int {cs : List Value} {n i : Nat} {xs : List (DataW H × List MemPlace)} (hi : i < xs.length) (h : DataW.trod enc Try.prog W base sp held n 3 ((cs.drop i).take (Try.prog.cellsOf 3)) = xs[i]?) : ∃ k, cs[i]? = some (.int .i64 k) := by
  rw [one_int, List.getElem?_eq_getElem hi] at h
  obtain ⟨k, e, _⟩ := DataW.trod_int Try.underlying3 h
  refine ⟨k, ?_⟩
  have h1 : ((cs.drop i).take 1)[0]? = some (.int .i64 k) := by rw [e]; rfl
  simpa [List.getElem?_take, List.getElem?_drop] using h1
theorem fld_bool {cs : List Value} {n i : Nat} {xs : List (DataW H × List MemPlace)} (hi : i < xs.length) (h : DataW.trod enc Try.prog W base sp held n 4 ((cs.drop i).take (Try.prog.cellsOf 4)) = xs[i]?) : ∃ k, cs[i]? = some (.bool k) := by
  rw [one_bool, List.getElem?_eq_getElem hi] at h
  obtain ⟨k, e, _⟩ := DataW.trod_bool Try.underlying4 h
  refine ⟨k, ?_⟩
  have h1 : ((cs.drop i).take 1)[0]? = some (.bool k) := by rw [e]; rfl
  simpa [List.getElem?_take, List.getElem?_drop] using h1
/-- the cells of an update -/
theorem act_cells {fuel : Nat} {cs : List Value} {x : DataW H × List MemPlace} (h : DataW.trod enc Try.prog W base sp held fuel 42 cs = some x) :
    ∃ a : Act, cs[0]? = some (.bool a.sw) ∧ cs[1]? = some (.int .i64 a.lo) ∧ cs[2]? = some (.int .i64 a.hi) ∧ cs[3]? = some (.int .i64 a.fr) ∧ cs[4]? = some (.int .i64 a.tt) ∧ cs.length = 5 := by
  obtain ⟨xs, n, _, _, hl, hx, hg⟩ := DataW.trod_struct Try.underlying42 h
  have hx : xs.length = 5 := hx
  obtain ⟨b0, e0⟩ := fld_bool (i := 0) (by omega) (hg 0 _ rfl)
  obtain ⟨b1, e1⟩ := fld_int (i := 1) (by omega) (hg 1 _ rfl)
  obtain ⟨b2, e2⟩ := fld_int (i := 2) (by omega) (hg 2 _ rfl)
  obtain ⟨b3, e3⟩ := fld_int (i := 3) (by omega) (hg 3 _ rfl)
  obtain ⟨b4, e4⟩ := fld_int (i := 4) (by omega) (hg 4 _ rfl)
  exact ⟨⟨b0, b1, b2, b3, b4⟩, e0, e1, e2, e3, e4, by rw [hl, five_act]⟩
/-- a list of updates -/
theorem acts_of {v : Value} {d : DataW H} {p : List MemPlace} (h : DataW.Trod enc Try.prog W 0 (fun _ => true) true 22 v d p) (hv : ∃ a n c, v = .slice a n c) : ∃ l, IsAs W v l := by
  obtain ⟨a0, len0, cap0, rfl⟩ := hv
  obtain ⟨fuel, hf⟩ := h
  rcases open_slice Try.underlying22 hf with ⟨hcs, _⟩ | ⟨a, len, cap, m, n, D, Pl, hcs, _, hl, _, hm, _, hi⟩
  · simp [Value.cells] at hcs
    obtain ⟨rfl, rfl, rfl⟩ := hcs
    exact ⟨[], none, 0, rfl, fun h => absurd h (by simp)⟩
  · simp [Value.cells] at hcs
    obtain ⟨rfl, rfl, rfl⟩ := hcs
    simp only [if_true] at hm
    have hex : ∀ i, i < len0 → ∃ x : Act, ∀ j, j < 5 → W.cell? ((a.add (i * 5)).add j) = [Value.bool x.sw, .int .i64 x.lo, .int .i64 x.hi, .int .i64 x.fr, .int .i64 x.tt][j]? := fun i hlt => by
      obtain ⟨cs', hc, ht⟩ := hi i (by omega)
      rw [five_act] at hc
      obtain ⟨_, hln, hat⟩ := World.cells?_some hc
      obtain ⟨x, e0, e1, e2, e3, e4, _⟩ := act_cells ht
      refine ⟨x, fun j hj => ?_⟩
      rw [hat j hj]
      have : j = 0 ∨ j = 1 ∨ j = 2 ∨ j = 3 ∨ j = 4 := by omega
      rcases this with rfl | rfl | rfl | rfl | rfl
      · exact e0
      · exact e1
      · exact e2
      · exact e3
      · exact e4
    obtain ⟨g, hg⟩ : ∃ g : Nat → Act, ∀ i, i < len0 → ∀ j, j < 5 → W.cell? ((a.add (i * 5)).add j) = [Value.bool (g i).sw, .int .i64 (g i).lo, .int .i64 (g i).hi, .int .i64 (g i).fr, .int .i64 (g i).tt][j]? :=
      ⟨fun i => if h : i < len0 then (hex i h).choose else ⟨false, 0, 0, 0, 0⟩, fun i h => by simp only [dif_pos h]; exact (hex i h).choose_spec⟩
    refine ⟨(List.range len0).map g, some a, cap0, by simp, fun hp => ?_⟩
    have hp : 0 < len0 := by simpa using hp
    obtain ⟨b, o, s⟩ := a
    have h00 := hg 0 hp 0 (by decide)
    obtain rfl : s = none := by
      cases s with
      | none => rfl
      | some _ =>
        exfalso
        unfold World.cell? Addr.add at h00
        simp only [if_true] at h00
        split at h00 <;> simp at h00
    refine ⟨b, o, rfl, ?_, fun j hj => ?_⟩
    · have h1 : W.cell? ⟨b, o, none⟩ = some (.bool (g 0).sw) := by simpa [Addr.add] using h00
      exact World.block_lt_of_cell? _ _ h1
    · have hj : j < len0 := by simpa using hj
      have k : ∀ i, i < 5 → W.cell? ⟨b, o + j * 5 + i, none⟩ = [Value.bool (g j).sw, .int .i64 (g j).lo, .int .i64 (g j).hi, .int .i64 (g j).fr, .int .i64 (g j).tt][i]? := fun i hi => by
        have := hg j hj i hi
        rwa [addz, addz] at this
      have e : ((List.range len0).map g)[j]'(by simpa using hj) = g j := by simp
      have e' : ∀ (l : List Act) (h1 h2 : j < l.length), l[j]'h1 = l[j]'h2 := fun _ _ _ => rfl
      refine ⟨?_, ?_, ?_, ?_, ?_⟩
      · rw [e]; exact k 0 (by decide)
      · rw [e]; exact k 1 (by decide)
      · rw [e]; exact k 2 (by decide)
      · rw [e]; exact k 3 (by decide)
      · rw [e]; exact k 4 (by decide)
set_option maxRecDepth 100000 in
/-- an update, by value -/
theorem act_of {v : Value} {d : DataW H} {p : List MemPlace} {r : Reach} {b : Nat} (hv : Value.okWide Try.prog W r b 42 v) (h : DataW.Trod enc Try.prog W base sp held 42 v d p) : ∃ a : Act, v = .agg #[.bool a.sw, .int .i64 a.lo, .int .i64 a.hi, .int .i64 a.fr, .int .i64 a.tt] := by
  obtain ⟨cs, rfl, _⟩ := okWide_struct Try.underlying42 hv
  obtain ⟨fuel, hf⟩ := h
  obtain ⟨x, e0, e1, e2, e3, e4, el⟩ := act_cells hf
  refine ⟨x, ?_⟩
  obtain ⟨l⟩ := cs
  simp only [Value.cells] at e0 e1 e2 e3 e4 el
  match l, el with
  | [c0, c1, c2, c3, c4], _ =>
    simp at e0 e1 e2 e3 e4
    subst e0; subst e1; subst e2; subst e3; subst e4
    rfl
set_option maxRecDepth 100000 in
/-- a query, by value -/
theorem query_of {v : Value} {d : DataW H} {p : List MemPlace} {r : Reach} {b : Nat} (hv : Value.okWide Try.prog W r b 45 v) (h : DataW.Trod enc Try.prog W base sp held 45 v d p) : ∃ q0 q1 q2 q3 q4 q5, v = .agg #[.int .i64 q0, .int .i64 q1, .int .i64 q2, .int .i64 q3, .int .i64 q4, .int .i64 q5] := by
  obtain ⟨cs, rfl, _⟩ := okWide_struct Try.underlying45 hv
  obtain ⟨fuel, hf⟩ := h
  obtain ⟨xs, n, _, _, hl, hx, hg⟩ := DataW.trod_struct Try.underlying45 hf
  have hx : xs.length = 6 := hx
  obtain ⟨b0, e0⟩ := fld_int (i := 0) (by omega) (hg 0 _ rfl)
  obtain ⟨b1, e1⟩ := fld_int (i := 1) (by omega) (hg 1 _ rfl)
  obtain ⟨b2, e2⟩ := fld_int (i := 2) (by omega) (hg 2 _ rfl)
  obtain ⟨b3, e3⟩ := fld_int (i := 3) (by omega) (hg 3 _ rfl)
  obtain ⟨b4, e4⟩ := fld_int (i := 4) (by omega) (hg 4 _ rfl)
  obtain ⟨b5, e5⟩ := fld_int (i := 5) (by omega) (hg 5 _ rfl)
  refine ⟨b0, b1, b2, b3, b4, b5, ?_⟩
  rw [six_query] at hl
  obtain ⟨l⟩ := cs
  simp only [Value.cells] at e0 e1 e2 e3 e4 e5 hl
  match l, hl with
  | [c0, c1, c2, c3, c4, c5], _ =>
    simp at e0 e1 e2 e3 e4 e5
    subst e0; subst e1; subst e2; subst e3; subst e4; subst e5
    rfl
end
end Go.Proofs.Ytjbenhmpeceaeaa
namespace Go.Proofs.Ytjbenhmpeceaeaa
open Go Go.RowKit Go.ChangeShapes Go.WideShapes Go.Deep Gs

/-- Get, of a piece that the map lacks -/
theorem Get_err {f : Int → Int} {size x : Int} {W : World} {p : Option Addr} (h : IsM f size W p) (hx : ¬ (0 ≤ x ∧ x < size)) :
    Calls Try.prog 18 #[.agg #[.pointer p, .int .i64 size], .int .i64 x] W fun e w' => e = .returned (.tuple #[.int .i64 0, .int .i64 3]) ∧ Below W.heap.size W w' := by
  obtain ⟨b, rfl⟩ := h.some
  obtain ⟨w0, HW⟩ : ∃ w0, w0 = W.alloc (.cells #[.pointer (some ⟨b, 0, none⟩), .int .i64 size] 27) := ⟨_, rfl⟩
  have hq : Mq W (some ⟨b, 0, none⟩) size w0 := by rw [HW]; exact Mq.new _ _ _ _
  have HUS := Lib.hid (fun W' => isUsable_any b size W')
  have HQ := Lib.hid hq; have HW' := Lib.hid HW
  clear hq HW h
  by_cases h1 : x < 0
  · go_enter Try.func18, Try.ntmps18
    go_wp2_with fail
    rw [← HW'.out]
    refine (HUS.out _).mono ?_
    rintro e w1 ⟨rfl, hb⟩
    have HQ1 := Lib.hid (HQ.out.next hb)
    have k0 := HQ1.out.c0; have k1 := HQ1.out.c1
    clear hb
    go_wp2_with fail
    refine bodyPost_ret (v := .tuple #[.int .i64 0, .int .i64 3]) (by simp [results, Try.results18, go_sem]) rfl ?_
    exact ⟨rfl, HQ1.out.bel⟩
  · have h2 : x ≥ size := by omega
    go_enter Try.func18, Try.ntmps18
    go_wp2_with fail
    rw [← HW'.out]
    refine (HUS.out _).mono ?_
    rintro e w1 ⟨rfl, hb⟩
    have HQ1 := Lib.hid (HQ.out.next hb)
    have k0 := HQ1.out.c0; have k1 := HQ1.out.c1
    clear hb
    go_wp2_with fail
    refine bodyPost_ret (v := .tuple #[.int .i64 0, .int .i64 3]) (by simp [results, Try.results18, go_sem]) rfl ?_
    exact ⟨rfl, HQ1.out.bel⟩
/-- Runs, of a range that is not valid -/
theorem Runs_err {f : Int → Int} {size lo hi most : Int} {W : World} {p : Option Addr} (h : IsM f size W p) (hx : ¬ (0 ≤ lo ∧ lo ≤ hi ∧ hi ≤ size)) :
    Calls Try.prog 20 #[.agg #[.pointer p, .int .i64 size], .int .i64 lo, .int .i64 hi, .int .i64 most] W fun e w' => e = .returned (.tuple #[.slice none 0 0, .int .i64 3]) ∧ Below W.heap.size W w' := by
  obtain ⟨b, rfl⟩ := h.some
  obtain ⟨w0, HW⟩ : ∃ w0, w0 = (W.alloc (.cells #[.pointer (some ⟨b, 0, none⟩), .int .i64 size] 27)).alloc (.cells #[.int .i64 most] 3) := ⟨_, rfl⟩
  have hb : Below W.heap.size W w0 := by rw [HW]; exact (alloc_below _ _).alloc (by simp) _
  have HCK : Hid (Calls Try.prog 46 #[.agg #[.pointer (some ⟨b, 0, none⟩), .int .i64 size], .int .i64 lo, .int .i64 hi, .slice none 0 0] w0 fun e w' => e = .returned (.int .i64 3) ∧ Below w0.heap.size w0 w') := check_range b size lo hi none 0 0 w0 (by omega)
  have HB := Lib.hid hb; have HW' := Lib.hid HW
  clear hb HW h hx
  go_enter Try.func20, Try.ntmps20
  go_wp2_with fail
  rw [← HW'.out]
  refine HCK.out.mono ?_
  rintro e w1 ⟨rfl, hb⟩
  have HB1 := Lib.hid (HB.out.trans (hb.mono HB.out.size))
  clear hb
  go_wp2_with fail
  refine bodyPost_ret (v := .tuple #[.slice none 0 0, .int .i64 3]) (by simp [results, Try.results20, go_sem]) rfl ?_
  exact ⟨rfl, HB1.out⟩
theorem both_Get {base : Nat} {W : World} {p : Option Addr} {z s : Int} {v : Value} (h : Dual base W p z s v) (x : Int) : ∃ T E : Int,
    Hid (∀ W', Below W.heap.size W W' → Calls Try.prog 18 #[.agg #[.pointer p, .int .i64 z], .int .i64 x] W' fun e w' => e = .returned (.tuple #[.int .i64 T, .int .i64 E]) ∧ Below W'.heap.size W' w') ∧
    Hid (∀ W', Below W.heap.size W W' → Calls Try.prog 19 #[.agg #[.int .i64 s, v], .int .i64 x] W' fun e w' => e = .returned (.tuple #[.int .i64 T, .int .i64 E]) ∧ Below W'.heap.size W' w') := by
  rcases h.open with ⟨rfl, rfl, rfl, rfl⟩ | ⟨f, L, h1, h2, h3, rfl, h5, h6⟩
  · exact ⟨0, 1, fun W' _ => Get_un 0 x W', fun W' _ => RGet_un x W'⟩
  · refine ⟨getT f s x, getE s x, fun W' hW => ?_, fun W' hW => RGet_any (h3.below hW) h2 h1.lo h6⟩
    by_cases hx : 0 ≤ x ∧ x < s
    · have := Get_ok (h1.below hW) hx.1 hx.2
      unfold getT getE
      rw [if_pos hx, if_pos hx]
      exact this
    · unfold getT getE
      rw [if_neg hx, if_neg hx]
      exact Get_err (h1.below hW) hx
theorem both_Runs {base : Nat} {W : World} {p : Option Addr} {z s : Int} {v : Value} (h : Dual base W p z s v) (lo hi most : Int) : ∃ (K : List R) (E : Int), K.length ≤ 4096 ∧
    Hid (∀ W', Below W.heap.size W W' → Calls Try.prog 20 #[.agg #[.pointer p, .int .i64 z], .int .i64 lo, .int .i64 hi, .int .i64 most] W' fun e w' => ∃ v', e = .returned (.tuple #[v', .int .i64 E]) ∧ Hid (IsRs W'.heap.size w' v' (K.take most.toNat)) ∧ Below W'.heap.size W' w') ∧
    Hid (∀ W', Below W.heap.size W W' → Calls Try.prog 21 #[.agg #[.int .i64 s, v], .int .i64 lo, .int .i64 hi] W' fun e w' => ∃ v', e = .returned (.tuple #[v', .int .i64 E]) ∧ Hid (IsRs W'.heap.size w' v' K ∧ Roomed v' K.length) ∧ Below W'.heap.size W' w') := by
  have nil : ∀ (B : Nat) (W : World), IsRs B W (.slice none 0 0) [] := fun B W => ⟨none, 0, rfl, fun h => absurd h (by simp)⟩
  rcases h.open with ⟨rfl, rfl, rfl, rfl⟩ | ⟨f, L, h1, h2, h3, rfl, h5, h6⟩
  · refine ⟨[], 1, by simp, fun W' _ => (Runs_un 0 lo hi most W').mono ?_, fun W' _ => (RRuns_un lo hi W').mono ?_⟩
    · rintro e w' ⟨rfl, hB⟩
      exact ⟨_, rfl, by rw [List.take_nil]; exact nil _ _, hB⟩
    · rintro e w' ⟨rfl, hB⟩
      exact ⟨_, rfl, ⟨nil _ _, none, 0, rfl, Nat.le_refl _⟩, hB⟩
  · by_cases hx : 0 ≤ lo ∧ lo ≤ hi ∧ hi ≤ s
    · refine ⟨clip lo hi L, 0, Nat.le_trans (clip_len _ _ _) h6, fun W' hW => ?_, fun W' hW => RRuns_ok (h3.below hW) h2 h5 h6 hx.1 hx.2.1 hx.2.2⟩
      obtain ⟨L', g1, g2, g3⟩ := Runs_any (most := most) (h1.below hW) hx.1 hx.2.1 hx.2.2
      have e := g1.same h2
      subst e
      refine g3.mono ?_
      rintro e w' ⟨v', rfl, hr, hB⟩
      exact ⟨v', rfl, IsRs.of_row hr.out, hB⟩
    · refine ⟨[], 3, by simp, fun W' hW => (Runs_err (h1.below hW) hx).mono ?_, fun W' hW => ?_⟩
      · rintro e w' ⟨rfl, hB⟩
        exact ⟨_, rfl, by rw [List.take_nil]; exact nil _ _, hB⟩
      · obtain ⟨a, c, rfl, -⟩ := h3
        refine (RRuns_range s lo hi a _ c W' h5 hx).mono ?_
        rintro e w' ⟨rfl, hB⟩
        exact ⟨_, rfl, ⟨nil _ _, none, 0, rfl, Nat.le_refl _⟩, hB⟩
theorem both_Count {base : Nat} {W : World} {p : Option Addr} {z s : Int} {v : Value} (h : Dual base W p z s v) (lo hi tag : Int) : ∃ N E : Int,
    Hid (∀ W', Below W.heap.size W W' → Calls Try.prog 22 #[.agg #[.pointer p, .int .i64 z], .int .i64 lo, .int .i64 hi, .int .i64 tag] W' fun e w' => e = .returned (.tuple #[.int .i64 N, .int .i64 E]) ∧ Below W'.heap.size W' w') ∧
    Hid (∀ W', Below W.heap.size W W' → Calls Try.prog 23 #[.agg #[.int .i64 s, v], .int .i64 lo, .int .i64 hi, .int .i64 tag] W' fun e w' => e = .returned (.tuple #[.int .i64 N, .int .i64 E]) ∧ Below W'.heap.size W' w') := by
  rcases h.open with ⟨rfl, rfl, rfl, rfl⟩ | ⟨f, L, h1, h2, h3, rfl, h5, h6⟩
  · exact ⟨0, 1, fun W' _ => Count_un 0 lo hi tag W', fun W' _ => RCount_no (by decide) fun W'' _ => RRuns_un lo hi W''⟩
  · by_cases hx : 0 ≤ lo ∧ lo ≤ hi ∧ hi ≤ s
    · by_cases ht : isT tag = true
      · obtain ⟨e1, e2⟩ : 0 ≤ tag ∧ tag < 16 := of_decide_eq_true ht
        obtain ⟨j, rfl⟩ : ∃ j : Nat, tag = j := ⟨tag.toNat, by omega⟩
        refine ⟨cnt j (clip lo hi L), 0, fun W' hW => ?_, fun W' hW => RCount_ok (h3.below hW) h2 h1.ctx h5 h6 hx.1 hx.2.1 hx.2.2 ht⟩
        obtain ⟨L', g1, g2⟩ := Count_ok (k := j) (h1.below hW) hx.1 hx.2.1 hx.2.2 (by omega)
        have e := g1.same h2
        subst e
        rw [cnt_clip j hx.2.1 (fun r hr => (h2.1.bd h1.ctx r hr).2.1)]
        exact g2
      · have ht := Bool.eq_false_iff.2 ht
        have e2 : errOf s lo hi [tag] = 2 := by unfold errOf; rw [if_neg (by omega)]; simp [ht]
        refine ⟨0, 2, fun W' hW => ?_, fun W' hW => RCount_tag (h3.below hW) h2 h5 h6 hx.1 hx.2.1 hx.2.2 ht⟩
        have := Count_err (h1.below hW) (lo := lo) (hi := hi) (k := tag) (by rw [e2]; decide)
        rwa [e2] at this
    · have e2 : errOf s lo hi [tag] = 3 := by unfold errOf; rw [if_pos (by omega)]
      refine ⟨0, 3, fun W' hW => ?_, fun W' hW => RCount_no (by decide) fun W'' _ => ?_⟩
      · have := Count_err (h1.below hW) (lo := lo) (hi := hi) (k := tag) (by rw [e2]; decide)
        rwa [e2] at this
      · obtain ⟨a, c, rfl, -⟩ := h3
        exact RRuns_range s lo hi a _ c W'' h5 hx
theorem RFind_un (tag k : Int) (W : World) : Calls Try.prog 25 #[.agg #[.int .i64 0, .slice none 0 0], .int .i64 tag, .int .i64 k] W fun e w' => e = .returned (.tuple #[.int .i64 0, .bool false]) ∧ Below W.heap.size W w' := by
  obtain ⟨w0, HW⟩ : ∃ w0, w0 = W.alloc (.cells #[.int .i64 0, .slice none 0 0] 33) := ⟨_, rfl⟩
  have hm : M2 W.heap.size (.int .i64 0) (.slice none 0 0) w0 := by rw [HW]; exact M2.new _ _ _ _
  have hb : Below W.heap.size W w0 := by rw [HW]; exact (Below.refl _ _).alloc (Nat.le_refl _) _
  have HM := Lib.hid hm; have HB := Lib.hid hb; have HW' := Lib.hid HW
  have k0 := HM.out.c0; have k1 := HM.out.c1
  clear hm hb HW
  by_cases hneg : k < 0
  · go_enter Try.func25, Try.ntmps25
    go_upto_region 1 with fail
    rw [← HW'.out]
    go_wp2_with fail
    refine bodyPost_ret (v := .tuple #[.int .i64 0, .bool false]) (by simp [results, Try.results25, go_sem]) rfl ?_
    exact ⟨rfl, HB.out⟩
  · go_enter Try.func25, Try.ntmps25
    go_upto_region 1 with fail
    rw [← HW'.out]
    clear k0 k1
    go_wp2_with fail
    go_loopw [2, 8] (fun kv iv wr => iv = .int .i64 0 ∧ Hid (M2 W.heap.size (.int .i64 0) (.slice none 0 0) wr) ∧ Hid (Below W.heap.size W wr)) (fun _ _ _ => 0)
    case atStart => exact ⟨rfl, HM.out, HB.out⟩
    case round =>
      obtain ⟨rfl, HMr, HBr⟩ := hrel
      have k0 := HMr.out.c0; have k1 := HMr.out.c1
      go_wp2_with fail
      refine bodyPost_ret (v := .tuple #[.int .i64 0, .bool false]) (by simp [results, Try.results25, go_sem]) rfl ?_
      exact ⟨rfl, HBr.out⟩
theorem both_Find {base : Nat} {W : World} {p : Option Addr} {z s : Int} {v : Value} (h : Dual base W p z s v) (tag k : Int) (hk : k ≤ 9223372036854775807) : ∃ P : Int → Bool → Prop,
    Hid (∀ x y b c, P x b → P y c → x = y ∧ b = c) ∧
    Hid (∀ W', Below W.heap.size W W' → Calls Try.prog 24 #[.agg #[.pointer p, .int .i64 z], .int .i64 tag, .int .i64 k] W' fun e w' => ∃ x is, e = .returned (.tuple #[.int .i64 x, .bool is]) ∧ Hid (P x is) ∧ Below W'.heap.size W' w') ∧
    Hid (∀ W', Below W.heap.size W W' → Calls Try.prog 25 #[.agg #[.int .i64 s, v], .int .i64 tag, .int .i64 k] W' fun e w' => ∃ x is, e = .returned (.tuple #[.int .i64 x, .bool is]) ∧ Hid (P x is) ∧ Below W'.heap.size W' w') := by
  rcases h.open with ⟨rfl, rfl, rfl, rfl⟩ | ⟨f, L, h1, h2, h3, rfl, h5, h6⟩
  · refine ⟨fun x b => x = 0 ∧ b = false, ?_, fun W' _ => (Find_un 0 tag k W').mono ?_, fun W' _ => (RFind_un tag k W').mono ?_⟩
    · rintro x y b c ⟨rfl, rfl⟩ ⟨rfl, rfl⟩
      exact ⟨rfl, rfl⟩
    · rintro e w' ⟨rfl, hB⟩
      exact ⟨0, false, rfl, ⟨rfl, rfl⟩, hB⟩
    · rintro e w' ⟨rfl, hB⟩
      exact ⟨0, false, rfl, ⟨rfl, rfl⟩, hB⟩
  · refine ⟨FindOf f s tag k L, fun x y b c g1 g2 => FindOf.same h2 g1 g2, fun W' hW => ?_, fun W' hW => RFind_any (h3.below hW) h2 h1.ctx h6 hk⟩
    obtain ⟨L', g1, g2⟩ := Find_any (tag := tag) (k := k) (h1.below hW)
    have e := g1.same h2
    subst e
    exact g2
section
variable {H : Type} {enc : TypeId × Value → H} {W : World} {base : Nat} {sp : Nat → Bool} {held : Bool}
theorem fld_wf {cs : List Value} {n i : Nat} {xs : List (DataW H × List MemPlace)} (hi : i < xs.length) (h : DataW.trod enc Try.prog W base sp held n 3 ((cs.drop i).take (Try.prog.cellsOf 3)) = xs[i]?) : ∃ k, cs[i]? = some (.int .i64 k) ∧ -9223372036854775808 ≤ k ∧ k ≤ 9223372036854775807 := by
  rw [one_int, List.getElem?_eq_getElem hi] at h
  obtain ⟨k, e, _, hw⟩ := DataW.trod_int Try.underlying3 h
  refine ⟨k, ?_, ?_⟩
  · have h1 : ((cs.drop i).take 1)[0]? = some (.int .i64 k) := by rw [e]; rfl
    simpa [List.getElem?_take, List.getElem?_drop] using h1
  · have := Go.bounds_i64 hw
    omega
/-- what a query's last number is at most -/
theorem query_bd {d : DataW H} {p : List MemPlace} {q0 q1 q2 q3 q4 q5 : Int}
    (h : DataW.Trod enc Try.prog W base sp held 45 (.agg #[.int .i64 q0, .int .i64 q1, .int .i64 q2, .int .i64 q3, .int .i64 q4, .int .i64 q5]) d p) : q5 ≤ 9223372036854775807 := by
  obtain ⟨fuel, hf⟩ := h
  obtain ⟨xs, n, _, _, hl, hx, hg⟩ := DataW.trod_struct Try.underlying45 hf
  have hx : xs.length = 6 := hx
  obtain ⟨b5, e5, h1, h2⟩ := fld_wf (i := 5) (by omega) (hg 5 _ rfl)
  have e : some (Value.int .i64 q5) = some (Value.int .i64 b5) := e5
  injection e with e
  injection e with _ e
  omega
end
end Go.Proofs.Ytjbenhmpeceaeaa
namespace Go.Proofs.Ytjbenhmpeceaeaa
open Go Go.RowKit Gs

set_option maxHeartbeats 1000000 in
theorem RAlike_ne {B1 B2 : Nat} {W : World} {u v : Value} {L K : List R} (h1 : IsRs B1 W u L) (h2 : IsRs B2 W v K) (hlen : L.length ≤ 100000) (hlen2 : K.length ≤ 100000) (hLK : L ≠ K) : Calls Try.prog 26 #[u, v] W fun e w' => e = .returned (.bool false) ∧ Hid (Below W.heap.size W w') := by
  have HU := Lib.hid h1; have HV := Lib.hid h2
  obtain ⟨a, c, rfl, -⟩ := h1
  obtain ⟨a', c', rfl, -⟩ := h2
  obtain ⟨n, hn⟩ : ∃ n, n = L.length := ⟨_, rfl⟩
  obtain ⟨m, hm⟩ : ∃ m, m = K.length := ⟨_, rfl⟩
  rw [← hn] at HU ⊢
  rw [← hm] at HV ⊢
  have hnb : n ≤ 100000 := by omega
  have hmb : m ≤ 100000 := by omega
  have HN := Lib.hid hn; have HM := Lib.hid hm; have HLK := Lib.hid hLK
  clear hn hm hlen hlen2 hLK
  by_cases hnm : n = m
  · subst hnm
    go_enter Try.func26, Try.ntmps26
    go_wp2_with fail
    go_loopw [5] (fun iv wr => ∃ j : Nat, j ≤ n ∧ iv = .int .i64 j ∧ Hid (L.take j = K.take j) ∧ Hid (Below W.heap.size W wr)) (fun i _ => n - (intOf i).toNat)
    case atStart => exact ⟨0, by omega, rfl, rfl, Below.refl _ _⟩
    case round =>
      obtain ⟨j, hj, rfl, HT, HB⟩ := hrel
      by_cases hlt : j < n
      · have hj2 : (j : Int) < n := by omega
        have hj0 : (0 : Int) ≤ (j : Int) := by omega
        have hjl : j < L.length := by rw [← HN.out]; exact hlt
        have hjk : j < K.length := by rw [← HM.out]; exact hlt
        obtain ⟨b, d, hv, hcs⟩ := HU.out.below HB.out
        injection hv with hv1 hv2 hv3
        clear hv2 hv3
        subst hv1
        obtain ⟨G, e1, -, hcs2⟩ := hcs (by omega)
        clear hcs
        subst e1
        obtain ⟨c0, c1, c2⟩ := hcs2 j hjl
        clear hcs2
        obtain ⟨b', d', hv, hcs⟩ := HV.out.below HB.out
        injection hv with hv1 hv2 hv3
        clear hv2 hv3
        subst hv1
        obtain ⟨G', e1, -, hcs2⟩ := hcs (by omega)
        clear hcs
        subst e1
        obtain ⟨d0, d1, d2⟩ := hcs2 j hjk
        clear hcs2
        rcases hx : L[j] with ⟨xa, xb, xc⟩
        rcases hy : K[j] with ⟨ya, yb, yc⟩
        have HX := Lib.hid hx; have HY := Lib.hid hy
        rw [hx] at c0 c1 c2
        rw [hy] at d0 d1 d2
        simp only at c0 c1 c2 d0 d1 d2
        clear hx hy
        by_cases m1 : xa = ya
        · by_cases m2 : xb = yb
          · by_cases m3 : xc = yc
            · subst m1; subst m2; subst m3
              have HT2 : Hid (L.take (j + 1) = K.take (j + 1)) := by
                show L.take (j + 1) = K.take (j + 1)
                rw [List.take_succ_eq_append_getElem hjl, List.take_succ_eq_append_getElem hjk, HT.out, HX.out, HY.out]
              clear HX HY
              go_wp2_with fail
              go_quiet (fail)
              rename_i nq
              have HBn : Hid (Below W.heap.size W (World.drewN wr nq)) := below_drewN HB.out nq
              clear c0 c1 c2 d0 d1 d2
              generalize hw : World.drewN _ nq = w2 at HBn ⊢
              clear hw
              go_wp2_with fail
              go_roundw
              case rel => exact ⟨j + 1, by omega, by go_num, HT2, HBn⟩
              case measure => simp [intOf]; omega
            · subst m1; subst m2
              have n3 : (xc == yc) = false := beq_eq_false_iff_ne.2 m3
              clear HX HY m3
              go_wp2_with fail
              go_quiet (fail)
              rename_i nq
              have HBn : Hid (Below W.heap.size W (World.drewN wr nq)) := below_drewN HB.out nq
              clear c0 c1 c2 d0 d1 d2
              generalize hw : World.drewN _ nq = w2 at HBn ⊢
              clear hw
              go_wp2_with fail
              go_ret
              exact ⟨rfl, HBn.out⟩
          · subst m1
            have n2 : (xb == yb) = false := beq_eq_false_iff_ne.2 m2
            clear HX HY m2
            go_wp2_with fail
            go_quiet (fail)
            rename_i nq
            have HBn : Hid (Below W.heap.size W (World.drewN wr nq)) := below_drewN HB.out nq
            clear c0 c1 c2 d0 d1 d2
            generalize hw : World.drewN _ nq = w2 at HBn ⊢
            clear hw
            go_wp2_with fail
            go_ret
            exact ⟨rfl, HBn.out⟩
        · skip
          have n1 : (xa == ya) = false := beq_eq_false_iff_ne.2 m1
          clear HX HY m1
          go_wp2_with fail
          go_quiet (fail)
          rename_i nq
          have HBn : Hid (Below W.heap.size W (World.drewN wr nq)) := below_drewN HB.out nq
          clear c0 c1 c2 d0 d1 d2
          generalize hw : World.drewN _ nq = w2 at HBn ⊢
          clear hw
          go_wp2_with fail
          go_ret
          exact ⟨rfl, HBn.out⟩
      · have hj2 : ¬ (j : Int) < n := by omega
        exfalso
        have e : j = n := by omega
        have h1 := HT.out
        rw [e, List.take_of_length_le (by have := HN.out; omega), List.take_of_length_le (by have := HM.out; omega)] at h1
        exact HLK.out h1
  · have hne : ((n : Int) == (m : Int)) = false := beq_eq_false_iff_ne.2 (by omega)
    have HBr : Hid (Below W.heap.size W W) := Below.refl _ _
    clear hnm
    go_enter Try.func26, Try.ntmps26
    go_wp2_with fail
    go_ret
    exact ⟨rfl, HBr.out⟩
/-- ref.Same, of two maps -/
theorem RSame_any {B1 B2 : Nat} {W : World} {u v : Value} {L K : List R} {s s2 : Int} {E : Bool} (h1 : IsRs B1 W u L) (h2 : IsRs B2 W v K) (hlen : L.length ≤ 100000) (hlen2 : K.length ≤ 100000) (hE : E = true ↔ s = s2 ∧ L = K) :
    Calls Try.prog 33 #[.agg #[.int .i64 s, u], .agg #[.int .i64 s2, v]] W fun e w' => e = .returned (.bool E) ∧ Hid (Below W.heap.size W w') := by
  obtain ⟨w1, HW1⟩ : ∃ w1, w1 = W.alloc (.cells #[.int .i64 s, u] 33) := ⟨_, rfl⟩
  obtain ⟨w2, HW2⟩ : ∃ w2, w2 = w1.alloc (.cells #[.int .i64 s2, v] 33) := ⟨_, rfl⟩
  have b1 : Below W.heap.size W w1 := by rw [HW1]; exact (Below.refl _ _).alloc (Nat.le_refl _) _
  have b2 : Below w1.heap.size w1 w2 := by rw [HW2]; exact (Below.refl _ _).alloc (Nat.le_refl _) _
  have s1 : w1.heap.size = W.heap.size + 1 := by rw [HW1]; simp
  have hb := b1.trans (b2.mono b1.size)
  have k0 : w2.cell? ⟨W.heap.size, 0, none⟩ = some (.int .i64 s) := (b2.cell (p := ⟨W.heap.size, 0, none⟩) (by show W.heap.size < _; omega)).trans (by rw [HW1]; exact World.cell?_alloc_at _ _ _ _ rfl)
  have k1 : w2.cell? ⟨W.heap.size, 1, none⟩ = some u := (b2.cell (p := ⟨W.heap.size, 1, none⟩) (by show W.heap.size < _; omega)).trans (by rw [HW1]; exact World.cell?_alloc_at _ _ _ _ rfl)
  have k2 : w2.cell? ⟨W.heap.size + 1, 0, none⟩ = some (.int .i64 s2) := by rw [HW2, ← s1]; exact World.cell?_alloc_at _ _ _ _ rfl
  have k3 : w2.cell? ⟨W.heap.size + 1, 1, none⟩ = some v := by rw [HW2, ← s1]; exact World.cell?_alloc_at _ _ _ _ rfl
  have HB := Lib.hid hb
  rw [HW1] at HW2
  have HW2' := Lib.hid HW2
  have HA : Hid (s = s2 → Calls Try.prog 26 #[u, v] w2 fun e w' => e = .returned (.bool E) ∧ Hid (Below w2.heap.size w2 w')) := fun e => by
    by_cases hLK : L = K
    · have : E = true := hE.2 ⟨e, hLK⟩
      subst hLK
      rw [this]
      exact RAlike_same (h1.below hb) (h2.below hb) hlen
    · have : E = false := by
        cases hEE : E with
        | false => rfl
        | true => exact absurd (hE.1 hEE).2 hLK
      rw [this]
      exact RAlike_ne (h1.below hb) (h2.below hb) hlen hlen2 hLK
  have HF : Hid (s ≠ s2 → E = false) := fun e => by
    cases hEE : E with
    | false => rfl
    | true => exact absurd (hE.1 hEE).1 e
  obtain ⟨a1, n1, c1, hu⟩ : ∃ a n c, u = .slice a n c := by obtain ⟨a, c, rfl, _⟩ := h1; exact ⟨_, _, _, rfl⟩
  obtain ⟨a2, n2, c2, hv⟩ : ∃ a n c, v = .slice a n c := by obtain ⟨a, c, rfl, _⟩ := h2; exact ⟨_, _, _, rfl⟩
  subst hu; subst hv
  clear HW1 HW2 b1 b2 s1 hb h1 h2 hE
  by_cases hs : s = s2
  · have HA2 := Lib.hid (HA.out hs)
    clear HA HF
    subst hs
    go_enter Try.func33, Try.ntmps33
    go_wp2_with fail
    rw [← HW2'.out]
    go_wp2_with fail
    refine HA2.out.mono ?_
    rintro e w3 ⟨rfl, HB3⟩
    have HB4 : Hid (Below W.heap.size W w3) := HB.out.trans (HB3.out.mono HB.out.size)
    go_wp2_with fail
    go_ret
    exact ⟨rfl, HB4.out⟩
  · have hne : (s == s2) = false := beq_eq_false_iff_ne.2 hs
    have HE := Lib.hid (HF.out hs)
    clear hs HA HF
    go_enter Try.func33, Try.ntmps33
    go_upto_region 1 with fail
    rw [← HW2'.out]
    go_wp2_with fail
    go_ret
    exact ⟨by rw [HE.out]; rfl, HB.out⟩
end Go.Proofs.Ytjbenhmpeceaeaa
namespace Go.Proofs.Ytjbenhmpeceaeaa
open Go Go.RowKit Gs

/-- none of the maps is unusable: E tells whether they have one size -/
theorem checkSizes_ok (B c : Nat) (ms : List MV) (s E : Int) (W : World) (hB : B < W.heap.size) (hc : ∀ j (h : j < ms.length), W.cell? ⟨B, j * 2, none⟩ = some (.pointer ms[j].p) ∧ W.cell? ⟨B, j * 2 + 1, none⟩ = some (.int .i64 ms[j].2)) (hn : ms.length ≤ 4)
    (hu : ∀ m ∈ ms, m.1 ≠ none) (h0 : 0 < ms.length) (hs : W.cell? ⟨B, 1, none⟩ = some (.int .i64 s)) (he : (∀ m ∈ ms, m.2 = s) → E = 0) (he2 : (∃ m ∈ ms, m.2 ≠ s) → E = 2) :
    Calls Try.prog 57 #[.slice (some ⟨B, 0, none⟩) ms.length c] W fun e w' => e = .returned (.int .i64 E) ∧ Below W.heap.size W w' := by
  have HUS := Lib.hid (fun b size W' => isUsable_any b size W')
  have HC : Hid (∀ W' j (h : j < ms.length), Below W.heap.size W W' → W'.cell? ⟨B, j * 2, none⟩ = some (.pointer ms[j].p) ∧ W'.cell? ⟨B, j * 2 + 1, none⟩ = some (.int .i64 ms[j].2)) := fun W' j h hb => ⟨(hb.cell (p := ⟨B, j * 2, none⟩) hB).trans (hc j h).1, (hb.cell (p := ⟨B, j * 2 + 1, none⟩) hB).trans (hc j h).2⟩
  have HS : Hid (∀ W', Below W.heap.size W W' → W'.cell? ⟨B, 1, none⟩ = some (.int .i64 s)) := fun W' hb => (hb.cell (p := ⟨B, 1, none⟩) hB).trans hs
  have HU := Lib.hid hu; have HE := Lib.hid he; have HE2 := Lib.hid he2
  have HA : Hid (∀ (W' : World) o, Below W'.heap.size W' (W'.alloc o)) := fun W' o => (Below.refl _ _).alloc (Nat.le_refl _) _
  have HNEW : Hid (∀ (W' : World) x y t, (W'.alloc (.cells #[x, y] t)).cell? ⟨W'.heap.size, 1, none⟩ = some y) := fun W' x y t => World.cell?_alloc_at _ _ _ _ rfl
  clear hc hu he he2 hs
  obtain ⟨n, hnn⟩ : ∃ n, n = ms.length := ⟨_, rfl⟩
  have HN := Lib.hid hnn
  rw [← hnn] at hn h0 ⊢
  clear hnn
  go_enter Try.func57, Try.ntmps57
  go_wp2_with fail
  go_loopw [9] (fun i wr => ∃ j : Nat, j ≤ n ∧ i = .int .i64 j ∧ Hid (Below W.heap.size W wr)) (fun i _ => n - (intOf i).toNat)
  case atStart => exact ⟨0, by omega, rfl, Below.refl _ _⟩
  case round =>
    obtain ⟨j, hj, rfl, HB⟩ := hrel
    by_cases hlt : j < n
    · have hj2 : (j : Int) < n := by omega
      have hjn : j < ms.length := by rw [← HN.out]; exact hlt
      obtain ⟨hc0, hc1⟩ := HC.out wr j hjn HB.out
      have hnn := HU.out ms[j] (List.getElem_mem hjn)
      rcases hm : ms[j] with ⟨mp, z⟩
      rw [hm] at hc0 hc1 hnn
      cases mp with
      | none => exact absurd rfl hnn
      | some b =>
        have hc0 : wr.cell? ⟨B, j * 2, none⟩ = some (.pointer (some ⟨b, 0, none⟩)) := hc0
        simp only at hc1
        clear hm hnn
        go_wp2_with fail
        refine (HUS.out _ _ _).mono ?_
        rintro e w3 ⟨rfl, hb⟩
        have HB3 := Lib.hid (HB.out.trans ((((HA.out _ _).trans (hb.mono (HA.out _ _).size)).mono HB.out.size)))
        clear hb
        go_wp2_with fail
        go_roundw
        case rel => exact ⟨j + 1, by omega, by go_num, HB3⟩
        case measure => simp [intOf]; omega
    · have hjn : j = n := by omega
      subst hjn
      have hlt' : ¬ ((j : Int) < j) := by omega
      go_wp2_with fail
      go_loopw [19] (fun i wr => ∃ k : Nat, k ≤ j ∧ i = .int .i64 k ∧ Hid (∀ i (h : i < ms.length), i < k → ms[i].2 = s) ∧ Hid (Below W.heap.size W wr)) (fun i _ => j - (intOf i).toNat)
      case atStart => exact ⟨0, by omega, rfl, fun k _ h => absurd h (by omega), HB.out⟩
      case round =>
        clear HB
        obtain ⟨k, hk, rfl, HK, HB⟩ := hrel
        by_cases hlt2 : k < j
        · have hk2 : (k : Int) < j := by omega
          have hkn : k < ms.length := by rw [← HN.out]; exact hlt2
          obtain ⟨hc0, hc1⟩ := HC.out wr k hkn HB.out
          have HEQ := Lib.hid (HE2.out)
          have HMM := Lib.hid (List.getElem_mem hkn)
          rcases hm : ms[k] with ⟨mp, z⟩
          have HM := Lib.hid hm
          rw [hm] at hc0 hc1
          obtain ⟨pp, hpp⟩ : ∃ pp, pp = MV.p (mp, z) := ⟨_, rfl⟩
          rw [← hpp] at hc0
          simp only at hc1
          clear hm hpp
          obtain ⟨w9, HW9⟩ : ∃ w9, w9 = wr.alloc (.cells #[.pointer pp, .int .i64 z] 27) := ⟨_, rfl⟩
          have HW9' := Lib.hid HW9
          have n1 : w9.cell? ⟨wr.heap.size, 1, none⟩ = some (.int .i64 z) := by rw [HW9]; exact HNEW.out _ _ _ _
          have hb9 : Below W.heap.size W w9 := by rw [HW9]; exact HB.out.trans ((HA.out _ _).mono HB.out.size)
          have HB9 := Lib.hid hb9
          have n2 := HS.out w9 hb9
          clear HW9 hb9
          go_upto_region 10 with fail
          rw [← HW9'.out]
          by_cases hz : z = s
          · subst hz
            have HK2 : Hid (∀ i (h : i < ms.length), i < k + 1 → ms[i].2 = z) := fun i h hi => by
              by_cases e : i = k
              · subst e; rw [HM.out]
              · exact HK.out i h (by omega)
            clear HM
            go_wp2_with fail
            go_quiet (fail)
            rename_i nq
            have HBn : Hid (Below W.heap.size W (World.drewN w9 nq)) := below_drewN HB9.out nq
            clear n1 n2
            generalize hw : World.drewN _ nq = w2 at HBn ⊢
            clear hw
            go_wp2_with fail
            go_roundw
            case rel => exact ⟨k + 1, by omega, by go_num, HK2, HBn⟩
            case measure => simp [intOf]; omega
          · have hz' : (z == s) = false := beq_eq_false_iff_ne.2 hz
            have HE3 : Hid (E = 2) := HE2.out ⟨ms[k], HMM.out, by rw [HM.out]; exact hz⟩
            clear HM hz
            go_wp2_with fail
            go_quiet (fail)
            rename_i nq
            have HBn : Hid (Below W.heap.size W (World.drewN w9 nq)) := below_drewN HB9.out nq
            clear n1 n2
            generalize hw : World.drewN _ nq = w2 at HBn ⊢
            clear hw
            go_wp2_with fail
            go_ret
            exact ⟨by rw [HE3.out]; rfl, HBn.out⟩
        · have hlt' : ¬ ((k : Int) < j) := by omega
          have HE3 : Hid (E = 0) := HE.out fun m hm => by
            obtain ⟨i, hi, rfl⟩ := List.getElem_of_mem hm
            exact HK.out i hi (by have := HN.out; omega)
          go_wp2_with fail
          go_ret
          exact ⟨by rw [HE3.out]; rfl, HB.out⟩
end Go.Proofs.Ytjbenhmpeceaeaa
namespace Go.Proofs.Ytjbenhmpeceaeaa
open Go Go.RowKit Go.Shelf Gs

attribute [local go_sem] Oper.semAt_some

set_option maxHeartbeats 1000000 in
theorem Equal_ne (p q : Option Addr) (s t : Int) (W : World) (hne : s ≠ t) : Calls Try.prog 32 #[.agg #[.pointer p, .int .i64 s], .agg #[.pointer q, .int .i64 t]] W fun e w' => e = .returned (.bool false) ∧ Below W.heap.size W w' := by
  have hne2 : (s == t) = false := beq_eq_false_iff_ne.2 hne
  have HB : Hid (∀ o o2 o3, Below W.heap.size W (((W.alloc o).alloc o2).alloc o3)) := fun o o2 o3 => (((Below.refl _ _).alloc (Nat.le_refl _) _).alloc (by simp) _).alloc (by simp; omega) _
  refine (callsIn_wide (n := 9)).1 ?_
  refine callsIn_of_wp_marks Try.func32 rfl trivial ?_ rfl
  simp only [Try.ntmps32, List.size_toArray, List.length_cons, List.length_nil, Nat.reduceAdd, Nat.reduceSub, Array.replicate_succ, Array.replicate_zero, List.push_toArray, List.append_toArray, List.nil_append, List.cons_append]
  gi_wp2
  refine ⟨.bool false, by simp [results, Try.results32, go_sem], rfl, HB.out _ _ _⟩
set_option maxRecDepth 100000 in
set_option maxHeartbeats 2000000 in
theorem Equal_un (q : Option Addr) (s : Int) (W : World) : Calls Try.prog 32 #[.agg #[.pointer none, .int .i64 s], .agg #[.pointer q, .int .i64 s]] W fun e w' => e = .returned (.bool true) ∧ Below W.heap.size W w' := by
  obtain ⟨w0, HW⟩ : ∃ w0, w0 = ((W.alloc (.cells #[.pointer none, .int .i64 s] 27)).alloc (.cells #[.pointer q, .int .i64 s] 27)).alloc (.cells #[.bool false] 4) := ⟨_, rfl⟩
  have hsz : w0.heap.size = W.heap.size + 1 + 1 + 1 := by rw [HW]; simp
  have hc : w0.cell? ⟨W.heap.size + 1 + 1, 0, none⟩ = some (.bool false) := by rw [HW]; exact World.cell?_alloc_at _ _ _ _ (by simp)
  have hf : w0.frozen? ⟨W.heap.size + 1 + 1, 0, none⟩ = false := by rw [HW]; exact World.frozen?_alloc_at _ _ _ _ (by simp)
  have hb : Below W.heap.size W w0 := by rw [HW]; exact (((Below.refl _ _).alloc (Nat.le_refl _) _).alloc (by simp) _).alloc (by simp; omega) _
  obtain ⟨w1, HW1⟩ : ∃ w1, w1 = w0.alloc (.cells #[.pointer none, .int .i64 s] 27) := ⟨_, rfl⟩
  have b1 : Below w0.heap.size w0 w1 := by rw [HW1]; exact (Below.refl _ _).alloc (Nat.le_refl _) _
  have e1 : w1.heap.size = w0.heap.size + 1 := by rw [HW1]; simp
  obtain ⟨q0, q1, q2, q3, q4⟩ := seq_cells w1 none 0 s
  have b2 := b1.trans (q4.mono b1.size)
  have hc2 := (b2.cell (p := ⟨W.heap.size + 1 + 1, 0, none⟩) (by show _ + 1 + 1 < _; omega)).trans hc
  have hf2 := (b2.frozen (p := ⟨W.heap.size + 1 + 1, 0, none⟩) (by show _ + 1 + 1 < _; omega)).trans hf
  have hb2 : Below W.heap.size W (seqW w1 none 0 s) := hb.trans (b2.mono hb.size)
  have HAL : Hid (CallsIn Fence.wide 8 Try.prog 58 #[.agg #[.pointer none, .int .i64 s]] w0 fun e w' => e = .returned (seqV w1.heap.size) ∧ w' = seqW w1 none 0 s) := callsIn_wide.2 (by rw [e1, HW1]; exact all_any none s w0)
  have hge : W.heap.size ≤ (seqW w1 none 0 s).heap.size := hb2.size
  have HSQ : Hid _ := seq_nil Fence.wide 8 trivial rfl trivial rfl w1.heap.size W.heap.size 0 s (seqW w1 none 0 s) (by rw [q3]; omega) q0 q1 q2
  have HW' := Lib.hid HW
  rw [hsz] at e1
  rw [e1] at HSQ HAL
  generalize seqW w1 none 0 s = w2 at *
  clear q0 q1 q2 q3 q4 b1 b2 HW hc hf hb HW1 e1 hsz
  refine (callsIn_wide (n := 9)).1 ?_
  refine callsIn_of_wp_marks Try.func32 rfl trivial ?_ rfl
  simp only [Try.ntmps32, List.size_toArray, List.length_cons, List.length_nil, Nat.reduceAdd, Nat.reduceSub, Array.replicate_succ, Array.replicate_zero, List.push_toArray, List.append_toArray, List.nil_append, List.cons_append]
  gi_wp2_with (refine ⟨trivial, ?_⟩; gi_at_call 58; rw [← HW'.out]; refine HAL.out.mono ?_; rintro e w' ⟨rfl, rfl⟩)
  refine wpIn_rangeFunc_ownH rfl (by omega) (gf := 72) (lb := #[.pointer (some ⟨W.heap.size + 1 + 1 + 1 + 1, 0, none⟩), .pointer (some ⟨W.heap.size + 1 + 1 + 1 + 1 + 1, 0, none⟩), .pointer (some ⟨W.heap.size + 1 + 1 + 1 + 1 + 1 + 1, 0, none⟩)]) rfl trivial (enters_of Try.func72 (by kernel_rfl) rfl)
    HSQ.out belowK_t (belowK_b hge) (Below.refl _ _) (fun _ => rfl)
    (fun pre W' => (W'.cell? ⟨W.heap.size + 1 + 1, 0, none⟩ = some (.bool false) ∧ W'.frozen? ⟨W.heap.size + 1 + 1, 0, none⟩ = false) ∧ Below W.heap.size W W')
    (fun _ _ _ => False)
    (OwnFrom.and (Own.from (fun s A B row hs hg hr => ⟨cell_kept hs.1 hg hr, (frozen_kept hs.1 hg hr).trans hs.2⟩) _) (ownFrom_below (Nat.le_refl _) hge))
    (fun _ _ _ _ _ hs _ _ => hs)
    ⟨⟨hc2, hf2⟩, hb2⟩ (fun _ _ _ => True) (fun _ _ _ _ _ _ _ _ _ => trivial) ?assign ?body ?done ?stop
  case assign =>
    rintro l pre ⟨xa, xb, xc⟩ W' K ⟨⟨h1, h2⟩, h3⟩ hK
    unfold encR
    gi_wp2
    exact hK _ _ ((KeepsOthers.alloc _ _).from _) ((Below.refl _ W').alloc h3.size _) ⟨⟨cell_kept h1 (World.grownBy_alloc W' _ none) (fun r e => by cases e), (frozen_kept h1 (World.grownBy_alloc W' _ none) (fun r e => by cases e)).trans h2⟩, h3.alloc h3.size _⟩ trivial
  case body =>
    intro l pre x a' W' _ _ _ _ hlt
    exact absurd hlt (Nat.not_lt_zero _)
  case done =>
    rintro D ys W' hD hys ⟨⟨h1, h2⟩, h3⟩ hK
    gi_wp2
    have hK2 := (KeepsOthers.setCell W' ⟨W.heap.size + 1 + 1, 0, none⟩ (.bool true)).same D _ hK rfl
    have hcell := cell_kept (World.cell?_setCell_same _ _ (.bool true) h1) (grownBy_putObj' _ D (.deferred none)) (fun r e => by cases e; exact ⟨_, hK2, rfl⟩)
    refine ⟨by simp, .inl ⟨_, _, rfl, run_takeDeferred hK2, ?_⟩⟩
    refine ⟨.bool true, by simp [results, Try.results32, go_sem, hcell], rfl, ?_⟩
    exact (h3.setCell (p := ⟨W.heap.size + 1 + 1, 0, none⟩) (by show _ ≤ W.heap.size + 1 + 1; omega) _).trans (belowK_b (w := W) (Nat.le_refl _) _ D _ _ (by omega) hK2 rfl rfl)
  case stop =>
    rintro D c pre W' _ h _
    exact h.elim
end Go.Proofs.Ytjbenhmpeceaeaa
namespace Go.Proofs.Ytjbenhmpeceaeaa
open Go Go.RowKit Go.Shelf Gs

attribute [local go_sem] Oper.semAt_some

/-- of lists that cover the same pieces, one whose runs are all among the other's is the other -/
theorem fits_sub {f g : Int → Int} : ∀ {l k : List R} {a b : Int}, Fits f a l b → Fits g a k b → (∀ r ∈ l, r ∈ k) → l = k
  | [], k, a, b, h, h', _ => by
    have h : a = b := h
    subst h
    cases k with
    | nil => rfl
    | cons s k => have := h'.lt; omega
  | r :: l, k, a, b, h, h', hs => by
    have hlt := h.lt
    cases k with
    | nil => have h' : a = b := h'; omega
    | cons s k =>
      have hr := hs r (List.mem_cons_self ..)
      have e1 := h.1; have s1 := h'.1; have s2 := h'.2.1
      have hrs : r = s := by
        rcases List.mem_cons.1 hr with h1 | h1
        · exact h1
        · exfalso
          have : ∀ {k : List R} {c : Int}, Fits g c k b → ∀ x ∈ k, c ≤ x.lo := by
            intro k
            induction k with
            | nil => intro c _ x hx; cases hx
            | cons y k ih =>
              intro c hc x hx
              rcases List.mem_cons.1 hx with h2 | h2
              · subst h2; have := hc.1; omega
              · have := ih hc.2.2.2 x h2; have := hc.1; have := hc.2.1; omega
          have := this h'.2.2.2 r h1
          omega
      subst hrs
      have hno : ∀ {l : List R} {c : Int}, Fits f c l b → ∀ x ∈ l, c ≤ x.lo := by
        intro l
        induction l with
        | nil => intro c _ x hx; cases hx
        | cons y k ih =>
          intro c hc x hx
          rcases List.mem_cons.1 hx with h2 | h2
          · subst h2; have := hc.1; omega
          · have := ih hc.2.2.2 x h2; have := hc.1; have := hc.2.1; omega
      rw [fits_sub h.2.2.2 h'.2.2.2 fun x hx => by
        rcases List.mem_cons.1 (hs x (List.mem_cons_of_mem _ hx)) with h2 | h2
        · exfalso
          have q1 := hno h.2.2.2 x hx
          have q2 := h.2.1
          rw [h2] at q1
          omega
        · exact h2]
/-- two runs that hold a piece are one -/
theorem fits_one {f : Int → Int} : ∀ {l : List R} {a b : Int} {r s : R} {p : Int}, Fits f a l b → r ∈ l → s ∈ l → r.lo ≤ p → p < r.hi → s.lo ≤ p → p < s.hi → r = s
  | [], _, _, _, _, _, _, hr, _, _, _, _, _ => by cases hr
  | x :: l, a, b, r, s, p, h, hr, hs, r1, r2, s1, s2 => by
    have hno : ∀ {l : List R} {c : Int}, Fits f c l b → ∀ x ∈ l, c ≤ x.lo := by
      intro l
      induction l with
      | nil => intro c _ x hx; cases hx
      | cons y k ih =>
        intro c hc x hx
        rcases List.mem_cons.1 hx with h2 | h2
        · subst h2; have := hc.1; omega
        · have := ih hc.2.2.2 x h2; have := hc.1; have := hc.2.1; omega
    rcases List.mem_cons.1 hr with h1 | h1
    · rcases List.mem_cons.1 hs with h2 | h2
      · rw [h1, h2]
      · have := hno h.2.2.2 s h2; rw [h1] at r2; omega
    · rcases List.mem_cons.1 hs with h2 | h2
      · have := hno h.2.2.2 r h1; rw [h2] at s2; omega
      · exact fits_one h.2.2.2 h1 h2 r1 r2 s1 s2
theorem fits_find {f : Int → Int} : ∀ {l : List R} {a b : Int} {p : Int}, Fits f a l b → a ≤ p → p < b → ∃ r ∈ l, r.lo ≤ p ∧ p < r.hi
  | [], a, b, p, h, h1, h2 => by have h : a = b := h; omega
  | x :: l, a, b, p, h, h1, h2 => by
    have e := h.1
    by_cases hp : p < x.hi
    · exact ⟨x, List.mem_cons_self .., by omega, hp⟩
    · obtain ⟨r, hr, h3⟩ := fits_find h.2.2.2 (by omega) h2
      exact ⟨r, List.mem_cons_of_mem _ hr, h3⟩
theorem fits_rng {f : Int → Int} : ∀ {l : List R} {a b : Int}, Fits f a l b → ∀ r ∈ l, a ≤ r.lo ∧ r.lo < r.hi ∧ r.hi ≤ b
  | [], _, _, _, _, hr => by cases hr
  | x :: l, a, b, h, r, hr => by
    have h1 := h.1; have h2 := h.2.1; have h3 := h.2.2.2.le
    rcases List.mem_cons.1 hr with e | e
    · subst e; omega
    · have := fits_rng h.2.2.2 r e; omega
set_option maxHeartbeats 1000000 in
/-- the iterator's contract, where a round is told that its run is one of the range's -/
theorem seqP_stops {f : Int → Int} {t : T} {p : Option Addr} {a b lo hi : Int} {B n₀ n : Nat} {w : World} (C : List R) (hC : clip lo hi t.L = C) (hB : B + 1 + 1 < w.heap.size) (hn : n₀ ≤ w.heap.size)
    (c0 : w.cell? ⟨B, 0, none⟩ = some (.pointer p)) (c1 : w.cell? ⟨B + 1, 0, none⟩ = some (.int .i64 lo)) (c2 : w.cell? ⟨B + 1 + 1, 0, none⟩ = some (.int .i64 hi)) (ht : IsTB n₀ w t p) (hc : Gs.Can f a t.L b) :
    SeqStopsK Fence.wide n Try.prog 72 #[.pointer (some ⟨B, 0, none⟩), .pointer (some ⟨B + 1, 0, none⟩), .pointer (some ⟨B + 1 + 1, 0, none⟩)] (fun x : { r : R // r ∈ C } => encR x.1) (Below n₀) (fun ys => ys.map (·.1) = C) (fun q => q.map (·.1) <+: C) C.length w := fun l J Jx W hW hJ hJx hY h0 => by
  have hp := visitP_in (fun r => r ∈ C) f l n₀ C.length (fun pre W => ∃ us : List { r : R // r ∈ C }, us.map (·.1) = pre ∧ J us W) (fun pre W => ∃ us : List { r : R // r ∈ C }, us.map (·.1) = pre ∧ Jx us W)
    (fun s W W' ⟨us, e, hs⟩ hg => ⟨us, e, hJ us W W' none hs hg (fun r e => by cases e)⟩) (fun s W W' ⟨us, e, hs⟩ hg => ⟨us, e, hJx us W W' none hs hg (fun r e => by cases e)⟩)
    (fun m pre x W1 ⟨us, e, hj⟩ hl hx => YieldAt.mono (YieldAt.deep rfl m (hY us ⟨x, hx⟩ W1 hj (by rw [← e, List.length_map] at hl; exact hl))) fun e' W2 h => h.elim (fun ⟨he, hj2, hk⟩ => .inl ⟨he, ⟨us ++ [⟨x, hx⟩], by rw [List.map_append, e]; rfl, hj2⟩, hk⟩) fun ⟨he, hj2⟩ => .inr ⟨he, ⟨us ++ [⟨x, hx⟩], by rw [List.map_append, e]; rfl, hj2⟩⟩)
    t (n - 1) p a b lo hi [] W (ht.below (hW.mono hn)) (Nat.le_trans hn hW.size) hc ⟨[], rfl, h0⟩ (by simp [hC]) (fun x hx => by rw [hC] at hx; exact hx)
  rw [hC] at hp
  have k0 : W.cell? ⟨B, 0, none⟩ = some (.pointer p) := (hW.cell (p := ⟨B, 0, none⟩) (by show B < _; omega)).trans c0
  have k1 : W.cell? ⟨B + 1, 0, none⟩ = some (.int .i64 lo) := (hW.cell (p := ⟨B + 1, 0, none⟩) (by show B + 1 < _; omega)).trans c1
  have k2 : W.cell? ⟨B + 1 + 1, 0, none⟩ = some (.int .i64 hi) := (hW.cell (p := ⟨B + 1 + 1, 0, none⟩) (by show B + 1 + 1 < _; omega)).trans c2
  clear c0 c1 c2 hW hY hC
  refine callsIn_of_wp Try.func72 rfl trivial ?_ rfl
  simp only [Try.ntmps72, List.size_toArray, List.length_cons, List.length_nil, Nat.reduceAdd, Nat.reduceSub, Array.replicate_succ, Array.replicate_zero, List.push_toArray, List.append_toArray, List.nil_append, List.cons_append]
  gi_wp2_with fail
  refine ⟨trivial, (fun h => by cases h), hp.mono ?_⟩
  rintro e W1 (⟨rfl, ⟨us, h1, h2⟩, _⟩ | ⟨rfl, q, hq, us, h1, h2⟩)
  · gi_wp2_with fail
    go_end0
    exact ⟨⟨_, rfl⟩, .inl ⟨us, by simpa using h1, h2⟩⟩
  · gi_wp2_with fail
    go_end0
    exact ⟨⟨_, rfl⟩, .inr ⟨us, by rw [h1]; simpa using hq, h2⟩⟩
theorem IsM.tree {f : Int → Int} {size : Int} {W : World} {p : Option Addr} (h : IsM f size W p) : ∃ t, IsT W t (.pointer p) ∧ Gs.Can f 0 t.L size := by
  obtain ⟨t, t1, t2, _⟩ := h.tr
  exact ⟨t, t1, t2⟩
set_option maxRecDepth 100000 in
set_option maxHeartbeats 2000000 in
theorem Equal_any {f g : Int → Int} {size : Int} {W : World} {p q : Option Addr} (h : IsM f size W p) (h' : IsM g size W q) :
    ∃ La Lb, Gs.Can f 0 La size ∧ Gs.Can g 0 Lb size ∧ Calls Try.prog 32 #[.agg #[.pointer p, .int .i64 size], .agg #[.pointer q, .int .i64 size]] W fun e w' => ∃ b, e = .returned (.bool b) ∧ Hid (b = true ↔ La = Lb) ∧ Below W.heap.size W w' := by
  have hs := h.lo
  obtain ⟨ta, a1, a2⟩ := IsM.tree h
  obtain ⟨tb, b1, b2⟩ := IsM.tree h'
  have hcl := Gs.Can.same (clip_can a2 (Int.le_refl 0) (by omega) (Int.le_refl size)) a2
  refine ⟨ta.L, tb.L, a2, b2, ?_⟩
  obtain ⟨w0, HW⟩ : ∃ w0, w0 = ((W.alloc (.cells #[.pointer p, .int .i64 size] 27)).alloc (.cells #[.pointer q, .int .i64 size] 27)).alloc (.cells #[.bool false] 4) := ⟨_, rfl⟩
  have hsz : w0.heap.size = W.heap.size + 1 + 1 + 1 := by rw [HW]; simp
  have hc : Boxed w0 (W.heap.size + 1 + 1) 4 (.bool false) := by
    have := Boxed.new ((W.alloc (.cells #[.pointer p, .int .i64 size] 27)).alloc (.cells #[.pointer q, .int .i64 size] 27)) 4 (.bool false)
    rw [← HW] at this
    simpa using this
  have hq : w0.heap[W.heap.size + 1]? = some (.cells #[.pointer q, .int .i64 size] 27 (0, 0)) := by
    rw [HW, Below.heap_alloc _ _ _ (by simp)]
    have := World.alloc_heap_new (W.alloc (.cells #[.pointer p, .int .i64 size] 27)) (.cells #[.pointer q, .int .i64 size] 27)
    rwa [World.size_alloc] at this
  have hb : Below W.heap.size W w0 := by rw [HW]; exact (((Below.refl _ _).alloc (Nat.le_refl _) _).alloc (by simp) _).alloc (by simp; omega) _
  obtain ⟨w1, HW1⟩ : ∃ w1, w1 = w0.alloc (.cells #[.pointer p, .int .i64 size] 27) := ⟨_, rfl⟩
  have c1 : Below w0.heap.size w0 w1 := by rw [HW1]; exact (Below.refl _ _).alloc (Nat.le_refl _) _
  have e1 : w1.heap.size = w0.heap.size + 1 := by rw [HW1]; simp
  obtain ⟨q0, q1, q2, q3, q4⟩ := seq_cells w1 p 0 size
  have c2 := c1.trans (q4.mono c1.size)
  have hc2 : Boxed (seqW w1 p 0 size) (W.heap.size + 1 + 1) 4 (.bool false) := (c2.block _ (by omega)).trans hc
  have hq2 : (seqW w1 p 0 size).heap[W.heap.size + 1]? = some (.cells #[.pointer q, .int .i64 size] 27 (0, 0)) := (c2.block _ (by omega)).trans hq
  have hb2 : Below W.heap.size W (seqW w1 p 0 size) := hb.trans (c2.mono hb.size)
  have HAL : Hid (CallsIn Fence.wide 8 Try.prog 58 #[.agg #[.pointer p, .int .i64 size]] w0 fun e w' => e = .returned (seqV w1.heap.size) ∧ w' = seqW w1 p 0 size) := callsIn_wide.2 (by rw [e1, HW1]; exact all_any p size w0)
  have hge : W.heap.size ≤ (seqW w1 p 0 size).heap.size := hb2.size
  have HSQ := Lib.hid (seqP_stops (n := 8) (n₀ := W.heap.size) (lo := 0) (hi := size) ta.L hcl (by rw [q3]; omega) hge q0 q1 q2 ((IsT.tb a1).below hb2) a2)
  have HATB : Hid (∀ W' x, Below W.heap.size W W' → 0 ≤ x → x < size → CallsIn Fence.wide 6 Try.prog 45 #[.pointer q, .int .i64 x] W' fun e w' => ∃ lo hi tag, e = .returned (.agg #[.int .i64 lo, .int .i64 hi, .int .i64 tag]) ∧ Hid ((⟨lo, hi, tag⟩ : R) ∈ tb.L ∧ lo ≤ x ∧ x < hi) ∧ Below W'.heap.size W' w') := fun W' x hB x1 x2 => callsIn_wide.2 ((at_any g 0 size tb q W' x (IsT.below hB b1) b2 x1 x2).mono fun e w' ⟨l, lo, hi, tag, k, he, hk, hB⟩ => ⟨lo, hi, tag, he, ⟨by rw [hk.out.1]; simp, hk.out.2⟩, hB⟩)
  have HFA := Lib.hid a2
  have HFB := Lib.hid b2
  have HW' := Lib.hid HW
  rw [hsz] at e1
  rw [e1] at HSQ HAL
  generalize seqW w1 p 0 size = w2 at *
  clear h h' hs q0 q1 q2 q3 q4 c1 c2 HW hc hq hb HW1 e1 hsz a1 a2 b1 b2 hcl
  refine (callsIn_wide (n := 9)).1 ?_
  refine callsIn_of_wp_marks Try.func32 rfl trivial ?_ rfl
  simp only [Try.ntmps32, List.size_toArray, List.length_cons, List.length_nil, Nat.reduceAdd, Nat.reduceSub, Array.replicate_succ, Array.replicate_zero, List.push_toArray, List.append_toArray, List.nil_append, List.cons_append]
  gi_wp2_with (refine ⟨trivial, ?_⟩; gi_at_call 58; rw [← HW'.out]; refine HAL.out.mono ?_; rintro e w' ⟨rfl, rfl⟩)
  refine wpIn_rangeFunc_ownH rfl (by omega) (gf := 72) (lb := #[.pointer (some ⟨W.heap.size + 1 + 1 + 1 + 1, 0, none⟩), .pointer (some ⟨W.heap.size + 1 + 1 + 1 + 1 + 1, 0, none⟩), .pointer (some ⟨W.heap.size + 1 + 1 + 1 + 1 + 1 + 1, 0, none⟩)]) rfl trivial (enters_of Try.func72 (by kernel_rfl) rfl)
    HSQ.out belowK_t (belowK_b hge) (Below.refl _ _) (fun _ => rfl)
    (fun pre W' => ((Boxed W' (W.heap.size + 1 + 1) 4 (.bool false) ∧ W'.heap[W.heap.size + 1]? = some (.cells #[.pointer q, .int .i64 size] 27 (0, 0))) ∧ ∀ r ∈ pre, r.1 ∈ tb.L) ∧ Below W.heap.size W W')
    (fun c pre' W' => (c = .ret ∧ Boxed W' (W.heap.size + 1 + 1) 4 (.bool false) ∧ ∃ r ∈ pre', r.1 ∉ tb.L) ∧ Below W.heap.size W W')
    (OwnFrom.and (Own.from (fun s A B row hs hg hr => ⟨⟨boxed_own (W.heap.size + 1 + 1) 4 (fun (_ : Unit) => .bool false) () A B row hs.1.1 hg hr, (hg.block _ (Array.getElem?_eq_some_iff.1 hs.1.2).1 (fun e => by obtain ⟨o, ho, hc⟩ := hr _ e.symm; rw [hs.1.2] at ho; cases ho; cases hc)).trans hs.1.2⟩, hs.2⟩) _) (ownFrom_below (Nat.le_refl _) hge))
    (fun c => OwnFrom.and (Own.from (fun s A B row hs hg hr => ⟨hs.1, boxed_own (W.heap.size + 1 + 1) 4 (fun (_ : Unit) => .bool false) () A B row hs.2.1 hg hr, hs.2.2⟩) _) (ownFrom_below (Nat.le_refl _) hge))
    ⟨⟨⟨hc2, hq2⟩, fun r hr => by cases hr⟩, hb2⟩
    (fun x a' W' => ∃ Bx, W.heap.size + 1 + 1 < Bx ∧ Rb W' Bx x.1 ∧ a' = { tmps := #[.agg #[.pointer p, .int .i64 size], .agg #[.pointer q, .int .i64 size], .pointer (some ⟨W.heap.size, 0, none⟩), .pointer (some ⟨W.heap.size + 1, 0, none⟩), .pointer (some ⟨W.heap.size + 1 + 1, 0, none⟩), .pointer (some ⟨Bx, 0, none⟩), .pointer (some ⟨W.heap.size, 1, none⟩), .int .i64 size, .pointer (some ⟨W.heap.size + 1, 1, none⟩), .int .i64 size, .bool false, .agg #[.pointer p, .int .i64 size], seqV (W.heap.size + 1 + 1 + 1 + 1), .agg #[.int .i64 x.1.lo, .int .i64 x.1.hi, .int .i64 x.1.tag], undef, undef, undef, undef, undef, undef, undef], defers := [] })
    (fun x a' => Own.from (fun s A B row hs hg hr => by
      obtain ⟨Bx, h1, h2, h3⟩ := hs
      exact ⟨Bx, h1, Rb.own Bx x.1 () A B row h2 hg hr, h3⟩) _) ?assign ?body ?done ?stop
  case assign =>
    rintro l pre ⟨⟨xa, xb, xc⟩, hxm⟩ W' K ⟨⟨⟨g1, g2⟩, g3⟩, g4⟩ hK
    unfold encR
    gi_wp2
    exact hK _ _ ((KeepsOthers.alloc _ _).from _) ((Below.refl _ W').alloc g4.size _) ⟨⟨⟨g1.alloc _, ((Below.refl W'.heap.size W').alloc (Nat.le_refl _) _).block _ (Nat.lt_trans (Nat.lt_succ_self _) g1.lt) |>.trans g2⟩, g3⟩, g4.alloc g4.size _⟩ ⟨W'.heap.size, g1.lt, Rb.new W' ⟨xa, xb, xc⟩, rfl⟩
  case body =>
    rintro l pre ⟨⟨xa, xb, xc⟩, hxm⟩ a' W' hl ⟨r, hr⟩ ⟨⟨⟨g1, g2⟩, g3⟩, g4⟩ ⟨Bx, hBx, bX, rfl⟩ hlt
    have hrg := fits_rng HFA.out.1 _ hxm
    simp only at hrg
    have hc0 := g1.cell; have hf0 := g1.frozen
    have k0 : W'.cell? ⟨W.heap.size + 1, 0, none⟩ = some (.pointer q) := by simp [World.cell?, g2]
    obtain ⟨r0, r1, r2⟩ := bX.cells
    simp only at r0 r1 r2
    obtain ⟨⟨ya, yb, yc⟩, hym, hy1, hy2⟩ := fits_find (p := xa) HFB.out.1 hrg.1 (by omega)
    simp only at hy1 hy2
    have HAT : Hid (CallsIn Fence.wide 6 Try.prog 45 #[.pointer q, .int .i64 xa] W'.drew fun e w' => e = .returned (.agg #[.int .i64 ya, .int .i64 yb, .int .i64 yc]) ∧ Below W'.drew.heap.size W'.drew w') := (HATB.out W'.drew xa g4.drew hrg.1 (by omega)).mono fun e w' ⟨lo, hi, tag, he, hm, hB⟩ => by
      have := fits_one HFB.out.1 hm.out.1 hym hm.out.2.1 hm.out.2.2 hy1 hy2
      cases this
      exact ⟨he, hB⟩
    have HXC : Hid (∀ w5, Below W'.drew.heap.size W'.drew w5 → w5.cell? ⟨Bx, 0, none⟩ = some (.int .i64 xa) ∧ w5.cell? ⟨Bx, 1, none⟩ = some (.int .i64 xb) ∧ w5.cell? ⟨Bx, 2, none⟩ = some (.int .i64 xc)) := fun w5 h => ⟨(h.cell (p := ⟨Bx, 0, none⟩) bX.lt).trans r0, (h.cell (p := ⟨Bx, 1, none⟩) bX.lt).trans r1, (h.cell (p := ⟨Bx, 2, none⟩) bX.lt).trans r2⟩
    have HNEXT : Hid ((⟨xa, xb, xc⟩ : R) = ⟨ya, yb, yc⟩ → ∀ r ∈ pre ++ [(⟨⟨xa, xb, xc⟩, hxm⟩ : { r : R // r ∈ ta.L })], r.1 ∈ tb.L) := fun e r hr => by
      rcases List.mem_append.1 hr with h1 | h1
      · exact g3 r h1
      · rw [List.mem_singleton.1 h1]; show (⟨xa, xb, xc⟩ : R) ∈ tb.L; rw [e]; exact hym
    have HSTOP : Hid ((⟨xa, xb, xc⟩ : R) ≠ ⟨ya, yb, yc⟩ → ∃ r ∈ pre ++ [(⟨⟨xa, xb, xc⟩, hxm⟩ : { r : R // r ∈ ta.L })], r.1 ∉ tb.L) := fun e => ⟨⟨⟨xa, xb, xc⟩, hxm⟩, List.mem_append_right _ (List.mem_singleton.2 rfl), fun h => e (fits_one HFB.out.1 h hym (Int.le_refl _) hrg.2.1 hy1 hy2)⟩
    have hG1 := Lib.hid g1; have hG2 := Lib.hid g2; have hG4 := Lib.hid g4
    have HBX : Hid (∀ w5, Below W'.drew.heap.size W'.drew w5 → Boxed w5 (W.heap.size + 1 + 1) 4 (.bool false)) := fun w5 h => (h.block _ g1.lt).trans g1
    by_cases m1 : xa = ya
    · by_cases m2 : xb = yb
      · by_cases m3 : xc = yc
        · subst m1; subst m2; subst m3
          gi_wp2_with fail
          gi_region_with (first | (refine ⟨trivial, ?_⟩; with_reducible refine (CallsIn.inRound l HAT.out).mono ?_; clear HAT; rintro e w5 ⟨rfl, hb5⟩; obtain ⟨s0, s1, s2⟩ := HXC.out _ hb5; obtain ⟨b0, b1⟩ : _ ∧ _ := ⟨(HBX.out _ hb5).cell, (HBX.out _ hb5).frozen⟩) | fail)
          all_goals
            have HB5 := Lib.hid hb5
            clear s0 s1 s2 hb5
            go_simp
            gi_wp2_with fail
            exact ⟨⟨HB5.out.size, fun j o _ hj _ => (HB5.out.block j (Array.getElem?_eq_some_iff.1 hj).1).trans hj⟩, (Below.refl W'.heap.size W').drew.trans HB5.out |>.mono hG4.out.size, ⟨⟨HBX.out _ HB5.out, (HB5.out.block _ (Array.getElem?_eq_some_iff.1 hG2.out).1).trans hG2.out⟩, HNEXT.out (by first | rfl | trivial)⟩, hG4.out.trans ((Below.refl W'.heap.size W').drew.trans HB5.out |>.mono hG4.out.size)⟩
        · have n3 : (xc == yc) = false := beq_eq_false_iff_ne.2 m3
          have HNE : Hid ((⟨xa, xb, xc⟩ : R) ≠ ⟨ya, yb, yc⟩) := fun e => m3 (by injection e)
          subst m1; subst m2
          clear m3
          gi_wp2_with fail
          gi_region_with (first | (refine ⟨trivial, ?_⟩; with_reducible refine (CallsIn.inRound l HAT.out).mono ?_; clear HAT; rintro e w5 ⟨rfl, hb5⟩; obtain ⟨s0, s1, s2⟩ := HXC.out _ hb5; obtain ⟨b0, b1⟩ : _ ∧ _ := ⟨(HBX.out _ hb5).cell, (HBX.out _ hb5).frozen⟩) | fail)
          all_goals
            have HB5 := Lib.hid hb5
            clear s0 s1 s2 hb5
            go_simp
            gi_wp2_with fail
            have hK5 : KeepsFrom w'.heap.size W' w5 := ⟨HB5.out.size, fun j o _ hj _ => (HB5.out.block j (Array.getElem?_eq_some_iff.1 hj).1).trans hj⟩
            have hI5 := hG4.out.trans ((Below.refl W'.heap.size W').drew.trans HB5.out |>.mono hG4.out.size)
            first
            | exact ⟨hK5, ⟨rfl, HBX.out _ HB5.out, HSTOP.out HNE.out⟩, hI5⟩
            | exact ⟨hK5.trans ((KeepsOthers.setCell w5 _ _).from _), ⟨rfl, (HBX.out _ HB5.out).set _, HSTOP.out HNE.out⟩, hI5.setCell (p := ⟨W.heap.size + 1 + 1, 0, none⟩) (by show _ ≤ W.heap.size + 1 + 1; omega) _⟩
      · have n2 : (xb == yb) = false := beq_eq_false_iff_ne.2 m2
        have HNE : Hid ((⟨xa, xb, xc⟩ : R) ≠ ⟨ya, yb, yc⟩) := fun e => m2 (by injection e)
        subst m1
        clear m2
        gi_wp2_with fail
        gi_region_with (first | (refine ⟨trivial, ?_⟩; with_reducible refine (CallsIn.inRound l HAT.out).mono ?_; clear HAT; rintro e w5 ⟨rfl, hb5⟩; obtain ⟨s0, s1, s2⟩ := HXC.out _ hb5; obtain ⟨b0, b1⟩ : _ ∧ _ := ⟨(HBX.out _ hb5).cell, (HBX.out _ hb5).frozen⟩) | fail)
        all_goals
          have HB5 := Lib.hid hb5
          clear s0 s1 s2 hb5
          go_simp
          gi_wp2_with fail
          have hK5 : KeepsFrom w'.heap.size W' w5 := ⟨HB5.out.size, fun j o _ hj _ => (HB5.out.block j (Array.getElem?_eq_some_iff.1 hj).1).trans hj⟩
          have hI5 := hG4.out.trans ((Below.refl W'.heap.size W').drew.trans HB5.out |>.mono hG4.out.size)
          first
          | exact ⟨hK5, ⟨rfl, HBX.out _ HB5.out, HSTOP.out HNE.out⟩, hI5⟩
          | exact ⟨hK5.trans ((KeepsOthers.setCell w5 _ _).from _), ⟨rfl, (HBX.out _ HB5.out).set _, HSTOP.out HNE.out⟩, hI5.setCell (p := ⟨W.heap.size + 1 + 1, 0, none⟩) (by show _ ≤ W.heap.size + 1 + 1; omega) _⟩
    · have n1 : (xa == ya) = false := beq_eq_false_iff_ne.2 m1
      have HNE : Hid ((⟨xa, xb, xc⟩ : R) ≠ ⟨ya, yb, yc⟩) := fun e => m1 (by injection e)
      clear m1
      gi_wp2_with fail
      gi_region_with (first | (refine ⟨trivial, ?_⟩; with_reducible refine (CallsIn.inRound l HAT.out).mono ?_; clear HAT; rintro e w5 ⟨rfl, hb5⟩; obtain ⟨s0, s1, s2⟩ := HXC.out _ hb5; obtain ⟨b0, b1⟩ : _ ∧ _ := ⟨(HBX.out _ hb5).cell, (HBX.out _ hb5).frozen⟩) | fail)
      all_goals
        have HB5 := Lib.hid hb5
        clear s0 s1 s2 hb5
        go_simp
        gi_wp2_with fail
        have hK5 : KeepsFrom w'.heap.size W' w5 := ⟨HB5.out.size, fun j o _ hj _ => (HB5.out.block j (Array.getElem?_eq_some_iff.1 hj).1).trans hj⟩
        have hI5 := hG4.out.trans ((Below.refl W'.heap.size W').drew.trans HB5.out |>.mono hG4.out.size)
        first
        | exact ⟨hK5, ⟨rfl, HBX.out _ HB5.out, HSTOP.out HNE.out⟩, hI5⟩
        | exact ⟨hK5.trans ((KeepsOthers.setCell w5 _ _).from _), ⟨rfl, (HBX.out _ HB5.out).set _, HSTOP.out HNE.out⟩, hI5.setCell (p := ⟨W.heap.size + 1 + 1, 0, none⟩) (by show _ ≤ W.heap.size + 1 + 1; omega) _⟩
  case done =>
    rintro D ys W' hD hys ⟨⟨⟨g1, g2⟩, g3⟩, g4⟩ hK
    have hcell := g1.cell; have hfr := g1.frozen
    have HEQ : Hid (ta.L = tb.L) := fits_sub HFA.out.1 HFB.out.1 fun r hr => by
      rw [← hys] at hr
      obtain ⟨x, hx, rfl⟩ := List.mem_map.1 hr
      exact g3 x hx
    have HD := Lib.hid hD; have HK := Lib.hid hK; have H4 := Lib.hid g4; have H1 := Lib.hid g1.cell
    clear hys g1 g2 g3 g4 hK hD
    gi_wp2
    have hK2 := (KeepsOthers.setCell W' ⟨W.heap.size + 1 + 1, 0, none⟩ (.bool true)).same D _ HK.out rfl
    have hcell2 := cell_kept (World.cell?_setCell_same _ _ (.bool true) H1.out) (grownBy_putObj' _ D (.deferred none)) (fun r e => by cases e; exact ⟨_, hK2, rfl⟩)
    refine ⟨by simp, .inl ⟨_, _, rfl, run_takeDeferred hK2, ?_⟩⟩
    refine ⟨.bool true, by simp [results, Try.results32, go_sem, hcell2], true, rfl, ⟨fun _ => HEQ.out, fun _ => rfl⟩, ?_⟩
    exact (H4.out.setCell (p := ⟨W.heap.size + 1 + 1, 0, none⟩) (by show _ ≤ W.heap.size + 1 + 1; omega) _).trans (belowK_b (w := W) (Nat.le_refl _) _ D _ _ (by have := HD.out; have := hge; omega) hK2 rfl rfl)
  case stop =>
    rintro D c pre' W' hD hSp ⟨⟨rfl, g1, g2⟩, g4⟩ hK
    have HNE : Hid (¬ ta.L = tb.L) := fun e => by
      obtain ⟨r, _, hr⟩ := g2
      exact hr (by rw [← e]; exact r.2)
    have HD := Lib.hid hD; have HK := Lib.hid hK; have H4 := Lib.hid g4; have H1 := Lib.hid g1.cell
    clear hSp g1 g2 g4 hK hD
    gi_wp2
    have hcell2 := cell_kept H1.out (grownBy_putObj' _ D (.deferred none)) (fun r e => by cases e; exact ⟨_, HK.out, rfl⟩)
    refine ⟨by simp, .inl ⟨_, _, rfl, run_takeDeferred HK.out, ?_⟩⟩
    refine ⟨.bool false, by simp [results, Try.results32, go_sem, hcell2], false, rfl, ⟨fun h => (by cases h), fun h => absurd h HNE.out⟩, ?_⟩
    exact H4.out.trans (belowK_b (w := W) (Nat.le_refl _) _ D _ _ (by have := HD.out; have := hge; omega) HK.out rfl rfl)
end Go.Proofs.Ytjbenhmpeceaeaa
