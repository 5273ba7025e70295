/- Contracts and lemmas (several texts merged into one). -/
import Derived.Test.YtahgfggcpmnnaaaTKup1
import Derived.Test.YtahgfggcpmnnaaaZa
import Derived.BigQuiet
import Derived.Test.YtahgfggcpmnnaaaQe
import Derived.Test.YtahgfggcpmnnaaaZd
import Derived.Test.YtahgfggcpmnnaaaRows
import Derived.ProofKit
import Derived.OpenShut
import Derived.Carry
import Derived.Deep.Slices
import Derived.Deep.Fields
import Derived.ChangeSame
import Derived.Test.YtahgfggcpmnnaaaQf
import Derived.Maps.AppendAt
import Derived.Test.YtahgfggcpmnnaaaJn
import Derived.Test.YtahgfggcpmnnaaaZs
namespace Go.Proofs.Ytahgfggcpmnnaaa
open Go Go.RowKit Gs

theorem cb_in {f : Int → Int} {l m : List R} {r : R} {size x k : Int} (h : Gs.Can f 0 (l ++ r :: m) size) (h1 : r.lo ≤ x) (h2 : x ≤ r.hi) : cb x k (l ++ r :: m) = cnt k l + (if r.tag = k then x - r.lo else 0) := by
  obtain ⟨q1, q2, q3, q4, _, _⟩ := h.mid
  by_cases e : x = r.lo
  · rw [cb_left h (by omega), cb_high x k q1.1 (by omega)]
    split <;> omega
  · rw [cb_right h (by omega), cb_low x k q2.1 (by omega)]
    split <;> omega
theorem FindOf.same {f : Int → Int} {size tag k : Int} {L : List R} {x y : Int} {b c : Bool} (hL : Gs.Can f 0 L size) (h1 : FindOf f size tag k L x b) (h2 : FindOf f size tag k L y c) : x = y ∧ b = c := by
  rcases h1 with ⟨rfl, a1, a2, a3, a4, a5, a6, a7⟩ | ⟨rfl, rfl, a1⟩
  · rcases h2 with ⟨rfl, b1, b2, b3, b4, b5, b6, b7⟩ | ⟨rfl, rfl, b1⟩
    · exact ⟨find_one hL.1 a4 a5 b4 b5 a6 b6 a7 b7, rfl⟩
    · rcases b1 with b1 | b1 | b1
      · rw [a1] at b1; cases b1
      · omega
      · omega
  · rcases h2 with ⟨rfl, b1, b2, b3, b4, b5, b6, b7⟩ | ⟨rfl, rfl, b1⟩
    · rcases a1 with a1 | a1 | a1
      · rw [b1] at a1; cases a1
      · omega
      · omega
    · exact ⟨rfl, rfl⟩
set_option maxHeartbeats 2000000 in
/-- the document's Count, of a usable map, a valid range, and a tag -/
theorem RCount_ok {f : Int → Int} {size lo hi tag : Int} {base : Nat} {v : Value} {L : List R} {W : World} (hrs : IsRs base W v L) (hL : Gs.Can f 0 L size) (hx : Ctx f 0 size) (hne : 0 < L.length) (hlen : L.length ≤ 4096) (h1 : 0 ≤ lo) (h2 : lo ≤ hi) (h3 : hi ≤ size) (ht : isT tag = true) :
    Calls Try.prog 23 #[.agg #[.int .i64 size, v], .int .i64 lo, .int .i64 hi, .int .i64 tag] W fun e w' => e = .returned (.tuple #[.int .i64 (cnt tag (clip lo hi L)), .int .i64 0]) ∧ Below W.heap.size W w' := by
  have HRS := Lib.hid hrs
  obtain ⟨a, c, rfl, -⟩ := hrs
  obtain ⟨n, hn⟩ : ∃ n, n = L.length := ⟨_, rfl⟩
  rw [← hn] at HRS hne ⊢
  obtain ⟨w0, HW⟩ : ∃ w0, w0 = W.alloc (.cells #[.int .i64 size, .slice a n c] 33) := ⟨_, rfl⟩
  have hm : M2 W.heap.size (.int .i64 size) (.slice a n c) w0 := by rw [HW]; exact M2.new _ _ _ _
  have hb : Below W.heap.size W w0 := by rw [HW]; exact (Below.refl _ _).alloc (Nat.le_refl _) _
  obtain ⟨K, hK⟩ : ∃ K, K = clip lo hi L := ⟨_, rfl⟩
  have hcan := clip_can hL h1 h2 h3
  rw [← hK] at hcan ⊢
  have HRU : Hid (Calls Try.prog 21 #[.agg #[.int .i64 size, .slice a n c], .int .i64 lo, .int .i64 hi] w0 fun e w' => ∃ b c, e = .returned (.tuple #[.slice b K.length c, .int .i64 0]) ∧ Hid (IsRs w0.heap.size w' (.slice b K.length c) K) ∧ Below w0.heap.size w0 w') := by
    rw [hK]
    exact (RRuns_ok (HRS.out.below hb) hL (by omega) hlen h1 h2 h3).mono fun e w' ⟨v', he, hr, hB⟩ => by
      obtain ⟨b, c, rfl, h⟩ := hr.out.1
      exact ⟨b, c, he, ⟨b, c, rfl, h⟩, hB⟩
  have HTT : Hid (∀ W', Calls Try.prog 51 #[.int .i64 tag] W' fun e w' => e = .returned (.bool true) ∧ W' = w') := fun W' => by
    have := RTag_any tag W'
    rwa [ht] at this
  have HKL : Hid (K.length ≤ 4096) := by rw [hK]; exact Nat.le_trans (clip_len _ _ _) hlen
  have HKB : Hid (∀ r ∈ K, Bd1 r) := hcan.1.bd (hx.sub h1 h3)
  have HM := Lib.hid hm; have HB := Lib.hid hb; have HW' := Lib.hid HW
  have HLEN : Hid (∀ j, 0 ≤ cnt tag (K.take j) ∧ cnt tag (K.take j) ≤ 1099511627776 * 4096) := fun j => by
    have h := cnt_bd (k := tag) (l := K.take j) (fun r hr => HKB.out r (List.mem_of_mem_take hr))
    have h2 : (K.take j).length ≤ 4096 := Nat.le_trans (by rw [List.length_take]; omega) HKL.out
    refine ⟨h.1, Int.le_trans h.2 ?_⟩
    omega
  have k0 := HM.out.c0; have k1 := HM.out.c1
  clear hm hb HW hL hn hlen h1 h2 h3 hK hcan ht hne hx HRS
  obtain ⟨m, hmm⟩ : ∃ m, m = K.length := ⟨_, rfl⟩
  rw [← hmm] at HRU HKL
  have HMM := Lib.hid hmm
  have hmb : m ≤ 4096 := HKL.out
  clear hmm
  go_enter Try.func23, Try.ntmps23
  go_upto_region 1 with fail
  rw [← HW'.out]
  go_wp2_with fail
  refine HRU.out.mono ?_
  rintro e w1 ⟨b, d, rfl, HR1, hb⟩
  have HB1 := Lib.hid (HB.out.trans (hb.mono HB.out.size))
  clear hb k0 k1
  go_wp2_with fail
  refine (HTT.out _).mono ?_
  rintro e w2 ⟨rfl, rfl⟩
  go_wp2_with fail
  go_loopw [12, 13] (fun nv iv wr => ∃ (j : Nat) (nn : Int), j ≤ m ∧ iv = .int .i64 j ∧ nv = .int .i64 nn ∧ Hid (nn = cnt tag (K.take j)) ∧ Hid (Below w1.heap.size w1 wr)) (fun _ i _ => m - (intOf i).toNat)
  case atStart => exact ⟨0, 0, by omega, rfl, rfl, rfl, Below.refl _ _⟩
  case round =>
    obtain ⟨j, nn, hj, rfl, rfl, HNN, HBr⟩ := hrel
    by_cases hlt : j < m
    · have hj2 : (j : Int) < m := by omega
      have hj0 : (0 : Int) ≤ (j : Int) := by omega
      have hjl : j < K.length := by have := HMM.out; omega
      have hat := (HR1.out.below HBr.out)
      rw [HMM.out] at hj2
      obtain ⟨G, rfl, c0, c1, c2⟩ := (show IsRs _ wr (.slice b m d) K from hat).at' hjl
      have hbd := HKB.out K[j] (List.getElem_mem hjl)
      have HTK : Hid (cnt tag (K.take (j + 1)) = cnt tag (K.take j) + if K[j].tag = tag then K[j].hi - K[j].lo else 0) := by
        show _ = _
        rw [List.take_add_one, List.getElem?_eq_getElem hjl]
        show cnt tag (K.take j ++ [K[j]]) = _
        rw [cnt_append]
        show _ + ((if K[j].tag = tag then K[j].hi - K[j].lo else 0) + 0) = _
        omega
      rw [← HMM.out] at hj2
      clear hat
      generalize K[j] = r at *
      obtain ⟨ra, rb, rc⟩ := r
      simp only at c0 c1 c2
      obtain ⟨q1, q2, q3, q4, q5⟩ := hbd
      simp only at q1 q2 q3 q4 q5
      have hNN := HLEN.out j
      rw [← HNN.out] at hNN
      have hw1 : IntKind.i64.wrap (rb - ra) = rb - ra := IntWalk.i64_in _ (by omega)
      have hw2 : IntKind.i64.wrap (nn + (rb - ra)) = nn + (rb - ra) := IntWalk.i64_in _ (by omega)
      by_cases ht : rc = tag
      · have HT2 : Hid (nn + (rb - ra) = cnt tag (K.take (j + 1))) := by
          show _ = _
          rw [HTK.out, HNN.out]
          show _ = _ + if rc = tag then rb - ra else 0
          rw [if_pos ht]
        clear HTK
        have HE := Lib.hid ht
        have hbe : (rc == tag) = true := by rw [ht]; exact beq_self_eq_true _
        clear ht
        go_wp2_with fail
        go_quiet (fail)
        rename_i nq
        have HBn : Hid (Below w1.heap.size w1 (World.drewN wr nq)) := below_drewN HBr.out nq
        clear c0 c1 c2
        generalize hw : World.drewN _ nq = w2 at HBn ⊢
        clear hw
        go_wp2_with fail
        go_roundw
        case rel => exact ⟨j + 1, nn + (rb - ra), by omega, by go_num, by first | rfl | go_num, HT2.out, HBn.out⟩
        case measure => simp [intOf]; omega
      · have HT2 : Hid (nn = cnt tag (K.take (j + 1))) := by
          show _ = _
          rw [HTK.out, HNN.out]
          show _ = _ + if rc = tag then rb - ra else 0
          rw [if_neg ht]
          omega
        clear HTK
        have hbe : (rc == tag) = false := beq_eq_false_iff_ne.2 ht
        go_wp2_with fail
        go_roundw
        case rel => exact ⟨j + 1, nn, by omega, by go_num, rfl, HT2.out, HBr.out⟩
        case measure => simp [intOf]; omega
    · have hj2 : ¬ (j : Int) < m := by omega
      have HF : Hid (nn = cnt tag K) := by
        have := HNN.out
        rw [List.take_of_length_le (by have := HMM.out; omega)] at this
        exact this
      have HB9 := Lib.hid (HB1.out.trans (HBr.out.mono HB1.out.size))
      go_wp2_with fail
      refine bodyPost_ret (v := .tuple #[.int .i64 nn, .int .i64 0]) (by simp [results, Try.results23, go_sem]) rfl ?_
      exact ⟨by rw [HF.out], HB9.out⟩
/-- Runs refuses -/
theorem RCount_no {size lo hi tag e0 : Int} {v : Value} {W : World} (he : e0 ≠ 0) (hr : ∀ W', Below W.heap.size W W' → Calls Try.prog 21 #[.agg #[.int .i64 size, v], .int .i64 lo, .int .i64 hi] W' fun e w' => e = .returned (.tuple #[.slice none 0 0, .int .i64 e0]) ∧ Below W'.heap.size W' w') :
    Calls Try.prog 23 #[.agg #[.int .i64 size, v], .int .i64 lo, .int .i64 hi, .int .i64 tag] W fun e w' => e = .returned (.tuple #[.int .i64 0, .int .i64 e0]) ∧ Below W.heap.size W w' := by
  obtain ⟨w0, HW⟩ : ∃ w0, w0 = W.alloc (.cells #[.int .i64 size, v] 33) := ⟨_, rfl⟩
  have hm : M2 W.heap.size (.int .i64 size) v w0 := by rw [HW]; exact M2.new _ _ _ _
  have hb : Below W.heap.size W w0 := by rw [HW]; exact (Below.refl _ _).alloc (Nat.le_refl _) _
  have HRU := Lib.hid (hr w0 hb)
  have HB := Lib.hid hb; have HW' := Lib.hid HW
  have k0 := hm.c0; have k1 := hm.c1
  have hne : (e0 == 0) = false := beq_eq_false_iff_ne.2 he
  clear hm hb HW hr he
  go_enter Try.func23, Try.ntmps23
  go_upto_region 1 with fail
  rw [← HW'.out]
  go_wp2_with fail
  refine HRU.out.mono ?_
  rintro e w1 ⟨rfl, hb⟩
  have HB1 := Lib.hid (HB.out.trans (hb.mono HB.out.size))
  clear hb k0 k1
  go_wp2_with fail
  refine bodyPost_ret (v := .tuple #[.int .i64 0, .int .i64 e0]) (by simp [results, Try.results23, go_sem]) rfl ?_
  exact ⟨rfl, HB1.out⟩
/-- the tag is none -/
theorem RCount_tag {f : Int → Int} {size lo hi tag : Int} {base : Nat} {v : Value} {L : List R} {W : World} (hrs : IsRs base W v L) (hL : Gs.Can f 0 L size) (hne : 0 < L.length) (hlen : L.length ≤ 4096) (h1 : 0 ≤ lo) (h2 : lo ≤ hi) (h3 : hi ≤ size) (ht : isT tag = false) :
    Calls Try.prog 23 #[.agg #[.int .i64 size, v], .int .i64 lo, .int .i64 hi, .int .i64 tag] W fun e w' => e = .returned (.tuple #[.int .i64 0, .int .i64 2]) ∧ Below W.heap.size W w' := by
  obtain ⟨w0, HW⟩ : ∃ w0, w0 = W.alloc (.cells #[.int .i64 size, v] 33) := ⟨_, rfl⟩
  have hm : M2 W.heap.size (.int .i64 size) v w0 := by rw [HW]; exact M2.new _ _ _ _
  have hb : Below W.heap.size W w0 := by rw [HW]; exact (Below.refl _ _).alloc (Nat.le_refl _) _
  have HRU := Lib.hid (RRuns_ok (hrs.below hb) hL hne hlen h1 h2 h3)
  have HTT : Hid (∀ W', Calls Try.prog 51 #[.int .i64 tag] W' fun e w' => e = .returned (.bool false) ∧ W' = w') := fun W' => by
    have := RTag_any tag W'
    rwa [ht] at this
  have HB := Lib.hid hb; have HW' := Lib.hid HW
  have k0 := hm.c0; have k1 := hm.c1
  clear hm hb HW hrs hL hne hlen h1 h2 h3 ht
  go_enter Try.func23, Try.ntmps23
  go_upto_region 1 with fail
  rw [← HW'.out]
  go_wp2_with fail
  refine HRU.out.mono ?_
  rintro e w1 ⟨v', rfl, -, hb⟩
  have HB1 := Lib.hid (HB.out.trans (hb.mono HB.out.size))
  clear hb k0 k1
  go_wp2_with fail
  refine (HTT.out _).mono ?_
  rintro e w2 ⟨rfl, rfl⟩
  go_wp2_with fail
  refine bodyPost_ret (v := .tuple #[.int .i64 0, .int .i64 2]) (by simp [results, Try.results23, go_sem]) rfl ?_
  exact ⟨rfl, HB1.out⟩
set_option maxHeartbeats 2000000 in
/-- the document's Find -/
theorem RFind_any {f : Int → Int} {size tag k : Int} {base : Nat} {v : Value} {L : List R} {W : World} (hrs : IsRs base W v L) (hL : Gs.Can f 0 L size) (hx : Ctx f 0 size) (hlen : L.length ≤ 4096) (hk : k ≤ 9223372036854775807) :
    Calls Try.prog 25 #[.agg #[.int .i64 size, v], .int .i64 tag, .int .i64 k] W fun e w' => ∃ x is, e = .returned (.tuple #[.int .i64 x, .bool is]) ∧ Hid (FindOf f size tag k L x is) ∧ Below W.heap.size W w' := by
  have HRS := Lib.hid hrs
  obtain ⟨a, c, rfl, -⟩ := hrs
  obtain ⟨n, hn⟩ : ∃ n, n = L.length := ⟨_, rfl⟩
  rw [← hn] at HRS ⊢
  have HN := Lib.hid hn
  obtain ⟨w0, HW⟩ : ∃ w0, w0 = W.alloc (.cells #[.int .i64 size, .slice a n c] 33) := ⟨_, rfl⟩
  have hm : M2 W.heap.size (.int .i64 size) (.slice a n c) w0 := by rw [HW]; exact M2.new _ _ _ _
  have hb : Below W.heap.size W w0 := by rw [HW]; exact (Below.refl _ _).alloc (Nat.le_refl _) _
  have HM := Lib.hid hm; have HB := Lib.hid hb; have HW' := Lib.hid HW; have HL := Lib.hid hL; have HX := Lib.hid hx
  have HKB : Hid (∀ r ∈ L, Bd1 r) := hL.1.bd hx
  have hnb : n ≤ 4096 := by omega
  have k0 := HM.out.c0; have k1 := HM.out.c1
  clear hm hb HW hL hn hlen hx
  by_cases hneg : k < 0
  · have HF : Hid (FindOf f size tag k L 0 false) := .inr ⟨rfl, rfl, .inr (.inl hneg)⟩
    go_enter Try.func25, Try.ntmps25
    go_upto_region 1 with fail
    rw [← HW'.out]
    go_wp2_with fail
    refine bodyPost_ret (v := .tuple #[.int .i64 0, .bool false]) (by simp [results, Try.results25, go_sem]) rfl ?_
    exact ⟨0, false, rfl, HF, HB.out⟩
  · have hk0 : 0 ≤ k := by omega
    have HK0 : Hid (0 ≤ k ∧ k ≤ 9223372036854775807) := ⟨hk0, hk⟩
    go_enter Try.func25, Try.ntmps25
    go_upto_region 1 with fail
    rw [← HW'.out]
    clear k0 k1
    go_wp2_with fail
    clear hneg hk0 hk
    go_loopw [2, 8] (fun kv iv wr => ∃ (j : Nat) (kk : Int), j ≤ n ∧ iv = .int .i64 j ∧ kv = .int .i64 kk ∧ Hid (kk = k - cnt tag (L.take j) ∧ 0 ≤ kk) ∧ Hid (M2 W.heap.size (.int .i64 size) (.slice a n c) wr) ∧ Hid (Below W.heap.size W wr)) (fun _ i _ => n - (intOf i).toNat)
    case atStart => exact ⟨0, k, by omega, rfl, rfl, ⟨by show k = k - 0; omega, HK0.out.1⟩, HM.out, HB.out⟩
    case round =>
      obtain ⟨j, kk, hj, rfl, rfl, HKK, HMr, HBr⟩ := hrel
      have k0 := HMr.out.c0; have k1 := HMr.out.c1
      by_cases hlt : j < n
      · have hj2 : (j : Int) < n := by omega
        have hjl : j < L.length := by rw [← HN.out]; exact hlt
        obtain ⟨G, rfl, c0, c1, c2⟩ := (HRS.out.below HBr.out).at' hjl
        have hbd := HKB.out L[j] (List.getElem_mem hjl)
        have HAT := Lib.hid (fits_at HL.out.1 j hjl)
        have HSP : Hid (L = L.take j ++ L[j] :: L.drop (j + 1)) := by
          show _ = _
          rw [← List.drop_eq_getElem_cons hjl, List.take_append_drop]
        have HTK : Hid (cnt tag (L.take (j + 1)) = cnt tag (L.take j) + if L[j].tag = tag then L[j].hi - L[j].lo else 0) := by
          show _ = _
          rw [List.take_add_one, List.getElem?_eq_getElem hjl]
          show cnt tag (L.take j ++ [L[j]]) = _
          rw [cnt_append]
          show _ + ((if L[j].tag = tag then L[j].hi - L[j].lo else 0) + 0) = _
          omega
        have HC0 : Hid (0 ≤ cnt tag (L.take j) ∧ 0 ≤ cnt tag (L.drop (j + 1))) := ⟨(cnt_bd (k := tag) (l := L.take j) (fun r hr => HKB.out r (List.mem_of_mem_take hr))).1, (cnt_bd (k := tag) (l := L.drop (j + 1)) (fun r hr => HKB.out r (List.mem_of_mem_drop hr))).1⟩
        generalize L[j] = r at *
        obtain ⟨ra, rb, rc⟩ := r
        simp only at c0 c1 c2
        obtain ⟨q1, q2, q3, q4, q5⟩ := hbd
        simp only at q1 q2 q3 q4 q5
        have hkk := HKK.out.2
        have hkt : kk ≤ 9223372036854775807 := by have := HKK.out.1; have := HC0.out.1; have := HK0.out; omega
        have hw1 : IntKind.i64.wrap (rb - ra) = rb - ra := IntWalk.i64_in _ (by omega)
        have hw2 : IntKind.i64.wrap (kk - (rb - ra)) = kk - (rb - ra) := IntWalk.i64_in _ (by omega)
        obtain ⟨wx, HWX⟩ : ∃ wx, wx = wr.alloc (.cells #[.int .i64 ra, .int .i64 rb, .int .i64 rc] 64) := ⟨_, rfl⟩
        have bx : Below wr.heap.size wr wx := by rw [HWX]; exact (Below.refl _ _).alloc (Nat.le_refl _) _
        have hrb : Rb wx wr.heap.size ⟨ra, rb, rc⟩ := by rw [HWX]; exact Rb.new wr ⟨ra, rb, rc⟩
        obtain ⟨r0, r1, r2⟩ := hrb.cells
        simp only at r0 r1 r2
        have HMx := Lib.hid (HMr.out.next bx)
        have HBx := Lib.hid (HBr.out.trans (bx.mono HBr.out.size))
        have HWX' := Lib.hid HWX
        clear HWX bx hrb
        go_upto_region 7 with fail
        rw [← HWX'.out]
        clear c0 c1 c2 k0 k1
        by_cases ht : rc = tag
        · subst ht
          by_cases hin : kk < rb - ra
          · have hw3 : IntKind.i64.wrap (ra + kk) = ra + kk := IntWalk.i64_in _ (by omega)
            have HF : Hid (FindOf f size rc k L (ra + kk) true) := by
              obtain ⟨a1, a2, a3, a4⟩ := HAT.out
              simp only at a1 a2 a3 a4
              have hc : cnt rc L = cnt rc (L.take j) + ((rb - ra) + cnt rc (L.drop (j + 1))) := by
                conv => lhs; rw [HSP.out]
                rw [cnt_append]
                show _ + ((if rc = rc then rb - ra else 0) + _) = _
                rw [if_pos rfl]
              have hb := cb_in (l := L.take j) (r := ⟨ra, rb, rc⟩) (m := L.drop (j + 1)) (x := ra + kk) (k := rc) (by rw [← HSP.out]; exact HL.out) (by show ra ≤ _; omega) (by show _ ≤ rb; omega)
              rw [← HSP.out] at hb
              have hb2 : cb (ra + kk) rc L = cnt rc (L.take j) + kk := by
                rw [hb]
                show _ + (if rc = rc then ra + kk - ra else 0) = _
                rw [if_pos rfl]
                omega
              have := HKK.out.1; have := HC0.out
              exact .inl ⟨rfl, decide_eq_true ⟨q4, q5⟩, HK0.out.1, by omega, by omega, by omega, a4 _ (by omega) (by omega), by omega⟩
            clear HTK
            go_wp2_with fail
            refine bodyPost_ret (v := .tuple #[.int .i64 (ra + kk), .bool true]) (by simp [results, Try.results25, go_sem]) rfl ?_
            exact ⟨ra + kk, .inr ⟨rfl, HF, HBx.out⟩⟩
          · have HT2 : Hid (kk - (rb - ra) = k - cnt rc (L.take (j + 1)) ∧ 0 ≤ kk - (rb - ra)) := by
              refine ⟨?_, by omega⟩
              rw [HTK.out, HKK.out.1]
              show _ = k - (_ + if rc = rc then rb - ra else 0)
              rw [if_pos rfl]; omega
            clear HTK
            go_wp2_with fail
            go_roundw
            case rel => exact ⟨j + 1, kk - (rb - ra), by omega, by go_num, by first | rfl | go_num, HT2.out, HMx.out, HBx.out⟩
            case measure => simp [intOf]; omega
        · have HT2 : Hid (kk = k - cnt tag (L.take (j + 1)) ∧ 0 ≤ kk) := by
            refine ⟨?_, HKK.out.2⟩
            rw [HTK.out, HKK.out.1]
            show _ = k - (_ + if rc = tag then rb - ra else 0)
            rw [if_neg ht]; omega
          clear HTK
          have hbe : (rc == tag) = false := beq_eq_false_iff_ne.2 ht
          go_wp2_with fail
          go_roundw
          case rel => exact ⟨j + 1, kk, by omega, by go_num, rfl, HT2.out, HMx.out, HBx.out⟩
          case measure => simp [intOf]; omega
      · have hj2 : ¬ (j : Int) < n := by omega
        have HF : Hid (FindOf f size tag k L 0 false) := by
          have h1 := HKK.out.1
          rw [List.take_of_length_le (by have := HN.out; omega)] at h1
          have := HKK.out.2
          exact .inr ⟨rfl, rfl, .inr (.inr (by omega))⟩
        go_wp2_with fail
        refine bodyPost_ret (v := .tuple #[.int .i64 0, .bool false]) (by simp [results, Try.results25, go_sem]) rfl ?_
        exact ⟨0, .inl ⟨rfl, HF, HBr.out⟩⟩
end Go.Proofs.Ytahgfggcpmnnaaa
namespace Go.Proofs.Ytahgfggcpmnnaaa
open Go Go.RowKit Gs

theorem cnt_full {g : Int → Int} {k : Int} : ∀ {l : List R} {a b : Int}, Fits g a l b → (cnt k l = b - a ↔ ∀ x, a ≤ x → x < b → g x = k)
  | [], a, b, h => by
    have h : a = b := h
    subst h
    exact ⟨fun _ x h1 h2 => absurd h2 (by omega), fun _ => by show 0 = _; omega⟩
  | r :: l, a, b, h => by
    have ih := cnt_full (k := k) h.2.2.2
    have hbd := cb_bd 0 k h.2.2.2
    obtain ⟨h1, h2, h3, h4⟩ := h
    have hle := h4.le
    show (if r.tag = k then r.hi - r.lo else 0) + cnt k l = _ ↔ _
    constructor
    · intro he x x1 x2
      by_cases ht : r.tag = k
      · rw [if_pos ht] at he
        by_cases hx : x < r.hi
        · rw [h3 x (by omega) hx, ht]
        · exact ih.1 (by omega) x (by omega) x2
      · rw [if_neg ht] at he
        omega
    · intro hall
      have ht : r.tag = k := by rw [← h3 a (by omega) (by omega)]; exact hall a (Int.le_refl _) (by omega)
      rw [if_pos ht, ih.2 fun x x1 x2 => hall x (by omega) x2]
      omega
theorem gS_all {g : Int → Int} {lo hi fr tt : Int} (h : ∀ x, lo ≤ x → x < hi → g x = fr) : gS g lo hi fr tt false = put g lo hi tt := by
  funext x
  show (if lo ≤ x ∧ x < hi ∧ (false = true ∨ g x = fr) then tt else g x) = if lo ≤ x ∧ x < hi then tt else g x
  by_cases hx : lo ≤ x ∧ x < hi
  · rw [if_pos hx, if_pos ⟨hx.1, hx.2, .inr (h x hx.1 hx.2)⟩]
  · rw [if_neg hx, if_neg fun h => hx ⟨h.1, h.2.1⟩]
/-- what the document's Apply answers -/
def RApP (size : Int) (r : Int × (Int → Int)) (s : Int) (v : Value) (e : Int) (W : World) : Prop :=
  e = r.1 ∧ ((e ≠ 0 ∧ s = 0 ∧ v = .slice none 0 0) ∨ (e = 0 ∧ s = size ∧ ∃ L, Gs.Can r.2 0 L size ∧ IsRs 0 W v L))
/-- what one change makes of the document's map -/
theorem ru_chK {f : Int → Int} {size : Int} {c : Ch} {L : List R} {B : Nat} {s : Int} {v : Value} {n e : Int} {W : World} (h0 : chE size f c = 0) (hg : gS f c.lo c.hi c.fr c.tt false = put f c.lo c.hi c.tt) (h : RU f size c.lo c.hi c.fr c.tt false L B s v n e W) :
    e = chK size f c ∧ ((e ≠ 0 ∧ s = 0 ∧ v = .slice none 0 0) ∨ (e = 0 ∧ s = size ∧ ∃ L, Gs.Can (put f c.lo c.hi c.tt) 0 L size ∧ IsRs 0 W v L ∧ L.length ≤ 4096)) := by
  obtain ⟨L', hL, h⟩ := h
  rw [hg] at hL
  rcases h with ⟨h1, rfl, rfl, rfl, rfl⟩ | ⟨h1, rfl, rfl, h2, _⟩
  · refine ⟨?_, .inl ⟨by decide, rfl, rfl⟩⟩
    unfold chK
    rw [if_neg (fun h => h h0), if_pos ⟨L', hL, h1⟩]
  · refine ⟨?_, .inr ⟨rfl, rfl, L', hL, h2.mono (Nat.zero_le _), h1⟩⟩
    unfold chK
    rw [if_neg (fun h => h h0), if_neg]
    rintro ⟨K, hK, hk⟩
    have := hK.same hL
    subst this
    omega
set_option maxRecDepth 100000 in
set_option maxHeartbeats 8000000 in
theorem RApply_any {f : Int → Int} {size : Int} {base : Nat} {W : World} {v cv : Value} {L : List R} {l : List Ch} (hrs : IsRs base W v L) (hL : Gs.Can f 0 L size) (hx : Ctx f 0 size) (h1 : 1 ≤ size) (hlen : L.length ≤ 4096) (hl : IsCs W cv l) (hn : l.length ≤ 100000) :
    Calls Try.prog 35 #[.agg #[.int .i64 size, v], cv] W fun e w' => ∃ s v' e2, e = .returned (.tuple #[.agg #[.int .i64 s, v'], .int .i64 e2]) ∧ Hid (RApP size (apF size f l) s v' e2 w') ∧ Below W.heap.size W w' := by
  have HCS := Lib.hid hl
  have hne : 0 < L.length := by
    rcases fits_cut hL.1 with ⟨_, e⟩ | ⟨r, k, rfl⟩
    · omega
    · simp
  obtain ⟨ao, c, rfl, -⟩ := hl
  have hrs0 := hrs
  obtain ⟨va, vc, rfl, -⟩ := hrs0
  obtain ⟨vn, hvn⟩ : ∃ vn, vn = L.length := ⟨_, rfl⟩
  rw [← hvn] at hrs hne ⊢
  obtain ⟨n, hnn⟩ : ∃ n, n = l.length := ⟨_, rfl⟩
  have HN := Lib.hid hnn
  rw [← hnn] at hn HCS ⊢
  obtain ⟨w0, HW⟩ : ∃ w0, w0 = (W.alloc (.cells #[.int .i64 size, .slice va vn vc] 33)).alloc (.cells #[.int .i64 0, .slice none 0 0] 33) := ⟨_, rfl⟩
  have hb : Below W.heap.size W w0 := by rw [HW]; exact (alloc_below _ _).alloc (by simp) _
  have n1 : Bx W.heap.size [.int .i64 size, .slice va vn vc] w0 := by rw [HW]; exact (Bx.new W [.int .i64 size, .slice va vn vc] 33 (by simp)).next (alloc_below _ _)
  have n2 : Bx (W.heap.size + 1) [.int .i64 0, .slice none 0 0] w0 := by
    have := Bx.new (W.alloc (.cells #[.int .i64 size, .slice va vn vc] 33)) [.int .i64 0, .slice none 0 0] 33 (by simp)
    rw [World.size_alloc, ← HW] at this
    exact this
  have HUS : Hid (∀ W', Calls Try.prog 42 #[.agg #[.int .i64 size, .slice va vn vc]] W' fun e w' => e = .returned (.bool true) ∧ Below W'.heap.size W' w') := fun W' => by
    have := RUsable_any size va vn vc W'
    rwa [decide_eq_true hne] at this
  have HRS := Lib.hid ((hrs.mono (Nat.zero_le _)).below hb)
  have HST : Hid (Gs.Can f 0 L size ∧ Ctx f 0 size ∧ L.length ≤ 4096) := ⟨hL, hx, hlen⟩
  have HSZ : Hid (1 ≤ size ∧ size ≤ 1099511627776) := ⟨h1, hx.2.1⟩
  have H1 := Lib.hid n1; have H2 := Lib.hid n2; have HB := Lib.hid hb; have HW' := Lib.hid HW
  obtain ⟨m0, m1, -, -⟩ := n1.c2
  clear hnn hb n1 n2 HW hrs hL hx h1 hlen hne hvn
  go_enter Try.func35, Try.ntmps35
  go_upto_region 1 with fail
  rw [← HW'.out]
  go_wp2_with fail
  refine (HUS.out _).mono ?_
  rintro e w1 ⟨rfl, hb⟩
  have G1 := Lib.hid (H1.out.next hb); have G2 := Lib.hid (H2.out.next hb); have HB1 := Lib.hid (HB.out.trans (hb.mono HB.out.size)); have HRS1 := Lib.hid (HRS.out.below hb)
  clear hb m0 m1 H1 H2 HB HRS HW' HUS
  go_wp2_with fail
  go_loopg [6] n (fun k i wr => ∃ (j : Nat) (va : Option Addr) (vn vc : Nat) (g : Int → Int) (L : List R), Hid (k + j = n) ∧ i = .int .i64 j ∧ Hid (apF size f l = apF size g (l.drop j)) ∧ Hid (IsRs 0 wr (.slice va vn vc) L) ∧ Hid (Gs.Can g 0 L size ∧ Ctx g 0 size ∧ L.length ≤ 4096) ∧ Hid (Bx W.heap.size [.int .i64 size, .slice va vn vc] wr) ∧ Hid (Bx (W.heap.size + 1) [.int .i64 0, .slice none 0 0] wr) ∧ Hid (Below W.heap.size W wr))
  case atStart => exact ⟨0, va, vn, vc, f, L, by show _ = _; omega, rfl, rfl, HRS1, HST, G1, G2, HB1⟩
  case round =>
    obtain ⟨j, va, vn, vc, g, L, HK, rfl, HAP, HRS, HST, F1, F2, HBr⟩ := hrel
    clear HRS1 G1 G2 HB1
    have hjn : j ≤ n := by have := HK.out; omega
    by_cases hlt : j < n
    · have hlt2 : (j : Int) < n := by omega
      have hjl : j < l.length := by have := HN.out; omega
      obtain ⟨B, o, rfl, g0, g1, g2, g3⟩ := (HCS.out.below HBr.out).at' hjl
      have HDR : Hid (l.drop j = l[j] :: l.drop (j + 1)) := List.drop_eq_getElem_cons hjl
      generalize l[j] = a at *
      obtain ⟨alo, ahi, afr, att⟩ := a
      simp only at g0 g1 g2 g3
      obtain ⟨w2, HW2⟩ : ∃ w2, w2 = wr.alloc (.cells #[.int .i64 alo, .int .i64 ahi, .int .i64 afr, .int .i64 att] 107) := ⟨_, rfl⟩
      have b2 : Below wr.heap.size wr w2 := by rw [HW2]; exact alloc_below _ _
      have n3 : Bx wr.heap.size [.int .i64 alo, .int .i64 ahi, .int .i64 afr, .int .i64 att] w2 := by rw [HW2]; exact Bx.new wr [.int .i64 alo, .int .i64 ahi, .int .i64 afr, .int .i64 att] 107 (by simp)
      have K1 := Lib.hid (F1.out.next b2); have K2 := Lib.hid (F2.out.next b2); have K3 := Lib.hid n3
      have HB2 := Lib.hid (HBr.out.trans (b2.mono HBr.out.size))
      have HRS2 := Lib.hid (HRS.out.below b2)
      have HSR : Hid (W.heap.size + 1 < wr.heap.size) := F2.out.lt
      have HW2' := Lib.hid HW2
      have HERR : Hid (∀ e0 : Int, e0 ≠ 0 → chE size g ⟨alo, ahi, afr, att⟩ = e0 → ∀ W', RApP size (apF size f l) 0 (.slice none 0 0) e0 W') := fun e0 h0 he W' => by
        have hk : chK size g ⟨alo, ahi, afr, att⟩ = e0 := by unfold chK; rw [if_pos (by rw [he]; exact h0), he]
        show RApP _ (apF _ _ _) _ _ _ _
        rw [HAP.out, HDR.out, apF_err (by rw [hk]; exact h0), hk]
        exact ⟨rfl, .inl ⟨h0, rfl, rfl⟩⟩
      have HBF : Hid (∀ W' x y, Below W.heap.size W W' → Below W.heap.size W ((W'.setCell ⟨W.heap.size + 1, 0, none⟩ x).setCell ⟨W.heap.size + 1, 1, none⟩ y)) := fun W' x y h => below_put h (by omega) _ _
      clear HW2 n3 b2
      go_upto_region 7 with fail
      rw [← HW2'.out]
      clear g0 g1 g2 g3 HW2'
      obtain ⟨m0, m1, -, -⟩ := K1.out.c2
      have c0 := (K3.out.c 0 _ rfl).1; have c1 := (K3.out.c 1 _ rfl).1; have c2 := (K3.out.c 2 _ rfl).1; have c3 := (K3.out.c 3 _ rfl).1
      by_cases h1 : 0 ≤ alo
      · by_cases h2 : alo < ahi
        · by_cases h3 : ahi ≤ size
          · have HV : Hid (0 ≤ alo ∧ alo < ahi ∧ ahi ≤ size) := ⟨h1, h2, h3⟩
            by_cases ht : isT afr = true
            · have HT1 : Hid (∀ W', Calls Try.prog 51 #[.int .i64 afr] W' fun e w' => e = .returned (.bool true) ∧ W' = w') := fun W' => by
                have := RTag_any afr W'
                rwa [ht] at this
              by_cases ht2 : isT att = true
              · have HT2 : Hid (∀ W', Calls Try.prog 51 #[.int .i64 att] W' fun e w' => e = .returned (.bool true) ∧ W' = w') := fun W' => by
                  have := RTag_any att W'
                  rwa [ht2] at this
                have HTT : Hid (isT afr = true ∧ isT att = true) := ⟨ht, ht2⟩
                obtain ⟨N, hN⟩ : ∃ N, N = cnt afr (clip alo ahi L) := ⟨_, rfl⟩
                have hvn : vn = L.length := by
                  obtain ⟨_, _, hv, _⟩ := HRS.out
                  injection hv with _ h _
                have hL0 : 0 < L.length := by
                  rcases fits_cut HST.out.1.1 with ⟨_, e⟩ | ⟨r, k, rfl⟩
                  · have := HSZ.out; omega
                  · simp
                have HCN : Hid (∀ W', Below w2.heap.size w2 W' → Calls Try.prog 23 #[.agg #[.int .i64 size, .slice va vn vc], .int .i64 alo, .int .i64 ahi, .int .i64 afr] W' fun e w' => e = .returned (.tuple #[.int .i64 N, .int .i64 0]) ∧ Below W'.heap.size W' w') := fun W' hW => by
                  rw [hN]
                  exact RCount_ok (HRS2.out.below hW) HST.out.1 HST.out.2.1 hL0 HST.out.2.2 HV.out.1 (by have := HV.out; omega) HV.out.2.2 HTT.out.1
                have HSW : Hid (∀ W', Below w2.heap.size w2 W' → Calls Try.prog 43 #[.agg #[.int .i64 size, .slice va vn vc], .int .i64 alo, .int .i64 ahi, .int .i64 afr, .int .i64 att, .bool false] W' fun e w' => ∃ s v' n e2, e = .returned (.tuple #[.agg #[.int .i64 s, v'], .int .i64 n, .int .i64 e2]) ∧ Hid (RU g size alo ahi afr att false L W'.heap.size s v' n e2 w') ∧ Below W'.heap.size W' w') := fun W' hW =>
                  RSwap_from (HRS2.out.below hW) HST.out.1 HST.out.2.1 hL0 HST.out.2.2 HV.out.1 (by have := HV.out; omega) HV.out.2.2 HTT.out.2 HTT.out.1
                have HIF : Hid (N = ahi - alo ↔ ∀ x, alo ≤ x → x < ahi → g x = afr) := by
                  rw [hN]
                  exact cnt_full (clip_can HST.out.1 HV.out.1 (by have := HV.out; omega) HV.out.2.2).1
                have hE : chE size g ⟨alo, ahi, afr, att⟩ = open Classical in if ∀ x, alo ≤ x → x < ahi → g x = afr then 0 else 30 := by
                  unfold chE
                  rw [if_neg (by simp; omega), if_pos ⟨ht, ht2⟩]
                have HE := Lib.hid hE
                have hw1 : IntKind.i64.wrap (ahi - alo) = ahi - alo := IntWalk.i64_in _ (by have := HSZ.out; omega)
                clear hN hvn hL0 hE ht ht2
                go_wp2_with fail
                refine (HT1.out _).mono ?_
                rintro e w3 ⟨rfl, rfl⟩
                go_wp2_with fail
                refine (HT2.out _).mono ?_
                rintro e w3 ⟨rfl, rfl⟩
                go_wp2_with fail
                refine (HCN.out _ (Below.refl _ _)).mono ?_
                rintro e w3 ⟨rfl, hb⟩
                have M1 := Lib.hid (K1.out.next hb); have M2' := Lib.hid (K2.out.next hb); have M3 := Lib.hid (K3.out.next hb)
                have HB3 := Lib.hid (HB2.out.trans (hb.mono HB2.out.size))
                have HB23 := Lib.hid hb
                clear hb m0 m1 c0 c1 c2 c3
                obtain ⟨m0, m1, -, -⟩ := M1.out.c2
                have c0 := (M3.out.c 0 _ rfl).1; have c1 := (M3.out.c 1 _ rfl).1; have c2 := (M3.out.c 2 _ rfl).1; have c3 := (M3.out.c 3 _ rfl).1
                by_cases hfull : N = ahi - alo
                · have HALLT := Lib.hid (HIF.out.1 hfull)
                  have HE0 : Hid (chE size g ⟨alo, ahi, afr, att⟩ = 0) := by
                    show chE _ _ _ = 0
                    rw [HE.out, if_pos HALLT.out]
                  clear HIF
                  subst hfull
                  go_wp2_with fail
                  refine (HSW.out _ HB23.out).mono ?_
                  rintro e w4 ⟨s2, v2, n2, e2, rfl, HRU, hb⟩
                  have HHU := Lib.hid (ru_chK (c := ⟨alo, ahi, afr, att⟩) HE0.out (gS_all HALLT.out) HRU.out)
                  have HV2 : Hid (∃ a n c, v2 = .slice a n c) := by
                    rcases HHU.out.2 with ⟨_, _, h⟩ | ⟨_, _, _, _, ⟨_, _, h, _⟩, _⟩
                    · exact ⟨_, _, _, h⟩
                    · exact ⟨_, _, _, h⟩
                  obtain ⟨va2, vn2, vc2, rfl⟩ := HV2.out
                  obtain ⟨w5, HW5⟩ : ∃ w5, w5 = w4.alloc (.cells #[.int .i64 s2, .slice va2 vn2 vc2] 33) := ⟨_, rfl⟩
                  have b5 : Below w4.heap.size w4 w5 := by rw [HW5]; exact alloc_below _ _
                  have n5 : Bx w4.heap.size [.int .i64 s2, .slice va2 vn2 vc2] w5 := by rw [HW5]; exact Bx.new w4 [.int .i64 s2, .slice va2 vn2 vc2] 33 (by simp)
                  have b45 := hb.trans (b5.mono hb.size)
                  have L1 := Lib.hid (M1.out.next b45); have L2 := Lib.hid (M2'.out.next b45); have L5 := Lib.hid n5
                  have HB5 := Lib.hid (HB3.out.trans (b45.mono HB3.out.size))
                  have HLT5 : Hid (W.heap.size + 1 < w4.heap.size) := Nat.lt_of_lt_of_le M2'.out.lt hb.size
                  have HBB5 := Lib.hid b5
                  have HW5' := Lib.hid HW5
                  clear HW5 b5 n5 b45 hb m0 m1 c0 c1 c2 c3 M1 M2' M3 HB3 HRU HV2 h1 h2 h3 hw1
                  go_upto_region 15 with fail
                  rw [← HW5'.out]
                  clear HW5'
                  rcases HHU.out.2 with ⟨h1, rfl, h9⟩ | ⟨rfl, rfl, L', h3, h4, h5⟩
                  · injection h9 with h91 h92 h93
                    subst h91; subst h92; subst h93
                    have HX : Hid (∀ W', RApP size (apF size f l) 0 (.slice none 0 0) e2 W') := fun W' => by
                      show RApP _ (apF _ _ _) _ _ _ _
                      rw [HAP.out, HDR.out, apF_err (by rw [← HHU.out.1]; exact h1)]
                      exact ⟨HHU.out.1, .inl ⟨h1, rfl, rfl⟩⟩
                    have hne : (e2 == 0) = false := beq_eq_false_iff_ne.2 h1
                    obtain ⟨x0, x1, x2, x3⟩ := L2.out.c2
                    obtain ⟨u0, u1, -, -⟩ := (L2.out.two (.int .i64 0) (.slice none 0 0)).c2
                    clear h1
                    go_wp2_with fail
                    refine bodyPost_ret (v := .tuple #[.agg #[.int .i64 0, .slice none 0 0], .int .i64 e2]) (by simp [results, Try.results35, go_sem, u0, u1]) rfl ?_
                    first
                    | exact ⟨0, _, e2, rfl, HX.out _, HB5.out⟩
                    | exact ⟨0, _, e2, rfl, HX.out _, HBF.out _ _ _ HB5.out⟩
                  · have HA2 : Hid (apF s2 f l = apF s2 (put g alo ahi att) (l.drop (j + 1))) := by
                      show _ = _
                      rw [HAP.out, HDR.out, apF_ok HHU.out.1.symm]
                    have HI5 : Hid (IsRs 0 w5 (.slice va2 vn2 vc2) L') := h4.below HBB5.out
                    have HST2 : Hid (Gs.Can (put g alo ahi att) 0 L' s2 ∧ Ctx (put g alo ahi att) 0 s2 ∧ L'.length ≤ 4096) := ⟨h3, put_ctx HST.out.2.1 (of_decide_eq_true HTT.out.2).1 (of_decide_eq_true HTT.out.2).2, h5⟩
                    obtain ⟨p0, p1, -, -⟩ := L5.out.c2
                    obtain ⟨m0, m1, m2, m3⟩ := L1.out.c2
                    clear h3 h4 h5
                    go_wp2_with fail
                    go_roundg (n - (j + 1))
                    case measure => have := HK.out; omega
                    case rel => exact ⟨j + 1, va2, vn2, vc2, _, L', by show _ = _; omega, by go_num, HA2, (HI5.out.apart (.inr fun x e => by rw [L1.out.c2.2.1] at e; cases e)).apart (.inr fun x e => by rw [((L1.out.put (i := 0) (by simp) (by decide) _).c 1 _ rfl).1] at e; cases e), HST2, L1.out.two _ _, (L2.out.other (by omega) _).other (by omega) _, below_put HB5.out (Nat.le_refl _) _ _⟩
                · have HALLT : Hid (¬ ∀ x, alo ≤ x → x < ahi → g x = afr) := fun h => hfull (HIF.out.2 h)
                  have hbe : (N == ahi - alo) = false := beq_eq_false_iff_ne.2 hfull
                  have HX := Lib.hid (HERR.out 30 (by decide) (by rw [HE.out, if_neg HALLT.out]))
                  obtain ⟨x0, x1, x2, x3⟩ := M2'.out.c2
                  obtain ⟨u0, u1, -, -⟩ := (M2'.out.two (.int .i64 0) (.slice none 0 0)).c2
                  go_wp2_with fail
                  refine bodyPost_ret (v := .tuple #[.agg #[.int .i64 0, .slice none 0 0], .int .i64 30]) (by simp [results, Try.results35, go_sem, u0, u1]) rfl ?_
                  first
                  | exact ⟨0, _, 30, rfl, HX.out _, HB3.out⟩
                  | exact ⟨0, _, 30, rfl, HX.out _, HBF.out _ _ _ HB3.out⟩
              · have ht2 := Bool.eq_false_iff.2 ht2
                have HT2 : Hid (∀ W', Calls Try.prog 51 #[.int .i64 att] W' fun e w' => e = .returned (.bool false) ∧ W' = w') := fun W' => by
                  have := RTag_any att W'
                  rwa [ht2] at this
                have HEE : Hid (chE size g ⟨alo, ahi, afr, att⟩ = 2) := by
                  show chE _ _ _ = 2
                  unfold chE
                  rw [if_neg (by simp; omega), if_neg (by simp [ht2])]
                clear ht ht2
                go_wp2_with fail
                refine (HT1.out _).mono ?_
                rintro e w3 ⟨rfl, rfl⟩
                go_wp2_with fail
                refine (HT2.out _).mono ?_
                rintro e w3 ⟨rfl, rfl⟩
                have HX := Lib.hid (HERR.out 2 (by decide) HEE.out)
                obtain ⟨x0, x1, x2, x3⟩ := K2.out.c2
                obtain ⟨u0, u1, -, -⟩ := (K2.out.two (.int .i64 0) (.slice none 0 0)).c2
                go_wp2_with fail
                refine bodyPost_ret (v := .tuple #[.agg #[.int .i64 0, .slice none 0 0], .int .i64 2]) (by simp [results, Try.results35, go_sem, u0, u1]) rfl ?_
                first
                | exact ⟨0, _, 2, rfl, HX.out _, HB2.out⟩
                | exact ⟨0, _, 2, rfl, HX.out _, HBF.out _ _ _ HB2.out⟩
            · have ht := Bool.eq_false_iff.2 ht
              have HT1 : Hid (∀ W', Calls Try.prog 51 #[.int .i64 afr] W' fun e w' => e = .returned (.bool false) ∧ W' = w') := fun W' => by
                have := RTag_any afr W'
                rwa [ht] at this
              have HEE : Hid (chE size g ⟨alo, ahi, afr, att⟩ = 2) := by
                show chE _ _ _ = 2
                unfold chE
                rw [if_neg (by simp; omega), if_neg (by simp [ht])]
              clear ht
              go_wp2_with fail
              refine (HT1.out _).mono ?_
              rintro e w3 ⟨rfl, rfl⟩
              have HX := Lib.hid (HERR.out 2 (by decide) HEE.out)
              obtain ⟨x0, x1, x2, x3⟩ := K2.out.c2
              obtain ⟨u0, u1, -, -⟩ := (K2.out.two (.int .i64 0) (.slice none 0 0)).c2
              go_wp2_with fail
              refine bodyPost_ret (v := .tuple #[.agg #[.int .i64 0, .slice none 0 0], .int .i64 2]) (by simp [results, Try.results35, go_sem, u0, u1]) rfl ?_
              first
              | exact ⟨0, _, 2, rfl, HX.out _, HB2.out⟩
              | exact ⟨0, _, 2, rfl, HX.out _, HBF.out _ _ _ HB2.out⟩
          · have HEE : Hid (chE size g ⟨alo, ahi, afr, att⟩ = 3) := by show chE _ _ _ = 3; unfold chE; rw [if_pos (by simp; omega)]
            have HX := Lib.hid (HERR.out 3 (by decide) HEE.out)
            obtain ⟨x0, x1, x2, x3⟩ := K2.out.c2
            obtain ⟨u0, u1, -, -⟩ := (K2.out.two (.int .i64 0) (.slice none 0 0)).c2
            go_wp2_with fail
            refine bodyPost_ret (v := .tuple #[.agg #[.int .i64 0, .slice none 0 0], .int .i64 3]) (by simp [results, Try.results35, go_sem, u0, u1]) rfl ?_
            first
            | exact ⟨0, _, 3, rfl, HX.out _, HB2.out⟩
            | exact ⟨0, _, 3, rfl, HX.out _, HBF.out _ _ _ HB2.out⟩
        · have HEE : Hid (chE size g ⟨alo, ahi, afr, att⟩ = 3) := by show chE _ _ _ = 3; unfold chE; rw [if_pos (by simp; omega)]
          have HX := Lib.hid (HERR.out 3 (by decide) HEE.out)
          obtain ⟨x0, x1, x2, x3⟩ := K2.out.c2
          obtain ⟨u0, u1, -, -⟩ := (K2.out.two (.int .i64 0) (.slice none 0 0)).c2
          go_wp2_with fail
          refine bodyPost_ret (v := .tuple #[.agg #[.int .i64 0, .slice none 0 0], .int .i64 3]) (by simp [results, Try.results35, go_sem, u0, u1]) rfl ?_
          first
          | exact ⟨0, _, 3, rfl, HX.out _, HB2.out⟩
          | exact ⟨0, _, 3, rfl, HX.out _, HBF.out _ _ _ HB2.out⟩
      · have HEE : Hid (chE size g ⟨alo, ahi, afr, att⟩ = 3) := by show chE _ _ _ = 3; unfold chE; rw [if_pos (by simp; omega)]
        have HX := Lib.hid (HERR.out 3 (by decide) HEE.out)
        obtain ⟨x0, x1, x2, x3⟩ := K2.out.c2
        obtain ⟨u0, u1, -, -⟩ := (K2.out.two (.int .i64 0) (.slice none 0 0)).c2
        go_wp2_with fail
        refine bodyPost_ret (v := .tuple #[.agg #[.int .i64 0, .slice none 0 0], .int .i64 3]) (by simp [results, Try.results35, go_sem, u0, u1]) rfl ?_
        first
        | exact ⟨0, _, 3, rfl, HX.out _, HB2.out⟩
        | exact ⟨0, _, 3, rfl, HX.out _, HBF.out _ _ _ HB2.out⟩
    · have hlt3 : ¬ (j : Int) < n := by omega
      have hdr : l.drop j = [] := List.drop_eq_nil_of_le (by have := HN.out; omega)
      have HF : Hid (apF size f l = (0, g)) := by
        show _ = _
        rw [HAP.out, hdr, apF_nil]
      clear hdr
      obtain ⟨m0, m1, -, -⟩ := F1.out.c2
      obtain ⟨x0, x1, x2, x3⟩ := F2.out.c2
      obtain ⟨u0, u1, -, -⟩ := (F2.out.two (.int .i64 size) (.slice va vn vc)).c2
      have HI9 : Hid (IsRs 0 ((wr.setCell ⟨W.heap.size + 1, 0, none⟩ (.int .i64 size)).setCell ⟨W.heap.size + 1, 1, none⟩ (.slice va vn vc)) (.slice va vn vc) L) := (HRS.out.apart (.inr fun x e => by rw [F2.out.c2.2.1] at e; cases e)).apart (.inr fun x e => by rw [((F2.out.put (i := 0) (by simp) (by decide) _).c 1 _ rfl).1] at e; cases e)
      go_wp2_with fail
      refine bodyPost_ret (v := .tuple #[.agg #[.int .i64 size, .slice va vn vc], .int .i64 0]) (by simp [results, Try.results35, go_sem, u0, u1]) rfl ?_
      exact ⟨size, _, 0, rfl, by rw [HF.out]; exact ⟨rfl, .inr ⟨rfl, rfl, L, HST.out.1, HI9.out⟩⟩, below_put HBr.out (by omega) _ _⟩
end Go.Proofs.Ytahgfggcpmnnaaa
namespace Go.Proofs.Ytahgfggcpmnnaaa
open Go Go.ChangeShapes Go.WideShapes Go.ChangeAt Go.RowKit Go.Deep Gs

theorem addz (b o k : Nat) : (⟨b, o, none⟩ : Addr).add k = ⟨b, o + k, none⟩ := by
  unfold Addr.add
  split <;> simp_all
theorem own : ownKnob Try.prog.godebug = none := by kernel_rfl
theorem laidOut' : laidOutB Try.prog = true := by kernel_rfl
theorem one_int : Try.prog.cellsOf 3 = 1 := by kernel_rfl
theorem one_bool : Try.prog.cellsOf 4 = 1 := by kernel_rfl
theorem five_act : Try.prog.cellsOf 42 = 5 := by kernel_rfl
theorem six_query : Try.prog.cellsOf 45 = 6 := by kernel_rfl
section
variable {H : Type} {enc : TypeId × Value → H} {W : World} {base : Nat} {sp : Nat → Bool} {held : Bool}
theorem fld_int {cs : List Value} {n i : Nat} {xs : List (DataW H × List MemPlace)} (hi : i < xs.length) (h : DataW.trod enc Try.prog W base sp held n 3 ((cs.drop i).take (Try.prog.cellsOf 3)) = xs[i]?) : ∃ k, cs[i]? = some (.int .i64 k) := by
  rw [one_int, List.getElem?_eq_getElem hi] at h
  obtain ⟨k, e, _⟩ := DataW.trod_int Try.underlying3 h
  refine ⟨k, ?_⟩
  have h1 : ((cs.drop i).take 1)[0]? = some (.int .i64 k) := by rw [e]; rfl
  simpa [List.getElem?_take, List.getElem?_drop] using h1
theorem fld_bool {cs : List Value} {n i : Nat} {xs : List (DataW H × List MemPlace)} (hi : i < xs.length) (h : DataW.trod enc Try.prog W base sp held n 4 ((cs.drop i).take (Try.prog.cellsOf 4)) = xs[i]?) : ∃ k, cs[i]? = some (.bool k) := by
  rw [one_bool, List.getElem?_eq_getElem hi] at h
  obtain ⟨k, e, _⟩ := DataW.trod_bool Try.underlying4 h
  refine ⟨k, ?_⟩
  have h1 : ((cs.drop i).take 1)[0]? = some (.bool k) := by rw [e]; rfl
  simpa [List.getElem?_take, List.getElem?_drop] using h1
/-- the cells of an update -/
theorem act_cells {fuel : Nat} {cs : List Value} {x : DataW H × List MemPlace} (h : DataW.trod enc Try.prog W base sp held fuel 42 cs = some x) :
    ∃ a : Act, cs[0]? = some (.bool a.sw) ∧ cs[1]? = some (.int .i64 a.lo) ∧ cs[2]? = some (.int .i64 a.hi) ∧ cs[3]? = some (.int .i64 a.fr) ∧ cs[4]? = some (.int .i64 a.tt) ∧ cs.length = 5 := by
  obtain ⟨xs, n, _, _, hl, hx, hg⟩ := DataW.trod_struct Try.underlying42 h
  have hx : xs.length = 5 := hx
  obtain ⟨b0, e0⟩ := fld_bool (i := 0) (by omega) (hg 0 _ rfl)
  obtain ⟨b1, e1⟩ := fld_int (i := 1) (by omega) (hg 1 _ rfl)
  obtain ⟨b2, e2⟩ := fld_int (i := 2) (by omega) (hg 2 _ rfl)
  obtain ⟨b3, e3⟩ := fld_int (i := 3) (by omega) (hg 3 _ rfl)
  obtain ⟨b4, e4⟩ := fld_int (i := 4) (by omega) (hg 4 _ rfl)
  exact ⟨⟨b0, b1, b2, b3, b4⟩, e0, e1, e2, e3, e4, by rw [hl, five_act]⟩
/-- a list of updates -/
theorem acts_of {v : Value} {d : DataW H} {p : List MemPlace} (h : DataW.Trod enc Try.prog W 0 (fun _ => true) true 22 v d p) (hv : ∃ a n c, v = .slice a n c) : ∃ l, IsAs W v l := by
  obtain ⟨a0, len0, cap0, rfl⟩ := hv
  obtain ⟨fuel, hf⟩ := h
  rcases open_slice Try.underlying22 hf with ⟨hcs, _⟩ | ⟨a, len, cap, m, n, D, Pl, hcs, _, hl, _, hm, _, hi⟩
  · simp [Value.cells] at hcs
    obtain ⟨rfl, rfl, rfl⟩ := hcs
    exact ⟨[], none, 0, rfl, fun h => absurd h (by simp)⟩
  · simp [Value.cells] at hcs
    obtain ⟨rfl, rfl, rfl⟩ := hcs
    simp only [if_true] at hm
    have hex : ∀ i, i < len0 → ∃ x : Act, ∀ j, j < 5 → W.cell? ((a.add (i * 5)).add j) = [Value.bool x.sw, .int .i64 x.lo, .int .i64 x.hi, .int .i64 x.fr, .int .i64 x.tt][j]? := fun i hlt => by
      obtain ⟨cs', hc, ht⟩ := hi i (by omega)
      rw [five_act] at hc
      obtain ⟨_, hln, hat⟩ := World.cells?_some hc
      obtain ⟨x, e0, e1, e2, e3, e4, _⟩ := act_cells ht
      refine ⟨x, fun j hj => ?_⟩
      rw [hat j hj]
      have : j = 0 ∨ j = 1 ∨ j = 2 ∨ j = 3 ∨ j = 4 := by omega
      rcases this with rfl | rfl | rfl | rfl | rfl
      · exact e0
      · exact e1
      · exact e2
      · exact e3
      · exact e4
    obtain ⟨g, hg⟩ : ∃ g : Nat → Act, ∀ i, i < len0 → ∀ j, j < 5 → W.cell? ((a.add (i * 5)).add j) = [Value.bool (g i).sw, .int .i64 (g i).lo, .int .i64 (g i).hi, .int .i64 (g i).fr, .int .i64 (g i).tt][j]? :=
      ⟨fun i => if h : i < len0 then (hex i h).choose else ⟨false, 0, 0, 0, 0⟩, fun i h => by simp only [dif_pos h]; exact (hex i h).choose_spec⟩
    refine ⟨(List.range len0).map g, some a, cap0, by simp, fun hp => ?_⟩
    have hp : 0 < len0 := by simpa using hp
    obtain ⟨b, o, s⟩ := a
    have h00 := hg 0 hp 0 (by decide)
    obtain rfl : s = none := by
      cases s with
      | none => rfl
      | some _ =>
        exfalso
        unfold World.cell? Addr.add at h00
        simp only [if_true] at h00
        split at h00 <;> simp at h00
    refine ⟨b, o, rfl, ?_, fun j hj => ?_⟩
    · have h1 : W.cell? ⟨b, o, none⟩ = some (.bool (g 0).sw) := by simpa [Addr.add] using h00
      exact World.block_lt_of_cell? _ _ h1
    · have hj : j < len0 := by simpa using hj
      have k : ∀ i, i < 5 → W.cell? ⟨b, o + j * 5 + i, none⟩ = [Value.bool (g j).sw, .int .i64 (g j).lo, .int .i64 (g j).hi, .int .i64 (g j).fr, .int .i64 (g j).tt][i]? := fun i hi => by
        have := hg j hj i hi
        rwa [addz, addz] at this
      have e : ((List.range len0).map g)[j]'(by simpa using hj) = g j := by simp
      have e' : ∀ (l : List Act) (h1 h2 : j < l.length), l[j]'h1 = l[j]'h2 := fun _ _ _ => rfl
      refine ⟨?_, ?_, ?_, ?_, ?_⟩
      · rw [e]; exact k 0 (by decide)
      · rw [e]; exact k 1 (by decide)
      · rw [e]; exact k 2 (by decide)
      · rw [e]; exact k 3 (by decide)
      · rw [e]; exact k 4 (by decide)
set_option maxRecDepth 100000 in
/-- an update, by value -/
theorem act_of {v : Value} {d : DataW H} {p : List MemPlace} {r : Reach} {b : Nat} (hv : Value.okWide Try.prog W r b 42 v) (h : DataW.Trod enc Try.prog W base sp held 42 v d p) : ∃ a : Act, v = .agg #[.bool a.sw, .int .i64 a.lo, .int .i64 a.hi, .int .i64 a.fr, .int .i64 a.tt] := by
  obtain ⟨cs, rfl, _⟩ := okWide_struct Try.underlying42 hv
  obtain ⟨fuel, hf⟩ := h
  obtain ⟨x, e0, e1, e2, e3, e4, el⟩ := act_cells hf
  refine ⟨x, ?_⟩
  obtain ⟨l⟩ := cs
  simp only [Value.cells] at e0 e1 e2 e3 e4 el
  match l, el with
  | [c0, c1, c2, c3, c4], _ =>
    simp at e0 e1 e2 e3 e4
    subst e0; subst e1; subst e2; subst e3; subst e4
    rfl
set_option maxRecDepth 100000 in
/-- a query, by value -/
theorem query_of {v : Value} {d : DataW H} {p : List MemPlace} {r : Reach} {b : Nat} (hv : Value.okWide Try.prog W r b 45 v) (h : DataW.Trod enc Try.prog W base sp held 45 v d p) : ∃ q0 q1 q2 q3 q4 q5, v = .agg #[.int .i64 q0, .int .i64 q1, .int .i64 q2, .int .i64 q3, .int .i64 q4, .int .i64 q5] := by
  obtain ⟨cs, rfl, _⟩ := okWide_struct Try.underlying45 hv
  obtain ⟨fuel, hf⟩ := h
  obtain ⟨xs, n, _, _, hl, hx, hg⟩ := DataW.trod_struct Try.underlying45 hf
  have hx : xs.length = 6 := hx
  obtain ⟨b0, e0⟩ := fld_int (i := 0) (by omega) (hg 0 _ rfl)
  obtain ⟨b1, e1⟩ := fld_int (i := 1) (by omega) (hg 1 _ rfl)
  obtain ⟨b2, e2⟩ := fld_int (i := 2) (by omega) (hg 2 _ rfl)
  obtain ⟨b3, e3⟩ := fld_int (i := 3) (by omega) (hg 3 _ rfl)
  obtain ⟨b4, e4⟩ := fld_int (i := 4) (by omega) (hg 4 _ rfl)
  obtain ⟨b5, e5⟩ := fld_int (i := 5) (by omega) (hg 5 _ rfl)
  refine ⟨b0, b1, b2, b3, b4, b5, ?_⟩
  rw [six_query] at hl
  obtain ⟨l⟩ := cs
  simp only [Value.cells] at e0 e1 e2 e3 e4 e5 hl
  match l, hl with
  | [c0, c1, c2, c3, c4, c5], _ =>
    simp at e0 e1 e2 e3 e4 e5
    subst e0; subst e1; subst e2; subst e3; subst e4; subst e5
    rfl
end
end Go.Proofs.Ytahgfggcpmnnaaa
namespace Go.Proofs.Ytahgfggcpmnnaaa
open Go Go.RowKit Gs

set_option maxHeartbeats 1000000 in
/-- ref.Changed, of two lists that are the same -/
theorem RChanged_same {W : World} {u v : Value} {L : List Ch} (h1 : IsCs W u L) (h2 : IsCs W v L) (hlen : L.length ≤ 100000) : Calls Try.prog 31 #[u, v] W fun e w' => e = .returned (.bool true) ∧ Hid (Below W.heap.size W w') := by
  have HU := Lib.hid h1; have HV := Lib.hid h2
  obtain ⟨a, c, rfl, -⟩ := h1
  obtain ⟨a', c', rfl, -⟩ := h2
  obtain ⟨n, hn⟩ : ∃ n, n = L.length := ⟨_, rfl⟩
  rw [← hn] at HU HV ⊢
  have hnb : n ≤ 100000 := by omega
  have HN := Lib.hid hn
  clear hn hlen
  go_enter Try.func31, Try.ntmps31
  go_wp2_with fail
  go_loopw [5] (fun iv wr => ∃ j : Nat, j ≤ n ∧ iv = .int .i64 j ∧ Hid (Below W.heap.size W wr)) (fun i _ => n - (intOf i).toNat)
  case atStart => exact ⟨0, by omega, rfl, Below.refl _ _⟩
  case round =>
    obtain ⟨j, hj, rfl, HB⟩ := hrel
    by_cases hlt : j < n
    · have hj2 : (j : Int) < n := by omega
      have hj0 : (0 : Int) ≤ (j : Int) := by omega
      have hjl : j < L.length := by rw [← HN.out]; exact hlt
      obtain ⟨G, o, rfl, c0, c1, c2, c3⟩ := (HU.out.below HB.out).at' hjl
      obtain ⟨G', o', rfl, d0, d1, d2, d3⟩ := (HV.out.below HB.out).at' hjl
      generalize L[j] = x at *
      obtain ⟨xa, xb, xc, xd⟩ := x
      simp only at c0 c1 c2 c3 d0 d1 d2 d3
      go_wp2_with fail
      go_quiet (fail)
      rename_i nq
      have HBn : Hid (Below W.heap.size W (World.drewN wr nq)) := below_drewN HB.out nq
      clear c0 c1 c2 c3 d0 d1 d2 d3
      generalize hw : World.drewN _ nq = w2 at HBn ⊢
      clear hw
      go_wp2_with fail
      go_roundw
      case rel => exact ⟨j + 1, by omega, by go_num, HBn.out⟩
      case measure => simp [intOf]; omega
    · have hj2 : ¬ (j : Int) < n := by omega
      go_wp2_with fail
      go_ret
      exact ⟨rfl, HB.out⟩
theorem RApply_un (v : Value) (W : World) : Calls Try.prog 35 #[.agg #[.int .i64 0, .slice none 0 0], v] W fun e w' => e = .returned (.tuple #[.agg #[.int .i64 0, .slice none 0 0], .int .i64 1]) ∧ Below W.heap.size W w' := by
  obtain ⟨w0, HW⟩ : ∃ w0, w0 = (W.alloc (.cells #[.int .i64 0, .slice none 0 0] 33)).alloc (.cells #[.int .i64 0, .slice none 0 0] 33) := ⟨_, rfl⟩
  have hb : Below W.heap.size W w0 := by rw [HW]; exact (alloc_below _ _).alloc (by simp) _
  have n1 : Bx W.heap.size [.int .i64 0, .slice none 0 0] w0 := by rw [HW]; exact (Bx.new W [.int .i64 0, .slice none 0 0] 33 (by simp)).next (alloc_below _ _)
  have n2 : Bx (W.heap.size + 1) [.int .i64 0, .slice none 0 0] w0 := by
    have := Bx.new (W.alloc (.cells #[.int .i64 0, .slice none 0 0] 33)) [.int .i64 0, .slice none 0 0] 33 (by simp)
    rw [World.size_alloc, ← HW] at this
    exact this
  have HUS : Hid (∀ W', Calls Try.prog 42 #[.agg #[.int .i64 0, .slice none 0 0]] W' fun e w' => e = .returned (.bool false) ∧ Below W'.heap.size W' w') := fun W' => RUsable_any 0 none 0 0 W'
  have H2 := Lib.hid n2; have HB := Lib.hid hb; have HW' := Lib.hid HW
  obtain ⟨m0, m1, -, -⟩ := n1.c2
  clear hb n1 n2 HW
  go_enter Try.func35, Try.ntmps35
  go_upto_region 1 with fail
  rw [← HW'.out]
  go_wp2_with fail
  refine (HUS.out _).mono ?_
  rintro e w1 ⟨rfl, hb⟩
  have G2 := Lib.hid (H2.out.next hb); have HB1 := Lib.hid (HB.out.trans (hb.mono HB.out.size))
  clear hb m0 m1
  obtain ⟨x0, x1, x2, x3⟩ := G2.out.c2
  obtain ⟨u0, u1, -, -⟩ := (G2.out.two (.int .i64 0) (.slice none 0 0)).c2
  go_wp2_with fail
  refine bodyPost_ret (v := .tuple #[.agg #[.int .i64 0, .slice none 0 0], .int .i64 1]) (by simp [results, Try.results35, go_sem, u0, u1]) rfl ?_
  first
  | exact ⟨rfl, HB1.out⟩
  | exact ⟨rfl, below_put HB1.out (by omega) _ _⟩
/-- both Applies -/
theorem both_Apply {base : Nat} {W : World} {p : Option Addr} {z s : Int} {v : Value} {l : List Ch} (h : Dual base W p z s v) (hn : l.length ≤ 100000) : ∃ (CX : Option Addr → Int → Int → World → Prop) (DX : Int → Value → Int → World → Prop),
    Hid (∀ W' cv, Below W.heap.size W W' → IsCs W' cv l → Calls Try.prog 34 #[.agg #[.pointer p, .int .i64 z], cv] W' fun e w' => ∃ q s2 e2, e = .returned (.tuple #[.agg #[.pointer q, .int .i64 s2], .int .i64 e2]) ∧ Hid (CX q s2 e2 w') ∧ Below W'.heap.size W' w') ∧
    Hid (∀ W' cv, Below W.heap.size W W' → IsCs W' cv l → Calls Try.prog 35 #[.agg #[.int .i64 s, v], cv] W' fun e w' => ∃ s' b n c e2, e = .returned (.tuple #[.agg #[.int .i64 s', .slice b n c], .int .i64 e2]) ∧ Hid (DX s' (.slice b n c) e2 w') ∧ Below W'.heap.size W' w') ∧
    Hid (∀ q s2 e2 W1 W2, CX q s2 e2 W1 → Below W1.heap.size W1 W2 → CX q s2 e2 W2) ∧
    Hid (∀ q s2 e2 s' v' e' W1, CX q s2 e2 W1 → DX s' v' e' W1 → e2 = e' ∧ Dual 0 W1 q s2 s' v') := by
  rcases h.open with ⟨rfl, rfl, rfl, rfl⟩ | ⟨f, L, h1, h2, h3, rfl, h5, h6⟩
  · refine ⟨fun q s2 e2 _ => q = none ∧ s2 = 0 ∧ e2 = 1, fun s' v' e' _ => s' = 0 ∧ v' = .slice none 0 0 ∧ e' = 1, fun W' cv _ hc => ?_, fun W' cv _ hc => ?_, fun _ _ _ _ _ h _ => h, ?_⟩
    · obtain ⟨a, c, rfl, -⟩ := hc
      refine (Apply_un 0 a _ c W').mono ?_
      rintro e w' ⟨rfl, hB⟩
      exact ⟨none, 0, 1, rfl, ⟨rfl, rfl, rfl⟩, hB⟩
    · refine (RApply_un cv W').mono ?_
      rintro e w' ⟨rfl, hB⟩
      exact ⟨0, none, 0, 0, 1, rfl, ⟨rfl, rfl, rfl⟩, hB⟩
    · rintro q s2 e2 s' v' e' W1 ⟨rfl, rfl, rfl⟩ ⟨rfl, rfl, rfl⟩
      exact ⟨rfl, .inl ⟨rfl, rfl, rfl, rfl⟩⟩
  · refine ⟨fun q s2 e2 W => ApP s (apF s f l) q s2 e2 W, fun s' v' e' W => RApP s (apF s f l) s' v' e' W, fun W' cv hW hc => Apply_any (h1.below hW) hc hn, fun W' cv hW hc => ?_, fun _ _ _ _ _ h hb => h.below hb, ?_⟩
    · refine (RApply_any (h3.below hW) h2 h1.ctx h1.lo h6 hc hn).mono ?_
      rintro e w' ⟨s', v', e2, rfl, hr, hB⟩
      have hv : ∃ a n c, v' = .slice a n c := by
        rcases hr.out.2 with ⟨_, _, h⟩ | ⟨_, _, _, _, ⟨_, _, h, _⟩⟩
        · exact ⟨_, _, _, h⟩
        · exact ⟨_, _, _, h⟩
      obtain ⟨b, n, c, rfl⟩ := hv
      exact ⟨s', b, n, c, e2, rfl, hr, hB⟩
    · rintro q s2 e2 s' v' e' W1 ⟨g1, g2⟩ ⟨k1, k2⟩
      refine ⟨g1.trans k1.symm, ?_⟩
      rcases g2 with ⟨a1, rfl, rfl⟩ | ⟨a1, rfl, a3⟩
      · rcases k2 with ⟨b1, rfl, rfl⟩ | ⟨b1, _⟩
        · exact .inl ⟨rfl, rfl, rfl, rfl⟩
        · exact absurd (g1.trans (k1.symm.trans b1)) a1
      · rcases k2 with ⟨b1, _⟩ | ⟨b1, rfl, L', b3, b4⟩
        · exact absurd (k1.trans (g1.symm.trans a1)) b1
        · exact .inr ⟨_, L', a3, b3, b4, rfl⟩

def encC (c : Ch) : List Value := [.int .i64 c.lo, .int .i64 c.hi, .int .i64 c.fr, .int .i64 c.tt]
theorem encC_len (l : List Ch) : (l.flatMap encC).length = l.length * 4 := by
  induction l with
  | nil => rfl
  | cons c l ih => rw [List.flatMap_cons, List.length_append, ih]; simp [encC]; omega
theorem encC_one (l : List Ch) : ∀ u ∈ l.flatMap encC, u.oneCell' = true := by
  intro u hu
  obtain ⟨r, _, hr⟩ := List.mem_flatMap.1 hu
  simp only [encC, List.mem_cons, List.not_mem_nil, or_false] at hr
  rcases hr with rfl | rfl | rfl | rfl <;> rfl
theorem encC_get : ∀ (l : List Ch) (j : Nat) (h : j < l.length), (l.flatMap encC)[j * 4]? = some (.int .i64 l[j].lo) ∧ (l.flatMap encC)[j * 4 + 1]? = some (.int .i64 l[j].hi) ∧ (l.flatMap encC)[j * 4 + 2]? = some (.int .i64 l[j].fr) ∧ (l.flatMap encC)[j * 4 + 3]? = some (.int .i64 l[j].tt)
  | r :: l, 0, _ => ⟨rfl, rfl, rfl, rfl⟩
  | r :: l, j + 1, h => by
    have ih := encC_get l j (by simpa using h)
    have e : ∀ i, ((r :: l).flatMap encC)[i + 4]? = (l.flatMap encC)[i]? := fun i => rfl
    rw [show (j + 1) * 4 = j * 4 + 4 by omega, show j * 4 + 4 + 1 = j * 4 + 1 + 4 by omega, show j * 4 + 4 + 2 = j * 4 + 2 + 4 by omega, show j * 4 + 4 + 3 = j * 4 + 3 + 4 by omega, e, e, e, e]
    exact ih
theorem IsCs.of_row {W : World} {base : Nat} {v : Value} {l : List Ch} (h : W.ownsRow base 107 4 v l.length (l.flatMap encC)) : IsCs W v l := by
  have hcs := fun g hg => h.cells (g := g) hg
  have hlt := h.lt
  rcases h.2 with ⟨rfl, h0⟩ | ⟨g, cap, cur, rfl, _⟩
  · exact ⟨none, 0, by rw [h0], fun hp => by omega⟩
  · refine ⟨some ⟨g, 0, none⟩, cap, rfl, fun hp => ⟨g, 0, rfl, (hlt g rfl).2, fun j hj => ?_⟩⟩
    obtain ⟨e0, e1, e2, e3⟩ := encC_get l j hj
    have c0 := hcs g rfl _ _ e0
    have c1 := hcs g rfl _ _ e1
    have c2 := hcs g rfl _ _ e2
    have c3 := hcs g rfl _ _ e3
    rw [add_zero'] at c0 c1 c2 c3
    rw [Nat.zero_add]
    exact ⟨c0, c1, c2, c3⟩
/-- the cells of a list of changes, in a row -/
theorem IsCs.news {W : World} {B o n c : Nat} {l : List Ch} (h : IsCs W (.slice (some ⟨B, o, none⟩) n c) l) : ∀ j u, (l.flatMap encC)[j]? = some u → W.cell? ((⟨B, o, none⟩ : Addr).add j) = some u := by
  intro j u hj
  have hlt : j < l.length * 4 := by
    rw [← encC_len]
    exact (List.getElem?_eq_some_iff.1 hj).1
  obtain ⟨B', o', e, c0, c1, c2, c3⟩ := h.at' (j := j / 4) (by omega)
  injection e with e
  injection e with e1 e2
  subst e1; subst e2
  obtain ⟨e0, e1, e2, e3⟩ := encC_get l (j / 4) (by omega)
  rw [show (⟨B, o, none⟩ : Addr).add j = ⟨B, o + j, none⟩ by unfold Addr.add; split <;> simp_all]
  have hr : j % 4 = 0 ∨ j % 4 = 1 ∨ j % 4 = 2 ∨ j % 4 = 3 := by omega
  rcases hr with hr | hr | hr | hr
  · have ej : j = j / 4 * 4 := by omega
    rw [ej, e0] at hj
    rw [ej]; cases hj; exact c0
  · have ej : j = j / 4 * 4 + 1 := by omega
    rw [ej, e1] at hj
    rw [ej, ← Nat.add_assoc]; cases hj; exact c1
  · have ej : j = j / 4 * 4 + 2 := by omega
    rw [ej, e2] at hj
    rw [ej, ← Nat.add_assoc]; cases hj; exact c2
  · have ej : j = j / 4 * 4 + 3 := by omega
    rw [ej, e3] at hj
    rw [ej, ← Nat.add_assoc]; cases hj; exact c3
theorem infoChange : (Try.prog.info? 107).map (fun i => (i.zero, i.size, i.bytes)) = some (some (.agg #[.int .i64 0, .int .i64 0, .int .i64 0, .int .i64 0]), 4, 32) := by kernel_rfl
theorem IsCs.len {W : World} {a : Option Addr} {n c : Nat} {l : List Ch} (h : IsCs W (.slice a n c) l) : n = l.length := by
  obtain ⟨_, _, hv, _⟩ := h
  injection hv
/-- a copy of a list of changes: an append to an empty list -/
theorem wpList_copyC {w3 : World} {ops : Array Oper} {rest : List Oper} {o : Oper} {a : Go.Act} {Q : Exit → Go.Act → World → Prop} (hgd : o.guard = none) (s x : Operand)
    (ho : o.op = .call { callee := .builtin .append, args := #[s, x], argTypes := #[66, 66] }) {cv : Value} {k : List Ch} {m : Nat} (hmk : m = k.length)
    (hs : a.eval s = .slice (some ⟨w3.heap.size, 0, none⟩) 0 0) (hx : a.eval x = cv) (hk : IsCs w3 cv k) (hkv : cv = .slice none 0 0 ∨ ∃ a m c, cv = .slice (some a) m c) (hm : m ≤ 100000)
    (h : ∀ a2 c2 w5, IsCs w5 (.slice a2 m c2) k → Below w3.heap.size w3 w5 → wpList Try.prog ops Q rest (a.put o.dst (.slice a2 m c2)) w5) : wpList Try.prog ops Q (o :: rest) a (w3.alloc (.cells #[] 107)) := by
  obtain ⟨i0, hi0, hz0, hz1, hz2⟩ := info_parts infoChange
  have hown : (w3.alloc (.cells #[] 107)).ownsRow w3.heap.size 107 4 (.slice (some ⟨w3.heap.size, 0, none⟩) 0 0) 0 [] := World.ownsRow_lit w3 #[] 0 (Nat.le_refl _) (by decide) (by simp)
  have hb := alloc_below w3 (.cells #[] 107)
  rcases hkv with rfl | ⟨a0, m0, c0, rfl⟩
  · have hk0 : m = 0 := hmk.trans hk.len.symm
    subst hk0
    refine wpList_append_nil hgd s x _ ho w3.heap.size _ i0 4 Try.underlying66 hi0 _ 0 [] hs hown hx ?_
    have hk1 : k = [] := List.eq_nil_of_length_eq_zero hmk.symm
    subst hk1
    exact h _ _ _ ⟨_, _, rfl, fun h => absurd h (by simp)⟩ hb
  · have hm0 : m0 = m := hk.len.trans hmk.symm
    subst hm0
    have hnw : ∀ j u, (k.flatMap encC)[j]? = some u → (w3.alloc (.cells #[] 107)).cell? (a0.add j) = some u := by
      by_cases hz : k = []
      · subst hz
        intro j u hj
        simp at hj
      · obtain ⟨B, o', e, _⟩ := hk.at' (j := 0) (List.length_pos_iff.2 hz)
        injection e with e
        subst e
        exact (hk.below hb).news
    refine wpList_append_own_at _ hgd s x _ ho w3.heap.size _ i0 _ 4 32 Try.underlying66 hi0 hz0 hz1 hz2 rfl (by decide) _ 0 [] hs hown a0 m0 c0 (k.flatMap encC) hx (by rw [encC_len, hmk]) hnw (encC_one k) (by rw [Nat.zero_add]; exact Nat.le_trans hm (by decide)) (by omega) hb.size ?_
    intro v' w5 hown' hgrow _ _
    rw [Nat.zero_add, List.nil_append, hmk] at hown'
    have hcs := IsCs.of_row hown'
    have hcs0 := hcs
    obtain ⟨a2, c2, rfl, -⟩ := hcs0
    rw [← hmk] at hcs ⊢
    exact h _ _ _ hcs (hb.grown hgrow hb.size (fun j hj => by cases hj; exact Nat.le_refl _))
set_option maxRecDepth 100000 in
set_option maxHeartbeats 4000000 in
theorem spanApplies_walk (size : Int) (v : Value) (l : List Act) (cv : Value) (k : List Ch) (W : World) (hl : IsAs W v l) (hk : IsCs W cv k) (hkv : cv = .slice none 0 0 ∨ ∃ a m c, cv = .slice (some a) m c) :
    Calls Try.prog 7 #[.int .i64 size, v, cv] W fun e w' => e = .returned (.bool true) ∧ Below W.heap.size W w' := by
  have HAW := Lib.hid (fun W' => awake_any W')
  have HAS := Lib.hid hl
  have HCS := Lib.hid hk
  obtain ⟨ao, c, rfl, -⟩ := hl
  obtain ⟨n, hnn⟩ : ∃ n, n = l.length := ⟨_, rfl⟩
  have HN := Lib.hid hnn
  rw [← hnn] at HAS ⊢
  have hk0 := hk
  obtain ⟨ka, kc, rfl, -⟩ := hk0
  obtain ⟨m, hmm⟩ : ∃ m, m = k.length := ⟨_, rfl⟩
  have HM := Lib.hid hmm
  rw [← hmm] at HCS hkv ⊢
  have HKV := Lib.hid hkv
  have HR : Hid (Below W.heap.size W W) := Below.refl _ _
  clear hnn hmm hk hkv
  by_cases hf : n ≤ 60
  · have HFW : Hid (∀ W', Calls Try.prog 11 #[.slice ao n c] W' fun e w' => e = .returned (.bool true) ∧ W' = w') := fun W' => by
      have := few_any ao n c W'
      rwa [decide_eq_true hf] at this
    by_cases hm60 : (m : Int) > 60
    · go_enter Try.func7, Try.ntmps7
      go_wp2_with fail
      refine (HFW.out _).mono ?_
      rintro e w1 ⟨rfl, rfl⟩
      go_wp2_with fail
      refine (HAW.out _).mono ?_
      rintro e w2 ⟨rfl, hb⟩
      have HB2 := Lib.hid hb
      clear hb
      go_wp2_with fail
      go_ret
      exact ⟨rfl, HB2.out⟩
    · have HPL := Lib.hid (played_any (size := size) HAS.out (by have := HN.out; omega))
      have HMB : Hid (m ≤ 60) := by show _ ≤ _; omega
      go_enter Try.func7, Try.ntmps7
      go_wp2_with fail
      refine (HFW.out _).mono ?_
      rintro e w1 ⟨rfl, rfl⟩
      go_wp2_with fail
      refine HPL.out.mono ?_
      rintro e w2 ⟨p, z, s, v', rfl, hd, hb⟩
      obtain ⟨va, vn, vc, rfl⟩ := hd.out.shape
      obtain ⟨w3, HW3⟩ : ∃ w3, w3 = (w2.alloc (.cells #[.pointer p, .int .i64 z] 27)).alloc (.cells #[.int .i64 s, .slice va vn vc] 33) := ⟨_, rfl⟩
      have b3 : Below w2.heap.size w2 w3 := by rw [HW3]; exact (alloc_below _ _).alloc (by simp) _
      have n2 : Bx w2.heap.size [.pointer p, .int .i64 z] w3 := by rw [HW3]; exact (Bx.new w2 [.pointer p, .int .i64 z] 27 (by simp)).next (alloc_below _ _)
      have n3 : Bx (w2.heap.size + 1) [.int .i64 s, .slice va vn vc] w3 := by
        have := Bx.new (w2.alloc (.cells #[.pointer p, .int .i64 z] 27)) [.int .i64 s, .slice va vn vc] 33 (by simp)
        rw [World.size_alloc, ← HW3] at this
        exact this
      have HD3 := Lib.hid (hd.out.below b3)
      have b03 := hb.trans (b3.mono hb.size)
      have G2 := Lib.hid n2; have G3 := Lib.hid n3
      have HB3 := Lib.hid b03
      have HC3 := Lib.hid (HCS.out.below b03)
      have HW3' := Lib.hid HW3
      clear hb HW3 b3 n2 n3 hd b03
      go_upto_region 4 with fail
      rw [← HW3'.out]
      clear HW3'
      have HMB2 : Hid (m ≤ 100000) := by have := HMB.out; show _ ≤ _; omega
      go_wp2_with (at_builtin; refine wpList_copyC rfl _ _ rfl (w3 := w3) HM.out rfl rfl HC3.out HKV.out HMB2.out ?_)
      intro a2 c2 w5 hcs5 hb5
      have F2 := Lib.hid (G2.out.next hb5); have F3 := Lib.hid (G3.out.next hb5); have HD5 := Lib.hid (HD3.out.below hb5); have HC5 := Lib.hid (HC3.out.below hb5)
      have HCN := Lib.hid hcs5
      have HB5 := Lib.hid (HB3.out.trans (hb5.mono HB3.out.size))
      obtain ⟨CX, DX, HA1, HA2, HCB, HAG⟩ := both_Apply (l := k) HD5.out (by have := HMB.out; have := HM.out; omega)
      clear hb5 hcs5 G2 G3 HD3 HC3 HB3
      obtain ⟨m0, m1, -, -⟩ := F2.out.c2
      go_wp2_with fail
      refine (HA1.out _ _ (Below.refl _ _) HCN.out).mono ?_
      rintro e w6 ⟨q, s2, e2, rfl, HCX, hb⟩
      obtain ⟨w7, HW7⟩ : ∃ w7, w7 = w6.alloc (.cells #[.pointer q, .int .i64 s2] 27) := ⟨_, rfl⟩
      have b7 : Below w6.heap.size w6 w7 := by rw [HW7]; exact alloc_below _ _
      have n7 : Bx w6.heap.size [.pointer q, .int .i64 s2] w7 := by rw [HW7]; exact Bx.new w6 [.pointer q, .int .i64 s2] 27 (by simp)
      have b57 := hb.trans (b7.mono hb.size)
      have K2 := Lib.hid (F2.out.next b57); have K3 := Lib.hid (F3.out.next b57); have K7 := Lib.hid n7
      have HC7 := Lib.hid (HC5.out.below b57); have HCN7 := Lib.hid (HCN.out.below b57); have HD7 := Lib.hid (HD5.out.below b57)
      have HCX7 := Lib.hid (HCB.out _ _ _ _ _ HCX.out b7)
      have HB57 := Lib.hid b57
      have HB7 := Lib.hid (HB5.out.trans (b57.mono HB5.out.size))
      have HW7' := Lib.hid HW7
      clear HW7 b7 n7 b57 hb m0 m1 F2 F3 HC5 HCN HD5 HCX HB5 HA1
      go_upto_region 6 with fail
      rw [← HW7'.out]
      clear HW7'
      obtain ⟨r0, r1, -, -⟩ := K3.out.c2
      go_wp2_with fail
      refine (HA2.out _ _ HB57.out HC7.out).mono ?_
      rintro e w8 ⟨s', b8, n8, c8, e', rfl, HDX, hb⟩
      obtain ⟨he, hdu⟩ := HAG.out _ _ _ _ _ _ _ (HCB.out _ _ _ _ _ HCX7.out hb) HDX.out
      obtain ⟨w9, HW9⟩ : ∃ w9, w9 = w8.alloc (.cells #[.int .i64 s', .slice b8 n8 c8] 33) := ⟨_, rfl⟩
      have b9 : Below w8.heap.size w8 w9 := by rw [HW9]; exact alloc_below _ _
      have n9 : Bx w8.heap.size [.int .i64 s', .slice b8 n8 c8] w9 := by rw [HW9]; exact Bx.new w8 [.int .i64 s', .slice b8 n8 c8] 33 (by simp)
      have b79 := hb.trans (b9.mono hb.size)
      have L2 := Lib.hid (K2.out.next b79); have L3 := Lib.hid (K3.out.next b79); have L7 := Lib.hid (K7.out.next b79); have L9 := Lib.hid n9
      have HC9 := Lib.hid (HC7.out.below b79); have HCN9 := Lib.hid (HCN7.out.below b79); have HD9 := Lib.hid (HD7.out.below b79)
      have HDU := Lib.hid (hdu.below b9)
      have HB9 := Lib.hid (HB7.out.trans (b79.mono HB7.out.size))
      have HW9' := Lib.hid HW9
      subst he
      clear HW9 b9 n9 b79 hb r0 r1 K2 K3 K7 HC7 HCN7 HD7 HB7 HCX7 HDX hdu HA2 HAG HCB HB57
      have HALL : Hid (∀ W', Below w9.heap.size w9 W' → (W'.cell? ⟨w2.heap.size, 0, none⟩ = some (.pointer p) ∧ W'.cell? ⟨w2.heap.size, 1, none⟩ = some (.int .i64 z)) ∧ (W'.cell? ⟨w2.heap.size + 1, 0, none⟩ = some (.int .i64 s) ∧ W'.cell? ⟨w2.heap.size + 1, 1, none⟩ = some (.slice va vn vc)) ∧ (W'.cell? ⟨w6.heap.size, 0, none⟩ = some (.pointer q) ∧ W'.cell? ⟨w6.heap.size, 1, none⟩ = some (.int .i64 s2)) ∧ (W'.cell? ⟨w8.heap.size, 0, none⟩ = some (.int .i64 s') ∧ W'.cell? ⟨w8.heap.size, 1, none⟩ = some (.slice b8 n8 c8))) := fun W' h =>
        ⟨⟨(L2.out.next h).c2.1, (L2.out.next h).c2.2.1⟩, ⟨(L3.out.next h).c2.1, (L3.out.next h).c2.2.1⟩, ⟨(L7.out.next h).c2.1, (L7.out.next h).c2.2.1⟩, ⟨(L9.out.next h).c2.1, (L9.out.next h).c2.2.1⟩⟩
      go_upto_region 7 with fail
      rw [← HW9'.out]
      clear HW9'
      obtain ⟨⟨a0, a1⟩, ⟨a2, a3⟩, ⟨a4, a5⟩, ⟨a6, a7⟩⟩ := HALL.out _ (Below.refl _ _)
      go_wp2_with fail
      refine (same_dual HDU.out).mono ?_
      rintro e x1 ⟨rfl, hb⟩
      have B1 := Lib.hid hb.out
      clear hb a0 a1 a2 a3 a4 a5 a6 a7
      obtain ⟨⟨a0, a1⟩, ⟨a2, a3⟩, ⟨a4, a5⟩, ⟨a6, a7⟩⟩ := HALL.out _ B1.out
      go_wp2_with fail
      refine (same_dual (HD9.out.below B1.out)).mono ?_
      rintro e x2 ⟨rfl, hb⟩
      have B2 := Lib.hid (B1.out.trans (hb.out.mono B1.out.size))
      clear hb a0 a1 a2 a3 a4 a5 a6 a7
      go_wp2_with fail
      refine (RChanged_same (HCN9.out.below B2.out) (HC9.out.below B2.out) (by have := HM.out; have := HMB.out; omega)).mono ?_
      rintro e x3 ⟨rfl, hb⟩
      have B3 := Lib.hid (B2.out.trans (hb.out.mono B2.out.size))
      clear hb
      go_wp2_with fail
      refine (HAW.out _).mono ?_
      rintro e x4 ⟨rfl, hb⟩
      have HF := Lib.hid (HB9.out.trans ((B3.out.trans (hb.mono B3.out.size)).mono HB9.out.size))
      clear hb
      go_wp2_with fail
      go_ret
      exact ⟨rfl, HF.out⟩
  · have HFW : Hid (∀ W', Calls Try.prog 11 #[.slice ao n c] W' fun e w' => e = .returned (.bool false) ∧ W' = w') := fun W' => by
      have := few_any ao n c W'
      rwa [decide_eq_false hf] at this
    go_enter Try.func7, Try.ntmps7
    go_wp2_with fail
    refine (HFW.out _).mono ?_
    rintro e w1 ⟨rfl, rfl⟩
    go_wp2_with fail
    refine (HAW.out _).mono ?_
    rintro e w2 ⟨rfl, hb⟩
    have HB2 := Lib.hid hb
    clear hb
    go_wp2_with fail
    go_ret
    exact ⟨rfl, HB2.out⟩
section
open Go.ChangeShapes Go.WideShapes Go.ChangeAt Go.Deep
theorem four_ch : Try.prog.cellsOf 107 = 4 := by kernel_rfl
section
variable {H : Type} {enc : TypeId × Value → H} {W : World} {base : Nat} {sp : Nat → Bool} {held : Bool}
theorem ch_cells {fuel : Nat} {cs : List Value} {x : DataW H × List MemPlace} (h : DataW.trod enc Try.prog W base sp held fuel 107 cs = some x) :
    ∃ a : Ch, cs[0]? = some (.int .i64 a.lo) ∧ cs[1]? = some (.int .i64 a.hi) ∧ cs[2]? = some (.int .i64 a.fr) ∧ cs[3]? = some (.int .i64 a.tt) ∧ cs.length = 4 := by
  obtain ⟨xs, n, _, _, hl, hx, hg⟩ := DataW.trod_struct Try.underlying107 h
  have hx : xs.length = 4 := hx
  obtain ⟨b0, e0⟩ := fld_int (i := 0) (by omega) (hg 0 _ rfl)
  obtain ⟨b1, e1⟩ := fld_int (i := 1) (by omega) (hg 1 _ rfl)
  obtain ⟨b2, e2⟩ := fld_int (i := 2) (by omega) (hg 2 _ rfl)
  obtain ⟨b3, e3⟩ := fld_int (i := 3) (by omega) (hg 3 _ rfl)
  exact ⟨⟨b0, b1, b2, b3⟩, e0, e1, e2, e3, by rw [hl, four_ch]⟩
/-- a list of changes -/
theorem changes_of {v : Value} {d : DataW H} {p : List MemPlace} (h : DataW.Trod enc Try.prog W 0 (fun _ => true) true 66 v d p) (hv : ∃ a n c, v = .slice a n c) : ∃ l, IsCs W v l ∧ (v = .slice none 0 0 ∨ ∃ a m c, v = .slice (some a) m c) := by
  obtain ⟨a0, len0, cap0, rfl⟩ := hv
  obtain ⟨fuel, hf⟩ := h
  rcases open_slice Try.underlying66 hf with ⟨hcs, _⟩ | ⟨a, len, cap, m, n, D, Pl, hcs, _, hl, _, hm, _, hi⟩
  · simp [Value.cells] at hcs
    obtain ⟨rfl, rfl, rfl⟩ := hcs
    exact ⟨[], ⟨none, 0, rfl, fun h => absurd h (by simp)⟩, .inl rfl⟩
  · simp [Value.cells] at hcs
    obtain ⟨rfl, rfl, rfl⟩ := hcs
    simp only [if_true] at hm
    have hex : ∀ i, i < len0 → ∃ x : Ch, ∀ j, j < 4 → W.cell? ((a.add (i * 4)).add j) = [Value.int .i64 x.lo, .int .i64 x.hi, .int .i64 x.fr, .int .i64 x.tt][j]? := fun i hlt => by
      obtain ⟨cs', hc, ht⟩ := hi i (by omega)
      rw [four_ch] at hc
      obtain ⟨_, hln, hat⟩ := World.cells?_some hc
      obtain ⟨x, e0, e1, e2, e3, _⟩ := ch_cells ht
      refine ⟨x, fun j hj => ?_⟩
      rw [hat j hj]
      have : j = 0 ∨ j = 1 ∨ j = 2 ∨ j = 3 := by omega
      rcases this with rfl | rfl | rfl | rfl
      · exact e0
      · exact e1
      · exact e2
      · exact e3
    obtain ⟨g, hg⟩ : ∃ g : Nat → Ch, ∀ i, i < len0 → ∀ j, j < 4 → W.cell? ((a.add (i * 4)).add j) = [Value.int .i64 (g i).lo, .int .i64 (g i).hi, .int .i64 (g i).fr, .int .i64 (g i).tt][j]? :=
      ⟨fun i => if h : i < len0 then (hex i h).choose else ⟨0, 0, 0, 0⟩, fun i h => by simp only [dif_pos h]; exact (hex i h).choose_spec⟩
    refine ⟨(List.range len0).map g, ⟨some a, cap0, by simp, fun hp => ?_⟩, .inr ⟨_, _, _, rfl⟩⟩
    have hp : 0 < len0 := by simpa using hp
    obtain ⟨b, o, s⟩ := a
    have h00 := hg 0 hp 0 (by decide)
    obtain rfl : s = none := by
      cases s with
      | none => rfl
      | some _ =>
        exfalso
        unfold World.cell? Addr.add at h00
        simp only [if_true] at h00
        split at h00 <;> simp at h00
    refine ⟨b, o, rfl, ?_, fun j hj => ?_⟩
    · have h1 : W.cell? ⟨b, o, none⟩ = some (.int .i64 (g 0).lo) := by simpa [Addr.add] using h00
      exact World.block_lt_of_cell? _ _ h1
    · have hj : j < len0 := by simpa using hj
      have k : ∀ i, i < 4 → W.cell? ⟨b, o + j * 4 + i, none⟩ = [Value.int .i64 (g j).lo, .int .i64 (g j).hi, .int .i64 (g j).fr, .int .i64 (g j).tt][i]? := fun i hi => by
        have := hg j hj i hi
        rwa [addz, addz] at this
      have e : ((List.range len0).map g)[j]'(by simpa using hj) = g j := by simp
      refine ⟨?_, ?_, ?_, ?_⟩
      · rw [e]; exact k 0 (by decide)
      · rw [e]; exact k 1 (by decide)
      · rw [e]; exact k 2 (by decide)
      · rw [e]; exact k 3 (by decide)
end
end
end Go.Proofs.Ytahgfggcpmnnaaa
namespace Go.Proofs.Ytahgfggcpmnnaaa
open Go Go.RowKit Go.Shelf Gs

attribute [local go_sem] Oper.semAt_some

/-- the changes within one run -/
def diff1 (x : R) (l : List R) : List Ch := (l.filter fun r => decide (r.tag ≠ x.tag)).map fun r => ⟨r.lo, r.hi, x.tag, r.tag⟩
/-- the changes from one list of runs to another -/
def diffE (la lb : List R) : List Ch := la.flatMap fun x => diff1 x (clip x.lo x.hi lb)
theorem diff1_snoc (x : R) (l : List R) (y : R) : diff1 x (l ++ [y]) = diff1 x l ++ (if y.tag = x.tag then [] else [⟨y.lo, y.hi, x.tag, y.tag⟩]) := by
  unfold diff1
  by_cases h : y.tag = x.tag
  · simp [h]
  · simp [h]
theorem diff1_len (x : R) (l : List R) : (diff1 x l).length ≤ l.length := by
  unfold diff1
  rw [List.length_map]
  exact List.length_filter_le _ _
theorem diffE_snoc (la : List R) (x : R) (lb : List R) : diffE (la ++ [x]) lb = diffE la lb ++ diff1 x (clip x.lo x.hi lb) := by
  unfold diffE
  rw [List.flatMap_append, List.flatMap_cons, List.flatMap_nil, List.append_nil]
theorem len_snoc {α : Type} (l : List α) (x : α) : (l ++ [x]).length = l.length + 1 := by simp
theorem cells4_new (w : World) (x y z u : Value) (t : TypeId) : ∀ j v, [x, y, z, u][j]? = some v → (w.alloc (.cells #[x, y, z, u] t)).cell? ((⟨w.heap.size, 0, none⟩ : Addr).add j) = some v := by
  intro j v hj
  match j, hj with
  | 0, hj => simp at hj; subst hj; exact World.cell?_alloc_at _ _ _ _ rfl
  | 1, hj => simp at hj; subst hj; exact World.cell?_alloc_at _ _ _ _ rfl
  | 2, hj => simp at hj; subst hj; exact World.cell?_alloc_at _ _ _ _ rfl
  | 3, hj => simp at hj; subst hj; exact World.cell?_alloc_at _ _ _ _ rfl
theorem infoCh : (Try.prog.info? 107).map (fun i => (i.zero, i.size, i.bytes)) = some (some (.agg #[.int .i64 0, .int .i64 0, .int .i64 0, .int .i64 0]), 4, 32) := by kernel_rfl
/-- a map's box, as a whole object -/
def Mh (W : World) (B : Nat) (p : Option Addr) (size : Int) : Prop := W.heap[B]? = some (.cells #[.pointer p, .int .i64 size] 27 (0, 0))
theorem Mh.lt {W : World} {B : Nat} {p : Option Addr} {size : Int} (h : Mh W B p size) : B < W.heap.size := (Array.getElem?_eq_some_iff.1 h).1
theorem Mh.kept {W W' : World} {row : Option Nat} {B : Nat} {p : Option Addr} {size : Int} (h : Mh W B p size) (hg : W.grownBy W' row) (hne : some B ≠ row) : Mh W' B p size := (hg.block B h.lt hne).trans h
theorem Mh.own (B : Nat) (p : Option Addr) (size : Int) : Own (fun (_ : Unit) W => Mh W B p size) := fun s X Y row hs hg hrow => hs.kept hg fun e' => by
  obtain ⟨o, ho, hc⟩ := hrow B e'.symm
  rw [show X.heap[B]? = _ from hs] at ho; cases ho; cases hc
theorem Mh.cell {W : World} {B : Nat} {p : Option Addr} {size : Int} (h : Mh W B p size) : W.cell? ⟨B, 0, none⟩ = some (.pointer p) := by
  have h' : W.heap[B]? = _ := h
  simp [World.cell?, h']
theorem Mh.alloc {W : World} {B : Nat} {p : Option Addr} {size : Int} (h : Mh W B p size) (o : Obj) : Mh (W.alloc o) B p size := (Below.heap_alloc W o B h.lt).trans h
theorem Rb.alloc {W : World} {B : Nat} {r : R} (h : Rb W B r) (o : Obj) : Rb (W.alloc o) B r := (Below.heap_alloc W o B h.lt).trans h
theorem Mh.other {W : World} {B B' : Nat} {p : Option Addr} {size : Int} (h : Mh W B p size) (hne : B ≠ B') (u : Value) : Mh (W.setCell ⟨B', 0, none⟩ u) B p size := h.kept (grownBy_setCell' W B' u) (fun e => hne (by cases e; rfl))
theorem Rb.other {W : World} {B B' : Nat} {r : R} (h : Rb W B r) (hne : B ≠ B') (u : Value) : Rb (W.setCell ⟨B', 0, none⟩ u) B r := h.kept (grownBy_setCell' W B' u) (fun e => hne (by cases e; rfl))
/-- a box of cells that is no row's block -/
theorem ne_row {W : World} {B : Nat} {cs : Array Value} {t e : TypeId} {fr : Nat × Nat} (h : W.heap[B]? = some (.cells cs t fr)) (hte : t ≠ e) {base size k : Nat} {v : Value} {xs : List Value} (hr : W.ownsRow base e size v k xs) : some B ≠ v.ownBlock := by
  rcases hr.2 with ⟨rfl, _⟩ | ⟨g, cap, cur, rfl, _, hgb, _⟩
  · simp [Value.ownBlock]
  · intro e'
    obtain rfl : B = g := by simpa [Value.ownBlock] using e'
    have := h.symm.trans hgb
    simp at this
    exact hte this.2.1
set_option maxRecDepth 100000 in
set_option maxHeartbeats 4000000 in
theorem Diff_any {f g : Int → Int} {size : Int} {W : World} {p q : Option Addr} (h : IsM f size W p) (h' : IsM g size W q) :
    ∃ La Lb, Gs.Can f 0 La size ∧ Gs.Can g 0 Lb size ∧ Calls Try.prog 29 #[.agg #[.pointer p, .int .i64 size], .agg #[.pointer q, .int .i64 size]] W fun e w' => ∃ v, e = .returned (.tuple #[v, .int .i64 0]) ∧
      Hid (w'.ownsRow W.heap.size 107 4 v (diffE La Lb).length ((diffE La Lb).flatMap encC)) ∧ Below W.heap.size W w' := by
  have hs := h.lo
  obtain ⟨bp, rfl⟩ := h.some
  obtain ⟨bq, rfl⟩ := h'.some
  obtain ⟨ta, a1, a2, a3⟩ := h.tr
  obtain ⟨tb, b1, b2, b3⟩ := h'.tr
  have hcl := Gs.Can.same (clip_can a2 (Int.le_refl 0) (by omega) (Int.le_refl size)) a2
  refine ⟨ta.L, tb.L, a2, b2, ?_⟩
  have hla : ta.L.length ≤ 4096 := by rw [← T.sz_eq]; exact a3
  have HLB : Hid (∀ lo hi, (clip lo hi tb.L).length ≤ 4096) := fun lo hi => Nat.le_trans (clip_len _ _ _) (by rw [← T.sz_eq]; exact b3)
  obtain ⟨w0, HW, hm, hr, hc, hlt, hb⟩ := two_maps W (some bp, size) (some bq, size) 27 27
  have hs0 : w0.heap.size = W.heap.size + 1 + 1 + 1 := by rw [HW]; simp
  have HCK : Hid (Calls Try.prog 57 #[.slice (some ⟨W.heap.size + 1 + 1, 0, none⟩) 2 2] w0 fun e w' => e = .returned (.int .i64 0) ∧ Below w0.heap.size w0 w') :=
    checkSizes_ok (W.heap.size + 1 + 1) 2 [(some bp, size), (some bq, size)] size 0 w0 hlt (fun j hj => by
      have : j = 0 ∨ j = 1 := by simp at hj; omega
      rcases this with rfl | rfl
      · exact ⟨hc 0 _ rfl, hc 1 _ rfl⟩
      · exact ⟨hc 2 _ rfl, hc 3 _ rfl⟩) (by simp) (by simp) (by simp) (hc 1 _ rfl) (fun _ => rfl) (by simp)
  have hmh : Mh w0 (W.heap.size + 1) (some ⟨bq, 0, none⟩) size := by
    have h2 := World.alloc_heap_new (W.alloc (.cells #[.pointer (some ⟨bp, 0, none⟩), .int .i64 size] 27)) (.cells #[.pointer (some ⟨bq, 0, none⟩), .int .i64 size] 27)
    rw [World.size_alloc] at h2
    rw [HW]
    exact (Below.heap_alloc _ _ _ (by simp)).trans h2
  have HM := Lib.hid hm; have HMH := Lib.hid hmh; have HB := Lib.hid hb; have HW' := Lib.hid HW; have HS0 := Lib.hid hs0
  have HTA : Hid (IsTB W.heap.size W ta (some ⟨bp, 0, none⟩)) := IsT.tb a1
  have HTB : Hid (IsTB W.heap.size W tb (some ⟨bq, 0, none⟩)) := IsT.tb b1
  have HA2 := Lib.hid a2; have HB2 := Lib.hid b2; have HCL := Lib.hid hcl
  have HMP : Hid ((MV.p (some bp, size)) = some ⟨bp, 0, none⟩) := rfl
  have HMQ : Hid ((MV.p (some bq, size)) = some ⟨bq, 0, none⟩) := rfl
  have HW2 : Hid (w0 = ((W.alloc (.cells #[.pointer (some ⟨bp, 0, none⟩), .int .i64 size] 27)).alloc (.cells #[.pointer (some ⟨bq, 0, none⟩), .int .i64 size] 27)).alloc (.cells #[.pointer (some ⟨bp, 0, none⟩), .int .i64 size, .pointer (some ⟨bq, 0, none⟩), .int .i64 size] 27)) := HW
  clear h h' a1 a2 a3 b1 b2 b3 hcl hm hr hc hlt hb hs0 hmh HW HW'
  refine (callsIn_wide (n := 20)).1 ?_
  refine callsIn_of_wp_marks Try.func29 rfl trivial ?_ rfl
  simp only [Try.ntmps29, List.size_toArray, List.length_cons, List.length_nil, Nat.reduceAdd, Nat.reduceSub, Array.replicate_succ, Array.replicate_zero, List.push_toArray, List.append_toArray, List.nil_append, List.cons_append]
  gi_wp2_with fail
  rw [← HW2.out]
  refine ⟨trivial, (callsIn_wide.2 HCK.out).mono ?_⟩
  rintro e w1 ⟨rfl, hb⟩
  have HM1 := Lib.hid (HM.out.next hb)
  have HMH1 : Hid (Mh w1 (W.heap.size + 1) (some ⟨bq, 0, none⟩) size) := (hb.block _ HMH.out.lt).trans HMH.out
  have HB1 := Lib.hid (HB.out.trans (hb.mono HB.out.size))
  have hs1 : W.heap.size + 1 + 1 + 1 ≤ w1.heap.size := by have := hb.size; have := HS0.out; omega
  obtain ⟨w2, HW2⟩ : ∃ w2, w2 = w1.alloc (.cells #[.slice none 0 0] 66) := ⟨_, rfl⟩
  have b2 : Below w1.heap.size w1 w2 := by rw [HW2]; exact (Below.refl _ _).alloc (Nat.le_refl _) _
  have o2 : Boxed w2 w1.heap.size 66 (.slice none 0 0) := by rw [HW2]; exact Boxed.new _ _ _
  have s2 : w2.heap.size = w1.heap.size + 1 := by rw [HW2]; simp
  obtain ⟨w3, HW3⟩ : ∃ w3, w3 = w2.alloc (.cells #[.pointer (some ⟨bp, 0, none⟩), .int .i64 size] 27) := ⟨_, rfl⟩
  have b3 : Below w2.heap.size w2 w3 := by rw [HW3]; exact (Below.refl _ _).alloc (Nat.le_refl _) _
  have s3 : w3.heap.size = w1.heap.size + 1 + 1 := by rw [HW3, World.size_alloc, s2]
  obtain ⟨q0, q1, q2, q3, q4⟩ := seq_cells w3 (some ⟨bp, 0, none⟩) 0 size
  rw [s3] at q0 q1 q2 q3
  have b4 := b3.trans (q4.mono b3.size)
  have HO4 : Hid (Boxed (seqW w3 (some ⟨bp, 0, none⟩) 0 size) w1.heap.size 66 (.slice none 0 0)) := (b4.block _ o2.lt).trans o2
  have b5 := b2.trans (b4.mono b2.size)
  have HMH4 : Hid (Mh (seqW w3 (some ⟨bp, 0, none⟩) 0 size) (W.heap.size + 1) (some ⟨bq, 0, none⟩) size) := (b5.block _ HMH1.out.lt).trans HMH1.out
  have HSB := Lib.hid (HB1.out.trans (b5.mono HB1.out.size))
  have HSQ := Lib.hid (seq_stops (n := 19) (n₀ := W.heap.size) (lo := 0) (hi := size) (by rw [q3]; omega) HSB.out.size q0 q1 q2 (HTA.out.below HSB.out) HA2.out)
  have HAL : Hid (CallsIn Fence.wide 19 Try.prog 58 #[.agg #[.pointer (some ⟨bp, 0, none⟩), .int .i64 size]] w2 fun e w' => e = .returned (seqV (w1.heap.size + 1 + 1)) ∧ w' = seqW w3 (some ⟨bp, 0, none⟩) 0 size) := callsIn_wide.2 (by rw [HW3, ← s2]; exact all_any _ _ w2)
  have HM2 := Lib.hid (HM1.out.next b2)
  have k0 := HM2.out.c0; have k1 := HM2.out.c1
  rw [HMP.out] at k0
  have HW2' := Lib.hid HW2
  generalize seqW w3 (some ⟨bp, 0, none⟩) 0 size = w4 at *
  clear hb b2 o2 s2 q0 q1 q2 q3 q4 b3 b4 b5 s3 HW2 HW3
  gi_upto_region 5 with fail
  rw [← HW2'.out]
  gi_wp2_with fail
  refine ⟨trivial, HAL.out.mono ?_⟩
  rintro e w' ⟨rfl, rfl⟩
  gi_wp2_with fail
  have hge : W.heap.size ≤ w'.heap.size := HSB.out.size
  have hBO : w1.heap.size < w'.heap.size := HO4.out.lt
  obtain ⟨i0, hi0, hz0, hz1, hz2⟩ := info_parts infoCh
  refine wpIn_rangeFunc_ownH rfl (by omega) (gf := 72) (lb := #[.pointer (some ⟨w1.heap.size + 1 + 1, 0, none⟩), .pointer (some ⟨w1.heap.size + 1 + 1 + 1, 0, none⟩), .pointer (some ⟨w1.heap.size + 1 + 1 + 1 + 1, 0, none⟩)]) rfl trivial (enters_of Try.func72 (by kernel_rfl) rfl)
    HSQ.out belowK_t (belowK_b hge) (Below.refl _ _) (fun _ => rfl)
    (fun pre W' => ((∃ v, Boxed W' w1.heap.size 66 v ∧ W'.ownsRow W.heap.size 107 4 v (diffE pre tb.L).length ((diffE pre tb.L).flatMap encC) ∧ True) ∧ Mh W' (W.heap.size + 1) (some ⟨bq, 0, none⟩) size ∧ (diffE pre tb.L).length ≤ pre.length * 4096) ∧ Below W.heap.size W W')
    (fun _ _ _ => False)
    (OwnFrom.and (Own.from (fun s A B row hs hg hr => ⟨holdsRow_own W.heap.size w1.heap.size 66 107 4 (fun pre : List R => (diffE pre tb.L).length) (fun pre => (diffE pre tb.L).flatMap encC) (fun _ _ => True) s A B row hs.1 hg hr, Mh.own (W.heap.size + 1) (some ⟨bq, 0, none⟩) size () A B row hs.2.1 hg hr, hs.2.2⟩) _) (ownFrom_below (Nat.le_refl _) hge))
    (fun _ _ _ _ _ hs _ _ => hs)
    ⟨⟨⟨_, HO4.out, World.ownsRow_nil _ _ _ _, trivial⟩, HMH4.out, Nat.zero_le _⟩, HSB.out⟩
    (fun x a' W' => ∃ Bx, w1.heap.size < Bx ∧ Rb W' Bx x ∧ a' = { tmps := #[.agg #[.pointer (some ⟨bp, 0, none⟩), .int .i64 size], .agg #[.pointer (some ⟨bq, 0, none⟩), .int .i64 size], .pointer (some ⟨W.heap.size, 0, none⟩), .pointer (some ⟨W.heap.size + 1, 0, none⟩), .slice none 0 0, .int .i64 0, .int .i64 0, .pointer (some ⟨w1.heap.size, 0, none⟩), .pointer (some ⟨Bx, 0, none⟩), undef, .agg #[.pointer (some ⟨bp, 0, none⟩), .int .i64 size], .agg #[.pointer (some ⟨bq, 0, none⟩), .int .i64 size], .slice (some ⟨W.heap.size + 1 + 1, 0, none⟩) 2 2, .int .i64 0, .int .i64 0, .bool false, undef, .agg #[.pointer (some ⟨bp, 0, none⟩), .int .i64 size], seqV (w1.heap.size + 1 + 1), .agg #[.int .i64 x.lo, .int .i64 x.hi, .int .i64 x.tag], undef, undef, undef, undef, undef, undef, undef, undef, undef, undef, undef, undef, undef, undef, undef, undef, undef, undef, undef, undef, undef, undef, undef, undef, undef, undef], defers := [] })
    (fun x a' => Own.from (fun s A B row hs hg hr => by
      obtain ⟨Bx, h1, h2, h3⟩ := hs
      exact ⟨Bx, h1, Rb.own Bx x () A B row h2 hg hr, h3⟩) _) ?assign ?body ?done ?stop
  case assign =>
    rintro l pre ⟨xa, xb, xc⟩ W' K ⟨⟨⟨v, g1, g2, -⟩, g3, g4⟩, g5⟩ hK
    unfold encR
    gi_wp2
    exact hK _ _ ((KeepsOthers.alloc _ _).from _) ((Below.refl _ W').alloc g5.size _) ⟨⟨⟨v, g1.alloc _, g2.alloc _, trivial⟩, g3.alloc _, g4⟩, g5.alloc g5.size _⟩ ⟨W'.heap.size, g1.lt, Rb.new W' ⟨xa, xb, xc⟩, rfl⟩
  case body =>
    rintro l pre ⟨xa, xb, xc⟩ a' W' hl ⟨r, hr⟩ ⟨⟨⟨v, g1, g2, -⟩, g3, g4⟩, g5⟩ ⟨Bx, hBx, bX, rfl⟩ hlt
    have hla2 : pre.length < 4096 := by rw [HCL.out] at hlt; omega
    have m0 := g3.cell
    obtain ⟨r0, r1, r2⟩ := bX.cells
    simp only at r0 r1 r2
    obtain ⟨q0, q1, q2, q3, q4⟩ := seq_cells W' (some ⟨bq, 0, none⟩) xa xb
    have HWI : Hid (CallsIn Fence.wide 17 Try.prog 47 #[.pointer (some ⟨bq, 0, none⟩), .int .i64 xa, .int .i64 xb] W' fun e w' => e = .returned (seqV W'.heap.size) ∧ w' = seqW W' (some ⟨bq, 0, none⟩) xa xb) := callsIn_wide.2 (within_any _ _ _ W')
    have i1 : Boxed (seqW W' (some ⟨bq, 0, none⟩) xa xb) w1.heap.size 66 v := ((g1.alloc _).alloc _).alloc _
    have i2 : (seqW W' (some ⟨bq, 0, none⟩) xa xb).ownsRow W.heap.size 107 4 v (diffE pre tb.L ++ diff1 ⟨xa, xb, xc⟩ []).length ((diffE pre tb.L ++ diff1 ⟨xa, xb, xc⟩ []).flatMap encC) := by
      rw [show diff1 ⟨xa, xb, xc⟩ [] = [] from rfl, List.append_nil]
      exact ((g2.alloc _).alloc _).alloc _
    have i3 : Mh (seqW W' (some ⟨bq, 0, none⟩) xa xb) (W.heap.size + 1) (some ⟨bq, 0, none⟩) size := ((g3.alloc _).alloc _).alloc _
    have i4 : Rb (seqW W' (some ⟨bq, 0, none⟩) xa xb) Bx ⟨xa, xb, xc⟩ := ((bX.alloc _).alloc _).alloc _
    have i5 : KeepsFrom w'.heap.size W' (seqW W' (some ⟨bq, 0, none⟩) xa xb) := (((KeepsOthers.alloc _ _).trans (KeepsOthers.alloc _ _)).trans (KeepsOthers.alloc _ _)).from _
    have hr' : (seqW W' (some ⟨bq, 0, none⟩) xa xb).heap[l]? = some (.loop r) := (q4.block l (Array.getElem?_eq_some_iff.1 hr).1).trans hr
    have i6 : Below W.heap.size W' (seqW W' (some ⟨bq, 0, none⟩) xa xb) := q4.mono g5.size
    have hsz5 := Nat.le_trans g5.size q4.size
    have i7 : W.heap.size ≤ (seqW W' (some ⟨bq, 0, none⟩) xa xb).heap.size := hsz5
    have i8 : w'.heap.size ≤ W'.heap.size := by have := (Array.getElem?_eq_some_iff.1 hr).1; omega
    have HSQ2 := Lib.hid (seq_stops (n := 17) (n₀ := W.heap.size) (lo := xa) (hi := xb) (w := seqW W' (some ⟨bq, 0, none⟩) xa xb) (B := W'.heap.size) (by rw [q3]; omega) hsz5 q0 q1 q2 (HTB.out.below (g5.trans i6)) HB2.out)
    have G5 := Lib.hid g5
    clear q0 q1 q2 q3 q4 g1 g2 bX hsz5 g5 hlt
    generalize seqW W' (some ⟨bq, 0, none⟩) xa xb = w5 at *
    gi_wp2_with (refine ⟨trivial, ?_⟩; gi_at_call 47; refine (CallsIn.inRound l HWI.out).mono ?_; rintro e w6 ⟨rfl, rfl⟩)
    refine wpIn_rangeFunc_ownN (l₀ := l) (r₀ := r) rfl hr' (by omega) (gf := 72) (lb := #[.pointer (some ⟨W'.heap.size, 0, none⟩), .pointer (some ⟨W'.heap.size + 1, 0, none⟩), .pointer (some ⟨W'.heap.size + 1 + 1, 0, none⟩)]) rfl trivial (enters_of Try.func72 (by kernel_rfl) rfl)
      (HSQ2.out.inRound l) belowK_t (belowK_b i7) (Below.refl _ _) (fun _ => rfl)
      (fun pre' W'' => ((∃ v, Boxed W'' w1.heap.size 66 v ∧ W''.ownsRow W.heap.size 107 4 v (diffE pre tb.L ++ diff1 ⟨xa, xb, xc⟩ pre').length ((diffE pre tb.L ++ diff1 ⟨xa, xb, xc⟩ pre').flatMap encC) ∧ True) ∧ (Mh W'' (W.heap.size + 1) (some ⟨bq, 0, none⟩) size ∧ Rb W'' Bx ⟨xa, xb, xc⟩) ∧ (diffE pre tb.L ++ diff1 ⟨xa, xb, xc⟩ pre').length ≤ pre.length * 4096 + pre'.length) ∧ (Below W.heap.size W' W'' ∧ KeepsFrom w'.heap.size W' W''))
      (fun _ _ _ => False)
      (OwnFrom.and (Own.from (fun s A B row hs hg hr => ⟨holdsRow_own W.heap.size w1.heap.size 66 107 4 (fun pre' : List R => (diffE pre tb.L ++ diff1 ⟨xa, xb, xc⟩ pre').length) (fun pre' => (diffE pre tb.L ++ diff1 ⟨xa, xb, xc⟩ pre').flatMap encC) (fun _ _ => True) s A B row hs.1 hg hr, ⟨Mh.own (W.heap.size + 1) (some ⟨bq, 0, none⟩) size () A B row hs.2.1.1 hg hr, Rb.own Bx ⟨xa, xb, xc⟩ () A B row hs.2.1.2 hg hr⟩, hs.2.2⟩) _) (OwnFrom.and (ownFrom_below G5.out.size i7) (ownFrom_keepsFrom i5.size)))
      (fun _ _ _ _ _ hs _ _ => hs)
      ⟨⟨⟨_, i1, i2, trivial⟩, ⟨i3, i4⟩, by rw [show diff1 ⟨xa, xb, xc⟩ [] = [] from rfl, List.append_nil]; exact g4⟩, i6, i5⟩
      (fun y a'' W'' => ∃ By, w1.heap.size < By ∧ Rb W'' By y ∧ a'' = { tmps := #[.agg #[.pointer (some ⟨bp, 0, none⟩), .int .i64 size], .agg #[.pointer (some ⟨bq, 0, none⟩), .int .i64 size], .pointer (some ⟨W.heap.size, 0, none⟩), .pointer (some ⟨W.heap.size + 1, 0, none⟩), .slice none 0 0, .int .i64 0, .int .i64 0, .pointer (some ⟨w1.heap.size, 0, none⟩), .pointer (some ⟨Bx, 0, none⟩), .pointer (some ⟨By, 0, none⟩), .agg #[.pointer (some ⟨bp, 0, none⟩), .int .i64 size], .agg #[.pointer (some ⟨bq, 0, none⟩), .int .i64 size], .slice (some ⟨W.heap.size + 1 + 1, 0, none⟩) 2 2, .int .i64 0, .int .i64 0, .bool false, undef, .agg #[.pointer (some ⟨bp, 0, none⟩), .int .i64 size], seqV (w1.heap.size + 1 + 1), .agg #[.int .i64 xa, .int .i64 xb, .int .i64 xc], .pointer (some ⟨W.heap.size + 1, 0, none⟩), .pointer (some ⟨bq, 0, none⟩), .pointer (some ⟨Bx, 0, none⟩), .int .i64 xa, .pointer (some ⟨Bx, 1, none⟩), .int .i64 xb, seqV W'.heap.size, .agg #[.int .i64 y.lo, .int .i64 y.hi, .int .i64 y.tag], undef, undef, undef, undef, undef, undef, undef, undef, undef, undef, undef, undef, undef, undef, undef, undef, undef, undef], defers := [] })
      (fun y a'' => Own.from (fun s A B row hs hg hr => by
        obtain ⟨By, h1, h2, h3⟩ := hs
        exact ⟨By, h1, Rb.own By y () A B row h2 hg hr, h3⟩) _) ?assign2 ?body2 ?done2 ?stop2
    case assign2 =>
      rintro l2 pre' ⟨ya, yb, yc⟩ W'' K ⟨⟨⟨v, c1, c2, -⟩, ⟨c3, c4⟩, c5⟩, hBW, hKF⟩ hK
      unfold encR
      gi_wp2
      exact hK _ _ ((KeepsOthers.alloc _ _).from _) ((Below.refl _ W'').alloc (Nat.le_trans G5.out.size hBW.size) _) ⟨⟨⟨v, c1.alloc _, c2.alloc _, trivial⟩, ⟨c3.alloc _, c4.alloc _⟩, c5⟩, hBW.alloc (Nat.le_trans G5.out.size hBW.size) _, hKF.trans ((KeepsOthers.alloc _ _).from _)⟩ ⟨W''.heap.size, c1.lt, Rb.new W'' ⟨ya, yb, yc⟩, rfl⟩
    case body2 =>
      rintro l2 pre' ⟨ya, yb, yc⟩ a'' W'' _ _ ⟨⟨⟨v, c1, c2, -⟩, ⟨c3, c4⟩, c5⟩, hBW, hKF⟩ ⟨By, hBy, bY, rfl⟩ hlt2
      have hl3 := HLB.out xa xb
      obtain ⟨XL, HXL⟩ : ∃ XL, XL = diffE pre tb.L ++ diff1 ⟨xa, xb, xc⟩ pre' := ⟨_, rfl⟩
      rw [← HXL] at c2 c5
      have HXL' := Lib.hid HXL
      clear HXL
      have HXL := HXL'
      clear HXL'
      have hml : XL.length + 1 ≤ maxLen := Nat.le_trans (show _ ≤ 20000000 by omega) (by decide)
      have hsz2 : W.heap.size ≤ W''.heap.size := Nat.le_trans G5.out.size hBW.size
      have hc0 := c1.cell
      obtain ⟨r0, r1, r2⟩ := c4.cells
      obtain ⟨y0, y1, y2⟩ := bY.cells
      simp only at r0 r1 r2 y0 y1 y2
      obtain ⟨va, vc, rfl⟩ := own_slice c2
      have hBXn : Bx ≠ w1.heap.size := by omega
      have hMn : W.heap.size + 1 ≠ w1.heap.size := by omega
      by_cases m : yc = xc
      · subst m
        have c2' : W''.ownsRow W.heap.size 107 4 (.slice va XL.length vc) (diffE pre tb.L ++ diff1 ⟨xa, xb, yc⟩ (pre' ++ [⟨ya, yb, yc⟩])).length ((diffE pre tb.L ++ diff1 ⟨xa, xb, yc⟩ (pre' ++ [⟨ya, yb, yc⟩])).flatMap encC) := by
          rw [diff1_snoc, if_pos rfl, List.append_nil, ← HXL.out]
          exact c2
        have c5' : (diffE pre tb.L ++ diff1 ⟨xa, xb, yc⟩ (pre' ++ [⟨ya, yb, yc⟩])).length ≤ pre.length * 4096 + (pre' ++ [(⟨ya, yb, yc⟩ : R)]).length := by
          rw [diff1_snoc, if_pos rfl, List.append_nil, ← HXL.out, len_snoc pre']
          omega
        clear c2 c5
        gi_wp2
        first
        | exact ⟨KeepsFrom.refl _ _, Below.refl _ _, ⟨⟨_, c1, c2'⟩, ⟨c3, c4⟩, c5'⟩, hBW, hKF⟩
        | exact ⟨KeepsFrom.refl _ _, Below.refl _ _, ⟨⟨_, c1, c2', trivial⟩, ⟨c3, c4⟩, c5'⟩, hBW, hKF⟩
      · have n3 : (yc == xc) = false := beq_eq_false_iff_ne.2 m
        have HM := Lib.hid m
        clear m
        gi_wp2_with (gi_at_builtin; refine wpListIn_append_own _ rfl _ _ 66 rfl W.heap.size 107 i0 (.agg #[.int .i64 0, .int .i64 0, .int .i64 0, .int .i64 0]) 4 32 Try.underlying66 hi0 hz0 hz1 hz2 rfl (by decide) _ _ _ rfl (c2.alloc _) ⟨W''.heap.size, 0, none⟩ 1 1 [.int .i64 ya, .int .i64 yb, .int .i64 xc, .int .i64 yc] rfl rfl (cells4_new _ _ _ _ _ _) (by simp [Value.oneCell']) (by omega) (by omega) (by simp; omega) ?_; intro v' w7 hown' hgrow _; obtain ⟨g', cap', rfl⟩ := ownsRow_succ hown'; obtain ⟨hv1, hv2, hr2, hk2, hb2⟩ := c1.appended (by decide) c2 hsz2 (by omega) hown' hgrow; have hc1 := hv1.cell; have hf1 := hv1.frozen)
        have hr3 : (w7.setCell ⟨w1.heap.size, 0, none⟩ (.slice (some ⟨g', 0, none⟩) (XL.length + 1) cap')).ownsRow W.heap.size 107 4 (.slice (some ⟨g', 0, none⟩) (XL.length + 1) cap') (diffE pre tb.L ++ diff1 ⟨xa, xb, xc⟩ (pre' ++ [⟨ya, yb, yc⟩])).length ((diffE pre tb.L ++ diff1 ⟨xa, xb, xc⟩ (pre' ++ [⟨ya, yb, yc⟩])).flatMap encC) := by
          rw [diff1_snoc, if_neg HM.out, ← List.append_assoc, ← HXL.out, len_snoc, List.flatMap_append (ys := [_])]
          exact hr2
        have c5' : (diffE pre tb.L ++ diff1 ⟨xa, xb, xc⟩ (pre' ++ [⟨ya, yb, yc⟩])).length ≤ pre.length * 4096 + (pre' ++ [(⟨ya, yb, yc⟩ : R)]).length := by
          rw [diff1_snoc, if_neg HM.out, ← List.append_assoc, ← HXL.out, len_snoc, len_snoc pre']
          omega
        have hmh : Mh (w7.setCell ⟨w1.heap.size, 0, none⟩ (.slice (some ⟨g', 0, none⟩) (XL.length + 1) cap')) (W.heap.size + 1) (some ⟨bq, 0, none⟩) size := ((c3.alloc _).kept hgrow (ne_row c3 (by decide) c2)).other hMn _
        have hrb : Rb (w7.setCell ⟨w1.heap.size, 0, none⟩ (.slice (some ⟨g', 0, none⟩) (XL.length + 1) cap')) Bx ⟨xa, xb, xc⟩ := ((c4.alloc _).kept hgrow (ne_row c4 (by decide) c2)).other hBXn _
        first
        | exact ⟨hk2.from _, hb2, ⟨⟨_, hv2, hr3⟩, ⟨hmh, hrb⟩, c5'⟩, hBW.trans hb2, hKF.trans (hk2.from _)⟩
        | exact ⟨hk2.from _, hb2, ⟨⟨_, hv2, hr3, trivial⟩, ⟨hmh, hrb⟩, c5'⟩, hBW.trans hb2, hKF.trans (hk2.from _)⟩
    case done2 =>
      rintro ys' W'' rfl ⟨⟨⟨v, c1, c2, -⟩, ⟨c3, c4⟩, c5⟩, hBW, hKF⟩
      have hl3 := HLB.out xa xb
      have c2' : W''.ownsRow W.heap.size 107 4 v (diffE (pre ++ [⟨xa, xb, xc⟩]) tb.L).length ((diffE (pre ++ [⟨xa, xb, xc⟩]) tb.L).flatMap encC) := by
        rw [diffE_snoc]
        exact c2
      have c5' : (diffE (pre ++ [⟨xa, xb, xc⟩]) tb.L).length ≤ (pre ++ [(⟨xa, xb, xc⟩ : R)]).length * 4096 := by
        rw [diffE_snoc, List.length_append, len_snoc pre, ← List.length_append]
        show (diffE pre tb.L ++ diff1 ⟨xa, xb, xc⟩ (clip xa xb tb.L)).length ≤ _
        omega
      clear c2 c5
      gi_wp2
      first
      | exact ⟨hKF, hBW, ⟨⟨_, c1, c2'⟩, c3, c5'⟩, G5.out.trans hBW⟩
      | exact ⟨hKF, hBW, ⟨⟨_, c1, c2', trivial⟩, c3, c5'⟩, G5.out.trans hBW⟩
    case stop2 =>
      rintro c pre' W'' _ h
      exact h.elim
  case done =>
    rintro D ys W' hD rfl ⟨⟨⟨v, g1, g2, -⟩, g3, g4⟩, g5⟩ hK
    have hc0 := g1.cell
    obtain ⟨va, vc, rfl⟩ := own_slice g2
    have HE := Lib.hid hc0
    have HK := Lib.hid hK
    gi_wp2
    refine ⟨by simp, .inl ⟨_, _, rfl, run_takeDeferred HK.out, ?_⟩⟩
    refine ⟨.tuple #[.slice va (diffE (clip 0 size ta.L) tb.L).length vc, .int .i64 0], by simp [results, Try.results29, go_sem], _, rfl, (by rw [HCL.out] at g2 ⊢; exact ownsRow_putObj g2 _ HK.out rfl), g5.trans (belowK_b (w := W) (Nat.le_refl _) W' D _ _ (by omega) HK.out rfl rfl)⟩
  case stop =>
    rintro D c pre' W' _ _ h _
    exact h.elim
end Go.Proofs.Ytahgfggcpmnnaaa
namespace Go.Proofs.Ytahgfggcpmnnaaa
open Go Go.RowKit Gs

/-- a list of changes, one behind the other, from f to g; elsewhere the two are the same -/
def Dfs (f g : Int → Int) : Int → List Ch → Int → Prop
  | a, [], b => ∀ p, a ≤ p → p < b → f p = g p
  | a, c :: D, b => a ≤ c.lo ∧ c.lo < c.hi ∧ c.hi ≤ b ∧ (∀ p, a ≤ p → p < c.lo → f p = g p) ∧ (∀ p, c.lo ≤ p → p < c.hi → f p = c.fr ∧ g p = c.tt) ∧ c.fr ≠ c.tt ∧ Dfs f g c.hi D b
theorem Dfs.back {f g : Int → Int} {a a' b : Int} (ha : a ≤ a') (h : ∀ p, a ≤ p → p < a' → f p = g p) : ∀ {D : List Ch}, Dfs f g a' D b → Dfs f g a D b
  | [], hd => fun p p1 p2 => if h' : p < a' then h p p1 h' else hd p (by omega) p2
  | c :: D, hd => by
    obtain ⟨h1, h2, h3, h4, h5, h6, h7⟩ := hd
    exact ⟨by omega, h2, h3, fun p p1 p2 => if h' : p < a' then h p p1 h' else h4 p (by omega) p2, h5, h6, h7⟩
/-- the pair of tags, as one number -/
def pr (f g : Int → Int) (p : Int) : Int := 16 * f p + g p
/-- the changes among runs of pairs -/
def dec (K : List R) : List Ch := (K.filter fun r => decide (r.tag / 16 ≠ r.tag % 16)).map fun r => ⟨r.lo, r.hi, r.tag / 16, r.tag % 16⟩
theorem dec_append (K L : List R) : dec (K ++ L) = dec K ++ dec L := by unfold dec; rw [List.filter_append, List.map_append]
theorem dec_cons (r : R) (K : List R) : dec (r :: K) = (if r.tag / 16 = r.tag % 16 then [] else [⟨r.lo, r.hi, r.tag / 16, r.tag % 16⟩]) ++ dec K := by
  by_cases h : r.tag / 16 = r.tag % 16 <;> simp [dec, h]
theorem dec_dfs {f g : Int → Int} : ∀ {K : List R} {a b : Int}, Fits (pr f g) a K b → (∀ p, a ≤ p → p < b → 0 ≤ f p ∧ f p < 16 ∧ 0 ≤ g p ∧ g p < 16) → Dfs f g a (dec K) b
  | [], a, b, h, _ => fun p p1 p2 => by
    have h : a = b := h
    omega
  | r :: K, a, b, h, hb => by
    have h1 := h.1; have h2 := h.2.1; have h3 := h.2.2.1; have h4 := h.2.2.2
    have hle := h4.le
    have hf : ∀ p, r.lo ≤ p → p < r.hi → f p = r.tag / 16 ∧ g p = r.tag % 16 := fun p p1 p2 => by
      have e := h3 p p1 p2
      have := hb p (by omega) (by omega)
      unfold pr at e
      omega
    have ih := dec_dfs h4 fun p p1 p2 => hb p (by omega) p2
    rw [dec_cons]
    by_cases e : r.tag / 16 = r.tag % 16
    · rw [if_pos e, List.nil_append]
      exact ih.back (by omega) fun p p1 p2 => by
        have := hf p (by omega) p2
        rw [this.1, this.2, e]
    · rw [if_neg e]
      exact ⟨by show a ≤ r.lo; omega, h2, hle, fun p p1 p2 => by have p2 : p < r.lo := p2; omega, hf, e, ih⟩
/-- the runs of pairs -/
def rl (la lb : List R) : List R := la.flatMap fun x => (clip x.lo x.hi lb).map fun r => ⟨r.lo, r.hi, 16 * x.tag + r.tag⟩
theorem Can.map {f h : Int → Int} (s : Int → Int) : ∀ {K : List R} {a b : Int}, Gs.Can f a K b → (∀ p, a ≤ p → p < b → h p = s (f p)) → (∀ p q, a ≤ p → p < b → a ≤ q → q < b → s (f p) = s (f q) → f p = f q) → Gs.Can h a (K.map fun r => ⟨r.lo, r.hi, s r.tag⟩) b
  | [], a, b, hc, _, _ => by
    have e : a = b := hc.1
    subst e
    exact Gs.Can.nil h a
  | r :: K, a, b, hc, hh, hi => by
    have h0 : Gs.Can f a ([] ++ r :: K) b := hc
    obtain ⟨m1, m2, m3, m4, _, m6⟩ := h0.mid
    have ea : a = r.lo := m1.1
    have hle := m2.le
    have ih := Can.map s m2 (fun p p1 p2 => hh p (by omega) p2) (fun p q p1 p2 q1 q2 => hi p q (by omega) p2 (by omega) q2)
    have := Gs.Can.make (f := h) (a := a) (b := b) (l := []) (k := K.map fun r => ⟨r.lo, r.hi, s r.tag⟩) (r := ⟨r.lo, r.hi, s r.tag⟩) (by show Gs.Can h a [] r.lo; rw [← ea]; exact Gs.Can.nil h a) ih m3 (fun p p1 p2 => by
      have p1 : r.lo ≤ p := p1
      have p2 : p < r.hi := p2
      show h p = s r.tag
      rw [hh p (by omega) (by omega), m4 p p1 p2]) (fun h' => by have h' : a < r.lo := h'; omega) (fun h' => by
      have h' : r.hi < b := h'
      show h (r.hi - 1) ≠ h r.hi
      rw [hh (r.hi - 1) (by omega) (by omega), hh r.hi (by omega) h']
      exact fun e => m6 h' (hi _ _ (by omega) (by omega) (by omega) h' e))
    exact this
theorem rl_can {f g : Int → Int} {lb : List R} {size : Int} (hlb : Gs.Can g 0 lb size) : ∀ {la : List R} {a : Int}, Gs.Can f a la size → 0 ≤ a → (∀ p, 0 ≤ p → p < size → 0 ≤ f p ∧ f p < 16 ∧ 0 ≤ g p ∧ g p < 16) → Gs.Can (pr f g) a (rl la lb) size
  | [], a, h, _, _ => by
    have e : a = size := h.1
    subst e
    exact Gs.Can.nil _ _
  | x :: la, a, h, ha, hb => by
    have h0 : Gs.Can f a ([] ++ x :: la) size := h
    obtain ⟨m1, m2, m3, m4, _, m6⟩ := h0.mid
    have ea : a = x.lo := m1.1
    have hle := m2.le
    have ih := rl_can hlb m2 (by omega) hb
    have hc := clip_can (lo := x.lo) (hi := x.hi) hlb (by omega) (by omega) (by omega)
    have hm := Can.map (h := pr f g) (fun t => 16 * x.tag + t) hc (fun p p1 p2 => by
      show 16 * f p + g p = 16 * x.tag + g p
      rw [m4 p p1 p2]) (fun p q _ _ _ _ e => by
      have e : 16 * x.tag + g p = 16 * x.tag + g q := e
      omega)
    rw [ea]
    show Gs.Can (pr f g) x.lo ((clip x.lo x.hi lb).map (fun r => ⟨r.lo, r.hi, 16 * x.tag + r.tag⟩) ++ rl la lb) size
    refine hm.join ih fun _ h' => ?_
    have := m6 h'
    have b1 := hb (x.hi - 1) (by omega) (by omega)
    have b2 := hb x.hi (by omega) h'
    unfold pr
    omega
theorem dec_enc (x : R) (hx : 0 ≤ x.tag ∧ x.tag < 16) : ∀ (l : List R), (∀ r ∈ l, 0 ≤ r.tag ∧ r.tag < 16) → dec (l.map fun r => ⟨r.lo, r.hi, 16 * x.tag + r.tag⟩) = diff1 x l
  | [], _ => rfl
  | r :: l, h => by
    have hr := h r (List.mem_cons_self ..)
    have ih := dec_enc x hx l fun y hy => h y (List.mem_cons_of_mem _ hy)
    rw [List.map_cons, dec_cons, ih]
    have e1 : (16 * x.tag + r.tag) / 16 = x.tag := by omega
    have e2 : (16 * x.tag + r.tag) % 16 = r.tag := by omega
    simp only [e1, e2]
    by_cases e : x.tag = r.tag
    · rw [if_pos e]; simp [diff1, e]
    · rw [if_neg e]; simp [diff1, Ne.symm e]
theorem fits_tags {f : Int → Int} {l : List R} {a b : Int} (h : Fits f a l b) (hb : ∀ p, a ≤ p → p < b → 0 ≤ f p ∧ f p < 16) : ∀ r ∈ l, 0 ≤ r.tag ∧ r.tag < 16 := by
  induction l generalizing a with
  | nil => intro r hr; cases hr
  | cons x l ih =>
    intro r hr
    have h2 := h.2.1; have h3 := h.2.2.1; have h4 := h.2.2.2; have h1 := h.1
    have hle := h4.le
    rcases List.mem_cons.1 hr with e | e
    · subst e
      rw [← h3 r.lo (Int.le_refl _) h2]
      exact hb _ (by omega) (by omega)
    · exact ih h4 (fun p p1 p2 => hb p (by omega) p2) r e
theorem clip_tags {l : List R} {lo hi : Int} (h : ∀ r ∈ l, 0 ≤ r.tag ∧ r.tag < 16) : ∀ r ∈ clip lo hi l, 0 ≤ r.tag ∧ r.tag < 16 := by
  intro r hr
  obtain ⟨x, hx, hr⟩ := List.mem_flatMap.1 hr
  unfold clip1 at hr
  split at hr
  · rw [List.mem_singleton.1 hr]; exact h x hx
  · cases hr
theorem diff_dec {lb : List R} (hb : ∀ r ∈ lb, 0 ≤ r.tag ∧ r.tag < 16) : ∀ {la : List R}, (∀ r ∈ la, 0 ≤ r.tag ∧ r.tag < 16) → diffE la lb = dec (rl la lb)
  | [], _ => rfl
  | x :: la, h => by
    show diff1 x (clip x.lo x.hi lb) ++ diffE la lb = dec ((clip x.lo x.hi lb).map (fun r => ⟨r.lo, r.hi, 16 * x.tag + r.tag⟩) ++ rl la lb)
    rw [dec_append, dec_enc x (h x (List.mem_cons_self ..)) _ (clip_tags hb), diff_dec hb fun y hy => h y (List.mem_cons_of_mem _ hy)]
/-- **the changes lead from f to g** -/
theorem diff_dfs {f g : Int → Int} {la lb : List R} {size : Int} (ha : Gs.Can f 0 la size) (hb : Gs.Can g 0 lb size) (cf : Ctx f 0 size) (cg : Ctx g 0 size) : Dfs f g 0 (diffE la lb) size := by
  have hB : ∀ p, 0 ≤ p → p < size → 0 ≤ f p ∧ f p < 16 ∧ 0 ≤ g p ∧ g p < 16 := fun p p1 p2 => ⟨(cf.2.2 p p1 p2).1, (cf.2.2 p p1 p2).2, (cg.2.2 p p1 p2).1, (cg.2.2 p p1 p2).2⟩
  rw [diff_dec (fits_tags hb.1 cg.2.2) (fits_tags ha.1 cf.2.2)]
  exact dec_dfs (rl_can hb ha (Int.le_refl 0) hB).1 hB
/-- a change the other way -/
def Ch.swap (c : Ch) : Ch := ⟨c.lo, c.hi, c.tt, c.fr⟩
theorem dec_swap : ∀ (K : List R), (∀ r ∈ K, 0 ≤ r.tag ∧ r.tag < 256) → dec (K.map fun r => ⟨r.lo, r.hi, 16 * (r.tag % 16) + r.tag / 16⟩) = (dec K).map Ch.swap
  | [], _ => rfl
  | r :: K, h => by
    have hr := h r (List.mem_cons_self ..)
    have ih := dec_swap K fun y hy => h y (List.mem_cons_of_mem _ hy)
    rw [List.map_cons, dec_cons, dec_cons, ih, List.map_append]
    have e1 : (16 * (r.tag % 16) + r.tag / 16) / 16 = r.tag % 16 := by omega
    have e2 : (16 * (r.tag % 16) + r.tag / 16) % 16 = r.tag / 16 := by omega
    simp only [e1, e2]
    by_cases e : r.tag / 16 = r.tag % 16
    · rw [if_pos e, if_pos e.symm]; rfl
    · rw [if_neg e, if_neg (fun h => e h.symm)]; rfl
/-- **the changes back are the changes exchanged** -/
theorem diff_swap {f g : Int → Int} {la lb : List R} {size : Int} (ha : Gs.Can f 0 la size) (hb : Gs.Can g 0 lb size) (cf : Ctx f 0 size) (cg : Ctx g 0 size) : diffE lb la = (diffE la lb).map Ch.swap := by
  have hB : ∀ p, 0 ≤ p → p < size → 0 ≤ f p ∧ f p < 16 ∧ 0 ≤ g p ∧ g p < 16 := fun p p1 p2 => ⟨(cf.2.2 p p1 p2).1, (cf.2.2 p p1 p2).2, (cg.2.2 p p1 p2).1, (cg.2.2 p p1 p2).2⟩
  have hB' : ∀ p, 0 ≤ p → p < size → 0 ≤ g p ∧ g p < 16 ∧ 0 ≤ f p ∧ f p < 16 := fun p p1 p2 => by have := hB p p1 p2; omega
  rw [diff_dec (fits_tags hb.1 cg.2.2) (fits_tags ha.1 cf.2.2), diff_dec (fits_tags ha.1 cf.2.2) (fits_tags hb.1 cg.2.2)]
  have h1 := rl_can hb ha (Int.le_refl 0) hB
  have h2 := rl_can ha hb (Int.le_refl 0) hB'
  have h3 := Can.map (h := pr g f) (fun t => 16 * (t % 16) + t / 16) h1 (fun p p1 p2 => by
    have := hB p p1 p2
    show 16 * g p + f p = 16 * ((16 * f p + g p) % 16) + (16 * f p + g p) / 16
    omega) (fun p q p1 p2 q1 q2 e => by
    have e : 16 * ((16 * f p + g p) % 16) + (16 * f p + g p) / 16 = 16 * ((16 * f q + g q) % 16) + (16 * f q + g q) / 16 := e
    have b1 := hB p p1 p2
    have b2 := hB q q1 q2
    show 16 * f p + g p = 16 * f q + g q
    omega)
  rw [h2.same h3]
  refine dec_swap _ fun r hr => ?_
  have : ∀ {K : List R} {a : Int}, 0 ≤ a → Fits (pr f g) a K size → ∀ r ∈ K, 0 ≤ r.tag ∧ r.tag < 256 := by
    intro K
    induction K with
    | nil => intro a _ _ r hr; cases hr
    | cons x K ih =>
      intro a ha hF r hr
      have f1 := hF.1; have f2 := hF.2.1; have f3 := hF.2.2.1; have f4 := hF.2.2.2
      have hle := f4.le
      rcases List.mem_cons.1 hr with e | e
      · subst e
        have := hB r.lo (by omega) (by omega)
        have e2 := f3 r.lo (Int.le_refl _) f2
        unfold pr at e2
        omega
      · exact ih (by omega) f4 r e
  exact this (Int.le_refl 0) h1.1 r hr
theorem Dfs.nil_iff {f g : Int → Int} {la lb : List R} {size : Int} (ha : Gs.Can f 0 la size) (hb : Gs.Can g 0 lb size) (h : Dfs f g 0 (diffE la lb) size) : diffE la lb = [] ↔ la = lb := by
  constructor
  · intro e
    rw [e] at h
    exact (ha.congr h).same hb
  · intro e
    subst e
    have hfg : ∀ p, 0 ≤ p → p < size → f p = g p := by
      have : ∀ {l : List R} {a b : Int}, Fits f a l b → Fits g a l b → ∀ p, a ≤ p → p < b → f p = g p := by
        intro l
        induction l with
        | nil => intro a b h1 _ p p1 p2; have h1 : a = b := h1; omega
        | cons x l ih =>
          intro a b h1 h2 p p1 p2
          have e1 := h1.1
          by_cases hp : p < x.hi
          · rw [h1.2.2.1 p (by omega) hp, h2.2.2.1 p (by omega) hp]
          · exact ih h1.2.2.2 h2.2.2.2 p (by omega) p2
      exact this ha.1 hb.1
    cases hD : diffE la la with
    | nil => rfl
    | cons c D =>
      rw [hD] at h
      obtain ⟨h1, h2, h3, _, h5, h6, _⟩ := h
      have e1 := h5 c.lo (Int.le_refl _) h2
      have e2 := hfg c.lo h1 (by omega)
      rw [e1.1, e1.2] at e2
      exact absurd e2 h6
/-- a canonical list is the shortest -/
theorem can_short {f : Int → Int} : ∀ {l k : List R} {a b : Int}, Gs.Can f a k b → Fits f a l b → k.length ≤ l.length
  | [], k, a, b, hk, hl => by
    have e : a = b := hl
    cases k with
    | nil => exact Nat.le_refl _
    | cons r k => have := hk.1.lt; omega
  | s :: l, [], a, b, hk, hl => Nat.zero_le _
  | s :: l, r :: k, a, b, hk, hl => by
    have h0 : Gs.Can f a ([] ++ r :: k) b := hk
    obtain ⟨m1, m2, m3, m4, _, m6⟩ := h0.mid
    have ea : a = r.lo := m1.1
    have hle := m2.le
    have s1 := hl.1; have s2 := hl.2.1; have s3 := hl.2.2.1; have s4 := hl.2.2.2
    have sle := s4.le
    have hsr : s.hi ≤ r.hi := by
      refine Int.not_lt.1 fun hlt => ?_
      have := m6 (by omega)
      rw [s3 (r.hi - 1) (by omega) (by omega), s3 r.hi (by omega) hlt] at this
      exact this rfl
    by_cases e : s.hi = r.hi
    · rw [e] at s4
      have := can_short m2 s4
      simp only [List.length_cons]
      omega
    · have hk2 : Gs.Can f s.hi ([] ++ ⟨s.hi, r.hi, r.tag⟩ :: k) b := Gs.Can.make (r := ⟨s.hi, r.hi, r.tag⟩) (Gs.Can.nil f s.hi) m2 (by show s.hi < r.hi; omega) (fun p p1 p2 => m4 p (by have p1 : s.hi ≤ p := p1; omega) p2) (fun h => by have h : s.hi < s.hi := h; omega) m6
      have := can_short hk2 s4
      simp only [List.nil_append, List.length_cons] at this ⊢
      omega
/-- **applying the changes from f to g to f yields g** -/
theorem apF_dfs {f g : Int → Int} {la lb : List R} {size : Int} (ha : Gs.Can f 0 la size) (hb : Gs.Can g 0 lb size) (cf : Ctx f 0 size) (cg : Ctx g 0 size) (hn : la.length + lb.length ≤ 4096) :
    ∀ {D : List Ch} {a : Int} {h : Int → Int}, 0 ≤ a → a ≤ size → Dfs f g a D size → (∀ p, 0 ≤ p → p < a → h p = g p) → (∀ p, a ≤ p → p < size → h p = f p) → ∃ h', apF size h D = (0, h') ∧ ∀ p, 0 ≤ p → p < size → h' p = g p
  | [], a, h, h0, h1, hd, e1, e2 => ⟨h, rfl, fun p p1 p2 => if hp : p < a then e1 p p1 hp else by rw [e2 p (by omega) p2]; exact hd p (by omega) p2⟩
  | c :: D, a, h, h0, h1, hd, e1, e2 => by
    obtain ⟨d1, d2, d3, d4, d5, d6, d7⟩ := hd
    have hput : ∀ p, 0 ≤ p → p < c.hi → put h c.lo c.hi c.tt p = g p := fun p p1 p2 => by
      unfold put
      by_cases hp : c.lo ≤ p ∧ p < c.hi
      · rw [if_pos hp, (d5 p hp.1 hp.2).2]
      · rw [if_neg hp]
        by_cases hpa : p < a
        · exact e1 p p1 hpa
        · rw [e2 p (by omega) (by omega)]
          exact d4 p (by omega) (by omega)
    have hput2 : ∀ p, c.hi ≤ p → p < size → put h c.lo c.hi c.tt p = f p := fun p p1 p2 => by
      unfold put
      rw [if_neg (by omega)]
      exact e2 p (by omega) p2
    obtain ⟨t1, t2⟩ := d5 c.lo (Int.le_refl _) d2
    have bf := cf.2.2 c.lo (by omega) (by omega)
    have bg := cg.2.2 c.lo (by omega) (by omega)
    have hE : chE size h c = 0 := by
      unfold chE
      rw [if_neg (by omega), if_pos ⟨decide_eq_true (by omega), decide_eq_true (by omega)⟩, if_pos]
      intro x x1 x2
      rw [e2 x (by omega) (by omega), (d5 x x1 x2).1]
    have hK : chK size h c = 0 := by
      unfold chK
      rw [if_neg (fun h => h hE), if_neg]
      rintro ⟨L, hL, hl⟩
      have f1 := clip_fits (lo := 0) (hi := c.hi) hb.1 (by omega)
      have f2 := clip_fits (lo := c.hi) (hi := size) ha.1 (by omega)
      rw [show max (0 : Int) 0 = 0 by omega, show min c.hi size = c.hi by omega] at f1
      rw [show max c.hi 0 = c.hi by omega, show min size size = size by omega] at f2
      have f3 : Fits (put h c.lo c.hi c.tt) 0 (clip 0 c.hi lb ++ clip c.hi size la) size := fits_append.2 ⟨c.hi, f1.congr fun p p1 p2 => (hput p p1 p2).symm, f2.congr fun p p1 p2 => (hput2 p p1 p2).symm⟩
      have := can_short hL f3
      have l1 := clip_len 0 c.hi lb
      have l2 := clip_len c.hi size la
      rw [List.length_append] at this
      omega
    rw [apF_ok hK]
    exact apF_dfs ha hb cf cg hn (by omega) d3 d7 hput hput2
/-- a cut adds one run -/
theorem clip_cut {f : Int → Int} {lo m hi : Int} (h1 : lo ≤ m) (h2 : m ≤ hi) : ∀ {l : List R} {a b : Int}, Fits f a l b → (clip lo m l).length + (clip m hi l).length ≤ (clip lo hi l).length + 1
  | [], _, _, _ => Nat.zero_le _
  | r :: l, a, b, h => by
    have e1 := h.1; have e2 := h.2.1; have e4 := h.2.2.2
    have ih := clip_cut h1 h2 e4
    have hc : ∀ x y : Int, (clip1 x y r).length ≤ 1 := fun x y => by unfold clip1; split <;> simp
    have h1' := hc lo m
    have h2' := hc m hi
    rw [clip_cons, clip_cons, clip_cons, List.length_append, List.length_append, List.length_append]
    by_cases c1 : m ≤ r.lo
    · have n1 : clip1 lo m r = [] := by unfold clip1; rw [if_neg (by omega)]
      have n2 : clip lo m l = [] := clip_out e4 (by omega)
      have n3 : clip1 m hi r = clip1 lo hi r := by
        unfold clip1
        rw [show max m r.lo = r.lo by omega, show max lo r.lo = r.lo by omega]
      have n4 : (clip m hi l).length ≤ (clip lo hi l).length + 1 := by rw [n2] at ih; simpa using ih
      have n5 : clip m hi l = clip lo hi l := by
        have := clip_right (lo := lo) (hi := hi) (m := m) e4 (by omega)
        rw [show max lo m = m by omega] at this
        exact this
      rw [n1, n2, n3, n5]
      simp
    · by_cases c2 : r.hi ≤ m
      · have n1 : clip1 m hi r = [] := by unfold clip1; rw [if_neg (by omega)]
        have n2 : clip1 lo m r = clip1 lo hi r := by
          unfold clip1
          rw [show min r.hi m = r.hi by omega, show min r.hi hi = r.hi by omega]
        rw [n1, n2]
        simp only [List.length_nil]
        omega
      · have n2 : clip lo m l = [] := clip_out e4 (by omega)
        have n5 : clip m hi l = clip lo hi l := by
          have := clip_right (lo := lo) (hi := hi) (m := m) e4 (by omega)
          rw [show max lo m = m by omega] at this
          exact this
        rw [n2, n5]
        simp only [List.length_nil]
        by_cases c3 : max lo r.lo < min r.hi hi
        · have : (clip1 lo hi r).length = 1 := by unfold clip1; rw [if_pos c3]; rfl
          omega
        · by_cases c4 : max lo r.lo < min r.hi m
          · omega
          · have : (clip1 lo m r).length = 0 := by unfold clip1; rw [if_neg c4]; rfl
            omega
theorem fits_map {f h : Int → Int} (s : Int → Int) : ∀ {K : List R} {a b : Int}, Fits f a K b → (∀ p, a ≤ p → p < b → h p = s (f p)) → Fits h a (K.map fun r => ⟨r.lo, r.hi, s r.tag⟩) b
  | [], _, _, h, _ => h
  | r :: K, a, b, hf, hh => by
    obtain ⟨h1, h2, h3, h4⟩ := hf
    have := h4.le
    exact ⟨h1, h2, fun p p1 p2 => by
      have p1 : r.lo ≤ p := p1
      have p2 : p < r.hi := p2
      show h p = s r.tag
      rw [hh p (by omega) (by omega), h3 p p1 p2], fits_map s h4 fun p p1 p2 => hh p (by have p1 : r.hi ≤ p := p1; omega) p2⟩
/-- an update adds two runs at most -/
theorem upd_runs {f h : Int → Int} (s : Int → Int) {lo hi size : Int} {l : List R} (hl : Fits f 0 l size) (h0 : 0 ≤ lo) (h1 : lo ≤ hi) (h2 : hi ≤ size) (hin : ∀ p, lo ≤ p → p < hi → h p = s (f p)) (hout : ∀ p, ¬ (lo ≤ p ∧ p < hi) → h p = f p) :
    ∃ k, Fits h 0 k size ∧ k.length ≤ l.length + 2 := by
  have f1 := clip_fits (lo := 0) (hi := lo) hl (by omega)
  have f2 := clip_fits (lo := lo) (hi := hi) hl (by omega)
  have f3 := clip_fits (lo := hi) (hi := size) hl (by omega)
  rw [show max (0 : Int) 0 = 0 by omega, show min lo size = lo by omega] at f1
  rw [show max lo 0 = lo by omega, show min hi size = hi by omega] at f2
  rw [show max hi 0 = hi by omega, show min size size = size by omega] at f3
  refine ⟨clip 0 lo l ++ ((clip lo hi l).map (fun r => ⟨r.lo, r.hi, s r.tag⟩) ++ clip hi size l), fits_append.2 ⟨lo, f1.congr fun p p1 p2 => (hout p (by omega)).symm, fits_append.2 ⟨hi, fits_map s f2 hin, f3.congr fun p p1 p2 => (hout p (by omega)).symm⟩⟩, ?_⟩
  have c1 := clip_cut (lo := 0) (m := lo) (hi := size) h0 (by omega) hl
  have c2 := clip_cut (lo := lo) (m := hi) (hi := size) h1 h2 hl
  have c3 := clip_len 0 size l
  rw [List.length_append, List.length_append, List.length_map]
  omega
theorem act_runs {size : Int} {f : Int → Int} {a : Act} {l : List R} (hl : Fits f 0 l size) (he : actE size a = 0) : ∃ k, Fits (actF a f) 0 k size ∧ k.length ≤ l.length + 2 := by
  have hr : 0 ≤ a.lo ∧ a.lo ≤ a.hi ∧ a.hi ≤ size := by
    unfold actE errOf at he
    split at he
    · cases he
    · omega
  unfold actF
  split
  · exact upd_runs (fun t => swp (fun _ => t) a.fr.toNat a.tt.toNat 0) hl hr.1 hr.2.1 hr.2.2 (fun p p1 p2 => by
      unfold swr
      rw [if_pos ⟨p1, p2⟩]
      rfl) (fun p hp => by unfold swr; rw [if_neg hp])
  · exact upd_runs (fun _ => a.tt) hl hr.1 hr.2.1 hr.2.2 (fun p p1 p2 => by
      unfold put
      rw [if_pos ⟨p1, p2⟩]) (fun p hp => by unfold put; rw [if_neg hp])
/-- **a map built by n updates has 2n + 1 runs at most** -/
theorem Mo.runs {size : Int} {f0 f : Int → Int} {l : List Act} (h : Mo size f0 l f) (h0 : ∃ k, Fits f0 0 k size ∧ k.length ≤ 1) : ∃ k, Fits f 0 k size ∧ k.length ≤ 2 * l.length + 1 := by
  induction h with
  | nil => simpa using h0
  | snoc _ h1 ih =>
    obtain ⟨k, hk, hl⟩ := ih
    rw [List.length_append, List.length_singleton]
    rcases h1 with ⟨rfl, he, _⟩ | ⟨rfl, _⟩
    · obtain ⟨k', hk', hl'⟩ := act_runs hk he
      exact ⟨k', hk', by omega⟩
    · exact ⟨k, hk, by omega⟩
theorem diffE_len : ∀ (la lb : List R), (diffE la lb).length ≤ la.length * lb.length
  | [], _ => Nat.zero_le _
  | x :: la, lb => by
    have ih := diffE_len la lb
    have h1 := diff1_len x (clip x.lo x.hi lb)
    have h2 := clip_len x.lo x.hi lb
    show (diff1 x (clip x.lo x.hi lb) ++ diffE la lb).length ≤ (la.length + 1) * lb.length
    rw [List.length_append, Nat.succ_mul]
    omega
end Go.Proofs.Ytahgfggcpmnnaaa
namespace Go.Proofs.Ytahgfggcpmnnaaa
open Go Go.RowKit Gs

/-- the tag of a piece after a merge, and whether the two updates agree -/
def mt (o x y : Int) : Int := if x = y ∨ y = o then x else if x = o then y else o
def mtb (o x y : Int) : Bool := decide (x = y ∨ y = o ∨ x = o)
theorem mergeTags_any (o x y : Int) (W : World) : Calls Try.prog 62 #[.int .i64 o, .int .i64 x, .int .i64 y] W fun e w' => e = .returned (.tuple #[.int .i64 (mt o x y), .bool (mtb o x y)]) ∧ Below W.heap.size W w' := by
  have HR : Hid (Below W.heap.size W W) := Below.refl _ _
  obtain ⟨T, hT⟩ : ∃ T, T = mt o x y := ⟨_, rfl⟩
  obtain ⟨B, hB⟩ : ∃ B, B = mtb o x y := ⟨_, rfl⟩
  rw [← hT, ← hB]
  by_cases h1 : x = y
  · have e1 : T = x := by rw [hT]; unfold mt; rw [if_pos (.inl h1)]
    have e2 : B = true := by rw [hB]; exact decide_eq_true (.inl h1)
    have HE1 := Lib.hid e1; have HE2 := Lib.hid e2
    clear hT hB e1 e2
    subst h1
    go_enter Try.func62, Try.ntmps62
    go_wp2_with fail
    refine bodyPost_ret (v := .tuple #[.int .i64 x, .bool true]) (by simp [results, Try.results62, go_sem]) rfl ?_
    exact ⟨by rw [HE1.out, HE2.out], HR.out⟩
  · have n1 : (x == y) = false := beq_eq_false_iff_ne.2 h1
    by_cases h2 : y = o
    · have e1 : T = x := by rw [hT]; unfold mt; rw [if_pos (.inr h2)]
      have e2 : B = true := by rw [hB]; exact decide_eq_true (.inr (.inl h2))
      have HE1 := Lib.hid e1; have HE2 := Lib.hid e2
      clear hT hB e1 e2 h1
      subst h2
      go_enter Try.func62, Try.ntmps62
      go_wp2_with fail
      refine bodyPost_ret (v := .tuple #[.int .i64 x, .bool true]) (by simp [results, Try.results62, go_sem]) rfl ?_
      exact ⟨by rw [HE1.out, HE2.out], HR.out⟩
    · have n2 : (y == o) = false := beq_eq_false_iff_ne.2 h2
      by_cases h3 : x = o
      · have e1 : T = y := by rw [hT]; unfold mt; rw [if_neg (fun h => h.elim h1 h2), if_pos h3]
        have e2 : B = true := by rw [hB]; exact decide_eq_true (.inr (.inr h3))
        have HE1 := Lib.hid e1; have HE2 := Lib.hid e2
        clear hT hB e1 e2 h1 h2
        subst h3
        go_enter Try.func62, Try.ntmps62
        go_wp2_with fail
        refine bodyPost_ret (v := .tuple #[.int .i64 y, .bool true]) (by simp [results, Try.results62, go_sem]) rfl ?_
        exact ⟨by rw [HE1.out, HE2.out], HR.out⟩
      · have n3 : (x == o) = false := beq_eq_false_iff_ne.2 h3
        have e1 : T = o := by rw [hT]; unfold mt; rw [if_neg (fun h => h.elim h1 h2), if_neg h3]
        have e2 : B = false := by rw [hB]; exact decide_eq_false (fun h => h.elim h1 (fun h => h.elim h2 h3))
        have HE1 := Lib.hid e1; have HE2 := Lib.hid e2
        clear hT hB e1 e2 h1 h2 h3
        go_enter Try.func62, Try.ntmps62
        go_wp2_with fail
        refine bodyPost_ret (v := .tuple #[.int .i64 o, .bool false]) (by simp [results, Try.results62, go_sem]) rfl ?_
        exact ⟨by rw [HE1.out, HE2.out], HR.out⟩
end Go.Proofs.Ytahgfggcpmnnaaa
