/- The document's Count and Find. -/
import Derived.Test.YtjbenhmpeceaeaaQo
import Derived.Test.YtjbenhmpeceaeaaZa
import Derived.BigQuiet
namespace Go.Proofs.Ytjbenhmpeceaeaa
open Go Go.RowKit Gs

theorem cb_in {f : Int → Int} {l m : List R} {r : R} {size x k : Int} (h : Gs.Can f 0 (l ++ r :: m) size) (h1 : r.lo ≤ x) (h2 : x ≤ r.hi) : cb x k (l ++ r :: m) = cnt k l + (if r.tag = k then x - r.lo else 0) := by
  obtain ⟨q1, q2, q3, q4, _, _⟩ := h.mid
  by_cases e : x = r.lo
  · rw [cb_left h (by omega), cb_high x k q1.1 (by omega)]
    split <;> omega
  · rw [cb_right h (by omega), cb_low x k q2.1 (by omega)]
    split <;> omega
theorem FindOf.same {f : Int → Int} {size tag k : Int} {L : List R} {x y : Int} {b c : Bool} (hL : Gs.Can f 0 L size) (h1 : FindOf f size tag k L x b) (h2 : FindOf f size tag k L y c) : x = y ∧ b = c := by
  rcases h1 with ⟨rfl, a1, a2, a3, a4, a5, a6, a7⟩ | ⟨rfl, rfl, a1⟩
  · rcases h2 with ⟨rfl, b1, b2, b3, b4, b5, b6, b7⟩ | ⟨rfl, rfl, b1⟩
    · exact ⟨find_one hL.1 a4 a5 b4 b5 a6 b6 a7 b7, rfl⟩
    · rcases b1 with b1 | b1 | b1
      · rw [a1] at b1; cases b1
      · omega
      · omega
  · rcases h2 with ⟨rfl, b1, b2, b3, b4, b5, b6, b7⟩ | ⟨rfl, rfl, b1⟩
    · rcases a1 with a1 | a1 | a1
      · rw [b1] at a1; cases a1
      · omega
      · omega
    · exact ⟨rfl, rfl⟩
set_option maxHeartbeats 2000000 in
/-- the document's Count, of a usable map, a valid range, and a tag -/
theorem RCount_ok {f : Int → Int} {size lo hi tag : Int} {base : Nat} {v : Value} {L : List R} {W : World} (hrs : IsRs base W v L) (hL : Gs.Can f 0 L size) (hx : Ctx f 0 size) (hne : 0 < L.length) (hlen : L.length ≤ 4096) (h1 : 0 ≤ lo) (h2 : lo ≤ hi) (h3 : hi ≤ size) (ht : isT tag = true) :
    Calls Try.prog 23 #[.agg #[.int .i64 size, v], .int .i64 lo, .int .i64 hi, .int .i64 tag] W fun e w' => e = .returned (.tuple #[.int .i64 (cnt tag (clip lo hi L)), .int .i64 0]) ∧ Below W.heap.size W w' := by
  have HRS := Lib.hid hrs
  obtain ⟨a, c, rfl, -⟩ := hrs
  obtain ⟨n, hn⟩ : ∃ n, n = L.length := ⟨_, rfl⟩
  rw [← hn] at HRS hne ⊢
  obtain ⟨w0, HW⟩ : ∃ w0, w0 = W.alloc (.cells #[.int .i64 size, .slice a n c] 33) := ⟨_, rfl⟩
  have hm : M2 W.heap.size (.int .i64 size) (.slice a n c) w0 := by rw [HW]; exact M2.new _ _ _ _
  have hb : Below W.heap.size W w0 := by rw [HW]; exact (Below.refl _ _).alloc (Nat.le_refl _) _
  obtain ⟨K, hK⟩ : ∃ K, K = clip lo hi L := ⟨_, rfl⟩
  have hcan := clip_can hL h1 h2 h3
  rw [← hK] at hcan ⊢
  have HRU : Hid (Calls Try.prog 21 #[.agg #[.int .i64 size, .slice a n c], .int .i64 lo, .int .i64 hi] w0 fun e w' => ∃ b c, e = .returned (.tuple #[.slice b K.length c, .int .i64 0]) ∧ Hid (IsRs w0.heap.size w' (.slice b K.length c) K) ∧ Below w0.heap.size w0 w') := by
    rw [hK]
    exact (RRuns_ok (HRS.out.below hb) hL (by omega) hlen h1 h2 h3).mono fun e w' ⟨v', he, hr, hB⟩ => by
      obtain ⟨b, c, rfl, h⟩ := hr.out.1
      exact ⟨b, c, he, ⟨b, c, rfl, h⟩, hB⟩
  have HTT : Hid (∀ W', Calls Try.prog 51 #[.int .i64 tag] W' fun e w' => e = .returned (.bool true) ∧ W' = w') := fun W' => by
    have := RTag_any tag W'
    rwa [ht] at this
  have HKL : Hid (K.length ≤ 4096) := by rw [hK]; exact Nat.le_trans (clip_len _ _ _) hlen
  have HKB : Hid (∀ r ∈ K, Bd1 r) := hcan.1.bd (hx.sub h1 h3)
  have HM := Lib.hid hm; have HB := Lib.hid hb; have HW' := Lib.hid HW
  have HLEN : Hid (∀ j, 0 ≤ cnt tag (K.take j) ∧ cnt tag (K.take j) ≤ 1099511627776 * 4096) := fun j => by
    have h := cnt_bd (k := tag) (l := K.take j) (fun r hr => HKB.out r (List.mem_of_mem_take hr))
    have h2 : (K.take j).length ≤ 4096 := Nat.le_trans (by rw [List.length_take]; omega) HKL.out
    refine ⟨h.1, Int.le_trans h.2 ?_⟩
    omega
  have k0 := HM.out.c0; have k1 := HM.out.c1
  clear hm hb HW hL hn hlen h1 h2 h3 hK hcan ht hne hx HRS
  obtain ⟨m, hmm⟩ : ∃ m, m = K.length := ⟨_, rfl⟩
  rw [← hmm] at HRU HKL
  have HMM := Lib.hid hmm
  have hmb : m ≤ 4096 := HKL.out
  clear hmm
  go_enter Try.func23, Try.ntmps23
  go_upto_region 1 with fail
  rw [← HW'.out]
  go_wp2_with fail
  refine HRU.out.mono ?_
  rintro e w1 ⟨b, d, rfl, HR1, hb⟩
  have HB1 := Lib.hid (HB.out.trans (hb.mono HB.out.size))
  clear hb k0 k1
  go_wp2_with fail
  refine (HTT.out _).mono ?_
  rintro e w2 ⟨rfl, rfl⟩
  go_wp2_with fail
  go_loopw [12, 13] (fun nv iv wr => ∃ (j : Nat) (nn : Int), j ≤ m ∧ iv = .int .i64 j ∧ nv = .int .i64 nn ∧ Hid (nn = cnt tag (K.take j)) ∧ Hid (Below w1.heap.size w1 wr)) (fun _ i _ => m - (intOf i).toNat)
  case atStart => exact ⟨0, 0, by omega, rfl, rfl, rfl, Below.refl _ _⟩
  case round =>
    obtain ⟨j, nn, hj, rfl, rfl, HNN, HBr⟩ := hrel
    by_cases hlt : j < m
    · have hj2 : (j : Int) < m := by omega
      have hj0 : (0 : Int) ≤ (j : Int) := by omega
      have hjl : j < K.length := by have := HMM.out; omega
      have hat := (HR1.out.below HBr.out)
      rw [HMM.out] at hj2
      obtain ⟨G, rfl, c0, c1, c2⟩ := (show IsRs _ wr (.slice b m d) K from hat).at' hjl
      have hbd := HKB.out K[j] (List.getElem_mem hjl)
      have HTK : Hid (cnt tag (K.take (j + 1)) = cnt tag (K.take j) + if K[j].tag = tag then K[j].hi - K[j].lo else 0) := by
        show _ = _
        rw [List.take_add_one, List.getElem?_eq_getElem hjl]
        show cnt tag (K.take j ++ [K[j]]) = _
        rw [cnt_append]
        show _ + ((if K[j].tag = tag then K[j].hi - K[j].lo else 0) + 0) = _
        omega
      rw [← HMM.out] at hj2
      clear hat
      generalize K[j] = r at *
      obtain ⟨ra, rb, rc⟩ := r
      simp only at c0 c1 c2
      obtain ⟨q1, q2, q3, q4, q5⟩ := hbd
      simp only at q1 q2 q3 q4 q5
      have hNN := HLEN.out j
      rw [← HNN.out] at hNN
      have hw1 : IntKind.i64.wrap (rb - ra) = rb - ra := IntWalk.i64_in _ (by omega)
      have hw2 : IntKind.i64.wrap (nn + (rb - ra)) = nn + (rb - ra) := IntWalk.i64_in _ (by omega)
      by_cases ht : rc = tag
      · have HT2 : Hid (nn + (rb - ra) = cnt tag (K.take (j + 1))) := by
          show _ = _
          rw [HTK.out, HNN.out]
          show _ = _ + if rc = tag then rb - ra else 0
          rw [if_pos ht]
        clear HTK
        have HE := Lib.hid ht
        have hbe : (rc == tag) = true := by rw [ht]; exact beq_self_eq_true _
        clear ht
        go_wp2_with fail
        go_quiet (fail)
        rename_i nq
        have HBn : Hid (Below w1.heap.size w1 (World.drewN wr nq)) := below_drewN HBr.out nq
        clear c0 c1 c2
        generalize hw : World.drewN _ nq = w2 at HBn ⊢
        clear hw
        go_wp2_with fail
        go_roundw
        case rel => exact ⟨j + 1, nn + (rb - ra), by omega, by go_num, by first | rfl | go_num, HT2.out, HBn.out⟩
        case measure => simp [intOf]; omega
      · have HT2 : Hid (nn = cnt tag (K.take (j + 1))) := by
          show _ = _
          rw [HTK.out, HNN.out]
          show _ = _ + if rc = tag then rb - ra else 0
          rw [if_neg ht]
          omega
        clear HTK
        have hbe : (rc == tag) = false := beq_eq_false_iff_ne.2 ht
        go_wp2_with fail
        go_roundw
        case rel => exact ⟨j + 1, nn, by omega, by go_num, rfl, HT2.out, HBr.out⟩
        case measure => simp [intOf]; omega
    · have hj2 : ¬ (j : Int) < m := by omega
      have HF : Hid (nn = cnt tag K) := by
        have := HNN.out
        rw [List.take_of_length_le (by have := HMM.out; omega)] at this
        exact this
      have HB9 := Lib.hid (HB1.out.trans (HBr.out.mono HB1.out.size))
      go_wp2_with fail
      refine bodyPost_ret (v := .tuple #[.int .i64 nn, .int .i64 0]) (by simp [results, Try.results23, go_sem]) rfl ?_
      exact ⟨by rw [HF.out], HB9.out⟩
/-- Runs refuses -/
theorem RCount_no {size lo hi tag e0 : Int} {v : Value} {W : World} (he : e0 ≠ 0) (hr : ∀ W', Below W.heap.size W W' → Calls Try.prog 21 #[.agg #[.int .i64 size, v], .int .i64 lo, .int .i64 hi] W' fun e w' => e = .returned (.tuple #[.slice none 0 0, .int .i64 e0]) ∧ Below W'.heap.size W' w') :
    Calls Try.prog 23 #[.agg #[.int .i64 size, v], .int .i64 lo, .int .i64 hi, .int .i64 tag] W fun e w' => e = .returned (.tuple #[.int .i64 0, .int .i64 e0]) ∧ Below W.heap.size W w' := by
  obtain ⟨w0, HW⟩ : ∃ w0, w0 = W.alloc (.cells #[.int .i64 size, v] 33) := ⟨_, rfl⟩
  have hm : M2 W.heap.size (.int .i64 size) v w0 := by rw [HW]; exact M2.new _ _ _ _
  have hb : Below W.heap.size W w0 := by rw [HW]; exact (Below.refl _ _).alloc (Nat.le_refl _) _
  have HRU := Lib.hid (hr w0 hb)
  have HB := Lib.hid hb; have HW' := Lib.hid HW
  have k0 := hm.c0; have k1 := hm.c1
  have hne : (e0 == 0) = false := beq_eq_false_iff_ne.2 he
  clear hm hb HW hr he
  go_enter Try.func23, Try.ntmps23
  go_upto_region 1 with fail
  rw [← HW'.out]
  go_wp2_with fail
  refine HRU.out.mono ?_
  rintro e w1 ⟨rfl, hb⟩
  have HB1 := Lib.hid (HB.out.trans (hb.mono HB.out.size))
  clear hb k0 k1
  go_wp2_with fail
  refine bodyPost_ret (v := .tuple #[.int .i64 0, .int .i64 e0]) (by simp [results, Try.results23, go_sem]) rfl ?_
  exact ⟨rfl, HB1.out⟩
/-- the tag is none -/
theorem RCount_tag {f : Int → Int} {size lo hi tag : Int} {base : Nat} {v : Value} {L : List R} {W : World} (hrs : IsRs base W v L) (hL : Gs.Can f 0 L size) (hne : 0 < L.length) (hlen : L.length ≤ 4096) (h1 : 0 ≤ lo) (h2 : lo ≤ hi) (h3 : hi ≤ size) (ht : isT tag = false) :
    Calls Try.prog 23 #[.agg #[.int .i64 size, v], .int .i64 lo, .int .i64 hi, .int .i64 tag] W fun e w' => e = .returned (.tuple #[.int .i64 0, .int .i64 2]) ∧ Below W.heap.size W w' := by
  obtain ⟨w0, HW⟩ : ∃ w0, w0 = W.alloc (.cells #[.int .i64 size, v] 33) := ⟨_, rfl⟩
  have hm : M2 W.heap.size (.int .i64 size) v w0 := by rw [HW]; exact M2.new _ _ _ _
  have hb : Below W.heap.size W w0 := by rw [HW]; exact (Below.refl _ _).alloc (Nat.le_refl _) _
  have HRU := Lib.hid (RRuns_ok (hrs.below hb) hL hne hlen h1 h2 h3)
  have HTT : Hid (∀ W', Calls Try.prog 51 #[.int .i64 tag] W' fun e w' => e = .returned (.bool false) ∧ W' = w') := fun W' => by
    have := RTag_any tag W'
    rwa [ht] at this
  have HB := Lib.hid hb; have HW' := Lib.hid HW
  have k0 := hm.c0; have k1 := hm.c1
  clear hm hb HW hrs hL hne hlen h1 h2 h3 ht
  go_enter Try.func23, Try.ntmps23
  go_upto_region 1 with fail
  rw [← HW'.out]
  go_wp2_with fail
  refine HRU.out.mono ?_
  rintro e w1 ⟨v', rfl, -, hb⟩
  have HB1 := Lib.hid (HB.out.trans (hb.mono HB.out.size))
  clear hb k0 k1
  go_wp2_with fail
  refine (HTT.out _).mono ?_
  rintro e w2 ⟨rfl, rfl⟩
  go_wp2_with fail
  refine bodyPost_ret (v := .tuple #[.int .i64 0, .int .i64 2]) (by simp [results, Try.results23, go_sem]) rfl ?_
  exact ⟨rfl, HB1.out⟩
set_option maxHeartbeats 2000000 in
/-- the document's Find -/
theorem RFind_any {f : Int → Int} {size tag k : Int} {base : Nat} {v : Value} {L : List R} {W : World} (hrs : IsRs base W v L) (hL : Gs.Can f 0 L size) (hx : Ctx f 0 size) (hlen : L.length ≤ 4096) (hk : k ≤ 9223372036854775807) :
    Calls Try.prog 25 #[.agg #[.int .i64 size, v], .int .i64 tag, .int .i64 k] W fun e w' => ∃ x is, e = .returned (.tuple #[.int .i64 x, .bool is]) ∧ Hid (FindOf f size tag k L x is) ∧ Below W.heap.size W w' := by
  have HRS := Lib.hid hrs
  obtain ⟨a, c, rfl, -⟩ := hrs
  obtain ⟨n, hn⟩ : ∃ n, n = L.length := ⟨_, rfl⟩
  rw [← hn] at HRS ⊢
  have HN := Lib.hid hn
  obtain ⟨w0, HW⟩ : ∃ w0, w0 = W.alloc (.cells #[.int .i64 size, .slice a n c] 33) := ⟨_, rfl⟩
  have hm : M2 W.heap.size (.int .i64 size) (.slice a n c) w0 := by rw [HW]; exact M2.new _ _ _ _
  have hb : Below W.heap.size W w0 := by rw [HW]; exact (Below.refl _ _).alloc (Nat.le_refl _) _
  have HM := Lib.hid hm; have HB := Lib.hid hb; have HW' := Lib.hid HW; have HL := Lib.hid hL; have HX := Lib.hid hx
  have HKB : Hid (∀ r ∈ L, Bd1 r) := hL.1.bd hx
  have hnb : n ≤ 4096 := by omega
  have k0 := HM.out.c0; have k1 := HM.out.c1
  clear hm hb HW hL hn hlen hx
  by_cases hneg : k < 0
  · have HF : Hid (FindOf f size tag k L 0 false) := .inr ⟨rfl, rfl, .inr (.inl hneg)⟩
    go_enter Try.func25, Try.ntmps25
    go_upto_region 1 with fail
    rw [← HW'.out]
    go_wp2_with fail
    refine bodyPost_ret (v := .tuple #[.int .i64 0, .bool false]) (by simp [results, Try.results25, go_sem]) rfl ?_
    exact ⟨0, false, rfl, HF, HB.out⟩
  · have hk0 : 0 ≤ k := by omega
    have HK0 : Hid (0 ≤ k ∧ k ≤ 9223372036854775807) := ⟨hk0, hk⟩
    go_enter Try.func25, Try.ntmps25
    go_upto_region 1 with fail
    rw [← HW'.out]
    clear k0 k1
    go_wp2_with fail
    clear hneg hk0 hk
    go_loopw [2, 8] (fun kv iv wr => ∃ (j : Nat) (kk : Int), j ≤ n ∧ iv = .int .i64 j ∧ kv = .int .i64 kk ∧ Hid (kk = k - cnt tag (L.take j) ∧ 0 ≤ kk) ∧ Hid (M2 W.heap.size (.int .i64 size) (.slice a n c) wr) ∧ Hid (Below W.heap.size W wr)) (fun _ i _ => n - (intOf i).toNat)
    case atStart => exact ⟨0, k, by omega, rfl, rfl, ⟨by show k = k - 0; omega, HK0.out.1⟩, HM.out, HB.out⟩
    case round =>
      obtain ⟨j, kk, hj, rfl, rfl, HKK, HMr, HBr⟩ := hrel
      have k0 := HMr.out.c0; have k1 := HMr.out.c1
      by_cases hlt : j < n
      · have hj2 : (j : Int) < n := by omega
        have hjl : j < L.length := by rw [← HN.out]; exact hlt
        obtain ⟨G, rfl, c0, c1, c2⟩ := (HRS.out.below HBr.out).at' hjl
        have hbd := HKB.out L[j] (List.getElem_mem hjl)
        have HAT := Lib.hid (fits_at HL.out.1 j hjl)
        have HSP : Hid (L = L.take j ++ L[j] :: L.drop (j + 1)) := by
          show _ = _
          rw [← List.drop_eq_getElem_cons hjl, List.take_append_drop]
        have HTK : Hid (cnt tag (L.take (j + 1)) = cnt tag (L.take j) + if L[j].tag = tag then L[j].hi - L[j].lo else 0) := by
          show _ = _
          rw [List.take_add_one, List.getElem?_eq_getElem hjl]
          show cnt tag (L.take j ++ [L[j]]) = _
          rw [cnt_append]
          show _ + ((if L[j].tag = tag then L[j].hi - L[j].lo else 0) + 0) = _
          omega
        have HC0 : Hid (0 ≤ cnt tag (L.take j) ∧ 0 ≤ cnt tag (L.drop (j + 1))) := ⟨(cnt_bd (k := tag) (l := L.take j) (fun r hr => HKB.out r (List.mem_of_mem_take hr))).1, (cnt_bd (k := tag) (l := L.drop (j + 1)) (fun r hr => HKB.out r (List.mem_of_mem_drop hr))).1⟩
        generalize L[j] = r at *
        obtain ⟨ra, rb, rc⟩ := r
        simp only at c0 c1 c2
        obtain ⟨q1, q2, q3, q4, q5⟩ := hbd
        simp only at q1 q2 q3 q4 q5
        have hkk := HKK.out.2
        have hkt : kk ≤ 9223372036854775807 := by have := HKK.out.1; have := HC0.out.1; have := HK0.out; omega
        have hw1 : IntKind.i64.wrap (rb - ra) = rb - ra := IntWalk.i64_in _ (by omega)
        have hw2 : IntKind.i64.wrap (kk - (rb - ra)) = kk - (rb - ra) := IntWalk.i64_in _ (by omega)
        obtain ⟨wx, HWX⟩ : ∃ wx, wx = wr.alloc (.cells #[.int .i64 ra, .int .i64 rb, .int .i64 rc] 64) := ⟨_, rfl⟩
        have bx : Below wr.heap.size wr wx := by rw [HWX]; exact (Below.refl _ _).alloc (Nat.le_refl _) _
        have hrb : Rb wx wr.heap.size ⟨ra, rb, rc⟩ := by rw [HWX]; exact Rb.new wr ⟨ra, rb, rc⟩
        obtain ⟨r0, r1, r2⟩ := hrb.cells
        simp only at r0 r1 r2
        have HMx := Lib.hid (HMr.out.next bx)
        have HBx := Lib.hid (HBr.out.trans (bx.mono HBr.out.size))
        have HWX' := Lib.hid HWX
        clear HWX bx hrb
        go_upto_region 7 with fail
        rw [← HWX'.out]
        clear c0 c1 c2 k0 k1
        by_cases ht : rc = tag
        · subst ht
          by_cases hin : kk < rb - ra
          · have hw3 : IntKind.i64.wrap (ra + kk) = ra + kk := IntWalk.i64_in _ (by omega)
            have HF : Hid (FindOf f size rc k L (ra + kk) true) := by
              obtain ⟨a1, a2, a3, a4⟩ := HAT.out
              simp only at a1 a2 a3 a4
              have hc : cnt rc L = cnt rc (L.take j) + ((rb - ra) + cnt rc (L.drop (j + 1))) := by
                conv => lhs; rw [HSP.out]
                rw [cnt_append]
                show _ + ((if rc = rc then rb - ra else 0) + _) = _
                rw [if_pos rfl]
              have hb := cb_in (l := L.take j) (r := ⟨ra, rb, rc⟩) (m := L.drop (j + 1)) (x := ra + kk) (k := rc) (by rw [← HSP.out]; exact HL.out) (by show ra ≤ _; omega) (by show _ ≤ rb; omega)
              rw [← HSP.out] at hb
              have hb2 : cb (ra + kk) rc L = cnt rc (L.take j) + kk := by
                rw [hb]
                show _ + (if rc = rc then ra + kk - ra else 0) = _
                rw [if_pos rfl]
                omega
              have := HKK.out.1; have := HC0.out
              exact .inl ⟨rfl, decide_eq_true ⟨q4, q5⟩, HK0.out.1, by omega, by omega, by omega, a4 _ (by omega) (by omega), by omega⟩
            clear HTK
            go_wp2_with fail
            refine bodyPost_ret (v := .tuple #[.int .i64 (ra + kk), .bool true]) (by simp [results, Try.results25, go_sem]) rfl ?_
            exact ⟨ra + kk, .inr ⟨rfl, HF, HBx.out⟩⟩
          · have HT2 : Hid (kk - (rb - ra) = k - cnt rc (L.take (j + 1)) ∧ 0 ≤ kk - (rb - ra)) := by
              refine ⟨?_, by omega⟩
              rw [HTK.out, HKK.out.1]
              show _ = k - (_ + if rc = rc then rb - ra else 0)
              rw [if_pos rfl]; omega
            clear HTK
            go_wp2_with fail
            go_roundw
            case rel => exact ⟨j + 1, kk - (rb - ra), by omega, by go_num, by first | rfl | go_num, HT2.out, HMx.out, HBx.out⟩
            case measure => simp [intOf]; omega
        · have HT2 : Hid (kk = k - cnt tag (L.take (j + 1)) ∧ 0 ≤ kk) := by
            refine ⟨?_, HKK.out.2⟩
            rw [HTK.out, HKK.out.1]
            show _ = k - (_ + if rc = tag then rb - ra else 0)
            rw [if_neg ht]; omega
          clear HTK
          have hbe : (rc == tag) = false := beq_eq_false_iff_ne.2 ht
          go_wp2_with fail
          go_roundw
          case rel => exact ⟨j + 1, kk, by omega, by go_num, rfl, HT2.out, HMx.out, HBx.out⟩
          case measure => simp [intOf]; omega
      · have hj2 : ¬ (j : Int) < n := by omega
        have HF : Hid (FindOf f size tag k L 0 false) := by
          have h1 := HKK.out.1
          rw [List.take_of_length_le (by have := HN.out; omega)] at h1
          have := HKK.out.2
          exact .inr ⟨rfl, rfl, .inr (.inr (by omega))⟩
        go_wp2_with fail
        refine bodyPost_ret (v := .tuple #[.int .i64 0, .bool false]) (by simp [results, Try.results25, go_sem]) rfl ?_
        exact ⟨0, .inl ⟨rfl, HF, HBr.out⟩⟩
end Go.Proofs.Ytjbenhmpeceaeaa
