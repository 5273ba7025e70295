/- What the laws ask besides: Count, the document's Value and Long; a serial's bytes. -/
import Derived.Test.YtgblfobomiiofaaTSerA
namespace Go.Proofs.Ytgblfobomiiofaa
open Go Go.RowKit Go.Shelf Gw Go.Maps

/-- what Count answers -/
def CountP (s : Sch) (W : World) (e : Ending) (W' : World) : Prop :=
  Below W.heap.size W W' ∧ ((¬ WellF s ∧ e = .returned (.tuple #[.int .i64 0, .int .i64 20])) ∨ (WellF s ∧ ¬ (1 ≤ totS s ∧ totS s ≤ 1099511627776) ∧ e = .returned (.tuple #[.int .i64 0, .int .i64 3])) ∨
    (ValidS s ∧ e = .returned (.tuple #[.int .i64 (totS s : Int), .int .i64 0])))
set_option maxRecDepth 100000 in
set_option maxHeartbeats 2000000 in
theorem Count_any {s : Sch} {bv : Value} {w : World} (hv : IsSs w bv s.bl) : Calls Try.prog 21 #[schV s bv] w (CountP s w) := by
  obtain ⟨w1, hw1⟩ : ∃ w1, w1 = w.alloc (.cells #[.string s.al, .int .i64 s.len, bv, .bool s.ck] 24) := ⟨_, rfl⟩
  have hb1 : Below w.heap.size w w1 := by rw [hw1]; exact below_al _ _
  have H4 : Hid (B4 w.heap.size (.string s.al) (.int .i64 s.len) bv (.bool s.ck) w1) := by rw [hw1]; exact B4.new _ _ _ _ _ _
  have HNS := Lib.hid (newSeries_any (s := s) (hv.below hb1))
  have HB1 := Lib.hid hb1
  have HW1 := Lib.hid hw1
  obtain ⟨bo, bc, rfl, -⟩ := hv
  obtain ⟨al, len, bl, ck⟩ := s
  unfold schV at HNS ⊢
  dsimp only at *
  clear hw1 hb1
  have k0 := H4.out.c0; have k1 := H4.out.c1; have k2 := H4.out.c2; have k3 := H4.out.c3
  go_enter Try.func21, Try.ntmps21
  go_upto_region 1 with fail
  rw [← HW1.out]
  go_cut [4, 5] from 4 to 10 (fun s4 s5 wz => ∃ E : Int, s5 = .int .i64 E ∧ Hid (NewQ ⟨al, len, bl, ck⟩ w s4 E wz))
  case first =>
    go_wp2_with (first
      | (go_at_call 46; (with_reducible refine HNS.out.mono ?_); rintro e w2 hN; obtain ⟨pv, E, rfl, HNQ⟩ := newQ_of HB1.out hN; clear hN)
      | fail)
    go_meet
    case rel => exact ⟨E, rfl, HNQ⟩
  case rest =>
    obtain ⟨E, rfl, HNQ⟩ := hcut
    apply_assumption
    rcases HNQ.out with ⟨hb, ⟨hn, rfl, rfl⟩ | ⟨hn, hm, rfl, rfl⟩ | ⟨hV, rfl, x, rfl, hF, hk⟩⟩
    · have HN := Lib.hid hn
      have HBB := Lib.hid hb
      clear hn hb HNQ
      go_wp2_with fail
      refine bodyPost_ret (v := .tuple #[.int .i64 0, .int .i64 20]) (by simp [results, Try.results21, go_sem]) rfl ?_
      exact ⟨HBB.out, .inl ⟨HN.out, rfl⟩⟩
    · have HN := Lib.hid (And.intro hn hm)
      have HBB := Lib.hid hb
      clear hn hm hb HNQ
      go_wp2_with fail
      refine bodyPost_ret (v := .tuple #[.int .i64 0, .int .i64 3]) (by simp [results, Try.results21, go_sem]) rfl ?_
      exact ⟨HBB.out, .inr (.inl ⟨HN.out.1, HN.out.2, rfl⟩)⟩
    · obtain ⟨n, hn⟩ : ∃ n : Nat, len = n := ⟨len.toNat, by have := hV.1.2.1; dsimp only at this; omega⟩
      subst hn
      have HV := Lib.hid hV
      have HF := Lib.hid hF
      have HBB := Lib.hid hb
      have HK := Lib.hid hk
      clear hV hF hb HNQ hk k0 k1 k2 k3
      have HTO := Lib.hid (total_S HV.out HF.out)
      obtain ⟨R, hR⟩ : ∃ R, R = x.R := ⟨_, rfl⟩
      rw [← hR] at HTO ⊢
      obtain ⟨T, hT⟩ : ∃ T, T = totS ⟨al, (n : Int), bl, ck⟩ := ⟨_, rfl⟩
      rw [← hT] at HTO
      have HT := Lib.hid hT
      clear hR hT
      go_wp2_with (first
        | (go_at_call 47; (with_reducible refine HTO.out.mono ?_); rintro e w3 ⟨rfl, HF3, HG3⟩)
        | fail)
      refine bodyPost_ret (v := .tuple #[.int .i64 (T : Int), .int .i64 0]) (by simp [results, Try.results21, go_sem]) rfl ?_
      exact ⟨HBB.out.grown HG3.out HBB.out.size (fun j hj => by cases hj; exact HK.out), .inr (.inr ⟨HV.out, by rw [HT.out]⟩)⟩
theorem index_first {b : UInt8} : ∀ {l : List UInt8} {i : Nat} (h : i < l.length), l[i] = b → (∀ j (hj : j < i), l[j]'(Nat.lt_trans hj h) ≠ b) → Lib.indexByte l b = (i : Int)
  | c :: t, 0, _, e, _ => by
    have e2 : c = b := e
    subst e2
    unfold Lib.indexByte
    simp
  | c :: t, i + 1, h, e, hn => by
    have h0 : c ≠ b := hn 0 (Nat.succ_pos _)
    have ih := index_first (l := t) (i := i) (by simpa using h) (by simpa using e) (fun j hj => by simpa using hn (j + 1) (by omega))
    unfold Lib.indexByte
    rw [beq_eq_false_iff_ne.2 h0, ih]
    simp
set_option maxRecDepth 100000 in
set_option maxHeartbeats 2000000 in
theorem Value_any {al : ByteArray} (b : UInt8) (hal : al.size ≤ 1000) (w : World) : Calls Try.prog 41 #[.string al, .int .u8 (b.toNat : Int)] w fun e w' => e = .returned (.int .i64 (Lib.indexByte (bys al) b)) ∧ w = w' := by
  obtain ⟨r, hr⟩ : ∃ r, r = Lib.indexByte (bys al) b := ⟨_, rfl⟩
  rw [← hr]
  have HR := Lib.hid hr
  clear hr
  go_enter Try.func41, Try.ntmps41
  go_wp2_with fail
  go_loopw [5] (fun s5 wr => ∃ i : Nat, i ≤ al.size ∧ s5 = .int .i64 i ∧ Hid (w = wr) ∧ Hid (∀ j (h : j < al.size), j < i → al[j] ≠ b)) (fun s5 _ => al.size - (intOf s5).toNat)
  case atStart => exact ⟨0, Nat.zero_le _, rfl, rfl, fun j _ h => by omega⟩
  case round =>
    obtain ⟨i, hi, rfl, HWR, HN⟩ := hrel
    obtain rfl := HWR.out
    by_cases q : i < al.size
    · have q1 : (i : Int) < (al.size : Int) := by omega
      have hw : IntKind.i64.wrap ((i : Int) + 1) = ((i + 1 : Nat) : Int) := by rw [IntWalk.i64_in _ (by omega)]; omega
      have hix := fun W => index_str q W
      obtain ⟨y, hy⟩ : ∃ y, y = al[i] := ⟨_, rfl⟩
      rw [← hy] at hix
      have HY := Lib.hid hy
      clear hy
      by_cases c : y = b
      · subst c
        have HI : Hid (r = (i : Int)) := by
          show r = _
          rw [HR.out]
          exact index_first (by rw [bys_len]; exact q) HY.out.symm (fun j hj => HN.out j (by omega) hj)
        go_wp2_with fail
        go_ret
        exact ⟨by rw [HI.out]; rfl, rfl⟩
      · have hc : ((y.toNat : Int) == (b.toNat : Int)) = false := beq_eq_false_iff_ne.2 (fun e => c (UInt8.toNat_inj.1 (by omega)))
        have HN2 : Hid (∀ j (h : j < al.size), j < i + 1 → al[j] ≠ b) := fun j h hj => by
          rcases Nat.lt_succ_iff_lt_or_eq.1 hj with h2 | h2
          · exact HN.out j h h2
          · subst h2
            rw [← HY.out]; exact c
        go_wp2_with fail
        go_roundw
        case rel => exact ⟨i + 1, q, by go_num, (by first | exact rfl | exact Lib.hid trivial), HN2⟩
        case measure => simp [intOf]; omega
    · obtain rfl : i = al.size := by omega
      have q1 : ¬ (al.size : Int) < (al.size : Int) := by omega
      have HI : Hid (r = -1) := by
        show r = _
        rw [HR.out]
        exact indexByte_none fun x hx e => by
          obtain ⟨j, hj, e2⟩ := mem_bys.1 hx
          exact HN.out j hj hj (e2.trans e)
      go_wp2_with fail
      go_ret
      exact ⟨by rw [HI.out]; rfl, rfl⟩
/-- the values of a serial's bytes -/
def serU (al : ByteArray) (ck : Bool) (u : List Nat) : List Nat := if ck then u ++ [lcN al.size (chk (ncN al.size) al.size u)] else u
theorem serB_signs (al : ByteArray) (ck : Bool) (u : List Nat) : serB al ck u = ⟨(signs al (serU al ck u)).toArray⟩ := by
  unfold serB serU signs
  cases ck <;> simp
theorem bys_signs (al : ByteArray) (u : List Nat) : bys ⟨(signs al u).toArray⟩ = signs al u := rfl
theorem serU_len (al : ByteArray) (n : Nat) (ck : Bool) {u : List Nat} (h : u.length = n) : (serU al ck u).length = szN n ck := by
  unfold serU szN
  cases ck <;> simp [h]
theorem serU_lt {al : ByteArray} (h2 : 2 ≤ al.size) (ck : Bool) {u : List Nat} (h : ∀ v ∈ u, v < al.size) : ∀ v ∈ serU al ck u, v < al.size := by
  intro v hv
  unfold serU at hv
  cases ck with
  | false => exact h v hv
  | true =>
    rcases List.mem_append.1 hv with h3 | h3
    · exact h v h3
    · rw [show v = lcN al.size (chk (ncN al.size) al.size u) by simpa using h3]
      exact Nat.mod_lt _ (by omega)
theorem serU_take (al : ByteArray) (ck : Bool) {u : List Nat} {n : Nat} (h : u.length = n) : (serU al ck u).take n = u := by
  unfold serU
  cases ck <;> simp [← h]
theorem signs_len (al : ByteArray) (u : List Nat) : (signs al u).length = u.length := by simp [signs]
theorem signs_of {al : ByteArray} {u : List Nat} (h : ∀ v ∈ u, v < al.size) : OfA ⟨(signs al u).toArray⟩ al := by
  intro b hb
  rw [bys_signs] at hb
  obtain ⟨v, hv, rfl⟩ := List.mem_map.1 hb
  rw [dif_pos (h v hv)]
  exact bys_at (h v hv)
theorem idx_sign {al : ByteArray} (ha : GoodA al) {v : Nat} (h : v < al.size) : (bys al).idxOf (al[v]) = v := by
  have h1 : al[v] ∈ bys al := bys_at h
  have h2 := index_first (b := al[v]) (l := bys al) (i := v) (by rw [bys_len]; exact h) rfl (fun j hj => (ha.2.2 v h).2 j (by omega) hj)
  rw [indexByte_idx h1] at h2
  omega
theorem word_signs {al : ByteArray} (ha : GoodA al) {u : List Nat} (h : ∀ v ∈ u, v < al.size) : wordN al ⟨(signs al u).toArray⟩ = u := by
  unfold wordN
  rw [bys_signs]
  unfold signs
  rw [List.map_map]
  conv => rhs; rw [← List.map_id u]
  refine List.map_congr_left fun v hv => ?_
  show (bys al).idxOf (if h : v < al.size then al[v] else 0) = v
  rw [dif_pos (h v hv)]
  exact idx_sign ha (h v hv)
theorem serB_word {al : ByteArray} (ha : GoodA al) (ck : Bool) {u : List Nat} (h : ∀ v ∈ u, v < al.size) : wordN al (serB al ck u) = serU al ck u := by
  rw [serB_signs]
  exact word_signs ha (serU_lt ha.1 ck h)
theorem serB_size (al : ByteArray) (n : Nat) (ck : Bool) {u : List Nat} (h : u.length = n) : (serB al ck u).size = szN n ck := by
  rw [serB_signs]
  show (signs al (serU al ck u)).toArray.size = _
  rw [List.size_toArray, signs_len, serU_len al n ck h]
theorem serB_of {al : ByteArray} (h2 : 2 ≤ al.size) (ck : Bool) {u : List Nat} (h : ∀ v ∈ u, v < al.size) : OfA (serB al ck u) al := by
  rw [serB_signs]
  exact signs_of (serU_lt h2 ck h)
theorem serU_ends (al : ByteArray) (n : Nat) (ck : Bool) {u : List Nat} (h : u.length = n) : endsB al.size n ck (serU al ck u) = true := by
  unfold endsB serU
  cases ck with
  | false => rfl
  | true => simp [← h]
/-- a byte of a serial, and its value -/
theorem serB_at {al : ByteArray} (ha : GoodA al) (ck : Bool) {u : List Nat} (h : ∀ v ∈ u, v < al.size) {i : Nat} (hi : i < (serB al ck u).size) :
    Lib.indexByte (bys al) ((serB al ck u)[i]) = (((serU al ck u).getD i 0 : Nat) : Int) := by
  have hw := serB_word ha ck h
  have hm : (serB al ck u)[i] ∈ bys (serB al ck u) := bys_at hi
  rw [indexByte_idx (serB_of ha.1 ck h _ hm), ← hw]
  have hl : i < (wordN al (serB al ck u)).length := by rw [wordN_len]; exact hi
  rw [List.getD_eq_getElem?_getD, List.getElem?_eq_getElem hl, Option.getD_some]
  have e3 : (wordN al (serB al ck u))[i] = (bys al).idxOf ((bys (serB al ck u))[i]'(by rw [bys_len]; exact hi)) := List.getElem_map _
  rw [e3]
  rfl
/-- Number of a serial is its place -/
theorem Num_of {s : Sch} {bv : Value} {w : World} (hv : IsSs w bv s.bl) (hV : ValidS s) {K : Nat} {u : List Nat} (hu : (wordsS s)[K]? = some u) :
    Calls Try.prog 25 #[schV s bv, .string (serB s.al s.ck u)] w fun e w' => e = .returned (.tuple #[.int .i64 (K : Int), .int .i64 0]) ∧ Hid (Below w.heap.size w w') := by
  obtain ⟨h1, h2, h3⟩ := wordsS_mem (List.mem_of_getElem? hu)
  have hw := serB_word hV.1.1 s.ck h2
  refine (Number_any hv).mono ?_
  have hP : (serB s.al s.ck u).size = szN (nS s) s.ck ∧ OfA (serB s.al s.ck u) s.al := ⟨serB_size _ _ _ h1, serB_of hV.1.1.1 _ h2⟩
  have hT : (wordN s.al (serB s.al s.ck u)).take (nS s) = u := by rw [hw]; exact serU_take _ _ h1
  have hA : AllowW (bansS s) u := by
    have h4 := allow_fS hV.1 h2
    rw [h3] at h4
    exact of_decide_eq_true h4.symm
  have hE : endsB s.al.size (nS s) s.ck (wordN s.al (serB s.al s.ck u)) = true := by rw [hw]; exact serU_ends _ _ _ h1
  have hB : bel (wordsS s) u = K := by
    obtain ⟨hK, e⟩ := List.getElem?_eq_some_iff.1 hu
    have h5 := bel_at (l := wordsS s) (sorted_words _ _ _) hK
    rw [e] at h5
    exact h5
  rintro e w' ⟨hb, ⟨hn, _⟩ | ⟨_, hn, _⟩ | ⟨_, hn, _⟩ | ⟨_, _, hn, _⟩ | ⟨_, _, _, hn, _⟩ | ⟨_, _, _, _, rfl⟩⟩
  · exact absurd hV.1 hn
  · exact absurd hV.2 hn
  · exact absurd hP hn
  · rw [hT] at hn; exact absurd hA hn
  · rw [hE] at hn; cases hn
  · rw [hT, hB]; exact ⟨rfl, hb⟩
theorem Text_of {s : Sch} {bv : Value} {w : World} (hv : IsSs w bv s.bl) (hV : ValidS s) {K : Nat} (hK : K < totS s) {u : List Nat} (hu : (wordsS s)[K]? = some u) :
    Calls Try.prog 24 #[schV s bv, .int .i64 (K : Int)] w fun e w' => e = .returned (.tuple #[.string (serB s.al s.ck u), .int .i64 0]) ∧ Hid (Below w.heap.size w w') := by
  refine (Text_any hv).mono ?_
  rintro e w' ⟨hb, ⟨hn, _⟩ | ⟨_, hn, _⟩ | ⟨_, hn, _⟩ | ⟨_, K', u', hKK, _, hu', rfl⟩⟩
  · exact absurd hV.1 hn
  · exact absurd hV.2 hn
  · exact absurd ⟨by omega, by omega⟩ hn
  · have : K = K' := by omega
    subst this
    rw [hu] at hu'
    injection hu' with hu'
    subst hu'
    exact ⟨rfl, hb⟩
theorem Count_yes {s : Sch} {bv : Value} {w : World} (hv : IsSs w bv s.bl) (hV : ValidS s) : Calls Try.prog 21 #[schV s bv] w fun e w' => e = .returned (.tuple #[.int .i64 (totS s : Int), .int .i64 0]) ∧ Hid (Below w.heap.size w w') := by
  refine (Count_any hv).mono ?_
  rintro e w' ⟨hb, ⟨hn, _⟩ | ⟨_, hn, _⟩ | ⟨_, rfl⟩⟩
  · exact absurd hV.1 hn
  · exact absurd hV.2 hn
  · exact ⟨rfl, hb⟩
theorem Count_no {s : Sch} {bv : Value} {w : World} (hv : IsSs w bv s.bl) (hV : ¬ ValidS s) : Calls Try.prog 21 #[schV s bv] w fun e w' => ∃ E : Int, e = .returned (.tuple #[.int .i64 0, .int .i64 E]) ∧ (E != 0) = true ∧ Hid (Below w.heap.size w w') := by
  refine (Count_any hv).mono ?_
  rintro e w' ⟨hb, ⟨_, rfl⟩ | ⟨_, _, rfl⟩ | ⟨hn, _⟩⟩
  · exact ⟨_, rfl, rfl, hb⟩
  · exact ⟨_, rfl, rfl, hb⟩
  · exact absurd hn hV
end Go.Proofs.Ytgblfobomiiofaa
