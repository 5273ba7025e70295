/- Contracts and lemmas (several texts merged into one). -/
import Derived.Test.YtgblfobomiiofaaTSerA
namespace Go.Proofs.Ytgblfobomiiofaa
open Go Go.RowKit Go.Shelf Gw Go.Maps

/-- what Count answers -/
def CountP (s : Sch) (W : World) (e : Ending) (W' : World) : Prop :=
  Below W.heap.size W W' ∧ ((¬ WellF s ∧ e = .returned (.tuple #[.int .i64 0, .int .i64 20])) ∨ (WellF s ∧ ¬ (1 ≤ totS s ∧ totS s ≤ 1099511627776) ∧ e = .returned (.tuple #[.int .i64 0, .int .i64 3])) ∨
    (ValidS s ∧ e = .returned (.tuple #[.int .i64 (totS s : Int), .int .i64 0])))
set_option maxRecDepth 100000 in
set_option maxHeartbeats 2000000 in
theorem Count_any {s : Sch} {bv : Value} {w : World} (hv : IsSs w bv s.bl) : Calls Try.prog 21 #[schV s bv] w (CountP s w) := by
  obtain ⟨w1, hw1⟩ : ∃ w1, w1 = w.alloc (.cells #[.string s.al, .int .i64 s.len, bv, .bool s.ck] 24) := ⟨_, rfl⟩
  have hb1 : Below w.heap.size w w1 := by rw [hw1]; exact below_al _ _
  have H4 : Hid (B4 w.heap.size (.string s.al) (.int .i64 s.len) bv (.bool s.ck) w1) := by rw [hw1]; exact B4.new _ _ _ _ _ _
  have HNS := Lib.hid (newSeries_any (s := s) (hv.below hb1))
  have HB1 := Lib.hid hb1
  have HW1 := Lib.hid hw1
  obtain ⟨bo, bc, rfl, -⟩ := hv
  obtain ⟨al, len, bl, ck⟩ := s
  unfold schV at HNS ⊢
  dsimp only at *
  clear hw1 hb1
  have k0 := H4.out.c0; have k1 := H4.out.c1; have k2 := H4.out.c2; have k3 := H4.out.c3
  go_enter Try.func21, Try.ntmps21
  go_upto_region 1 with fail
  rw [← HW1.out]
  go_cut [4, 5] from 4 to 10 (fun s4 s5 wz => ∃ E : Int, s5 = .int .i64 E ∧ Hid (NewQ ⟨al, len, bl, ck⟩ w s4 E wz))
  case first =>
    go_wp2_with (first
      | (go_at_call 46; (with_reducible refine HNS.out.mono ?_); rintro e w2 hN; obtain ⟨pv, E, rfl, HNQ⟩ := newQ_of HB1.out hN; clear hN)
      | fail)
    go_meet
    case rel => exact ⟨E, rfl, HNQ⟩
  case rest =>
    obtain ⟨E, rfl, HNQ⟩ := hcut
    apply_assumption
    rcases HNQ.out with ⟨hb, ⟨hn, rfl, rfl⟩ | ⟨hn, hm, rfl, rfl⟩ | ⟨hV, rfl, x, rfl, hF, hk⟩⟩
    · have HN := Lib.hid hn
      have HBB := Lib.hid hb
      clear hn hb HNQ
      go_wp2_with fail
      refine bodyPost_ret (v := .tuple #[.int .i64 0, .int .i64 20]) (by simp [results, Try.results21, go_sem]) rfl ?_
      exact ⟨HBB.out, .inl ⟨HN.out, rfl⟩⟩
    · have HN := Lib.hid (And.intro hn hm)
      have HBB := Lib.hid hb
      clear hn hm hb HNQ
      go_wp2_with fail
      refine bodyPost_ret (v := .tuple #[.int .i64 0, .int .i64 3]) (by simp [results, Try.results21, go_sem]) rfl ?_
      exact ⟨HBB.out, .inr (.inl ⟨HN.out.1, HN.out.2, rfl⟩)⟩
    · obtain ⟨n, hn⟩ : ∃ n : Nat, len = n := ⟨len.toNat, by have := hV.1.2.1; dsimp only at this; omega⟩
      subst hn
      have HV := Lib.hid hV
      have HF := Lib.hid hF
      have HBB := Lib.hid hb
      have HK := Lib.hid hk
      clear hV hF hb HNQ hk k0 k1 k2 k3
      have HTO := Lib.hid (total_S HV.out HF.out)
      obtain ⟨R, hR⟩ : ∃ R, R = x.R := ⟨_, rfl⟩
      rw [← hR] at HTO ⊢
      obtain ⟨T, hT⟩ : ∃ T, T = totS ⟨al, (n : Int), bl, ck⟩ := ⟨_, rfl⟩
      rw [← hT] at HTO
      have HT := Lib.hid hT
      clear hR hT
      go_wp2_with (first
        | (go_at_call 47; (with_reducible refine HTO.out.mono ?_); rintro e w3 ⟨rfl, HF3, HG3⟩)
        | fail)
      refine bodyPost_ret (v := .tuple #[.int .i64 (T : Int), .int .i64 0]) (by simp [results, Try.results21, go_sem]) rfl ?_
      exact ⟨HBB.out.grown HG3.out HBB.out.size (fun j hj => by cases hj; exact HK.out), .inr (.inr ⟨HV.out, by rw [HT.out]⟩)⟩
theorem index_first {b : UInt8} : ∀ {l : List UInt8} {i : Nat} (h : i < l.length), l[i] = b → (∀ j (hj : j < i), l[j]'(Nat.lt_trans hj h) ≠ b) → Lib.indexByte l b = (i : Int)
  | c :: t, 0, _, e, _ => by
    have e2 : c = b := e
    subst e2
    unfold Lib.indexByte
    simp
  | c :: t, i + 1, h, e, hn => by
    have h0 : c ≠ b := hn 0 (Nat.succ_pos _)
    have ih := index_first (l := t) (i := i) (by simpa using h) (by simpa using e) (fun j hj => by simpa using hn (j + 1) (by omega))
    unfold Lib.indexByte
    rw [beq_eq_false_iff_ne.2 h0, ih]
    simp
set_option maxRecDepth 100000 in
set_option maxHeartbeats 2000000 in
theorem Value_any {al : ByteArray} (b : UInt8) (hal : al.size ≤ 1000) (w : World) : Calls Try.prog 41 #[.string al, .int .u8 (b.toNat : Int)] w fun e w' => e = .returned (.int .i64 (Lib.indexByte (bys al) b)) ∧ w = w' := by
  obtain ⟨r, hr⟩ : ∃ r, r = Lib.indexByte (bys al) b := ⟨_, rfl⟩
  rw [← hr]
  have HR := Lib.hid hr
  clear hr
  go_enter Try.func41, Try.ntmps41
  go_wp2_with fail
  go_loopw [5] (fun s5 wr => ∃ i : Nat, i ≤ al.size ∧ s5 = .int .i64 i ∧ Hid (w = wr) ∧ Hid (∀ j (h : j < al.size), j < i → al[j] ≠ b)) (fun s5 _ => al.size - (intOf s5).toNat)
  case atStart => exact ⟨0, Nat.zero_le _, rfl, rfl, fun j _ h => by omega⟩
  case round =>
    obtain ⟨i, hi, rfl, HWR, HN⟩ := hrel
    obtain rfl := HWR.out
    by_cases q : i < al.size
    · have q1 : (i : Int) < (al.size : Int) := by omega
      have hw : IntKind.i64.wrap ((i : Int) + 1) = ((i + 1 : Nat) : Int) := by rw [IntWalk.i64_in _ (by omega)]; omega
      have hix := fun W => index_str q W
      obtain ⟨y, hy⟩ : ∃ y, y = al[i] := ⟨_, rfl⟩
      rw [← hy] at hix
      have HY := Lib.hid hy
      clear hy
      by_cases c : y = b
      · subst c
        have HI : Hid (r = (i : Int)) := by
          show r = _
          rw [HR.out]
          exact index_first (by rw [bys_len]; exact q) HY.out.symm (fun j hj => HN.out j (by omega) hj)
        go_wp2_with fail
        go_ret
        exact ⟨by rw [HI.out]; rfl, rfl⟩
      · have hc : ((y.toNat : Int) == (b.toNat : Int)) = false := beq_eq_false_iff_ne.2 (fun e => c (UInt8.toNat_inj.1 (by omega)))
        have HN2 : Hid (∀ j (h : j < al.size), j < i + 1 → al[j] ≠ b) := fun j h hj => by
          rcases Nat.lt_succ_iff_lt_or_eq.1 hj with h2 | h2
          · exact HN.out j h h2
          · subst h2
            rw [← HY.out]; exact c
        go_wp2_with fail
        go_roundw
        case rel => exact ⟨i + 1, q, by go_num, (by first | exact rfl | exact Lib.hid trivial), HN2⟩
        case measure => simp [intOf]; omega
    · obtain rfl : i = al.size := by omega
      have q1 : ¬ (al.size : Int) < (al.size : Int) := by omega
      have HI : Hid (r = -1) := by
        show r = _
        rw [HR.out]
        exact indexByte_none fun x hx e => by
          obtain ⟨j, hj, e2⟩ := mem_bys.1 hx
          exact HN.out j hj hj (e2.trans e)
      go_wp2_with fail
      go_ret
      exact ⟨by rw [HI.out]; rfl, rfl⟩
/-- the values of a serial's bytes -/
def serU (al : ByteArray) (ck : Bool) (u : List Nat) : List Nat := if ck then u ++ [lcN al.size (chk (ncN al.size) al.size u)] else u
theorem serB_signs (al : ByteArray) (ck : Bool) (u : List Nat) : serB al ck u = ⟨(signs al (serU al ck u)).toArray⟩ := by
  unfold serB serU signs
  cases ck <;> simp
theorem bys_signs (al : ByteArray) (u : List Nat) : bys ⟨(signs al u).toArray⟩ = signs al u := rfl
theorem serU_len (al : ByteArray) (n : Nat) (ck : Bool) {u : List Nat} (h : u.length = n) : (serU al ck u).length = szN n ck := by
  unfold serU szN
  cases ck <;> simp [h]
theorem serU_lt {al : ByteArray} (h2 : 2 ≤ al.size) (ck : Bool) {u : List Nat} (h : ∀ v ∈ u, v < al.size) : ∀ v ∈ serU al ck u, v < al.size := by
  intro v hv
  unfold serU at hv
  cases ck with
  | false => exact h v hv
  | true =>
    rcases List.mem_append.1 hv with h3 | h3
    · exact h v h3
    · rw [show v = lcN al.size (chk (ncN al.size) al.size u) by simpa using h3]
      exact Nat.mod_lt _ (by omega)
theorem serU_take (al : ByteArray) (ck : Bool) {u : List Nat} {n : Nat} (h : u.length = n) : (serU al ck u).take n = u := by
  unfold serU
  cases ck <;> simp [← h]
theorem signs_len (al : ByteArray) (u : List Nat) : (signs al u).length = u.length := by simp [signs]
theorem signs_of {al : ByteArray} {u : List Nat} (h : ∀ v ∈ u, v < al.size) : OfA ⟨(signs al u).toArray⟩ al := by
  intro b hb
  rw [bys_signs] at hb
  obtain ⟨v, hv, rfl⟩ := List.mem_map.1 hb
  rw [dif_pos (h v hv)]
  exact bys_at (h v hv)
theorem idx_sign {al : ByteArray} (ha : GoodA al) {v : Nat} (h : v < al.size) : (bys al).idxOf (al[v]) = v := by
  have h1 : al[v] ∈ bys al := bys_at h
  have h2 := index_first (b := al[v]) (l := bys al) (i := v) (by rw [bys_len]; exact h) rfl (fun j hj => (ha.2.2 v h).2 j (by omega) hj)
  rw [indexByte_idx h1] at h2
  omega
theorem word_signs {al : ByteArray} (ha : GoodA al) {u : List Nat} (h : ∀ v ∈ u, v < al.size) : wordN al ⟨(signs al u).toArray⟩ = u := by
  unfold wordN
  rw [bys_signs]
  unfold signs
  rw [List.map_map]
  conv => rhs; rw [← List.map_id u]
  refine List.map_congr_left fun v hv => ?_
  show (bys al).idxOf (if h : v < al.size then al[v] else 0) = v
  rw [dif_pos (h v hv)]
  exact idx_sign ha (h v hv)
theorem serB_word {al : ByteArray} (ha : GoodA al) (ck : Bool) {u : List Nat} (h : ∀ v ∈ u, v < al.size) : wordN al (serB al ck u) = serU al ck u := by
  rw [serB_signs]
  exact word_signs ha (serU_lt ha.1 ck h)
theorem serB_size (al : ByteArray) (n : Nat) (ck : Bool) {u : List Nat} (h : u.length = n) : (serB al ck u).size = szN n ck := by
  rw [serB_signs]
  show (signs al (serU al ck u)).toArray.size = _
  rw [List.size_toArray, signs_len, serU_len al n ck h]
theorem serB_of {al : ByteArray} (h2 : 2 ≤ al.size) (ck : Bool) {u : List Nat} (h : ∀ v ∈ u, v < al.size) : OfA (serB al ck u) al := by
  rw [serB_signs]
  exact signs_of (serU_lt h2 ck h)
theorem serU_ends (al : ByteArray) (n : Nat) (ck : Bool) {u : List Nat} (h : u.length = n) : endsB al.size n ck (serU al ck u) = true := by
  unfold endsB serU
  cases ck with
  | false => rfl
  | true => simp [← h]
/-- a byte of a serial, and its value -/
theorem serB_at {al : ByteArray} (ha : GoodA al) (ck : Bool) {u : List Nat} (h : ∀ v ∈ u, v < al.size) {i : Nat} (hi : i < (serB al ck u).size) :
    Lib.indexByte (bys al) ((serB al ck u)[i]) = (((serU al ck u).getD i 0 : Nat) : Int) := by
  have hw := serB_word ha ck h
  have hm : (serB al ck u)[i] ∈ bys (serB al ck u) := bys_at hi
  rw [indexByte_idx (serB_of ha.1 ck h _ hm), ← hw]
  have hl : i < (wordN al (serB al ck u)).length := by rw [wordN_len]; exact hi
  rw [List.getD_eq_getElem?_getD, List.getElem?_eq_getElem hl, Option.getD_some]
  have e3 : (wordN al (serB al ck u))[i] = (bys al).idxOf ((bys (serB al ck u))[i]'(by rw [bys_len]; exact hi)) := List.getElem_map _
  rw [e3]
  rfl
/-- Number of a serial is its place -/
theorem Num_of {s : Sch} {bv : Value} {w : World} (hv : IsSs w bv s.bl) (hV : ValidS s) {K : Nat} {u : List Nat} (hu : (wordsS s)[K]? = some u) :
    Calls Try.prog 25 #[schV s bv, .string (serB s.al s.ck u)] w fun e w' => e = .returned (.tuple #[.int .i64 (K : Int), .int .i64 0]) ∧ Hid (Below w.heap.size w w') := by
  obtain ⟨h1, h2, h3⟩ := wordsS_mem (List.mem_of_getElem? hu)
  have hw := serB_word hV.1.1 s.ck h2
  refine (Number_any hv).mono ?_
  have hP : (serB s.al s.ck u).size = szN (nS s) s.ck ∧ OfA (serB s.al s.ck u) s.al := ⟨serB_size _ _ _ h1, serB_of hV.1.1.1 _ h2⟩
  have hT : (wordN s.al (serB s.al s.ck u)).take (nS s) = u := by rw [hw]; exact serU_take _ _ h1
  have hA : AllowW (bansS s) u := by
    have h4 := allow_fS hV.1 h2
    rw [h3] at h4
    exact of_decide_eq_true h4.symm
  have hE : endsB s.al.size (nS s) s.ck (wordN s.al (serB s.al s.ck u)) = true := by rw [hw]; exact serU_ends _ _ _ h1
  have hB : bel (wordsS s) u = K := by
    obtain ⟨hK, e⟩ := List.getElem?_eq_some_iff.1 hu
    have h5 := bel_at (l := wordsS s) (sorted_words _ _ _) hK
    rw [e] at h5
    exact h5
  rintro e w' ⟨hb, ⟨hn, _⟩ | ⟨_, hn, _⟩ | ⟨_, hn, _⟩ | ⟨_, _, hn, _⟩ | ⟨_, _, _, hn, _⟩ | ⟨_, _, _, _, rfl⟩⟩
  · exact absurd hV.1 hn
  · exact absurd hV.2 hn
  · exact absurd hP hn
  · rw [hT] at hn; exact absurd hA hn
  · rw [hE] at hn; cases hn
  · rw [hT, hB]; exact ⟨rfl, hb⟩
theorem Text_of {s : Sch} {bv : Value} {w : World} (hv : IsSs w bv s.bl) (hV : ValidS s) {K : Nat} (hK : K < totS s) {u : List Nat} (hu : (wordsS s)[K]? = some u) :
    Calls Try.prog 24 #[schV s bv, .int .i64 (K : Int)] w fun e w' => e = .returned (.tuple #[.string (serB s.al s.ck u), .int .i64 0]) ∧ Hid (Below w.heap.size w w') := by
  refine (Text_any hv).mono ?_
  rintro e w' ⟨hb, ⟨hn, _⟩ | ⟨_, hn, _⟩ | ⟨_, hn, _⟩ | ⟨_, K', u', hKK, _, hu', rfl⟩⟩
  · exact absurd hV.1 hn
  · exact absurd hV.2 hn
  · exact absurd ⟨by omega, by omega⟩ hn
  · have : K = K' := by omega
    subst this
    rw [hu] at hu'
    injection hu' with hu'
    subst hu'
    exact ⟨rfl, hb⟩
theorem Count_yes {s : Sch} {bv : Value} {w : World} (hv : IsSs w bv s.bl) (hV : ValidS s) : Calls Try.prog 21 #[schV s bv] w fun e w' => e = .returned (.tuple #[.int .i64 (totS s : Int), .int .i64 0]) ∧ Hid (Below w.heap.size w w') := by
  refine (Count_any hv).mono ?_
  rintro e w' ⟨hb, ⟨hn, _⟩ | ⟨_, hn, _⟩ | ⟨_, rfl⟩⟩
  · exact absurd hV.1 hn
  · exact absurd hV.2 hn
  · exact ⟨rfl, hb⟩
theorem Count_no {s : Sch} {bv : Value} {w : World} (hv : IsSs w bv s.bl) (hV : ¬ ValidS s) : Calls Try.prog 21 #[schV s bv] w fun e w' => ∃ E : Int, e = .returned (.tuple #[.int .i64 0, .int .i64 E]) ∧ (E != 0) = true ∧ Hid (Below w.heap.size w w') := by
  refine (Count_any hv).mono ?_
  rintro e w' ⟨hb, ⟨_, rfl⟩ | ⟨_, _, rfl⟩ | ⟨hn, _⟩⟩
  · exact ⟨_, rfl, rfl, hb⟩
  · exact ⟨_, rfl, rfl, hb⟩
  · exact absurd hn hV
end Go.Proofs.Ytgblfobomiiofaa
namespace Go.Proofs.Ytgblfobomiiofaa
open Go Go.RowKit Go.Shelf Gw Go.Maps

theorem ltW_first : ∀ {u w : List Nat} {i : Nat} (_ : u.length = w.length) (h : i < u.length) (h' : i < w.length), (∀ j (hj : j < i), u[j]'(Nat.lt_trans hj h) = w[j]'(Nat.lt_trans hj h')) → u[i] < w[i] → ltW u w
  | a :: u, b :: w, 0, _, _, _, _, hlt => .inl hlt
  | a :: u, b :: w, i + 1, hl, h, h', he, hlt => by
    have e0 : a = b := he 0 (Nat.succ_pos _)
    exact .inr ⟨e0, ltW_first (i := i) (by simpa using hl) (by simpa using h) (by simpa using h') (fun j hj => by simpa using he (j + 1) (by omega)) (by simpa using hlt)⟩
theorem sorted_idx {l : List (List Nat)} (hs : l.Pairwise ltW) {a b : Nat} {u w : List Nat} (ha : l[a]? = some u) (hb : l[b]? = some w) (h : ltW u w) : a < b := by
  obtain ⟨ha1, rfl⟩ := List.getElem?_eq_some_iff.1 ha
  obtain ⟨hb1, rfl⟩ := List.getElem?_eq_some_iff.1 hb
  rw [List.pairwise_iff_getElem] at hs
  rcases Nat.lt_trichotomy a b with c | c | c
  · exact c
  · subst c; exact absurd h (ltW_irrefl _)
  · exact absurd (ltW_trans h (hs b a hb1 ha1 c)) (ltW_irrefl _)
/-- the first byte at which two serials differ tells which is less -/
theorem ser_first {s : Sch} {a b : Nat} {u w : List Nat} (_hV : ValidS s) (ha : (wordsS s)[a]? = some u) (hb : (wordsS s)[b]? = some w) {i : Nat} (_hi : i < szN (nS s) s.ck)
    (he : ∀ j, j < i → (serU s.al s.ck u).getD j 0 = (serU s.al s.ck w).getD j 0) (hlt : (serU s.al s.ck u).getD i 0 < (serU s.al s.ck w).getD i 0) : a < b := by
  obtain ⟨hu1, hu2, _⟩ := wordsS_mem (List.mem_of_getElem? ha)
  obtain ⟨hw1, hw2, _⟩ := wordsS_mem (List.mem_of_getElem? hb)
  have gt : ∀ {x : List Nat} {j : Nat}, x.length = nS s → j < nS s → (serU s.al s.ck x).getD j 0 = x.getD j 0 := fun {x j} hx hj => by
    unfold serU
    cases s.ck with
    | false => rfl
    | true => simp [List.getElem?_append_left (show j < x.length by omega)]
  by_cases q : i < nS s
  · have hlu : i < u.length := by omega
    have hlw : i < w.length := by omega
    refine sorted_idx (sorted_words _ _ _) ha hb (ltW_first (i := i) (by omega) hlu hlw (fun j hj => ?_) ?_)
    · have h3 := he j hj
      rw [gt hu1 (by omega), gt hw1 (by omega)] at h3
      simpa [show j < u.length by omega, show j < w.length by omega] using h3
    · rw [gt hu1 q, gt hw1 q] at hlt
      simpa [hlu, hlw] using hlt
  · have huw : u = w := List.ext_getElem (by omega) (fun j h1 h2 => by
      have h3 := he j (by omega)
      rw [gt hu1 (by omega), gt hw1 (by omega)] at h3
      simpa [h1, h2] using h3)
    subst huw
    exact absurd hlt (Nat.lt_irrefl _)
theorem ser_same {s : Sch} {a b : Nat} {u w : List Nat} (ha : (wordsS s)[a]? = some u) (hb : (wordsS s)[b]? = some w)
    (he : ∀ j, j < szN (nS s) s.ck → (serU s.al s.ck u).getD j 0 = (serU s.al s.ck w).getD j 0) : a = b := by
  obtain ⟨hu1, _, _⟩ := wordsS_mem (List.mem_of_getElem? ha)
  obtain ⟨hw1, _, _⟩ := wordsS_mem (List.mem_of_getElem? hb)
  have hU : serU s.al s.ck u = serU s.al s.ck w := List.ext_getElem (by rw [serU_len _ _ _ hu1, serU_len _ _ _ hw1]) (fun j h1 h2 => by
    have h3 := he j (by rw [serU_len _ _ _ hu1] at h1; exact h1)
    simpa [h1, h2] using h3)
  have huw : u = w := by rw [← serU_take s.al s.ck hu1, ← serU_take s.al s.ck hw1, hU]
  subst huw
  obtain ⟨ha1, e1⟩ := List.getElem?_eq_some_iff.1 ha
  obtain ⟨hb1, e2⟩ := List.getElem?_eq_some_iff.1 hb
  have hs : (wordsS s).Pairwise ltW := sorted_words _ _ _
  rw [List.pairwise_iff_getElem] at hs
  rcases Nat.lt_trichotomy a b with c | c | c
  · have h3 := hs a b ha1 hb1 c
    rw [e1, e2] at h3
    exact absurd h3 (ltW_irrefl _)
  · exact c
  · have h3 := hs b a hb1 ha1 c
    rw [e1, e2] at h3
    exact absurd h3 (ltW_irrefl _)
theorem Long_any {s : Sch} {bv : Value} {w : World} (hl : s.len = (nS s : Int)) (hn : nS s ≤ 16) : Calls Try.prog 40 #[schV s bv] w fun e w' => e = .returned (.int .i64 (szN (nS s) s.ck : Nat)) ∧ Hid (Below w.heap.size w w') := by
  obtain ⟨w1, hw1⟩ : ∃ w1, w1 = w.alloc (.cells #[.string s.al, .int .i64 s.len, bv, .bool s.ck] 24) := ⟨_, rfl⟩
  have hb1 : Below w.heap.size w w1 := by rw [hw1]; exact below_al _ _
  have H4 : Hid (B4 w.heap.size (.string s.al) (.int .i64 s.len) bv (.bool s.ck) w1) := by rw [hw1]; exact B4.new _ _ _ _ _ _
  have HW1 := Lib.hid hw1
  have HB1 := Lib.hid hb1
  unfold schV
  obtain ⟨n, hn2⟩ : ∃ n, n = nS s := ⟨_, rfl⟩
  rw [← hn2] at hl hn ⊢
  rw [hl] at H4 HW1 ⊢
  have hw : IntKind.i64.wrap ((n : Int) + 1) = ((n + 1 : Nat) : Int) := by rw [IntWalk.i64_in _ (by omega)]; omega
  clear hw1 hb1 hn2 hl
  cases hck : s.ck with
  | false =>
    rw [hck] at H4 HW1
    have k1 := H4.out.c1; have k3 := H4.out.c3
    clear hck
    go_enter Try.func40, Try.ntmps40
    go_upto_region 1 with fail
    rw [← HW1.out]
    go_wp2_with fail
    go_ret
    exact ⟨rfl, HB1⟩
  | true =>
    rw [hck] at H4 HW1
    have k1 := H4.out.c1; have k3 := H4.out.c3
    clear hck
    go_enter Try.func40, Try.ntmps40
    go_upto_region 1 with fail
    rw [← HW1.out]
    go_wp2_with fail
    go_ret
    exact ⟨rfl, HB1⟩
set_option maxRecDepth 100000 in
set_option maxHeartbeats 4000000 in
theorem serialInverse_law {s : Sch} {bv : Value} {N M : Int} {w : World} (hv : IsSs w bv s.bl) (_hnil : NilOk bv) :
    Calls Try.prog 8 #[schV s bv, .int .i64 N, .int .i64 M] w fun e w' => e = .returned (.bool true) ∧ Hid (Below w.heap.size w w') := by
  have HAW := Lib.hid serawake_any
  obtain ⟨w1, hw1⟩ : ∃ w1, w1 = w.alloc (.cells #[.string s.al, .int .i64 s.len, bv, .bool s.ck] 24) := ⟨_, rfl⟩
  have hb1 : Below w.heap.size w w1 := by rw [hw1]; exact below_al _ _
  have H41 : Hid (B4 w.heap.size (.string s.al) (.int .i64 s.len) bv (.bool s.ck) w1) := by rw [hw1]; exact B4.new _ _ _ _ _ _
  have HFW := few_any (s := s) (hv.below hb1)
  have HV1 := Lib.hid (hv.below hb1)
  have HB1 := Lib.hid hb1
  have HW1 := Lib.hid hw1
  obtain ⟨fb, hfb⟩ : ∃ fb, fb = fewB s := ⟨_, rfl⟩
  unfold FewP at HFW
  rw [← hfb] at HFW
  have HeS : Hid (∀ v, schV s v = .agg #[.string s.al, .int .i64 s.len, v, .bool s.ck]) := fun v => rfl
  unfold schV at HFW ⊢
  obtain ⟨bo, bc, hbv, -⟩ := hv
  obtain ⟨bm, hbm⟩ : ∃ bm, bm = s.bl.length := ⟨_, rfl⟩
  rw [← hbm] at hbv
  subst hbv
  have HFW := Lib.hid HFW
  obtain ⟨al, hal⟩ : ∃ al, al = s.al := ⟨_, rfl⟩
  obtain ⟨len, hlen⟩ : ∃ len, len = s.len := ⟨_, rfl⟩
  obtain ⟨ck, hck⟩ : ∃ ck, ck = s.ck := ⟨_, rfl⟩
  rw [← hal, ← hlen, ← hck] at H41 HW1 HFW HeS ⊢
  have HAL := Lib.hid hal
  have HLEN := Lib.hid hlen
  have HCK := Lib.hid hck
  clear hw1 hb1 hfb hbm hal hlen hck
  have k0 := H41.out.c0; have k1 := H41.out.c1; have k2 := H41.out.c2; have k3 := H41.out.c3
  go_enter Try.func8, Try.ntmps8
  go_upto_region 1 with fail
  rw [← HW1.out]
  cases fb with
  | false =>
    go_wp2_with (first
      | (go_at_call 16; (with_reducible refine HFW.out.mono ?_); rintro e w2 ⟨rfl, HBf⟩; have H42 := Lib.hid (H41.out.below HBf.out); have HV2 := Lib.hid (HV1.out.below HBf.out); have HB2 := Lib.hid (HB1.out.trans (HBf.out.mono HB1.out.size)); have a20 := H42.out.c0; have a21 := H42.out.c1; have a22 := H42.out.c2; have a23 := H42.out.c3)
      | fail)
    refine (HAW.out _).mono ?_
    rintro e wz ⟨rfl, HBz⟩
    go_wp2_with fail
    go_ret
    exact ⟨rfl, (HB2.out).trans (HBz.out.mono (HB2.out).size)⟩
  | true =>
  by_cases hV : ValidS s
  case neg =>
    have HCO : Hid (∀ (W : World), IsSs W (.slice bo bm bc) s.bl → Calls Try.prog 21 #[.agg #[.string al, .int .i64 len, .slice bo bm bc, .bool ck]] W fun e w' => ∃ E : Int, e = .returned (.tuple #[.int .i64 0, .int .i64 E]) ∧ (E != 0) = true ∧ Hid (Below W.heap.size W w')) := fun W h => by rw [← HeS.out]; exact Count_no h hV
    clear hV
    go_wp2_with (first
      | (go_at_call 16; (with_reducible refine HFW.out.mono ?_); rintro e w2 ⟨rfl, HBf⟩; have H42 := Lib.hid (H41.out.below HBf.out); have HV2 := Lib.hid (HV1.out.below HBf.out); have HB2 := Lib.hid (HB1.out.trans (HBf.out.mono HB1.out.size)); have a20 := H42.out.c0; have a21 := H42.out.c1; have a22 := H42.out.c2; have a23 := H42.out.c3; have HCO2 := Lib.hid (HCO.out _ HV2.out))
      | (go_at_call 21; (with_reducible refine HCO2.out.mono ?_); rintro e wa ⟨E, rfl, hE, HBa⟩; have HBA := Lib.hid (HB2.out.trans (HBa.out.mono HB2.out.size)))
      | fail)
    refine (HAW.out _).mono ?_
    rintro e wz ⟨rfl, HBz⟩
    go_wp2_with fail
    go_ret
    exact ⟨rfl, (HBA.out).trans (HBz.out.mono (HBA.out).size)⟩
  obtain ⟨T, hT⟩ : ∃ T, T = totS s := ⟨_, rfl⟩
  have HT := Lib.hid hT
  have HVS := Lib.hid hV
  have HCO : Hid (∀ (W : World), IsSs W (.slice bo bm bc) s.bl → Calls Try.prog 21 #[.agg #[.string al, .int .i64 len, .slice bo bm bc, .bool ck]] W fun e w' => e = .returned (.tuple #[.int .i64 (T : Int), .int .i64 0]) ∧ Hid (Below W.heap.size W w')) := fun W h => by rw [← HeS.out, hT]; exact Count_yes h hV
  clear hV hT
  by_cases hcond : N < 0 ∨ M < 0 ∨ N ≥ (T : Int) ∨ M ≥ (T : Int)
  case pos =>
    by_cases c1 : N < 0
    · go_wp2_with (first
        | (go_at_call 16; (with_reducible refine HFW.out.mono ?_); rintro e w2 ⟨rfl, HBf⟩; have H42 := Lib.hid (H41.out.below HBf.out); have HV2 := Lib.hid (HV1.out.below HBf.out); have HB2 := Lib.hid (HB1.out.trans (HBf.out.mono HB1.out.size)); have a20 := H42.out.c0; have a21 := H42.out.c1; have a22 := H42.out.c2; have a23 := H42.out.c3; have HCO2 := Lib.hid (HCO.out _ HV2.out))
        | (go_at_call 21; (with_reducible refine HCO2.out.mono ?_); rintro e wa ⟨rfl, HBa⟩; have HBA := Lib.hid (HB2.out.trans (HBa.out.mono HB2.out.size)))
        | fail)
      refine (HAW.out _).mono ?_
      rintro e wz ⟨rfl, HBz⟩
      go_wp2_with fail
      go_ret
      exact ⟨rfl, (HBA.out).trans (HBz.out.mono (HBA.out).size)⟩
    by_cases c2 : M < 0
    · go_wp2_with (first
        | (go_at_call 16; (with_reducible refine HFW.out.mono ?_); rintro e w2 ⟨rfl, HBf⟩; have H42 := Lib.hid (H41.out.below HBf.out); have HV2 := Lib.hid (HV1.out.below HBf.out); have HB2 := Lib.hid (HB1.out.trans (HBf.out.mono HB1.out.size)); have a20 := H42.out.c0; have a21 := H42.out.c1; have a22 := H42.out.c2; have a23 := H42.out.c3; have HCO2 := Lib.hid (HCO.out _ HV2.out))
        | (go_at_call 21; (with_reducible refine HCO2.out.mono ?_); rintro e wa ⟨rfl, HBa⟩; have HBA := Lib.hid (HB2.out.trans (HBa.out.mono HB2.out.size)))
        | fail)
      refine (HAW.out _).mono ?_
      rintro e wz ⟨rfl, HBz⟩
      go_wp2_with fail
      go_ret
      exact ⟨rfl, (HBA.out).trans (HBz.out.mono (HBA.out).size)⟩
    by_cases c3 : N ≥ (T : Int)
    · go_wp2_with (first
        | (go_at_call 16; (with_reducible refine HFW.out.mono ?_); rintro e w2 ⟨rfl, HBf⟩; have H42 := Lib.hid (H41.out.below HBf.out); have HV2 := Lib.hid (HV1.out.below HBf.out); have HB2 := Lib.hid (HB1.out.trans (HBf.out.mono HB1.out.size)); have a20 := H42.out.c0; have a21 := H42.out.c1; have a22 := H42.out.c2; have a23 := H42.out.c3; have HCO2 := Lib.hid (HCO.out _ HV2.out))
        | (go_at_call 21; (with_reducible refine HCO2.out.mono ?_); rintro e wa ⟨rfl, HBa⟩; have HBA := Lib.hid (HB2.out.trans (HBa.out.mono HB2.out.size)))
        | fail)
      refine (HAW.out _).mono ?_
      rintro e wz ⟨rfl, HBz⟩
      go_wp2_with fail
      go_ret
      exact ⟨rfl, (HBA.out).trans (HBz.out.mono (HBA.out).size)⟩
    have c4 : M ≥ (T : Int) := by omega
    go_wp2_with (first
      | (go_at_call 16; (with_reducible refine HFW.out.mono ?_); rintro e w2 ⟨rfl, HBf⟩; have H42 := Lib.hid (H41.out.below HBf.out); have HV2 := Lib.hid (HV1.out.below HBf.out); have HB2 := Lib.hid (HB1.out.trans (HBf.out.mono HB1.out.size)); have a20 := H42.out.c0; have a21 := H42.out.c1; have a22 := H42.out.c2; have a23 := H42.out.c3; have HCO2 := Lib.hid (HCO.out _ HV2.out))
      | (go_at_call 21; (with_reducible refine HCO2.out.mono ?_); rintro e wa ⟨rfl, HBa⟩; have HBA := Lib.hid (HB2.out.trans (HBa.out.mono HB2.out.size)))
      | fail)
    refine (HAW.out _).mono ?_
    rintro e wz ⟨rfl, HBz⟩
    go_wp2_with fail
    go_ret
    exact ⟨rfl, (HBA.out).trans (HBz.out.mono (HBA.out).size)⟩
  obtain ⟨K1, rfl⟩ : ∃ K : Nat, N = K := ⟨N.toNat, by omega⟩
  obtain ⟨K2, rfl⟩ : ∃ K : Nat, M = K := ⟨M.toNat, by omega⟩
  have hK1 : K1 < T := by omega
  have hK2 : K2 < T := by omega
  have c1 : ¬ (K1 : Int) < 0 := by omega
  have c2 : ¬ (K2 : Int) < 0 := by omega
  have c3 : ¬ (K1 : Int) ≥ (T : Int) := by omega
  have c4 : ¬ (K2 : Int) ≥ (T : Int) := by omega
  have hl1 : K1 < (wordsS s).length := by rw [← totS_words, ← HT.out]; exact hK1
  have hl2 : K2 < (wordsS s).length := by rw [← totS_words, ← HT.out]; exact hK2
  obtain ⟨u1, hu1⟩ : ∃ u, (wordsS s)[K1]? = some u := ⟨_, List.getElem?_eq_getElem hl1⟩
  obtain ⟨u2, hu2⟩ : ∃ u, (wordsS s)[K2]? = some u := ⟨_, List.getElem?_eq_getElem hl2⟩
  obtain ⟨m1a, m1b, _⟩ := wordsS_mem (List.mem_of_getElem? hu1)
  obtain ⟨m2a, m2b, _⟩ := wordsS_mem (List.mem_of_getElem? hu2)
  have hGA := HVS.out.1.1
  obtain ⟨A, hA⟩ : ∃ A, A = serB s.al s.ck u1 := ⟨_, rfl⟩
  obtain ⟨B, hB⟩ : ∃ B, B = serB s.al s.ck u2 := ⟨_, rfl⟩
  obtain ⟨z, hz⟩ : ∃ z, z = szN (nS s) s.ck := ⟨_, rfl⟩
  have hn16 : nS s ≤ 16 := by have := HVS.out.1.2.2.1; unfold nS; omega
  have hlen2 : s.len = (nS s : Int) := by have := HVS.out.1.2.1; unfold nS; omega
  have hz17 : z ≤ 17 := by rw [hz]; unfold szN; split <;> omega
  have hAs : A.size = z := by rw [hA, hz]; exact serB_size _ _ _ m1a
  have hBs : B.size = z := by rw [hB, hz]; exact serB_size _ _ _ m2a
  have HAV : Hid (∀ i (h : i < A.size), Lib.indexByte (bys al) A[i] = (((serU s.al s.ck u1).getD i 0 : Nat) : Int)) := by subst hA; rw [HAL.out]; exact fun i h => serB_at hGA s.ck m1b h
  have HBV : Hid (∀ i (h : i < B.size), Lib.indexByte (bys al) B[i] = (((serU s.al s.ck u2).getD i 0 : Nat) : Int)) := by subst hB; rw [HAL.out]; exact fun i h => serB_at hGA s.ck m2b h
  have HT1 : Hid (∀ (W : World), IsSs W (.slice bo bm bc) s.bl → Calls Try.prog 24 #[.agg #[.string al, .int .i64 len, .slice bo bm bc, .bool ck], .int .i64 (K1 : Int)] W fun e w' => e = .returned (.tuple #[.string A, .int .i64 0]) ∧ Hid (Below W.heap.size W w')) := fun W h => by rw [← HeS.out, hA]; exact Text_of h HVS.out (by rw [← HT.out]; exact hK1) hu1
  have HT2 : Hid (∀ (W : World), IsSs W (.slice bo bm bc) s.bl → Calls Try.prog 24 #[.agg #[.string al, .int .i64 len, .slice bo bm bc, .bool ck], .int .i64 (K2 : Int)] W fun e w' => e = .returned (.tuple #[.string B, .int .i64 0]) ∧ Hid (Below W.heap.size W w')) := fun W h => by rw [← HeS.out, hB]; exact Text_of h HVS.out (by rw [← HT.out]; exact hK2) hu2
  have HNU : Hid (∀ (W : World), IsSs W (.slice bo bm bc) s.bl → Calls Try.prog 25 #[.agg #[.string al, .int .i64 len, .slice bo bm bc, .bool ck], .string A] W fun e w' => e = .returned (.tuple #[.int .i64 (K1 : Int), .int .i64 0]) ∧ Hid (Below W.heap.size W w')) := fun W h => by rw [← HeS.out, hA]; exact Num_of h HVS.out hu1
  have HLG : Hid (∀ (W : World), Calls Try.prog 40 #[.agg #[.string al, .int .i64 len, .slice bo bm bc, .bool ck]] W fun e w' => e = .returned (.int .i64 (z : Int)) ∧ Hid (Below W.heap.size W w')) := fun W => by rw [← HeS.out, hz]; exact Long_any hlen2 hn16
  have HFI : Hid (∀ i, i < z → (∀ j, j < i → (serU s.al s.ck u1).getD j 0 = (serU s.al s.ck u2).getD j 0) → ((serU s.al s.ck u1).getD i 0 < (serU s.al s.ck u2).getD i 0 → K1 < K2) ∧ ((serU s.al s.ck u2).getD i 0 < (serU s.al s.ck u1).getD i 0 → K2 < K1)) := fun i hi he =>
    ⟨fun h => ser_first HVS.out hu1 hu2 (by rw [← hz]; exact hi) he h, fun h => ser_first HVS.out hu2 hu1 (by rw [← hz]; exact hi) (fun j hj => (he j hj).symm) h⟩
  have HSM : Hid ((∀ j, j < z → (serU s.al s.ck u1).getD j 0 = (serU s.al s.ck u2).getD j 0) → K1 = K2) := fun he => ser_same hu1 hu2 (by rw [← hz]; exact he)
  have hal36 : al.size ≤ 1000 := by rw [HAL.out]; have := hGA.2.1; omega
  have hlsA : ∀ (t ty : TypeId), Try.prog.underlying t = some .string → ∀ W, (Builtin.len_ #[t] ty #[.string A]).run Try.prog W = .ok (.int .i64 (z : Int)) W := fun t ty ht W => by rw [run_len_string _ _ _ _ ht, ← hAs]; rfl
  have hlsB : ∀ (t ty : TypeId), Try.prog.underlying t = some .string → ∀ W, (Builtin.len_ #[t] ty #[.string B]).run Try.prog W = .ok (.int .i64 (z : Int)) W := fun t ty ht W => by rw [run_len_string _ _ _ _ ht, ← hBs]; rfl
  have HAS := Lib.hid hAs
  have HBS := Lib.hid hBs
  generalize (serU s.al s.ck u1) = U1 at *
  generalize (serU s.al s.ck u2) = U2 at *
  clear hu1 hu2 m1a m1b m2a m2b hA hB hz hAs hBs hl1 hl2 hGA hn16 hlen2 hK1 hK2 hcond
  go_upto_region 11 with (first
    | (go_at_call 16; (with_reducible refine HFW.out.mono ?_); rintro e w2 ⟨rfl, HBf⟩; have H42 := Lib.hid (H41.out.below HBf.out); have HV2 := Lib.hid (HV1.out.below HBf.out); have HB2 := Lib.hid (HB1.out.trans (HBf.out.mono HB1.out.size)); have a20 := H42.out.c0; have a21 := H42.out.c1; have a22 := H42.out.c2; have a23 := H42.out.c3; have HCO2 := Lib.hid (HCO.out _ HV2.out))
    | (go_at_call 21; (with_reducible refine HCO2.out.mono ?_); rintro e wa ⟨rfl, HBa⟩; have H4A := Lib.hid (H42.out.below HBa.out); have HVA := Lib.hid (HV2.out.below HBa.out); have HBA := Lib.hid (HB2.out.trans (HBa.out.mono HB2.out.size)); have aA0 := H4A.out.c0; have aA1 := H4A.out.c1; have aA2 := H4A.out.c2; have aA3 := H4A.out.c3; have HT1A := Lib.hid (HT1.out _ HVA.out))
    | (go_at_call 24; (with_reducible refine HT1A.out.mono ?_); rintro e wb ⟨rfl, HBb⟩; have H4B := Lib.hid (H4A.out.below HBb.out); have HVB := Lib.hid (HVA.out.below HBb.out); have HBB := Lib.hid (HBA.out.trans (HBb.out.mono HBA.out.size)); have aB0 := H4B.out.c0; have aB1 := H4B.out.c1; have aB2 := H4B.out.c2; have aB3 := H4B.out.c3; have HT2B := Lib.hid (HT2.out _ HVB.out))
    | (go_at_call 24; (with_reducible refine HT2B.out.mono ?_); rintro e wc ⟨rfl, HBc⟩; have H4C := Lib.hid (H4B.out.below HBc.out); have HVC := Lib.hid (HVB.out.below HBc.out); have HBC := Lib.hid (HBB.out.trans (HBc.out.mono HBB.out.size)); have aC0 := H4C.out.c0; have aC1 := H4C.out.c1; have aC2 := H4C.out.c2; have aC3 := H4C.out.c3; have HNUC := Lib.hid (HNU.out _ HVC.out))
    | (go_at_call 25; (with_reducible refine HNUC.out.mono ?_); rintro e wd ⟨rfl, HBd⟩; have H4D := Lib.hid (H4C.out.below HBd.out); have HVD := Lib.hid (HVC.out.below HBd.out); have HBD := Lib.hid (HBC.out.trans (HBd.out.mono HBC.out.size)); have aD0 := H4D.out.c0; have aD1 := H4D.out.c1; have aD2 := H4D.out.c2; have aD3 := H4D.out.c3; have HLGD := Lib.hid (HLG.out wd))
    | (go_at_call 40; (with_reducible refine HLGD.out.mono ?_); rintro e we ⟨rfl, HBe⟩; have H4E := Lib.hid (H4D.out.below HBe.out); have HVE := Lib.hid (HVD.out.below HBe.out); have HBE := Lib.hid (HBD.out.trans (HBe.out.mono HBD.out.size)); have aE0 := H4E.out.c0; have aE1 := H4E.out.c1; have aE2 := H4E.out.c2; have aE3 := H4E.out.c3)
    | fail)
  clear aA0 aA1 aA2 aA3 aB0 aB1 aB2 aB3 aC0 aC1 aC2 aC3 aD0 aD1 aD2 aD3 a20 a21 a22 a23 H42 H4A H4B H4C H4D HVA HVB HVC HVD HV2 HB2 HBA HBB HBC HBD k0 k1 k2 k3
  go_wp2_with fail
  go_loopw [15] (fun s15 wr => ∃ i : Nat, i ≤ z ∧ s15 = .int .i64 i ∧ Hid (B4 w.heap.size (.string al) (.int .i64 len) (.slice bo bm bc) (.bool ck) wr) ∧ Hid (Below w.heap.size w wr) ∧ Hid (∀ j, j < i → U1.getD j 0 = U2.getD j 0)) (fun s15 _ => z - (intOf s15).toNat)
  case atStart => exact ⟨0, Nat.zero_le _, rfl, H4E, HBE, fun j h => by omega⟩
  case round =>
    obtain ⟨i, hi, rfl, H4r, HBr, HEr⟩ := hrel
    clear aE0 aE1 aE2 aE3
    have k0 := H4r.out.c0
    by_cases q : i < z
    · have q1 : (i : Int) < (z : Int) := by omega
      have hw : IntKind.i64.wrap ((i : Int) + 1) = ((i + 1 : Nat) : Int) := by rw [IntWalk.i64_in _ (by omega)]; omega
      have hiA : i < A.size := by rw [HAS.out]; exact q
      have hiB : i < B.size := by rw [HBS.out]; exact q
      have hxA := fun W => index_str hiA W
      have hxB := fun W => index_str hiB W
      have HV1' := Lib.hid (fun q => Value_any (al := al) (A[i]) hal36 (wr.drewN q))
      have HV2' := Lib.hid (fun q => Value_any (al := al) (B[i]) hal36 (wr.drewN q))
      rw [HAV.out i hiA] at HV1'
      rw [HBV.out i hiB] at HV2'
      obtain ⟨y1, hy1⟩ : ∃ y1, y1 = U1.getD i 0 := ⟨_, rfl⟩
      obtain ⟨y2, hy2⟩ : ∃ y2, y2 = U2.getD i 0 := ⟨_, rfl⟩
      rw [← hy1] at HV1'
      rw [← hy2] at HV2'
      have HV1d : Hid (∀ q, Calls Try.prog 41 #[.string al, .int .u8 ((A[i]).toNat : Int)] (wr.drewN q) fun e w' => e = .returned (.int .i64 (y1 : Int)) ∧ ∃ k, w' = wr.drewN k) := fun q => (HV1'.out q).mono fun e w' ⟨h1, h2⟩ => ⟨h1, q, h2.symm⟩
      have HV2d : Hid (∀ q, Calls Try.prog 41 #[.string al, .int .u8 ((B[i]).toNat : Int)] (wr.drewN q) fun e w' => e = .returned (.int .i64 (y2 : Int)) ∧ ∃ k, w' = wr.drewN k) := fun q => (HV2'.out q).mono fun e w' ⟨h1, h2⟩ => ⟨h1, q, h2.symm⟩
      have HFr := HFI.out i q HEr.out
      rw [← hy1, ← hy2] at HFr
      have HFR := Lib.hid HFr
      have HY := Lib.hid (And.intro hy1 hy2)
      generalize ((A[i]).toNat : Int) = va at *
      generalize ((B[i]).toNat : Int) = vb at *
      clear hy1 hy2 HV1' HV2' HFr
      go_upto_region 14 with fail
      go_quiet (first | (go_at_call 41; with_reducible exact HV1d.out _) | (go_at_call 41; with_reducible exact HV2d.out _))
      rename_i nq
      have H4q := Lib.hid (H4r.out.below (below_dr wr nq))
      have HBq := Lib.hid (HBr.out.trans ((below_dr wr nq).mono HBr.out.size))
      clear hxA hxB HV1d HV2d k0
      generalize World.drewN wr nq = wq at *
      rcases Nat.lt_trichotomy y1 y2 with c | c | c
      · have hK := HFR.out.1 c
        have g1 : ((y1 : Int) != (y2 : Int)) = true := by rw [bne_iff_ne]; omega
        have g2 : (y1 : Int) < (y2 : Int) := by omega
        have g3 : (K1 : Int) < (K2 : Int) := by omega
        have g4 : ((K1 : Int) != (K2 : Int)) = true := by rw [bne_iff_ne]; omega
        clear hK
        go_wp2_with fail
        refine (HAW.out _).mono ?_
        rintro e wz ⟨rfl, HBz⟩
        go_wp2_with fail
        go_ret
        exact ⟨rfl, HBq.out.trans (HBz.out.mono HBq.out.size)⟩
      · subst c
        have HE2 : Hid (∀ j, j < i + 1 → U1.getD j 0 = U2.getD j 0) := fun j hj => by
          rcases Nat.lt_succ_iff_lt_or_eq.1 hj with h | h
          · exact HEr.out j h
          · subst h; rw [← HY.out.1, ← HY.out.2]
        go_wp2_with fail
        go_roundw
        case rel => exact ⟨i + 1, q, by go_num, H4q, HBq, HE2⟩
        case measure => simp [intOf]; omega
      · have hK := HFR.out.2 c
        have g1 : ((y1 : Int) != (y2 : Int)) = true := by rw [bne_iff_ne]; omega
        have g2 : ¬ (y1 : Int) < (y2 : Int) := by omega
        have g3 : ¬ (K1 : Int) < (K2 : Int) := by omega
        have g4 : ((K1 : Int) != (K2 : Int)) = true := by rw [bne_iff_ne]; omega
        clear hK
        go_wp2_with fail
        refine (HAW.out _).mono ?_
        rintro e wz ⟨rfl, HBz⟩
        go_wp2_with fail
        go_ret
        exact ⟨rfl, HBq.out.trans (HBz.out.mono HBq.out.size)⟩
    · obtain rfl : i = z := by omega
      have q1 : ¬ (i : Int) < (i : Int) := by omega
      have hKK := HSM.out HEr.out
      subst hKK
      go_wp2_with fail
      refine (HAW.out _).mono ?_
      rintro e wz ⟨rfl, HBz⟩
      go_wp2_with fail
      go_ret
      exact ⟨rfl, HBr.out.trans (HBz.out.mono HBr.out.size)⟩
end Go.Proofs.Ytgblfobomiiofaa
namespace Go.Proofs.Ytgblfobomiiofaa
open Go Go.RowKit Go.Shelf Gw Go.Maps

theorem filter_flat {α β : Type} (p : β → Bool) (g : α → List β) : ∀ l : List α, (l.flatMap g).filter p = l.flatMap fun a => (g a).filter p
  | [] => rfl
  | a :: l => by rw [List.flatMap_cons, List.filter_append, filter_flat p g l, List.flatMap_cons]
theorem words_filter (f : Nat → Nat → Option Nat) (A : Nat) (nc : Nat → Nat → Nat) (fin : Nat → Bool) : ∀ (ms : List (Option Nat)) (st p : Nat),
    words f A nc fin ms st p = (words f A nc (fun _ => true) (List.replicate ms.length none) st p).filter fun u => fitsW ms u && fin (chk nc p u)
  | [], st, p => by
    unfold words
    cases h : fin p <;> simp [fitsW, chk, h]
  | m :: ms, st, p => by
    rw [words_cons, List.length_cons, List.replicate_succ, words_cons, filter_flat]
    congr 1
    funext v
    rw [List.filter_map]
    have e0 : stepW f A nc (fun _ => true) none (List.replicate ms.length none) st p v = match f st v with | none => [] | some j => words f A nc (fun _ => true) (List.replicate ms.length none) j (nc p v) := by
      unfold stepW fitsM
      simp
      cases f st v <;> rfl
    rw [e0]
    unfold stepW
    by_cases q : fitsM m v = true
    · rw [if_pos q]
      cases hf : f st v with
      | none => simp
      | some j =>
        dsimp only
        rw [words_filter f A nc fin ms j (nc p v)]
        congr 1
        refine List.filter_congr fun u _ => ?_
        show _ = (fitsW (m :: ms) (v :: u) && fin (chk nc p (v :: u)))
        have h1 : fitsW (m :: ms) (v :: u) = (fitsM m v && fitsW ms u) := rfl
        have h2 : chk nc p (v :: u) = chk nc (nc p v) u := rfl
        rw [h1, h2, q, Bool.true_and]
    · rw [if_neg q]
      have e1 : ∀ l : List (List Nat), l.filter ((fun u => fitsW (m :: ms) u && fin (chk nc p u)) ∘ fun x => v :: x) = [] := fun l => by
        rw [List.filter_eq_nil_iff]
        intro u _ h
        have h2 : (fitsW (m :: ms) (v :: u) && fin (chk nc p (v :: u))) = true := h
        have h1 : fitsW (m :: ms) (v :: u) = (fitsM m v && fitsW ms u) := rfl
        rw [Bool.not_eq_true] at q
        rw [h1, q] at h2
        simp at h2
      rw [e1]
/-- the last sign of a mask, where there is a check character -/
def lastM (s : Sch) (t : ByteArray) : Option Nat := if s.ck then (maskN s.al t).getD (nS s) none else none
/-- the bodies that a mask lets through, in order -/
def wordsM (s : Sch) (t : ByteArray) : List (List Nat) := wordsAt (fS s) s.al.size (nS s) (lastM s t) (maskN s.al t) 0 0 s.al.size
/-- a mask of a scheme -/
def IsMask (s : Sch) (t : ByteArray) : Prop := t.size = szN (nS s) s.ck ∧ MaskOf t s.al
/-- whether a mask lets a body through -/
def passM (s : Sch) (t : ByteArray) (u : List Nat) : Bool := fitsW ((maskN s.al t).take (nS s)) u && finL s.al.size (lastM s t) (chk (ncN s.al.size) s.al.size u)
theorem wordsM_filter {s : Sch} {t : ByteArray} (h : IsMask s t) : wordsM s t = (wordsS s).filter (passM s t) := by
  have hl : ((maskN s.al t).take (nS s)).length = nS s := by
    rw [List.length_take, maskN_len, h.1]
    have := le_szN (nS s) s.ck
    omega
  have hl2 : ((freeS s).take (nS s)) = List.replicate (nS s) none := by
    unfold freeS
    rw [List.take_replicate, Nat.min_eq_left (le_szN _ _)]
  unfold wordsM wordsS wordsAt passM
  rw [List.drop_zero, List.drop_zero, words_filter, hl, hl2]
  have e : (finL s.al.size none) = fun _ => true := by
    funext p
    unfold finL
    simp
  rw [e]
theorem wordsM_len {s : Sch} {t : ByteArray} (h : IsMask s t) : (wordsM s t).length ≤ totS s := by
  rw [wordsM_filter h, totS_words]
  exact List.length_filter_le _ _
theorem wordsM_sorted (s : Sch) (t : ByteArray) : (wordsM s t).Pairwise ltW := sorted_words _ _ _
theorem wordsM_mem {s : Sch} {t : ByteArray} (h : IsMask s t) {u : List Nat} (hu : u ∈ wordsM s t) : u ∈ wordsS s ∧ passM s t u = true := by
  rw [wordsM_filter h] at hu
  exact List.mem_filter.1 hu
end Go.Proofs.Ytgblfobomiiofaa
namespace Go.Proofs.Ytgblfobomiiofaa
open Go Go.RowKit Go.Shelf Gw Go.Maps

/-- a block that is none of the counter's turns -/
theorem CtI.keptNe {R mb : Nat} {al : ByteArray} {n : Nat} {ck : Bool} {f : Nat → Nat → Option Nat} {bL bR bK bM bC km : Nat} {last : Option Nat} {mv : Value} {ml : List (Option Nat)} {W W' : World} {k : Nat}
    (h : CtI R mb al n ck f bL bR bK bM bC km last mv ml W) (hg : W.grownBy W' (some k)) (h1 : R ≠ k) (h2 : mb ≠ k) (h3 : bL ≠ k) (h4 : bR ≠ k) (h5 : bK ≠ k) (h6 : bM ≠ k) (h7 : bC ≠ k) (h8 : km ≠ k) (h9 : ∀ j, mv.ownBlock = some j → j ≠ k) : CtI R mb al n ck f bL bR bK bM bC km last mv ml W' := by
  have ne : ∀ {x : Nat}, x ≠ k → some x ≠ some k := fun h e => h (Option.some.inj e)
  obtain ⟨g, m1, m2⟩ := h.mp
  exact ⟨h.se.kept hg (ne h1) (ne h2), hg.cell h.cL (ne h3), hg.cell h.cR (ne h4), hg.cell h.cK (ne h5), hg.cell h.cM (ne h6), hg.cell h.cC (ne h7), h.ms.kept2 hg (fun j hj => ne (h9 j hj)), ⟨g, m1.kept hg (ne h8), m2⟩, h.nK⟩
/-- the series and the counter of a mask -/
structure MkF (x y : SI) (n0 : Nat) (s : Sch) (t : ByteArray) (W : World) : Prop where
  sf : SerF x s W
  ct : CtI x.R x.mb s.al (nS s) s.ck (fS s) y.bL y.bR y.bK y.bM y.bC y.km (lastM s t) y.mv (maskN s.al t) W
  xb : CtB x.R x.mb x.bL x.bR x.bK x.bM x.bC x.km x.mv n0
  yb : n0 ≤ y.bL ∧ n0 ≤ y.bR ∧ n0 ≤ y.bK ∧ n0 ≤ y.bM ∧ n0 ≤ y.bC ∧ n0 ≤ y.km ∧ ∀ j, y.mv.ownBlock = some j → n0 ≤ j
theorem MkF.below {x y : SI} {n0 : Nat} {s : Sch} {t : ByteArray} {W W' : World} (h : MkF x y n0 s t W) (hb : Below W.heap.size W W') : MkF x y n0 s t W' := ⟨h.sf.below hb, h.ct.below hb, h.xb, h.yb⟩
/-- the counter of all serials has turned -/
theorem MkF.all {x y : SI} {n0 : Nat} {s : Sch} {t : ByteArray} {W W' : World} (h : MkF x y n0 s t W) (hf : SerF x s W') (hg : W.grownBy W' (some x.km)) : MkF x y n0 s t W' := by
  have hk := h.xb.hk
  obtain ⟨y1, y2, y3, y4, y5, y6, y7⟩ := h.yb
  obtain ⟨n1, n2, _⟩ := hf.ct.nK
  exact ⟨hf, h.ct.keptNe hg n1 n2 (by omega) (by omega) (by omega) (by omega) (by omega) (by omega) (fun j hj => by have := y7 j hj; omega), h.xb, h.yb⟩
/-- the mask's counter has turned -/
theorem MkF.mask {x y : SI} {n0 : Nat} {s : Sch} {t : ByteArray} {W W' : World} (h : MkF x y n0 s t W) (hc : CtI x.R x.mb s.al (nS s) s.ck (fS s) y.bL y.bR y.bK y.bM y.bC y.km (lastM s t) y.mv (maskN s.al t) W') (hg : W.grownBy W' (some y.km)) : MkF x y n0 s t W' := by
  have hy := h.yb.2.2.2.2.2.1
  have hb := h.xb
  have hR := hb.hR
  exact ⟨⟨h.sf.ct.kept hb hg (fun j e => by cases e; exact hy), hg.cell h.sf.c4 (fun e => by have e2 : x.R = y.km := Option.some.inj e; omega)⟩, hc, h.xb, h.yb⟩
theorem lastM_at {s : Sch} {t : ByteArray} (h : IsMask s t) (hck : s.ck = true) : lastM s t = (maskN s.al t)[nS s]'(by rw [maskN_len, h.1, hck]; unfold szN; simp) := by
  unfold lastM
  rw [if_pos hck, List.getD_eq_getElem?_getD, List.getElem?_eq_getElem (by rw [maskN_len, h.1, hck]; unfold szN; simp), Option.getD_some]
/-- the counter of a mask -/
theorem counter_M {x : SI} {s : Sch} {t : ByteArray} (_hV : ValidS s) (ht : IsMask s t) {W : World} (h : SerF x s W) {mv : Value} (hm : IsIs W mv (asM (maskN s.al t))) {n0 : Nat} (hb : CtB x.R x.mb x.bL x.bR x.bK x.bM x.bC x.km x.mv n0) (hn : n0 ≤ W.heap.size) (hv : ∀ j, mv.ownBlock = some j → n0 ≤ j ∧ j < W.heap.size) :
    Calls Try.prog 66 #[.pointer (some ⟨x.R, 0, none⟩), mv] W fun e W' => ∃ y : SI, e = .returned (cntV y.bL y.bR y.bK y.bM y.bC) ∧ y.mv = mv ∧ Hid (MkF x y n0 s t W') ∧ Hid (Below W.heap.size W W') := by
  have fin : ∀ (e : Ending) (W' : World) (b : Nat), b = W.heap.size → CtI x.R x.mb s.al (nS s) s.ck (fS s) (b + 1 + 1 + 1 + 1) b (b + 1 + 1 + 1) (b + 1) (b + 1 + 1 + 1 + 1 + 1) (b + 1 + 1) (lastM s t) mv (maskN s.al t) W' → Below W.heap.size W W' →
      ∃ y : SI, Ending.returned (cntV (b + 1 + 1 + 1 + 1) b (b + 1 + 1 + 1) (b + 1) (b + 1 + 1 + 1 + 1 + 1)) = .returned (cntV y.bL y.bR y.bK y.bM y.bC) ∧ y.mv = mv ∧ Hid (MkF x y n0 s t W') ∧ Hid (Below W.heap.size W W') := fun e W' b hbb hc hB =>
    ⟨⟨x.R, x.mb, b + 1 + 1 + 1 + 1, b, b + 1 + 1 + 1, b + 1, b + 1 + 1 + 1 + 1 + 1, b + 1 + 1, mv⟩, rfl, rfl, ⟨h.below hB, hc, hb, ⟨by show n0 ≤ b + 1 + 1 + 1 + 1; omega, by show n0 ≤ b; omega, by show n0 ≤ b + 1 + 1 + 1; omega, by show n0 ≤ b + 1; omega, by show n0 ≤ b + 1 + 1 + 1 + 1 + 1; omega, by show n0 ≤ b + 1 + 1; omega, fun j hj => (hv j hj).1⟩⟩, hB⟩
  cases hck : s.ck with
  | false =>
    have hse := h.ct.se
    rw [hck] at hse
    refine (counter_no hse hm (fun j hj => (hv j hj).2)).mono ?_
    rintro e W' ⟨b, hbb, rfl, hc, hB⟩
    have hl : lastM s t = none := by unfold lastM; rw [if_neg (by rw [hck]; decide)]
    exact fin (.returned (.bool true)) W' b hbb (by rw [hl, hck]; exact hc.out) hB.out
  | true =>
    have hse := h.ct.se
    rw [hck] at hse
    refine (counter_yes hse (by rw [maskN_len, ht.1, hck]; unfold szN; simp) hm (fun j hj => (hv j hj).2)).mono ?_
    rintro e W' ⟨b, hbb, rfl, hc, hB⟩
    exact fin (.returned (.bool true)) W' b hbb (by have h9 := hc.out; rw [← lastM_at ht hck] at h9; rw [hck]; exact h9) hB.out
/-- what openMask answers, as four values -/
def OpenQ (s : Sch) (t : ByteArray) (W : World) (pv sv cv : Value) (E : Int) (W' : World) : Prop :=
  Below W.heap.size W W' ∧ ((¬ WellF s ∧ pv = .pointer none ∧ sv = .slice none 0 0 ∧ cv = .nilFunc ∧ E = 20) ∨ (WellF s ∧ ¬ (1 ≤ totS s ∧ totS s ≤ 1099511627776) ∧ pv = .pointer none ∧ sv = .slice none 0 0 ∧ cv = .nilFunc ∧ E = 3) ∨
    (ValidS s ∧ ¬ IsMask s t ∧ pv = .pointer none ∧ sv = .slice none 0 0 ∧ cv = .nilFunc ∧ E = 4) ∨
    (ValidS s ∧ IsMask s t ∧ E = 0 ∧ ∃ (x y : SI) (n0 : Nat), pv = .pointer (some ⟨x.R, 0, none⟩) ∧ sv = y.mv ∧ cv = cntV y.bL y.bR y.bK y.bM y.bC ∧ MkF x y n0 s t W' ∧ W.heap.size ≤ x.km ∧ W.heap.size ≤ n0))
def OpenP (s : Sch) (t : ByteArray) (W : World) (e : Ending) (W' : World) : Prop := ∃ pv sv cv E, e = .returned (.tuple #[pv, sv, cv, .int .i64 E]) ∧ Hid (OpenQ s t W pv sv cv E W')
set_option maxRecDepth 100000 in
set_option maxHeartbeats 2000000 in
theorem openMask_any {s : Sch} {bv : Value} {t : ByteArray} {w : World} (hv : IsSs w bv s.bl) : Calls Try.prog 56 #[schV s bv, .string t] w (OpenP s t w) := by
  obtain ⟨w1, hw1⟩ : ∃ w1, w1 = w.alloc (.cells #[.string s.al, .int .i64 s.len, bv, .bool s.ck] 24) := ⟨_, rfl⟩
  have hb1 : Below w.heap.size w w1 := by rw [hw1]; exact below_al _ _
  have H4 : Hid (B4 w.heap.size (.string s.al) (.int .i64 s.len) bv (.bool s.ck) w1) := by rw [hw1]; exact B4.new _ _ _ _ _ _
  have HNS := Lib.hid (newSeries_any (s := s) (hv.below hb1))
  have HB1 := Lib.hid hb1
  have HW1 := Lib.hid hw1
  obtain ⟨bo, bc, rfl, -⟩ := hv
  obtain ⟨al, len, bl, ck⟩ := s
  unfold schV at HNS ⊢
  dsimp only at *
  clear hw1 hb1
  have k0 := H4.out.c0; have k1 := H4.out.c1; have k2 := H4.out.c2; have k3 := H4.out.c3
  go_enter Try.func56, Try.ntmps56
  go_upto_region 1 with fail
  rw [← HW1.out]
  go_cut [8, 9] from 8 to 16 (fun s8 s9 wz => ∃ E : Int, s9 = .int .i64 E ∧ Hid (NewQ ⟨al, len, bl, ck⟩ w s8 E wz))
  case first =>
    go_wp2_with (first
      | (go_at_call 46; (with_reducible refine HNS.out.mono ?_); rintro e w2 hN; obtain ⟨pv, E, rfl, HNQ⟩ := newQ_of HB1.out hN; clear hN)
      | fail)
    go_meet
    case rel => exact ⟨E, rfl, HNQ⟩
  case rest =>
    obtain ⟨E, rfl, HNQ⟩ := hcut
    apply_assumption
    rcases HNQ.out with ⟨hb, ⟨hn, rfl, rfl⟩ | ⟨hn, hm, rfl, rfl⟩ | ⟨hV, rfl, x, rfl, hF, hk⟩⟩
    · have HN := Lib.hid hn
      have HBB := Lib.hid hb
      clear hn hb HNQ
      go_wp2_with fail
      refine bodyPost_ret (v := .tuple #[.pointer none, .slice none 0 0, .nilFunc, .int .i64 20]) (by simp [results, Try.results56, go_sem]) rfl ?_
      exact ⟨_, _, _, _, rfl, HBB.out, .inl ⟨HN.out, rfl, rfl, rfl, rfl⟩⟩
    · have HN := Lib.hid (And.intro hn hm)
      have HBB := Lib.hid hb
      clear hn hm hb HNQ
      go_wp2_with fail
      refine bodyPost_ret (v := .tuple #[.pointer none, .slice none 0 0, .nilFunc, .int .i64 3]) (by simp [results, Try.results56, go_sem]) rfl ?_
      exact ⟨_, _, _, _, rfl, HBB.out, .inr (.inl ⟨HN.out.1, HN.out.2, rfl, rfl, rfl, rfl⟩)⟩
    · obtain ⟨n, hn⟩ : ∃ n : Nat, len = n := ⟨len.toNat, by have := hV.1.2.1; dsimp only at this; omega⟩
      subst hn
      have hn1 : 1 ≤ n := by have := hV.1.2.1; dsimp only at this; omega
      have hn16 : n ≤ 16 := by have := hV.1.2.2.1; dsimp only at this; omega
      have HV := Lib.hid hV
      have HF := Lib.hid hF
      have HBB := Lib.hid hb
      have HK := Lib.hid hk
      clear hV hF hb HNQ hk k0 k1 k2 k3
      have HRM : Calls Try.prog 72 #[.pointer (some ⟨x.R, 0, none⟩), .string t] wc (MaskP al t (szN n ck) wc) := readMask_any (s := t) HF.out.ct.se.se HV.out.1.1 hn16
      obtain ⟨z, hz⟩ : ∃ z, z = szN n ck := ⟨_, rfl⟩
      rw [← hz] at HRM
      have HRM := Lib.hid HRM
      have HZ := Lib.hid hz
      have hz1 : 1 ≤ z := by rw [hz]; exact Nat.le_trans hn1 (le_szN _ _)
      clear hz
      go_upto_region 5 with (first
        | (go_at_call 72; (with_reducible refine HRM.out.mono ?_); rintro e w3 hW; obtain ⟨wv, bb, rfl, HWQ⟩ : ∃ wv bb, e = .returned (.tuple #[wv, .bool bb]) ∧ Hid (Below wc.heap.size wc w3 ∧ ((bb = false ∧ ¬ IsMask ⟨al, (n : Int), bl, ck⟩ t) ∨ (bb = true ∧ IsMask ⟨al, (n : Int), bl, ck⟩ t ∧ ∃ a c, wv = .slice a z c ∧ IsIs w3 (.slice a z c) (asM (maskN al t)) ∧ (∀ j, (Value.slice a z c).ownBlock = some j → wc.heap.size ≤ j ∧ j < w3.heap.size)))) := (by
            rcases hW with ⟨h5, a, c, rfl, h6, h7⟩ | ⟨h5, rfl, h7⟩
            · have hlen : (asM (maskN al t)).length = z := by rw [asM_len, maskN_len]; exact h5.1
              exact ⟨_, _, rfl, h7, .inr ⟨rfl, ⟨by rw [h5.1, HZ.out]; rfl, h5.2⟩, a, c, rfl, IsIs.of_row (by rw [hlen]; exact h6), fun j hj => h6.lt j hj⟩⟩
            · exact ⟨_, _, rfl, h7, .inl ⟨rfl, fun h8 => h5 ⟨by rw [HZ.out]; exact h8.1, h8.2⟩⟩⟩); clear hW)
        | fail)
      rcases HWQ.out with ⟨hb3, ⟨rfl, hno⟩ | ⟨rfl, hyes, a, c, rfl, hIs, hob⟩⟩
      · have HNO := Lib.hid hno
        have HB3 := Lib.hid (HBB.out.trans (hb3.mono HBB.out.size))
        clear hno hb3 HWQ
        go_wp2_with fail
        refine bodyPost_ret (v := .tuple #[.pointer none, .slice none 0 0, .nilFunc, .int .i64 4]) (by simp [results, Try.results56, go_sem]) rfl ?_
        exact ⟨_, _, _, _, rfl, HB3.out, .inr (.inr (.inl ⟨HV.out, HNO.out, rfl, rfl, rfl, rfl⟩))⟩
      · have HYES := Lib.hid hyes
        have HB3 := Lib.hid (HBB.out.trans (hb3.mono HBB.out.size))
        have hxb := HF.out.ct.blocks (by rw [free_len]; exact Nat.le_trans hn1 (le_szN _ _))
        have HCM := Lib.hid (counter_M (s := ⟨al, (n : Int), bl, ck⟩) HV.out hyes (HF.out.below hb3) hIs hxb hb3.size hob)
        have HN0 := Lib.hid HBB.out.size
        clear hyes hb3 HWQ hIs hob hxb
        go_wp2_with (first
          | (go_at_call 66; (with_reducible refine HCM.out.mono ?_); rintro e w4 ⟨y, rfl, hymv, HM4, HB4⟩; have HYM := Lib.hid hymv; clear hymv; unfold cntV)
          | fail)
        refine bodyPost_ret (v := .tuple #[.pointer (some ⟨x.R, 0, none⟩), .slice a z c, cntV y.bL y.bR y.bK y.bM y.bC, .int .i64 0]) (by simp [results, Try.results56, go_sem, cntV]) rfl ?_
        exact ⟨_, _, _, _, rfl, HB3.out.trans (HB4.out.mono HB3.out.size), .inr (.inr (.inr ⟨HV.out, HYES.out, rfl, x, y, _, rfl, HYM.out.symm, rfl, HM4.out, HK.out, HN0.out⟩))⟩
end Go.Proofs.Ytgblfobomiiofaa
namespace Go.Proofs.Ytgblfobomiiofaa
open Go Go.RowKit Go.Shelf Gw Go.Maps

theorem nS_mask {s : Sch} {t : ByteArray} (h : IsMask s t) : nS s ≤ (maskN s.al t).length := by rw [maskN_len, h.1]; exact le_szN _ _
theorem count_M {x y : SI} {n0 : Nat} {s : Sch} {t : ByteArray} (hV : ValidS s) (ht : IsMask s t) {W : World} (h : MkF x y n0 s t W) :
    Calls Try.prog 83 #[.agg #[.int .i64 0, .int .i64 0, .int .i64 (s.al.size : Int)], .pointer (some ⟨y.bL, 0, none⟩), .pointer (some ⟨y.bR, 0, none⟩), .pointer (some ⟨y.bK, 0, none⟩), .pointer (some ⟨y.bM, 0, none⟩), .pointer (some ⟨y.bC, 0, none⟩)] W
      fun e W' => e = .returned (.int .i64 (((wordsM s t).length : Nat) : Int)) ∧ Hid (MkF x y n0 s t W') ∧ Hid (W.grownBy W' (some y.km)) := by
  refine (count_any hV.1.1.1 hV.1.1.2.1 (by have := hV.1.2.2.1; unfold nS; omega) (nS_mask ht) (fS_lt hV.1) (nS s) 0 (by omega) W 0 s.al.size (by omega) (Nat.le_refl _) h.ct).mono ?_
  rintro e W' ⟨rfl, hc, hg⟩
  have e1 : min (cntK (fS s) s.al.size (nS s) (lastM s t) (maskN s.al t) (nS s) 0 s.al.size) tooM = (wordsM s t).length := by
    have h3 : cntK (fS s) s.al.size (nS s) (lastM s t) (maskN s.al t) (nS s) 0 s.al.size = (wordsM s t).length := cntK_words (nS_mask ht) _ _ _ _ (by omega)
    have h4 := wordsM_len ht
    have h5 := hV.2.2
    rw [h3]; unfold tooM; omega
  exact ⟨by rw [e1], h.mask hc.out hg.out, hg⟩
theorem total_M {x y : SI} {n0 : Nat} {s : Sch} {t : ByteArray} (hV : ValidS s) {W : World} (h : MkF x y n0 s t W) : Calls Try.prog 47 #[.pointer (some ⟨x.R, 0, none⟩)] W fun e W' => e = .returned (.int .i64 (totS s : Int)) ∧ Hid (MkF x y n0 s t W') ∧ Hid (W.grownBy W' (some x.km)) := by
  refine (total_S hV h.sf).mono ?_
  rintro e W' ⟨rfl, h1, h2⟩
  exact ⟨rfl, h.all h1.out h2.out, h2⟩
theorem wordsM_ok {s : Sch} {t : ByteArray} (ht : IsMask s t) {u : List Nat} (hu : u ∈ wordsM s t) : u.length = nS s ∧ (∀ v ∈ u, v < s.al.size) ∧ (run (fS s) 0 u).isSome = true := wordsS_mem (wordsM_mem ht hu).1
/-- pick by the mask's counter -/
theorem pick_M {x y : SI} {n0 : Nat} {s : Sch} {t : ByteArray} (hV : ValidS s) (ht : IsMask s t) {W : World} (h : MkF x y n0 s t W) {K : Nat} (hK : K < (wordsM s t).length) :
    Calls Try.prog 49 #[.pointer (some ⟨x.R, 0, none⟩), y.mv, cntV y.bL y.bR y.bK y.bM y.bC, .int .i64 (K : Int)] W
      fun e W' => ∃ v u, e = .returned v ∧ (wordsM s t)[K]? = some u ∧ IsIs W' v (asI u) ∧ MkF x y n0 s t W' ∧ W.grownBy W' (some y.km) := by
  have h4 := wordsM_len ht
  have h5 := hV.2.2
  refine (pick_any hV.1.1.1 hV.1.1.2.1 (by have := hV.1.2.1; unfold nS; omega) (by have := hV.1.2.2.1; unfold nS; omega) (fS_lt hV.1) (nS_mask ht) h.ct hK (by unfold tooM; omega) h.ct.ms (fun j hj e => h.ct.nK.2.2.2.2.2.2.2 (by rw [hj, e]))).mono ?_
  rintro e W' ⟨v, u, rfl, g1, g2, g3, g4, g5⟩
  exact ⟨v, u, rfl, g1, IsIs.of_row (by rw [asI_len, g2]; exact g3.out), h.mask g4.out g5.out, g5.out⟩
/-- pick by the counter of all serials, beside a mask's -/
theorem pick_A {x y : SI} {n0 : Nat} {s : Sch} {t : ByteArray} (hV : ValidS s) {W : World} (h : MkF x y n0 s t W) {K : Nat} (hK : K < totS s) {g : Nat} (hI : IsIs W (.slice (some ⟨g, 0, none⟩) (szN (nS s) s.ck) (szN (nS s) s.ck)) (List.replicate (szN (nS s) s.ck) (-1))) (hg : g ≠ x.km) :
    Calls Try.prog 49 #[.pointer (some ⟨x.R, 0, none⟩), .slice (some ⟨g, 0, none⟩) (szN (nS s) s.ck) (szN (nS s) s.ck), cntV x.bL x.bR x.bK x.bM x.bC, .int .i64 (K : Int)] W
      fun e W' => ∃ v u, e = .returned v ∧ (wordsS s)[K]? = some u ∧ IsIs W' v (asI u) ∧ (∀ j, v.ownBlock = some j → W.heap.size ≤ j) ∧ MkF x y n0 s t W' ∧ W.grownBy W' (some x.km) := by
  refine (pick_S hV h.sf hK hI hg).mono ?_
  rintro e W' ⟨v, u, rfl, h1, h2, h3, h4, h5⟩
  exact ⟨v, u, rfl, h1, h2, h3, h.all h4 h5, h5⟩
theorem below_M {x y : SI} {n0 : Nat} {s : Sch} {t : ByteArray} (hV : ValidS s) (ht : IsMask s t) {W : World} (h : MkF x y n0 s t W) {bv : Value} {u : List Nat} (hu : IsIs W bv (asI u)) (hbe : ∀ j, bv.ownBlock = some j → j ≠ y.km) (hw : u ∈ wordsS s) :
    Calls Try.prog 55 #[.pointer (some ⟨x.R, 0, none⟩), y.mv, cntV y.bL y.bR y.bK y.bM y.bC, bv] W
      fun e W' => e = .returned (.int .i64 ((bel (wordsM s t) u : Nat) : Int)) ∧ Hid (MkF x y n0 s t W') ∧ Hid (W.grownBy W' (some y.km)) := by
  have h4 := wordsM_len ht
  have h5 := hV.2.2
  obtain ⟨m1, m2, m3⟩ := wordsS_mem hw
  refine (below_any hV.1.1.1 hV.1.1.2.1 (by have := hV.1.2.1; unfold nS; omega) (by have := hV.1.2.2.1; unfold nS; omega) (fS_lt hV.1) (nS_mask ht) h.ct (Nat.le_trans h4 h5) h.ct.ms (fun j hj e => h.ct.nK.2.2.2.2.2.2.2 (by rw [hj, e])) hu hbe m1 m2 m3).mono ?_
  rintro e W' ⟨rfl, g4, g5⟩
  exact ⟨rfl, h.mask g4.out g5.out, g5⟩
/-- what Matches answers -/
def MatchesP (s : Sch) (t : ByteArray) (W : World) (e : Ending) (W' : World) : Prop :=
  Below W.heap.size W W' ∧ ((¬ WellF s ∧ e = .returned (.tuple #[.int .i64 0, .int .i64 20])) ∨ (WellF s ∧ ¬ (1 ≤ totS s ∧ totS s ≤ 1099511627776) ∧ e = .returned (.tuple #[.int .i64 0, .int .i64 3])) ∨ (ValidS s ∧ ¬ IsMask s t ∧ e = .returned (.tuple #[.int .i64 0, .int .i64 4])) ∨
    (ValidS s ∧ IsMask s t ∧ e = .returned (.tuple #[.int .i64 (((wordsM s t).length : Nat) : Int), .int .i64 0])))
set_option maxRecDepth 100000 in
set_option maxHeartbeats 2000000 in
theorem Matches_any {s : Sch} {bv : Value} {t : ByteArray} {w : World} (hv : IsSs w bv s.bl) : Calls Try.prog 27 #[schV s bv, .string t] w (MatchesP s t w) := by
  obtain ⟨w1, hw1⟩ : ∃ w1, w1 = w.alloc (.cells #[.string s.al, .int .i64 s.len, bv, .bool s.ck] 24) := ⟨_, rfl⟩
  have hb1 : Below w.heap.size w w1 := by rw [hw1]; exact below_al _ _
  have H4 : Hid (B4 w.heap.size (.string s.al) (.int .i64 s.len) bv (.bool s.ck) w1) := by rw [hw1]; exact B4.new _ _ _ _ _ _
  have HNS := Lib.hid (openMask_any (s := s) (t := t) (hv.below hb1))
  have HB1 := Lib.hid hb1
  have HW1 := Lib.hid hw1
  obtain ⟨bo, bc, hbv, -⟩ := hv
  obtain ⟨bm, hbm⟩ : ∃ bm, bm = s.bl.length := ⟨_, rfl⟩
  rw [← hbm] at hbv
  subst hbv
  unfold schV at HNS ⊢
  obtain ⟨al, hal⟩ : ∃ al, al = s.al := ⟨_, rfl⟩
  obtain ⟨len, hlen⟩ : ∃ len, len = s.len := ⟨_, rfl⟩
  obtain ⟨ck, hck⟩ : ∃ ck, ck = s.ck := ⟨_, rfl⟩
  rw [← hal, ← hlen, ← hck] at HNS HW1 H4 ⊢
  have HAL := Lib.hid hal
  clear hw1 hb1 hbm hal hlen hck
  have k0 := H4.out.c0; have k1 := H4.out.c1; have k2 := H4.out.c2; have k3 := H4.out.c3
  go_enter Try.func27, Try.ntmps27
  go_upto_region 1 with fail
  rw [← HW1.out]
  go_cut [6, 7, 8, 9] from 6 to 17 (fun s6 s7 s8 s9 wz => ∃ E : Int, s9 = .int .i64 E ∧ Hid (OpenQ s t w1 s6 s7 s8 E wz))
  case first =>
    go_wp2_with (first
      | (go_at_call 56; (with_reducible refine HNS.out.mono ?_); rintro e w2 ⟨pv, sv, cv, E, rfl, HNQ⟩)
      | fail)
    go_meet
    case rel => exact ⟨E, rfl, HNQ⟩
  case rest =>
    obtain ⟨E, rfl, HNQ⟩ := hcut
    apply_assumption
    rcases HNQ.out with ⟨hb, ⟨hn, rfl, rfl, rfl, rfl⟩ | ⟨hn, hm, rfl, rfl, rfl, rfl⟩ | ⟨hn, hm, rfl, rfl, rfl, rfl⟩ | ⟨hV, ht, rfl, x, y, n0, rfl, rfl, rfl, hM, hk, hn0⟩⟩
    · have HN := Lib.hid hn
      have HBB := Lib.hid (HB1.out.trans (hb.mono HB1.out.size))
      clear hn hb HNQ
      go_wp2_with fail
      refine bodyPost_ret (v := .tuple #[.int .i64 0, .int .i64 20]) (by simp [results, Try.results27, go_sem]) rfl ?_
      exact ⟨HBB.out, .inl ⟨HN.out, rfl⟩⟩
    · have HN := Lib.hid (And.intro hn hm)
      have HBB := Lib.hid (HB1.out.trans (hb.mono HB1.out.size))
      clear hn hb HNQ
      go_wp2_with fail
      refine bodyPost_ret (v := .tuple #[.int .i64 0, .int .i64 3]) (by simp [results, Try.results27, go_sem]) rfl ?_
      exact ⟨HBB.out, .inr (.inl ⟨HN.out.1, HN.out.2, rfl⟩)⟩
    · have HN := Lib.hid (And.intro hn hm)
      have HBB := Lib.hid (HB1.out.trans (hb.mono HB1.out.size))
      clear hn hb HNQ
      go_wp2_with fail
      refine bodyPost_ret (v := .tuple #[.int .i64 0, .int .i64 4]) (by simp [results, Try.results27, go_sem]) rfl ?_
      exact ⟨HBB.out, .inr (.inr (.inl ⟨HN.out.1, HN.out.2, rfl⟩))⟩
    · have HV := Lib.hid hV
      have HM := Lib.hid hM
      have HTM := Lib.hid ht
      have HBB := Lib.hid (HB1.out.trans (hb.mono HB1.out.size))
      have HK := Lib.hid (Nat.le_trans HB1.out.size hk)
      have HK2 := Lib.hid (Nat.le_trans (Nat.le_trans HB1.out.size hn0) hM.yb.2.2.2.2.2.1)
      have HST := Lib.hid (fun (W : World) (hW : MkF x y n0 s t W) => start_any hW.sf.ct.se.se)
      have HCT := Lib.hid (fun (W : World) (hW : MkF x y n0 s t W) => count_M hV ht hW)
      unfold plcV at HST
      dsimp only at HST
      obtain ⟨N, hN⟩ : ∃ N, N = (wordsM s t).length := ⟨_, rfl⟩
      rw [← hN] at HCT
      have HN := Lib.hid hN
      obtain ⟨A, hA⟩ : ∃ A, A = s.al.size := ⟨_, rfl⟩
      rw [← hA] at HST HCT
      have HSM := Lib.hid (HST.out _ hM)
      clear hV hM ht hb HNQ hk hn0 k0 k1 k2 k3 hN hA
      unfold cntV
      go_wp2_with (first
        | (go_at_call 57; (with_reducible refine HSM.out.mono ?_); rintro e w3 ⟨rfl, HB3⟩; have HM3 := Lib.hid (HM.out.below HB3.out); have HC3 := Lib.hid (HCT.out _ HM3.out))
        | (go_at_call 83; (with_reducible refine HC3.out.mono ?_); rintro e w4 ⟨rfl, HM4, HG4⟩)
        | fail)
      refine bodyPost_ret (v := .tuple #[.int .i64 (N : Int), .int .i64 0]) (by simp [results, Try.results27, go_sem]) rfl ?_
      have h3 := HBB.out.trans (HB3.out.mono HBB.out.size)
      exact ⟨h3.grown HG4.out h3.size (fun j hj => by cases hj; exact HK2.out), .inr (.inr (.inr ⟨HV.out, HTM.out, by rw [HN.out]⟩))⟩
end Go.Proofs.Ytgblfobomiiofaa
