/- A mask's words, divided by the sign at an open position. -/
import Derived.Test.YtgblfobomiiofaaCScl
namespace Go.Proofs.Ytgblfobomiiofaa
open Go Go.RowKit Go.Shelf Gw Go.Maps

theorem fitsW_set : ∀ {ms : List (Option Nat)} {u : List Nat} {i : Nat} {c : Nat} (h : i < ms.length) (_ : ms[i] = none), fitsW (ms.set i (some c)) u = (fitsW ms u && (u[i]? == some c))
  | [], _, _, _, h, _ => by simp at h
  | m :: ms, [], i, c, h, _ => by
    cases i <;> simp [fitsW]
  | m :: ms, v :: u, 0, c, h, e => by
    have e' : m = none := e
    subst e'
    have h1 : fitsW ((none :: ms).set 0 (some c)) (v :: u) = (fitsM (some c) v && fitsW ms u) := rfl
    have h2 : fitsW (none :: ms) (v :: u) = (fitsM none v && fitsW ms u) := rfl
    rw [h1, h2]
    unfold fitsM
    have h3 : ((v :: u)[0]? == some c) = (some c == some v) := by
      show (some v == some c) = _
      rw [Bool.eq_iff_iff, beq_iff_eq, beq_iff_eq]
      exact eq_comm
    rw [h3]
    cases hx : (some c == some v) <;> simp
  | m :: ms, v :: u, i + 1, c, h, e => by
    have h1 : fitsW ((m :: ms).set (i + 1) (some c)) (v :: u) = (fitsM m v && fitsW (ms.set i (some c)) u) := rfl
    have h2 : fitsW (m :: ms) (v :: u) = (fitsM m v && fitsW ms u) := rfl
    have e' : ms[i]'(by simpa using h) = none := e
    rw [h1, h2, fitsW_set (by simpa using h) e', Bool.and_assoc]
    rfl
/-- a mask with a sign of the alphabet at a position -/
def partT (t al : ByteArray) (i c : Nat) : ByteArray := t.extract 0 i ++ al.extract c (c + 1) ++ t.extract (i + 1) t.size
theorem partT_bys {t al : ByteArray} {i c : Nat} (hi : i < t.size) (hc : c < al.size) : bys (partT t al i c) = (bys t).set i al[c] := by
  unfold partT
  rw [bys_append, bys_append, bys_extract, bys_extract, bys_extract]
  have hl := bys_len t
  have hla := bys_len al
  have e1 : ((bys al).take (c + 1)).drop c = [al[c]] := by
    rw [List.take_add_one, List.drop_append]
    have e2 : (bys al)[c]? = some al[c] := by rw [List.getElem?_eq_getElem (by omega)]; rfl
    rw [e2]
    simp [hla, Nat.min_eq_left (Nat.le_of_lt hc)]
  rw [e1, List.drop_zero, ← hl, List.take_length, List.set_eq_take_append_cons_drop, if_pos (by omega)]
  simp
theorem partT_size {t al : ByteArray} {i c : Nat} (hi : i < t.size) (hc : c < al.size) : (partT t al i c).size = t.size := by
  rw [← bys_len, partT_bys hi hc, List.length_set, bys_len]
set_option linter.unusedSectionVars false
section
variable {s : Sch} {t : ByteArray} {i c : Nat} (hV : ValidS s) (ht : IsMask s t) (hi : i < t.size) (h63 : t[i] = 63) (hc : c < s.al.size)
include hV ht hi hc
theorem part_mask : IsMask s (partT t s.al i c) := by
  refine ⟨by rw [partT_size hi hc]; exact ht.1, fun b hb => ?_⟩
  rw [partT_bys hi hc] at hb
  rcases List.mem_or_eq_of_mem_set hb with h | h
  · exact ht.2 b h
  · rw [h]; exact .inl (bys_at hc)
theorem part_maskN : maskN s.al (partT t s.al i c) = (maskN s.al t).set i (some c) := by
  unfold maskN
  rw [partT_bys hi hc, List.map_set]
  congr 1
  have hne : s.al[c] ≠ 63 := fun e => by
    have h5 := (hV.1.1.2.2 c hc).1
    rw [e] at h5
    exact absurd h5 (by decide)
  show (if s.al[c] = 63 then none else some _) = _
  rw [if_neg hne, idx_sign hV.1.1 hc]
include h63
theorem part_none : (maskN s.al t)[i]'(by rw [maskN_len]; exact hi) = none := by
  have e3 : (maskN s.al t)[i]'(by rw [maskN_len]; exact hi) = (fun b => if b = 63 then none else some ((bys s.al).idxOf b)) ((bys t)[i]'(by rw [bys_len]; exact hi)) := List.getElem_map _
  rw [e3]
  show (if t[i] = 63 then none else some ((bys s.al).idxOf t[i])) = _
  rw [if_pos h63]
theorem part_pass {u : List Nat} (hu : u.length = nS s) : passM s (partT t s.al i c) u = (passM s t u && decide ((serU s.al s.ck u).getD i 0 = c)) := by
  have hno := part_none hV ht hi h63 hc
  unfold passM lastM
  rw [part_maskN hV ht hi hc]
  by_cases q : i < nS s
  · have hl : i < ((maskN s.al t).take (nS s)).length := by rw [List.length_take, maskN_len]; omega
    rw [List.take_set, fitsW_set hl (by rw [List.getElem_take]; exact hno)]
    have e1 : ((maskN s.al t).set i (some c)).getD (nS s) none = (maskN s.al t).getD (nS s) none := by
      rw [List.getD_eq_getElem?_getD, List.getD_eq_getElem?_getD, List.getElem?_set_ne (by omega)]
    rw [e1]
    have e2 : (u[i]? == some c) = decide ((serU s.al s.ck u).getD i 0 = c) := by
      have h3 : (serU s.al s.ck u).getD i 0 = u.getD i 0 := by
        unfold serU
        cases s.ck with
        | false => rfl
        | true => simp [List.getElem?_append_left (show i < u.length by omega)]
      rw [h3, Bool.eq_iff_iff]
      simp [show i < u.length by omega]
    rw [e2]
    ac_rfl
  · have hck : s.ck = true := by
      cases h : s.ck with
      | true => rfl
      | false =>
        have h2 := ht.1
        rw [h] at h2
        unfold szN at h2
        simp at h2
        omega
    have hin : i = nS s := by
      have h2 := ht.1
      rw [hck] at h2
      unfold szN at h2
      simp at h2
      omega
    subst hin
    have hl2 : nS s < (maskN s.al t).length := by rw [maskN_len]; exact hi
    have e0 : ((maskN s.al t).set (nS s) (some c)).take (nS s) = (maskN s.al t).take (nS s) := by
      rw [List.take_set_of_le (Nat.le_refl _)]
    have e1 : ((maskN s.al t).set (nS s) (some c)).getD (nS s) none = some c := by
      rw [List.getD_eq_getElem?_getD, List.getElem?_set_self hl2]; rfl
    have e2 : (maskN s.al t).getD (nS s) none = none := by
      rw [List.getD_eq_getElem?_getD, List.getElem?_eq_getElem hl2, hno]; rfl
    have e3 : (serU s.al s.ck u).getD (nS s) 0 = lcN s.al.size (chk (ncN s.al.size) s.al.size u) := by
      unfold serU
      rw [hck]
      simp [← hu]
    rw [e0, e1, e2, e3, hck]
    unfold finL
    simp
    congr 1
    exact decide_eq_decide.2 eq_comm
theorem part_words : wordsM s (partT t s.al i c) = (wordsM s t).filter fun u => decide ((serU s.al s.ck u).getD i 0 = c) := by
  rw [wordsM_filter (part_mask hV ht hi hc), wordsM_filter ht, List.filter_filter]
  refine List.filter_congr fun u hu => ?_
  rw [part_pass hV ht hi h63 hc (wordsS_mem hu).1, Bool.and_comm]
end
/-- how many words of a mask, among those that P lets through, have a sign below c at a position -/
def sumP (s : Sch) (t : ByteArray) (P : List Nat → Bool) (i c : Nat) : Nat := (wordsM s t).countP fun u => P u && decide ((serU s.al s.ck u).getD i 0 < c)
theorem sumP_zero (s : Sch) (t : ByteArray) (P : List Nat → Bool) (i : Nat) : sumP s t P i 0 = 0 := by
  unfold sumP
  simp
theorem sumP_le (s : Sch) (t : ByteArray) (P : List Nat → Bool) (i c : Nat) : sumP s t P i c ≤ (wordsM s t).length := List.countP_le_length
theorem sumP_succ {s : Sch} {t : ByteArray} (P : List Nat → Bool) {i c : Nat} (hV : ValidS s) (ht : IsMask s t) (hi : i < t.size) (h63 : t[i] = 63) (hc : c < s.al.size) : sumP s t P i (c + 1) = sumP s t P i c + (wordsM s (partT t s.al i c)).countP P := by
  rw [part_words hV ht hi h63 hc, List.countP_filter]
  unfold sumP
  induction wordsM s t with
  | nil => rfl
  | cons u l ih =>
    rw [List.countP_cons, List.countP_cons, List.countP_cons, ih]
    cases hP : P u with
    | false => simp
    | true =>
      simp only [Bool.true_and, decide_eq_true_eq]
      by_cases h1 : (serU s.al s.ck u).getD i 0 < c
      · rw [if_pos h1, if_pos (by omega), if_neg (by omega)]; omega
      · by_cases h2 : (serU s.al s.ck u).getD i 0 = c
        · rw [if_neg h1, if_pos (by omega), if_pos h2]; omega
        · rw [if_neg h1, if_neg (by omega), if_neg h2]; omega
theorem sumP_all {s : Sch} {t : ByteArray} (P : List Nat → Bool) {i : Nat} (hV : ValidS s) (ht : IsMask s t) (hi : i < t.size) : sumP s t P i s.al.size = (wordsM s t).countP P := by
  unfold sumP
  refine List.countP_congr fun u hu => ?_
  obtain ⟨h1, h2, _⟩ := wordsS_mem (wordsM_mem ht hu).1
  have h3 : (serU s.al s.ck u).getD i 0 < s.al.size := by
    have hl : i < (serU s.al s.ck u).length := by rw [serU_len _ _ _ h1, ← ht.1]; exact hi
    rw [List.getD_eq_getElem?_getD, List.getElem?_eq_getElem hl]
    exact serU_lt hV.1.1.1 s.ck h2 _ (List.getElem_mem hl)
  rw [decide_eq_true h3, Bool.and_true]
section
variable {s : Sch} {bv : Value} {w : World}
/-- what Below answers, of every mask of a scheme -/
theorem Below_P (hV : ValidS s) (M : Int) : ∃ (P : List Nat → Bool) (F : Int), (F = if 0 ≤ M ∧ M ≤ totS s then 0 else 3) ∧ ∀ (t : ByteArray), IsMask s t → ∀ {bv : Value} {w : World}, IsSs w bv s.bl → Calls Try.prog 29 #[schV s bv, .string t, .int .i64 M] w fun e w' => e = .returned (.tuple #[.int .i64 (((wordsM s t).countP P : Nat) : Int), .int .i64 F]) ∧ Hid (Below w.heap.size w w') := by
  by_cases hM : 0 ≤ M ∧ M ≤ totS s
  case neg =>
    refine ⟨fun _ => false, 3, by rw [if_neg hM], fun t ht {bv w} hv => (Below_any hv).mono ?_⟩
    rintro e w' ⟨hb, ⟨hn, _⟩ | ⟨_, hn, _⟩ | ⟨_, hn, _⟩ | ⟨_, _, _, rfl⟩ | ⟨_, _, hn, _⟩ | ⟨_, _, K', u', hK, hu', _⟩⟩
    · exact absurd hV.1 hn
    · exact absurd hV.2 hn
    · exact absurd ht hn
    · exact ⟨by simp, hb⟩
    · exact absurd ⟨by omega, by omega⟩ hM
    · obtain ⟨h1, _⟩ := List.getElem?_eq_some_iff.1 hu'
      rw [← totS_words] at h1
      exact absurd ⟨by omega, by omega⟩ hM
  case pos =>
    obtain ⟨K, rfl⟩ : ∃ K : Nat, M = K := ⟨M.toNat, by omega⟩
    by_cases hK : K = totS s
    · refine ⟨fun _ => true, 0, by rw [if_pos hM], fun t ht {bv w} hv => (Below_all hv hV ht hK).mono ?_⟩
      rintro e w' ⟨rfl, hb⟩
      exact ⟨by simp, hb⟩
    · have hl : K < (wordsS s).length := by rw [← totS_words]; omega
      refine ⟨fun u => decide (ltW u (wordsS s)[K]), 0, by rw [if_pos hM], fun t ht {bv w} hv => (Below_in hv hV ht (List.getElem?_eq_getElem hl)).mono ?_⟩
      rintro e w' ⟨rfl, hb⟩
      exact ⟨rfl, hb⟩
end
end Go.Proofs.Ytgblfobomiiofaa
