/- Contracts and lemmas (several texts merged into one). -/
import Derived.Test.YtgblfobomiiofaaTSerC
namespace Go.Proofs.Ytgblfobomiiofaa
open Go Go.RowKit Go.Shelf Gw Go.Maps

/-- i question marks -/
def qs (i : Nat) : ByteArray := ⟨(List.replicate i (63 : UInt8)).toArray⟩
theorem qs_size (i : Nat) : (qs i).size = i := by
  show (List.replicate i (63 : UInt8)).toArray.size = i
  simp
theorem qs_succ (i : Nat) : qs i ++ ⟨#[63]⟩ = qs (i + 1) := by
  refine bys_inj ?_
  rw [bys_append]
  show List.replicate i 63 ++ [63] = List.replicate (i + 1) 63
  rw [List.replicate_succ']
theorem qs_mask (al : ByteArray) (i : Nat) : maskN al (qs i) = List.replicate i none := by
  unfold maskN
  show (List.replicate i (63 : UInt8)).map _ = _
  rw [List.map_replicate]
  rfl
theorem qs_is (s : Sch) : IsMask s (qs (szN (nS s) s.ck)) := by
  refine ⟨qs_size _, fun b hb => ?_⟩
  have h : b ∈ List.replicate (szN (nS s) s.ck) (63 : UInt8) := hb
  exact .inr (List.eq_of_mem_replicate h)
theorem fitsW_free : ∀ (u : List Nat), fitsW (List.replicate u.length none) u = true
  | [] => rfl
  | v :: u => by
    have h1 : fitsW (List.replicate (v :: u).length none) (v :: u) = (fitsM none v && fitsW (List.replicate u.length none) u) := rfl
    rw [h1, fitsW_free u]
    rfl
theorem getD_none (a n : Nat) : (List.replicate a (none : Option Nat)).getD n none = none := by
  rw [List.getD_eq_getElem?_getD, List.getElem?_replicate]
  split <;> rfl
theorem qs_words (s : Sch) : wordsM s (qs (szN (nS s) s.ck)) = wordsS s := by
  rw [wordsM_filter (qs_is s), List.filter_eq_self]
  intro u hu
  have hl := (wordsS_mem hu).1
  unfold passM lastM
  rw [qs_mask, List.take_replicate, Nat.min_eq_left (le_szN _ _), ← hl, fitsW_free]
  have e : (if s.ck then (List.replicate (szN u.length s.ck) (none : Option Nat)).getD u.length none else none) = none := by
    split
    · exact getD_none _ _
    · rfl
  rw [e]
  unfold finL
  simp
section
variable {s : Sch} {t : ByteArray}
/-- a text over the alphabet is a mask -/
theorem syn_mask (h : t.size = szN (nS s) s.ck ∧ OfA t s.al) : IsMask s t := ⟨h.1, fun b hb => .inl (h.2 b hb)⟩
theorem syn_at (hV : ValidS s) (h : OfA t s.al) {i : Nat} (hi : i < t.size) : (maskN s.al t)[i]'(by rw [maskN_len]; exact hi) = some ((wordN s.al t)[i]'(by rw [wordN_len]; exact hi)) := by
  have e3 : (maskN s.al t)[i]'(by rw [maskN_len]; exact hi) = (fun b => if b = 63 then none else some ((bys s.al).idxOf b)) ((bys t)[i]'(by rw [bys_len]; exact hi)) := List.getElem_map _
  have e4 : (wordN s.al t)[i]'(by rw [wordN_len]; exact hi) = (fun b => (bys s.al).idxOf b) ((bys t)[i]'(by rw [bys_len]; exact hi)) := List.getElem_map _
  rw [e3, e4]
  have hb : (bys t)[i]'(by rw [bys_len]; exact hi) ∈ bys s.al := h _ (List.getElem_mem _)
  have hne : (bys t)[i]'(by rw [bys_len]; exact hi) ≠ 63 := fun e => by
    rw [e] at hb
    obtain ⟨j, hj, e2⟩ := mem_bys.1 hb
    have h5 := (hV.1.1.2.2 j hj).1
    rw [e2] at h5
    exact absurd h5 (by decide)
  show (if _ = 63 then none else some _) = some _
  rw [if_neg hne]
/-- what such a mask lets through is its own body -/
theorem syn_pass (hV : ValidS s) (h : t.size = szN (nS s) s.ck ∧ OfA t s.al) {u : List Nat} (hu : u.length = nS s) (hp : passM s t u = true) : serU s.al s.ck u = wordN s.al t := by
  refine List.ext_getElem (by rw [serU_len _ _ _ hu, wordN_len, h.1]) (fun i h1 h2 => ?_)
  have hi : i < t.size := by rw [wordN_len] at h2; exact h2
  have h3 := pass_at (syn_mask h) hu hp hi (syn_at hV h.2 hi)
  simpa [h1] using h3
theorem syn_body (hV : ValidS s) (h : t.size = szN (nS s) s.ck ∧ OfA t s.al) {u : List Nat} (hu : u.length = nS s) (hp : passM s t u = true) : u = (wordN s.al t).take (nS s) ∧ endsB s.al.size (nS s) s.ck (wordN s.al t) = true := by
  have h1 := syn_pass hV h hu hp
  exact ⟨by rw [← h1, serU_take _ _ hu], by rw [← h1]; exact serU_ends _ _ _ hu⟩
/-- and its own body it lets through -/
theorem pass_syn (hV : ValidS s) (h : t.size = szN (nS s) s.ck ∧ OfA t s.al) (he : endsB s.al.size (nS s) s.ck (wordN s.al t) = true) : passM s t ((wordN s.al t).take (nS s)) = true := by
  unfold passM
  have hfit : ∀ (w : List Nat), fitsW (w.map some) w = true := fun w => by
    induction w with
    | nil => rfl
    | cons v w ih =>
      have h1 : fitsW ((v :: w).map some) (v :: w) = (fitsM (some v) v && fitsW (w.map some) w) := rfl
      rw [h1, ih]
      unfold fitsM
      simp
  have hm : maskN s.al t = (wordN s.al t).map some := List.ext_getElem (by rw [maskN_len, List.length_map, wordN_len]) (fun i h1 h2 => by
    rw [maskN_len] at h1
    rw [syn_at hV h.2 h1, List.getElem_map])
  rw [hm, ← List.map_take, hfit, Bool.true_and]
  unfold lastM
  cases hck : s.ck with
  | false => unfold finL; simp
  | true =>
    have hl : nS s < (wordN s.al t).length := by
      rw [wordN_len, h.1, hck]
      unfold szN
      simp
    unfold endsB at he
    rw [hck] at he
    unfold finL
    rw [if_pos rfl, hm]
    simp [hl] at he ⊢
    exact he
theorem syn_word (hV : ValidS s) (h : t.size = szN (nS s) s.ck ∧ OfA t s.al) (ha : AllowW (bansS s) ((wordN s.al t).take (nS s))) : (wordN s.al t).take (nS s) ∈ wordsS s := by
  have hlt : ∀ v ∈ (wordN s.al t).take (nS s), v < s.al.size := fun v hv => wordN_lt h.2 v (List.mem_of_mem_take hv)
  have hlen : ((wordN s.al t).take (nS s)).length = nS s := by
    rw [List.length_take, wordN_len, h.1]
    have := le_szN (nS s) s.ck
    omega
  unfold wordsS wordsAt
  rw [mem_words]
  refine ⟨?_, hlt, ?_, ?_⟩
  · unfold freeS
    rw [List.drop_zero, List.take_replicate, Nat.min_eq_left (le_szN _ _)]
    have h3 := fitsW_free ((wordN s.al t).take (nS s))
    rw [hlen] at h3
    exact h3
  · rw [allow_fS hV.1 hlt]
    exact decide_eq_true ha
  · unfold finL
    simp
theorem word_allow (hV : ValidS s) {u : List Nat} (hu : u ∈ wordsS s) : AllowW (bansS s) u := by
  obtain ⟨_, h2, h3⟩ := wordsS_mem hu
  rw [allow_fS hV.1 h2] at h3
  exact of_decide_eq_true h3
/-- a text that is no serial, as a mask, lets nothing through -/
theorem syn_none (hV : ValidS s) (h : t.size = szN (nS s) s.ck ∧ OfA t s.al) (hn : ¬ (AllowW (bansS s) ((wordN s.al t).take (nS s)) ∧ endsB s.al.size (nS s) s.ck (wordN s.al t) = true)) : wordsM s t = [] := by
  rw [List.eq_nil_iff_forall_not_mem]
  intro u hu
  obtain ⟨h1, h2⟩ := wordsM_mem (syn_mask h) hu
  obtain ⟨h3, h4⟩ := syn_body hV h (wordsS_mem h1).1 h2
  exact hn ⟨by rw [← h3]; exact word_allow hV h1, h4⟩
/-- a serial, as a mask, lets itself through alone -/
theorem syn_one (hV : ValidS s) (h : t.size = szN (nS s) s.ck ∧ OfA t s.al) (ha : AllowW (bansS s) ((wordN s.al t).take (nS s))) (he : endsB s.al.size (nS s) s.ck (wordN s.al t) = true) : wordsM s t = [(wordN s.al t).take (nS s)] := by
  have hm : (wordN s.al t).take (nS s) ∈ wordsM s t := by
    rw [wordsM_filter (syn_mask h), List.mem_filter]
    exact ⟨syn_word hV h ha, pass_syn hV h he⟩
  have hall : ∀ u ∈ wordsM s t, u = (wordN s.al t).take (nS s) := fun u hu => by
    obtain ⟨h1, h2⟩ := wordsM_mem (syn_mask h) hu
    exact (syn_body hV h (wordsS_mem h1).1 h2).1
  have hs := wordsM_sorted s t
  match hl : wordsM s t with
  | [] => rw [hl] at hm; simp at hm
  | [a] => rw [hl] at hall; rw [hall a (by simp)]
  | a :: b :: l =>
    rw [hl] at hs hall
    have h3 := (List.pairwise_cons.1 hs).1 b (by simp)
    rw [hall a (by simp), hall b (by simp)] at h3
    exact absurd h3 (ltW_irrefl _)
end
section
variable {s : Sch} {bv : Value} {t : ByteArray} {w : World} (hv : IsSs w bv s.bl) (hV : ValidS s)
include hv hV
theorem Num_syn (h : ¬ (t.size = szN (nS s) s.ck ∧ OfA t s.al)) : Calls Try.prog 25 #[schV s bv, .string t] w fun e w' => e = .returned (.tuple #[.int .i64 0, .int .i64 4]) ∧ Hid (Below w.heap.size w w') := by
  refine (Number_any hv).mono ?_
  rintro e w' ⟨hb, ⟨hn, _⟩ | ⟨_, hn, _⟩ | ⟨_, _, rfl⟩ | ⟨_, h2, _⟩ | ⟨_, h2, _⟩ | ⟨_, h2, _⟩⟩
  · exact absurd hV.1 hn
  · exact absurd hV.2 hn
  · exact ⟨rfl, hb⟩
  · exact absurd h2 h
  · exact absurd h2 h
  · exact absurd h2 h
theorem Num_not (h : t.size = szN (nS s) s.ck ∧ OfA t s.al) (hn : ¬ (AllowW (bansS s) ((wordN s.al t).take (nS s)) ∧ endsB s.al.size (nS s) s.ck (wordN s.al t) = true)) :
    Calls Try.prog 25 #[schV s bv, .string t] w fun e w' => ∃ E : Int, e = .returned (.tuple #[.int .i64 0, .int .i64 E]) ∧ (E == 4) = false ∧ (E != 0) = true ∧ (E = 21 ∨ E = 22) ∧ Hid (Below w.heap.size w w') := by
  refine (Number_any hv).mono ?_
  rintro e w' ⟨hb, ⟨hn', _⟩ | ⟨_, hn', _⟩ | ⟨_, h2, _⟩ | ⟨_, _, _, rfl⟩ | ⟨_, _, _, _, rfl⟩ | ⟨_, _, h3, h4, _⟩⟩
  · exact absurd hV.1 hn'
  · exact absurd hV.2 hn'
  · exact absurd h h2
  · exact ⟨_, rfl, rfl, rfl, .inl rfl, hb⟩
  · exact ⟨_, rfl, rfl, rfl, .inr rfl, hb⟩
  · exact absurd ⟨h3, h4⟩ hn
theorem Num_ok (h : t.size = szN (nS s) s.ck ∧ OfA t s.al) (ha : AllowW (bansS s) ((wordN s.al t).take (nS s))) (he : endsB s.al.size (nS s) s.ck (wordN s.al t) = true) {n : Nat} (hn : (wordsS s)[n]? = some ((wordN s.al t).take (nS s))) :
    Calls Try.prog 25 #[schV s bv, .string t] w fun e w' => e = .returned (.tuple #[.int .i64 (n : Int), .int .i64 0]) ∧ Hid (Below w.heap.size w w') := by
  refine (Number_any hv).mono ?_
  have hB : bel (wordsS s) ((wordN s.al t).take (nS s)) = n := by
    obtain ⟨hK, e⟩ := List.getElem?_eq_some_iff.1 hn
    have h5 := bel_at (l := wordsS s) (sorted_words _ _ _) hK
    rw [e] at h5
    exact h5
  rintro e w' ⟨hb, ⟨hn', _⟩ | ⟨_, hn', _⟩ | ⟨_, h2, _⟩ | ⟨_, _, h2, _⟩ | ⟨_, _, _, h2, _⟩ | ⟨_, _, h3, h4, rfl⟩⟩
  · exact absurd hV.1 hn'
  · exact absurd hV.2 hn'
  · exact absurd h h2
  · exact absurd ha h2
  · rw [he] at h2; cases h2
  · rw [hB]; exact ⟨rfl, hb⟩
end
end Go.Proofs.Ytgblfobomiiofaa
namespace Go.Proofs.Ytgblfobomiiofaa
open Go Go.RowKit Go.Shelf Gw Go.Maps

theorem fitsW_set : ∀ {ms : List (Option Nat)} {u : List Nat} {i : Nat} {c : Nat} (h : i < ms.length) (_ : ms[i] = none), fitsW (ms.set i (some c)) u = (fitsW ms u && (u[i]? == some c))
  | [], _, _, _, h, _ => by simp at h
  | m :: ms, [], i, c, h, _ => by
    cases i <;> simp [fitsW]
  | m :: ms, v :: u, 0, c, h, e => by
    have e' : m = none := e
    subst e'
    have h1 : fitsW ((none :: ms).set 0 (some c)) (v :: u) = (fitsM (some c) v && fitsW ms u) := rfl
    have h2 : fitsW (none :: ms) (v :: u) = (fitsM none v && fitsW ms u) := rfl
    rw [h1, h2]
    unfold fitsM
    have h3 : ((v :: u)[0]? == some c) = (some c == some v) := by
      show (some v == some c) = _
      rw [Bool.eq_iff_iff, beq_iff_eq, beq_iff_eq]
      exact eq_comm
    rw [h3]
    cases hx : (some c == some v) <;> simp
  | m :: ms, v :: u, i + 1, c, h, e => by
    have h1 : fitsW ((m :: ms).set (i + 1) (some c)) (v :: u) = (fitsM m v && fitsW (ms.set i (some c)) u) := rfl
    have h2 : fitsW (m :: ms) (v :: u) = (fitsM m v && fitsW ms u) := rfl
    have e' : ms[i]'(by simpa using h) = none := e
    rw [h1, h2, fitsW_set (by simpa using h) e', Bool.and_assoc]
    rfl
/-- a mask with a sign of the alphabet at a position -/
def partT (t al : ByteArray) (i c : Nat) : ByteArray := t.extract 0 i ++ al.extract c (c + 1) ++ t.extract (i + 1) t.size
theorem partT_bys {t al : ByteArray} {i c : Nat} (hi : i < t.size) (hc : c < al.size) : bys (partT t al i c) = (bys t).set i al[c] := by
  unfold partT
  rw [bys_append, bys_append, bys_extract, bys_extract, bys_extract]
  have hl := bys_len t
  have hla := bys_len al
  have e1 : ((bys al).take (c + 1)).drop c = [al[c]] := by
    rw [List.take_add_one, List.drop_append]
    have e2 : (bys al)[c]? = some al[c] := by rw [List.getElem?_eq_getElem (by omega)]; rfl
    rw [e2]
    simp [hla, Nat.min_eq_left (Nat.le_of_lt hc)]
  rw [e1, List.drop_zero, ← hl, List.take_length, List.set_eq_take_append_cons_drop, if_pos (by omega)]
  simp
theorem partT_size {t al : ByteArray} {i c : Nat} (hi : i < t.size) (hc : c < al.size) : (partT t al i c).size = t.size := by
  rw [← bys_len, partT_bys hi hc, List.length_set, bys_len]
set_option linter.unusedSectionVars false
section
variable {s : Sch} {t : ByteArray} {i c : Nat} (hV : ValidS s) (ht : IsMask s t) (hi : i < t.size) (h63 : t[i] = 63) (hc : c < s.al.size)
include hV ht hi hc
theorem part_mask : IsMask s (partT t s.al i c) := by
  refine ⟨by rw [partT_size hi hc]; exact ht.1, fun b hb => ?_⟩
  rw [partT_bys hi hc] at hb
  rcases List.mem_or_eq_of_mem_set hb with h | h
  · exact ht.2 b h
  · rw [h]; exact .inl (bys_at hc)
theorem part_maskN : maskN s.al (partT t s.al i c) = (maskN s.al t).set i (some c) := by
  unfold maskN
  rw [partT_bys hi hc, List.map_set]
  congr 1
  have hne : s.al[c] ≠ 63 := fun e => by
    have h5 := (hV.1.1.2.2 c hc).1
    rw [e] at h5
    exact absurd h5 (by decide)
  show (if s.al[c] = 63 then none else some _) = _
  rw [if_neg hne, idx_sign hV.1.1 hc]
include h63
theorem part_none : (maskN s.al t)[i]'(by rw [maskN_len]; exact hi) = none := by
  have e3 : (maskN s.al t)[i]'(by rw [maskN_len]; exact hi) = (fun b => if b = 63 then none else some ((bys s.al).idxOf b)) ((bys t)[i]'(by rw [bys_len]; exact hi)) := List.getElem_map _
  rw [e3]
  show (if t[i] = 63 then none else some ((bys s.al).idxOf t[i])) = _
  rw [if_pos h63]
theorem part_pass {u : List Nat} (hu : u.length = nS s) : passM s (partT t s.al i c) u = (passM s t u && decide ((serU s.al s.ck u).getD i 0 = c)) := by
  have hno := part_none hV ht hi h63 hc
  unfold passM lastM
  rw [part_maskN hV ht hi hc]
  by_cases q : i < nS s
  · have hl : i < ((maskN s.al t).take (nS s)).length := by rw [List.length_take, maskN_len]; omega
    rw [List.take_set, fitsW_set hl (by rw [List.getElem_take]; exact hno)]
    have e1 : ((maskN s.al t).set i (some c)).getD (nS s) none = (maskN s.al t).getD (nS s) none := by
      rw [List.getD_eq_getElem?_getD, List.getD_eq_getElem?_getD, List.getElem?_set_ne (by omega)]
    rw [e1]
    have e2 : (u[i]? == some c) = decide ((serU s.al s.ck u).getD i 0 = c) := by
      have h3 : (serU s.al s.ck u).getD i 0 = u.getD i 0 := by
        unfold serU
        cases s.ck with
        | false => rfl
        | true => simp [List.getElem?_append_left (show i < u.length by omega)]
      rw [h3, Bool.eq_iff_iff]
      simp [show i < u.length by omega]
    rw [e2]
    ac_rfl
  · have hck : s.ck = true := by
      cases h : s.ck with
      | true => rfl
      | false =>
        have h2 := ht.1
        rw [h] at h2
        unfold szN at h2
        simp at h2
        omega
    have hin : i = nS s := by
      have h2 := ht.1
      rw [hck] at h2
      unfold szN at h2
      simp at h2
      omega
    subst hin
    have hl2 : nS s < (maskN s.al t).length := by rw [maskN_len]; exact hi
    have e0 : ((maskN s.al t).set (nS s) (some c)).take (nS s) = (maskN s.al t).take (nS s) := by
      rw [List.take_set_of_le (Nat.le_refl _)]
    have e1 : ((maskN s.al t).set (nS s) (some c)).getD (nS s) none = some c := by
      rw [List.getD_eq_getElem?_getD, List.getElem?_set_self hl2]; rfl
    have e2 : (maskN s.al t).getD (nS s) none = none := by
      rw [List.getD_eq_getElem?_getD, List.getElem?_eq_getElem hl2, hno]; rfl
    have e3 : (serU s.al s.ck u).getD (nS s) 0 = lcN s.al.size (chk (ncN s.al.size) s.al.size u) := by
      unfold serU
      rw [hck]
      simp [← hu]
    rw [e0, e1, e2, e3, hck]
    unfold finL
    simp
    congr 1
    exact decide_eq_decide.2 eq_comm
theorem part_words : wordsM s (partT t s.al i c) = (wordsM s t).filter fun u => decide ((serU s.al s.ck u).getD i 0 = c) := by
  rw [wordsM_filter (part_mask hV ht hi hc), wordsM_filter ht, List.filter_filter]
  refine List.filter_congr fun u hu => ?_
  rw [part_pass hV ht hi h63 hc (wordsS_mem hu).1, Bool.and_comm]
end
/-- how many words of a mask, among those that P lets through, have a sign below c at a position -/
def sumP (s : Sch) (t : ByteArray) (P : List Nat → Bool) (i c : Nat) : Nat := (wordsM s t).countP fun u => P u && decide ((serU s.al s.ck u).getD i 0 < c)
theorem sumP_zero (s : Sch) (t : ByteArray) (P : List Nat → Bool) (i : Nat) : sumP s t P i 0 = 0 := by
  unfold sumP
  simp
theorem sumP_le (s : Sch) (t : ByteArray) (P : List Nat → Bool) (i c : Nat) : sumP s t P i c ≤ (wordsM s t).length := List.countP_le_length
theorem sumP_succ {s : Sch} {t : ByteArray} (P : List Nat → Bool) {i c : Nat} (hV : ValidS s) (ht : IsMask s t) (hi : i < t.size) (h63 : t[i] = 63) (hc : c < s.al.size) : sumP s t P i (c + 1) = sumP s t P i c + (wordsM s (partT t s.al i c)).countP P := by
  rw [part_words hV ht hi h63 hc, List.countP_filter]
  unfold sumP
  induction wordsM s t with
  | nil => rfl
  | cons u l ih =>
    rw [List.countP_cons, List.countP_cons, List.countP_cons, ih]
    cases hP : P u with
    | false => simp
    | true =>
      simp only [Bool.true_and, decide_eq_true_eq]
      by_cases h1 : (serU s.al s.ck u).getD i 0 < c
      · rw [if_pos h1, if_pos (by omega), if_neg (by omega)]; omega
      · by_cases h2 : (serU s.al s.ck u).getD i 0 = c
        · rw [if_neg h1, if_pos (by omega), if_pos h2]; omega
        · rw [if_neg h1, if_neg (by omega), if_neg h2]; omega
theorem sumP_all {s : Sch} {t : ByteArray} (P : List Nat → Bool) {i : Nat} (hV : ValidS s) (ht : IsMask s t) (hi : i < t.size) : sumP s t P i s.al.size = (wordsM s t).countP P := by
  unfold sumP
  refine List.countP_congr fun u hu => ?_
  obtain ⟨h1, h2, _⟩ := wordsS_mem (wordsM_mem ht hu).1
  have h3 : (serU s.al s.ck u).getD i 0 < s.al.size := by
    have hl : i < (serU s.al s.ck u).length := by rw [serU_len _ _ _ h1, ← ht.1]; exact hi
    rw [List.getD_eq_getElem?_getD, List.getElem?_eq_getElem hl]
    exact serU_lt hV.1.1.1 s.ck h2 _ (List.getElem_mem hl)
  rw [decide_eq_true h3, Bool.and_true]
section
variable {s : Sch} {bv : Value} {w : World}
/-- what Below answers, of every mask of a scheme -/
theorem Below_P (hV : ValidS s) (M : Int) : ∃ (P : List Nat → Bool) (F : Int), (F = if 0 ≤ M ∧ M ≤ totS s then 0 else 3) ∧ ∀ (t : ByteArray), IsMask s t → ∀ {bv : Value} {w : World}, IsSs w bv s.bl → Calls Try.prog 29 #[schV s bv, .string t, .int .i64 M] w fun e w' => e = .returned (.tuple #[.int .i64 (((wordsM s t).countP P : Nat) : Int), .int .i64 F]) ∧ Hid (Below w.heap.size w w') := by
  by_cases hM : 0 ≤ M ∧ M ≤ totS s
  case neg =>
    refine ⟨fun _ => false, 3, by rw [if_neg hM], fun t ht {bv w} hv => (Below_any hv).mono ?_⟩
    rintro e w' ⟨hb, ⟨hn, _⟩ | ⟨_, hn, _⟩ | ⟨_, hn, _⟩ | ⟨_, _, _, rfl⟩ | ⟨_, _, hn, _⟩ | ⟨_, _, K', u', hK, hu', _⟩⟩
    · exact absurd hV.1 hn
    · exact absurd hV.2 hn
    · exact absurd ht hn
    · exact ⟨by simp, hb⟩
    · exact absurd ⟨by omega, by omega⟩ hM
    · obtain ⟨h1, _⟩ := List.getElem?_eq_some_iff.1 hu'
      rw [← totS_words] at h1
      exact absurd ⟨by omega, by omega⟩ hM
  case pos =>
    obtain ⟨K, rfl⟩ : ∃ K : Nat, M = K := ⟨M.toNat, by omega⟩
    by_cases hK : K = totS s
    · refine ⟨fun _ => true, 0, by rw [if_pos hM], fun t ht {bv w} hv => (Below_all hv hV ht hK).mono ?_⟩
      rintro e w' ⟨rfl, hb⟩
      exact ⟨by simp, hb⟩
    · have hl : K < (wordsS s).length := by rw [← totS_words]; omega
      refine ⟨fun u => decide (ltW u (wordsS s)[K]), 0, by rw [if_pos hM], fun t ht {bv w} hv => (Below_in hv hV ht (List.getElem?_eq_getElem hl)).mono ?_⟩
      rintro e w' ⟨rfl, hb⟩
      exact ⟨rfl, hb⟩
end
end Go.Proofs.Ytgblfobomiiofaa
namespace Go.Proofs.Ytgblfobomiiofaa
open Go Go.RowKit Go.Shelf Gw Go.Maps

theorem slice_in {s : ByteArray} {n m : Nat} (h : n ≤ m) (h2 : m ≤ s.size) (W : World) : (Instr.slice 9 (.string s) (some (.int .i64 (n : Int))) (some (.int .i64 (m : Int))) none).run Try.prog W = .ok (.string (s.extract n m)) W := by
  rw [run_slice_string_if _ _ _ _ _ _ _ Try.underlying9, if_pos ⟨by omega, by omega⟩, if_pos ⟨by omega, by omega⟩]
  rfl
set_option maxRecDepth 100000 in
set_option maxHeartbeats 8000000 in
theorem serialParts_law {s : Sch} {bv : Value} {t : ByteArray} {I M : Int} {w : World} (hv : IsSs w bv s.bl) (_hnil : NilOk bv) :
    Calls Try.prog 10 #[schV s bv, .string t, .int .i64 I, .int .i64 M] w fun e w' => e = .returned (.bool true) ∧ Hid (Below w.heap.size w w') := by
  have HAW := Lib.hid serawake_any
  obtain ⟨w1, hw1⟩ : ∃ w1, w1 = w.alloc (.cells #[.string s.al, .int .i64 s.len, bv, .bool s.ck] 24) := ⟨_, rfl⟩
  have hb1 : Below w.heap.size w w1 := by rw [hw1]; exact below_al _ _
  have H41 : Hid (B4 w.heap.size (.string s.al) (.int .i64 s.len) bv (.bool s.ck) w1) := by rw [hw1]; exact B4.new _ _ _ _ _ _
  have HFW := few_any (s := s) (hv.below hb1)
  have HV1 := Lib.hid (hv.below hb1)
  have HB1 := Lib.hid hb1
  have HW1 := Lib.hid hw1
  obtain ⟨fb, hfb⟩ : ∃ fb, fb = fewB s := ⟨_, rfl⟩
  unfold FewP at HFW
  rw [← hfb] at HFW
  have HeS : Hid (∀ v, schV s v = .agg #[.string s.al, .int .i64 s.len, v, .bool s.ck]) := fun v => rfl
  unfold schV at HFW ⊢
  obtain ⟨bo, bc, hbv, -⟩ := hv
  obtain ⟨bm, hbm⟩ : ∃ bm, bm = s.bl.length := ⟨_, rfl⟩
  rw [← hbm] at hbv
  subst hbv
  have HFW := Lib.hid HFW
  obtain ⟨al, hal⟩ : ∃ al, al = s.al := ⟨_, rfl⟩
  obtain ⟨len, hlen⟩ : ∃ len, len = s.len := ⟨_, rfl⟩
  obtain ⟨ck, hck⟩ : ∃ ck, ck = s.ck := ⟨_, rfl⟩
  rw [← hal, ← hlen, ← hck] at H41 HW1 HFW HeS ⊢
  have HAL := Lib.hid hal
  have HLEN := Lib.hid hlen
  have HCK := Lib.hid hck
  clear hw1 hb1 hfb hbm hal hlen hck
  have k0 := H41.out.c0; have k1 := H41.out.c1; have k2 := H41.out.c2; have k3 := H41.out.c3
  go_enter Try.func10, Try.ntmps10
  go_upto_region 1 with fail
  rw [← HW1.out]
  cases fb with
  | false =>
    go_wp2_with (first
      | (go_at_call 16; (with_reducible refine HFW.out.mono ?_); rintro e w2 ⟨rfl, HBf⟩; have H42 := Lib.hid (H41.out.below HBf.out); have HV2 := Lib.hid (HV1.out.below HBf.out); have HB2 := Lib.hid (HB1.out.trans (HBf.out.mono HB1.out.size)); have a20 := H42.out.c0; have a21 := H42.out.c1; have a22 := H42.out.c2; have a23 := H42.out.c3)
      | fail)
    refine (HAW.out _).mono ?_
    rintro e wz ⟨rfl, HBz⟩
    go_wp2_with fail
    go_ret
    exact ⟨rfl, (HB2.out).trans (HBz.out.mono (HB2.out).size)⟩
  | true =>
  by_cases p1 : t.size > 100
  · have p2 : (t.size : Int) > 100 := by omega
    go_wp2_with (first
      | (go_at_call 16; (with_reducible refine HFW.out.mono ?_); rintro e w2 ⟨rfl, HBf⟩; have H42 := Lib.hid (H41.out.below HBf.out); have HV2 := Lib.hid (HV1.out.below HBf.out); have HB2 := Lib.hid (HB1.out.trans (HBf.out.mono HB1.out.size)); have a20 := H42.out.c0; have a21 := H42.out.c1; have a22 := H42.out.c2; have a23 := H42.out.c3)
      | fail)
    refine (HAW.out _).mono ?_
    rintro e wz ⟨rfl, HBz⟩
    go_wp2_with fail
    go_ret
    exact ⟨rfl, (HB2.out).trans (HBz.out.mono (HB2.out).size)⟩
  have p2 : ¬ (t.size : Int) > 100 := by omega
  by_cases hVM : ValidS s ∧ IsMask s t
  case neg =>
    have HMA : Hid (∀ (W : World), IsSs W (.slice bo bm bc) s.bl → Calls Try.prog 27 #[.agg #[.string al, .int .i64 len, .slice bo bm bc, .bool ck], .string t] W fun e w' => ∃ E : Int, e = .returned (.tuple #[.int .i64 0, .int .i64 E]) ∧ (E != 0) = true ∧ Hid (Below W.heap.size W w')) := fun W h => by rw [← HeS.out]; exact Matches_no h hVM
    clear hVM
    go_wp2_with (first
      | (go_at_call 16; (with_reducible refine HFW.out.mono ?_); rintro e w2 ⟨rfl, HBf⟩; have H42 := Lib.hid (H41.out.below HBf.out); have HV2 := Lib.hid (HV1.out.below HBf.out); have HB2 := Lib.hid (HB1.out.trans (HBf.out.mono HB1.out.size)); have a20 := H42.out.c0; have a21 := H42.out.c1; have a22 := H42.out.c2; have a23 := H42.out.c3)
      | (go_at_call 27; (with_reducible refine (HMA.out _ HV2.out).mono ?_); rintro e wa ⟨E, rfl, hE, HBq⟩; have H4A := Lib.hid (H42.out.below HBq.out); have HVA := Lib.hid (HV2.out.below HBq.out); have HBA := Lib.hid (HB2.out.trans (HBq.out.mono HB2.out.size)); have aA0 := H4A.out.c0; have aA1 := H4A.out.c1; have aA2 := H4A.out.c2; have aA3 := H4A.out.c3)
      | fail)
    refine (HAW.out _).mono ?_
    rintro e wz ⟨rfl, HBz⟩
    go_wp2_with fail
    go_ret
    exact ⟨rfl, (HBA.out).trans (HBz.out.mono (HBA.out).size)⟩
  obtain ⟨hV, ht⟩ := hVM
  obtain ⟨N, hN⟩ : ∃ N, N = (wordsM s t).length := ⟨_, rfl⟩
  have HMA : Hid (∀ (W : World), IsSs W (.slice bo bm bc) s.bl → Calls Try.prog 27 #[.agg #[.string al, .int .i64 len, .slice bo bm bc, .bool ck], .string t] W fun e w' => e = .returned (.tuple #[.int .i64 (N : Int), .int .i64 0]) ∧ Hid (Below W.heap.size W w')) := fun W h => by rw [← HeS.out, hN]; exact Matches_yes h hV ht
  by_cases hI : 0 ≤ I ∧ I < (t.size : Int)
  case neg =>
    clear hV ht hN
    by_cases q1 : I < 0
    · skip
      go_wp2_with (first
        | (go_at_call 16; (with_reducible refine HFW.out.mono ?_); rintro e w2 ⟨rfl, HBf⟩; have H42 := Lib.hid (H41.out.below HBf.out); have HV2 := Lib.hid (HV1.out.below HBf.out); have HB2 := Lib.hid (HB1.out.trans (HBf.out.mono HB1.out.size)); have a20 := H42.out.c0; have a21 := H42.out.c1; have a22 := H42.out.c2; have a23 := H42.out.c3)
        | (go_at_call 27; (with_reducible refine (HMA.out _ HV2.out).mono ?_); rintro e wa ⟨rfl, HBq⟩; have H4A := Lib.hid (H42.out.below HBq.out); have HVA := Lib.hid (HV2.out.below HBq.out); have HBA := Lib.hid (HB2.out.trans (HBq.out.mono HB2.out.size)); have aA0 := H4A.out.c0; have aA1 := H4A.out.c1; have aA2 := H4A.out.c2; have aA3 := H4A.out.c3)
        | fail)
      refine (HAW.out _).mono ?_
      rintro e wz ⟨rfl, HBz⟩
      go_wp2_with fail
      go_ret
      exact ⟨rfl, (HBA.out).trans (HBz.out.mono (HBA.out).size)⟩
    · have q2 : I ≥ (t.size : Int) := by omega
      go_wp2_with (first
        | (go_at_call 16; (with_reducible refine HFW.out.mono ?_); rintro e w2 ⟨rfl, HBf⟩; have H42 := Lib.hid (H41.out.below HBf.out); have HV2 := Lib.hid (HV1.out.below HBf.out); have HB2 := Lib.hid (HB1.out.trans (HBf.out.mono HB1.out.size)); have a20 := H42.out.c0; have a21 := H42.out.c1; have a22 := H42.out.c2; have a23 := H42.out.c3)
        | (go_at_call 27; (with_reducible refine (HMA.out _ HV2.out).mono ?_); rintro e wa ⟨rfl, HBq⟩; have H4A := Lib.hid (H42.out.below HBq.out); have HVA := Lib.hid (HV2.out.below HBq.out); have HBA := Lib.hid (HB2.out.trans (HBq.out.mono HB2.out.size)); have aA0 := H4A.out.c0; have aA1 := H4A.out.c1; have aA2 := H4A.out.c2; have aA3 := H4A.out.c3)
        | fail)
      refine (HAW.out _).mono ?_
      rintro e wz ⟨rfl, HBz⟩
      go_wp2_with fail
      go_ret
      exact ⟨rfl, (HBA.out).trans (HBz.out.mono (HBA.out).size)⟩
  obtain ⟨i, rfl⟩ : ∃ i : Nat, I = i := ⟨I.toNat, by omega⟩
  have hi : i < t.size := by omega
  have q1 : ¬ (i : Int) < 0 := by omega
  have q2 : ¬ (i : Int) ≥ (t.size : Int) := by omega
  have hix := fun W => index_str hi W
  by_cases h63 : t[i] = 63
  case neg =>
    obtain ⟨y, hy⟩ : ∃ y, y = t[i] := ⟨_, rfl⟩
    rw [← hy] at hix h63
    have hc : ((y.toNat : Int) != 63) = true := by
      rw [bne_iff_ne]
      intro e
      exact h63 (UInt8.toNat_inj.1 (by rw [show (63 : UInt8).toNat = 63 from rfl]; omega))
    clear hV ht hN hy
    go_wp2_with (first
      | (go_at_call 16; (with_reducible refine HFW.out.mono ?_); rintro e w2 ⟨rfl, HBf⟩; have H42 := Lib.hid (H41.out.below HBf.out); have HV2 := Lib.hid (HV1.out.below HBf.out); have HB2 := Lib.hid (HB1.out.trans (HBf.out.mono HB1.out.size)); have a20 := H42.out.c0; have a21 := H42.out.c1; have a22 := H42.out.c2; have a23 := H42.out.c3)
      | (go_at_call 27; (with_reducible refine (HMA.out _ HV2.out).mono ?_); rintro e wa ⟨rfl, HBq⟩; have H4A := Lib.hid (H42.out.below HBq.out); have HVA := Lib.hid (HV2.out.below HBq.out); have HBA := Lib.hid (HB2.out.trans (HBq.out.mono HB2.out.size)); have aA0 := H4A.out.c0; have aA1 := H4A.out.c1; have aA2 := H4A.out.c2; have aA3 := H4A.out.c3)
      | fail)
    refine (HAW.out _).mono ?_
    rintro e wz ⟨rfl, HBz⟩
    go_wp2_with fail
    go_ret
    exact ⟨rfl, (HBA.out).trans (HBz.out.mono (HBA.out).size)⟩
  have h630 := h63
  rw [h63] at hix
  have hc : (((63 : UInt8).toNat : Int) != 63) = false := by decide
  obtain ⟨P, F, hF, hP⟩ := Below_P hV M
  obtain ⟨T, hT⟩ : ∃ T, T = totS s := ⟨_, rfl⟩
  obtain ⟨B, hB⟩ : ∃ B, B = (wordsM s t).countP P := ⟨_, rfl⟩
  have hT40 : T ≤ 2 ^ 40 := by rw [hT]; exact hV.2.2
  have hNT : N ≤ T := by rw [hN, hT]; exact wordsM_len ht
  have HCO : Hid (∀ (W : World), IsSs W (.slice bo bm bc) s.bl → Calls Try.prog 21 #[.agg #[.string al, .int .i64 len, .slice bo bm bc, .bool ck]] W fun e w' => e = .returned (.tuple #[.int .i64 (T : Int), .int .i64 0]) ∧ Hid (Below W.heap.size W w')) := fun W h => by rw [← HeS.out, hT]; exact Count_yes h hV
  have hs1 : ∀ W, (Instr.slice 9 (.string t) none (some (.int .i64 (i : Int))) none).run Try.prog W = .ok (.string (t.extract 0 i)) W := fun W => slice_to (Nat.le_of_lt hi) W
  obtain ⟨i1, hi1⟩ : ∃ i1, i1 = i + 1 := ⟨_, rfl⟩
  have hs3 : ∀ W, (Instr.slice 9 (.string t) (some (.int .i64 (i1 : Int))) none none).run Try.prog W = .ok (.string (t.extract i1 t.size)) W := fun W => slice_from (by omega) W
  have hw1 : IntKind.i64.wrap ((i : Int) + 1) = (i1 : Int) := by rw [IntWalk.i64_in _ (by omega)]; omega
  have hal36 : al.size ≤ 36 := by rw [HAL.out]; exact hV.1.1.2.1
  rw [← hT] at hF
  have HVV := Lib.hid hV; have HTT := Lib.hid ht; have HNN := Lib.hid hN; have HII := Lib.hid hi; have H63 : Hid (∃ h : i < t.size, t[i]'h = 63) := ⟨hi, h630⟩; have HI1 := Lib.hid hi1
  have HPP : Hid (∀ (t : ByteArray), IsMask s t → ∀ {bv : Value} {w : World}, IsSs w bv s.bl → Calls Try.prog 29 #[schV s bv, .string t, .int .i64 M] w fun e w' => e = .returned (.tuple #[.int .i64 (((wordsM s t).countP P : Nat) : Int), .int .i64 F]) ∧ Hid (Below w.heap.size w w')) := Lib.hid hP
  have HBQ := Lib.hid hB; have HT40 := Lib.hid hT40; have HNT := Lib.hid hNT; have HAL36 := Lib.hid hal36; have HSZ := Lib.hid (Nat.not_lt.1 p1)
  have HBE : Hid (∀ (W : World), IsSs W (.slice bo bm bc) s.bl → Calls Try.prog 29 #[.agg #[.string al, .int .i64 len, .slice bo bm bc, .bool ck], .string t, .int .i64 M] W fun e w' => e = .returned (.tuple #[.int .i64 (B : Int), .int .i64 F]) ∧ Hid (Below W.heap.size W w')) := fun W h => by rw [← HeS.out, hB]; exact hP t ht h
  clear hP hV ht hN hi h63 h630 hT40 hNT hB hT hi1 hI hal36
  by_cases c1 : M ≥ 0
  · by_cases c2 : M ≤ (T : Int)
    · obtain rfl : F = 0 := by rw [hF, if_pos ⟨c1, c2⟩]
      clear hF
      go_wp2_with (first
        | (go_at_call 16; (with_reducible refine HFW.out.mono ?_); rintro e w2 ⟨rfl, HBf⟩; have H42 := Lib.hid (H41.out.below HBf.out); have HV2 := Lib.hid (HV1.out.below HBf.out); have HB2 := Lib.hid (HB1.out.trans (HBf.out.mono HB1.out.size)); have a20 := H42.out.c0; have a21 := H42.out.c1; have a22 := H42.out.c2; have a23 := H42.out.c3)
        | (go_at_call 27; (with_reducible refine (HMA.out _ HV2.out).mono ?_); rintro e wa ⟨rfl, HBq⟩; have H4A := Lib.hid (H42.out.below HBq.out); have HVA := Lib.hid (HV2.out.below HBq.out); have HBA := Lib.hid (HB2.out.trans (HBq.out.mono HB2.out.size)); have aA0 := H4A.out.c0; have aA1 := H4A.out.c1; have aA2 := H4A.out.c2; have aA3 := H4A.out.c3)
        | (go_at_call 21; (with_reducible refine (HCO.out _ HVA.out).mono ?_); rintro e wb ⟨rfl, HBq⟩; have H4B := Lib.hid (H4A.out.below HBq.out); have HVB := Lib.hid (HVA.out.below HBq.out); have HBB := Lib.hid (HBA.out.trans (HBq.out.mono HBA.out.size)); have aB0 := H4B.out.c0; have aB1 := H4B.out.c1; have aB2 := H4B.out.c2; have aB3 := H4B.out.c3)
        | (go_at_call 29; (with_reducible refine (HBE.out _ HVB.out).mono ?_); rintro e wc ⟨rfl, HBq⟩; have H4C := Lib.hid (H4B.out.below HBq.out); have HVC := Lib.hid (HVB.out.below HBq.out); have HBC := Lib.hid (HBB.out.trans (HBq.out.mono HBB.out.size)); have aC0 := H4C.out.c0; have aC1 := H4C.out.c1; have aC2 := H4C.out.c2; have aC3 := H4C.out.c3)
        | fail)
      go_loopw [15, 16, 17] (fun sA sB sC wr => ∃ c a b : Nat, c ≤ al.size ∧ sA = .int .i64 a ∧ sB = .int .i64 b ∧ sC = .int .i64 c ∧ Hid (a = sumP s t (fun _ => true) i c) ∧ Hid (b = sumP s t P i c) ∧ Hid (B4 w.heap.size (.string al) (.int .i64 len) (.slice bo bm bc) (.bool ck) wr) ∧ Hid (IsSs wr (.slice bo bm bc) s.bl) ∧ Hid (Below w.heap.size w wr)) (fun _ _ sC _ => al.size - (intOf sC).toNat)
      case atStart => exact ⟨0, 0, 0, Nat.zero_le _, rfl, rfl, rfl, (sumP_zero _ _ _ _).symm, (sumP_zero _ _ _ _).symm, H4C, HVC, HBC⟩
      case round =>
        obtain ⟨c, a, b, hcl, rfl, rfl, rfl, HA, HB, H4R, HVR, HBR⟩ := hrel
        have c0 := H4R.out.c0; have c1 := H4R.out.c1; have c2 := H4R.out.c2; have c3 := H4R.out.c3
        by_cases q : c < al.size
        · have q0 : (c : Int) < (al.size : Int) := by omega
          have hcs : c < s.al.size := by rw [← HAL.out]; exact q
          obtain ⟨cc, hcc⟩ : ∃ cc, cc = c + 1 := ⟨_, rfl⟩
          have hw : IntKind.i64.wrap ((c : Int) + 1) = (cc : Int) := by have := HAL36.out; rw [IntWalk.i64_in _ (by omega)]; omega
          have hs2 : ∀ W, (Instr.slice 9 (.string al) (some (.int .i64 (c : Int))) (some (.int .i64 (cc : Int))) none).run Try.prog W = .ok (.string (al.extract c cc)) W := fun W => slice_in (by omega) (by omega) W
          obtain ⟨p, hp⟩ : ∃ p, p = t.extract 0 i ++ al.extract c cc ++ t.extract i1 t.size := ⟨_, rfl⟩
          have hpT : p = partT t s.al i c := by rw [hp, hcc, HAL.out, HI1.out]; rfl
          have hpm : IsMask s p := by rw [hpT]; exact part_mask HVV.out HTT.out HII.out hcs
          have hl1 : (t.extract 0 i).size ≤ 100 := by rw [ByteArray.size_extract]; have := HSZ.out; omega
          have hl2 : (al.extract c cc).size ≤ 36 := by rw [ByteArray.size_extract]; have := HAL36.out; omega
          have hl3 : (t.extract i1 t.size).size ≤ 100 := by rw [ByteArray.size_extract]; have := HSZ.out; omega
          have ha1 : ∀ W : World, (Op.stringOp .add (t.extract 0 i) (al.extract c cc)).run Try.prog W = .ok (.string (t.extract 0 i ++ al.extract c cc)) W := fun W => run_string_add_sum W _ _ (by omega)
          have ha2 : ∀ W : World, (Op.stringOp .add (t.extract 0 i ++ al.extract c cc) (t.extract i1 t.size)).run Try.prog W = .ok (.string p) W := fun W => by rw [run_string_add_sum W _ _ (by rw [ByteArray.size_append]; omega), hp]
          obtain ⟨k, hk⟩ : ∃ k, k = (wordsM s p).length := ⟨_, rfl⟩
          obtain ⟨j, hj⟩ : ∃ j, j = (wordsM s p).countP P := ⟨_, rfl⟩
          have hsA := sumP_succ (fun _ => true) HVV.out HTT.out HII.out H63.out.2 hcs
          have hsB := sumP_succ P HVV.out HTT.out HII.out H63.out.2 hcs
          have hlA := sumP_le s t (fun _ => true) i (c + 1)
          have hlB := sumP_le s t P i (c + 1)
          rw [← hpT, ← HA.out, List.countP_true, ← hk] at hsA
          rw [← hpT, ← HB.out, ← hj] at hsB
          rw [← HNN.out] at hlA hlB
          obtain ⟨a1, hea1⟩ : ∃ a1, a1 = sumP s t (fun _ => true) i (c + 1) := ⟨_, rfl⟩
          obtain ⟨b1, heb1⟩ : ∃ b1, b1 = sumP s t P i (c + 1) := ⟨_, rfl⟩
          rw [← hea1] at hsA hlA
          rw [← heb1] at hsB hlB
          have hwa : IntKind.i64.wrap ((a : Int) + (k : Int)) = (a1 : Int) := by have := HNT.out; have := HT40.out; rw [IntWalk.i64_in _ (by omega)]; omega
          have hwb : IntKind.i64.wrap ((b : Int) + (j : Int)) = (b1 : Int) := by have := HNT.out; have := HT40.out; rw [IntWalk.i64_in _ (by omega)]; omega
          rw [← hcc] at hea1 heb1
          have HEA := Lib.hid hea1
          have HEB := Lib.hid heb1
          have HMP : Hid (∀ (W : World), IsSs W (.slice bo bm bc) s.bl → Calls Try.prog 27 #[.agg #[.string al, .int .i64 len, .slice bo bm bc, .bool ck], .string p] W fun e w' => e = .returned (.tuple #[.int .i64 (k : Int), .int .i64 0]) ∧ Hid (Below W.heap.size W w')) := fun W h => by rw [← HeS.out, hk]; exact Matches_yes h HVV.out hpm
          have HBP : Hid (∀ (W : World), IsSs W (.slice bo bm bc) s.bl → Calls Try.prog 29 #[.agg #[.string al, .int .i64 len, .slice bo bm bc, .bool ck], .string p, .int .i64 M] W fun e w' => e = .returned (.tuple #[.int .i64 (j : Int), .int .i64 0]) ∧ Hid (Below W.heap.size W w')) := fun W h => by rw [← HeS.out, hj]; exact HPP.out p hpm h
          have hm1 : al.size - cc < al.size - c := by omega
          have hcl1 : cc ≤ al.size := by omega
          clear hcs hcc hp hpT hpm hl1 hl2 hl3 hk hj hsA hsB hlA hlB hea1 heb1
          go_upto_region 14 with fail
          go_quiet (fail)
          rename_i nq
          have H4S := Lib.hid (H4R.out.below (below_dr wr nq))
          have HVS := Lib.hid (HVR.out.below (below_dr wr nq))
          have HBS := Lib.hid (HBR.out.trans ((below_dr wr nq).mono HBR.out.size))
          clear c0 c1 c2 c3
          generalize World.drewN wr nq = ws at *
          have c0 := H4S.out.c0; have c1 := H4S.out.c1; have c2 := H4S.out.c2; have c3 := H4S.out.c3
          go_wp2_with (first
            | (go_at_call 27; (with_reducible refine (HMP.out _ HVS.out).mono ?_); rintro e wd ⟨rfl, HBq⟩; have H4D := Lib.hid (H4S.out.below HBq.out); have HVD := Lib.hid (HVS.out.below HBq.out); have HBD := Lib.hid (HBS.out.trans (HBq.out.mono HBS.out.size)); have aD0 := H4D.out.c0; have aD1 := H4D.out.c1; have aD2 := H4D.out.c2; have aD3 := H4D.out.c3)
            | (go_at_call 29; (with_reducible refine (HBP.out _ HVD.out).mono ?_); rintro e we ⟨rfl, HBq⟩; have H4E := Lib.hid (H4D.out.below HBq.out); have HVE := Lib.hid (HVD.out.below HBq.out); have HBE := Lib.hid (HBD.out.trans (HBq.out.mono HBD.out.size)); have aE0 := H4E.out.c0; have aE1 := H4E.out.c1; have aE2 := H4E.out.c2; have aE3 := H4E.out.c3)
            | fail)
          go_roundw
          case rel => exact ⟨cc, a1, b1, hcl1, by go_num, by go_num, by go_num, HEA, HEB, H4E, HVE, HBE⟩
          case measure => simp [intOf]; omega
        · obtain rfl : c = al.size := by omega
          have q0 : ¬ (al.size : Int) < (al.size : Int) := by omega
          obtain rfl : a = N := by
            rw [HA.out, HNN.out, HAL.out, sumP_all _ HVV.out HTT.out HII.out, List.countP_true]
          obtain rfl : b = B := by
            rw [HB.out, HBQ.out, HAL.out, sumP_all _ HVV.out HTT.out HII.out]
          go_wp2_with fail
          refine (HAW.out _).mono ?_
          rintro e wz ⟨rfl, HBz⟩
          go_wp2_with fail
          go_ret
          exact ⟨rfl, (HBR.out).trans (HBz.out.mono (HBR.out).size)⟩
    · obtain rfl : F = 3 := by rw [hF, if_neg (fun h => c2 h.2)]
      clear hF
      go_wp2_with (first
        | (go_at_call 16; (with_reducible refine HFW.out.mono ?_); rintro e w2 ⟨rfl, HBf⟩; have H42 := Lib.hid (H41.out.below HBf.out); have HV2 := Lib.hid (HV1.out.below HBf.out); have HB2 := Lib.hid (HB1.out.trans (HBf.out.mono HB1.out.size)); have a20 := H42.out.c0; have a21 := H42.out.c1; have a22 := H42.out.c2; have a23 := H42.out.c3)
        | (go_at_call 27; (with_reducible refine (HMA.out _ HV2.out).mono ?_); rintro e wa ⟨rfl, HBq⟩; have H4A := Lib.hid (H42.out.below HBq.out); have HVA := Lib.hid (HV2.out.below HBq.out); have HBA := Lib.hid (HB2.out.trans (HBq.out.mono HB2.out.size)); have aA0 := H4A.out.c0; have aA1 := H4A.out.c1; have aA2 := H4A.out.c2; have aA3 := H4A.out.c3)
        | (go_at_call 21; (with_reducible refine (HCO.out _ HVA.out).mono ?_); rintro e wb ⟨rfl, HBq⟩; have H4B := Lib.hid (H4A.out.below HBq.out); have HVB := Lib.hid (HVA.out.below HBq.out); have HBB := Lib.hid (HBA.out.trans (HBq.out.mono HBA.out.size)); have aB0 := H4B.out.c0; have aB1 := H4B.out.c1; have aB2 := H4B.out.c2; have aB3 := H4B.out.c3)
        | (go_at_call 29; (with_reducible refine (HBE.out _ HVB.out).mono ?_); rintro e wc ⟨rfl, HBq⟩; have H4C := Lib.hid (H4B.out.below HBq.out); have HVC := Lib.hid (HVB.out.below HBq.out); have HBC := Lib.hid (HBB.out.trans (HBq.out.mono HBB.out.size)); have aC0 := H4C.out.c0; have aC1 := H4C.out.c1; have aC2 := H4C.out.c2; have aC3 := H4C.out.c3)
        | fail)
      go_loopw [15, 16, 17] (fun sA sB sC wr => ∃ c a b : Nat, c ≤ al.size ∧ sA = .int .i64 a ∧ sB = .int .i64 b ∧ sC = .int .i64 c ∧ Hid (a = sumP s t (fun _ => true) i c) ∧ Hid (b = sumP s t P i c) ∧ Hid (B4 w.heap.size (.string al) (.int .i64 len) (.slice bo bm bc) (.bool ck) wr) ∧ Hid (IsSs wr (.slice bo bm bc) s.bl) ∧ Hid (Below w.heap.size w wr)) (fun _ _ sC _ => al.size - (intOf sC).toNat)
      case atStart => exact ⟨0, 0, 0, Nat.zero_le _, rfl, rfl, rfl, (sumP_zero _ _ _ _).symm, (sumP_zero _ _ _ _).symm, H4C, HVC, HBC⟩
      case round =>
        obtain ⟨c, a, b, hcl, rfl, rfl, rfl, HA, HB, H4R, HVR, HBR⟩ := hrel
        have c0 := H4R.out.c0; have c1 := H4R.out.c1; have c2 := H4R.out.c2; have c3 := H4R.out.c3
        by_cases q : c < al.size
        · have q0 : (c : Int) < (al.size : Int) := by omega
          have hcs : c < s.al.size := by rw [← HAL.out]; exact q
          obtain ⟨cc, hcc⟩ : ∃ cc, cc = c + 1 := ⟨_, rfl⟩
          have hw : IntKind.i64.wrap ((c : Int) + 1) = (cc : Int) := by have := HAL36.out; rw [IntWalk.i64_in _ (by omega)]; omega
          have hs2 : ∀ W, (Instr.slice 9 (.string al) (some (.int .i64 (c : Int))) (some (.int .i64 (cc : Int))) none).run Try.prog W = .ok (.string (al.extract c cc)) W := fun W => slice_in (by omega) (by omega) W
          obtain ⟨p, hp⟩ : ∃ p, p = t.extract 0 i ++ al.extract c cc ++ t.extract i1 t.size := ⟨_, rfl⟩
          have hpT : p = partT t s.al i c := by rw [hp, hcc, HAL.out, HI1.out]; rfl
          have hpm : IsMask s p := by rw [hpT]; exact part_mask HVV.out HTT.out HII.out hcs
          have hl1 : (t.extract 0 i).size ≤ 100 := by rw [ByteArray.size_extract]; have := HSZ.out; omega
          have hl2 : (al.extract c cc).size ≤ 36 := by rw [ByteArray.size_extract]; have := HAL36.out; omega
          have hl3 : (t.extract i1 t.size).size ≤ 100 := by rw [ByteArray.size_extract]; have := HSZ.out; omega
          have ha1 : ∀ W : World, (Op.stringOp .add (t.extract 0 i) (al.extract c cc)).run Try.prog W = .ok (.string (t.extract 0 i ++ al.extract c cc)) W := fun W => run_string_add_sum W _ _ (by omega)
          have ha2 : ∀ W : World, (Op.stringOp .add (t.extract 0 i ++ al.extract c cc) (t.extract i1 t.size)).run Try.prog W = .ok (.string p) W := fun W => by rw [run_string_add_sum W _ _ (by rw [ByteArray.size_append]; omega), hp]
          obtain ⟨k, hk⟩ : ∃ k, k = (wordsM s p).length := ⟨_, rfl⟩
          obtain ⟨j, hj⟩ : ∃ j, j = (wordsM s p).countP P := ⟨_, rfl⟩
          have hsA := sumP_succ (fun _ => true) HVV.out HTT.out HII.out H63.out.2 hcs
          have hsB := sumP_succ P HVV.out HTT.out HII.out H63.out.2 hcs
          have hlA := sumP_le s t (fun _ => true) i (c + 1)
          have hlB := sumP_le s t P i (c + 1)
          rw [← hpT, ← HA.out, List.countP_true, ← hk] at hsA
          rw [← hpT, ← HB.out, ← hj] at hsB
          rw [← HNN.out] at hlA hlB
          obtain ⟨a1, hea1⟩ : ∃ a1, a1 = sumP s t (fun _ => true) i (c + 1) := ⟨_, rfl⟩
          obtain ⟨b1, heb1⟩ : ∃ b1, b1 = sumP s t P i (c + 1) := ⟨_, rfl⟩
          rw [← hea1] at hsA hlA
          rw [← heb1] at hsB hlB
          have hwa : IntKind.i64.wrap ((a : Int) + (k : Int)) = (a1 : Int) := by have := HNT.out; have := HT40.out; rw [IntWalk.i64_in _ (by omega)]; omega
          have hwb : IntKind.i64.wrap ((b : Int) + (j : Int)) = (b1 : Int) := by have := HNT.out; have := HT40.out; rw [IntWalk.i64_in _ (by omega)]; omega
          rw [← hcc] at hea1 heb1
          have HEA := Lib.hid hea1
          have HEB := Lib.hid heb1
          have HMP : Hid (∀ (W : World), IsSs W (.slice bo bm bc) s.bl → Calls Try.prog 27 #[.agg #[.string al, .int .i64 len, .slice bo bm bc, .bool ck], .string p] W fun e w' => e = .returned (.tuple #[.int .i64 (k : Int), .int .i64 0]) ∧ Hid (Below W.heap.size W w')) := fun W h => by rw [← HeS.out, hk]; exact Matches_yes h HVV.out hpm
          have HBP : Hid (∀ (W : World), IsSs W (.slice bo bm bc) s.bl → Calls Try.prog 29 #[.agg #[.string al, .int .i64 len, .slice bo bm bc, .bool ck], .string p, .int .i64 M] W fun e w' => e = .returned (.tuple #[.int .i64 (j : Int), .int .i64 3]) ∧ Hid (Below W.heap.size W w')) := fun W h => by rw [← HeS.out, hj]; exact HPP.out p hpm h
          have hm1 : al.size - cc < al.size - c := by omega
          have hcl1 : cc ≤ al.size := by omega
          clear hcs hcc hp hpT hpm hl1 hl2 hl3 hk hj hsA hsB hlA hlB hea1 heb1
          go_upto_region 14 with fail
          go_quiet (fail)
          rename_i nq
          have H4S := Lib.hid (H4R.out.below (below_dr wr nq))
          have HVS := Lib.hid (HVR.out.below (below_dr wr nq))
          have HBS := Lib.hid (HBR.out.trans ((below_dr wr nq).mono HBR.out.size))
          clear c0 c1 c2 c3
          generalize World.drewN wr nq = ws at *
          have c0 := H4S.out.c0; have c1 := H4S.out.c1; have c2 := H4S.out.c2; have c3 := H4S.out.c3
          go_wp2_with (first
            | (go_at_call 27; (with_reducible refine (HMP.out _ HVS.out).mono ?_); rintro e wd ⟨rfl, HBq⟩; have H4D := Lib.hid (H4S.out.below HBq.out); have HVD := Lib.hid (HVS.out.below HBq.out); have HBD := Lib.hid (HBS.out.trans (HBq.out.mono HBS.out.size)); have aD0 := H4D.out.c0; have aD1 := H4D.out.c1; have aD2 := H4D.out.c2; have aD3 := H4D.out.c3)
            | (go_at_call 29; (with_reducible refine (HBP.out _ HVD.out).mono ?_); rintro e we ⟨rfl, HBq⟩; have H4E := Lib.hid (H4D.out.below HBq.out); have HVE := Lib.hid (HVD.out.below HBq.out); have HBE := Lib.hid (HBD.out.trans (HBq.out.mono HBD.out.size)); have aE0 := H4E.out.c0; have aE1 := H4E.out.c1; have aE2 := H4E.out.c2; have aE3 := H4E.out.c3)
            | fail)
          go_roundw
          case rel => exact ⟨cc, a1, b1, hcl1, by go_num, by go_num, by go_num, HEA, HEB, H4E, HVE, HBE⟩
          case measure => simp [intOf]; omega
        · obtain rfl : c = al.size := by omega
          have q0 : ¬ (al.size : Int) < (al.size : Int) := by omega
          obtain rfl : a = N := by
            rw [HA.out, HNN.out, HAL.out, sumP_all _ HVV.out HTT.out HII.out, List.countP_true]
          obtain rfl : b = B := by
            rw [HB.out, HBQ.out, HAL.out, sumP_all _ HVV.out HTT.out HII.out]
          go_wp2_with fail
          refine (HAW.out _).mono ?_
          rintro e wz ⟨rfl, HBz⟩
          go_wp2_with fail
          go_ret
          exact ⟨rfl, (HBR.out).trans (HBz.out.mono (HBR.out).size)⟩
  · obtain rfl : F = 3 := by rw [hF, if_neg (fun h => c1 h.1)]
    clear hF
    go_wp2_with (first
      | (go_at_call 16; (with_reducible refine HFW.out.mono ?_); rintro e w2 ⟨rfl, HBf⟩; have H42 := Lib.hid (H41.out.below HBf.out); have HV2 := Lib.hid (HV1.out.below HBf.out); have HB2 := Lib.hid (HB1.out.trans (HBf.out.mono HB1.out.size)); have a20 := H42.out.c0; have a21 := H42.out.c1; have a22 := H42.out.c2; have a23 := H42.out.c3)
      | (go_at_call 27; (with_reducible refine (HMA.out _ HV2.out).mono ?_); rintro e wa ⟨rfl, HBq⟩; have H4A := Lib.hid (H42.out.below HBq.out); have HVA := Lib.hid (HV2.out.below HBq.out); have HBA := Lib.hid (HB2.out.trans (HBq.out.mono HB2.out.size)); have aA0 := H4A.out.c0; have aA1 := H4A.out.c1; have aA2 := H4A.out.c2; have aA3 := H4A.out.c3)
      | (go_at_call 21; (with_reducible refine (HCO.out _ HVA.out).mono ?_); rintro e wb ⟨rfl, HBq⟩; have H4B := Lib.hid (H4A.out.below HBq.out); have HVB := Lib.hid (HVA.out.below HBq.out); have HBB := Lib.hid (HBA.out.trans (HBq.out.mono HBA.out.size)); have aB0 := H4B.out.c0; have aB1 := H4B.out.c1; have aB2 := H4B.out.c2; have aB3 := H4B.out.c3)
      | (go_at_call 29; (with_reducible refine (HBE.out _ HVB.out).mono ?_); rintro e wc ⟨rfl, HBq⟩; have H4C := Lib.hid (H4B.out.below HBq.out); have HVC := Lib.hid (HVB.out.below HBq.out); have HBC := Lib.hid (HBB.out.trans (HBq.out.mono HBB.out.size)); have aC0 := H4C.out.c0; have aC1 := H4C.out.c1; have aC2 := H4C.out.c2; have aC3 := H4C.out.c3)
      | fail)
    go_loopw [15, 16, 17] (fun sA sB sC wr => ∃ c a b : Nat, c ≤ al.size ∧ sA = .int .i64 a ∧ sB = .int .i64 b ∧ sC = .int .i64 c ∧ Hid (a = sumP s t (fun _ => true) i c) ∧ Hid (b = sumP s t P i c) ∧ Hid (B4 w.heap.size (.string al) (.int .i64 len) (.slice bo bm bc) (.bool ck) wr) ∧ Hid (IsSs wr (.slice bo bm bc) s.bl) ∧ Hid (Below w.heap.size w wr)) (fun _ _ sC _ => al.size - (intOf sC).toNat)
    case atStart => exact ⟨0, 0, 0, Nat.zero_le _, rfl, rfl, rfl, (sumP_zero _ _ _ _).symm, (sumP_zero _ _ _ _).symm, H4C, HVC, HBC⟩
    case round =>
      obtain ⟨c, a, b, hcl, rfl, rfl, rfl, HA, HB, H4R, HVR, HBR⟩ := hrel
      have c0 := H4R.out.c0; have c1 := H4R.out.c1; have c2 := H4R.out.c2; have c3 := H4R.out.c3
      by_cases q : c < al.size
      · have q0 : (c : Int) < (al.size : Int) := by omega
        have hcs : c < s.al.size := by rw [← HAL.out]; exact q
        obtain ⟨cc, hcc⟩ : ∃ cc, cc = c + 1 := ⟨_, rfl⟩
        have hw : IntKind.i64.wrap ((c : Int) + 1) = (cc : Int) := by have := HAL36.out; rw [IntWalk.i64_in _ (by omega)]; omega
        have hs2 : ∀ W, (Instr.slice 9 (.string al) (some (.int .i64 (c : Int))) (some (.int .i64 (cc : Int))) none).run Try.prog W = .ok (.string (al.extract c cc)) W := fun W => slice_in (by omega) (by omega) W
        obtain ⟨p, hp⟩ : ∃ p, p = t.extract 0 i ++ al.extract c cc ++ t.extract i1 t.size := ⟨_, rfl⟩
        have hpT : p = partT t s.al i c := by rw [hp, hcc, HAL.out, HI1.out]; rfl
        have hpm : IsMask s p := by rw [hpT]; exact part_mask HVV.out HTT.out HII.out hcs
        have hl1 : (t.extract 0 i).size ≤ 100 := by rw [ByteArray.size_extract]; have := HSZ.out; omega
        have hl2 : (al.extract c cc).size ≤ 36 := by rw [ByteArray.size_extract]; have := HAL36.out; omega
        have hl3 : (t.extract i1 t.size).size ≤ 100 := by rw [ByteArray.size_extract]; have := HSZ.out; omega
        have ha1 : ∀ W : World, (Op.stringOp .add (t.extract 0 i) (al.extract c cc)).run Try.prog W = .ok (.string (t.extract 0 i ++ al.extract c cc)) W := fun W => run_string_add_sum W _ _ (by omega)
        have ha2 : ∀ W : World, (Op.stringOp .add (t.extract 0 i ++ al.extract c cc) (t.extract i1 t.size)).run Try.prog W = .ok (.string p) W := fun W => by rw [run_string_add_sum W _ _ (by rw [ByteArray.size_append]; omega), hp]
        obtain ⟨k, hk⟩ : ∃ k, k = (wordsM s p).length := ⟨_, rfl⟩
        obtain ⟨j, hj⟩ : ∃ j, j = (wordsM s p).countP P := ⟨_, rfl⟩
        have hsA := sumP_succ (fun _ => true) HVV.out HTT.out HII.out H63.out.2 hcs
        have hsB := sumP_succ P HVV.out HTT.out HII.out H63.out.2 hcs
        have hlA := sumP_le s t (fun _ => true) i (c + 1)
        have hlB := sumP_le s t P i (c + 1)
        rw [← hpT, ← HA.out, List.countP_true, ← hk] at hsA
        rw [← hpT, ← HB.out, ← hj] at hsB
        rw [← HNN.out] at hlA hlB
        obtain ⟨a1, hea1⟩ : ∃ a1, a1 = sumP s t (fun _ => true) i (c + 1) := ⟨_, rfl⟩
        obtain ⟨b1, heb1⟩ : ∃ b1, b1 = sumP s t P i (c + 1) := ⟨_, rfl⟩
        rw [← hea1] at hsA hlA
        rw [← heb1] at hsB hlB
        have hwa : IntKind.i64.wrap ((a : Int) + (k : Int)) = (a1 : Int) := by have := HNT.out; have := HT40.out; rw [IntWalk.i64_in _ (by omega)]; omega
        have hwb : IntKind.i64.wrap ((b : Int) + (j : Int)) = (b1 : Int) := by have := HNT.out; have := HT40.out; rw [IntWalk.i64_in _ (by omega)]; omega
        rw [← hcc] at hea1 heb1
        have HEA := Lib.hid hea1
        have HEB := Lib.hid heb1
        have HMP : Hid (∀ (W : World), IsSs W (.slice bo bm bc) s.bl → Calls Try.prog 27 #[.agg #[.string al, .int .i64 len, .slice bo bm bc, .bool ck], .string p] W fun e w' => e = .returned (.tuple #[.int .i64 (k : Int), .int .i64 0]) ∧ Hid (Below W.heap.size W w')) := fun W h => by rw [← HeS.out, hk]; exact Matches_yes h HVV.out hpm
        have HBP : Hid (∀ (W : World), IsSs W (.slice bo bm bc) s.bl → Calls Try.prog 29 #[.agg #[.string al, .int .i64 len, .slice bo bm bc, .bool ck], .string p, .int .i64 M] W fun e w' => e = .returned (.tuple #[.int .i64 (j : Int), .int .i64 3]) ∧ Hid (Below W.heap.size W w')) := fun W h => by rw [← HeS.out, hj]; exact HPP.out p hpm h
        have hm1 : al.size - cc < al.size - c := by omega
        have hcl1 : cc ≤ al.size := by omega
        clear hcs hcc hp hpT hpm hl1 hl2 hl3 hk hj hsA hsB hlA hlB hea1 heb1
        go_upto_region 14 with fail
        go_quiet (fail)
        rename_i nq
        have H4S := Lib.hid (H4R.out.below (below_dr wr nq))
        have HVS := Lib.hid (HVR.out.below (below_dr wr nq))
        have HBS := Lib.hid (HBR.out.trans ((below_dr wr nq).mono HBR.out.size))
        clear c0 c1 c2 c3
        generalize World.drewN wr nq = ws at *
        have c0 := H4S.out.c0; have c1 := H4S.out.c1; have c2 := H4S.out.c2; have c3 := H4S.out.c3
        go_wp2_with (first
          | (go_at_call 27; (with_reducible refine (HMP.out _ HVS.out).mono ?_); rintro e wd ⟨rfl, HBq⟩; have H4D := Lib.hid (H4S.out.below HBq.out); have HVD := Lib.hid (HVS.out.below HBq.out); have HBD := Lib.hid (HBS.out.trans (HBq.out.mono HBS.out.size)); have aD0 := H4D.out.c0; have aD1 := H4D.out.c1; have aD2 := H4D.out.c2; have aD3 := H4D.out.c3)
          | (go_at_call 29; (with_reducible refine (HBP.out _ HVD.out).mono ?_); rintro e we ⟨rfl, HBq⟩; have H4E := Lib.hid (H4D.out.below HBq.out); have HVE := Lib.hid (HVD.out.below HBq.out); have HBE := Lib.hid (HBD.out.trans (HBq.out.mono HBD.out.size)); have aE0 := H4E.out.c0; have aE1 := H4E.out.c1; have aE2 := H4E.out.c2; have aE3 := H4E.out.c3)
          | fail)
        go_roundw
        case rel => exact ⟨cc, a1, b1, hcl1, by go_num, by go_num, by go_num, HEA, HEB, H4E, HVE, HBE⟩
        case measure => simp [intOf]; omega
      · obtain rfl : c = al.size := by omega
        have q0 : ¬ (al.size : Int) < (al.size : Int) := by omega
        obtain rfl : a = N := by
          rw [HA.out, HNN.out, HAL.out, sumP_all _ HVV.out HTT.out HII.out, List.countP_true]
        obtain rfl : b = B := by
          rw [HB.out, HBQ.out, HAL.out, sumP_all _ HVV.out HTT.out HII.out]
        go_wp2_with fail
        refine (HAW.out _).mono ?_
        rintro e wz ⟨rfl, HBz⟩
        go_wp2_with fail
        go_ret
        exact ⟨rfl, (HBR.out).trans (HBz.out.mono (HBR.out).size)⟩
end Go.Proofs.Ytgblfobomiiofaa
