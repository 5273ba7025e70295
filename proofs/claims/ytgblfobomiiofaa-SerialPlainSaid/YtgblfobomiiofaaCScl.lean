/- A mask of question marks; a mask without any. -/
import Derived.Test.YtgblfobomiiofaaTSerC
namespace Go.Proofs.Ytgblfobomiiofaa
open Go Go.RowKit Go.Shelf Gw Go.Maps

/-- i question marks -/
def qs (i : Nat) : ByteArray := ⟨(List.replicate i (63 : UInt8)).toArray⟩
theorem qs_size (i : Nat) : (qs i).size = i := by
  show (List.replicate i (63 : UInt8)).toArray.size = i
  simp
theorem qs_succ (i : Nat) : qs i ++ ⟨#[63]⟩ = qs (i + 1) := by
  refine bys_inj ?_
  rw [bys_append]
  show List.replicate i 63 ++ [63] = List.replicate (i + 1) 63
  rw [List.replicate_succ']
theorem qs_mask (al : ByteArray) (i : Nat) : maskN al (qs i) = List.replicate i none := by
  unfold maskN
  show (List.replicate i (63 : UInt8)).map _ = _
  rw [List.map_replicate]
  rfl
theorem qs_is (s : Sch) : IsMask s (qs (szN (nS s) s.ck)) := by
  refine ⟨qs_size _, fun b hb => ?_⟩
  have h : b ∈ List.replicate (szN (nS s) s.ck) (63 : UInt8) := hb
  exact .inr (List.eq_of_mem_replicate h)
theorem fitsW_free : ∀ (u : List Nat), fitsW (List.replicate u.length none) u = true
  | [] => rfl
  | v :: u => by
    have h1 : fitsW (List.replicate (v :: u).length none) (v :: u) = (fitsM none v && fitsW (List.replicate u.length none) u) := rfl
    rw [h1, fitsW_free u]
    rfl
theorem getD_none (a n : Nat) : (List.replicate a (none : Option Nat)).getD n none = none := by
  rw [List.getD_eq_getElem?_getD, List.getElem?_replicate]
  split <;> rfl
theorem qs_words (s : Sch) : wordsM s (qs (szN (nS s) s.ck)) = wordsS s := by
  rw [wordsM_filter (qs_is s), List.filter_eq_self]
  intro u hu
  have hl := (wordsS_mem hu).1
  unfold passM lastM
  rw [qs_mask, List.take_replicate, Nat.min_eq_left (le_szN _ _), ← hl, fitsW_free]
  have e : (if s.ck then (List.replicate (szN u.length s.ck) (none : Option Nat)).getD u.length none else none) = none := by
    split
    · exact getD_none _ _
    · rfl
  rw [e]
  unfold finL
  simp
section
variable {s : Sch} {t : ByteArray}
/-- a text over the alphabet is a mask -/
theorem syn_mask (h : t.size = szN (nS s) s.ck ∧ OfA t s.al) : IsMask s t := ⟨h.1, fun b hb => .inl (h.2 b hb)⟩
theorem syn_at (hV : ValidS s) (h : OfA t s.al) {i : Nat} (hi : i < t.size) : (maskN s.al t)[i]'(by rw [maskN_len]; exact hi) = some ((wordN s.al t)[i]'(by rw [wordN_len]; exact hi)) := by
  have e3 : (maskN s.al t)[i]'(by rw [maskN_len]; exact hi) = (fun b => if b = 63 then none else some ((bys s.al).idxOf b)) ((bys t)[i]'(by rw [bys_len]; exact hi)) := List.getElem_map _
  have e4 : (wordN s.al t)[i]'(by rw [wordN_len]; exact hi) = (fun b => (bys s.al).idxOf b) ((bys t)[i]'(by rw [bys_len]; exact hi)) := List.getElem_map _
  rw [e3, e4]
  have hb : (bys t)[i]'(by rw [bys_len]; exact hi) ∈ bys s.al := h _ (List.getElem_mem _)
  have hne : (bys t)[i]'(by rw [bys_len]; exact hi) ≠ 63 := fun e => by
    rw [e] at hb
    obtain ⟨j, hj, e2⟩ := mem_bys.1 hb
    have h5 := (hV.1.1.2.2 j hj).1
    rw [e2] at h5
    exact absurd h5 (by decide)
  show (if _ = 63 then none else some _) = some _
  rw [if_neg hne]
/-- what such a mask lets through is its own body -/
theorem syn_pass (hV : ValidS s) (h : t.size = szN (nS s) s.ck ∧ OfA t s.al) {u : List Nat} (hu : u.length = nS s) (hp : passM s t u = true) : serU s.al s.ck u = wordN s.al t := by
  refine List.ext_getElem (by rw [serU_len _ _ _ hu, wordN_len, h.1]) (fun i h1 h2 => ?_)
  have hi : i < t.size := by rw [wordN_len] at h2; exact h2
  have h3 := pass_at (syn_mask h) hu hp hi (syn_at hV h.2 hi)
  simpa [h1] using h3
theorem syn_body (hV : ValidS s) (h : t.size = szN (nS s) s.ck ∧ OfA t s.al) {u : List Nat} (hu : u.length = nS s) (hp : passM s t u = true) : u = (wordN s.al t).take (nS s) ∧ endsB s.al.size (nS s) s.ck (wordN s.al t) = true := by
  have h1 := syn_pass hV h hu hp
  exact ⟨by rw [← h1, serU_take _ _ hu], by rw [← h1]; exact serU_ends _ _ _ hu⟩
/-- and its own body it lets through -/
theorem pass_syn (hV : ValidS s) (h : t.size = szN (nS s) s.ck ∧ OfA t s.al) (he : endsB s.al.size (nS s) s.ck (wordN s.al t) = true) : passM s t ((wordN s.al t).take (nS s)) = true := by
  unfold passM
  have hfit : ∀ (w : List Nat), fitsW (w.map some) w = true := fun w => by
    induction w with
    | nil => rfl
    | cons v w ih =>
      have h1 : fitsW ((v :: w).map some) (v :: w) = (fitsM (some v) v && fitsW (w.map some) w) := rfl
      rw [h1, ih]
      unfold fitsM
      simp
  have hm : maskN s.al t = (wordN s.al t).map some := List.ext_getElem (by rw [maskN_len, List.length_map, wordN_len]) (fun i h1 h2 => by
    rw [maskN_len] at h1
    rw [syn_at hV h.2 h1, List.getElem_map])
  rw [hm, ← List.map_take, hfit, Bool.true_and]
  unfold lastM
  cases hck : s.ck with
  | false => unfold finL; simp
  | true =>
    have hl : nS s < (wordN s.al t).length := by
      rw [wordN_len, h.1, hck]
      unfold szN
      simp
    unfold endsB at he
    rw [hck] at he
    unfold finL
    rw [if_pos rfl, hm]
    simp [hl] at he ⊢
    exact he
theorem syn_word (hV : ValidS s) (h : t.size = szN (nS s) s.ck ∧ OfA t s.al) (ha : AllowW (bansS s) ((wordN s.al t).take (nS s))) : (wordN s.al t).take (nS s) ∈ wordsS s := by
  have hlt : ∀ v ∈ (wordN s.al t).take (nS s), v < s.al.size := fun v hv => wordN_lt h.2 v (List.mem_of_mem_take hv)
  have hlen : ((wordN s.al t).take (nS s)).length = nS s := by
    rw [List.length_take, wordN_len, h.1]
    have := le_szN (nS s) s.ck
    omega
  unfold wordsS wordsAt
  rw [mem_words]
  refine ⟨?_, hlt, ?_, ?_⟩
  · unfold freeS
    rw [List.drop_zero, List.take_replicate, Nat.min_eq_left (le_szN _ _)]
    have h3 := fitsW_free ((wordN s.al t).take (nS s))
    rw [hlen] at h3
    exact h3
  · rw [allow_fS hV.1 hlt]
    exact decide_eq_true ha
  · unfold finL
    simp
theorem word_allow (hV : ValidS s) {u : List Nat} (hu : u ∈ wordsS s) : AllowW (bansS s) u := by
  obtain ⟨_, h2, h3⟩ := wordsS_mem hu
  rw [allow_fS hV.1 h2] at h3
  exact of_decide_eq_true h3
/-- a text that is no serial, as a mask, lets nothing through -/
theorem syn_none (hV : ValidS s) (h : t.size = szN (nS s) s.ck ∧ OfA t s.al) (hn : ¬ (AllowW (bansS s) ((wordN s.al t).take (nS s)) ∧ endsB s.al.size (nS s) s.ck (wordN s.al t) = true)) : wordsM s t = [] := by
  rw [List.eq_nil_iff_forall_not_mem]
  intro u hu
  obtain ⟨h1, h2⟩ := wordsM_mem (syn_mask h) hu
  obtain ⟨h3, h4⟩ := syn_body hV h (wordsS_mem h1).1 h2
  exact hn ⟨by rw [← h3]; exact word_allow hV h1, h4⟩
/-- a serial, as a mask, lets itself through alone -/
theorem syn_one (hV : ValidS s) (h : t.size = szN (nS s) s.ck ∧ OfA t s.al) (ha : AllowW (bansS s) ((wordN s.al t).take (nS s))) (he : endsB s.al.size (nS s) s.ck (wordN s.al t) = true) : wordsM s t = [(wordN s.al t).take (nS s)] := by
  have hm : (wordN s.al t).take (nS s) ∈ wordsM s t := by
    rw [wordsM_filter (syn_mask h), List.mem_filter]
    exact ⟨syn_word hV h ha, pass_syn hV h he⟩
  have hall : ∀ u ∈ wordsM s t, u = (wordN s.al t).take (nS s) := fun u hu => by
    obtain ⟨h1, h2⟩ := wordsM_mem (syn_mask h) hu
    exact (syn_body hV h (wordsS_mem h1).1 h2).1
  have hs := wordsM_sorted s t
  match hl : wordsM s t with
  | [] => rw [hl] at hm; simp at hm
  | [a] => rw [hl] at hall; rw [hall a (by simp)]
  | a :: b :: l =>
    rw [hl] at hs hall
    have h3 := (List.pairwise_cons.1 hs).1 b (by simp)
    rw [hall a (by simp), hall b (by simp)] at h3
    exact absurd h3 (ltW_irrefl _)
end
section
variable {s : Sch} {bv : Value} {t : ByteArray} {w : World} (hv : IsSs w bv s.bl) (hV : ValidS s)
include hv hV
theorem Num_syn (h : ¬ (t.size = szN (nS s) s.ck ∧ OfA t s.al)) : Calls Try.prog 25 #[schV s bv, .string t] w fun e w' => e = .returned (.tuple #[.int .i64 0, .int .i64 4]) ∧ Hid (Below w.heap.size w w') := by
  refine (Number_any hv).mono ?_
  rintro e w' ⟨hb, ⟨hn, _⟩ | ⟨_, hn, _⟩ | ⟨_, _, rfl⟩ | ⟨_, h2, _⟩ | ⟨_, h2, _⟩ | ⟨_, h2, _⟩⟩
  · exact absurd hV.1 hn
  · exact absurd hV.2 hn
  · exact ⟨rfl, hb⟩
  · exact absurd h2 h
  · exact absurd h2 h
  · exact absurd h2 h
theorem Num_not (h : t.size = szN (nS s) s.ck ∧ OfA t s.al) (hn : ¬ (AllowW (bansS s) ((wordN s.al t).take (nS s)) ∧ endsB s.al.size (nS s) s.ck (wordN s.al t) = true)) :
    Calls Try.prog 25 #[schV s bv, .string t] w fun e w' => ∃ E : Int, e = .returned (.tuple #[.int .i64 0, .int .i64 E]) ∧ (E == 4) = false ∧ (E != 0) = true ∧ (E = 21 ∨ E = 22) ∧ Hid (Below w.heap.size w w') := by
  refine (Number_any hv).mono ?_
  rintro e w' ⟨hb, ⟨hn', _⟩ | ⟨_, hn', _⟩ | ⟨_, h2, _⟩ | ⟨_, _, _, rfl⟩ | ⟨_, _, _, _, rfl⟩ | ⟨_, _, h3, h4, _⟩⟩
  · exact absurd hV.1 hn'
  · exact absurd hV.2 hn'
  · exact absurd h h2
  · exact ⟨_, rfl, rfl, rfl, .inl rfl, hb⟩
  · exact ⟨_, rfl, rfl, rfl, .inr rfl, hb⟩
  · exact absurd ⟨h3, h4⟩ hn
theorem Num_ok (h : t.size = szN (nS s) s.ck ∧ OfA t s.al) (ha : AllowW (bansS s) ((wordN s.al t).take (nS s))) (he : endsB s.al.size (nS s) s.ck (wordN s.al t) = true) {n : Nat} (hn : (wordsS s)[n]? = some ((wordN s.al t).take (nS s))) :
    Calls Try.prog 25 #[schV s bv, .string t] w fun e w' => e = .returned (.tuple #[.int .i64 (n : Int), .int .i64 0]) ∧ Hid (Below w.heap.size w w') := by
  refine (Number_any hv).mono ?_
  have hB : bel (wordsS s) ((wordN s.al t).take (nS s)) = n := by
    obtain ⟨hK, e⟩ := List.getElem?_eq_some_iff.1 hn
    have h5 := bel_at (l := wordsS s) (sorted_words _ _ _) hK
    rw [e] at h5
    exact h5
  rintro e w' ⟨hb, ⟨hn', _⟩ | ⟨_, hn', _⟩ | ⟨_, h2, _⟩ | ⟨_, _, h2, _⟩ | ⟨_, _, _, h2, _⟩ | ⟨_, _, h3, h4, rfl⟩⟩
  · exact absurd hV.1 hn'
  · exact absurd hV.2 hn'
  · exact absurd h h2
  · exact absurd ha h2
  · rw [he] at h2; cases h2
  · rw [hB]; exact ⟨rfl, hb⟩
end
end Go.Proofs.Ytgblfobomiiofaa
