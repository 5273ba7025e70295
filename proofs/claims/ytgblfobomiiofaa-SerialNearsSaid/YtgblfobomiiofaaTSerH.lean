/- Contracts and lemmas (several texts merged into one). -/
import Derived.Test.YtgblfobomiiofaaTSerG
namespace Go.Proofs.Ytgblfobomiiofaa
open Go Go.RowKit Go.Shelf Gw Go.Maps

theorem signs_word {al t : ByteArray} (h : OfA t al) : signs al (wordN al t) = bys t := by
  unfold signs wordN
  rw [List.map_map]
  conv => rhs; rw [← List.map_id (bys t)]
  refine List.map_congr_left fun b hb => ?_
  have hl := List.idxOf_lt_length_of_mem (h b hb)
  show (if h : (bys al).idxOf b < al.size then al[(bys al).idxOf b] else 0) = b
  rw [dif_pos (by rw [bys_len] at hl; exact hl)]
  exact List.getElem_idxOf hl
theorem signs_set {al : ByteArray} (u : List Nat) (j : Nat) {v : Nat} (hv : v < al.size) : signs al (u.set j v) = (signs al u).set j al[v] := by
  unfold signs
  rw [List.map_set, dif_pos hv]
/-- a word that ends well is a serial's -/
theorem serU_back {al : ByteArray} {n : Nat} {ck : Bool} {x : List Nat} (hl : x.length = szN n ck) (he : endsB al.size n ck x = true) : serU al ck (x.take n) = x := by
  unfold serU
  unfold endsB at he
  cases ck with
  | false =>
    have hl2 : x.length = n := hl
    show x.take n = x
    rw [← hl2, List.take_length]
  | true =>
    have hl2 : x.length = n + 1 := hl
    have f1 : x.getD n 0 = lcN al.size (chk (ncN al.size) al.size (x.take n)) := by simpa using he
    show x.take n ++ [lcN al.size (chk (ncN al.size) al.size (x.take n))] = x
    rw [← f1]
    have h3 : x.getD n 0 = x[n] := by rw [List.getD_eq_getElem?_getD, List.getElem?_eq_getElem (by omega)]; rfl
    rw [h3, ← List.take_succ_eq_append_getElem (by omega), ← hl2, List.take_length]
theorem ltW_of_take : ∀ {u v : List Nat} (n : Nat), u.length = v.length → ltW (u.take n) (v.take n) → ltW u v
  | [], [], n, _, h => by
    rw [List.take_nil] at h
    exact h
  | [], _ :: _, _, hl, _ => by simp at hl
  | _ :: _, [], _, hl, _ => by simp at hl
  | a :: u, b :: v, 0, _, h => by
    exact absurd h (by simp [ltW])
  | a :: u, b :: v, n + 1, hl, h => by
    have g : a < b ∨ (a = b ∧ ltW (u.take n) (v.take n)) := h
    show a < b ∨ (a = b ∧ ltW u v)
    rcases g with g | ⟨rfl, g⟩
    · exact .inl g
    · exact .inr ⟨rfl, ltW_of_take n (by simpa using hl) g⟩
theorem take_lt {al : ByteArray} {n : Nat} {ck : Bool} {x y : List Nat} (h1 : x.length = szN n ck) (h2 : y.length = szN n ck) (e1 : endsB al.size n ck x = true) (e2 : endsB al.size n ck y = true) (h : ltW x y) : ltW (x.take n) (y.take n) := by
  rcases ltW_or (x.take n) (y.take n) with g | g | g
  · exact g
  · have hxy : x = y := by rw [← serU_back h1 e1, ← serU_back h2 e2, g]
    rw [hxy] at h
    exact absurd h (ltW_irrefl _)
  · exact absurd (ltW_trans h (ltW_of_take n (by rw [h1, h2]) g)) (ltW_irrefl _)
theorem nbI_nodup (P : List Nat → Bool) (u : List Nat) (A : Nat) : (nbI P u A u.length).Nodup := by
  unfold nbI
  refine List.pairwise_flatMap.2 ⟨fun j hj => ?_, ?_⟩
  · have hj2 : j < u.length := List.mem_range.1 hj
    unfold nbV
    refine List.pairwise_map.2 ?_
    refine List.Pairwise.imp ?_ (List.Pairwise.filter _ (List.nodup_range (n := A)))
    intro a b hab e
    have h3 := congrArg (fun l => l.getD j 0) e
    simp [hj2] at h3
    exact hab h3
  · refine List.Pairwise.imp_of_mem ?_ (List.pairwise_lt_range (n := u.length))
    intro j k hj hk hjk x hx y hy e
    have hj2 : j < u.length := List.mem_range.1 hj
    unfold nbV at hx hy
    obtain ⟨a, ha, rfl⟩ := List.mem_map.1 hx
    obtain ⟨b, _, rfl⟩ := List.mem_map.1 hy
    have h4 := (List.mem_filter.1 ha).2
    rw [Bool.and_eq_true] at h4
    have h5 : a ≠ u.getD j 0 := of_decide_eq_true h4.1
    have h3 := congrArg (fun l => l.getD j 0) e
    have hne : k ≠ j := by omega
    simp [hj2] at h3
    rw [List.getElem_set_ne hne] at h3
    exact h5 (by simpa [hj2] using h3)
theorem count_one (j : Nat) : ∀ n, (List.range n).countP (fun k => decide (k = j)) = if j < n then 1 else 0
  | 0 => rfl
  | n + 1 => by
    rw [List.range_succ, List.countP_append, count_one j n, List.countP_singleton]
    simp only [decide_eq_true_eq]
    split <;> split <;> split <;> omega
/-- a text with a sign changed is apart from it at one position -/
theorem apT_part {t al : ByteArray} {j v : Nat} (hj : j < t.size) (hv : v < al.size) (hne : al[v] ≠ t[j]) : apT (partT t al j v) t (partT t al j v).size = 1 := by
  rw [partT_size hj hv]
  unfold apT
  rw [partT_bys hj hv]
  have hl := bys_len t
  have hcong : ∀ k ∈ List.range t.size, (fun k => decide (((bys t).set j al[v]).getD k 0 ≠ (bys t).getD k 0)) k = true ↔ (fun k => decide (k = j)) k = true := fun k hk => by
    have hk2 : k < t.size := List.mem_range.1 hk
    show decide _ = true ↔ decide _ = true
    rw [decide_eq_true_iff, decide_eq_true_iff]
    constructor
    · intro h
      rcases Nat.decEq k j with c | c
      · exfalso
        apply h
        rw [List.getD_eq_getElem?_getD, List.getD_eq_getElem?_getD, List.getElem?_set_ne (fun e => c e.symm)]
      · exact c
    · rintro rfl e
      have e1 : (bys t).getD k 0 = t[k] := by rw [List.getD_eq_getElem?_getD, List.getElem?_eq_getElem (by omega)]; rfl
      have e2 : ((bys t).set k al[v]).getD k 0 = al[v] := by rw [List.getD_eq_getElem?_getD, List.getElem?_set_self (by omega)]; rfl
      rw [e1, e2] at e
      exact hne e
  rw [List.countP_congr hcong, count_one, if_pos hj]
section
variable {s : Sch} {t : ByteArray} (hV : ValidS s) (h : t.size = szN (nS s) s.ck ∧ OfA t s.al)
include hV h
/-- the bytes of a text and their values -/
theorem syn_ne {j v : Nat} (hj : j < t.size) (hv : v < s.al.size) : s.al[v] = t[j] ↔ v = (wordN s.al t).getD j 0 := by
  have hl : j < (wordN s.al t).length := by rw [wordN_len]; exact hj
  have e3 : (wordN s.al t).getD j 0 = (bys s.al).idxOf t[j] := by
    rw [List.getD_eq_getElem?_getD, List.getElem?_eq_getElem hl]
    exact List.getElem_map _
  rw [e3]
  constructor
  · intro e
    rw [← e, idx_sign hV.1.1 hv]
  · intro e
    have hl := List.idxOf_lt_length_of_mem (h.2 _ (bys_at hj))
    have h5 := List.getElem_idxOf hl
    have h6 : s.al[(bys s.al).idxOf t[j]]'(by rw [bys_len] at hl; exact hl) = t[j] := h5
    subst e
    exact h6
theorem nb_word {x : List Nat} (hx : x ∈ nbS s t) : x.length = szN (nS s) s.ck ∧ (∀ v ∈ x, v < s.al.size) ∧ endsB s.al.size (nS s) s.ck x = true ∧ x.take (nS s) ∈ wordsS s ∧ ∃ j v, ∃ (hj : j < t.size) (hv : v < s.al.size), s.al[v] ≠ t[j] ∧ serB s.al s.ck (x.take (nS s)) = partT t s.al j v := by
  have hu := wordN_lt h.2
  have hlt := nbI_lt hu hx
  obtain ⟨j, v, hj, hv, hxe, hne, hp⟩ := nbI_mem hx
  have hj2 : j < t.size := by rw [wordN_len] at hj; exact hj
  unfold nbP at hp
  rw [Bool.and_eq_true] at hp
  have hxl : x.length = szN (nS s) s.ck := by rw [hlt.1, wordN_len]; exact h.1
  have hpw : wordN s.al (partT t s.al j v) = x := by rw [partT_word hV.1.1 hj2 hv, hxe]
  have hsyn : (partT t s.al j v).size = szN (nS s) s.ck ∧ OfA (partT t s.al j v) s.al := ⟨by rw [partT_size hj2 hv]; exact h.1, partT_of hj2 hv h.2⟩
  have hal : AllowW (bansS s) (x.take (nS s)) := by
    have h4 := allow_fS hV.1 (u := x.take (nS s)) (fun y hy => hlt.2 y (List.mem_of_mem_take hy))
    rw [hp.2] at h4
    exact of_decide_eq_true h4.symm
  refine ⟨hxl, hlt.2, hp.1, ?_, j, v, hj2, hv, fun e => hne ((syn_ne hV h hj2 hv).1 e), ?_⟩
  · have h6 := syn_word hV hsyn (by rw [hpw]; exact hal)
    rw [hpw] at h6
    exact h6
  · refine bys_inj ?_
    rw [serB_signs, serU_back hxl hp.1, bys_signs, ← hpw, signs_word hsyn.2]
/-- which changed texts are serials -/
theorem nb_num {j v : Nat} (hj : j < t.size) (hv : v < s.al.size) : nbP s.al.size (nS s) s.ck (fS s) ((wordN s.al t).set j v) = true ↔ (AllowW (bansS s) ((wordN s.al (partT t s.al j v)).take (nS s)) ∧ endsB s.al.size (nS s) s.ck (wordN s.al (partT t s.al j v)) = true) := by
  rw [partT_word hV.1.1 hj hv]
  have hlt : ∀ y ∈ (wordN s.al t).set j v, y < s.al.size := fun y hy => by
    rcases List.mem_or_eq_of_mem_set hy with h2 | h2
    · exact wordN_lt h.2 y h2
    · rw [h2]; exact hv
  unfold nbP
  rw [Bool.and_eq_true, allow_fS hV.1 (fun y hy => hlt y (List.mem_of_mem_take hy)), decide_eq_true_iff]
  exact And.comm
end
/-- the place of a neighbor -/
def plK (s : Sch) (L : List (List Nat)) (i : Nat) : Nat := bel (wordsS s) ((L.getD i []).take (nS s))
theorem plK_at {s : Sch} {t : ByteArray} (hV : ValidS s) (h : t.size = szN (nS s) s.ck ∧ OfA t s.al) {L : List (List Nat)} (hp : L.Perm (nbS s t)) {i : Nat} (hi : i < L.length) : (wordsS s)[plK s L i]? = some (L[i].take (nS s)) := by
  have hm := (nb_word hV h (hp.mem_iff.1 (List.getElem_mem hi))).2.2.2.1
  obtain ⟨n, hn, e⟩ := List.mem_iff_getElem.1 hm
  have e1 : L.getD i [] = L[i] := by rw [List.getD_eq_getElem?_getD, List.getElem?_eq_getElem hi]; rfl
  have h5 := bel_at (l := wordsS s) (sorted_words _ _ _) hn
  unfold plK
  rw [e1, ← e, h5, List.getElem?_eq_getElem hn]
theorem plK_lt {s : Sch} {t : ByteArray} (hV : ValidS s) (h : t.size = szN (nS s) s.ck ∧ OfA t s.al) {L : List (List Nat)} (hp : L.Perm (nbS s t)) (hs : L.Pairwise fun a b => ¬ ltW b a) {i j : Nat} (hij : i < j) (hj : j < L.length) : plK s L i < plK s L j := by
  have hi : i < L.length := Nat.lt_trans hij hj
  have h1 := nb_word hV h (hp.mem_iff.1 (List.getElem_mem hi))
  have h2 := nb_word hV h (hp.mem_iff.1 (List.getElem_mem hj))
  have hnd : L.Nodup := hp.nodup_iff.2 (nbI_nodup _ _ _)
  have hne : L[i] ≠ L[j] := List.pairwise_iff_getElem.1 hnd i j hi hj hij
  have hge := List.pairwise_iff_getElem.1 hs i j hi hj hij
  have hlt : ltW L[i] L[j] := by
    rcases ltW_or L[i] L[j] with g | g | g
    · exact g
    · exact absurd g hne
    · exact absurd g hge
  exact sorted_idx (sorted_words _ _ _) (plK_at hV h hp hi) (plK_at hV h hp hj) (take_lt h1.1 h2.1 h1.2.2.1 h2.2.2.1 hlt)
section
variable {s : Sch} {bv : Value} {t : ByteArray} {w : World} (hv : IsSs w bv s.bl)
include hv
theorem Near_no (h : ¬ (ValidS s ∧ t.size = szN (nS s) s.ck ∧ OfA t s.al)) : Calls Try.prog 30 #[schV s bv, .string t] w fun e w' => ∃ E : Int, e = .returned (.tuple #[.slice none 0 0, .int .i64 E]) ∧ (E != 0) = true ∧ Hid (Below w.heap.size w w') := by
  refine (Near_all hv).mono ?_
  rintro e w' ⟨hb, ⟨_, rfl⟩ | ⟨_, _, rfl⟩ | ⟨_, _, rfl⟩ | ⟨h1, h2, _⟩⟩
  · exact ⟨_, rfl, rfl, hb⟩
  · exact ⟨_, rfl, rfl, hb⟩
  · exact ⟨_, rfl, rfl, hb⟩
  · exact absurd ⟨h1, h2⟩ h
theorem Near_yes (hV : ValidS s) (h : t.size = szN (nS s) s.ck ∧ OfA t s.al) : Calls Try.prog 30 #[schV s bv, .string t] w fun e w' => ∃ (L : List (List Nat)) (a : Option Addr) (c : Nat), e = .returned (.tuple #[.slice a L.length c, .int .i64 0]) ∧ L.Perm (nbS s t) ∧ (L.Pairwise fun a b => ¬ ltW b a) ∧ IsSs w' (.slice a L.length c) (L.map fun u => serB s.al s.ck (u.take (nS s))) ∧ Hid (Below w.heap.size w w') := by
  refine (Near_all hv).mono ?_
  rintro e w' ⟨hb, ⟨hn, _⟩ | ⟨_, hn, _⟩ | ⟨_, hn, _⟩ | ⟨_, _, L, sv, hp, hq, rfl, hs⟩⟩
  · exact absurd hV.1 hn
  · exact absurd hV.2 hn
  · exact absurd h hn
  · have hs2 := hs
    obtain ⟨a, c, rfl, _⟩ := hs2
    rw [List.length_map] at hs ⊢
    exact ⟨L, a, c, rfl, hp, hq, hs, hb⟩
end
end Go.Proofs.Ytgblfobomiiofaa
namespace Go.Proofs.Ytgblfobomiiofaa
open Go Go.RowKit Go.Shelf Gw Go.Maps

def lstK (s : Sch) (L : List (List Nat)) (i : Nat) : Int := if i = 0 then -1 else (plK s L (i - 1) : Int)
set_option maxRecDepth 100000 in
set_option maxHeartbeats 8000000 in
theorem serialFinds_law {s : Sch} {bv : Value} {t : ByteArray} {w : World} (hv : IsSs w bv s.bl) (_hnil : NilOk bv) :
    Calls Try.prog 14 #[schV s bv, .string t] w fun e w' => e = .returned (.bool true) ∧ Hid (Below w.heap.size w w') := by
  have HAW := Lib.hid serawake_any
  obtain ⟨w1, hw1⟩ : ∃ w1, w1 = w.alloc (.cells #[.string s.al, .int .i64 s.len, bv, .bool s.ck] 24) := ⟨_, rfl⟩
  have hb1 : Below w.heap.size w w1 := by rw [hw1]; exact below_al _ _
  have H41 : Hid (B4 w.heap.size (.string s.al) (.int .i64 s.len) bv (.bool s.ck) w1) := by rw [hw1]; exact B4.new _ _ _ _ _ _
  have HFW := few_any (s := s) (hv.below hb1)
  have HV1 := Lib.hid (hv.below hb1)
  have HB1 := Lib.hid hb1
  have HW1 := Lib.hid hw1
  obtain ⟨fb, hfb⟩ : ∃ fb, fb = fewB s := ⟨_, rfl⟩
  unfold FewP at HFW
  rw [← hfb] at HFW
  have HeS : Hid (∀ v, schV s v = .agg #[.string s.al, .int .i64 s.len, v, .bool s.ck]) := fun v => rfl
  unfold schV at HFW ⊢
  obtain ⟨bo, bc, hbv, -⟩ := hv
  obtain ⟨bm, hbm⟩ : ∃ bm, bm = s.bl.length := ⟨_, rfl⟩
  rw [← hbm] at hbv
  subst hbv
  have HFW := Lib.hid HFW
  obtain ⟨al, hal⟩ : ∃ al, al = s.al := ⟨_, rfl⟩
  obtain ⟨len, hlen⟩ : ∃ len, len = s.len := ⟨_, rfl⟩
  obtain ⟨ck, hck⟩ : ∃ ck, ck = s.ck := ⟨_, rfl⟩
  rw [← hal, ← hlen, ← hck] at H41 HW1 HFW HeS ⊢
  have HAL := Lib.hid hal
  have HLEN := Lib.hid hlen
  have HCK := Lib.hid hck
  clear hw1 hb1 hfb hbm hal hlen hck
  have k0 := H41.out.c0; have k1 := H41.out.c1; have k2 := H41.out.c2; have k3 := H41.out.c3
  go_enter Try.func14, Try.ntmps14
  go_upto_region 1 with fail
  rw [← HW1.out]
  cases fb with
  | false =>
    go_wp2_with (first
      | (go_at_call 16; (with_reducible refine HFW.out.mono ?_); rintro e w2 ⟨rfl, HBf⟩; have H42 := Lib.hid (H41.out.below HBf.out); have HV2 := Lib.hid (HV1.out.below HBf.out); have HB2 := Lib.hid (HB1.out.trans (HBf.out.mono HB1.out.size)); have a20 := H42.out.c0; have a21 := H42.out.c1; have a22 := H42.out.c2; have a23 := H42.out.c3)
      | fail)
    refine (HAW.out _).mono ?_
    rintro e wz ⟨rfl, HBz⟩
    go_wp2_with fail
    go_ret
    exact ⟨rfl, (HB2.out).trans (HBz.out.mono (HB2.out).size)⟩
  | true =>
  by_cases p1 : t.size > 100
  · have p2 : (t.size : Int) > 100 := by omega
    go_wp2_with (first
      | (go_at_call 16; (with_reducible refine HFW.out.mono ?_); rintro e w2 ⟨rfl, HBf⟩; have H42 := Lib.hid (H41.out.below HBf.out); have HV2 := Lib.hid (HV1.out.below HBf.out); have HB2 := Lib.hid (HB1.out.trans (HBf.out.mono HB1.out.size)); have a20 := H42.out.c0; have a21 := H42.out.c1; have a22 := H42.out.c2; have a23 := H42.out.c3)
      | fail)
    refine (HAW.out _).mono ?_
    rintro e wz ⟨rfl, HBz⟩
    go_wp2_with fail
    go_ret
    exact ⟨rfl, (HB2.out).trans (HBz.out.mono (HB2.out).size)⟩
  have p2 : ¬ (t.size : Int) > 100 := by omega
  by_cases hVM : ValidS s ∧ t.size = szN (nS s) s.ck ∧ OfA t s.al
  case neg =>
    have HNE : Hid (∀ (W : World), IsSs W (.slice bo bm bc) s.bl → Calls Try.prog 30 #[.agg #[.string al, .int .i64 len, .slice bo bm bc, .bool ck], .string t] W fun e w' => ∃ E : Int, e = .returned (.tuple #[.slice none 0 0, .int .i64 E]) ∧ (E != 0) = true ∧ Hid (Below W.heap.size W w')) := fun W h => by rw [← HeS.out]; exact Near_no h hVM
    clear hVM
    go_wp2_with (first
      | (go_at_call 16; (with_reducible refine HFW.out.mono ?_); rintro e w2 ⟨rfl, HBf⟩; have H42 := Lib.hid (H41.out.below HBf.out); have HV2 := Lib.hid (HV1.out.below HBf.out); have HB2 := Lib.hid (HB1.out.trans (HBf.out.mono HB1.out.size)); have a20 := H42.out.c0; have a21 := H42.out.c1; have a22 := H42.out.c2; have a23 := H42.out.c3)
      | (go_at_call 30; (with_reducible refine (HNE.out _ HV2.out).mono ?_); rintro e wa ⟨E, rfl, hE, HBq⟩; have H4A := Lib.hid (H42.out.below HBq.out); have HVA := Lib.hid (HV2.out.below HBq.out); have HBA := Lib.hid (HB2.out.trans (HBq.out.mono HB2.out.size)); have aA0 := H4A.out.c0; have aA1 := H4A.out.c1; have aA2 := H4A.out.c2; have aA3 := H4A.out.c3)
      | fail)
    refine (HAW.out _).mono ?_
    rintro e wz ⟨rfl, HBz⟩
    go_wp2_with fail
    go_ret
    exact ⟨rfl, (HBA.out).trans (HBz.out.mono (HBA.out).size)⟩
  obtain ⟨hV, hs⟩ := hVM
  have HNE : Hid (∀ (W : World), IsSs W (.slice bo bm bc) s.bl → Calls Try.prog 30 #[.agg #[.string al, .int .i64 len, .slice bo bm bc, .bool ck], .string t] W fun e w' => ∃ (L : List (List Nat)) (a : Option Addr) (c : Nat), e = .returned (.tuple #[.slice a L.length c, .int .i64 0]) ∧ L.Perm (nbS s t) ∧ (L.Pairwise fun a b => ¬ ltW b a) ∧ IsSs w' (.slice a L.length c) (L.map fun u => serB s.al s.ck (u.take (nS s))) ∧ Hid (Below W.heap.size W w')) := fun W h => by rw [← HeS.out]; exact Near_yes h hV hs
  have HVV := Lib.hid hV
  have HSS := Lib.hid hs
  clear hV hs
  go_wp2_with (first
    | (go_at_call 16; (with_reducible refine HFW.out.mono ?_); rintro e w2 ⟨rfl, HBf⟩; have H42 := Lib.hid (H41.out.below HBf.out); have HV2 := Lib.hid (HV1.out.below HBf.out); have HB2 := Lib.hid (HB1.out.trans (HBf.out.mono HB1.out.size)); have a20 := H42.out.c0; have a21 := H42.out.c1; have a22 := H42.out.c2; have a23 := H42.out.c3)
    | (go_at_call 30; (with_reducible refine (HNE.out _ HV2.out).mono ?_); rintro e wa ⟨L, la, lc, rfl, hp, hq, hl, HBq⟩; have H4A := Lib.hid (H42.out.below HBq.out); have HVA := Lib.hid (HV2.out.below HBq.out); have HBA := Lib.hid (HB2.out.trans (HBq.out.mono HB2.out.size)); have aA0 := H4A.out.c0; have aA1 := H4A.out.c1; have aA2 := H4A.out.c2; have aA3 := H4A.out.c3; have HP := Lib.hid hp; have HQ := Lib.hid hq; have HL := Lib.hid hl; clear hp hq hl)
    | fail)
  obtain ⟨ln, hln⟩ : ∃ ln, ln = L.length := ⟨_, rfl⟩
  rw [← hln] at HL ⊢
  have HLN := Lib.hid hln
  have hAs : al.size ≤ 36 := by rw [HAL.out]; exact HVV.out.1.1.2.1
  have htz : t.size ≤ 17 := by
    have h5 := HSS.out.1
    have h6 := HVV.out.1.2.2.1
    unfold szN nS at h5
    split at h5 <;> omega
  have hwl : (wordN s.al t).length = t.size := wordN_len _ _
  have hlnN : ln = (nbS s t).length := by rw [hln]; exact HP.out.length_eq
  have hln7 : ln ≤ 1000 := by
    rw [hlnN]
    unfold nbS
    refine Nat.le_trans (nbI_len _ _ _ _) ?_
    rw [hwl, ← HAL.out]
    exact Nat.le_trans (Nat.mul_le_mul htz hAs) (by decide)
  have HLNN := Lib.hid hlnN
  have HWL := Lib.hid hwl
  have HAS := Lib.hid hAs
  have HTZ := Lib.hid htz
  have HL7 := Lib.hid hln7
  clear hln hlnN hwl hAs htz hln7
  obtain ⟨wa0, hwa0⟩ : ∃ W, W = wa := ⟨_, rfl⟩
  go_loopw [7, 9] (fun s7 s9 wr => ∃ i : Nat, i ≤ ln ∧ s7 = .int .i64 (lstK s L i) ∧ s9 = .int .i64 i ∧ Hid (B4 w.heap.size (.string al) (.int .i64 len) (.slice bo bm bc) (.bool ck) wr) ∧ Hid (IsSs wr (.slice bo bm bc) s.bl) ∧ Hid (IsSs wr (.slice la ln lc) (L.map fun u => serB s.al s.ck (u.take (nS s)))) ∧ Hid (Below w.heap.size w wr)) (fun _ s9 _ => ln - (intOf s9).toNat)
  case atStart => exact ⟨0, Nat.zero_le _, rfl, rfl, H4A, HVA, HL, HBA⟩
  case round =>
    obtain ⟨i, hi, rfl, rfl, H4R, HVR, HLR, HBR⟩ := hrel
    have c0 := H4R.out.c0; have c1 := H4R.out.c1; have c2 := H4R.out.c2; have c3 := H4R.out.c3
    by_cases q : i < ln
    · have q1 : (i : Int) < (ln : Int) := by omega
      obtain ⟨i1, hi1⟩ : ∃ i1, i1 = i + 1 := ⟨_, rfl⟩
      have hw : IntKind.i64.wrap ((i : Int) + 1) = (i1 : Int) := by have := HL7.out; rw [IntWalk.i64_in _ (by omega)]; omega
      have hiL : i < L.length := by rw [← HLN.out]; exact q
      have him : i < (L.map fun u => serB s.al s.ck (u.take (nS s))).length := by rw [List.length_map]; exact hiL
      obtain ⟨B, o, rfl, d0⟩ := HLR.out.at' him
      obtain ⟨T, hT⟩ : ∃ T, T = serB s.al s.ck (L[i].take (nS s)) := ⟨_, rfl⟩
      rw [List.getElem_map, ← hT] at d0
      obtain ⟨K, hK⟩ : ∃ K, K = plK s L i := ⟨_, rfl⟩
      have hat := plK_at HVV.out HSS.out HP.out hiL
      rw [← hK] at hat
      obtain ⟨n1, n2, n3, n4, j, v, hj, hvA, hne, heq⟩ := nb_word HVV.out HSS.out (HP.out.mem_iff.1 (List.getElem_mem hiL))
      obtain ⟨lk, hlk⟩ : ∃ lk, lk = lstK s L i := ⟨_, rfl⟩
      have hgt : ¬ (K : Int) ≤ lk := by
        rw [hlk, hK]
        unfold lstK
        split
        · omega
        · have := plK_lt HVV.out HSS.out HP.out HQ.out (i := i - 1) (j := i) (by omega) hiL
          omega
      have hnx : (K : Int) = lstK s L i1 := by
        rw [hK, hi1]
        unfold lstK
        rw [if_neg (by omega), Nat.add_sub_cancel]
      rw [← hlk]
      have HNU : Hid (∀ (W : World), IsSs W (.slice bo bm bc) s.bl → Calls Try.prog 25 #[.agg #[.string al, .int .i64 len, .slice bo bm bc, .bool ck], .string T] W fun e w' => e = .returned (.tuple #[.int .i64 (K : Int), .int .i64 0]) ∧ Hid (Below W.heap.size W w')) := fun W h => by rw [← HeS.out, hT]; exact Num_of h HVV.out hat
      have HAP : Hid (∀ (W : World), Calls Try.prog 39 #[.string T, .string t] W fun e w' => e = .returned (.int .i64 1) ∧ Hid (Below W.heap.size W w')) := fun W => by
        have hTs : T.size = t.size := by rw [hT, heq, partT_size hj hvA]
        have h3 := RApart_any (a := T) (b := t) hTs.symm (by have := HTZ.out; omega) W
        have h4 : apT T t T.size = 1 := by rw [hT, heq]; exact apT_part hj hvA hne
        rw [h4] at h3
        exact h3
      have him2 : ln - i1 < ln - i := by omega
      have hil : i1 ≤ ln := by omega
      have HNX := Lib.hid hnx
      have hBl := World.block_lt_of_cell? _ _ d0
      clear him hT hK hat n1 n2 n3 n4 hj hvA hne heq hlk hnx hi1
      go_upto_region 10 with fail
      have HNUd := Lib.hid (HNU.out wr.drew (HVR.out.below (below_dr wr 1)))
      go_cut [10, 11] from 40 to 48 (fun s10 s11 wz => s10 = .int .i64 (K : Int) ∧ s11 = .int .i64 0 ∧ Hid (Below wr.heap.size wr wz))
      case first =>
        clear hw hgt HAP HNU HNE HFW p1 p2 him2 hil q1 k0 k1 k2 k3 a20 a21 a22 a23 aA0 aA1 aA2 aA3
        go_region_with (first
          | (go_at_call 25; (with_reducible refine HNUd.out.mono ?_); rintro e wb ⟨rfl, HBq⟩)
          | fail)
        all_goals go_wp2_with fail
        all_goals go_meet
        all_goals exact ⟨rfl, rfl, (below_dr wr 1).trans HBq.out⟩
      case rest =>
        obtain ⟨rfl, rfl, HBc⟩ := hcut
        have d1 := (HBc.out.cell (p := ⟨B, o + i, none⟩) hBl).trans d0
        have HBS := Lib.hid (HBR.out.trans (HBc.out.mono HBR.out.size))
        have H4S := Lib.hid (H4R.out.below HBc.out)
        have HVS := Lib.hid (HVR.out.below HBc.out)
        have HLS := Lib.hid (HLR.out.below HBc.out)
        apply_assumption
        go_wp2_with (first
          | (go_at_call 39; (with_reducible refine (HAP.out _).mono ?_); rintro e wd ⟨rfl, HBq⟩; have HBT := Lib.hid (HBS.out.trans (HBq.out.mono HBS.out.size)); have H4T := Lib.hid (H4S.out.below HBq.out); have HVT := Lib.hid (HVS.out.below HBq.out); have HLT := Lib.hid (HLS.out.below HBq.out))
          | fail)
        go_roundw
        case rel => exact ⟨i1, hil, by rw [← HNX.out], by go_num, H4T, HVT, HLT, HBT⟩
        case measure => simp [intOf]; omega
    · obtain rfl : i = ln := by omega
      have q1 : ¬ (i : Int) < (i : Int) := by omega
      obtain ⟨A, hA⟩ : ∃ A, A = al.size := ⟨_, rfl⟩
      have hAe : A = s.al.size := by rw [hA, HAL.out]
      have HAE := Lib.hid hAe
      have HAA := Lib.hid hA
      obtain ⟨P, hP⟩ : ∃ P, P = nbP s.al.size (nS s) s.ck (fS s) := ⟨_, rfl⟩
      obtain ⟨u, hu⟩ : ∃ u, u = wordN s.al t := ⟨_, rfl⟩
      have hfin : i = (nbI P u A t.size).length := by rw [HLNN.out, hP, hu, hAe, ← HWL.out]; rfl
      have HFIN := Lib.hid hfin
      have HPP := Lib.hid hP
      have HUU := Lib.hid hu
      have hls : ∀ (t ty : TypeId), Try.prog.underlying t = some .string → ∀ W, (Builtin.len_ #[t] ty #[.string al]).run Try.prog W = .ok (.int .i64 (A : Int)) W := fun t ty ht W => by rw [run_len_string _ _ _ _ ht, hA]; rfl
      have hA36 : A ≤ 36 := by rw [hA]; exact HAS.out
      clear hA hAe hP hu hfin
      go_wp2_with fail
      go_loopw [8, 12] (fun s8 s12 wr2 => ∃ (k f : Nat), k ≤ t.size ∧ s8 = .int .i64 f ∧ s12 = .int .i64 k ∧ Hid (f = (nbI P u A k).length) ∧ Hid (B4 w.heap.size (.string al) (.int .i64 len) (.slice bo bm bc) (.bool ck) wr2) ∧ Hid (IsSs wr2 (.slice bo bm bc) s.bl) ∧ Hid (Below w.heap.size w wr2)) (fun _ s12 _ => t.size - (intOf s12).toNat)
      case atStart => exact ⟨0, 0, Nat.zero_le _, rfl, rfl, rfl, H4R, HVR, HBR⟩
      case round =>
        obtain ⟨k, f, hk, rfl, rfl, HF, H4X, HVX, HBX⟩ := hrel
        have e0 := H4X.out.c0; have e1 := H4X.out.c1; have e2 := H4X.out.c2; have e3 := H4X.out.c3
        by_cases r : k < t.size
        · have r1 : (k : Int) < (t.size : Int) := by omega
          obtain ⟨kk, hk1⟩ : ∃ kk, kk = k + 1 := ⟨_, rfl⟩
          have hwk : IntKind.i64.wrap ((k : Int) + 1) = (kk : Int) := by have := HTZ.out; rw [IntWalk.i64_in _ (by omega)]; omega
          have hs1 : ∀ W, (Instr.slice 9 (.string t) none (some (.int .i64 (k : Int))) none).run Try.prog W = .ok (.string (t.extract 0 k)) W := fun W => slice_to (Nat.le_of_lt r) W
          have hs3 : ∀ W, (Instr.slice 9 (.string t) (some (.int .i64 (kk : Int))) none none).run Try.prog W = .ok (.string (t.extract kk t.size)) W := fun W => slice_from (by omega) W
          have hix := fun W => index_str r W
          obtain ⟨y, hy⟩ : ∃ y, y = t[k] := ⟨_, rfl⟩
          rw [← hy] at hix
          have HYY := Lib.hid hy
          have HK1 := Lib.hid hk1
          have hk1t : kk ≤ t.size := by omega
          have hkm : t.size - kk < t.size - k := by omega
          clear hy hk1
          go_wp2_with fail
          go_loopw [8, 13] (fun s8 s13 wr3 => ∃ (c g : Nat), c ≤ A ∧ s8 = .int .i64 g ∧ s13 = .int .i64 c ∧ Hid (g = (nbI P u A k).length + (nbV P u k c).length) ∧ Hid (B4 w.heap.size (.string al) (.int .i64 len) (.slice bo bm bc) (.bool ck) wr3) ∧ Hid (IsSs wr3 (.slice bo bm bc) s.bl) ∧ Hid (Below w.heap.size w wr3)) (fun _ s13 _ => A - (intOf s13).toNat)
          case atStart => exact ⟨0, f, Nat.zero_le _, rfl, rfl, by show f = _; rw [HF.out]; simp [nbV], H4X, HVX, HBX⟩
          case round =>
            obtain ⟨c, g, hc, rfl, rfl, HG, H4Y, HVY, HBY⟩ := hrel
            have f0 := H4Y.out.c0; have f1 := H4Y.out.c1; have f2 := H4Y.out.c2; have f3 := H4Y.out.c3
            by_cases z : c < A
            · have z1 : (c : Int) < (A : Int) := by omega
              have hcs : c < s.al.size := by rw [← HAE.out]; exact z
              have hca : c < al.size := by rw [← HAA.out]; exact z
              obtain ⟨cc, hcc⟩ : ∃ cc, cc = c + 1 := ⟨_, rfl⟩
              have hwc : IntKind.i64.wrap ((c : Int) + 1) = (cc : Int) := by rw [IntWalk.i64_in _ (by omega)]; omega
              have hs2 : ∀ W, (Instr.slice 9 (.string al) (some (.int .i64 (c : Int))) (some (.int .i64 (cc : Int))) none).run Try.prog W = .ok (.string (al.extract c cc)) W := fun W => slice_in (by omega) (by omega) W
              have hiy := fun W => index_str hca W
              obtain ⟨x, hx⟩ : ∃ x, x = al[c] := ⟨_, rfl⟩
              rw [← hx] at hiy
              obtain ⟨p, hp⟩ : ∃ p, p = t.extract 0 k ++ al.extract c cc ++ t.extract kk t.size := ⟨_, rfl⟩
              have hpT : p = partT t s.al k c := by rw [hp, hcc, HAL.out, HK1.out]; rfl
              have hl1 : (t.extract 0 k).size ≤ 100 := by rw [ByteArray.size_extract]; have := HTZ.out; omega
              have hl2 : (al.extract c cc).size ≤ 36 := by rw [ByteArray.size_extract]; have := HAS.out; omega
              have hl3 : (t.extract kk t.size).size ≤ 100 := by rw [ByteArray.size_extract]; have := HTZ.out; omega
              have ha1 : ∀ W : World, (Op.stringOp .add (t.extract 0 k) (al.extract c cc)).run Try.prog W = .ok (.string (t.extract 0 k ++ al.extract c cc)) W := fun W => run_string_add_sum W _ _ (by omega)
              have ha2 : ∀ W : World, (Op.stringOp .add (t.extract 0 k ++ al.extract c cc) (t.extract kk t.size)).run Try.prog W = .ok (.string p) W := fun W => by rw [run_string_add_sum W _ _ (by rw [ByteArray.size_append]; omega), hp]
              obtain ⟨b, hb⟩ : ∃ b, b = P (u.set k c) := ⟨_, rfl⟩
              have hpz : p.size = szN (nS s) s.ck ∧ OfA p s.al := ⟨by rw [hpT, partT_size r hcs]; exact HSS.out.1, by rw [hpT]; exact partT_of r hcs HSS.out.2⟩
              have hbn := nb_num HVV.out HSS.out r hcs
              rw [← hpT, ← HPP.out, ← HUU.out, ← hb] at hbn
              have HNU : Hid (∀ (W : World), IsSs W (.slice bo bm bc) s.bl → Calls Try.prog 25 #[.agg #[.string al, .int .i64 len, .slice bo bm bc, .bool ck], .string p] W fun e w' => ∃ N E : Int, e = .returned (.tuple #[.int .i64 N, .int .i64 E]) ∧ (E == 0) = b ∧ Hid (Below W.heap.size W w')) := fun W h => by 
                            rw [← HeS.out]
                            cases b with
                            | true =>
                              obtain ⟨g1, g2⟩ := hbn.1 rfl
                              obtain ⟨n, hnl, hne⟩ := List.mem_iff_getElem.1 (syn_word HVV.out hpz g1)
                              have hn : (wordsS s)[n]? = some ((wordN s.al p).take (nS s)) := by rw [List.getElem?_eq_getElem hnl, hne]
                              refine (Num_ok h HVV.out hpz g1 g2 hn).mono ?_
                              rintro e w' ⟨rfl, hbq⟩
                              exact ⟨_, _, rfl, rfl, hbq⟩
                            | false =>
                              refine (Num_not h HVV.out hpz (fun g => by have h9 := hbn.2 g; simp at h9)).mono ?_
                              rintro e w' ⟨E, rfl, _, h0, hor, hbq⟩
                              exact ⟨_, _, rfl, by rcases hor with rfl | rfl <;> rfl, hbq⟩
              have hgl : g ≤ 17 * 36 := by
                rw [HG.out]
                have g1 := nbI_len P u A k
                have g2 := nbV_len P u k c
                have g3 : k * A ≤ 16 * 36 := Nat.mul_le_mul (by have := HTZ.out; omega) hA36
                omega
              have hsn : al[c] = t[k] ↔ c = u.getD k 0 := by
                have h5 := syn_ne HVV.out HSS.out r hcs
                rw [← HUU.out] at h5
                have h6 : s.al[c] = al[c] := by simp only [HAL.out]
                rw [h6] at h5
                exact h5
              rw [← hx, ← HYY.out] at hsn
              have hVs := nbV_succ P u k c
              rw [← hb, ← hcc] at hVs
              have hm1 : A - cc < A - c := by omega
              have hcl1 : cc ≤ A := by omega
              clear hcs hca hcc hx hp hpT hl1 hl2 hl3 hb hpz hbn
              have HVs := Lib.hid hVs
              clear hVs
              go_upto_region 20 with fail
              have HNUd := Lib.hid (HNU.out wr.drew (HVY.out.below (below_dr wr 1)))
              go_cut [15] from 79 to 98 (fun s15 wz => ∃ E : Int, s15 = .int .i64 E ∧ (E == 0) = b ∧ Hid (Below wr.heap.size wr wz))
              case first =>
                clear hix hiy HNU HNE HFW p1 p2 hls hm1 hcl1 z1 r1 hkm hk1t hgl k0 k1 k2 k3 a20 a21 a22 a23 aA0 aA1 aA2 aA3 c0 c1 c2 c3 e0 e1 e2 e3
                go_region_with (first
                  | (go_at_call 25; (with_reducible refine HNUd.out.mono ?_); rintro e wb ⟨N, E, rfl, hE, HBq⟩)
                  | fail)
                all_goals go_wp2_with fail
                all_goals go_meet
                all_goals exact ⟨E, rfl, hE, (below_dr wr 1).trans HBq.out⟩
              case rest =>
                obtain ⟨E, rfl, hE, HBc⟩ := hcut
                have HBS := Lib.hid (HBY.out.trans (HBc.out.mono HBY.out.size))
                have H4S := Lib.hid (H4Y.out.below HBc.out)
                have HVS := Lib.hid (HVY.out.below HBc.out)
                have f0 := H4S.out.c0; have f1 := H4S.out.c1; have f2 := H4S.out.c2; have f3 := H4S.out.c3
                apply_assumption
                by_cases hxy : x = y
                · have x2 : ((x.toNat : Int) != (y.toNat : Int)) = false := by rw [hxy]; simp
                  have HG2 : Hid (g = (nbI P u A k).length + (nbV P u k cc).length) := by
                    show g = _
                    rw [HVs.out, if_neg (by rw [hsn.1 hxy]; simp), List.append_nil]
                    exact HG.out
                  clear hsn hs1 hs2 hs3 ha1 ha2 HNU HNUd
                  go_upto_region 21 with fail
                  go_quiet (fail)
                  rename_i nq
                  have HBQ := Lib.hid (HBS.out.trans ((below_dr wc nq).mono HBS.out.size))
                  have H4Q := Lib.hid (H4S.out.below (below_dr wc nq))
                  have HVQ := Lib.hid (HVS.out.below (below_dr wc nq))
                  go_wp2_with fail
                  go_roundw
                  case rel => exact ⟨cc, g, hcl1, by go_num, by go_num, HG2, H4Q, HVQ, HBQ⟩
                  case measure => simp [intOf]; omega
                · have x2 : ((x.toNat : Int) != (y.toNat : Int)) = true := by
                    rw [bne_iff_ne]
                    intro e
                    exact hxy (UInt8.toNat_inj.1 (by omega))
                  have hcu : c ≠ u.getD k 0 := fun e => hxy (hsn.2 e)
                  cases b with
                  | false =>
                    have HG2 : Hid (g = (nbI P u A k).length + (nbV P u k cc).length) := by
                      show g = _
                      rw [HVs.out, if_neg (by simp), List.append_nil]
                      exact HG.out
                    clear hsn hcu hs1 hs2 hs3 ha1 ha2 HNU HNUd
                    go_upto_region 21 with fail
                    go_quiet (fail)
                    rename_i nq
                    have HBQ := Lib.hid (HBS.out.trans ((below_dr wc nq).mono HBS.out.size))
                    have H4Q := Lib.hid (H4S.out.below (below_dr wc nq))
                    have HVQ := Lib.hid (HVS.out.below (below_dr wc nq))
                    go_wp2_with fail
                    go_roundw
                    case rel => exact ⟨cc, g, hcl1, by go_num, by go_num, HG2, H4Q, HVQ, HBQ⟩
                    case measure => simp [intOf]; omega
                  | true =>
                    obtain ⟨gg, hgg⟩ : ∃ gg, gg = g + 1 := ⟨_, rfl⟩
                    have hwg : IntKind.i64.wrap ((g : Int) + 1) = (gg : Int) := by rw [IntWalk.i64_in _ (by omega)]; omega
                    have HG2 : Hid (gg = (nbI P u A k).length + (nbV P u k cc).length) := by
                      show gg = _
                      rw [HVs.out, if_pos (by simpa using hcu), List.length_append, List.length_singleton, hgg]
                      have h5 := HG.out
                      omega
                    clear hsn hcu hgg hs1 hs2 hs3 ha1 ha2 HNU HNUd
                    go_upto_region 21 with fail
                    go_quiet (fail)
                    rename_i nq
                    have HBQ := Lib.hid (HBS.out.trans ((below_dr wc nq).mono HBS.out.size))
                    have H4Q := Lib.hid (H4S.out.below (below_dr wc nq))
                    have HVQ := Lib.hid (HVS.out.below (below_dr wc nq))
                    go_wp2_with fail
                    go_roundw
                    case rel => exact ⟨cc, gg, hcl1, by go_num, by go_num, HG2, H4Q, HVQ, HBQ⟩
                    case measure => simp [intOf]; omega
            · obtain rfl : c = A := by omega
              have z1 : ¬ (c : Int) < (c : Int) := by omega
              have HF2 : Hid (g = (nbI P u c kk).length) := by
                show g = _
                rw [HK1.out, nbI_succ, List.length_append]
                exact HG.out
              go_wp2_with fail
              go_roundw
              case rel => exact ⟨kk, g, hk1t, by go_num, by go_num, HF2, H4Y, HVY, HBY⟩
              case measure => simp [intOf]; omega
        · obtain rfl : k = t.size := by omega
          have r1 : ¬ (t.size : Int) < (t.size : Int) := by omega
          obtain rfl : f = i := by rw [HF.out, HFIN.out]
          go_wp2_with fail
          refine (HAW.out _).mono ?_
          rintro e wz ⟨rfl, HBz⟩
          go_wp2_with fail
          go_ret
          exact ⟨rfl, (HBX.out).trans (HBz.out.mono (HBX.out).size)⟩
end Go.Proofs.Ytgblfobomiiofaa
