/- Contracts and lemmas (several texts merged into one). -/
import Derived.Test.YtgblfobomiiofaaTSerP
import Derived.Test.YtgblfobomiiofaaTSerH
import Derived.Test.YtgblfobomiiofaaTSerM
import Derived.Test.YtgblfobomiiofaaTSerE
namespace Go.Proofs.Ytgblfobomiiofaa
open Go Go.RowKit Go.Shelf Gw Go.Maps

theorem sorted_ext : ∀ {l l' : List (List Nat)}, l.Pairwise ltW → l'.Pairwise ltW → (∀ x, x ∈ l ↔ x ∈ l') → l = l'
  | [], [], _, _, _ => rfl
  | [], b :: l', _, _, hm => by have := (hm b).2 (by simp); simp at this
  | a :: l, [], _, _, hm => by have := (hm a).1 (by simp); simp at this
  | a :: l, b :: l', h, h', hm => by
    rw [List.pairwise_cons] at h h'
    have e : a = b := by
      rcases List.mem_cons.1 ((hm a).1 (by simp)) with q | q
      · exact q
      · rcases List.mem_cons.1 ((hm b).2 (by simp)) with p | p
        · exact p.symm
        · exact absurd (ltW_trans (h.1 b p) (h'.1 a q)) (ltW_irrefl _)
    subst e
    rw [sorted_ext h.2 h'.2 (fun x => ⟨fun hx => ?_, fun hx => ?_⟩)]
    · rcases List.mem_cons.1 ((hm x).1 (List.mem_cons_of_mem _ hx)) with q | q
      · subst q; exact absurd (h.1 x hx) (ltW_irrefl _)
      · exact q
    · rcases List.mem_cons.1 ((hm x).2 (List.mem_cons_of_mem _ hx)) with q | q
      · subst q; exact absurd (h'.1 x hx) (ltW_irrefl _)
      · exact q
theorem nbV_in {P : List Nat → Bool} {u : List Nat} {i v : Nat} (hne : v ≠ u.getD i 0) (hP : P (u.set i v) = true) : ∀ {k : Nat}, v < k → u.set i v ∈ nbV P u i k
  | k + 1, h => by
    rw [nbV_succ]
    by_cases e : v = k
    · subst e
      rw [if_pos (by rw [Bool.and_eq_true]; exact ⟨decide_eq_true hne, hP⟩)]
      simp
    · exact List.mem_append_left _ (nbV_in hne hP (by omega))
theorem nbI_in {P : List Nat → Bool} {u : List Nat} {A j v : Nat} (hv : v < A) (hne : v ≠ u.getD j 0) (hP : P (u.set j v) = true) : ∀ {i : Nat}, j < i → u.set j v ∈ nbI P u A i
  | i + 1, h => by
    rw [nbI_succ]
    by_cases e : j = i
    · subst e
      exact List.mem_append_right _ (nbV_in hne hP hv)
    · exact List.mem_append_left _ (nbI_in hv hne hP (by omega))
/-- one place apart: one letter is changed -/
theorem apart_set {x y : List Nat} (hl : x.length = y.length) {n : Nat} (hn : n = y.length) (h : (List.range n).countP (fun j => decide (x.getD j 0 ≠ y.getD j 0)) = 1) : ∃ j, j < n ∧ x.getD j 0 ≠ y.getD j 0 ∧ x = y.set j (x.getD j 0) := by
  rw [List.countP_eq_length_filter] at h
  obtain ⟨a, ha⟩ := List.length_eq_one_iff.1 h
  have hin : ∀ i, i < n → x.getD i 0 ≠ y.getD i 0 → i = a := fun i hi hd => by
    have h1 : i ∈ (List.range n).filter (fun j => decide (x.getD j 0 ≠ y.getD j 0)) := List.mem_filter.2 ⟨List.mem_range.2 hi, decide_eq_true hd⟩
    rw [ha] at h1
    exact List.mem_singleton.1 h1
  have haa : a ∈ (List.range n).filter (fun j => decide (x.getD j 0 ≠ y.getD j 0)) := by rw [ha]; simp
  obtain ⟨hj, hd⟩ := List.mem_filter.1 haa
  have hjn := List.mem_range.1 hj
  refine ⟨a, hjn, of_decide_eq_true hd, List.ext_getElem (by simp [hl]) (fun i h1 h2 => ?_)⟩
  by_cases e : i = a
  · subst e
    simp [h1]
  · rw [List.getElem_set_ne (by omega)]
    have hi : i < n := by rw [hn, ← hl]; exact h1
    have hiy : i < y.length := by rw [← hl]; exact h1
    have h3 : x.getD i 0 = y.getD i 0 := Decidable.byContradiction fun c => e (hin i hi c)
    simpa [h1, hiy] using h3
/-- one place apart, told by the words -/
theorem apT_word {s : Sch} {b t : ByteArray} (hb : OfA b s.al) (ht : OfA t s.al) (hs : b.size = t.size) : apT b t b.size = (List.range t.size).countP fun j => decide ((wordN s.al b).getD j 0 ≠ (wordN s.al t).getD j 0) := by
  unfold apT
  rw [hs]
  refine List.countP_congr fun j hj => ?_
  have hjt := List.mem_range.1 hj
  have hjb : j < b.size := by omega
  have e1 : (bys b).getD j 0 = b[j] := by rw [List.getD_eq_getElem?_getD, List.getElem?_eq_getElem (by rw [bys_len]; exact hjb)]; rfl
  have e2 : (bys t).getD j 0 = t[j] := by rw [List.getD_eq_getElem?_getD, List.getElem?_eq_getElem (by rw [bys_len]; exact hjt)]; rfl
  have e3 : (wordN s.al b).getD j 0 = (bys s.al).idxOf b[j] := by
    rw [List.getD_eq_getElem?_getD, List.getElem?_eq_getElem (by rw [wordN_len]; exact hjb)]
    simp only [wordN, List.getElem_map, Option.getD_some]
    rfl
  have e4 : (wordN s.al t).getD j 0 = (bys s.al).idxOf t[j] := by
    rw [List.getD_eq_getElem?_getD, List.getElem?_eq_getElem (by rw [wordN_len]; exact hjt)]
    simp only [wordN, List.getElem_map, Option.getD_some]
    rfl
  rw [e1, e2, e3, e4]
  have g1 := List.getElem_idxOf (List.idxOf_lt_length_of_mem (hb _ (bys_at hjb)))
  have g2 := List.getElem_idxOf (List.idxOf_lt_length_of_mem (ht _ (bys_at hjt)))
  have hiff : (b[j] ≠ t[j]) ↔ ((bys s.al).idxOf b[j] ≠ (bys s.al).idxOf t[j]) := by
    constructor
    · intro c d
      refine c ?_
      rw [← g1, ← g2]
      congr 1
    · intro c d
      exact c (by rw [d])
  simp [hiff]
theorem near_list {s : Sch} {t : ByteArray} (hV : ValidS s) (h : t.size = szN (nS s) s.ck ∧ OfA t s.al) {L : List (List Nat)} (hp : L.Perm (nbS s t)) (hs : L.Pairwise fun a b => ¬ ltW b a) : L.map (fun x => x.take (nS s)) = (wordsS s).filter fun u => decide (apT (serB s.al s.ck u) t (serB s.al s.ck u).size = 1) := by
  have hso : (wordsS s).Pairwise ltW := sorted_words _ _ _
  refine sorted_ext ?_ (hso.filter _) (fun u => ?_)
  · rw [List.pairwise_iff_getElem]
    intro i j hi hj hij
    rw [List.length_map] at hi hj
    have h1 := plK_at hV h hp hi
    have h2 := plK_at hV h hp hj
    have h3 := plK_lt hV h hp hs hij hj
    obtain ⟨l1, e1⟩ := List.getElem?_eq_some_iff.1 h1
    obtain ⟨l2, e2⟩ := List.getElem?_eq_some_iff.1 h2
    rw [List.pairwise_iff_getElem] at hso
    have h4 := hso _ _ l1 l2 h3
    rw [e1, e2] at h4
    simpa using h4
  · rw [List.mem_filter]
    constructor
    · intro hu
      obtain ⟨x, hx, rfl⟩ := List.mem_map.1 hu
      obtain ⟨_, _, _, h4, j, v, hj, hv, hne, h5⟩ := nb_word hV h (hp.mem_iff.1 hx)
      refine ⟨h4, decide_eq_true ?_⟩
      rw [h5]
      exact apT_part hj hv hne
    · rintro ⟨hu, ha⟩
      obtain ⟨m1, m2, m3⟩ := wordsS_mem hu
      have ha' := of_decide_eq_true ha
      have hsz : (serB s.al s.ck u).size = t.size := by rw [serB_size _ _ _ m1, h.1]
      rw [apT_word (serB_of hV.1.1.1 s.ck m2) h.2 hsz, serB_word hV.1.1 s.ck m2] at ha'
      obtain ⟨j, hj, hne, hset⟩ := apart_set (by rw [serU_len _ _ _ m1, wordN_len, h.1]) (by rw [wordN_len]) ha'
      have hjl : j < (serU s.al s.ck u).length := by rw [serU_len _ _ _ m1, ← h.1]; exact hj
      have hv : (serU s.al s.ck u).getD j 0 < s.al.size := by
        rw [List.getD_eq_getElem?_getD, List.getElem?_eq_getElem hjl]
        exact serU_lt hV.1.1.1 s.ck m2 _ (List.getElem_mem hjl)
      have hP : nbP s.al.size (nS s) s.ck (fS s) ((wordN s.al t).set j ((serU s.al s.ck u).getD j 0)) = true := by
        rw [← hset]
        unfold nbP
        rw [serU_ends _ _ _ m1, serU_take _ _ m1, m3]
        rfl
      have hin := nbI_in (A := s.al.size) hv hne hP (i := (wordN s.al t).length) (by rw [wordN_len]; exact hj)
      rw [← hset] at hin
      exact List.mem_map.2 ⟨_, hp.mem_iff.2 hin, serU_take _ _ m1⟩
theorem near_texts {s : Sch} {t : ByteArray} (hV : ValidS s) (h : t.size = szN (nS s) s.ck ∧ OfA t s.al) {L : List (List Nat)} (hp : L.Perm (nbS s t)) (hs : L.Pairwise fun a b => ¬ ltW b a) : (L.map fun x => serB s.al s.ck (x.take (nS s))) = ((wordsS s).filter fun u => decide (apT (serB s.al s.ck u) t (serB s.al s.ck u).size = 1)).map (serB s.al s.ck) := by
  rw [← near_list hV h hp hs, List.map_map]
  rfl
end Go.Proofs.Ytgblfobomiiofaa
namespace Go.Proofs.Ytgblfobomiiofaa
open Go Go.RowKit Go.Shelf Gw Go.Maps

set_option maxRecDepth 100000 in
set_option maxHeartbeats 2000000 in
theorem same_big {a b : Value} {l : List ByteArray} {w : World} (ha : IsSs w a l) (hb : IsSs w b l) (hl : l.length ≤ 4000) : Calls Try.prog 23 #[a, b] w fun e w' => e = .returned (.bool true) ∧ Hid (Below w.heap.size w w') := by
  have HA := Lib.hid ha; have HB := Lib.hid hb
  obtain ⟨ao, ac, rfl, -⟩ := ha
  obtain ⟨bo, bc, rfl, -⟩ := hb
  obtain ⟨n, hn⟩ : ∃ n, n = l.length := ⟨_, rfl⟩
  rw [← hn] at HA HB hl ⊢
  have HN := Lib.hid hn
  have hne : ((n : Int) != (n : Int)) = false := by simp
  clear hn
  go_enter Try.func23, Try.ntmps23
  go_wp2_with fail
  go_loopw [5] (fun s5 wr => ∃ (i : Nat), i ≤ n ∧ s5 = .int .i64 i ∧ Hid (Below w.heap.size w wr)) (fun s5 _ => n - (intOf s5).toNat)
  case atStart => exact ⟨0, Nat.zero_le _, rfl, Below.refl _ _⟩
  case round =>
    obtain ⟨i, hi, rfl, HR⟩ := hrel
    by_cases q : i < n
    · have q1 : (i : Int) < (n : Int) := by omega
      have hil : i < l.length := by rw [← HN.out]; exact q
      obtain ⟨B, o, hao, d1⟩ := (HA.out.below HR.out).at' hil
      obtain ⟨B', o', hbo, d2⟩ := (HB.out.below HR.out).at' hil
      obtain ⟨x, hx⟩ : ∃ x, x = l[i] := ⟨_, rfl⟩
      rw [← hx] at d1 d2
      obtain ⟨i1, hi1⟩ : ∃ i1, i1 = i + 1 := ⟨_, rfl⟩
      have hwi : IntKind.i64.wrap ((i : Int) + 1) = (i1 : Int) := by rw [IntWalk.i64_in _ (by omega)]; omega
      have hi1n : i1 ≤ n := by omega
      have hmm : n - i1 < n - i := by omega
      have hxx : (x.toList == x.toList) = true := by simp
      subst hao; subst hbo
      clear hx hi1 hil
      go_upto_region 6 with fail
      go_quiet (fail)
      have HR2 := Lib.hid (HR.out.trans ((below_dr wr nq).mono HR.out.size))
      clear d1 d2
      generalize World.drewN wr nq = wq at *
      go_wp2_with fail
      go_roundw
      case rel => exact ⟨i1, hi1n, by go_num, HR2⟩
      case measure => simp [intOf]; omega
    · obtain rfl : i = n := by omega
      have q1 : ¬ (i : Int) < (i : Int) := by omega
      go_wp2_with fail
      go_ret
      exact ⟨rfl, HR⟩
theorem N_no {s : Sch} {bv : Value} {t : ByteArray} {w : World} (hv : IsSs w bv s.bl) (hV : ValidS s) (ht : ¬ (t.size = szN (nS s) s.ck ∧ OfA t s.al)) : Calls Try.prog 30 #[schV s bv, .string t] w fun e w' => e = .returned (.tuple #[.slice none 0 0, .int .i64 4]) ∧ Hid (Below w.heap.size w w') := by
  refine (Near_all hv).mono ?_
  rintro e w' ⟨hb, ⟨h, _⟩ | ⟨_, h, _⟩ | ⟨_, _, rfl⟩ | ⟨_, h, _⟩⟩
  · exact absurd hV.1 h
  · exact absurd hV.2 h
  · exact ⟨rfl, hb⟩
  · exact absurd h ht
/-- the texts that are one place apart -/
def nearL (s : Sch) (t : ByteArray) : List (List Nat) := (wordsS s).filter fun u => decide (apT (serB s.al s.ck u) t (serB s.al s.ck u).size = 1)
theorem N_yes {s : Sch} {bv : Value} {t : ByteArray} {w : World} (hv : IsSs w bv s.bl) (hV : ValidS s) (ht : t.size = szN (nS s) s.ck ∧ OfA t s.al) : Calls Try.prog 30 #[schV s bv, .string t] w fun e w' => ∃ a c, e = .returned (.tuple #[.slice a (nearL s t).length c, .int .i64 0]) ∧ Hid (IsSs w' (.slice a (nearL s t).length c) ((nearL s t).map (serB s.al s.ck))) ∧ Hid (Below w.heap.size w w') := by
  refine (Near_yes hv hV ht).mono ?_
  rintro e w' ⟨L, a, c, rfl, hp, hs, hi, hb⟩
  have h1 := near_texts hV ht hp hs
  have h2 : (nearL s t).length = L.length := by
    have h3 := congrArg List.length h1
    rw [List.length_map, List.length_map] at h3
    exact h3.symm
  rw [h1] at hi
  rw [h2]
  exact ⟨a, c, rfl, hi, hb⟩
set_option maxRecDepth 100000 in
set_option maxHeartbeats 8000000 in
theorem serialNears_law {s : Sch} {bv : Value} {t : ByteArray} {w : World} (hv : IsSs w bv s.bl) (_hnil : NilOk bv) :
    Calls Try.prog 7 #[schV s bv, .string t] w fun e w' => e = .returned (.bool true) ∧ Hid (Below w.heap.size w w') := by
  obtain ⟨i0, hi0, hz0, hz1, hz2⟩ := info_parts Try.infoStrS
  have HAW := Lib.hid serawake_any
  obtain ⟨w1, hw1⟩ : ∃ w1, w1 = w.alloc (.cells #[.string s.al, .int .i64 s.len, bv, .bool s.ck] 24) := ⟨_, rfl⟩
  have hb1 : Below w.heap.size w w1 := by rw [hw1]; exact below_al _ _
  have H41 : Hid (B4 w.heap.size (.string s.al) (.int .i64 s.len) bv (.bool s.ck) w1) := by rw [hw1]; exact B4.new _ _ _ _ _ _
  have HFW := few_any (s := s) (hv.below hb1)
  have HV1 := Lib.hid (hv.below hb1)
  have HB1 := Lib.hid hb1
  have HW1 := Lib.hid hw1
  obtain ⟨fb, hfb⟩ : ∃ fb, fb = fewB s := ⟨_, rfl⟩
  unfold FewP at HFW
  rw [← hfb] at HFW
  have HeS : Hid (∀ v, schV s v = .agg #[.string s.al, .int .i64 s.len, v, .bool s.ck]) := fun v => rfl
  unfold schV at HFW ⊢
  obtain ⟨bo, bc, hbv, -⟩ := hv
  obtain ⟨bm, hbm⟩ : ∃ bm, bm = s.bl.length := ⟨_, rfl⟩
  rw [← hbm] at hbv
  subst hbv
  have HFW := Lib.hid HFW
  obtain ⟨al, hal⟩ : ∃ al, al = s.al := ⟨_, rfl⟩
  obtain ⟨len, hlen⟩ : ∃ len, len = s.len := ⟨_, rfl⟩
  obtain ⟨ck, hck⟩ : ∃ ck, ck = s.ck := ⟨_, rfl⟩
  rw [← hal, ← hlen, ← hck] at H41 HW1 HFW HeS ⊢
  have HAL := Lib.hid hal
  have HLEN := Lib.hid hlen
  have HCK := Lib.hid hck
  clear hw1 hb1 hfb hbm hal hlen hck
  have k0 := H41.out.c0; have k1 := H41.out.c1; have k2 := H41.out.c2; have k3 := H41.out.c3
  go_enter Try.func7, Try.ntmps7
  go_upto_region 1 with fail
  rw [← HW1.out]
  cases fb with
  | false =>
    go_wp2_with (first
      | (go_at_call 16; (with_reducible refine HFW.out.mono ?_); rintro e w2 ⟨rfl, HBf⟩; have H42 := Lib.hid (H41.out.below HBf.out); have HV2 := Lib.hid (HV1.out.below HBf.out); have HB2 := Lib.hid (HB1.out.trans (HBf.out.mono HB1.out.size)); have a20 := H42.out.c0; have a21 := H42.out.c1; have a22 := H42.out.c2; have a23 := H42.out.c3)
      | fail)
    refine (HAW.out _).mono ?_
    rintro e wz ⟨rfl, HBz⟩
    go_wp2_with fail
    go_ret
    exact ⟨rfl, (HB2.out).trans (HBz.out.mono (HB2.out).size)⟩
  | true =>
  by_cases hbig : t.size > 100
  case pos =>
    have hbig1 : (t.size : Int) > 100 := by omega
    go_wp2_with (first
      | (go_at_call 16; (with_reducible refine HFW.out.mono ?_); rintro e w2 ⟨rfl, HBf⟩; have H42 := Lib.hid (H41.out.below HBf.out); have HV2 := Lib.hid (HV1.out.below HBf.out); have HB2 := Lib.hid (HB1.out.trans (HBf.out.mono HB1.out.size)); have a20 := H42.out.c0; have a21 := H42.out.c1; have a22 := H42.out.c2; have a23 := H42.out.c3)
      | fail)
    refine (HAW.out _).mono ?_
    rintro e wz ⟨rfl, HBz⟩
    go_wp2_with fail
    go_ret
    exact ⟨rfl, (HB2.out).trans (HBz.out.mono (HB2.out).size)⟩
  have hbig1 : ¬ (t.size : Int) > 100 := by omega
  have HSZ : Hid (t.size ≤ 100) := by show _ ≤ _; omega
  clear hbig
  by_cases hV : ValidS s
  case neg =>
    have HCK : Hid (∀ (W : World), IsSs W (.slice bo bm bc) s.bl → Calls Try.prog 19 #[.agg #[.string al, .int .i64 len, .slice bo bm bc, .bool ck]] W fun e w' => ∃ E : Int, e = .returned (.tuple #[.agg #[.slice none 0 0, .slice none 0 0, .slice none 0 0], .int .i64 E]) ∧ (E != 0) = true ∧ Hid (Below W.heap.size W w')) := fun W h => by rw [← HeS.out]; exact RCheck_no h hV
    clear hV
    go_wp2_with (first
      | (go_at_call 16; (with_reducible refine HFW.out.mono ?_); rintro e w2 ⟨rfl, HBf⟩; have H42 := Lib.hid (H41.out.below HBf.out); have HV2 := Lib.hid (HV1.out.below HBf.out); have HB2 := Lib.hid (HB1.out.trans (HBf.out.mono HB1.out.size)); have a20 := H42.out.c0; have a21 := H42.out.c1; have a22 := H42.out.c2; have a23 := H42.out.c3; have HCK2 := Lib.hid (HCK.out _ HV2.out))
      | (go_at_call 19; (with_reducible refine HCK2.out.mono ?_); rintro e wa ⟨E, rfl, hE, HBa⟩; have HBA := Lib.hid (HB2.out.trans (HBa.out.mono HB2.out.size)))
      | fail)
    have HBC := Lib.hid (HBA.out.trans ((below_al wa (.cells #[.slice none 0 0, .slice none 0 0, .slice none 0 0] 30)).mono HBA.out.size))
    refine (HAW.out _).mono ?_
    rintro e wz ⟨rfl, HBz⟩
    go_wp2_with fail
    go_ret
    exact ⟨rfl, (HBC.out).trans (HBz.out.mono (HBC.out).size)⟩
  have HVS := Lib.hid hV
  have HCK : Hid (∀ (W : World), IsSs W (.slice bo bm bc) s.bl → Calls Try.prog 19 #[.agg #[.string al, .int .i64 len, .slice bo bm bc, .bool ck]] W fun e w' => ∃ ba nb bcp na k nc ya n1 yc, e = .returned (.tuple #[.agg #[.slice ba nb bcp, .slice na k nc, .slice ya n1 yc], .int .i64 0]) ∧ Hid (TabV s w' (.slice ba nb bcp) na nc ya yc) ∧ Hid (k = (LD s).length ∧ n1 = nS s + 1) ∧ Hid (Below W.heap.size W w')) := fun W h => by rw [← HeS.out]; exact RCheck_yes h hV
  go_upto_region 4 with (first
      | (go_at_call 16; (with_reducible refine HFW.out.mono ?_); rintro e w2 ⟨rfl, HBf⟩; have H42 := Lib.hid (H41.out.below HBf.out); have HV2 := Lib.hid (HV1.out.below HBf.out); have HB2 := Lib.hid (HB1.out.trans (HBf.out.mono HB1.out.size)); have a20 := H42.out.c0; have a21 := H42.out.c1; have a22 := H42.out.c2; have a23 := H42.out.c3; have HCK2 := Lib.hid (HCK.out _ HV2.out))
      | (go_at_call 19; (with_reducible refine HCK2.out.mono ?_); rintro e wa ⟨ba, nb, bcp, na, k, nc, ya, n1, yc, rfl, HTa, HKN, HBa⟩; have HBA := Lib.hid (HB2.out.trans (HBa.out.mono HB2.out.size)))
      | fail)
  obtain ⟨w3, hw3⟩ : ∃ w3, w3 = wa.alloc (.cells #[.slice ba nb bcp, .slice na k nc, .slice ya n1 yc] 30) := ⟨_, rfl⟩
  have hb3 := below_al wa (.cells #[.slice ba nb bcp, .slice na k nc, .slice ya n1 yc] 30)
  rw [← hw3] at hb3
  rw [← hw3]
  have H43 := Lib.hid ((H42.out.below HBa.out).below hb3)
  have HV3 := Lib.hid ((HV2.out.below HBa.out).below hb3)
  have HB3 := Lib.hid (HBA.out.trans (hb3.mono HBA.out.size))
  clear hw3 hb3 a20 a21 a22 a23 k0 k1 k2 k3
  have a30 := H43.out.c0; have a31 := H43.out.c1; have a32 := H43.out.c2; have a33 := H43.out.c3
  have HSMA : Hid (∀ W, IsSs W (.slice bo bm bc) s.bl → Calls Try.prog 34 #[.agg #[.string al, .int .i64 len, .slice bo bm bc, .bool ck], .int .i64 4000] W fun e w' => ∃ r : Bool, e = .returned (.bool r) ∧ Hid (r = true ↔ s.al.size ^ nS s ≤ 4000) ∧ Hid (Below W.heap.size W w')) := fun W _ => by
    rw [← HeS.out]
    exact (Small_any (s := s) (M := 4000) hV.1 (by decide)).mono fun e w' ⟨r, h1, h2, h3⟩ => ⟨r, h1, h2, h3⟩
  by_cases hsm : s.al.size ^ nS s ≤ 4000
  case neg =>
    have HS3 : Hid (Calls Try.prog 34 #[.agg #[.string al, .int .i64 len, .slice bo bm bc, .bool ck], .int .i64 4000] w3 fun e w' => e = .returned (.bool false) ∧ Hid (Below w3.heap.size w3 w')) := by
      refine (HSMA.out _ HV3.out).mono ?_
      rintro e w' ⟨r, rfl, hr, hb⟩
      cases r with
      | true => exact absurd (hr.out.1 rfl) hsm
      | false => exact ⟨rfl, hb⟩
    clear hV hsm
    go_wp2_with (first
      | (go_at_call 34; (with_reducible refine HS3.out.mono ?_); rintro e w4 ⟨rfl, HBb⟩; have H44 := Lib.hid (H43.out.below HBb.out); have HV4 := Lib.hid (HV3.out.below HBb.out); have HB4 := Lib.hid (HB3.out.trans (HBb.out.mono HB3.out.size)); have a40 := H44.out.c0; have a41 := H44.out.c1; have a42 := H44.out.c2; have a43 := H44.out.c3)
      | fail)
    refine (HAW.out _).mono ?_
    rintro e wz ⟨rfl, HBz⟩
    go_wp2_with fail
    go_ret
    exact ⟨rfl, (HB4.out).trans (HBz.out.mono (HB4.out).size)⟩
  have HS3 : Hid (Calls Try.prog 34 #[.agg #[.string al, .int .i64 len, .slice bo bm bc, .bool ck], .int .i64 4000] w3 fun e w' => e = .returned (.bool true) ∧ Hid (Below w3.heap.size w3 w')) := by
    refine (HSMA.out _ HV3.out).mono ?_
    rintro e w' ⟨r, rfl, hr, hb⟩
    cases r with
    | false => exact absurd (hr.out.2 hsm) (by decide)
    | true => exact ⟨rfl, hb⟩
  have HSM := Lib.hid hsm
  have HSYr : Hid (∀ W, IsSs W (.slice bo bm bc) s.bl → Calls Try.prog 38 #[.agg #[.string al, .int .i64 len, .slice bo bm bc, .bool ck], .string t] W fun e w' => ∃ r : Bool, e = .returned (.bool r) ∧ Hid (r = true ↔ (t.size = szN (nS s) s.ck ∧ OfA t s.al)) ∧ Hid (Below W.heap.size W w')) := fun W _ => by rw [← HeS.out]; exact RSyntax_any HVS.out.1 (by have := HSZ.out; omega)
  by_cases ht : t.size = szN (nS s) s.ck ∧ OfA t s.al
  case neg =>
    have HN : Hid (∀ W, IsSs W (.slice bo bm bc) s.bl → Calls Try.prog 30 #[.agg #[.string al, .int .i64 len, .slice bo bm bc, .bool ck], .string t] W fun e w' => e = .returned (.tuple #[.slice none 0 0, .int .i64 4]) ∧ Hid (Below W.heap.size W w')) := fun W h => by rw [← HeS.out]; exact N_no h hV ht
    have HSY : Hid (∀ W, IsSs W (.slice bo bm bc) s.bl → Calls Try.prog 38 #[.agg #[.string al, .int .i64 len, .slice bo bm bc, .bool ck], .string t] W fun e w' => e = .returned (.bool false) ∧ Hid (Below W.heap.size W w')) := fun W h => by
      refine (HSYr.out W h).mono ?_
      rintro e w' ⟨r, rfl, hr, hb⟩
      cases r with
      | true => exact absurd (hr.out.1 rfl) ht
      | false => exact ⟨rfl, hb⟩
    clear hV hsm ht
    go_wp2_with (first
      | (go_at_call 34; (with_reducible refine HS3.out.mono ?_); rintro e w4 ⟨rfl, HBb⟩; have H44 := Lib.hid (H43.out.below HBb.out); have HV4 := Lib.hid (HV3.out.below HBb.out); have HB4 := Lib.hid (HB3.out.trans (HBb.out.mono HB3.out.size)); have a40 := H44.out.c0; have a41 := H44.out.c1; have a42 := H44.out.c2; have a43 := H44.out.c3; have HN4 := Lib.hid (HN.out _ HV4.out))
      | (go_at_call 30; (with_reducible refine HN4.out.mono ?_); rintro e w5 ⟨rfl, HBc⟩; have H45 := Lib.hid (H44.out.below HBc.out); have HV5 := Lib.hid (HV4.out.below HBc.out); have HB5 := Lib.hid (HB4.out.trans (HBc.out.mono HB4.out.size)); have a50 := H45.out.c0; have a51 := H45.out.c1; have a52 := H45.out.c2; have a53 := H45.out.c3; have HSY5 := Lib.hid (HSY.out _ HV5.out))
      | (go_at_call 38; (with_reducible refine HSY5.out.mono ?_); rintro e w6 ⟨rfl, HBd⟩; have H46 := Lib.hid (H45.out.below HBd.out); have HV6 := Lib.hid (HV5.out.below HBd.out); have HB6 := Lib.hid (HB5.out.trans (HBd.out.mono HB5.out.size)); have a60 := H46.out.c0; have a61 := H46.out.c1; have a62 := H46.out.c2; have a63 := H46.out.c3)
      | fail)
    refine (HAW.out _).mono ?_
    rintro e wz ⟨rfl, HBz⟩
    go_wp2_with fail
    go_ret
    exact ⟨rfl, (HB6.out).trans (HBz.out.mono (HB6.out).size)⟩
  have HTM := Lib.hid ht
  obtain ⟨M, hM⟩ : ∃ M, M = (nearL s t).length := ⟨_, rfl⟩
  have HN : Hid (∀ W, IsSs W (.slice bo bm bc) s.bl → Calls Try.prog 30 #[.agg #[.string al, .int .i64 len, .slice bo bm bc, .bool ck], .string t] W fun e w' => ∃ la lc, e = .returned (.tuple #[.slice la M lc, .int .i64 0]) ∧ Hid (IsSs w' (.slice la M lc) ((nearL s t).map (serB s.al s.ck))) ∧ Hid (Below W.heap.size W w')) := fun W h => by rw [← HeS.out, hM]; exact N_yes h hV ht
  have HSY : Hid (∀ W, IsSs W (.slice bo bm bc) s.bl → Calls Try.prog 38 #[.agg #[.string al, .int .i64 len, .slice bo bm bc, .bool ck], .string t] W fun e w' => e = .returned (.bool true) ∧ Hid (Below W.heap.size W w')) := fun W h => by
    refine (HSYr.out W h).mono ?_
    rintro e w' ⟨r, rfl, hr, hb⟩
    cases r with
    | false => exact absurd (hr.out.2 ht) (by decide)
    | true => exact ⟨rfl, hb⟩
  obtain ⟨T, hT⟩ : ∃ T, T = (wordsS s).length := ⟨_, rfl⟩
  have HTT := Lib.hid hT
  have HAL : Hid (∀ W, IsSs W (.slice bo bm bc) s.bl → Calls Try.prog 36 #[.agg #[.string al, .int .i64 len, .slice bo bm bc, .bool ck]] W fun e w' => ∃ ao ac, e = .returned (.slice ao T ac) ∧ Hid (IsSs w' (.slice ao T ac) ((wordsS s).map (serB s.al s.ck))) ∧ Hid (Below W.heap.size W w')) := fun W h => by
    rw [← HeS.out]
    refine (RAll_any HVS.out.1 h HSM.out).mono ?_
    rintro e w' ⟨v, rfl, hv2, hb⟩
    have hv3 := hv2.out
    obtain ⟨ao, ac, rfl, -⟩ := hv3
    rw [List.length_map, ← hT] at hv2 ⊢
    exact ⟨ao, ac, rfl, hv2, hb⟩
  have hTl : T ≤ 4000 := by
    rw [hT, wordsS_filter HVS.out.1]
    exact Nat.le_trans (List.length_filter_le _ _) (by rw [allW_len]; exact HSM.out)
  have HNT : Hid (((nearL s t).map (serB s.al s.ck)).length ≤ 4000) := by
    show _ ≤ _
    rw [List.length_map]
    exact Nat.le_trans (List.length_filter_le _ _) (by rw [← hT]; exact hTl)
  clear hV hsm ht hM hT
  go_upto_region 10 with (first
      | (go_at_call 34; (with_reducible refine HS3.out.mono ?_); rintro e w4 ⟨rfl, HBb⟩; have H44 := Lib.hid (H43.out.below HBb.out); have HV4 := Lib.hid (HV3.out.below HBb.out); have HB4 := Lib.hid (HB3.out.trans (HBb.out.mono HB3.out.size)); have a40 := H44.out.c0; have a41 := H44.out.c1; have a42 := H44.out.c2; have a43 := H44.out.c3; have HN4 := Lib.hid (HN.out _ HV4.out))
      | (go_at_call 30; (with_reducible refine HN4.out.mono ?_); rintro e w5 ⟨la, lc, rfl, HLS5, HBc⟩; have H45 := Lib.hid (H44.out.below HBc.out); have HV5 := Lib.hid (HV4.out.below HBc.out); have HB5 := Lib.hid (HB4.out.trans (HBc.out.mono HB4.out.size)); have a50 := H45.out.c0; have a51 := H45.out.c1; have a52 := H45.out.c2; have a53 := H45.out.c3; have HSY5 := Lib.hid (HSY.out _ HV5.out))
      | (go_at_call 38; (with_reducible refine HSY5.out.mono ?_); rintro e w6 ⟨rfl, HBd⟩; have H46 := Lib.hid (H45.out.below HBd.out); have HV6 := Lib.hid (HV5.out.below HBd.out); have HB6 := Lib.hid (HB5.out.trans (HBd.out.mono HB5.out.size)); have a60 := H46.out.c0; have a61 := H46.out.c1; have a62 := H46.out.c2; have a63 := H46.out.c3; have HLS6 := Lib.hid (HLS5.out.below HBd.out); have HAL6 := Lib.hid (HAL.out _ HV6.out))
      | (go_at_call 36; (with_reducible refine HAL6.out.mono ?_); rintro e w9 ⟨ao, ac, rfl, HIS, HBg⟩; have HB9 := Lib.hid (HB6.out.trans (HBg.out.mono HB6.out.size)); have HLS9 := Lib.hid (HLS6.out.below HBg.out))
      | fail)
  clear a30 a31 a32 a33 a40 a41 a42 a43 a50 a51 a52 a53 a60 a61 a62 a63
  obtain ⟨pp, hpp⟩ : ∃ pp : List Nat → Bool, pp = fun u => decide (apT (serB s.al s.ck u) t (serB s.al s.ck u).size = 1) := ⟨_, rfl⟩
  have HPP := Lib.hid hpp
  have HNL : Hid (nearL s t = (wordsS s).filter pp) := by show _ = _; rw [hpp]; rfl
  clear hpp
  go_wp2_with fail
  go_loopw [10, 11] (fun s10 s11 wr => ∃ (i lo : Nat) (oo : Option Addr) (oc : Nat), i ≤ T ∧ s10 = .slice oo lo oc ∧ s11 = .int .i64 i ∧ Hid (StrR w9.heap.size s.al s.ck (.slice oo lo oc) lo (((wordsS s).take i).filter pp) wr) ∧ Hid (Below w9.heap.size w9 wr)) (fun _ s11 _ => T - (intOf s11).toNat)
  case atStart => exact ⟨0, 0, none, 0, Nat.zero_le _, rfl, rfl, ⟨by simp; exact World.ownsRow_nil _ _ _ _, by simp⟩, Below.refl _ _⟩
  case round =>
    obtain ⟨i, lo, oo, oc, hi, rfl, rfl, HR, HBR⟩ := hrel
    have HBX := Lib.hid (HB9.out.trans (HBR.out.mono HB9.out.size))
    by_cases q : i < T
    · have q1 : (i : Int) < (T : Int) := by omega
      have hiT : i < (wordsS s).length := by rw [← HTT.out]; exact q
      obtain ⟨B, o, hao, d1⟩ := HIS.out.at' (j := i) (by rw [List.length_map]; exact hiT)
      rw [List.getElem_map] at d1
      obtain ⟨Y, hY⟩ : ∃ Y, Y = serB s.al s.ck (wordsS s)[i] := ⟨_, rfl⟩
      rw [← hY] at d1
      have HD1 : Hid (∀ V, Below w9.heap.size w9 V → V.cell? ⟨B, o + i, none⟩ = some (.string Y)) := fun V hV => (hV.cell (p := ⟨B, o + i, none⟩) (World.block_lt_of_cell? _ _ d1)).trans d1
      have d2 := HD1.out _ HBR.out
      obtain ⟨hum1, -, -⟩ := wordsS_mem (List.getElem_mem hiT)
      have hYs : t.size = Y.size := by rw [hY, serB_size _ _ _ hum1, HTM.out.1]
      have hYl : Y.size ≤ 1000 := by have := HSZ.out; omega
      obtain ⟨av, hav⟩ : ∃ av, av = apT Y t Y.size := ⟨_, rfl⟩
      have HRA : Hid (∀ W, Calls Try.prog 39 #[.string Y, .string t] W fun e w' => e = .returned (.int .i64 (av : Int)) ∧ Hid (Below W.heap.size W w')) := fun W => by rw [hav]; exact RApart_any hYs hYl W
      obtain ⟨i1, hi1⟩ : ∃ i1, i1 = i + 1 := ⟨_, rfl⟩
      have hwi : IntKind.i64.wrap ((i : Int) + 1) = (i1 : Int) := by rw [IntWalk.i64_in _ (by omega)]; omega
      have him : T - i1 < T - i := by omega
      have hi1T : i1 ≤ T := by omega
      have HFT : Hid (((wordsS s).take i1).filter pp = ((wordsS s).take i).filter pp ++ (if pp (wordsS s)[i] then [(wordsS s)[i]] else [])) := by
        show _ = _
        rw [hi1, filter_take pp _ hiT]
      have hpv : pp (wordsS s)[i] = decide (av = 1) := by rw [HPP.out, hav, hY]
      have hlo : lo ≤ 4000 := by
        have h5 := HR.out.len
        have h6 : (((wordsS s).take i).filter pp).length ≤ ((wordsS s).take i).length := List.length_filter_le _ _
        rw [List.length_take] at h6
        omega
      by_cases e1 : av = 1
      · have e2 : ((av : Int) == 1) = true := by rw [e1]; rfl
        have HFT2 : Hid (((wordsS s).take i1).filter pp = ((wordsS s).take i).filter pp ++ [(wordsS s)[i]]) := by
          have h5 := HFT.out
          rw [hpv, decide_eq_true e1] at h5
          show _ = _
          simpa using h5
        obtain ⟨xs, hxs2⟩ : ∃ xs, xs = (((wordsS s).take i).filter pp).map fun u => Value.string (serB s.al s.ck u) := ⟨_, rfl⟩
        have HOW : Hid (wr.ownsRow w9.heap.size 9 1 (.slice oo lo oc) lo xs) := by rw [hxs2]; exact HR.out.own
        have HNX : Hid (∀ (w8 : World) v', w8.ownsRow w9.heap.size 9 1 v' (lo + 1) (xs ++ [.string Y]) → StrR w9.heap.size s.al s.ck v' (lo + 1) (((wordsS s).take i1).filter pp) w8) := fun w8 v' h8 => by
          refine ⟨?_, ?_⟩
          · rw [HFT2.out, List.map_append, ← hxs2]
            simpa [hY] using h8
          · rw [HFT2.out, List.length_append, ← HR.out.len]
            rfl
        subst hao
        clear hum1 hYs hYl hi1 hav hpv hxs2 e1 d1
        have HYY := Lib.hid hY
        clear hY
        have hsz9 := HBR.out.size
        go_wp2_with (first
          | (go_at_call 39; (with_reducible refine (HRA.out _).mono ?_); rintro e wq ⟨rfl, HBq⟩; have HBQ := Lib.hid (HBR.out.trans (HBq.out.mono HBR.out.size)); have d3 := HD1.out _ HBQ.out; have HOQ := Lib.hid (ownsRow_below HOW.out HBq.out); have hsq : w9.heap.size ≤ wq.heap.size + 1 := Nat.le_succ_of_le HBQ.out.size)
          | (at_builtin; refine wpList_append_own_at _ rfl _ _ 22 rfl w9.heap.size 9 i0 (.string ⟨#[]⟩) 1 16 Try.underlying22 hi0 hz0 hz1 hz2 rfl (by decide) (.slice oo lo oc) lo xs rfl (HOQ.out.alloc _) ⟨wq.heap.size, 0, none⟩ 1 1 [.string Y] rfl rfl (cell_one_new _ _ _) (by simp [Value.oneCell']) (by unfold maxLen; omega) (by omega) (by rw [World.size_alloc]; exact hsq) ?_; intro v' w8 hown hgrow _ _; obtain ⟨oo2, oc2, rfl⟩ := row_sl hown)
          | fail)
        have HO8 := Lib.hid (HNX.out _ _ hown)
        have HB8 : Hid (Below w9.heap.size w9 w8) := (HBQ.out.alloc HBQ.out.size _).grown hgrow (by rw [World.size_alloc]; exact hsq) (fun y hy => (HOQ.out.lt y hy).1)
        clear hown hgrow
        go_wp2_with fail
        go_roundw
        case rel => exact ⟨i1, _, oo2, oc2, hi1T, by first | rfl | go_num, by go_num, HO8, HB8⟩
        case measure => simp [intOf]; omega
      · have e2 : ((av : Int) == 1) = false := beq_eq_false_iff_ne.2 (by omega)
        have HFT2 : Hid (((wordsS s).take i1).filter pp = ((wordsS s).take i).filter pp) := by
          have h5 := HFT.out
          rw [hpv, decide_eq_false e1] at h5
          show _ = _
          simpa using h5
        subst hao
        have HYY := Lib.hid hY
        clear hY hum1 hYs hYl hi1 hav hpv e1 d1
        go_wp2_with (first
          | (go_at_call 39; (with_reducible refine (HRA.out _).mono ?_); rintro e wq ⟨rfl, HBq⟩; have HBQ := Lib.hid (HBR.out.trans (HBq.out.mono HBR.out.size)); have HRQ := Lib.hid (HR.out.below HBq.out))
          | fail)
        go_roundw
        case rel => exact ⟨i1, lo, oo, oc, hi1T, rfl, by go_num, by rw [HFT2.out]; exact HRQ.out, HBQ⟩
        case measure => simp [intOf]; omega
    · obtain rfl : i = T := by omega
      have q1 : ¬ (i : Int) < (i : Int) := by omega
      have HWS : Hid (IsSs wr (.slice oo lo oc) ((nearL s t).map (serB s.al s.ck))) := by
        have h5 := HR.out
        rw [List.take_of_length_le (by rw [← HTT.out]; exact Nat.le_refl _), ← HNL.out] at h5
        exact h5.isS
      have HSA := Lib.hid (same_big (HLS9.out.below HBR.out) HWS.out HNT.out)
      go_wp2_with (first
        | (go_at_call 23; (with_reducible refine HSA.out.mono ?_); rintro e wq ⟨rfl, HBq⟩; have HBQ := Lib.hid (HBX.out.trans (HBq.out.mono HBX.out.size)))
        | fail)
      refine (HAW.out _).mono ?_
      rintro e wz ⟨rfl, HBz⟩
      go_wp2_with fail
      go_ret
      exact ⟨rfl, HBQ.out.trans (HBz.out.mono HBQ.out.size)⟩
end Go.Proofs.Ytgblfobomiiofaa
