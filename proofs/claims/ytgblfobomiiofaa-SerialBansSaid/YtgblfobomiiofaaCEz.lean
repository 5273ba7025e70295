/- SerialBans: what Check and Complete answer, by cases. -/
import Derived.Test.YtgblfobomiiofaaTSerA
namespace Go.Proofs.Ytgblfobomiiofaa
open Go Go.RowKit Go.Shelf Gw Go.Maps

theorem Check_yes {s : Sch} {bv : Value} {w : World} (hv : IsSs w bv s.bl) (hV : ValidS s) : Calls Try.prog 20 #[schV s bv] w fun e w' => e = .returned (.int .i64 0) ∧ Hid (Below w.heap.size w w') := by
  refine (Check_any hv).mono ?_
  rintro e w' ⟨hb, ⟨hn, _⟩ | ⟨_, hn, _⟩ | ⟨_, rfl⟩⟩
  · exact absurd hV.1 hn
  · exact absurd hV.2 hn
  · exact ⟨rfl, hb⟩
theorem Check_no {s : Sch} {bv : Value} {w : World} (hv : IsSs w bv s.bl) (hV : ¬ ValidS s) : Calls Try.prog 20 #[schV s bv] w fun e w' => ∃ E : Int, e = .returned (.int .i64 E) ∧ (E != 0) = true ∧ Hid (Below w.heap.size w w') := by
  refine (Check_any hv).mono ?_
  rintro e w' ⟨hb, ⟨_, rfl⟩ | ⟨_, _, rfl⟩ | ⟨hn, _⟩⟩
  · exact ⟨_, rfl, rfl, hb⟩
  · exact ⟨_, rfl, rfl, hb⟩
  · exact absurd hn hV
section
variable {s : Sch} {bv : Value} {t : ByteArray} {w : World} (hv : IsSs w bv s.bl) (hV : ValidS s)
include hv hV
theorem Comp_syn (h : ¬ (t.size = nS s ∧ OfA t s.al)) : Calls Try.prog 26 #[schV s bv, .string t] w fun e w' => e = .returned (.tuple #[.string ⟨#[]⟩, .int .i64 4]) ∧ Hid (Below w.heap.size w w') := by
  refine (Complete_any hv).mono ?_
  rintro e w' ⟨hb, ⟨hn, _⟩ | ⟨_, hn, _⟩ | ⟨_, _, rfl⟩ | ⟨_, h2, _⟩ | ⟨_, h2, _⟩⟩
  · exact absurd hV.1 hn
  · exact absurd hV.2 hn
  · exact ⟨rfl, hb⟩
  · exact absurd h2 h
  · exact absurd h2 h
theorem Comp_ban (h : t.size = nS s ∧ OfA t s.al) (h2 : ¬ AllowW (bansS s) (wordN s.al t)) : Calls Try.prog 26 #[schV s bv, .string t] w fun e w' => e = .returned (.tuple #[.string ⟨#[]⟩, .int .i64 21]) ∧ Hid (Below w.heap.size w w') := by
  refine (Complete_any hv).mono ?_
  rintro e w' ⟨hb, ⟨hn, _⟩ | ⟨_, hn, _⟩ | ⟨_, hn, _⟩ | ⟨_, _, _, rfl⟩ | ⟨_, _, h3, _⟩⟩
  · exact absurd hV.1 hn
  · exact absurd hV.2 hn
  · exact absurd h hn
  · exact ⟨rfl, hb⟩
  · exact absurd h3 h2
theorem Comp_ok (h : t.size = nS s ∧ OfA t s.al) (h2 : AllowW (bansS s) (wordN s.al t)) : Calls Try.prog 26 #[schV s bv, .string t] w fun e w' => e = .returned (.tuple #[.string (serB s.al s.ck (wordN s.al t)), .int .i64 0]) ∧ Hid (Below w.heap.size w w') := by
  refine (Complete_any hv).mono ?_
  rintro e w' ⟨hb, ⟨hn, _⟩ | ⟨_, hn, _⟩ | ⟨_, hn, _⟩ | ⟨_, _, h3, _⟩ | ⟨_, _, _, rfl⟩⟩
  · exact absurd hV.1 hn
  · exact absurd hV.2 hn
  · exact absurd h hn
  · exact absurd h2 h3
  · exact ⟨rfl, hb⟩
end
/-- a string's values stand in a text's exactly where the string stands in the text -/
theorem infix_word {al b t : ByteArray} (hb : OfA b al) (ht : OfA t al) : wordN al b <:+: wordN al t ↔ bys b <:+: bys t := by
  constructor
  · intro h
    have h2 := h.map (fun i => (bys al).getD i 0)
    have back : ∀ {x : ByteArray}, OfA x al → (wordN al x).map (fun i => (bys al).getD i 0) = bys x := fun {x} hx => by
      unfold wordN
      rw [List.map_map]
      conv => rhs; rw [← List.map_id (bys x)]
      refine List.map_congr_left fun c hc => ?_
      have hl := List.idxOf_lt_length_of_mem (hx c hc)
      show (bys al).getD ((bys al).idxOf c) 0 = c
      rw [List.getD_eq_getElem?_getD, List.getElem?_eq_getElem hl, Option.getD_some]
      exact List.getElem_idxOf hl
    rwa [back hb, back ht] at h2
  · intro h
    exact h.map _
/-- the scheme with one more banned string -/
def moreS (s : Sch) (ban : ByteArray) : Sch := { s with bl := s.bl ++ [ban] }
theorem more_bans (s : Sch) (ban : ByteArray) : bansS (moreS s ban) = bansS s ++ [wordN s.al ban] := by unfold bansS moreS; simp
theorem more_allow {s : Sch} {ban : ByteArray} {u : List Nat} : AllowW (bansS (moreS s ban)) u ↔ AllowW (bansS s) u ∧ ¬ wordN s.al ban <:+: u := by
  rw [more_bans]
  unfold AllowW
  constructor
  · intro h
    exact ⟨fun b hb => h b (List.mem_append_left _ hb), h _ (List.mem_append_right _ (by simp))⟩
  · rintro ⟨h1, h2⟩ b hb
    rcases List.mem_append.1 hb with h | h
    · exact h1 b h
    · rw [show b = wordN s.al ban by simpa using h]; exact h2
theorem more_ban_of {s : Sch} {ban : ByteArray} (h : ValidS (moreS s ban)) : OfA ban s.al := by
  have h1 := h.1.2.2.2.1.2 s.bl.length (by unfold moreS; simp)
  have e : (moreS s ban).bl[s.bl.length]'(by unfold moreS; simp) = ban := by unfold moreS; simp
  rw [e] at h1
  exact h1.2.2
theorem IsSs.keptB {W0 W W' : World} {v : Value} {l : List ByteArray} {row : Option Nat} (h0 : IsSs W0 v l) (h : IsSs W v l) (hg : W.grownBy W' row) (hr : ∀ j, row = some j → W0.heap.size ≤ j) : IsSs W' v l := by
  obtain ⟨ao, c, rfl, h⟩ := h
  refine ⟨ao, c, rfl, fun hp => ?_⟩
  obtain ⟨B, o, rfl, hB, hc⟩ := h hp
  obtain ⟨ao', c', e, h0⟩ := h0
  obtain ⟨B', o', e2, hB', _⟩ := h0 hp
  rw [e2] at e
  injection e with e
  injection e with e
  injection e with e
  subst e
  exact ⟨B, o, rfl, Nat.lt_of_lt_of_le hB hg.size, fun j hj => hg.cell (hc j hj) (fun e => by have h9 : W0.heap.size ≤ B := hr _ e.symm; omega)⟩
theorem Allow_yes {s : Sch} {bv : Value} {t : ByteArray} {w : World} (hv : IsSs w bv s.bl) (ht : t.size ≤ 1000) (hb : ∀ b ∈ s.bl, b.size ≤ 1000) (hl : s.bl.length ≤ 1000) (h : AllowT s.bl t) :
    Calls Try.prog 44 #[schV s bv, .string t] w fun e w' => e = .returned (.bool true) ∧ Hid (Below w.heap.size w w') := by
  refine (Allowed_any hv ht hb hl).mono ?_
  rintro e w' ⟨r, rfl, hr, hb⟩
  rw [hr.2 h]
  exact ⟨rfl, hb⟩
theorem Allow_no {s : Sch} {bv : Value} {t : ByteArray} {w : World} (hv : IsSs w bv s.bl) (ht : t.size ≤ 1000) (hb : ∀ b ∈ s.bl, b.size ≤ 1000) (hl : s.bl.length ≤ 1000) (h : ¬ AllowT s.bl t) :
    Calls Try.prog 44 #[schV s bv, .string t] w fun e w' => e = .returned (.bool false) ∧ Hid (Below w.heap.size w w') := by
  refine (Allowed_any hv ht hb hl).mono ?_
  rintro e w' ⟨r, rfl, hr, hb⟩
  cases r with
  | false => exact ⟨rfl, hb⟩
  | true => exact absurd (hr.1 rfl) h
set_option maxRecDepth 100000 in
set_option maxHeartbeats 4000000 in
theorem serialBans_law {s : Sch} {bv : Value} {ban body : ByteArray} {w : World} (hv : IsSs w bv s.bl) (hnil : NilOk bv) :
    Calls Try.prog 15 #[schV s bv, .string ban, .string body] w fun e w' => e = .returned (.bool true) ∧ Hid (Below w.heap.size w w') := by
  obtain ⟨i0, hi0, hz0, hz1, hz2⟩ := info_parts Try.infoStrS
  have HAW := Lib.hid serawake_any
  obtain ⟨w1, hw1⟩ : ∃ w1, w1 = w.alloc (.cells #[.string s.al, .int .i64 s.len, bv, .bool s.ck] 24) := ⟨_, rfl⟩
  have hb1 : Below w.heap.size w w1 := by rw [hw1]; exact below_al _ _
  have H4 : Hid (B4 w.heap.size (.string s.al) (.int .i64 s.len) bv (.bool s.ck) w1) := by rw [hw1]; exact B4.new _ _ _ _ _ _
  have HFW := Lib.hid (few_any (s := s) (hv.below hb1))
  have HV := Lib.hid (hv.below hb1)
  have HB1 := Lib.hid hb1
  have HW1 := Lib.hid hw1
  have HCP := Lib.hid (fun (W : World) (hW : Below w1.heap.size w1 W) (hl : s.bl.length ≤ 20) => copied_any (s := s) ((hv.below hb1).below hW) hnil hl)
  obtain ⟨bo, bc, rfl, -⟩ := hv
  obtain ⟨al, len, bl, ck⟩ := s
  unfold schV at HFW HCP ⊢
  dsimp only at *
  obtain ⟨m, hm⟩ : ∃ m, m = bl.length := ⟨_, rfl⟩
  rw [← hm] at HV HW1 H4 HFW HCP ⊢
  have HM := Lib.hid hm
  clear hw1 hb1 hm hnil
  have k0 := H4.out.c0; have k1 := H4.out.c1; have k2 := H4.out.c2; have k3 := H4.out.c3
  go_enter Try.func15, Try.ntmps15
  go_upto_region 1 with fail
  rw [← HW1.out]
  obtain ⟨fb, hfb⟩ : ∃ fb, fb = fewB ⟨al, len, bl, ck⟩ := ⟨_, rfl⟩
  unfold FewP at HFW
  rw [← hfb] at HFW
  cases fb with
  | false =>
    clear hfb
    go_wp2_with (first
      | (go_at_call 16; (with_reducible refine HFW.out.mono ?_); rintro e w2 ⟨rfl, HB2⟩)
      | fail)
    refine (HAW.out _).mono ?_
    rintro e wa ⟨rfl, HBa⟩
    go_wp2_with fail
    go_ret
    exact ⟨rfl, (HB1.out.trans (HB2.out.mono HB1.out.size)).trans (HBa.out.mono (HB1.out.trans (HB2.out.mono HB1.out.size)).size)⟩
  | true =>
  have hm20 : m ≤ 20 := by rw [HM.out]; exact fewB_len hfb.symm
  clear hfb
  by_cases p1 : ban.size > 8
  · have p2 : (ban.size : Int) > 8 := by omega
    go_wp2_with (first
      | (go_at_call 16; (with_reducible refine HFW.out.mono ?_); rintro e w2 ⟨rfl, HB2⟩)
      | fail)
    refine (HAW.out _).mono ?_
    rintro e wa ⟨rfl, HBa⟩
    go_wp2_with fail
    go_ret
    exact ⟨rfl, (HB1.out.trans (HB2.out.mono HB1.out.size)).trans (HBa.out.mono (HB1.out.trans (HB2.out.mono HB1.out.size)).size)⟩
  have p2 : ¬ (ban.size : Int) > 8 := by omega
  by_cases p3 : body.size > 100
  · have p4 : (body.size : Int) > 100 := by omega
    go_wp2_with (first
      | (go_at_call 16; (with_reducible refine HFW.out.mono ?_); rintro e w2 ⟨rfl, HB2⟩)
      | fail)
    refine (HAW.out _).mono ?_
    rintro e wa ⟨rfl, HBa⟩
    go_wp2_with fail
    go_ret
    exact ⟨rfl, (HB1.out.trans (HB2.out.mono HB1.out.size)).trans (HBa.out.mono (HB1.out.trans (HB2.out.mono HB1.out.size)).size)⟩
  have p4 : ¬ (body.size : Int) > 100 := by omega
  go_upto_region 3 with (first
    | (go_at_call 16; (with_reducible refine HFW.out.mono ?_); rintro e w2 ⟨rfl, HB2⟩)
    | fail)
  have H42 := Lib.hid (H4.out.below HB2.out)
  have HV2 := Lib.hid (HV.out.below HB2.out)
  have HCP2 := Lib.hid (HCP.out w2 HB2.out hm20)
  have HB2w := Lib.hid (HB1.out.trans (HB2.out.mono HB1.out.size))
  have HV1 := Lib.hid HV.out
  have hw12 : w1.heap.size ≤ w2.heap.size := HB2.out.size
  clear k0 k1 k2 k3 HFW HCP H4 HV HB2 HB1
  have k0 := H42.out.c0; have k1 := H42.out.c1; have k2 := H42.out.c2; have k3 := H42.out.c3
  unfold CopyP at HCP2
  unfold schV at HCP2
  dsimp only at HCP2
  rw [← HM.out] at HCP2
  go_upto_region 4 with (first
    | (go_at_call 18; (with_reducible refine HCP2.out.mono ?_); rintro e w3 ⟨cv, rfl, hrow, hb3⟩; obtain ⟨so, sc, rfl⟩ := row_sl hrow; have HROW := Lib.hid hrow; have HB3 := Lib.hid hb3; clear hrow hb3)
    | fail)
  have H43 := Lib.hid (H42.out.below HB3.out)
  have HV3 := Lib.hid (HV2.out.below HB3.out)
  have HB3w := Lib.hid (HB2w.out.trans (HB3.out.mono HB2w.out.size))
  obtain ⟨w4, hw4⟩ : ∃ w4, w4 = w3.alloc (.cells #[.string al, .int .i64 len, .slice so m sc, .bool ck] 24) := ⟨_, rfl⟩
  have hb4 : Below w3.heap.size w3 w4 := by rw [hw4]; exact below_al _ _
  obtain ⟨Y, hY⟩ : ∃ Y, Y = w3.heap.size := ⟨_, rfl⟩
  have HY4 : Hid (B4F Y (.string al) (.int .i64 len) (.slice so m sc) (.bool ck) w4) := by rw [hY, hw4]; exact B4F.new _ _ _ _ _ _
  have HROW4 := Lib.hid (ownsRow_below HROW.out hb4)
  have H44 := Lib.hid (H43.out.below hb4)
  have HV4 := Lib.hid (HV3.out.below hb4)
  have HB4 := Lib.hid (HB3w.out.trans (hb4.mono HB3w.out.size))
  have h23 : w2.heap.size ≤ w3.heap.size := HB3.out.size
  have h34 : w3.heap.size ≤ w4.heap.size := hb4.size
  have hXY : w.heap.size < Y := by rw [hY]; exact H43.out.lt
  have hYo : ∀ j, (Value.slice so m sc).ownBlock = some j → j < Y := fun j hj => by rw [hY]; exact (HROW.out.lt j hj).2
  have hXw2 : w.heap.size < w2.heap.size := H42.out.lt
  have HYO := Lib.hid hYo
  have h2Y : w2.heap.size ≤ Y := by rw [hY]; exact h23
  have hY4 : Y < w4.heap.size := HY4.out.b.lt
  rw [← hw4, ← hY]
  clear hw4 hb4 hY k0 k1 k2 k3 H42 HV2 HB2w HB3 H43 HV3 HB3w HROW hYo HCP2
  have y0 := HY4.out.b.c0; have y1 := HY4.out.b.c1; have y2 := HY4.out.b.c2; have y3 := HY4.out.b.c3
  have g2 := HY4.out.fz 2
  have HML : Hid (m + 1 ≤ maxLen ∧ (m + 1) * 16 ≤ 140737488355328) := ⟨by unfold maxLen; omega, by omega⟩
  have HSZ : Hid (∀ o, w2.heap.size ≤ (w4.alloc o).heap.size) := fun o => by rw [World.size_alloc]; omega
  have HYN : Hid (some Y ≠ (Value.slice so m sc).ownBlock) := fun e => by have := HYO.out Y e.symm; omega
  have HXN : Hid (some w.heap.size ≠ (Value.slice so m sc).ownBlock) := fun e => by have := (HROW4.out.lt _ e.symm).1; omega
  go_upto_region 5 with (at_builtin; refine wpList_append_own_at _ rfl _ _ 22 rfl w2.heap.size 9 i0 (.string ⟨#[]⟩) 1 16 Try.underlying22 hi0 hz0 hz1 hz2 rfl (by decide) (.slice so m sc) m (bl.map Value.string) rfl (HROW4.out.alloc _) ⟨w4.heap.size, 0, none⟩ 1 1 [.string ban] rfl rfl (cell_one_new _ _ _) (by simp [Value.oneCell']) HML.out.1 HML.out.2 (HSZ.out _) ?_; intro v' w8 hown hgrow _ hat; have HAT := Lib.hid hat; clear hat; obtain ⟨so2, sc2, rfl⟩ := row_sl hown; have HROW8 := Lib.hid hown; have HGR := Lib.hid hgrow; have y28 := hgrow.cell ((below_al w4 _).cell (p := ⟨Y, 2, none⟩) hY4 |>.trans y2) HYN.out; have g28 := (World.frozen?_of_block (a := ⟨Y, 2, none⟩) (hgrow.block Y (Nat.lt_of_lt_of_le hY4 (by rw [World.size_alloc]; exact Nat.le_succ _)) HYN.out)).trans (((below_al w4 _).frozen (p := ⟨Y, 2, none⟩) hY4).trans g2); clear hown hgrow)
  obtain ⟨w9, hw9⟩ : ∃ w9, w9 = w8.setCell ⟨Y, 2, none⟩ (.slice so2 (m + 1) sc2) := ⟨_, rfl⟩
  have hYs : ∀ j, (Value.slice so2 (m + 1) sc2).ownBlock = some j → j ≠ Y := fun j hj => by
    rcases HAT.out with e | e
    · have := HYO.out j (e.symm.trans hj); omega
    · have e2 := e.symm.trans hj
      injection e2 with e2
      rw [World.size_alloc] at e2
      omega
  have HSET : Hid (w8.grownBy w9 (some Y)) := by rw [hw9]; exact grownBy_setCell w8 Y 2 _
  have HX8 : Hid (B4F Y (.string al) (.int .i64 len) (.slice so m sc) (.bool ck) w8) := (HY4.out.below (below_al w4 _)).kept HGR.out HYN.out
  have HY9 : Hid (B4 Y (.string al) (.int .i64 len) (.slice so2 (m + 1) sc2) (.bool ck) w9) := by rw [hw9]; exact (HX8.out.set2 _).b
  have b4k : ∀ {X' : Nat} {a b c d : Value} {W W' : World} {row : Option Nat}, B4 X' a b c d W → W.grownBy W' row → some X' ≠ row → B4 X' a b c d W' := fun h hg hne => ⟨hg.cell h.c0 hne, hg.cell h.c1 hne, hg.cell h.c2 hne, hg.cell h.c3 hne⟩
  have H49 : Hid (B4 w.heap.size (.string al) (.int .i64 len) (.slice bo m bc) (.bool ck) w9) := b4k (b4k (H44.out.below (below_al w4 _)) HGR.out HXN.out) HSET.out (fun e => by have := Option.some.inj e; omega)
  have HV9 : Hid (IsSs w9 (.slice bo m bc) bl) := HV1.out.keptB (HV1.out.keptB (HV4.out.below (below_al w4 _)) HGR.out (fun j hj => by have := (HROW4.out.lt j hj).1; omega)) HSET.out (fun j hj => by cases hj; omega)
  have HM9 : Hid (IsSs w9 (.slice so2 (m + 1) sc2) (bl ++ [ban])) := by
    have hr := HROW8.out.kept HSET.out (by
      cases hv : (Value.slice so2 (m + 1) sc2).ownBlock with
      | none => exact .inl rfl
      | some g => exact .inr (fun e => hYs g hv (Option.some.inj e)))
    have e1 : bl.map Value.string ++ [Value.string ban] = (bl ++ [ban]).map Value.string := by simp
    have e2 : m + 1 = (bl ++ [ban]).length := by rw [List.length_append, HM.out]; rfl
    rw [e1, e2] at hr
    rw [e2]
    exact isSs_of_row hr
  have HB9 : Hid (Below w.heap.size w w9) := by
    have h5 := HB4.out.alloc (Nat.le_trans (Nat.le_of_lt hXY) (Nat.le_of_lt hY4)) (.cells #[.string ban] 9)
    have h6 := h5.grown HGR.out h5.size (fun j hj => by have := (HROW4.out.lt j hj).1; omega)
    exact h6.grown HSET.out h6.size (fun j hj => by cases hj; omega)
  rw [← hw9]
  clear hw9 HAT HROW8 HGR y28 g28 y0 y1 y2 y3 g2 HYN HXN HSZ HML HY4 HROW4 H44 HV4 HB4 HYO hYs HSET HX8 b4k HV1
  have k0 := H49.out.c0; have k1 := H49.out.c1; have k2 := H49.out.c2; have k3 := H49.out.c3
  have y0 := HY9.out.c0; have y1 := HY9.out.c1; have y2 := HY9.out.c2; have y3 := HY9.out.c3
  obtain ⟨sS, hsS⟩ : ∃ sS : Sch, sS = ⟨al, len, bl, ck⟩ := ⟨_, rfl⟩
  obtain ⟨sM, hsM⟩ : ∃ sM : Sch, sM = moreS sS ban := ⟨_, rfl⟩
  have hMe : sM = ⟨al, len, bl ++ [ban], ck⟩ := by rw [hsM, hsS]; rfl
  have HSS := Lib.hid hsS
  have HSM := Lib.hid hMe
  have HSMm := Lib.hid hsM
  have hV9 : IsSs w9 (.slice bo m bc) sS.bl := by rw [hsS]; exact HV9.out
  have CV : ∀ {W : World} {v : Value}, IsSs W v bl → IsSs W v sS.bl := fun h => by rw [hsS]; exact h
  have CM : ∀ {W : World} {v : Value}, IsSs W v (bl ++ [ban]) → IsSs W v sM.bl := fun h => by rw [hMe]; exact h
  have HCV : Hid (∀ (W : World) (v : Value), IsSs W v bl → IsSs W v sS.bl) := fun W v h => CV h
  have HCM : Hid (∀ (W : World) (v : Value), IsSs W v (bl ++ [ban]) → IsSs W v sM.bl) := fun W v h => CM h
  have HeS : Hid (∀ v, schV sS v = .agg #[.string al, .int .i64 len, v, .bool ck]) := fun v => by rw [hsS]; rfl
  have HeM : Hid (∀ v, schV sM v = .agg #[.string al, .int .i64 len, v, .bool ck]) := fun v => by rw [hMe]; rfl
  clear hsS hsM hMe hV9 CV CM
  by_cases hV : ValidS sS
  case neg =>
    have HC9 := Check_no (HCV.out _ _ HV9.out) hV
    rw [HeS.out] at HC9
    have HC9 := Lib.hid HC9
    clear hV
    go_wp2_with (first
      | (go_at_call 20; (with_reducible refine HC9.out.mono ?_); rintro e wa ⟨E, rfl, hE, HBa⟩; have HBx := Lib.hid (HB9.out.trans (HBa.out.mono HB9.out.size)))
      | fail)
    refine (HAW.out _).mono ?_
    rintro e wb ⟨rfl, HBb⟩
    go_wp2_with fail
    go_ret
    exact ⟨rfl, HBx.out.trans (HBb.out.mono HBx.out.size)⟩
  have HC9 := Check_yes (HCV.out _ _ HV9.out) hV
  rw [HeS.out] at HC9
  have HC9 := Lib.hid HC9
  have HVS := Lib.hid hV
  clear hV
  by_cases hMV : ValidS sM
  case neg =>
    have HCN : Hid (∀ (W : World) (v : Value), IsSs W v (bl ++ [ban]) → Calls Try.prog 20 #[.agg #[.string al, .int .i64 len, v, .bool ck]] W fun e w' => ∃ E : Int, e = .returned (.int .i64 E) ∧ (E != 0) = true ∧ Hid (Below W.heap.size W w')) := fun W v h => by rw [← HeM.out v]; exact Check_no (HCM.out _ _ h) hMV
    clear hMV
    go_wp2_with (first
      | (go_at_call 20; (with_reducible refine HC9.out.mono ?_); rintro e wa ⟨rfl, HBa⟩; have H4A := Lib.hid (H49.out.below HBa.out); have HYA := Lib.hid (HY9.out.below HBa.out); have HVA := Lib.hid (HV9.out.below HBa.out); have HMA := Lib.hid (HM9.out.below HBa.out); have HBA := Lib.hid (HB9.out.trans (HBa.out.mono HB9.out.size)); have aA0 := H4A.out.c0; have aA1 := H4A.out.c1; have aA2 := H4A.out.c2; have aA3 := H4A.out.c3; have bA0 := HYA.out.c0; have bA1 := HYA.out.c1; have bA2 := HYA.out.c2; have bA3 := HYA.out.c3; have HCNa := Lib.hid (HCN.out _ _ HMA.out))
      | (go_at_call 20; (with_reducible refine HCNa.out.mono ?_); rintro e wb ⟨E, rfl, hE, HBb⟩; have HBx := Lib.hid (HBA.out.trans (HBb.out.mono HBA.out.size)))
      | fail)
    refine (HAW.out _).mono ?_
    rintro e wc ⟨rfl, HBc⟩
    go_wp2_with fail
    go_ret
    exact ⟨rfl, HBx.out.trans (HBc.out.mono HBx.out.size)⟩
  have HCY : Hid (∀ (W : World) (v : Value), IsSs W v (bl ++ [ban]) → Calls Try.prog 20 #[.agg #[.string al, .int .i64 len, v, .bool ck]] W fun e w' => e = .returned (.int .i64 0) ∧ Hid (Below W.heap.size W w')) := fun W v h => by rw [← HeM.out v]; exact Check_yes (HCM.out _ _ h) hMV
  have HVM := Lib.hid hMV
  clear hMV
  go_upto_region 7 with (first
    | (go_at_call 20; (with_reducible refine HC9.out.mono ?_); rintro e wa ⟨rfl, HBa⟩; have H4A := Lib.hid (H49.out.below HBa.out); have HYA := Lib.hid (HY9.out.below HBa.out); have HVA := Lib.hid (HV9.out.below HBa.out); have HMA := Lib.hid (HM9.out.below HBa.out); have HBA := Lib.hid (HB9.out.trans (HBa.out.mono HB9.out.size)); have aA0 := H4A.out.c0; have aA1 := H4A.out.c1; have aA2 := H4A.out.c2; have aA3 := H4A.out.c3; have bA0 := HYA.out.c0; have bA1 := HYA.out.c1; have bA2 := HYA.out.c2; have bA3 := HYA.out.c3; have HCYa := Lib.hid (HCY.out _ _ HMA.out))
    | (go_at_call 20; (with_reducible refine HCYa.out.mono ?_); rintro e wb ⟨rfl, HBb⟩; have H4B := Lib.hid (H4A.out.below HBb.out); have HYB := Lib.hid (HYA.out.below HBb.out); have HVB := Lib.hid (HVA.out.below HBb.out); have HMB := Lib.hid (HMA.out.below HBb.out); have HBB := Lib.hid (HBA.out.trans (HBb.out.mono HBA.out.size)); have aB0 := H4B.out.c0; have aB1 := H4B.out.c1; have aB2 := H4B.out.c2; have aB3 := H4B.out.c3; have bB0 := HYB.out.c0; have bB1 := HYB.out.c1; have bB2 := HYB.out.c2; have bB3 := HYB.out.c3)
    | fail)
  clear HC9 HCY HCYa H49 HY9 HV9 HM9 HB9 k0 k1 k2 k3 y0 y1 y2 y3 H4A HYA HVA HMA HBA aA0 aA1 aA2 aA3 bA0 bA1 bA2 bA3 HBa HBb
  have heq : nS sM = nS sS ∧ sM.al = sS.al ∧ sM.ck = sS.ck := by rw [HSMm.out]; exact ⟨rfl, rfl, rfl⟩
  have hal : sS.al = al := by rw [HSS.out]
  have HEQ := Lib.hid heq
  have HAL := Lib.hid hal
  clear heq hal
  by_cases hP : body.size = nS sS ∧ OfA body sS.al
  case neg =>
    have HK1 : Hid (∀ (W : World) (v : Value), IsSs W v bl → Calls Try.prog 26 #[.agg #[.string al, .int .i64 len, v, .bool ck], .string body] W fun e w' => e = .returned (.tuple #[.string ⟨#[]⟩, .int .i64 4]) ∧ Hid (Below W.heap.size W w')) := fun W v h => by rw [← HeS.out v]; exact Comp_syn (HCV.out _ _ h) HVS.out hP
    have HK2 : Hid (∀ (W : World) (v : Value), IsSs W v (bl ++ [ban]) → Calls Try.prog 26 #[.agg #[.string al, .int .i64 len, v, .bool ck], .string body] W fun e w' => e = .returned (.tuple #[.string ⟨#[]⟩, .int .i64 4]) ∧ Hid (Below W.heap.size W w')) := fun W v h => by rw [← HeM.out v]; exact Comp_syn (HCM.out _ _ h) HVM.out (by rw [HEQ.out.1, HEQ.out.2.1]; exact hP)
    have HK1b := Lib.hid (HK1.out _ _ HVB.out)
    clear hP
    go_wp2_with (first
          | (go_at_call 26; (with_reducible refine HK1b.out.mono ?_); rintro e wc ⟨rfl, HBc⟩; have H4C := Lib.hid (H4B.out.below HBc.out); have HYC := Lib.hid (HYB.out.below HBc.out); have HVC := Lib.hid (HVB.out.below HBc.out); have HMC := Lib.hid (HMB.out.below HBc.out); have HBC := Lib.hid (HBB.out.trans (HBc.out.mono HBB.out.size)); have aC0 := H4C.out.c0; have aC1 := H4C.out.c1; have aC2 := H4C.out.c2; have aC3 := H4C.out.c3; have bC0 := HYC.out.c0; have bC1 := HYC.out.c1; have bC2 := HYC.out.c2; have bC3 := HYC.out.c3; have HK2c := Lib.hid (HK2.out _ _ HMC.out))
          | (go_at_call 26; (with_reducible refine HK2c.out.mono ?_); rintro e wd ⟨rfl, HBd⟩; have HBx := Lib.hid (HBC.out.trans (HBd.out.mono HBC.out.size)))
          | fail)
    refine (HAW.out _).mono ?_
    rintro e wz ⟨rfl, HBz⟩
    go_wp2_with fail
    go_ret
    exact ⟨rfl, HBx.out.trans (HBz.out.mono HBx.out.size)⟩
  have HP := Lib.hid hP
  clear hP
  by_cases hA : AllowW (bansS sS) (wordN sS.al body)
  case neg =>
    have HK1 : Hid (∀ (W : World) (v : Value), IsSs W v bl → Calls Try.prog 26 #[.agg #[.string al, .int .i64 len, v, .bool ck], .string body] W fun e w' => e = .returned (.tuple #[.string ⟨#[]⟩, .int .i64 21]) ∧ Hid (Below W.heap.size W w')) := fun W v h => by rw [← HeS.out v]; exact Comp_ban (HCV.out _ _ h) HVS.out HP.out hA
    have HK2 : Hid (∀ (W : World) (v : Value), IsSs W v (bl ++ [ban]) → Calls Try.prog 26 #[.agg #[.string al, .int .i64 len, v, .bool ck], .string body] W fun e w' => e = .returned (.tuple #[.string ⟨#[]⟩, .int .i64 21]) ∧ Hid (Below W.heap.size W w')) := fun W v h => by rw [← HeM.out v]; exact Comp_ban (HCM.out _ _ h) HVM.out (by rw [HEQ.out.1, HEQ.out.2.1]; exact HP.out) (fun h2 => by rw [HSMm.out] at h2; exact hA (more_allow.1 h2).1)
    have HK1b := Lib.hid (HK1.out _ _ HVB.out)
    clear hA
    go_wp2_with (first
          | (go_at_call 26; (with_reducible refine HK1b.out.mono ?_); rintro e wc ⟨rfl, HBc⟩; have H4C := Lib.hid (H4B.out.below HBc.out); have HYC := Lib.hid (HYB.out.below HBc.out); have HVC := Lib.hid (HVB.out.below HBc.out); have HMC := Lib.hid (HMB.out.below HBc.out); have HBC := Lib.hid (HBB.out.trans (HBc.out.mono HBB.out.size)); have aC0 := H4C.out.c0; have aC1 := H4C.out.c1; have aC2 := H4C.out.c2; have aC3 := H4C.out.c3; have bC0 := HYC.out.c0; have bC1 := HYC.out.c1; have bC2 := HYC.out.c2; have bC3 := HYC.out.c3; have HK2c := Lib.hid (HK2.out _ _ HMC.out))
          | (go_at_call 26; (with_reducible refine HK2c.out.mono ?_); rintro e wd ⟨rfl, HBd⟩; have HBx := Lib.hid (HBC.out.trans (HBd.out.mono HBC.out.size)))
          | fail)
    refine (HAW.out _).mono ?_
    rintro e wz ⟨rfl, HBz⟩
    go_wp2_with fail
    go_ret
    exact ⟨rfl, HBx.out.trans (HBz.out.mono HBx.out.size)⟩
  obtain ⟨sr, hsr⟩ : ∃ sr, sr = serB al ck (wordN al body) := ⟨_, rfl⟩
  have hsrS : sr = serB sS.al sS.ck (wordN sS.al body) := by rw [hsr, HSS.out]
  have hsrM : sr = serB sM.al sM.ck (wordN sM.al body) := by rw [hsr, HSM.out]
  have HK1 : Hid (∀ (W : World) (v : Value), IsSs W v bl → Calls Try.prog 26 #[.agg #[.string al, .int .i64 len, v, .bool ck], .string body] W fun e w' => e = .returned (.tuple #[.string sr, .int .i64 0]) ∧ Hid (Below W.heap.size W w')) := fun W v h => by rw [← HeS.out v]; exact (by rw [hsrS]; exact Comp_ok (HCV.out _ _ h) HVS.out HP.out hA)
  have HK1b := Lib.hid (HK1.out _ _ HVB.out)
  have hban : OfA ban sS.al := by have h3 := HVM.out; rw [HSMm.out] at h3; exact more_ban_of h3
  have hinf : wordN sS.al ban <:+: wordN sS.al body ↔ bys ban <:+: bys body := infix_word hban HP.out.2
  have hAT : AllowT [ban] body ↔ ¬ wordN sS.al ban <:+: wordN sS.al body := by
    rw [hinf]
    unfold AllowT
    simp
  have hbs : body.size ≤ 1000 := by omega
  have hbb : ∀ b ∈ [ban], b.size ≤ 1000 := fun b hb => by rw [show b = ban by simpa using hb]; omega
  by_cases hI : wordN sS.al ban <:+: wordN sS.al body
  · have HK2 : Hid (∀ (W : World) (v : Value), IsSs W v (bl ++ [ban]) → Calls Try.prog 26 #[.agg #[.string al, .int .i64 len, v, .bool ck], .string body] W fun e w' => e = .returned (.tuple #[.string ⟨#[]⟩, .int .i64 21]) ∧ Hid (Below W.heap.size W w')) := fun W v h => by rw [← HeM.out v]; exact Comp_ban (HCM.out _ _ h) HVM.out (by rw [HEQ.out.1, HEQ.out.2.1]; exact HP.out) (fun h2 => by rw [HSMm.out] at h2; exact (more_allow.1 h2).2 hI)
    have HAO : Hid (∀ (W : World) (v : Value), IsSs W v [ban] → Calls Try.prog 44 #[.agg #[.string ⟨#[]⟩, .int .i64 0, v, .bool false], .string body] W fun e w' => e = .returned (.bool false) ∧ Hid (Below W.heap.size W w')) := fun W v h => Allow_no (s := ⟨⟨#[]⟩, 0, [ban], false⟩) h hbs hbb (by simp) (fun h2 => (hAT.1 h2) hI)
    clear hA hsr hsrS hsrM hban hinf hAT hbs hbb hI
    go_upto_region 12 with (first
          | (go_at_call 26; (with_reducible refine HK1b.out.mono ?_); rintro e wc ⟨rfl, HBc⟩; have H4C := Lib.hid (H4B.out.below HBc.out); have HYC := Lib.hid (HYB.out.below HBc.out); have HVC := Lib.hid (HVB.out.below HBc.out); have HMC := Lib.hid (HMB.out.below HBc.out); have HBC := Lib.hid (HBB.out.trans (HBc.out.mono HBB.out.size)); have aC0 := H4C.out.c0; have aC1 := H4C.out.c1; have aC2 := H4C.out.c2; have aC3 := H4C.out.c3; have bC0 := HYC.out.c0; have bC1 := HYC.out.c1; have bC2 := HYC.out.c2; have bC3 := HYC.out.c3; have HK2c := Lib.hid (HK2.out _ _ HMC.out))
          | (go_at_call 26; (with_reducible refine HK2c.out.mono ?_); rintro e wd ⟨rfl, HBd⟩; have HBx := Lib.hid (HBC.out.trans (HBd.out.mono HBC.out.size)))
          | fail)
    have HSO := Lib.hid (isSs_one wd ban 9)
    obtain ⟨we, hwe⟩ : ∃ we, we = wd.alloc (.cells #[.string ban] 9) := ⟨_, rfl⟩
    have hbe : Below wd.heap.size wd we := by rw [hwe]; exact below_al _ _
    obtain ⟨wf, hwf⟩ : ∃ wf, wf = we.alloc (.cells #[.string ⟨#[]⟩, .int .i64 0, .slice (some ⟨wd.heap.size, 0, none⟩) 1 1, .bool false] 24) := ⟨_, rfl⟩
    have hbf : Below we.heap.size we wf := by rw [hwf]; exact below_al _ _
    have se : we.heap.size = wd.heap.size + 1 := by rw [hwe]; exact World.size_alloc _ _
    have HZ : Hid (B4 (wd.heap.size + 1) (.string ⟨#[]⟩) (.int .i64 0) (.slice (some ⟨wd.heap.size, 0, none⟩) 1 1) (.bool false) wf) := by rw [hwf, ← se]; exact B4.new _ _ _ _ _ _
    have HBy := Lib.hid (HBx.out.trans ((hbe.trans (hbf.mono hbe.size)).mono HBx.out.size))
    rw [← hwe] at HSO
    have HAO2 := Lib.hid (HAO.out wf _ (HSO.out.below hbf))
    rw [← hwe, ← hwf]
    clear hwe hwf hbe hbf se HSO HAO
    have z0 := HZ.out.c0; have z1 := HZ.out.c1; have z2 := HZ.out.c2; have z3 := HZ.out.c3
    go_wp2_with (first
      | (go_at_call 44; (with_reducible refine HAO2.out.mono ?_); rintro e wg ⟨rfl, HBg⟩; have HBw := Lib.hid (HBy.out.trans (HBg.out.mono HBy.out.size)))
      | fail)
    refine (HAW.out _).mono ?_
    rintro e wz ⟨rfl, HBz⟩
    go_wp2_with fail
    go_ret
    exact ⟨rfl, HBw.out.trans (HBz.out.mono HBw.out.size)⟩
  · have HK2 : Hid (∀ (W : World) (v : Value), IsSs W v (bl ++ [ban]) → Calls Try.prog 26 #[.agg #[.string al, .int .i64 len, v, .bool ck], .string body] W fun e w' => e = .returned (.tuple #[.string sr, .int .i64 0]) ∧ Hid (Below W.heap.size W w')) := fun W v h => by rw [← HeM.out v]; exact (by rw [hsrM]; exact Comp_ok (HCM.out _ _ h) HVM.out (by rw [HEQ.out.1, HEQ.out.2.1]; exact HP.out) (by rw [HSMm.out]; exact more_allow.2 ⟨hA, hI⟩))
    have HAO : Hid (∀ (W : World) (v : Value), IsSs W v [ban] → Calls Try.prog 44 #[.agg #[.string ⟨#[]⟩, .int .i64 0, v, .bool false], .string body] W fun e w' => e = .returned (.bool true) ∧ Hid (Below W.heap.size W w')) := fun W v h => Allow_yes (s := ⟨⟨#[]⟩, 0, [ban], false⟩) h hbs hbb (by simp) (hAT.2 hI)
    clear hA hsr hsrS hsrM hban hinf hAT hbs hbb hI
    go_upto_region 12 with (first
          | (go_at_call 26; (with_reducible refine HK1b.out.mono ?_); rintro e wc ⟨rfl, HBc⟩; have H4C := Lib.hid (H4B.out.below HBc.out); have HYC := Lib.hid (HYB.out.below HBc.out); have HVC := Lib.hid (HVB.out.below HBc.out); have HMC := Lib.hid (HMB.out.below HBc.out); have HBC := Lib.hid (HBB.out.trans (HBc.out.mono HBB.out.size)); have aC0 := H4C.out.c0; have aC1 := H4C.out.c1; have aC2 := H4C.out.c2; have aC3 := H4C.out.c3; have bC0 := HYC.out.c0; have bC1 := HYC.out.c1; have bC2 := HYC.out.c2; have bC3 := HYC.out.c3; have HK2c := Lib.hid (HK2.out _ _ HMC.out))
          | (go_at_call 26; (with_reducible refine HK2c.out.mono ?_); rintro e wd ⟨rfl, HBd⟩; have HBx := Lib.hid (HBC.out.trans (HBd.out.mono HBC.out.size)))
          | fail)
    have HSO := Lib.hid (isSs_one wd ban 9)
    obtain ⟨we, hwe⟩ : ∃ we, we = wd.alloc (.cells #[.string ban] 9) := ⟨_, rfl⟩
    have hbe : Below wd.heap.size wd we := by rw [hwe]; exact below_al _ _
    obtain ⟨wf, hwf⟩ : ∃ wf, wf = we.alloc (.cells #[.string ⟨#[]⟩, .int .i64 0, .slice (some ⟨wd.heap.size, 0, none⟩) 1 1, .bool false] 24) := ⟨_, rfl⟩
    have hbf : Below we.heap.size we wf := by rw [hwf]; exact below_al _ _
    have se : we.heap.size = wd.heap.size + 1 := by rw [hwe]; exact World.size_alloc _ _
    have HZ : Hid (B4 (wd.heap.size + 1) (.string ⟨#[]⟩) (.int .i64 0) (.slice (some ⟨wd.heap.size, 0, none⟩) 1 1) (.bool false) wf) := by rw [hwf, ← se]; exact B4.new _ _ _ _ _ _
    have HBy := Lib.hid (HBx.out.trans ((hbe.trans (hbf.mono hbe.size)).mono HBx.out.size))
    rw [← hwe] at HSO
    have HAO2 := Lib.hid (HAO.out wf _ (HSO.out.below hbf))
    rw [← hwe, ← hwf]
    clear hwe hwf hbe hbf se HSO HAO
    have z0 := HZ.out.c0; have z1 := HZ.out.c1; have z2 := HZ.out.c2; have z3 := HZ.out.c3
    go_wp2_with (first
      | (go_at_call 44; (with_reducible refine HAO2.out.mono ?_); rintro e wg ⟨rfl, HBg⟩; have HBw := Lib.hid (HBy.out.trans (HBg.out.mono HBy.out.size)))
      | fail)
    refine (HAW.out _).mono ?_
    rintro e wz ⟨rfl, HBz⟩
    go_wp2_with fail
    go_ret
    exact ⟨rfl, HBw.out.trans (HBz.out.mono HBw.out.size)⟩
end Go.Proofs.Ytgblfobomiiofaa
