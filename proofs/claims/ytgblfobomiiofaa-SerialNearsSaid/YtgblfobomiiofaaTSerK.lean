/- Contracts and lemmas (several texts merged into one). -/
import Derived.Test.YtgblfobomiiofaaTSerJ
namespace Go.Proofs.Ytgblfobomiiofaa
open Go Go.RowKit Go.Shelf Gw Go.Maps

/-- an append, and where the row lies -/
theorem wp_app_at {P : Program} {o : Oper} {a : Act} {w : World} {K : Act → World → Prop} {Q : Exit → Act → World → Prop} (s x : Operand) (t : TypeId)
    (ho : o.op = Op.call { callee := Callee.builtin Builtin.append, args := #[s, x], argTypes := #[t, t] })
    (base : Nat) (e : TypeId) (i : TypeInfo) (z : Value) (size bytes : Nat) (ht : P.underlying t = some (.slice e)) (hi : P.info? e = some i) (hz : i.zero = some z)
    (hsize : i.size = size) (hby : i.bytes = bytes) (hzs : z.cells.size = size) (hsz : 0 < size)
    (v : Value) (n : Nat) (xs : List Value) (hs : a.eval s = v) (hown : w.ownsRow base e size v n xs)
    (ad : Addr) (m c : Nat) (news : List Value) (hx : a.eval x = .slice (some ad) m c) (hl : news.length = m * size) (hnews : ∀ j u, news[j]? = some u → w.cell? (ad.add j) = some u) (h1 : ∀ u ∈ news, u.oneCell' = true)
    (h63 : n + m ≤ maxLen) (hbytes : (n + m) * bytes ≤ 140737488355328) (hbase : base ≤ w.heap.size)
    (hK : ∀ v' w', w'.ownsRow base e size v' (n + m) (xs ++ news) → w.grownBy w' v.ownBlock → (v'.ownBlock = v.ownBlock ∨ v'.ownBlock = some w.heap.size) → K (a.put o.dst v') w') :
    Oper.wp P o a w K Q := by
  obtain ⟨v', w', hr, h2, h3, _, h5⟩ := run_append_own_at (P := P) w base t o.type e i z size bytes ht hi hz hsize hby hzs hsz v n xs hown ad m c news hl hnews h1 h63 hbytes hbase
  unfold Oper.wp execOp
  simp only [ho, resolve, invoke, builtin, Sem.run_bind, Sem.run_pure, Result.andThen_ok, List.map_toArray, List.map_cons, List.map_nil, hs, hx, hr]
  exact hK _ _ h2 h3 h5
/-- an append as one step of a region that draws its order, and where the row lies -/
theorem step_app_at {P : Program} {ops : Array Oper} {o : Oper} {a : Act} {w : World} {K : Act → World → Prop} {Q : Exit → Act → World → Prop} {E : Prop} (hg : o.guard = none) (s x : Operand) (t : TypeId)
    (ho : o.op = Op.call { callee := Callee.builtin Builtin.append, args := #[s, x], argTypes := #[t, t] })
    (base : Nat) (e : TypeId) (i : TypeInfo) (z : Value) (size bytes : Nat) (ht : P.underlying t = some (.slice e)) (hi : P.info? e = some i) (hz : i.zero = some z)
    (hsize : i.size = size) (hby : i.bytes = bytes) (hzs : z.cells.size = size) (hsz : 0 < size)
    (v : Value) (n : Nat) (xs : List Value) (hs : a.eval s = v) (hown : w.ownsRow base e size v n xs)
    (ad : Addr) (m c : Nat) (news : List Value) (hx : a.eval x = .slice (some ad) m c) (hl : news.length = m * size) (hnews : ∀ j u, news[j]? = some u → w.cell? (ad.add j) = some u) (h1 : ∀ u ∈ news, u.oneCell' = true)
    (h63 : n + m ≤ maxLen) (hbytes : (n + m) * bytes ≤ 140737488355328) (hbase : base ≤ w.heap.size)
    (hK : ∀ v' w', w'.ownsRow base e size v' (n + m) (xs ++ news) → w.grownBy w' v.ownBlock → (v'.ownBlock = v.ownBlock ∨ v'.ownBlock = some w.heap.size) → K (a.put o.dst v') w') :
    if Region.wanted o (yielded ops a.tmps) = true then Oper.wp P o a w K Q else E := by
  have hw : Region.wanted o (yielded ops a.tmps) = true := by simp [Region.wanted, hg]
  rw [if_pos hw]
  obtain ⟨v', w', hr, h2, h3, _, h5⟩ := run_append_own_at (P := P) w base t o.type e i z size bytes ht hi hz hsize hby hzs hsz v n xs hown ad m c news hl hnews h1 h63 hbytes hbase
  unfold Oper.wp execOp
  simp only [ho, resolve, invoke, builtin, Sem.run_bind, Sem.run_pure, Result.andThen_ok, List.map_toArray, List.map_cons, List.map_nil, hs, hx, hr]
  exact hK _ _ h2 h3 h5
/-- what the first loops of Table keep -/
structure P1S (Xs Xr T : Nat) (s : Sch) (bv : Value) (W wr : World) (vb : Value) (BL : List ByteArray) (Lc : List (List Nat)) : Prop where
  tb : TbP Xs Xr T s bv vb (.slice none 0 0) (.slice none 0 0) W wr
  row : wr.ownsRow W.heap.size 9 1 vb BL.length (BL.map .string)
  bg : BegL s.al BL Lc
  aT : vb.ownBlock ≠ some T
  aR : vb.ownBlock ≠ some Xr
  aS : vb.ownBlock ≠ some Xs
  z : Lc[0]? = some []
section
variable {Xs Xr T : Nat} {s : Sch} {bv vb : Value} {W wr : World} {BL : List ByteArray} {Lc : List (List Nat)}
theorem P1S.below (h : P1S Xs Xr T s bv W wr vb BL Lc) {w' : World} (hb : Below wr.heap.size wr w') : P1S Xs Xr T s bv W w' vb BL Lc :=
  ⟨h.tb.below hb, ownsRow_below h.row hb, h.bg, h.aT, h.aR, h.aS, h.z⟩
theorem P1S.grow (h : P1S Xs Xr T s bv W wr vb BL Lc) {x : ByteArray} {o : Obj} {w8 : World} {v' : Value} (hx : OfA x s.al) (hg : (wr.alloc o).grownBy w8 vb.ownBlock) (hat : v'.ownBlock = vb.ownBlock ∨ v'.ownBlock = some (wr.alloc o).heap.size)
    (hown : w8.ownsRow W.heap.size 9 1 v' (BL.length + 1) (BL.map .string ++ [.string x])) :
    w8.cell? ⟨T, 0, none⟩ = some vb ∧ w8.frozen? ⟨T, 0, none⟩ = false ∧ P1S Xs Xr T s bv W (w8.setCell ⟨T, 0, none⟩ v') v' (BL ++ [x]) (Lc ++ [wordN s.al x]) := by
  have h2 := h.below (below_al wr o)
  have hsz : (wr.alloc o).heap.size = wr.heap.size + 1 := World.size_alloc _ _
  have lT := h.tb.t.lt; have lR := h.tb.r.lt; have lS := h.tb.b4.lt
  have hsz8 := hg.size
  have hW := h.tb.blw.size
  have ht8 : TbP Xs Xr T s bv vb (.slice none 0 0) (.slice none 0 0) W w8 := h2.tb.kept hg (fun g e => ⟨fun q => h.aT (by rw [e, q]), fun q => h.aR (by rw [e, q]), fun q => h.aS (by rw [e, q]), (h.row.lt g e).1⟩)
  have hne : ∀ y, vb.ownBlock ≠ some y → y < wr.heap.size → v'.ownBlock ≠ some y := fun y h1 h3 e => by
    rcases hat with c | c
    · exact h1 (c.symm.trans e)
    · have e2 := c.symm.trans e
      injection e2 with e2
      omega
  refine ⟨ht8.t.c0, ht8.tf 0, ht8.set0 v', ?_, ⟨by rw [List.map_append, h.bg.words]; rfl, fun t ht => ?_⟩, hne T h.aT lT, hne Xr h.aR lR, hne Xs h.aS lS, ?_⟩
  · rw [List.length_append, List.map_append]
    exact hown.kept (grownBy_setCell _ _ _ _) (.inr (fun e => hne T h.aT lT e))
  · rcases List.mem_append.1 ht with c | c
    · exact h.bg.of t c
    · rw [List.mem_singleton] at c
      rw [c]; exact hx
  · rw [List.getElem?_append_left (List.getElem?_eq_some_iff.1 h.z).1]
    exact h.z
end
/-- the beginnings of the first i banned strings -/
def LDi (s : Sch) (i : Nat) : List (List Nat) := treeL (((bansS s).map List.dropLast).take i)
theorem LDi_succ (s : Sch) {i : Nat} (h : i < s.bl.length) : LDi s (i + 1) = addB (LDi s i) [] (wordN s.al s.bl[i]).dropLast := by
  have hl : i < ((bansS s).map List.dropLast).length := by unfold bansS; rw [List.length_map, List.length_map]; exact h
  unfold LDi
  rw [List.take_succ_eq_append_getElem hl, treeL_snoc]
  congr 1
  simp [bansS]
theorem LDi_all (s : Sch) : LDi s s.bl.length = LD s := by
  unfold LDi LD
  rw [List.take_of_length_le]
  unfold bansS
  rw [List.length_map, List.length_map]
  exact Nat.le_refl _
theorem go_next {Lc F : List (List Nat)} {u : List Nat} {k : Nat} (hk : k < u.length) (h : addB Lc (u.take k) (u.drop k) = F) : addB (addP Lc (u.take (k + 1))) (u.take (k + 1)) (u.drop (k + 1)) = F := by
  rw [List.drop_eq_getElem_cons hk] at h
  rw [List.take_succ_eq_append_getElem hk]
  exact h
theorem word_take (al x : ByteArray) (k : Nat) : wordN al (x.extract 0 k) = (wordN al x).take k := by
  unfold wordN
  rw [bys_extract, List.drop_zero, List.map_take]
theorem take_dropLast {u : List Nat} {k : Nat} (h : k < u.length) : u.dropLast.take k = u.take k := by
  rw [List.dropLast_eq_take, List.take_take, Nat.min_eq_left (by omega)]
set_option maxRecDepth 100000 in
set_option maxHeartbeats 8000000 in
theorem Table_any {s : Sch} {bv : Value} {w : World} (hW : WellF s) (hs : IsSs w bv s.bl) : Calls Try.prog 45 #[schV s bv] w fun e w' => ∃ v, e = .returned v ∧ Hid (TabS s w' v) ∧ Hid (Below w.heap.size w w') := by
  obtain ⟨io, hi_, hz0, hz1, hz2⟩ := info_parts Try.infoStrS
  obtain ⟨W4, hW4⟩ : ∃ W4, W4 = (((w.alloc (.cells #[.string s.al, .int .i64 s.len, bv, .bool s.ck] 24)).alloc (.cells #[.slice none 0 0, .slice none 0 0, .slice none 0 0] 30)).alloc (.cells #[.string ⟨#[]⟩] 9)).alloc (.cells #[.slice (some ⟨w.heap.size + 1 + 1, 0, none⟩) 1 1, .slice none 0 0, .slice none 0 0] 30) := ⟨_, rfl⟩
  obtain ⟨T, hT⟩ : ∃ T, T = w.heap.size + 1 + 1 + 1 := ⟨_, rfl⟩
  obtain ⟨Xr, hXr⟩ : ∃ Xr, Xr = w.heap.size + 1 := ⟨_, rfl⟩
  have H0 : Hid (P1S w.heap.size Xr T s bv w W4 (.slice (some ⟨w.heap.size + 1 + 1, 0, none⟩) 1 1) [⟨#[]⟩] [[]]) := by
    obtain ⟨wa, hwa⟩ : ∃ wa, wa = w.alloc (.cells #[.string s.al, .int .i64 s.len, bv, .bool s.ck] 24) := ⟨_, rfl⟩
    obtain ⟨wb, hwb⟩ : ∃ wb, wb = wa.alloc (.cells #[.slice none 0 0, .slice none 0 0, .slice none 0 0] 30) := ⟨_, rfl⟩
    obtain ⟨wc, hwc⟩ : ∃ wc, wc = wb.alloc (.cells #[.string ⟨#[]⟩] 9) := ⟨_, rfl⟩
    rw [← hwa, ← hwb, ← hwc] at hW4
    have sa : wa.heap.size = w.heap.size + 1 := by rw [hwa, World.size_alloc]
    have sb : wb.heap.size = w.heap.size + 1 + 1 := by rw [hwb, World.size_alloc, sa]
    have sc : wc.heap.size = w.heap.size + 1 + 1 + 1 := by rw [hwc, World.size_alloc, sb]
    have ba : Below w.heap.size w wa := by rw [hwa]; exact below_al _ _
    have bb : Below wa.heap.size wa wb := by rw [hwb]; exact below_al _ _
    have bc : Below wb.heap.size wb wc := by rw [hwc]; exact below_al _ _
    have bd : Below wc.heap.size wc W4 := by rw [hW4]; exact below_al _ _
    have f : ∀ (V : World) (o : Array Value) (ty : TypeId) j, (V.alloc (.cells o ty)).frozen? ⟨V.heap.size, j, none⟩ = false := fun V o ty j => by unfold World.frozen?; dsimp only; rw [World.alloc_heap_new]; simp
    have b4 : B4 w.heap.size (.string s.al) (.int .i64 s.len) bv (.bool s.ck) wa := by rw [hwa]; exact B4.new _ _ _ _ _ _
    have r3 : BxR wa.heap.size (.slice none 0 0) (.slice none 0 0) (.slice none 0 0) wb := by rw [hwb]; exact BxR.new _ _ _ _ _
    have fr : ∀ j, wb.frozen? ⟨wa.heap.size, j, none⟩ = false := fun j => by rw [hwb]; exact f _ _ _ j
    have t3 : BxR wc.heap.size (.slice (some ⟨w.heap.size + 1 + 1, 0, none⟩) 1 1) (.slice none 0 0) (.slice none 0 0) W4 := by rw [hW4]; exact BxR.new _ _ _ _ _
    have ft : ∀ j, W4.frozen? ⟨wc.heap.size, j, none⟩ = false := fun j => by rw [hW4]; exact f _ _ _ j
    have bbd : Below wb.heap.size wb W4 := bc.trans (bd.mono bc.size)
    have bad : Below wa.heap.size wa W4 := bb.trans (bbd.mono bb.size)
    have bwd : Below w.heap.size w W4 := ba.trans (bad.mono ba.size)
    have gc : wc.heap[wb.heap.size]? = some (.cells #[.string ⟨#[]⟩] 9 (0, 0)) := by rw [hwc]; exact World.alloc_heap_new _ _
    have g4 : W4.heap[wb.heap.size]? = some (.cells #[.string ⟨#[]⟩] 9 (0, 0)) := (bd.block _ (by omega)).trans gc
    rw [← sc] at hT
    rw [← sa] at hXr
    rw [hT, hXr]
    refine ⟨⟨t3, ft, r3.below bbd, fun j => (bbd.frozen (p := ⟨wa.heap.size, j, none⟩) (by show wa.heap.size < wb.heap.size; omega)).trans (fr j), b4.below bad, hs, bwd, by omega, by omega, Nat.le_refl _, by omega, by omega⟩, ?_, ⟨rfl, fun t ht => ?_⟩, by simp [Value.ownBlock]; omega, by simp [Value.ownBlock]; omega, by simp [Value.ownBlock]; omega, rfl⟩
    · refine ⟨rfl, .inr ⟨w.heap.size + 1 + 1, 1, #[.string ⟨#[]⟩], rfl, by omega, by rw [← sb]; exact g4, Nat.le_refl _, by decide, rfl, rfl⟩⟩
    · rw [List.mem_singleton] at ht
      subst ht
      intro b hb
      exact absurd hb (by simp)
  have HS := Lib.hid hs
  have HWF := Lib.hid hW
  have hbs : ∀ b ∈ s.bl, b.size ≤ 8 ∧ 1 ≤ b.size ∧ OfA b s.al := fun b hb => by
    obtain ⟨k, hk, rfl⟩ := List.mem_iff_getElem.1 hb
    have h5 := hW.2.2.2.1.2 k hk
    exact ⟨h5.2.1, h5.1, h5.2.2⟩
  have HBS := Lib.hid hbs
  have hl16 : s.bl.length ≤ 16 := hW.2.2.2.1.1
  have HW4 := Lib.hid hW4
  have HT := Lib.hid hT
  have HXr := Lib.hid hXr
  have hsx : ∃ sx : Sch, sx = s := ⟨_, rfl⟩
  obtain ⟨bo, bc, hbv, -⟩ := hs
  obtain ⟨m, hm⟩ : ∃ m, m = s.bl.length := ⟨_, rfl⟩
  rw [← hm] at hbv hl16
  subst hbv
  have HM := Lib.hid hm
  unfold schV
  obtain ⟨al, hal⟩ : ∃ al, al = s.al := ⟨_, rfl⟩
  obtain ⟨len, hlen⟩ : ∃ len, len = s.len := ⟨_, rfl⟩
  obtain ⟨ck, hck⟩ : ∃ ck, ck = s.ck := ⟨_, rfl⟩
  rw [← hal, ← hlen, ← hck] at HW4 ⊢
  have HAL := Lib.hid hal
  have HLEN := Lib.hid hlen
  have HCK := Lib.hid hck
  clear hW hbs hW4 hT hXr hsx hm hal hlen hck
  go_enter Try.func45, Try.ntmps45
  go_upto_region 2 with fail
  rw [← HW4.out, ← HT.out, ← HXr.out]
  go_wp2_with fail
  go_loopw [4] (fun s4 wr => ∃ i : Nat, i ≤ m ∧ s4 = .int .i64 i ∧ Hid (∃ vb BL, P1S w.heap.size Xr T s (.slice bo m bc) w wr vb BL (LDi s i) ∧ BL.length ≤ 1 + 8 * i)) (fun s4 _ => m - (intOf s4).toNat)
  case atStart => exact ⟨0, Nat.zero_le _, rfl, _, _, H0.out, by decide⟩
  case round =>
    obtain ⟨i, hi, rfl, HP⟩ := hrel
    obtain ⟨vb, BL, hP, hBLl⟩ := HP.out
    have HPP := Lib.hid hP
    have HB4 := Lib.hid hP.tb.b4
    rw [← HAL.out, ← HLEN.out, ← HCK.out] at HB4
    have k2 := HB4.out.c2
    by_cases q : i < m
    · have q1 : (i : Int) < (m : Int) := by omega
      obtain ⟨i1, hi1⟩ : ∃ i1, i1 = i + 1 := ⟨_, rfl⟩
      have hw : IntKind.i64.wrap ((i : Int) + 1) = (i1 : Int) := by rw [IntWalk.i64_in _ (by omega)]; omega
      have hib : i < s.bl.length := by rw [← HM.out]; exact q
      obtain ⟨b, hb⟩ : ∃ b, b = s.bl[i] := ⟨_, rfl⟩
      obtain ⟨hb8, hb1, hbO⟩ := HBS.out b (by rw [hb]; exact List.getElem_mem hib)
      obtain ⟨F, hF⟩ : ∃ F, F = LDi s i1 := ⟨_, rfl⟩
      have hFe : F = addB (LDi s i) [] (wordN s.al b).dropLast := by rw [hF, hi1, hb]; exact LDi_succ s hib
      have HB := Lib.hid hb
      have HF := Lib.hid hF
      have HFE := Lib.hid hFe
      have HI1 := Lib.hid hi1
      have HBO := Lib.hid hbO
      have him : m - i1 < m - i := by omega
      have hil : i1 ≤ m := by omega
      have HIL := Lib.hid hBLl
      clear hb hF hFe hi1 hbO hP hBLl
      go_wp2_with fail
      go_loopw [5] (fun s5 wr2 => ∃ k : Nat, 1 ≤ k ∧ k ≤ b.size ∧ s5 = .int .i64 k ∧ Hid (∃ vb BL Lc, P1S w.heap.size Xr T s (.slice bo m bc) w wr2 vb BL Lc ∧ BL.length ≤ 8 * i + k ∧ addB Lc ((wordN s.al b).dropLast.take (k - 1)) ((wordN s.al b).dropLast.drop (k - 1)) = F)) (fun s5 _ => b.size - (intOf s5).toNat)
      case atStart => exact ⟨1, Nat.le_refl _, hb1, rfl, vb, BL, LDi s i, HPP.out, by have := HIL.out; omega, by show addB _ (List.take 0 _) (List.drop 0 _) = F; rw [List.take_zero, List.drop_zero, HFE.out]⟩
      case round =>
        obtain ⟨k, hk1, hk, rfl, HQ⟩ := hrel
        obtain ⟨vb, BL, Lc, hQ, hQl, hgo⟩ := HQ.out
        have HQP := Lib.hid hQ
        have hB4 := hQ.tb.b4
        rw [← HAL.out, ← HLEN.out, ← HCK.out] at hB4
        have e0 := hB4.c0; have e1 := hB4.c1; have e2 := hB4.c2; have e3 := hB4.c3
        have t0 := hQ.tb.t.c0; have t1 := hQ.tb.t.c1; have t2 := hQ.tb.t.c2
        have hSS := hQ.tb.ss
        obtain ⟨B, O1, hbo, d0⟩ := hSS.at' (j := i) (by rw [← HM.out]; exact q)
        have hbw : B < w.heap.size := by
          obtain ⟨B', o', e1, e2⟩ := HS.out.at' (j := i) (by rw [← HM.out]; exact q)
          rw [hbo] at e1
          injection e1 with e1
          injection e1 with e1
          subst e1
          exact World.block_lt_of_cell? _ _ e2
        have HBW := Lib.hid hbw
        clear hbw
        subst hbo
        rw [← HB.out] at d0
        obtain ⟨ba, bcap, rfl⟩ := row_sl hQ.row
        have HGO := Lib.hid hgo
        have HQL := Lib.hid hQl
        clear hQ hB4 hSS hgo hQl HQ
        by_cases p : k < b.size
        · have p1 : (k : Int) < (b.size : Int) := by omega
          obtain ⟨kk, hkk⟩ : ∃ kk, kk = k + 1 := ⟨_, rfl⟩
          have hwk : IntKind.i64.wrap ((k : Int) + 1) = (kk : Int) := by rw [IntWalk.i64_in _ (by omega)]; omega
          obtain ⟨x, hx⟩ : ∃ x, x = b.extract 0 k := ⟨_, rfl⟩
          have hsl : ∀ W, (Instr.slice 9 (.string b) none (some (.int .i64 (k : Int))) none).run Try.prog W = .ok (.string x) W := fun W => by rw [slice_to (by omega) W, hx]
          have hxO : OfA x s.al := by rw [hx]; exact of_extract HBO.out _ _
          obtain ⟨u, hu⟩ : ∃ u, u = wordN s.al x := ⟨_, rfl⟩
          have hue : u = (wordN s.al b).dropLast.take k := by rw [hu, hx, word_take, take_dropLast (by rw [wordN_len]; exact p)]
          have hgn : addB (addP Lc u) ((wordN s.al b).dropLast.take k) ((wordN s.al b).dropLast.drop k) = F := by
            have h5 := go_next (u := (wordN s.al b).dropLast) (k := k - 1) (by rw [List.length_dropLast, wordN_len]; omega) HGO.out
            rw [show k - 1 + 1 = k by omega] at h5
            rw [hue]; exact h5
          have HGN := Lib.hid hgn
          obtain ⟨pz, hpz⟩ : ∃ pz, pz = plD Lc u := ⟨_, rfl⟩
          have HPL : Hid (Calls Try.prog 61 #[.agg #[.slice ba BL.length bcap, .slice none 0 0, .slice none 0 0], .string x] wr.drew fun e w' => e = .returned (.int .i64 pz) ∧ Hid (Below wr.drew.heap.size wr.drew w')) := by
            have h5 := place_any (vn := .slice none 0 0) (vy := .slice none 0 0) ((IsSs.of_row HQP.out.row).below (below_dr wr 1)) HQP.out.bg hxO (by have := HQL.out; omega)
            rw [← hu, ← hpz] at h5
            exact h5
          have HPZ := Lib.hid hpz
          have HXO := Lib.hid hxO
          have HU := Lib.hid hu
          have hkm : b.size - kk < b.size - k := by omega
          have hkl : kk ≤ b.size := by omega
          have HKK := Lib.hid hkk
          have hBl := World.block_lt_of_cell? _ _ d0
          clear hx hxO hu hue hgn hpz hkk k2
          go_upto_region 8 with fail
          go_cut [42] from 33 to 41 (fun s42 wz => s42 = .bool (decide (pz < 0)) ∧ Hid (Below wr.heap.size wr wz))
          case first =>
            go_region_with (first
              | (go_at_call 61; (with_reducible refine HPL.out.mono ?_); rintro e wb ⟨rfl, HBq⟩)
              | fail)
            all_goals go_wp2_with fail
            all_goals go_meet
            all_goals exact ⟨rfl, (below_dr wr 1).trans HBq.out⟩
          case rest =>
            obtain ⟨rfl, HBc⟩ := hcut
            have HQ2 := Lib.hid (HQP.out.below HBc.out)
            have d1 := (HBc.out.cell (p := ⟨B, O1 + i, none⟩) hBl).trans d0
            have hB4 := HQ2.out.tb.b4
            rw [← HAL.out, ← HLEN.out, ← HCK.out] at hB4
            have e2c := hB4.c2
            have t0c := HQ2.out.tb.t.c0
            have hBl2 := World.block_lt_of_cell? _ _ d1
            clear e0 e1 e2 e3 t0 t1 t2 d0 hB4
            apply_assumption
            by_cases hmem : u ∈ Lc
            · have hpz0 : ¬ pz < 0 := by
                rw [HPZ.out]
                unfold plD
                rw [if_pos hmem]
                omega
              have HGK : Hid (addB Lc ((wordN s.al b).dropLast.take (kk - 1)) ((wordN s.al b).dropLast.drop (kk - 1)) = F) := by
                have h5 := HGN.out
                unfold addP at h5
                rw [if_pos hmem] at h5
                show addB _ _ _ = F
                rw [HKK.out, Nat.add_sub_cancel]
                exact h5
              have hzd : decide (pz < 0) = false := decide_eq_false hpz0
              go_wp2_with fail
              go_roundw
              case rel => exact ⟨kk, by have := HKK.out; omega, hkl, by go_num, _, _, _, HQ2.out, by have := HQL.out; have := HKK.out; omega, HGK.out⟩
              case measure => simp [intOf]; omega
            · have hpz0 : pz < 0 := by
                rw [HPZ.out]
                unfold plD
                rw [if_neg hmem]
                decide
              have hzd : decide (pz < 0) = true := decide_eq_true hpz0
              have HGK : Hid (addB (Lc ++ [u]) ((wordN s.al b).dropLast.take (kk - 1)) ((wordN s.al b).dropLast.drop (kk - 1)) = F) := by
                have h5 := HGN.out
                unfold addP at h5
                rw [if_neg hmem] at h5
                show addB _ _ _ = F
                rw [HKK.out, Nat.add_sub_cancel]
                exact h5
              obtain ⟨bn, hbn⟩ : ∃ bn, bn = BL.length := ⟨_, rfl⟩
              have hrow : wc.ownsRow w.heap.size 9 1 (.slice ba bn bcap) bn (BL.map .string) := by rw [hbn]; exact HQ2.out.row
              rw [← hbn] at t0c
              have HBN := Lib.hid hbn
              have HROW := Lib.hid hrow
              have hbnl : bn ≤ 1000 := by have := HQL.out; omega
              have hsz : w.heap.size ≤ wc.heap.size := HQ2.out.tb.blw.size
              have HSZ : Hid (∀ o, w.heap.size ≤ (wc.drew.alloc o).heap.size) := fun o => Nat.le_trans hsz (by rw [World.size_alloc]; exact Nat.le_succ _)
              have HROWd : Hid (∀ o, (wc.drew.alloc o).ownsRow w.heap.size 9 1 (.slice ba bn bcap) bn (BL.map .string)) := fun o => World.ownsRow.alloc (w := wc.drew) hrow o
              have HAS : Hid (some w.heap.size ≠ (Value.slice ba bn bcap).ownBlock ∧ some B ≠ (Value.slice ba bn bcap).ownBlock) := by
                refine ⟨fun e => HQ2.out.aS (by rw [HBN.out] at e; exact e.symm), fun e => ?_⟩
                have h5 := hrow.lt B e.symm
                have h6 := HBW.out
                omega
              have HA1 : Hid (∀ o, (wc.drew.alloc o).cell? ⟨T, 0, none⟩ = some (.slice ba bn bcap) ∧ (wc.drew.alloc o).cell? ⟨w.heap.size, 2, none⟩ = some (.slice (some ⟨B, O1, none⟩) m bc) ∧ (wc.drew.alloc o).cell? ⟨B, O1 + i, none⟩ = some (.string b)) := fun oo => by
                have hb := (below_dr wc 1).trans (below_al wc.drew oo)
                exact ⟨(hb.cell (p := ⟨T, 0, none⟩) (World.block_lt_of_cell? _ _ t0c)).trans t0c, (hb.cell (p := ⟨w.heap.size, 2, none⟩) (World.block_lt_of_cell? _ _ e2c)).trans e2c, (hb.cell (p := ⟨B, O1 + i, none⟩) hBl2).trans d1⟩
              have HGROW : Hid (∀ (oo : Obj) (w8 : World) (v' : Value), (wc.drew.alloc oo).grownBy w8 (Value.slice ba bn bcap).ownBlock → (v'.ownBlock = (Value.slice ba bn bcap).ownBlock ∨ v'.ownBlock = some (wc.drew.alloc oo).heap.size) → w8.ownsRow w.heap.size 9 1 v' (bn + 1) (BL.map .string ++ [.string x]) →
                  w8.cell? ⟨T, 0, none⟩ = some (.slice ba bn bcap) ∧ (w8.cell? ⟨w.heap.size, 2, none⟩ = some (.slice (some ⟨B, O1, none⟩) m bc) ∧ w8.cell? ⟨B, O1 + i, none⟩ = some (.string b)) ∧ w8.frozen? ⟨T, 0, none⟩ = false ∧ P1S w.heap.size Xr T s (.slice (some ⟨B, O1, none⟩) m bc) w (w8.setCell ⟨T, 0, none⟩ v') v' (BL ++ [x]) (Lc ++ [u])) := fun oo w8 v' hg hat hown => by
                have hc1 := hg.cell (HA1.out oo).2.1 HAS.out.1
                have hc2 := hg.cell (HA1.out oo).2.2 HAS.out.2
                rw [HBN.out] at hg hat hown ⊢
                rw [HU.out]
                obtain ⟨g1, g2, g3⟩ := (HQ2.out.below (below_dr wc 1)).grow HXO.out hg hat hown
                exact ⟨g1, ⟨hc1, hc2⟩, g2, g3⟩
              have HML : Hid (bn + 1 ≤ maxLen) := by show _ ≤ _; unfold maxLen; omega
              have HBY : Hid ((bn + 1) * 16 ≤ 140737488355328) := by show _ ≤ _; omega
              have HONE : Hid (∀ u ∈ [Value.string x], u.oneCell' = true) := by intro u hu; simp at hu; subst hu; rfl
              clear hbn hrow
              go_upto_region 9 with fail
              have t0d : wc.drew.cell? ⟨T, 0, none⟩ = some (.slice ba bn bcap) := t0c
              have e2d : wc.drew.cell? ⟨w.heap.size, 2, none⟩ = some (.slice (some ⟨B, O1, none⟩) m bc) := e2c
              have d1d : wc.drew.cell? ⟨B, O1 + i, none⟩ = some (.string b) := d1
              have t0d : wc.drew.cell? ⟨T, 0, none⟩ = some (.slice ba bn bcap) := t0c
              have e2d : wc.drew.cell? ⟨w.heap.size, 2, none⟩ = some (.slice (some ⟨B, O1, none⟩) m bc) := e2c
              have d1d : wc.drew.cell? ⟨B, O1 + i, none⟩ = some (.string b) := d1
              have HNE : Hid (T ≠ w.heap.size ∧ T ≠ B) := ⟨HQ2.out.tb.nS, by have := HQ2.out.tb.bT; have := HBW.out; omega⟩
              have t0a : (wc.alloc (.cells #[.string x] 9)).drew.cell? ⟨T, 0, none⟩ = some (.slice ba bn bcap) := (HA1.out (.cells #[.string x] 9)).1
              clear HPL
              refine wp_region_held_drew (S := (fun V : World => V.cell? ⟨w.heap.size, 2, none⟩ = some (.slice (some ⟨B, O1, none⟩) m bc) ∧ V.cell? ⟨B, O1 + i, none⟩ = some (.string b))) (by kernel_rfl) ⟨e2d, d1d⟩ (fun hHeld => ?_)
              refine wpAnyH_take (i := 0) (v := ?v0) rfl (by kernel_rfl) (by kernel_rfl) (by kernel_rfl) (fun _ _ _ h => h) (Or.inl ⟨by rfl, ?hy0⟩) (by assumption) ?rest0
              case hy0 => (intro V hSw; (try dsimp only at hSw); go_simp <;> with_reducible rfl)
              try simp only [Act.put, List.setIfInBounds_toArray]
              refine wpAnyH_take (i := 2) (v := ?v2) rfl (by kernel_rfl) (by kernel_rfl) (by kernel_rfl) (fun _ _ _ h => h) (Or.inl ⟨by rfl, ?hy2⟩) (by assumption) ?rest2
              case hy2 => (intro V hSw; (try dsimp only at hSw); go_simp <;> with_reducible rfl)
              try simp only [Act.put]
              refine wpAnyH_take (i := 3) (v := ?v3) rfl (by kernel_rfl) (by kernel_rfl) (by kernel_rfl) (fun _ _ _ h => h) (Or.inl ⟨by rfl, ?hy3⟩) (by assumption) ?rest3
              case hy3 => (intro V hSw; (try dsimp only at hSw); go_simp <;> with_reducible rfl)
              try simp only [Act.put]
              refine wpAnyH_take (i := 4) (v := ?v4) rfl (by kernel_rfl) (by kernel_rfl) (by kernel_rfl) (fun _ _ _ h => h) (Or.inl ⟨by rfl, ?hy4⟩) (by assumption) ?rest4
              case hy4 => (intro V hSw; (try dsimp only at hSw); go_simp <;> with_reducible rfl)
              try simp only [Act.put]
              refine wpAnyH_take (i := 5) (v := ?v5) rfl (by kernel_rfl) (by kernel_rfl) (by kernel_rfl) (fun _ _ _ h => h) (Or.inl ⟨by rfl, ?hy5⟩) (by assumption) ?rest5
              case hy5 => (intro V hSw; (try dsimp only at hSw); go_simp <;> with_reducible rfl)
              try simp only [Act.put]
              refine wpAnyH_take (i := 6) (v := ?v6) rfl (by kernel_rfl) (by kernel_rfl) (by kernel_rfl) (fun _ _ _ h => h) (Or.inl ⟨by rfl, ?hy6⟩) (by assumption) ?rest6
              case hy6 => (intro V hSw; (try dsimp only at hSw); go_simp <;> with_reducible rfl)
              try simp only [Act.put]
              refine wpAnyH_take (i := 7) (v := ?v7) rfl (by kernel_rfl) (by kernel_rfl) (by kernel_rfl) (fun _ _ _ h => h) (Or.inl ⟨by rfl, ?hy7⟩) (by assumption) ?rest7
              case hy7 => (intro V hSw; (try dsimp only at hSw); go_simp <;> with_reducible rfl)
              try simp only [Act.put]
              refine wpAnyH_take (i := 8) (v := ?v8) rfl (by kernel_rfl) (by kernel_rfl) (by kernel_rfl) (fun _ _ _ h => h) (Or.inl ⟨by rfl, ?hy8⟩) (by assumption) ?rest8
              case hy8 => (intro V hSw; (try dsimp only at hSw); go_simp <;> with_reducible rfl)
              try simp only [Act.put]
              refine wpAnyH_ready (rs := [1, 9]) (by kernel_rfl) (by simp) ?_
              refine AllReadyH.cons rfl (fun K hK => ?_) ?_
              · go_simp
                refine hK.out _ _ ⟨e2d, d1d⟩ (fun hHeld => ?_)
                clear hK K
                try simp only [Act.put, List.setIfInBounds_toArray, List.set_cons_zero, List.set_cons_succ]
                refine wpAnyH_ready (rs := [9]) (by kernel_rfl) (by simp) ?_
                refine AllReadyH.cons rfl (fun K hK => ?_) AllReadyH.nil
                go_simp
                refine hK.out _ _ ⟨(HA1.out _).2.1, (HA1.out _).2.2⟩ (fun hHeld => ?_)
                clear hK K
                try simp only [Act.put, List.setIfInBounds_toArray, List.set_cons_zero, List.set_cons_succ]
                refine wpAnyH_ready (rs := [10]) (by kernel_rfl) (by simp) ?_
                refine AllReadyH.cons rfl (fun K hK => ?_) AllReadyH.nil
                refine step_app_at rfl (.tmp 44) (.tmp 52) 22 rfl w.heap.size 9 io (.string ⟨#[]⟩) 1 16 Try.underlying22 hi_ hz0 hz1 hz2 rfl (by decide) (.slice ba bn bcap) bn (BL.map .string) (by rfl) (HROWd.out _) ⟨wc.heap.size, 0, none⟩ 1 1 [.string x] rfl rfl (cell_one_new _ _ _) HONE.out HML.out HBY.out (HSZ.out _) ?_
                intro v' w8 hown hgrow hat
                obtain ⟨ba2, bc2, rfl⟩ := row_sl hown
                obtain ⟨q1, ⟨q4, q5⟩, q2, q3⟩ := HGROW.out _ _ _ hgrow hat hown
                have HQ3 := Lib.hid q3
                clear hown hgrow hat q3
                refine hK.out _ _ ⟨q4, q5⟩ (fun hHeld => ?_)
                clear hK K
                try simp only [Act.put, List.setIfInBounds_toArray]
                refine wpAnyH_take (i := 11) (v := ?v11) rfl (by kernel_rfl) (by kernel_rfl) (by kernel_rfl) (fun _ _ _ h => h) (Or.inl ⟨by rfl, ?hy11⟩) (by assumption) ?rest11
                case hy11 => (intro V hSw; (try dsimp only at hSw); go_simp <;> with_reducible rfl)
                try simp only [Act.put]
                refine wpAnyH_ready (rs := [12]) (by kernel_rfl) (by simp) ?_
                refine AllReadyH.cons rfl (fun K hK => ?_) AllReadyH.nil
                go_simp
                have hnS : T ≠ w.heap.size := HNE.out.1
                have hnB : T ≠ B := HNE.out.2
                refine hK.out _ _ ⟨(World.cell?_setCell_far _ _ _ _ hnS).trans q4, (World.cell?_setCell_far _ _ _ _ hnB).trans q5⟩ (fun hHeld => ?_)
                clear hK K
                try simp only [Act.put, List.setIfInBounds_toArray, List.set_cons_zero, List.set_cons_succ]
                refine wpAnyH_done (by kernel_rfl) ?_ _
                go_wp2_with fail
                go_roundw
                case rel => exact ⟨kk, by have := HKK.out; omega, hkl, by go_num, _, _, _, HQ3.out, by rw [List.length_append, List.length_singleton]; have := HQL.out; have := HKK.out; omega, HGK.out⟩
                case measure => simp [intOf]; omega
              refine AllReadyH.cons rfl (fun K hK => ?_) AllReadyH.nil
              go_simp
              refine hK.out _ _ ⟨(HA1.out _).2.1, (HA1.out _).2.2⟩ (fun hHeld => ?_)
              clear hK K
              try simp only [Act.put, List.setIfInBounds_toArray, List.set_cons_zero, List.set_cons_succ]
              refine wpAnyH_ready (rs := [1]) (by kernel_rfl) (by simp) ?_
              refine AllReadyH.cons rfl (fun K hK => ?_) AllReadyH.nil
              go_simp
              refine hK.out _ _ ⟨(HA1.out _).2.1, (HA1.out _).2.2⟩ (fun hHeld => ?_)
              clear hK K
              try simp only [Act.put, List.setIfInBounds_toArray, List.set_cons_zero, List.set_cons_succ]
              refine wpAnyH_ready (rs := [10]) (by kernel_rfl) (by simp) ?_
              refine AllReadyH.cons rfl (fun K hK => ?_) AllReadyH.nil
              refine step_app_at rfl (.tmp 44) (.tmp 52) 22 rfl w.heap.size 9 io (.string ⟨#[]⟩) 1 16 Try.underlying22 hi_ hz0 hz1 hz2 rfl (by decide) (.slice ba bn bcap) bn (BL.map .string) (by rfl) (HROWd.out _) ⟨wc.heap.size, 0, none⟩ 1 1 [.string x] rfl rfl (cell_one_new _ _ _) HONE.out HML.out HBY.out (HSZ.out _) ?_
              intro v' w8 hown hgrow hat
              obtain ⟨ba2, bc2, rfl⟩ := row_sl hown
              obtain ⟨q1, ⟨q4, q5⟩, q2, q3⟩ := HGROW.out _ _ _ hgrow hat hown
              have HQ3 := Lib.hid q3
              clear hown hgrow hat q3
              refine hK.out _ _ ⟨q4, q5⟩ (fun hHeld => ?_)
              clear hK K
              try simp only [Act.put, List.setIfInBounds_toArray]
              refine wpAnyH_take (i := 11) (v := ?v11b) rfl (by kernel_rfl) (by kernel_rfl) (by kernel_rfl) (fun _ _ _ h => h) (Or.inl ⟨by rfl, ?hy11b⟩) (by assumption) ?rest11b
              case hy11b => (intro V hSw; (try dsimp only at hSw); go_simp <;> with_reducible rfl)
              try simp only [Act.put]
              refine wpAnyH_ready (rs := [12]) (by kernel_rfl) (by simp) ?_
              refine AllReadyH.cons rfl (fun K hK => ?_) AllReadyH.nil
              go_simp
              have hnS : T ≠ w.heap.size := HNE.out.1
              have hnB : T ≠ B := HNE.out.2
              refine hK.out _ _ ⟨(World.cell?_setCell_far _ _ _ _ hnS).trans q4, (World.cell?_setCell_far _ _ _ _ hnB).trans q5⟩ (fun hHeld => ?_)
              clear hK K
              try simp only [Act.put, List.setIfInBounds_toArray, List.set_cons_zero, List.set_cons_succ]
              refine wpAnyH_done (by kernel_rfl) ?_ _
              go_wp2_with fail
              go_roundw
              case rel => exact ⟨kk, by have := HKK.out; omega, hkl, by go_num, _, _, _, HQ3.out, by rw [List.length_append, List.length_singleton]; have := HQL.out; have := HKK.out; omega, HGK.out⟩
              case measure => simp [intOf]; omega
        · obtain rfl : k = b.size := by omega
          have p1 : ¬ (b.size : Int) < (b.size : Int) := by omega
          have HN : Hid (∃ vb BL, P1S w.heap.size Xr T s (.slice (some ⟨B, O1, none⟩) m bc) w wr vb BL (LDi s i1) ∧ BL.length ≤ 1 + 8 * i1) := by
            have h5 := HGO.out
            have hlen : (wordN s.al b).dropLast.length = b.size - 1 := by rw [List.length_dropLast, wordN_len]
            rw [List.drop_of_length_le (by omega)] at h5
            have h6 : Lc = F := h5
            refine ⟨_, _, by rw [← HF.out, ← h6]; exact HQP.out, by have := HQL.out; have := HI1.out; omega⟩
          go_wp2_with fail
          go_roundw
          case rel => exact ⟨i1, hil, by go_num, HN⟩
          case measure => simp [intOf]; omega
    · obtain rfl : i = m := by omega
      have q1 : ¬ (i : Int) < (i : Int) := by omega
      go_upto_region 10 with fail
      have hLD : LDi s i = LD s := by rw [HM.out]; exact LDi_all s
      rw [hLD] at hP
      clear hLD
      obtain ⟨kL, hkL⟩ : ∃ kL, kL = (LD s).length := ⟨_, rfl⟩
      have hBLk : BL.length = kL := by rw [hkL, hP.bg.len]
      have hk113 : kL ≤ 113 := by rw [hkL]; exact LD_len HWF.out
      have hk1 : 1 ≤ kL := by rw [hkL]; exact (List.getElem?_eq_some_iff.1 (nodesD HWF.out).zero).1
      obtain ⟨ba, bcap, hvb⟩ := row_sl hP.row
      rw [hBLk] at hvb
      subst hvb
      have HBG := Lib.hid hP.bg
      have HKL := Lib.hid hkL
      have HBLK := Lib.hid hBLk
      obtain ⟨A, hA⟩ : ∃ A, A = s.al.size := ⟨_, rfl⟩
      have hA36 : A ≤ 36 := by rw [hA]; exact HWF.out.1.2.1
      have hA2 : 2 ≤ A := by rw [hA]; exact HWF.out.1.1
      have HAE := Lib.hid hA
      have hls : ∀ (t ty : TypeId), Try.prog.underlying t = some .string → ∀ W, (Builtin.len_ #[t] ty #[.string al]).run Try.prog W = .ok (.int .i64 (A : Int)) W := fun t ty ht W => by rw [run_len_string _ _ _ _ ht, hA, HAL.out]; rfl
      obtain ⟨nn, hnn⟩ : ∃ nn, nn = nS s := ⟨_, rfl⟩
      have hln : len = (nn : Int) := by rw [HLEN.out, hnn]; have := HWF.out.2.1; unfold nS; omega
      have hn16 : nn ≤ 16 := by have := HWF.out.2.2.1; rw [hnn]; unfold nS; omega
      have HNN := Lib.hid hnn
      obtain ⟨W1, rfl⟩ : ∃ W1, W1 = wr := ⟨_, rfl⟩
      have hmk := made_intS kL (by omega)
      obtain ⟨w5, hw5⟩ : ∃ w5, w5 = W1.alloc (.cells (madeCells #[.int .i64 0] kL) 3) := ⟨_, rfl⟩
      have hb5 : Below W1.heap.size W1 w5 := by rw [hw5]; exact below_al _ _
      have HBL1 : Hid (IsSs W1 (.slice ba kL bcap) BL) := IsSs.of_row hP.row
      have HNB : Hid ((Value.slice ba kL bcap).ownBlock ≠ some T ∧ (Value.slice ba kL bcap).ownBlock ≠ some Xr) := ⟨hP.aT, hP.aR⟩
      have hlT := hP.tb.t.lt
      have hlR := hP.tb.r.lt
      have hlS := hP.tb.b4.lt
      have H2 : Hid (P2S W1 w.heap.size Xr T W1.heap.size kL s (.slice bo i bc) (.slice ba kL bcap) w w5 (.slice none 0 0) [] 0 0) := by
        have hs5 : w5.heap.size = W1.heap.size + 1 := by rw [hw5, World.size_alloc]
        refine ⟨hP.tb.below hb5, grownBy_none hb5 _, ?_, ?_, hlT, hlR, hlS, hP.tb.blw.size⟩
        · rw [halfL_zero]
          have h5 := made_own W1 kL (by omega)
          rw [← hw5] at h5
          have e5 : (ones kL).length = kL := by simp [ones]
          rw [e5]
          exact h5
        · refine RowZ.nil _ _ _ (fun x hx => ?_)
          rw [hs5]
          simp at hx
          rcases hx with rfl | rfl | rfl <;> omega
      have HW5 := Lib.hid hw5
      have HLT : Hid (T < W1.heap.size ∧ Xr < W1.heap.size ∧ w.heap.size < W1.heap.size) := ⟨hlT, hlR, hlS⟩
      have t0 := hP.tb.t.c0
      have HLN := Lib.hid hln
      clear hP HP HPP HB4 k2 hkL hBLk hA hnn hw5 hb5 hlT hlR hlS hln
      go_upto_region 11 with fail
      rw [← HW5.out]
      clear t0
      go_wp2_with fail
      obtain ⟨i1, hi1, hy0, hy1, hy2⟩ := info_parts Try.infoSlS
      obtain ⟨ii, hii, hx0, hx1, hx2⟩ := info_parts Try.infoIntS
      go_loopw [7] (fun s7 wr2 => ∃ j : Nat, j ≤ kL ∧ s7 = .int .i64 j ∧ Hid (∃ vn vals, P2S W1 w.heap.size Xr T W1.heap.size kL s (.slice bo i bc) (.slice ba kL bcap) w wr2 vn vals j j)) (fun s7 _ => kL - (intOf s7).toNat)
      case atStart => exact ⟨0, Nat.zero_le _, rfl, _, _, H2.out⟩
      case round =>
        obtain ⟨j, hj, rfl, HP⟩ := hrel
        obtain ⟨vn, vals, hP⟩ := HP.out
        obtain ⟨w6, rfl⟩ : ∃ w6, w6 = wr := ⟨_, rfl⟩
        have hrl : ((nextR s).take j).length = j := by rw [List.length_take, nextR_len, ← HKL.out]; omega
        obtain ⟨na, nc, hvn⟩ := row_sl hP.rn.1
        rw [hrl] at hvn
        subst hvn
        have hB4 := hP.tb.b4
        rw [← HAL.out, ← HLEN.out, ← HCK.out] at hB4
        have e0 := hB4.c0; have e1 := hB4.c1; have e2 := hB4.c2; have e3 := hB4.c3
        have t0 := hP.tb.t.c0; have t1 := hP.tb.t.c1; have t2 := hP.tb.t.c2
        have HPH := Lib.hid hP
        have HBL6 := Lib.hid (HBL1.out.kept hP.gr HNB.out.1)
        by_cases p : j < kL
        · have p1 : (j : Int) < (kL : Int) := by omega
          obtain ⟨jj, hjj⟩ : ∃ jj, jj = j + 1 := ⟨_, rfl⟩
          have hwj : IntKind.i64.wrap ((j : Int) + 1) = (jj : Int) := by rw [IntWalk.i64_in _ (by omega)]; omega
          obtain ⟨Bk, Ok, hbk, d0⟩ := HBL6.out.at' (j := j) (by rw [HBLK.out]; exact p)
          subst hbk
          obtain ⟨b, hb⟩ : ∃ b, b = BL[j]'(by rw [HBLK.out]; exact p) := ⟨_, rfl⟩
          rw [← hb] at d0
          have hbO : OfA b s.al := by rw [hb]; exact HBG.out.of _ (List.getElem_mem _)
          have hbw := HBG.out.at' (i := j) (by rw [HBLK.out]; exact p)
          rw [← hb] at hbw
          have hbl : b.size ≤ 8 := by
            have h5 := List.mem_of_getElem? hbw
            have h6 := LD_word_len HWF.out h5
            rw [wordN_len] at h6
            omega
          have HBO := Lib.hid hbO
          have HBWD := Lib.hid hbw
          have HJJ := Lib.hid hjj
          have hjm : kL - jj < kL - j := by omega
          have hjl : jj ≤ kL := by omega
          obtain ⟨S6, hS6⟩ : ∃ S6 : World → Prop, S6 = fun V => V.cell? ⟨T, 0, none⟩ = some (.slice (some ⟨Bk, Ok, none⟩) kL bcap) ∧ V.cell? ⟨T, 1, none⟩ = some (.slice na j nc) ∧ V.cell? ⟨T, 2, none⟩ = some (.slice none 0 0) ∧ V.cell? ⟨w.heap.size, 0, none⟩ = some (.string al) ∧ V.cell? ⟨w.heap.size, 1, none⟩ = some (.int .i64 len) ∧ V.cell? ⟨w.heap.size, 2, none⟩ = some (.slice bo i bc) ∧ V.cell? ⟨w.heap.size, 3, none⟩ = some (.bool ck) ∧ V.cell? ⟨Bk, Ok + j, none⟩ = some (.string b) := ⟨_, rfl⟩
          have HS6 : Hid (∀ V, Below w6.heap.size w6 V → V.cell? ⟨T, 0, none⟩ = some (.slice (some ⟨Bk, Ok, none⟩) kL bcap) ∧ V.cell? ⟨T, 1, none⟩ = some (.slice na j nc) ∧ V.cell? ⟨T, 2, none⟩ = some (.slice none 0 0) ∧ V.cell? ⟨w.heap.size, 0, none⟩ = some (.string al) ∧ V.cell? ⟨w.heap.size, 1, none⟩ = some (.int .i64 len) ∧ V.cell? ⟨w.heap.size, 2, none⟩ = some (.slice bo i bc) ∧ V.cell? ⟨w.heap.size, 3, none⟩ = some (.bool ck) ∧ V.cell? ⟨Bk, Ok + j, none⟩ = some (.string b)) := fun V hV => by
            have f : ∀ {p : Addr} {v : Value}, w6.cell? p = some v → V.cell? p = some v := fun {p v} h => (hV.cell (p := p) (World.block_lt_of_cell? _ _ h)).trans h
            exact ⟨f t0, f t1, f t2, f e0, f e1, f e2, f e3, f d0⟩
          clear hS6 S6 hP hB4 HP hb hbO hbw hjj
          go_wp2_with fail
          go_loopw [8, 9] (fun s8 s9 wr3 => ∃ (c : Nat) (ro : Option Addr) (rc : Nat), c ≤ A ∧ s8 = .slice ro c rc ∧ s9 = .int .i64 c ∧ Hid (wr3.ownsRow w6.heap.size 3 1 (.slice ro c rc) c (encI ((nextRow s j).take c))) ∧ Hid (Below w6.heap.size w6 wr3)) (fun _ s9 _ => A - (intOf s9).toNat)
          case atStart => exact ⟨0, none, 0, Nat.zero_le _, rfl, rfl, World.ownsRow_nil _ _ _ _, Below.refl _ _⟩
          case round =>
            obtain ⟨c, ro, rc, hc, rfl, rfl, HO, HB⟩ := hrel
            by_cases r : c < A
            · have r1 : (c : Int) < (A : Int) := by omega
              obtain ⟨f0, f1, f2, f3, f4, f5, f6, f7⟩ := HS6.out _ HB.out
              obtain ⟨cc, hcc⟩ : ∃ cc, cc = c + 1 := ⟨_, rfl⟩
              have hwc : IntKind.i64.wrap ((c : Int) + 1) = (cc : Int) := by rw [IntWalk.i64_in _ (by omega)]; omega
              have hcs : c < s.al.size := by rw [← HAE.out]; exact r
              have hca : c < al.size := by rw [HAL.out]; exact hcs
              have hs2 : ∀ W, (Instr.slice 9 (.string al) (some (.int .i64 (c : Int))) (some (.int .i64 (cc : Int))) none).run Try.prog W = .ok (.string (al.extract c cc)) W := fun W => slice_in (by omega) (by omega) W
              obtain ⟨x, hx⟩ : ∃ x, x = b ++ al.extract c cc := ⟨_, rfl⟩
              have hl2 : (al.extract c cc).size = 1 := by rw [ByteArray.size_extract]; omega
              have ha1 : ∀ W : World, (Op.stringOp .add b (al.extract c cc)).run Try.prog W = .ok (.string x) W := fun W => by rw [run_string_add_sum W _ _ (by omega), hx]
              have hxO : OfA x s.al := by
                rw [hx, HAL.out]
                intro y hy
                rw [bys_append] at hy
                rcases List.mem_append.1 hy with h | h
                · exact HBO.out y h
                · rw [bys_extract] at h
                  exact List.mem_of_mem_take (List.mem_of_mem_drop h)
              have hxw : wordN s.al x = wordN s.al b ++ [c] := by rw [hx, HAL.out, hcc]; exact word_snoc HWF.out.1 hcs
              obtain ⟨z, hz⟩ : ∃ z, z = nxD s j c := ⟨_, rfl⟩
              have hzz : z = stD (bansS s) (LD s) (wordN s.al x) := by rw [hz, nxD_st HBWD.out, hxw]
              have HST : Hid (Calls Try.prog 62 #[.agg #[.slice (some ⟨Bk, Ok, none⟩) kL bcap, .slice na j nc, .slice none 0 0], .agg #[.string al, .int .i64 len, .slice bo i bc, .bool ck], .string x] wr.drew fun e w' => e = .returned (.int .i64 z) ∧ Hid (Below wr.drew.heap.size wr.drew w')) := by
                have hss : IsSs w6 (.slice bo i bc) s.bl := HPH.out.tb.ss
                have h5 := stepD_any (vn := .slice na j nc) (vy := .slice none 0 0) HWF.out ((hss.below HB.out).below (below_dr wr 1)) ((HBL6.out.below HB.out).below (below_dr wr 1)) HBG.out (nodesD HWF.out).zero hxO (by rw [HBLK.out]; omega) (by rw [hx, ByteArray.size_append]; omega)
                rw [← hzz] at h5
                unfold schV at h5
                rw [← HAL.out, ← HLEN.out, ← HCK.out] at h5
                exact h5
              obtain ⟨xs, hxs⟩ : ∃ xs, xs = encI ((nextRow s j).take c) := ⟨_, rfl⟩
              have hnx : encI ((nextRow s j).take cc) = xs ++ [.int .i64 z] := by
                rw [hxs, hcc, List.take_succ_eq_append_getElem (by rw [nextRow_len]; exact hcs), nextRow_at s j hcs, hz]
                unfold encI
                rw [List.map_append]
                rfl
              have HNX := Lib.hid hnx
              have HO2 : Hid (wr.ownsRow w6.heap.size 3 1 (.slice ro c rc) c xs) := by rw [hxs]; exact HO.out
              have HML : Hid (c + 1 ≤ maxLen) := by show _ ≤ _; unfold maxLen; omega
              have HBY : Hid ((c + 1) * 8 ≤ 140737488355328) := by show _ ≤ _; omega
              have HONE : Hid (∀ u ∈ [Value.int .i64 z], u.oneCell' = true) := by intro u hu; simp at hu; subst hu; rfl
              have HBD : Hid (∀ V, Below wr.drew.heap.size wr.drew V → Below w6.heap.size w6 V) := fun V hV => (HB.out.trans ((below_dr wr 1).mono HB.out.size)).trans (hV.mono HB.out.size)
              have HCC := Lib.hid hcc
              have hcm : A - cc < A - c := by omega
              have hcl : cc ≤ A := by omega
              have HCL := Lib.hid hcl
              clear hx hxO hxw hz hzz hxs hnx hcc hcs hca HO hcl
              go_upto_region 18 with fail
              have g0 : wr.drew.cell? ⟨T, 0, none⟩ = some (.slice (some ⟨Bk, Ok, none⟩) kL bcap) := f0
              have g1 : wr.drew.cell? ⟨T, 1, none⟩ = some (.slice na j nc) := f1
              have g2 : wr.drew.cell? ⟨T, 2, none⟩ = some (.slice none 0 0) := f2
              have g3 : wr.drew.cell? ⟨w.heap.size, 0, none⟩ = some (.string al) := f3
              have g4 : wr.drew.cell? ⟨w.heap.size, 1, none⟩ = some (.int .i64 len) := f4
              have g5 : wr.drew.cell? ⟨w.heap.size, 2, none⟩ = some (.slice bo i bc) := f5
              have g6 : wr.drew.cell? ⟨w.heap.size, 3, none⟩ = some (.bool ck) := f6
              have g7 : wr.drew.cell? ⟨Bk, Ok + j, none⟩ = some (.string b) := f7
              clear f0 f1 f2 f3 f4 f5 f6 f7 e0 e1 e2 e3 t0 t1 t2 d0 hwj p1 hmk q1
              go_region_held3 (fun V : World => V.cell? ⟨T, 0, none⟩ = some (.slice (some ⟨Bk, Ok, none⟩) kL bcap) ∧ V.cell? ⟨T, 1, none⟩ = some (.slice na j nc) ∧ V.cell? ⟨T, 2, none⟩ = some (.slice none 0 0) ∧ V.cell? ⟨w.heap.size, 0, none⟩ = some (.string al) ∧ V.cell? ⟨w.heap.size, 1, none⟩ = some (.int .i64 len) ∧ V.cell? ⟨w.heap.size, 2, none⟩ = some (.slice bo i bc) ∧ V.cell? ⟨w.heap.size, 3, none⟩ = some (.bool ck) ∧ V.cell? ⟨Bk, Ok + j, none⟩ = some (.string b)) (first | assumption | exact HSC.out _ | exact ⟨by assumption, by assumption, by assumption, by assumption, by assumption, by assumption, by assumption, by assumption⟩) (first
                | (go_at_call 62; (with_reducible refine HST.out.mono ?_); rintro e w4 ⟨rfl, HBq⟩; have hS4 := HS6.out _ (HBD.out _ HBq.out); have HSC : Hid (∀ o, (w4.alloc o).cell? ⟨T, 0, none⟩ = some (.slice (some ⟨Bk, Ok, none⟩) kL bcap) ∧ (w4.alloc o).cell? ⟨T, 1, none⟩ = some (.slice na j nc) ∧ (w4.alloc o).cell? ⟨T, 2, none⟩ = some (.slice none 0 0) ∧ (w4.alloc o).cell? ⟨w.heap.size, 0, none⟩ = some (.string al) ∧ (w4.alloc o).cell? ⟨w.heap.size, 1, none⟩ = some (.int .i64 len) ∧ (w4.alloc o).cell? ⟨w.heap.size, 2, none⟩ = some (.slice bo i bc) ∧ (w4.alloc o).cell? ⟨w.heap.size, 3, none⟩ = some (.bool ck) ∧ (w4.alloc o).cell? ⟨Bk, Ok + j, none⟩ = some (.string b)) := fun o => HS6.out _ ((HBD.out _ HBq.out).trans ((below_al w4 o).mono (HBD.out _ HBq.out).size)); have HO4 : Hid (∀ o, (w4.alloc o).ownsRow w6.heap.size 3 1 (.slice ro c rc) c xs) := fun o => (ownsRow_below (ownsRow_below HO2.out (below_dr wr 1)) HBq.out).alloc o; have HZ4 : Hid (∀ o, w6.heap.size ≤ (w4.alloc o).heap.size) := fun o => Nat.le_trans (HBD.out _ HBq.out).size (by rw [World.size_alloc]; exact Nat.le_succ _); have HG4 : Hid (∀ o w8, (w4.alloc o).grownBy w8 (Value.slice ro c rc).ownBlock → Below w6.heap.size w6 w8) := fun o w8 hg => ((HBD.out _ HBq.out).trans ((below_al w4 o).mono (HBD.out _ HBq.out).size)).grown hg (HZ4.out o) (fun y hy => (HO2.out.lt y hy).1))
                | (refine step_app_at rfl (.tmp 73) (.tmp 89) 67 rfl w6.heap.size 3 ii (.int .i64 0) 1 8 Try.underlying67 hii hx0 hx1 hx2 rfl (by decide) (.slice ro c rc) c xs (by rfl) (HO4.out _) ⟨w4.heap.size, 0, none⟩ 1 1 [.int .i64 z] rfl rfl (cell_one_new _ _ _) HONE.out HML.out HBY.out (HZ4.out _) ?_; intro v' w8 hown hgrow _; obtain ⟨ro2, rc2, rfl⟩ := row_sl hown; have HB8 := Lib.hid (HG4.out _ _ hgrow); have hS8 := HS6.out _ HB8.out; have HO8 := Lib.hid hown; clear hown hgrow)
                | fail)
              go_wp2_with fail
              go_roundw
              case rel => exact ⟨cc, ro2, rc2, HCL.out, by rw [HCC.out], by go_num, by rw [HNX.out, HCC.out]; exact HO8.out, HB8⟩
              case measure => simp [intOf]; omega
            · obtain rfl : c = A := by omega
              have r1 : ¬ (c : Int) < (c : Int) := by omega
              obtain ⟨f0, f1, f2, f3, f4, f5, f6, f7⟩ := HS6.out _ HB.out
              have hP4 := HPH.out.below HB.out
              have hrow : wr.ownsRow w6.heap.size 3 1 (.slice ro c rc) (nextRow s j).length (encI (nextRow s j)) := by
                have h5 := HO.out
                have e5 : (nextRow s j).length = c := by rw [nextRow_len, ← HAE.out]
                rw [List.take_of_length_le (by rw [e5]; exact Nat.le_refl _)] at h5
                rw [e5]; exact h5
              have hIs : IsIs wr (.slice ro c rc) (nextRow s j) := IsIs.of_row hrow
              have hvl : vals.length = j := by
                have h5 := hP4.rn.1.1
                rw [hrl, Nat.mul_one] at h5
                exact h5
              have hnown : wr.ownsRow W1.heap.size 67 1 (.slice na j nc) j vals := by
                have h5 := hP4.rn.1
                rw [hrl] at h5
                exact h5
              have hfr : ∀ g, (Value.slice ro c rc).ownBlock = some g → (Value.slice na j nc).ownBlock ≠ some g ∧ g < wr.heap.size ∧ g ≠ W1.heap.size ∧ g ≠ T ∧ g ≠ Xr := fun g hg => by
                have h5 := HO.out.lt g hg
                have h6 : W1.heap.size < w6.heap.size := (HPH.out.go_ge).2
                have h7 := HLT.out
                refine ⟨fun e => ?_, h5.2, by omega, by omega, by omega⟩
                have h8 := (HPH.out.rn.1.lt g e).2
                omega
              have HPUSH : Hid (∀ (o : Obj) (w8 : World) (v' : Value), (wr.alloc o).grownBy w8 (Value.slice na j nc).ownBlock → (v'.ownBlock = (Value.slice na j nc).ownBlock ∨ v'.ownBlock = some (wr.alloc o).heap.size) → w8.ownsRow W1.heap.size 67 1 v' (j + 1) (vals ++ [.slice ro c rc]) →
                  w8.cell? ⟨T, 1, none⟩ = some (.slice na j nc) ∧ w8.frozen? ⟨T, 1, none⟩ = false ∧ (w8.setCell ⟨T, 1, none⟩ v').cell? ⟨W1.heap.size, j, none⟩ = some (.int .i64 0) ∧ (w8.setCell ⟨T, 1, none⟩ v').frozen? ⟨W1.heap.size, j, none⟩ = false ∧ P2S W1 w.heap.size Xr T W1.heap.size kL s (.slice bo i bc) (.slice (some ⟨Bk, Ok, none⟩) kL bcap) w ((w8.setCell ⟨T, 1, none⟩ v').setCell ⟨W1.heap.size, j, none⟩ (.int .i64 1)) v' (vals ++ [.slice ro c rc]) jj jj) := fun o w8 v' hg hat hown => by
                obtain ⟨g1, g2, g3⟩ := hP4.push (by rw [← HKL.out]; exact p) hIs hfr hg hat hown
                obtain ⟨g4, g5, g6⟩ := g3.one p
                rw [HJJ.out]
                exact ⟨g1, g2, g4, g5, g6⟩
              have HNO := Lib.hid hnown
              have hszW : W1.heap.size ≤ wr.heap.size + 1 := by have := hP4.gr.size; omega
              clear hP4 hrow hIs hvl hnown hfr
              go_wp2_with (first
                | (at_builtin; refine wpList_append_own_at _ rfl _ _ 28 rfl W1.heap.size 67 i1 (.slice none 0 0) 1 24 Try.underlying28 hi1 hy0 hy1 hy2 rfl (by decide) (.slice na j nc) j vals rfl (HNO.out.alloc _) ⟨wr.heap.size, 0, none⟩ 1 1 [.slice ro c rc] rfl rfl (cell_one_new _ _ _) (by simp [Value.oneCell']) (by unfold maxLen; omega) (by omega) (by rw [World.size_alloc]; exact hszW) ?_; intro v' w8 hown hgrow _ hat; obtain ⟨na2, nc2, rfl⟩ := row_sl hown; obtain ⟨q1, q2, q3, q4, q5⟩ := HPUSH.out _ _ _ hgrow hat hown; have HQ5 := Lib.hid q5; clear hown hgrow hat q5)
                | fail)
              go_roundw
              case rel => exact ⟨jj, hjl, by go_num, _, _, HQ5.out⟩
              case measure => simp [intOf]; omega
        · obtain rfl : j = kL := by omega
          have p1 : ¬ (j : Int) < (j : Int) := by omega
          go_upto_region 21 with fail
          have hr6 : (nextR s).take j = nextR s := List.take_of_length_le (by rw [nextR_len, ← HKL.out]; exact Nat.le_refl _)
          have hP2 := HPH.out
          have hrn := hP2.rn
          rw [hr6] at hrn
          have hslz := hrn.slz
          have hone : IsIs w6 (.slice (some ⟨W1.heap.size, 0, none⟩) j j) (wayRow s 0) := by
            have h5 := hP2.on
            have e5 : halfL (ones j) j = wayRow s 0 := by
              have h6 := halfL_all (ones j)
              have h7 : (ones j).length = j := by simp [ones]
              rw [h7] at h6
              rw [h6, HKL.out, ones_way]
            rw [e5] at h5
            have e6 : (wayRow s 0).length = j := by rw [wayRow_len, ← HKL.out]
            exact IsIs.of_row (by rw [e6]; exact h5)
          have hlR := HLT.out
          have hgs := hP2.gr.size
          have hgo := hP2.go_ge
          obtain ⟨o7, ho7⟩ : ∃ o7, o7 = Obj.cells #[.slice (some ⟨W1.heap.size, 0, none⟩) j j] 67 (0, 0) := ⟨_, rfl⟩
          obtain ⟨w7, hw7⟩ : ∃ w7, w7 = (w6.alloc o7).setCell ⟨T, 2, none⟩ (.slice (some ⟨w6.heap.size, 0, none⟩) 1 1) := ⟨_, rfl⟩
          have hb7 := below_al w6 o7
          have hsz7 : (w6.alloc o7).heap.size = w6.heap.size + 1 := World.size_alloc _ _
          have t2a : (w6.alloc o7).cell? ⟨T, 2, none⟩ = some (.slice none 0 0) := (hb7.cell (p := ⟨T, 2, none⟩) (World.block_lt_of_cell? _ _ t2)).trans t2
          have f2a : (w6.alloc o7).frozen? ⟨T, 2, none⟩ = false := (hb7.frozen (p := ⟨T, 2, none⟩) (World.block_lt_of_cell? _ _ t2)).trans (hP2.tb.tf 2)
          have H3 : Hid (P3S w6 w.heap.size Xr T s (.slice bo i bc) (.slice ba j bcap) (.slice na j nc) BL w w7 (.slice (some ⟨w6.heap.size, 0, none⟩) 1 1) [.slice (some ⟨W1.heap.size, 0, none⟩) j j] 1) := by
            have hTg : T ≠ w6.heap.size := by omega
            have hset : (w6.alloc o7).grownBy w7 (some T) := by rw [hw7]; exact grownBy_setCell _ _ _ _
            have hz : RowZ w6.heap.size [T, Xr] (.slice (some ⟨w6.heap.size, 0, none⟩) 1 1) (wayR s 1) [.slice (some ⟨W1.heap.size, 0, none⟩) j j] (w6.alloc o7) := by
              refine ⟨⟨by rw [wayR_len]; rfl, .inr ⟨w6.heap.size, 1, #[.slice (some ⟨W1.heap.size, 0, none⟩) j j], by rw [wayR_len], Nat.le_refl _, by rw [ho7]; exact World.alloc_heap_new _ _, Nat.le_refl _, by decide, rfl, rfl⟩⟩, fun x hx => ?_, fun y hy => ?_⟩
              · simp at hx
                rcases hx with rfl | rfl
                · exact ⟨by simp [Value.ownBlock]; omega, by omega⟩
                · exact ⟨by simp [Value.ownBlock]; omega, by omega⟩
              · rw [wayR_len] at hy
                obtain rfl : y = 0 := by omega
                refine ⟨_, rfl, by rw [wayR_at s (by omega)]; exact hone.below hb7, fun g hg => ?_⟩
                have hg' : some W1.heap.size = some g := hg
                injection hg' with hg'
                exact ⟨by simp [Value.ownBlock]; omega, by omega, by simp; omega⟩
            have hbl6 := HBL6.out
            have hfr : ∀ x, w6.heap.size ≤ x → (Value.slice ba j bcap).ownBlock ≠ some x ∧ SlzA [x, T] w6 (.slice na j nc) (nextR s) := fun x hx => by
              refine ⟨fun e => ?_, ?_⟩
              · obtain ⟨B, o, rfl, hc⟩ := hbl6.at' (j := 0) (by rw [HBLK.out]; omega)
                have e' : some B = some x := e
                injection e' with e'
                have := World.block_lt_of_cell? _ _ hc
                dsimp only at this
                omega
              · have h5 := hslz.fresh (x := x) (by rw [← List.length_pos_iff, nextR_len, ← HKL.out]; omega) (fun r hr => by
                  unfold nextR at hr
                  obtain ⟨y, _, rfl⟩ := List.mem_map.1 hr
                  rw [← List.length_pos_iff, nextRow_len, ← HAE.out]
                  omega) hx
                obtain ⟨ao, c, e1, h6, h7⟩ := h5
                refine ⟨ao, c, e1, fun y hy => h6 y (by simp at hy ⊢; rcases hy with rfl | rfl <;> simp), fun y hy => ?_⟩
                obtain ⟨B, o, bv', g1, g2, g3, g4⟩ := h7 y hy
                exact ⟨B, o, bv', g1, g2, g3, fun z hz => g4 z (by simp at hz ⊢; rcases hz with rfl | rfl <;> simp)⟩
            have hslz2 : SlzA [T, Xr] w6 (.slice na j nc) (nextR s) := by
              obtain ⟨ao, c, e1, h6, h7⟩ := hslz
              refine ⟨ao, c, e1, fun y hy => h6 y (by simp at hy ⊢; rcases hy with rfl | rfl <;> simp), fun y hy => ?_⟩
              obtain ⟨B, o, bv', g1, g2, g3, g4⟩ := h7 y hy
              exact ⟨B, o, bv', g1, g2, g3, fun z hz => g4 z (by simp at hz ⊢; rcases hz with rfl | rfl <;> simp)⟩
            refine ⟨by rw [hw7]; exact (hP2.tb.below hb7).set2 _, grownBy_trans (grownBy_none hb7 _) hset, (hbl6.below hb7).kept hset HNB.out.1, (hslz2.below hb7).kept hset (by simp), hz.kept hset (fun x e => by injection e with e; rw [← e]; simp), HNB.out.1, HNB.out.2, hfr, by omega, by omega, by omega, by have := hP2.lW; omega⟩
          have HW7 := Lib.hid hw7
          have HLW := Lib.hid hlR
          rw [ho7] at HW7 t2a f2a
          clear hr6 hP2 hrn hslz hone hlR hgs hgo ho7 hw7 hb7 hsz7 HBL6 HPH
          go_upto_region 22 with fail
          rw [← HW7.out]
          clear t0 t1 t2 e0 e1 e2 e3 t2a f2a
          go_wp2_with fail
          go_loopw [10] (fun s10 wr2 => ∃ n : Nat, 1 ≤ n ∧ n ≤ nn + 1 ∧ s10 = .int .i64 n ∧ Hid (∃ vy vals, P3S w6 w.heap.size Xr T s (.slice bo i bc) (.slice ba j bcap) (.slice na j nc) BL w wr2 vy vals n)) (fun s10 _ => nn + 1 - (intOf s10).toNat)
          case atStart => exact ⟨1, Nat.le_refl _, by omega, rfl, _, _, H3.out⟩
          case round =>
            obtain ⟨n, hn1, hn, rfl, HP⟩ := hrel
            obtain ⟨vy, yvals, hP⟩ := HP.out
            obtain ⟨W3, rfl⟩ : ∃ W3, W3 = wr := ⟨_, rfl⟩
            obtain ⟨ya, yc, hvy⟩ := row_sl hP.ry.1
            rw [wayR_len] at hvy
            subst hvy
            have hB4 := hP.tb.b4
            rw [← HAL.out, ← HLEN.out, ← HCK.out] at hB4
            have e0 := hB4.c0; have e1 := hB4.c1
            have t0 := hP.tb.t.c0; have t1 := hP.tb.t.c1; have t2 := hP.tb.t.c2
            have HPH := Lib.hid hP
            by_cases p2 : n ≤ nn
            · have p3 : (n : Int) ≤ len := by rw [HLN.out]; omega
              obtain ⟨nz, hnz⟩ : ∃ nz, nz = n + 1 := ⟨_, rfl⟩
              have hwn : IntKind.i64.wrap ((n : Int) + 1) = (nz : Int) := by rw [IntWalk.i64_in _ (by omega)]; omega
              obtain ⟨n0, hn0⟩ : ∃ n0, n0 = n - 1 := ⟨_, rfl⟩
              have hwn0 : IntKind.i64.wrap ((n : Int) - 1) = (n0 : Int) := by rw [IntWalk.i64_in _ (by omega)]; omega
              have hmk2 := made_intS j (by omega)
              obtain ⟨w8, hw8⟩ : ∃ w8, w8 = W3.alloc (.cells (madeCells #[.int .i64 0] j) 3) := ⟨_, rfl⟩
              have hb8 : Below W3.heap.size W3 w8 := by rw [hw8]; exact below_al _ _
              have hwl : (wayRow s n).length = j := by rw [wayRow_len, ← HKL.out]
              have H8 : Hid (w8.ownsRow W3.heap.size 3 1 (.slice (some ⟨W3.heap.size, 0, none⟩) j j) j (encI (halfL (wayRow s n) 0))) := by
                have h5 := made_own W3 j (by omega)
                rw [← hw8] at h5
                show w8.ownsRow _ _ _ _ _ _
                rw [halfL_zero, hwl]
                exact h5
              have HB8 := Lib.hid hb8
              have HW8 := Lib.hid hw8
              have HNZ := Lib.hid hnz
              have HN0 := Lib.hid hn0
              have HWL := Lib.hid hwl
              have HS3 : Hid (∀ V, Below W3.heap.size W3 V → V.cell? ⟨T, 0, none⟩ = some (.slice ba j bcap) ∧ V.cell? ⟨T, 1, none⟩ = some (.slice na j nc) ∧ V.cell? ⟨T, 2, none⟩ = some (.slice ya n yc) ∧ V.cell? ⟨w.heap.size, 0, none⟩ = some (.string al)) := fun V hV => by
                have f : ∀ {p : Addr} {v : Value}, W3.cell? p = some v → V.cell? p = some v := fun {p v} h => (hV.cell (p := p) (World.block_lt_of_cell? _ _ h)).trans h
                exact ⟨f t0, f t1, f t2, f e0⟩
              have hnm : nn + 1 - nz < nn + 1 - n := by omega
              have hnl : nz ≤ nn + 1 := by omega
              have hnn : n0 < n := by omega
              have hnl1 : 1 ≤ nz := by omega
              clear hP hB4 HP hw8 hb8 hwl hnz hn0
              go_upto_region 26 with fail
              rw [← HW8.out]
              clear t0 t1 t2 e0 e1 hmk2
              go_wp2_with fail
              go_loopw [12] (fun s12 wr3 => ∃ q : Nat, q ≤ j ∧ s12 = .int .i64 q ∧ Hid (wr3.ownsRow W3.heap.size 3 1 (.slice (some ⟨W3.heap.size, 0, none⟩) j j) j (encI (halfL (wayRow s n) q))) ∧ Hid (Below W3.heap.size W3 wr3)) (fun s12 _ => j - (intOf s12).toNat)
              case atStart => exact ⟨0, Nat.zero_le _, rfl, H8, HB8⟩
              case round =>
                obtain ⟨q, hq, rfl, HO, HB⟩ := hrel
                obtain ⟨f0, f1, f2, f3⟩ := HS3.out _ HB.out
                by_cases r : q < j
                · have r1 : (q : Int) < (j : Int) := by omega
                  obtain ⟨qq, hqq⟩ : ∃ qq, qq = q + 1 := ⟨_, rfl⟩
                  have hwq : IntKind.i64.wrap ((q : Int) + 1) = (qq : Int) := by rw [IntWalk.i64_in _ (by omega)]; omega
                  have hqL : q < (LD s).length := by rw [← HKL.out]; exact r
                  obtain ⟨Bn, On, bvn, hna, dn, hIn⟩ := HPH.out.hn.at' (i := q) (by rw [nextR_len]; exact hqL)
                  rw [nextR_at s hqL] at hIn
                  obtain ⟨By, bvy, hya, dy, hIy⟩ := HPH.out.ry.at' (i := n0) (by rw [wayR_len]; exact hnn)
                  rw [wayR_at s hnn] at hIy
                  subst hna; subst hya
                  have HIN := Lib.hid hIn
                  have HIY := Lib.hid hIy
                  obtain ⟨rna, rnc, rfl, -⟩ := hIn
                  obtain ⟨rya, ryc, rfl, -⟩ := hIy
                  have hl1 : (nextRow s q).length = A := by rw [nextRow_len, ← HAE.out]
                  have hl2 : (wayRow s n0).length = j := by rw [wayRow_len, ← HKL.out]
                  rw [hl1] at HIN dn
                  rw [hl2] at HIY dy
                  have HDN := Lib.hid dn
                  have HDY := Lib.hid dy
                  have hqw : q < (wayRow s n).length := by rw [HWL.out]; exact r
                  have hst0 : Hid (wr.ownsRow W3.heap.size 3 1 (.slice (some ⟨W3.heap.size, 0, none⟩) j j) j (encI ((halfL (wayRow s n) q).set q ((capD (sumV (trmD s n0 q) 0) : Nat) : Int)))) := by
                    have h6 : (halfL (wayRow s n) q).set q ((capD (sumV (trmD s n0 q) 0) : Nat) : Int) = halfL (wayRow s n) q := by
                      have h7 := halfL_at hqw
                      obtain ⟨h8, h9⟩ := List.getElem?_eq_some_iff.1 h7
                      have e0 : ((capD (sumV (trmD s n0 q) 0) : Nat) : Int) = (halfL (wayRow s n) q)[q] := by rw [h9]; rfl
                      rw [e0, List.set_getElem_self]
                    show wr.ownsRow _ _ _ _ _ _
                    rw [h6]; exact HO.out
                  have HQQ := Lib.hid hqq
                  have hqm : j - qq < j - q := by omega
                  have hql : qq ≤ j := by omega
                  have HQL2 := Lib.hid hqL
                  have HQW := Lib.hid hqw
                  clear hl1 hl2 hqq hqL hqw dn dy
                  go_wp2_with fail
                  go_loopw [13] (fun s13 wr4 => ∃ c : Nat, c ≤ A ∧ s13 = .int .i64 c ∧ Hid (wr4.ownsRow W3.heap.size 3 1 (.slice (some ⟨W3.heap.size, 0, none⟩) j j) j (encI ((halfL (wayRow s n) q).set q ((capD (sumV (trmD s n0 q) c) : Nat) : Int)))) ∧ Hid (Below W3.heap.size W3 wr4)) (fun s13 _ => A - (intOf s13).toNat)
                  case atStart => exact ⟨0, Nat.zero_le _, rfl, hst0, HB⟩
                  case round =>
                    obtain ⟨c, hc, rfl, HO4, HB4⟩ := hrel
                    obtain ⟨g0, g1, g2, g3⟩ := HS3.out _ HB4.out
                    by_cases u : c < A
                    · have u1 : (c : Int) < (A : Int) := by omega
                      obtain ⟨cc, hcc⟩ : ∃ cc, cc = c + 1 := ⟨_, rfl⟩
                      have hwc : IntKind.i64.wrap ((c : Int) + 1) = (cc : Int) := by rw [IntWalk.i64_in _ (by omega)]; omega
                      have fW : ∀ {p : Addr} {v : Value}, W3.cell? p = some v → wr.cell? p = some v := fun {p v} h => (HB4.out.cell (p := p) (World.block_lt_of_cell? _ _ h)).trans h
                      have d1 := fW HDN.out
                      have hcs : c < s.al.size := by rw [← HAE.out]; exact u
                      obtain ⟨Br, Or, hra, d2⟩ := HIN.out.at' (j := c) (by rw [nextRow_len]; exact hcs)
                      subst hra
                      rw [nextRow_at s q hcs] at d2
                      have d3 := fW d2
                      have hcm : A - cc < A - c := by omega
                      have hcl : cc ≤ A := by omega
                      have hSU : sumV (trmD s n0 q) cc = sumV (trmD s n0 q) c + trmD s n0 q c := by rw [hcc]; rfl
                      have HCC := Lib.hid hcc
                      cases hf : fD s q c with
                      | none =>
                        have hz : nxD s q c = -1 := by unfold nxD; rw [hf]
                        rw [hz] at d3
                        have hneg : ¬ (-1 : Int) ≥ 0 := by omega
                        have HSU : Hid (sumV (trmD s n0 q) cc = sumV (trmD s n0 q) c) := by
                          show _ = _
                          rw [hSU]
                          unfold trmD
                          rw [hf]
                          rfl
                        clear hf hz hSU hcc hcs d2
                        go_wp2_with fail
                        go_roundw
                        case rel => exact ⟨cc, hcl, by go_num, by rw [HSU.out]; exact HO4, HB4⟩
                        case measure => simp [intOf]; omega
                      | some to_ =>
                        have hz : nxD s q c = (to_ : Int) := by unfold nxD; rw [hf]
                        rw [hz] at d3
                        have htl : to_ < (LD s).length := fD_lt HWF.out hf
                        have htj : to_ < j := by rw [HKL.out]; exact htl
                        have d4 := fW HDY.out
                        obtain ⟨Bw, Ow, hwa, d5⟩ := HIY.out.at' (j := to_) (by rw [wayRow_len]; exact htl)
                        subst hwa
                        rw [wayRow_at s n0 htl] at d5
                        have d6 := fW d5
                        obtain ⟨x, hx⟩ : ∃ x, x = capD (sumV (trmD s n0 q) c) := ⟨_, rfl⟩
                        obtain ⟨y, hy⟩ : ∃ y, y = capD (wayD s n0 to_) := ⟨_, rfl⟩
                        have hxl : x ≤ tooM := by rw [hx]; unfold capD; omega
                        have hyl : y ≤ tooM := by rw [hy]; unfold capD; omega
                        unfold tooM at hxl hyl
                        rw [← hy] at d6
                        have hrow : wr.drew.ownsRow W3.heap.size 3 1 (.slice (some ⟨W3.heap.size, 0, none⟩) j j) j (encI ((halfL (wayRow s n) q).set q ((capD (sumV (trmD s n0 q) c) : Nat) : Int))) := ownsRow_below HO4.out (below_dr wr 1)
                        rw [← hx] at hrow
                        have hql2 : q < (halfL (wayRow s n) q).length := by rw [halfL_len _ (by rw [HWL.out]; omega), HWL.out]; exact r
                        obtain ⟨d7, d8⟩ := row_cell hrow (j := q) (v := (x : Int)) (List.getElem?_set_self hql2)
                        obtain ⟨xy, hxy⟩ : ∃ xy, xy = x + y := ⟨_, rfl⟩
                        have hwxy : IntKind.i64.wrap ((x : Int) + (y : Int)) = (xy : Int) := by rw [IntWalk.i64_in _ (by omega)]; omega
                        obtain ⟨mn, hmn⟩ : ∃ mn, mn = capD (sumV (trmD s n0 q) cc) := ⟨_, rfl⟩
                        have hmne : mn = min xy tooM := by
                          rw [hmn, hSU]
                          have e5 : trmD s n0 q c = wayD s n0 to_ := by unfold trmD; rw [hf]
                          rw [e5, ← cap_add, ← hx, ← hy, hxy]
                        have hmin : min (xy : Int) 1099511627777 = (mn : Int) := by rw [hmne]; unfold tooM; omega
                        have hst := row_stored hrow q (mn : Int)
                        rw [set_set_same] at hst
                        have HST : Hid ((wr.drew.setCell ⟨W3.heap.size, q, none⟩ (.int .i64 (mn : Int))).ownsRow W3.heap.size 3 1 (.slice (some ⟨W3.heap.size, 0, none⟩) j j) j (encI ((halfL (wayRow s n) q).set q ((capD (sumV (trmD s n0 q) cc) : Nat) : Int)))) := by rw [← hmn]; exact hst
                        have HSB : Hid (Below W3.heap.size W3 (wr.drew.setCell ⟨W3.heap.size, q, none⟩ (.int .i64 (mn : Int)))) := (HB4.out.trans ((below_dr wr 1).mono HB4.out.size)).setCell (Nat.le_refl _) _
                        have htj1 : (to_ : Int) < (j : Int) := by omega
                        have hge : (to_ : Int) ≥ 0 := by omega
                        have hn01 : (n0 : Int) < (n : Int) := by omega
                        clear hf hz hSU hcc hcs d2 d5 htl hx hy hrow hql2 hxy hmn hmne hst fW
                        go_upto_region 33 with fail
                        have k1 : wr.drew.cell? ⟨T, 1, none⟩ = some (.slice (some ⟨Bn, On, none⟩) j nc) := g1
                        have k2 : wr.drew.cell? ⟨T, 2, none⟩ = some (.slice (some ⟨By, 0, none⟩) n yc) := g2
                        have k3 : wr.drew.cell? ⟨Bn, On + q, none⟩ = some (.slice (some ⟨Br, Or, none⟩) A rnc) := d1
                        have k4 : wr.drew.cell? ⟨By, n0, none⟩ = some (.slice (some ⟨Bw, Ow, none⟩) j ryc) := d4
                        have k5 : wr.drew.cell? ⟨Br, Or + c, none⟩ = some (.int .i64 (to_ : Int)) := d3
                        have k6 : wr.drew.cell? ⟨Bw, Ow + to_, none⟩ = some (.int .i64 (y : Int)) := d6
                        go_region
                        go_wp2_with fail
                        go_roundw
                        case rel => exact ⟨cc, hcl, by go_num, HST, HSB⟩
                        case measure => simp [intOf]; omega
                    · obtain rfl : c = A := by omega
                      have u1 : ¬ (c : Int) < (c : Int) := by omega
                      have HN : Hid (wr.ownsRow W3.heap.size 3 1 (.slice (some ⟨W3.heap.size, 0, none⟩) j j) j (encI (halfL (wayRow s n) qq))) := by
                        have h5 := HO4.out
                        have e5 : sumV (trmD s n0 q) c = wayD s n q := by
                          rw [show n = n0 + 1 by have := HN0.out; omega, wayD_succ, HAE.out]
                        rw [e5, ← wayRow_at s n HQL2.out, halfL_set HQW.out, ← HQQ.out] at h5
                        exact h5
                      go_wp2_with fail
                      go_roundw
                      case rel => exact ⟨qq, hql, by go_num, HN, HB4⟩
                      case measure => simp [intOf]; omega
                · obtain rfl : q = j := by omega
                  have r1 : ¬ (q : Int) < (q : Int) := by omega
                  have hP4 := HPH.out.below HB.out
                  have hIs : IsIs wr (.slice (some ⟨W3.heap.size, 0, none⟩) q q) (wayRow s n) := by
                    have h5 := HO.out
                    have h6 := halfL_all (wayRow s n)
                    rw [HWL.out] at h6
                    rw [h6] at h5
                    exact IsIs.of_row (by rw [HWL.out]; exact h5)
                  have hrl3 := HO.out.lt W3.heap.size rfl
                  have hfr : ∀ g, (Value.slice (some ⟨W3.heap.size, 0, none⟩) q q).ownBlock = some g → (Value.slice ya n yc).ownBlock ≠ some g ∧ g < wr.heap.size ∧ g ≠ T ∧ g ≠ Xr := fun g hg => by
                    have hg' : some W3.heap.size = some g := hg
                    injection hg' with hg'
                    subst hg'
                    have h7 := HPH.out.tb.t.lt
                    have h8 := HPH.out.tb.r.lt
                    refine ⟨fun e => ?_, hrl3.2, by omega, by omega⟩
                    have h9 := (HPH.out.ry.1.lt _ e).2
                    omega
                  have hyown : wr.ownsRow w6.heap.size 67 1 (.slice ya n yc) n yvals := by
                    have h5 := hP4.ry.1
                    rw [wayR_len] at h5
                    exact h5
                  have HPUSH : Hid (∀ (o : Obj) (w8 : World) (v' : Value), (wr.alloc o).grownBy w8 (Value.slice ya n yc).ownBlock → (v'.ownBlock = (Value.slice ya n yc).ownBlock ∨ v'.ownBlock = some (wr.alloc o).heap.size) → w8.ownsRow w6.heap.size 67 1 v' (n + 1) (yvals ++ [.slice (some ⟨W3.heap.size, 0, none⟩) q q]) →
                      w8.cell? ⟨T, 2, none⟩ = some (.slice ya n yc) ∧ w8.frozen? ⟨T, 2, none⟩ = false ∧ P3S w6 w.heap.size Xr T s (.slice bo i bc) (.slice ba q bcap) (.slice na q nc) BL w (w8.setCell ⟨T, 2, none⟩ v') v' (yvals ++ [.slice (some ⟨W3.heap.size, 0, none⟩) q q]) nz) := fun o w8 v' hg hat hown => by
                    rw [HNZ.out]
                    exact hP4.push hIs hfr hg hat hown
                  have HNO := Lib.hid hyown
                  have hszW : w6.heap.size ≤ wr.heap.size + 1 := by have := hP4.gr.size; omega
                  clear hP4 hIs hfr hyown
                  go_wp2_with (first
                    | (at_builtin; refine wpList_append_own_at _ rfl _ _ 28 rfl w6.heap.size 67 i1 (.slice none 0 0) 1 24 Try.underlying28 hi1 hy0 hy1 hy2 rfl (by decide) (.slice ya n yc) n yvals rfl (HNO.out.alloc _) ⟨wr.heap.size, 0, none⟩ 1 1 [.slice (some ⟨W3.heap.size, 0, none⟩) q q] rfl rfl (cell_one_new _ _ _) (by simp [Value.oneCell']) (by unfold maxLen; omega) (by omega) (by rw [World.size_alloc]; exact hszW) ?_; intro v' w8 hown hgrow _ hat; obtain ⟨ya2, yc2, rfl⟩ := row_sl hown; obtain ⟨q1, q2, q3⟩ := HPUSH.out _ _ _ hgrow hat hown; have HQ3 := Lib.hid q3; clear hown hgrow hat q3)
                    | fail)
                  go_roundw
                  case rel => exact ⟨nz, hnl1, hnl, by go_num, _, _, HQ3.out⟩
                  case measure => simp [intOf]; omega
            · have HNE : Hid (n = nn + 1) := by show n = _; omega
              have p3 : ¬ (n : Int) ≤ len := by rw [HLN.out]; omega
              have hP4 := HPH.out
              have r0 := hP4.tb.r.c0; have r1 := hP4.tb.r.c1; have r2 := hP4.tb.r.c2
              have z0 := hP4.tb.rf 0; have z1 := hP4.tb.rf 1; have z2 := hP4.tb.rf 2
              clear hP4 hmk hls hP hB4 HP p1 q1 e0 p2 hi1 hy0 hy1 hy2 hii hx0 hx1 hx2 hi_ hz0 hz1 hz2 hrl hk113 hk1 hA36 hA2 hn16 hn1 hn hl16
              go_wp2_with fail
              obtain ⟨w9, hw9⟩ : ∃ w9, w9 = ((W3.setCell ⟨Xr, 0, none⟩ (.slice ba j bcap)).setCell ⟨Xr, 1, none⟩ (.slice na j nc)).setCell ⟨Xr, 2, none⟩ (.slice ya n yc) := ⟨_, rfl⟩
              rw [← hw9]
              have q0 : w9.cell? ⟨Xr, 0, none⟩ = some (.slice ba j bcap) := by
                rw [hw9, World.cell?_setCell_other _ _ _ _ (by intro e; injection e with _ e; exact absurd e (by decide)), World.cell?_setCell_other _ _ _ _ (by intro e; injection e with _ e; exact absurd e (by decide))]
                exact World.cell?_setCell_same _ _ _ r0
              have r1' : (W3.setCell ⟨Xr, 0, none⟩ (.slice ba j bcap)).cell? ⟨Xr, 1, none⟩ = some (.slice none 0 0) := (World.cell?_setCell_other _ _ _ _ (by intro e; injection e with _ e; exact absurd e (by decide))).trans r1
              have r2' : ((W3.setCell ⟨Xr, 0, none⟩ (.slice ba j bcap)).setCell ⟨Xr, 1, none⟩ (.slice na j nc)).cell? ⟨Xr, 2, none⟩ = some (.slice none 0 0) := (World.cell?_setCell_other _ _ _ _ (by intro e; injection e with _ e; exact absurd e (by decide))).trans ((World.cell?_setCell_other _ _ _ _ (by intro e; injection e with _ e; exact absurd e (by decide))).trans r2)
              have q1' : w9.cell? ⟨Xr, 1, none⟩ = some (.slice na j nc) := by
                rw [hw9, World.cell?_setCell_other _ _ _ _ (by intro e; injection e with _ e; exact absurd e (by decide))]
                exact World.cell?_setCell_same _ _ _ r1'
              have q2' : w9.cell? ⟨Xr, 2, none⟩ = some (.slice ya n yc) := by rw [hw9]; exact World.cell?_setCell_same _ _ _ r2'
              have hg : W3.grownBy w9 (some Xr) := by rw [hw9]; exact grownBy_trans (grownBy_trans (grownBy_setCell _ _ _ _) (grownBy_setCell _ _ _ _)) (grownBy_setCell _ _ _ _)
              have hfin : TabS s w9 (.agg #[.slice ba j bcap, .slice na j nc, .slice ya n yc]) := by
                have hP4 := HPH.out
                have hsl := hP4.ry.slz.kept hg (by simp)
                rw [HNE.out, HNN.out] at hsl
                refine ⟨[T, Xr], _, _, _, BL, rfl, hP4.hb.kept hg hP4.nR, HBG.out, hP4.hn.kept hg (by simp), ?_⟩
                rw [HNE.out, HNN.out]
                exact hsl
              have hbel : Below w.heap.size w w9 := by
                have h5 := HPH.out.tb.blw
                have h6 := HPH.out.tb.bR
                rw [hw9]
                exact ((h5.setCell h6 _).setCell h6 _).setCell h6 _
              refine bodyPost_ret (v := .agg #[.slice ba j bcap, .slice na j nc, .slice ya n yc]) (by simp [results, Try.results45, go_sem, q0, q1', q2']) rfl ?_
              exact ⟨_, rfl, hfin, hbel⟩
end Go.Proofs.Ytgblfobomiiofaa
