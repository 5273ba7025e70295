/- The contracts of more and built: a map after some updates. -/
import Derived.Test.YtahgfggcpmnnaabZc
import Derived.Test.YtahgfggcpmnnaabYy
namespace Go.Proofs.Ytahgfggcpmnnaab
open Go Go.RowKit Gs

structure Act where
  sw : Bool
  lo : Int
  hi : Int
  fr : Int
  tt : Int
/-- a list of updates lies at a slice -/
def IsAs (W : World) (v : Value) (l : List Act) : Prop :=
  ∃ ao c, v = .slice ao l.length c ∧ (0 < l.length → ∃ B o, ao = some ⟨B, o, none⟩ ∧ B < W.heap.size ∧ ∀ j (h : j < l.length),
    W.cell? ⟨B, o + j * 5, none⟩ = some (.bool l[j].sw) ∧ W.cell? ⟨B, o + j * 5 + 1, none⟩ = some (.int .i64 l[j].lo) ∧ W.cell? ⟨B, o + j * 5 + 2, none⟩ = some (.int .i64 l[j].hi) ∧ W.cell? ⟨B, o + j * 5 + 3, none⟩ = some (.int .i64 l[j].fr) ∧ W.cell? ⟨B, o + j * 5 + 4, none⟩ = some (.int .i64 l[j].tt))
theorem IsAs.below {W W' : World} {v : Value} {l : List Act} (h : IsAs W v l) (hb : Below W.heap.size W W') : IsAs W' v l := by
  obtain ⟨ao, c, hv, h⟩ := h
  refine ⟨ao, c, hv, fun hp => ?_⟩
  obtain ⟨B, o, e, hB, hc⟩ := h hp
  refine ⟨B, o, e, Nat.lt_of_lt_of_le hB hb.size, fun j hj => ?_⟩
  obtain ⟨h0, h1, h2, h3, h4⟩ := hc j hj
  exact ⟨(hb.cell (p := ⟨B, _, none⟩) hB).trans h0, (hb.cell (p := ⟨B, _, none⟩) hB).trans h1, (hb.cell (p := ⟨B, _, none⟩) hB).trans h2, (hb.cell (p := ⟨B, _, none⟩) hB).trans h3, (hb.cell (p := ⟨B, _, none⟩) hB).trans h4⟩
/-- what an update makes of the function, where nothing is refused -/
def actF (a : Act) (f : Int → Int) : Int → Int := if a.sw then swr f a.lo a.hi a.fr.toNat a.tt.toNat else put f a.lo a.hi a.tt
def actE (size : Int) (a : Act) : Int := errOf size a.lo a.hi (if a.sw then [a.fr, a.tt] else [a.tt])
/-- one update: it has its effect, or is refused -/
def One (size : Int) (f : Int → Int) (a : Act) (f' : Int → Int) : Prop :=
  (f' = actF a f ∧ actE size a = 0 ∧ ∃ L, Gs.Can f' 0 L size ∧ L.length ≤ 4096) ∨ (f' = f ∧ (actE size a ≠ 0 ∨ ∃ L, Gs.Can (actF a f) 0 L size ∧ 4096 < L.length))
/-- several updates -/
inductive Mo (size : Int) (f : Int → Int) : List Act → (Int → Int) → Prop
  | nil : Mo size f [] f
  | snoc {l : List Act} {a : Act} {f1 f2 : Int → Int} : Mo size f l f1 → One size f1 a f2 → Mo size f (l ++ [a]) f2
theorem IsM.can {f : Int → Int} {size : Int} {W : World} {p : Option Addr} (h : IsM f size W p) : ∃ L, Gs.Can f 0 L size ∧ L.length ≤ 4096 := by
  obtain ⟨t, _, h2, h3⟩ := h.tr
  exact ⟨t.L, h2, by rw [← T.sz_eq]; exact h3⟩
theorem one_of {size : Int} {f : Int → Int} {a : Act} {q p : Option Addr} {s e : Int} {W : World} (h : Upd f (actF a f) size (actE size a) q s e W) (hp : IsM f size W p) :
    (e = 0 ∧ s = size ∧ IsM (actF a f) size W q ∧ One size f a (actF a f)) ∨ ((e == 0) = false ∧ One size f a f) := by
  rcases h with ⟨h1, rfl, _, _⟩ | ⟨_, rfl, _, _, L, hL, hl⟩ | ⟨h1, rfl, rfl, h2⟩
  · exact .inr ⟨beq_eq_false_iff_ne.2 h1, .inr ⟨rfl, .inl h1⟩⟩
  · exact .inr ⟨by decide, .inr ⟨rfl, .inr ⟨L, hL, hl⟩⟩⟩
  · exact .inl ⟨rfl, rfl, h2, .inl ⟨rfl, h1, h2.can⟩⟩
/-- the second box of a call may be read too: what Swap and Set answer an act -/
def ActOf (size : Int) (f : Int → Int) (a : Act) (q : Option Addr) (s e : Int) (W : World) : Prop := Upd f (actF a f) size (actE size a) q s e W

set_option maxHeartbeats 4000000 in
theorem more_any {f : Int → Int} {size : Int} {W : World} {p : Option Addr} {v : Value} {l : List Act} (h : IsM f size W p) (hl : IsAs W v l) (hn : l.length ≤ 1000) :
    Calls Try.prog 23 #[.agg #[.pointer p, .int .i64 size], v] W fun e w' => ∃ q f', e = .returned (.agg #[.pointer q, .int .i64 size]) ∧ Hid (IsM f' size w' q) ∧ Hid (Mo size f l f') ∧ Below W.heap.size W w' := by
  obtain ⟨ao, c, rfl, hcs⟩ := hl
  obtain ⟨w0, HW, hm, hr, hb⟩ := boxes2 W p size 27
  have HCS := Lib.hid hcs
  have HM := Lib.hid hm; have HR := Lib.hid hr; have HB := Lib.hid hb; have HW' := Lib.hid HW; have HI := Lib.hid (h.below hb)
  clear hcs hm hr hb HW h
  obtain ⟨n, hnn⟩ : ∃ n, n = l.length := ⟨_, rfl⟩
  have HN := Lib.hid hnn
  rw [← hnn] at hn ⊢
  clear hnn
  go_enter Try.func23, Try.ntmps23
  go_wp2_with fail
  rw [← HW'.out]
  go_loopg [5] n (fun k i wr => ∃ (j : Nat) (q : Option Addr) (f' : Int → Int), Hid (k + j = n) ∧ i = .int .i64 j ∧ Hid (IsM f' size wr q) ∧ Hid (Mo size f (l.take j) f') ∧ Hid (Mb W.heap.size q size wr) ∧ Hid (Mb (W.heap.size + 1) none 0 wr) ∧ Hid (Below W.heap.size W wr))
  case atStart => exact ⟨0, p, f, by show _ = _; omega, rfl, HI, by rw [List.take_zero]; exact Mo.nil, HM, HR, HB⟩
  case round =>
    obtain ⟨j, q, f', HK, rfl, HI', HMO, HM', HR', HB'⟩ := hrel
    clear HI HM HR HB HW'
    have hjn : j ≤ n := by have := HK.out; omega
    have k0 := HM'.out.c0; have k1 := HM'.out.c1
    by_cases hlt : j < n
    · have hlt2 : (j : Int) < n := by omega
      have hjl : j < l.length := by have := HN.out; omega
      obtain ⟨B, o, rfl, hB, hc⟩ := HCS.out (by omega)
      obtain ⟨c0, c1, c2, c3, c4⟩ := hc j hjl
      have HTK : Hid (l.take (j + 1) = l.take j ++ [l[j]]) := by show _ = _; rw [List.take_add_one, List.getElem?_eq_getElem hjl]; rfl
      obtain ⟨⟨asw, alo, ahi, afr, att⟩, ha⟩ : ∃ a, a = l[j] := ⟨_, rfl⟩
      rw [← ha] at c0 c1 c2 c3 c4 HTK
      simp only at c0 c1 c2 c3 c4
      clear hc ha
      have g0 := (HB'.out.cell (p := ⟨B, o + j * 5, none⟩) hB).trans c0
      have g1 := (HB'.out.cell (p := ⟨B, o + j * 5 + 1, none⟩) hB).trans c1
      have g2 := (HB'.out.cell (p := ⟨B, o + j * 5 + 2, none⟩) hB).trans c2
      have g3 := (HB'.out.cell (p := ⟨B, o + j * 5 + 3, none⟩) hB).trans c3
      have g4 := (HB'.out.cell (p := ⟨B, o + j * 5 + 4, none⟩) hB).trans c4
      clear c0 c1 c2 c3 c4
      have HBL : Hid (B < wr.heap.size) := Nat.lt_of_lt_of_le hB HB'.out.size
      clear hB
      obtain ⟨w1, HW1⟩ : ∃ w1, w1 = wr.alloc (.cells #[.pointer q, .int .i64 size] 27) := ⟨_, rfl⟩
      have hm1 : Mb wr.heap.size q size w1 := by rw [HW1]; exact Mb.new _ _ _ _
      have hb1 : Below wr.heap.size wr w1 := by rw [HW1]; exact (Below.refl _ _).alloc (Nat.le_refl _) _
      have HM1 := Lib.hid hm1; have HB1 := Lib.hid hb1; have HW1' := Lib.hid HW1
      clear hm1 hb1 HW1
      cases asw with
      | true =>
        have HALL : Hid (∀ W', Below wr.heap.size wr W' → (W'.cell? ⟨W.heap.size, 0, none⟩ = some (.pointer q) ∧ W'.cell? ⟨W.heap.size, 1, none⟩ = some (.int .i64 size) ∧ W'.cell? ⟨B, o + j * 5, none⟩ = some (.bool true) ∧ W'.cell? ⟨B, o + j * 5 + 1, none⟩ = some (.int .i64 alo) ∧ W'.cell? ⟨B, o + j * 5 + 2, none⟩ = some (.int .i64 ahi) ∧ W'.cell? ⟨B, o + j * 5 + 3, none⟩ = some (.int .i64 afr) ∧ W'.cell? ⟨B, o + j * 5 + 4, none⟩ = some (.int .i64 att))) := fun W' h =>
          ⟨(HM'.out.next h).c0, (HM'.out.next h).c1, (h.cell (p := ⟨B, o + j * 5, none⟩) HBL.out).trans g0, (h.cell (p := ⟨B, o + j * 5 + 1, none⟩) HBL.out).trans g1, (h.cell (p := ⟨B, o + j * 5 + 2, none⟩) HBL.out).trans g2, (h.cell (p := ⟨B, o + j * 5 + 3, none⟩) HBL.out).trans g3, (h.cell (p := ⟨B, o + j * 5 + 4, none⟩) HBL.out).trans g4⟩
        have HST : Hid (∀ W' u v, Below wr.heap.size wr W' → (((W'.setCell ⟨wr.heap.size, 0, none⟩ u).setCell ⟨wr.heap.size, 1, none⟩ v).cell? ⟨W.heap.size, 0, none⟩ = some (.pointer q) ∧ ((W'.setCell ⟨wr.heap.size, 0, none⟩ u).setCell ⟨wr.heap.size, 1, none⟩ v).cell? ⟨W.heap.size, 1, none⟩ = some (.int .i64 size) ∧ ((W'.setCell ⟨wr.heap.size, 0, none⟩ u).setCell ⟨wr.heap.size, 1, none⟩ v).cell? ⟨B, o + j * 5, none⟩ = some (.bool true) ∧ ((W'.setCell ⟨wr.heap.size, 0, none⟩ u).setCell ⟨wr.heap.size, 1, none⟩ v).cell? ⟨B, o + j * 5 + 1, none⟩ = some (.int .i64 alo) ∧ ((W'.setCell ⟨wr.heap.size, 0, none⟩ u).setCell ⟨wr.heap.size, 1, none⟩ v).cell? ⟨B, o + j * 5 + 2, none⟩ = some (.int .i64 ahi) ∧ ((W'.setCell ⟨wr.heap.size, 0, none⟩ u).setCell ⟨wr.heap.size, 1, none⟩ v).cell? ⟨B, o + j * 5 + 3, none⟩ = some (.int .i64 afr) ∧ ((W'.setCell ⟨wr.heap.size, 0, none⟩ u).setCell ⟨wr.heap.size, 1, none⟩ v).cell? ⟨B, o + j * 5 + 4, none⟩ = some (.int .i64 att))) := fun W' u v h => HALL.out _ ((h.setCell (Nat.le_refl _) u).setCell (Nat.le_refl _) v)
        have HCALL : Hid (∀ W', Below w1.heap.size w1 W' → Calls Try.prog 13 #[.agg #[.pointer q, .int .i64 size], .int .i64 alo, .int .i64 ahi, .int .i64 afr, .int .i64 att] W' fun e w' => ∃ q2 s2 n2 e2, e = .returned (.tuple #[.agg #[.pointer q2, .int .i64 s2], .int .i64 n2, .int .i64 e2]) ∧ Hid (ActOf size f' ⟨true, alo, ahi, afr, att⟩ q2 s2 e2 w') ∧ Below w1.heap.size w1 w') := fun W' h =>
          (Swap_any (HI'.out.below (HB1.out.trans (h.mono HB1.out.size)))).mono fun e w' ⟨q2, s2, n2, e2, he, hu, _, hB⟩ => ⟨q2, s2, n2, e2, he, hu, h.trans (hB.mono h.size)⟩
        have hs : Below w1.heap.size w1 w1 := Below.refl _ _
        have hs2 := hs.drew
        have hcl := HALL.out _ (HB1.out.trans (hs2.mono HB1.out.size))
        have hc0 := HALL.out _ HB1.out
        clear g0 g1 g2 g3 g4
        obtain ⟨g0, g1, g2, g3, g4, g5, g6⟩ := hc0
        have hc0 := HALL.out _ HB1.out
        go_upto_region 5 with fail
        rw [← HW1'.out]
        go_wp2_with fail
        go_region_held3 (fun W' : World => (W'.cell? ⟨W.heap.size, 0, none⟩ = some (.pointer q) ∧ W'.cell? ⟨W.heap.size, 1, none⟩ = some (.int .i64 size) ∧ W'.cell? ⟨B, o + j * 5, none⟩ = some (.bool true) ∧ W'.cell? ⟨B, o + j * 5 + 1, none⟩ = some (.int .i64 alo) ∧ W'.cell? ⟨B, o + j * 5 + 2, none⟩ = some (.int .i64 ahi) ∧ W'.cell? ⟨B, o + j * 5 + 3, none⟩ = some (.int .i64 afr) ∧ W'.cell? ⟨B, o + j * 5 + 4, none⟩ = some (.int .i64 att))) (first | assumption | (with_reducible exact HST.out _ _ _ (by assumption)) | fail) (first
          | (go_at_call 13; with_reducible refine (HCALL.out _ ?h).mono ?_; (case h => assumption); rintro e w' ⟨q2, s2, n2, e2, rfl, hu, hs1'⟩; have hs3' := HB1.out.trans (hs1'.mono HB1.out.size); have hc1' := HALL.out _ hs3'; have hm2 := HM1.out.next hs1'; have r0 := hm2.c0; have r1 := hm2.c1; have r2 := hm2.f0; have r3 := hm2.f1) | fail)
        all_goals
          obtain ⟨w3, HW3⟩ : ∃ w3, w3 = (w'.setCell ⟨wr.heap.size, 0, none⟩ (.pointer q2)).setCell ⟨wr.heap.size, 1, none⟩ (.int .i64 s2) := ⟨_, rfl⟩
          have HBW : Hid (Below wr.heap.size wr w3) := by rw [HW3]; exact (hs3'.setCell (Nat.le_refl _) _).setCell (Nat.le_refl _) _
          have HM3 : Hid (Mb wr.heap.size q2 s2 w3) := by rw [HW3]; exact hm2.put q2 s2
          have HU3 : Hid (Upd f' (actF ⟨true, alo, ahi, afr, att⟩ f') size (actE size ⟨true, alo, ahi, afr, att⟩) q2 s2 e2 w3) := by rw [HW3]; exact hm2.upd hu.out _ _
          have HP3 : Hid (IsM f' size w3 q) := HI'.out.below HBW.out
          have HMM := Lib.hid (HM'.out.next HBW.out)
          have HRR := Lib.hid (HR'.out.next HBW.out)
          have HBB := Lib.hid (HB'.out.trans (HBW.out.mono HB'.out.size))
          rw [← HW3]
          clear HW3 hs hs2 hcl hc0 hs1' hs3' hc1' hm2 r0 r1 r2 r3 hu g0 g1 g2 g3 g4 g5 g6 k0 k1
          rcases one_of HU3.out HP3.out with ⟨rfl, rfl, hi, ho⟩ | ⟨he, ho⟩
          · have HMO2 : Hid (Mo s2 f (l.take (j + 1)) (actF ⟨true, alo, ahi, afr, att⟩ f')) := by
              have h1 := Mo.snoc HMO.out ho
              rw [HTK.out]; exact h1
            have HI2 := Lib.hid hi
            have e0 := HM3.out.c0; have e1 := HM3.out.c1
            have d0 := HMM.out.c0; have d1 := HMM.out.c1; have d2 := HMM.out.f0; have d3 := HMM.out.f1
            clear hi ho
            go_wp2_with fail
            go_roundg (n - (j + 1))
            case measure => have := HK.out; omega
            case rel => exact ⟨j + 1, q2, _, by show _ = _; omega, by go_num, ⟨HI2.out.lo, HI2.out.ctx, HMM.out.tr HI2.out.tr _ _⟩, HMO2, HMM.out.put q2 s2, HRR.out.other (by omega) _ _, below_put HBB.out (B := W.heap.size) (Nat.le_refl _) (.pointer q2) (.int .i64 s2)⟩
          · have HMO2 : Hid (Mo size f (l.take (j + 1)) f') := by
              have h1 := Mo.snoc HMO.out ho
              rw [HTK.out]; exact h1
            clear ho
            go_wp2_with fail
            go_roundg (n - (j + 1))
            case measure => have := HK.out; omega
            case rel => exact ⟨j + 1, q, f', by show _ = _; omega, by go_num, HP3, HMO2, HMM, HRR, HBB⟩
      | false =>
        have HALL : Hid (∀ W', Below wr.heap.size wr W' → (W'.cell? ⟨W.heap.size, 0, none⟩ = some (.pointer q) ∧ W'.cell? ⟨W.heap.size, 1, none⟩ = some (.int .i64 size) ∧ W'.cell? ⟨B, o + j * 5, none⟩ = some (.bool false) ∧ W'.cell? ⟨B, o + j * 5 + 1, none⟩ = some (.int .i64 alo) ∧ W'.cell? ⟨B, o + j * 5 + 2, none⟩ = some (.int .i64 ahi) ∧ W'.cell? ⟨B, o + j * 5 + 3, none⟩ = some (.int .i64 afr) ∧ W'.cell? ⟨B, o + j * 5 + 4, none⟩ = some (.int .i64 att))) := fun W' h =>
          ⟨(HM'.out.next h).c0, (HM'.out.next h).c1, (h.cell (p := ⟨B, o + j * 5, none⟩) HBL.out).trans g0, (h.cell (p := ⟨B, o + j * 5 + 1, none⟩) HBL.out).trans g1, (h.cell (p := ⟨B, o + j * 5 + 2, none⟩) HBL.out).trans g2, (h.cell (p := ⟨B, o + j * 5 + 3, none⟩) HBL.out).trans g3, (h.cell (p := ⟨B, o + j * 5 + 4, none⟩) HBL.out).trans g4⟩
        have HST : Hid (∀ W' u v, Below wr.heap.size wr W' → (((W'.setCell ⟨wr.heap.size, 0, none⟩ u).setCell ⟨wr.heap.size, 1, none⟩ v).cell? ⟨W.heap.size, 0, none⟩ = some (.pointer q) ∧ ((W'.setCell ⟨wr.heap.size, 0, none⟩ u).setCell ⟨wr.heap.size, 1, none⟩ v).cell? ⟨W.heap.size, 1, none⟩ = some (.int .i64 size) ∧ ((W'.setCell ⟨wr.heap.size, 0, none⟩ u).setCell ⟨wr.heap.size, 1, none⟩ v).cell? ⟨B, o + j * 5, none⟩ = some (.bool false) ∧ ((W'.setCell ⟨wr.heap.size, 0, none⟩ u).setCell ⟨wr.heap.size, 1, none⟩ v).cell? ⟨B, o + j * 5 + 1, none⟩ = some (.int .i64 alo) ∧ ((W'.setCell ⟨wr.heap.size, 0, none⟩ u).setCell ⟨wr.heap.size, 1, none⟩ v).cell? ⟨B, o + j * 5 + 2, none⟩ = some (.int .i64 ahi) ∧ ((W'.setCell ⟨wr.heap.size, 0, none⟩ u).setCell ⟨wr.heap.size, 1, none⟩ v).cell? ⟨B, o + j * 5 + 3, none⟩ = some (.int .i64 afr) ∧ ((W'.setCell ⟨wr.heap.size, 0, none⟩ u).setCell ⟨wr.heap.size, 1, none⟩ v).cell? ⟨B, o + j * 5 + 4, none⟩ = some (.int .i64 att))) := fun W' u v h => HALL.out _ ((h.setCell (Nat.le_refl _) u).setCell (Nat.le_refl _) v)
        have HCALL : Hid (∀ W', Below w1.heap.size w1 W' → Calls Try.prog 14 #[.agg #[.pointer q, .int .i64 size], .int .i64 alo, .int .i64 ahi, .int .i64 att] W' fun e w' => ∃ q2 s2 e2, e = .returned (.tuple #[.agg #[.pointer q2, .int .i64 s2], .int .i64 e2]) ∧ Hid (ActOf size f' ⟨false, alo, ahi, afr, att⟩ q2 s2 e2 w') ∧ Below w1.heap.size w1 w') := fun W' h =>
          (Set_any (HI'.out.below (HB1.out.trans (h.mono HB1.out.size)))).mono fun e w' ⟨q2, s2, e2, he, hu, hB⟩ => ⟨q2, s2, e2, he, hu, h.trans (hB.mono h.size)⟩
        have hs : Below w1.heap.size w1 w1 := Below.refl _ _
        have hs2 := hs.drew
        have hcl := HALL.out _ (HB1.out.trans (hs2.mono HB1.out.size))
        have hc0 := HALL.out _ HB1.out
        clear g0 g1 g2 g3 g4
        obtain ⟨g0, g1, g2, g3, g4, g5, g6⟩ := hc0
        have hc0 := HALL.out _ HB1.out
        go_upto_region 5 with fail
        rw [← HW1'.out]
        go_wp2_with fail
        go_region_held3 (fun W' : World => (W'.cell? ⟨W.heap.size, 0, none⟩ = some (.pointer q) ∧ W'.cell? ⟨W.heap.size, 1, none⟩ = some (.int .i64 size) ∧ W'.cell? ⟨B, o + j * 5, none⟩ = some (.bool false) ∧ W'.cell? ⟨B, o + j * 5 + 1, none⟩ = some (.int .i64 alo) ∧ W'.cell? ⟨B, o + j * 5 + 2, none⟩ = some (.int .i64 ahi) ∧ W'.cell? ⟨B, o + j * 5 + 3, none⟩ = some (.int .i64 afr) ∧ W'.cell? ⟨B, o + j * 5 + 4, none⟩ = some (.int .i64 att))) (first | assumption | (with_reducible exact HST.out _ _ _ (by assumption)) | fail) (first
          | (go_at_call 14; with_reducible refine (HCALL.out _ ?h).mono ?_; (case h => assumption); rintro e w' ⟨q2, s2, e2, rfl, hu, hs1'⟩; have hs3' := HB1.out.trans (hs1'.mono HB1.out.size); have hc1' := HALL.out _ hs3'; have hm2 := HM1.out.next hs1'; have r0 := hm2.c0; have r1 := hm2.c1; have r2 := hm2.f0; have r3 := hm2.f1) | fail)
        all_goals
          obtain ⟨w3, HW3⟩ : ∃ w3, w3 = (w'.setCell ⟨wr.heap.size, 0, none⟩ (.pointer q2)).setCell ⟨wr.heap.size, 1, none⟩ (.int .i64 s2) := ⟨_, rfl⟩
          have HBW : Hid (Below wr.heap.size wr w3) := by rw [HW3]; exact (hs3'.setCell (Nat.le_refl _) _).setCell (Nat.le_refl _) _
          have HM3 : Hid (Mb wr.heap.size q2 s2 w3) := by rw [HW3]; exact hm2.put q2 s2
          have HU3 : Hid (Upd f' (actF ⟨false, alo, ahi, afr, att⟩ f') size (actE size ⟨false, alo, ahi, afr, att⟩) q2 s2 e2 w3) := by rw [HW3]; exact hm2.upd hu.out _ _
          have HP3 : Hid (IsM f' size w3 q) := HI'.out.below HBW.out
          have HMM := Lib.hid (HM'.out.next HBW.out)
          have HRR := Lib.hid (HR'.out.next HBW.out)
          have HBB := Lib.hid (HB'.out.trans (HBW.out.mono HB'.out.size))
          rw [← HW3]
          clear HW3 hs hs2 hcl hc0 hs1' hs3' hc1' hm2 r0 r1 r2 r3 hu g0 g1 g2 g3 g4 g5 g6 k0 k1
          rcases one_of HU3.out HP3.out with ⟨rfl, rfl, hi, ho⟩ | ⟨he, ho⟩
          · have HMO2 : Hid (Mo s2 f (l.take (j + 1)) (actF ⟨false, alo, ahi, afr, att⟩ f')) := by
              have h1 := Mo.snoc HMO.out ho
              rw [HTK.out]; exact h1
            have HI2 := Lib.hid hi
            have e0 := HM3.out.c0; have e1 := HM3.out.c1
            have d0 := HMM.out.c0; have d1 := HMM.out.c1; have d2 := HMM.out.f0; have d3 := HMM.out.f1
            clear hi ho
            go_wp2_with fail
            go_roundg (n - (j + 1))
            case measure => have := HK.out; omega
            case rel => exact ⟨j + 1, q2, _, by show _ = _; omega, by go_num, ⟨HI2.out.lo, HI2.out.ctx, HMM.out.tr HI2.out.tr _ _⟩, HMO2, HMM.out.put q2 s2, HRR.out.other (by omega) _ _, below_put HBB.out (B := W.heap.size) (Nat.le_refl _) (.pointer q2) (.int .i64 s2)⟩
          · have HMO2 : Hid (Mo size f (l.take (j + 1)) f') := by
              have h1 := Mo.snoc HMO.out ho
              rw [HTK.out]; exact h1
            clear ho
            go_wp2_with fail
            go_roundg (n - (j + 1))
            case measure => have := HK.out; omega
            case rel => exact ⟨j + 1, q, f', by show _ = _; omega, by go_num, HP3, HMO2, HMM, HRR, HBB⟩
    · have hlt3 : ¬ (j : Int) < n := by omega
      obtain rfl : j = n := by omega
      have HF : Hid (Mo size f l f') := by
        have h1 := HMO.out
        rw [List.take_of_length_le (by have := HN.out; omega)] at h1
        exact h1
      have d0 := HR'.out.c0; have d1 := HR'.out.c1; have d2 := HR'.out.f0; have d3 := HR'.out.f1
      obtain ⟨u0, u1⟩ : _ ∧ _ := ⟨(HR'.out.put q size).c0, (HR'.out.put q size).c1⟩
      go_wp2_with fail
      refine bodyPost_ret (v := .agg #[.pointer q, .int .i64 size]) (by simp [results, Try.results23, go_sem, u0, u1]) rfl ?_
      have HI9 : Hid (IsM f' size ((wr.setCell ⟨W.heap.size + 1, 0, none⟩ (.pointer q)).setCell ⟨W.heap.size + 1, 1, none⟩ (.int .i64 size)) q) := ⟨HI'.out.lo, HI'.out.ctx, HR'.out.tr HI'.out.tr _ _⟩
      have HB9 := below_put HB'.out (B := W.heap.size + 1) (by omega) (.pointer q) (.int .i64 size)
      first | exact ⟨q, rfl, ⟨f', HI9, HF⟩, HB9⟩ | exact ⟨q, rfl, f', HI9, HF, HB9⟩
end Go.Proofs.Ytahgfggcpmnnaab
