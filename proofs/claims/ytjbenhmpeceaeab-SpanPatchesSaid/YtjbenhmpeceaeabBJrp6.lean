/- Contracts and lemmas (several texts merged into one). -/
import Derived.Test.YtjbenhmpeceaeabBJrp4
import Derived.Test.YtjbenhmpeceaeabBJrp5
import Derived.Laws.OwnMore
import Derived.Test.YtjbenhmpeceaeabBJrp2
import Derived.BigQuiet
import Derived.Test.YtjbenhmpeceaeabBJrp3
import Derived.Test.YtjbenhmpeceaeabRows
import Derived.ProofKit
import Derived.OpenShut
import Derived.Carry
import Derived.Deep.Slices
import Derived.Deep.Fields
import Derived.ChangeSame
namespace Go.Proofs.Ytjbenhmpeceaeab
open Go Go.RowKit Gs

structure Act where
  sw : Bool
  lo : Int
  hi : Int
  fr : Int
  tt : Int
/-- a list of updates lies at a slice -/
def IsAs (W : World) (v : Value) (l : List Act) : Prop :=
  ∃ ao c, v = .slice ao l.length c ∧ (0 < l.length → ∃ B o, ao = some ⟨B, o, none⟩ ∧ B < W.heap.size ∧ ∀ j (h : j < l.length),
    W.cell? ⟨B, o + j * 5, none⟩ = some (.bool l[j].sw) ∧ W.cell? ⟨B, o + j * 5 + 1, none⟩ = some (.int .i64 l[j].lo) ∧ W.cell? ⟨B, o + j * 5 + 2, none⟩ = some (.int .i64 l[j].hi) ∧ W.cell? ⟨B, o + j * 5 + 3, none⟩ = some (.int .i64 l[j].fr) ∧ W.cell? ⟨B, o + j * 5 + 4, none⟩ = some (.int .i64 l[j].tt))
theorem IsAs.below {W W' : World} {v : Value} {l : List Act} (h : IsAs W v l) (hb : Below W.heap.size W W') : IsAs W' v l := by
  obtain ⟨ao, c, hv, h⟩ := h
  refine ⟨ao, c, hv, fun hp => ?_⟩
  obtain ⟨B, o, e, hB, hc⟩ := h hp
  refine ⟨B, o, e, Nat.lt_of_lt_of_le hB hb.size, fun j hj => ?_⟩
  obtain ⟨h0, h1, h2, h3, h4⟩ := hc j hj
  exact ⟨(hb.cell (p := ⟨B, _, none⟩) hB).trans h0, (hb.cell (p := ⟨B, _, none⟩) hB).trans h1, (hb.cell (p := ⟨B, _, none⟩) hB).trans h2, (hb.cell (p := ⟨B, _, none⟩) hB).trans h3, (hb.cell (p := ⟨B, _, none⟩) hB).trans h4⟩
/-- what an update makes of the function, where nothing is refused -/
def actF (a : Act) (f : Int → Int) : Int → Int := if a.sw then swr f a.lo a.hi a.fr.toNat a.tt.toNat else put f a.lo a.hi a.tt
def actE (size : Int) (a : Act) : Int := errOf size a.lo a.hi (if a.sw then [a.fr, a.tt] else [a.tt])
/-- one update: it has its effect, or is refused -/
def One (size : Int) (f : Int → Int) (a : Act) (f' : Int → Int) : Prop :=
  (f' = actF a f ∧ actE size a = 0 ∧ ∃ L, Gs.Can f' 0 L size ∧ L.length ≤ 4096) ∨ (f' = f ∧ (actE size a ≠ 0 ∨ ∃ L, Gs.Can (actF a f) 0 L size ∧ 4096 < L.length))
/-- several updates -/
inductive Mo (size : Int) (f : Int → Int) : List Act → (Int → Int) → Prop
  | nil : Mo size f [] f
  | snoc {l : List Act} {a : Act} {f1 f2 : Int → Int} : Mo size f l f1 → One size f1 a f2 → Mo size f (l ++ [a]) f2
theorem IsM.can {f : Int → Int} {size : Int} {W : World} {p : Option Addr} (h : IsM f size W p) : ∃ L, Gs.Can f 0 L size ∧ L.length ≤ 4096 := by
  obtain ⟨t, _, h2, h3⟩ := h.tr
  exact ⟨t.L, h2, by rw [← T.sz_eq]; exact h3⟩
theorem one_of {size : Int} {f : Int → Int} {a : Act} {q p : Option Addr} {s e : Int} {W : World} (h : Upd f (actF a f) size (actE size a) q s e W) (hp : IsM f size W p) :
    (e = 0 ∧ s = size ∧ IsM (actF a f) size W q ∧ One size f a (actF a f)) ∨ ((e == 0) = false ∧ One size f a f) := by
  rcases h with ⟨h1, rfl, _, _⟩ | ⟨_, rfl, _, _, L, hL, hl⟩ | ⟨h1, rfl, rfl, h2⟩
  · exact .inr ⟨beq_eq_false_iff_ne.2 h1, .inr ⟨rfl, .inl h1⟩⟩
  · exact .inr ⟨by decide, .inr ⟨rfl, .inr ⟨L, hL, hl⟩⟩⟩
  · exact .inl ⟨rfl, rfl, h2, .inl ⟨rfl, h1, h2.can⟩⟩
/-- the second box of a call may be read too: what Swap and Set answer an act -/
def ActOf (size : Int) (f : Int → Int) (a : Act) (q : Option Addr) (s e : Int) (W : World) : Prop := Upd f (actF a f) size (actE size a) q s e W

set_option maxHeartbeats 4000000 in
theorem more_any {f : Int → Int} {size : Int} {W : World} {p : Option Addr} {v : Value} {l : List Act} (h : IsM f size W p) (hl : IsAs W v l) (hn : l.length ≤ 1000) :
    Calls Try.prog 23 #[.agg #[.pointer p, .int .i64 size], v] W fun e w' => ∃ q f', e = .returned (.agg #[.pointer q, .int .i64 size]) ∧ Hid (IsM f' size w' q) ∧ Hid (Mo size f l f') ∧ Below W.heap.size W w' := by
  obtain ⟨ao, c, rfl, hcs⟩ := hl
  obtain ⟨w0, HW, hm, hr, hb⟩ := boxes2 W p size 27
  have HCS := Lib.hid hcs
  have HM := Lib.hid hm; have HR := Lib.hid hr; have HB := Lib.hid hb; have HW' := Lib.hid HW; have HI := Lib.hid (h.below hb)
  clear hcs hm hr hb HW h
  obtain ⟨n, hnn⟩ : ∃ n, n = l.length := ⟨_, rfl⟩
  have HN := Lib.hid hnn
  rw [← hnn] at hn ⊢
  clear hnn
  go_enter Try.func23, Try.ntmps23
  go_wp2_with fail
  rw [← HW'.out]
  go_loopg [5] n (fun k i wr => ∃ (j : Nat) (q : Option Addr) (f' : Int → Int), Hid (k + j = n) ∧ i = .int .i64 j ∧ Hid (IsM f' size wr q) ∧ Hid (Mo size f (l.take j) f') ∧ Hid (Mb W.heap.size q size wr) ∧ Hid (Mb (W.heap.size + 1) none 0 wr) ∧ Hid (Below W.heap.size W wr))
  case atStart => exact ⟨0, p, f, by show _ = _; omega, rfl, HI, by rw [List.take_zero]; exact Mo.nil, HM, HR, HB⟩
  case round =>
    obtain ⟨j, q, f', HK, rfl, HI', HMO, HM', HR', HB'⟩ := hrel
    clear HI HM HR HB HW'
    have hjn : j ≤ n := by have := HK.out; omega
    have k0 := HM'.out.c0; have k1 := HM'.out.c1
    by_cases hlt : j < n
    · have hlt2 : (j : Int) < n := by omega
      have hjl : j < l.length := by have := HN.out; omega
      obtain ⟨B, o, rfl, hB, hc⟩ := HCS.out (by omega)
      obtain ⟨c0, c1, c2, c3, c4⟩ := hc j hjl
      have HTK : Hid (l.take (j + 1) = l.take j ++ [l[j]]) := by show _ = _; rw [List.take_add_one, List.getElem?_eq_getElem hjl]; rfl
      obtain ⟨⟨asw, alo, ahi, afr, att⟩, ha⟩ : ∃ a, a = l[j] := ⟨_, rfl⟩
      rw [← ha] at c0 c1 c2 c3 c4 HTK
      simp only at c0 c1 c2 c3 c4
      clear hc ha
      have g0 := (HB'.out.cell (p := ⟨B, o + j * 5, none⟩) hB).trans c0
      have g1 := (HB'.out.cell (p := ⟨B, o + j * 5 + 1, none⟩) hB).trans c1
      have g2 := (HB'.out.cell (p := ⟨B, o + j * 5 + 2, none⟩) hB).trans c2
      have g3 := (HB'.out.cell (p := ⟨B, o + j * 5 + 3, none⟩) hB).trans c3
      have g4 := (HB'.out.cell (p := ⟨B, o + j * 5 + 4, none⟩) hB).trans c4
      clear c0 c1 c2 c3 c4
      have HBL : Hid (B < wr.heap.size) := Nat.lt_of_lt_of_le hB HB'.out.size
      clear hB
      obtain ⟨w1, HW1⟩ : ∃ w1, w1 = wr.alloc (.cells #[.pointer q, .int .i64 size] 27) := ⟨_, rfl⟩
      have hm1 : Mb wr.heap.size q size w1 := by rw [HW1]; exact Mb.new _ _ _ _
      have hb1 : Below wr.heap.size wr w1 := by rw [HW1]; exact (Below.refl _ _).alloc (Nat.le_refl _) _
      have HM1 := Lib.hid hm1; have HB1 := Lib.hid hb1; have HW1' := Lib.hid HW1
      clear hm1 hb1 HW1
      cases asw with
      | true =>
        have HALL : Hid (∀ W', Below wr.heap.size wr W' → (W'.cell? ⟨W.heap.size, 0, none⟩ = some (.pointer q) ∧ W'.cell? ⟨W.heap.size, 1, none⟩ = some (.int .i64 size) ∧ W'.cell? ⟨B, o + j * 5, none⟩ = some (.bool true) ∧ W'.cell? ⟨B, o + j * 5 + 1, none⟩ = some (.int .i64 alo) ∧ W'.cell? ⟨B, o + j * 5 + 2, none⟩ = some (.int .i64 ahi) ∧ W'.cell? ⟨B, o + j * 5 + 3, none⟩ = some (.int .i64 afr) ∧ W'.cell? ⟨B, o + j * 5 + 4, none⟩ = some (.int .i64 att))) := fun W' h =>
          ⟨(HM'.out.next h).c0, (HM'.out.next h).c1, (h.cell (p := ⟨B, o + j * 5, none⟩) HBL.out).trans g0, (h.cell (p := ⟨B, o + j * 5 + 1, none⟩) HBL.out).trans g1, (h.cell (p := ⟨B, o + j * 5 + 2, none⟩) HBL.out).trans g2, (h.cell (p := ⟨B, o + j * 5 + 3, none⟩) HBL.out).trans g3, (h.cell (p := ⟨B, o + j * 5 + 4, none⟩) HBL.out).trans g4⟩
        have HST : Hid (∀ W' u v, Below wr.heap.size wr W' → (((W'.setCell ⟨wr.heap.size, 0, none⟩ u).setCell ⟨wr.heap.size, 1, none⟩ v).cell? ⟨W.heap.size, 0, none⟩ = some (.pointer q) ∧ ((W'.setCell ⟨wr.heap.size, 0, none⟩ u).setCell ⟨wr.heap.size, 1, none⟩ v).cell? ⟨W.heap.size, 1, none⟩ = some (.int .i64 size) ∧ ((W'.setCell ⟨wr.heap.size, 0, none⟩ u).setCell ⟨wr.heap.size, 1, none⟩ v).cell? ⟨B, o + j * 5, none⟩ = some (.bool true) ∧ ((W'.setCell ⟨wr.heap.size, 0, none⟩ u).setCell ⟨wr.heap.size, 1, none⟩ v).cell? ⟨B, o + j * 5 + 1, none⟩ = some (.int .i64 alo) ∧ ((W'.setCell ⟨wr.heap.size, 0, none⟩ u).setCell ⟨wr.heap.size, 1, none⟩ v).cell? ⟨B, o + j * 5 + 2, none⟩ = some (.int .i64 ahi) ∧ ((W'.setCell ⟨wr.heap.size, 0, none⟩ u).setCell ⟨wr.heap.size, 1, none⟩ v).cell? ⟨B, o + j * 5 + 3, none⟩ = some (.int .i64 afr) ∧ ((W'.setCell ⟨wr.heap.size, 0, none⟩ u).setCell ⟨wr.heap.size, 1, none⟩ v).cell? ⟨B, o + j * 5 + 4, none⟩ = some (.int .i64 att))) := fun W' u v h => HALL.out _ ((h.setCell (Nat.le_refl _) u).setCell (Nat.le_refl _) v)
        have HCALL : Hid (∀ W', Below w1.heap.size w1 W' → Calls Try.prog 13 #[.agg #[.pointer q, .int .i64 size], .int .i64 alo, .int .i64 ahi, .int .i64 afr, .int .i64 att] W' fun e w' => ∃ q2 s2 n2 e2, e = .returned (.tuple #[.agg #[.pointer q2, .int .i64 s2], .int .i64 n2, .int .i64 e2]) ∧ Hid (ActOf size f' ⟨true, alo, ahi, afr, att⟩ q2 s2 e2 w') ∧ Below w1.heap.size w1 w') := fun W' h =>
          (Swap_any (HI'.out.below (HB1.out.trans (h.mono HB1.out.size)))).mono fun e w' ⟨q2, s2, n2, e2, he, hu, _, hB⟩ => ⟨q2, s2, n2, e2, he, hu, h.trans (hB.mono h.size)⟩
        have hs : Below w1.heap.size w1 w1 := Below.refl _ _
        have hs2 := hs.drew
        have hcl := HALL.out _ (HB1.out.trans (hs2.mono HB1.out.size))
        have hc0 := HALL.out _ HB1.out
        clear g0 g1 g2 g3 g4
        obtain ⟨g0, g1, g2, g3, g4, g5, g6⟩ := hc0
        have hc0 := HALL.out _ HB1.out
        go_upto_region 5 with fail
        rw [← HW1'.out]
        go_wp2_with fail
        go_region_held3 (fun W' : World => (W'.cell? ⟨W.heap.size, 0, none⟩ = some (.pointer q) ∧ W'.cell? ⟨W.heap.size, 1, none⟩ = some (.int .i64 size) ∧ W'.cell? ⟨B, o + j * 5, none⟩ = some (.bool true) ∧ W'.cell? ⟨B, o + j * 5 + 1, none⟩ = some (.int .i64 alo) ∧ W'.cell? ⟨B, o + j * 5 + 2, none⟩ = some (.int .i64 ahi) ∧ W'.cell? ⟨B, o + j * 5 + 3, none⟩ = some (.int .i64 afr) ∧ W'.cell? ⟨B, o + j * 5 + 4, none⟩ = some (.int .i64 att))) (first | assumption | (with_reducible exact HST.out _ _ _ (by assumption)) | fail) (first
          | (go_at_call 13; with_reducible refine (HCALL.out _ ?h).mono ?_; (case h => assumption); rintro e w' ⟨q2, s2, n2, e2, rfl, hu, hs1'⟩; have hs3' := HB1.out.trans (hs1'.mono HB1.out.size); have hc1' := HALL.out _ hs3'; have hm2 := HM1.out.next hs1'; have r0 := hm2.c0; have r1 := hm2.c1; have r2 := hm2.f0; have r3 := hm2.f1) | fail)
        all_goals
          obtain ⟨w3, HW3⟩ : ∃ w3, w3 = (w'.setCell ⟨wr.heap.size, 0, none⟩ (.pointer q2)).setCell ⟨wr.heap.size, 1, none⟩ (.int .i64 s2) := ⟨_, rfl⟩
          have HBW : Hid (Below wr.heap.size wr w3) := by rw [HW3]; exact (hs3'.setCell (Nat.le_refl _) _).setCell (Nat.le_refl _) _
          have HM3 : Hid (Mb wr.heap.size q2 s2 w3) := by rw [HW3]; exact hm2.put q2 s2
          have HU3 : Hid (Upd f' (actF ⟨true, alo, ahi, afr, att⟩ f') size (actE size ⟨true, alo, ahi, afr, att⟩) q2 s2 e2 w3) := by rw [HW3]; exact hm2.upd hu.out _ _
          have HP3 : Hid (IsM f' size w3 q) := HI'.out.below HBW.out
          have HMM := Lib.hid (HM'.out.next HBW.out)
          have HRR := Lib.hid (HR'.out.next HBW.out)
          have HBB := Lib.hid (HB'.out.trans (HBW.out.mono HB'.out.size))
          rw [← HW3]
          clear HW3 hs hs2 hcl hc0 hs1' hs3' hc1' hm2 r0 r1 r2 r3 hu g0 g1 g2 g3 g4 g5 g6 k0 k1
          rcases one_of HU3.out HP3.out with ⟨rfl, rfl, hi, ho⟩ | ⟨he, ho⟩
          · have HMO2 : Hid (Mo s2 f (l.take (j + 1)) (actF ⟨true, alo, ahi, afr, att⟩ f')) := by
              have h1 := Mo.snoc HMO.out ho
              rw [HTK.out]; exact h1
            have HI2 := Lib.hid hi
            have e0 := HM3.out.c0; have e1 := HM3.out.c1
            have d0 := HMM.out.c0; have d1 := HMM.out.c1; have d2 := HMM.out.f0; have d3 := HMM.out.f1
            clear hi ho
            go_wp2_with fail
            go_roundg (n - (j + 1))
            case measure => have := HK.out; omega
            case rel => exact ⟨j + 1, q2, _, by show _ = _; omega, by go_num, ⟨HI2.out.lo, HI2.out.ctx, HMM.out.tr HI2.out.tr _ _⟩, HMO2, HMM.out.put q2 s2, HRR.out.other (by omega) _ _, below_put HBB.out (B := W.heap.size) (Nat.le_refl _) (.pointer q2) (.int .i64 s2)⟩
          · have HMO2 : Hid (Mo size f (l.take (j + 1)) f') := by
              have h1 := Mo.snoc HMO.out ho
              rw [HTK.out]; exact h1
            clear ho
            go_wp2_with fail
            go_roundg (n - (j + 1))
            case measure => have := HK.out; omega
            case rel => exact ⟨j + 1, q, f', by show _ = _; omega, by go_num, HP3, HMO2, HMM, HRR, HBB⟩
      | false =>
        have HALL : Hid (∀ W', Below wr.heap.size wr W' → (W'.cell? ⟨W.heap.size, 0, none⟩ = some (.pointer q) ∧ W'.cell? ⟨W.heap.size, 1, none⟩ = some (.int .i64 size) ∧ W'.cell? ⟨B, o + j * 5, none⟩ = some (.bool false) ∧ W'.cell? ⟨B, o + j * 5 + 1, none⟩ = some (.int .i64 alo) ∧ W'.cell? ⟨B, o + j * 5 + 2, none⟩ = some (.int .i64 ahi) ∧ W'.cell? ⟨B, o + j * 5 + 3, none⟩ = some (.int .i64 afr) ∧ W'.cell? ⟨B, o + j * 5 + 4, none⟩ = some (.int .i64 att))) := fun W' h =>
          ⟨(HM'.out.next h).c0, (HM'.out.next h).c1, (h.cell (p := ⟨B, o + j * 5, none⟩) HBL.out).trans g0, (h.cell (p := ⟨B, o + j * 5 + 1, none⟩) HBL.out).trans g1, (h.cell (p := ⟨B, o + j * 5 + 2, none⟩) HBL.out).trans g2, (h.cell (p := ⟨B, o + j * 5 + 3, none⟩) HBL.out).trans g3, (h.cell (p := ⟨B, o + j * 5 + 4, none⟩) HBL.out).trans g4⟩
        have HST : Hid (∀ W' u v, Below wr.heap.size wr W' → (((W'.setCell ⟨wr.heap.size, 0, none⟩ u).setCell ⟨wr.heap.size, 1, none⟩ v).cell? ⟨W.heap.size, 0, none⟩ = some (.pointer q) ∧ ((W'.setCell ⟨wr.heap.size, 0, none⟩ u).setCell ⟨wr.heap.size, 1, none⟩ v).cell? ⟨W.heap.size, 1, none⟩ = some (.int .i64 size) ∧ ((W'.setCell ⟨wr.heap.size, 0, none⟩ u).setCell ⟨wr.heap.size, 1, none⟩ v).cell? ⟨B, o + j * 5, none⟩ = some (.bool false) ∧ ((W'.setCell ⟨wr.heap.size, 0, none⟩ u).setCell ⟨wr.heap.size, 1, none⟩ v).cell? ⟨B, o + j * 5 + 1, none⟩ = some (.int .i64 alo) ∧ ((W'.setCell ⟨wr.heap.size, 0, none⟩ u).setCell ⟨wr.heap.size, 1, none⟩ v).cell? ⟨B, o + j * 5 + 2, none⟩ = some (.int .i64 ahi) ∧ ((W'.setCell ⟨wr.heap.size, 0, none⟩ u).setCell ⟨wr.heap.size, 1, none⟩ v).cell? ⟨B, o + j * 5 + 3, none⟩ = some (.int .i64 afr) ∧ ((W'.setCell ⟨wr.heap.size, 0, none⟩ u).setCell ⟨wr.heap.size, 1, none⟩ v).cell? ⟨B, o + j * 5 + 4, none⟩ = some (.int .i64 att))) := fun W' u v h => HALL.out _ ((h.setCell (Nat.le_refl _) u).setCell (Nat.le_refl _) v)
        have HCALL : Hid (∀ W', Below w1.heap.size w1 W' → Calls Try.prog 14 #[.agg #[.pointer q, .int .i64 size], .int .i64 alo, .int .i64 ahi, .int .i64 att] W' fun e w' => ∃ q2 s2 e2, e = .returned (.tuple #[.agg #[.pointer q2, .int .i64 s2], .int .i64 e2]) ∧ Hid (ActOf size f' ⟨false, alo, ahi, afr, att⟩ q2 s2 e2 w') ∧ Below w1.heap.size w1 w') := fun W' h =>
          (Set_any (HI'.out.below (HB1.out.trans (h.mono HB1.out.size)))).mono fun e w' ⟨q2, s2, e2, he, hu, hB⟩ => ⟨q2, s2, e2, he, hu, h.trans (hB.mono h.size)⟩
        have hs : Below w1.heap.size w1 w1 := Below.refl _ _
        have hs2 := hs.drew
        have hcl := HALL.out _ (HB1.out.trans (hs2.mono HB1.out.size))
        have hc0 := HALL.out _ HB1.out
        clear g0 g1 g2 g3 g4
        obtain ⟨g0, g1, g2, g3, g4, g5, g6⟩ := hc0
        have hc0 := HALL.out _ HB1.out
        go_upto_region 5 with fail
        rw [← HW1'.out]
        go_wp2_with fail
        go_region_held3 (fun W' : World => (W'.cell? ⟨W.heap.size, 0, none⟩ = some (.pointer q) ∧ W'.cell? ⟨W.heap.size, 1, none⟩ = some (.int .i64 size) ∧ W'.cell? ⟨B, o + j * 5, none⟩ = some (.bool false) ∧ W'.cell? ⟨B, o + j * 5 + 1, none⟩ = some (.int .i64 alo) ∧ W'.cell? ⟨B, o + j * 5 + 2, none⟩ = some (.int .i64 ahi) ∧ W'.cell? ⟨B, o + j * 5 + 3, none⟩ = some (.int .i64 afr) ∧ W'.cell? ⟨B, o + j * 5 + 4, none⟩ = some (.int .i64 att))) (first | assumption | (with_reducible exact HST.out _ _ _ (by assumption)) | fail) (first
          | (go_at_call 14; with_reducible refine (HCALL.out _ ?h).mono ?_; (case h => assumption); rintro e w' ⟨q2, s2, e2, rfl, hu, hs1'⟩; have hs3' := HB1.out.trans (hs1'.mono HB1.out.size); have hc1' := HALL.out _ hs3'; have hm2 := HM1.out.next hs1'; have r0 := hm2.c0; have r1 := hm2.c1; have r2 := hm2.f0; have r3 := hm2.f1) | fail)
        all_goals
          obtain ⟨w3, HW3⟩ : ∃ w3, w3 = (w'.setCell ⟨wr.heap.size, 0, none⟩ (.pointer q2)).setCell ⟨wr.heap.size, 1, none⟩ (.int .i64 s2) := ⟨_, rfl⟩
          have HBW : Hid (Below wr.heap.size wr w3) := by rw [HW3]; exact (hs3'.setCell (Nat.le_refl _) _).setCell (Nat.le_refl _) _
          have HM3 : Hid (Mb wr.heap.size q2 s2 w3) := by rw [HW3]; exact hm2.put q2 s2
          have HU3 : Hid (Upd f' (actF ⟨false, alo, ahi, afr, att⟩ f') size (actE size ⟨false, alo, ahi, afr, att⟩) q2 s2 e2 w3) := by rw [HW3]; exact hm2.upd hu.out _ _
          have HP3 : Hid (IsM f' size w3 q) := HI'.out.below HBW.out
          have HMM := Lib.hid (HM'.out.next HBW.out)
          have HRR := Lib.hid (HR'.out.next HBW.out)
          have HBB := Lib.hid (HB'.out.trans (HBW.out.mono HB'.out.size))
          rw [← HW3]
          clear HW3 hs hs2 hcl hc0 hs1' hs3' hc1' hm2 r0 r1 r2 r3 hu g0 g1 g2 g3 g4 g5 g6 k0 k1
          rcases one_of HU3.out HP3.out with ⟨rfl, rfl, hi, ho⟩ | ⟨he, ho⟩
          · have HMO2 : Hid (Mo s2 f (l.take (j + 1)) (actF ⟨false, alo, ahi, afr, att⟩ f')) := by
              have h1 := Mo.snoc HMO.out ho
              rw [HTK.out]; exact h1
            have HI2 := Lib.hid hi
            have e0 := HM3.out.c0; have e1 := HM3.out.c1
            have d0 := HMM.out.c0; have d1 := HMM.out.c1; have d2 := HMM.out.f0; have d3 := HMM.out.f1
            clear hi ho
            go_wp2_with fail
            go_roundg (n - (j + 1))
            case measure => have := HK.out; omega
            case rel => exact ⟨j + 1, q2, _, by show _ = _; omega, by go_num, ⟨HI2.out.lo, HI2.out.ctx, HMM.out.tr HI2.out.tr _ _⟩, HMO2, HMM.out.put q2 s2, HRR.out.other (by omega) _ _, below_put HBB.out (B := W.heap.size) (Nat.le_refl _) (.pointer q2) (.int .i64 s2)⟩
          · have HMO2 : Hid (Mo size f (l.take (j + 1)) f') := by
              have h1 := Mo.snoc HMO.out ho
              rw [HTK.out]; exact h1
            clear ho
            go_wp2_with fail
            go_roundg (n - (j + 1))
            case measure => have := HK.out; omega
            case rel => exact ⟨j + 1, q, f', by show _ = _; omega, by go_num, HP3, HMO2, HMM, HRR, HBB⟩
    · have hlt3 : ¬ (j : Int) < n := by omega
      obtain rfl : j = n := by omega
      have HF : Hid (Mo size f l f') := by
        have h1 := HMO.out
        rw [List.take_of_length_le (by have := HN.out; omega)] at h1
        exact h1
      have d0 := HR'.out.c0; have d1 := HR'.out.c1; have d2 := HR'.out.f0; have d3 := HR'.out.f1
      obtain ⟨u0, u1⟩ : _ ∧ _ := ⟨(HR'.out.put q size).c0, (HR'.out.put q size).c1⟩
      go_wp2_with fail
      refine bodyPost_ret (v := .agg #[.pointer q, .int .i64 size]) (by simp [results, Try.results23, go_sem, u0, u1]) rfl ?_
      have HI9 : Hid (IsM f' size ((wr.setCell ⟨W.heap.size + 1, 0, none⟩ (.pointer q)).setCell ⟨W.heap.size + 1, 1, none⟩ (.int .i64 size)) q) := ⟨HI'.out.lo, HI'.out.ctx, HR'.out.tr HI'.out.tr _ _⟩
      have HB9 := below_put HB'.out (B := W.heap.size + 1) (by omega) (.pointer q) (.int .i64 size)
      first | exact ⟨q, rfl, ⟨f', HI9, HF⟩, HB9⟩ | exact ⟨q, rfl, f', HI9, HF, HB9⟩
end Go.Proofs.Ytjbenhmpeceaeab
namespace Go.Proofs.Ytjbenhmpeceaeab
open Go Go.RowKit Gs

/-- a box of some cells at a block -/
structure Bx (B : Nat) (vs : List Value) (W : World) : Prop where
  lt : B < W.heap.size
  c22 : W.cell? ⟨B, 22, none⟩ = none
  c : ∀ i v, vs[i]? = some v → W.cell? ⟨B, i, none⟩ = some v ∧ W.frozen? ⟨B, i, none⟩ = false
theorem Bx.next {B : Nat} {vs : List Value} {W W' : World} (h : Bx B vs W) (hb : Below W.heap.size W W') : Bx B vs W' :=
  ⟨Nat.lt_of_lt_of_le h.lt hb.size, (hb.cell (p := ⟨B, 22, none⟩) h.lt).trans h.c22, fun i v hi => ⟨(hb.cell (p := ⟨B, i, none⟩) h.lt).trans (h.c i v hi).1, (hb.frozen (p := ⟨B, i, none⟩) h.lt).trans (h.c i v hi).2⟩⟩
theorem Bx.new (W : World) (vs : List Value) (Ty : TypeId) (hl : vs.length ≤ 22) : Bx W.heap.size vs (W.alloc (.cells vs.toArray Ty)) := by
  refine ⟨by simp, World.cell?_alloc_at _ _ _ _ rfl |>.trans ?_, fun i v hi => ⟨World.cell?_alloc_at _ _ _ _ rfl |>.trans ?_, World.frozen?_alloc_at _ _ _ _ rfl⟩⟩
  · simp; omega
  · simpa using hi
/-- a store at another block -/
theorem Bx.other {B X i : Nat} {vs : List Value} {W : World} (h : Bx B vs W) (hne : X ≠ B) (u : Value) : Bx B vs (W.setCell ⟨X, i, none⟩ u) := by
  have o : ∀ j, (⟨X, i, none⟩ : Addr) ≠ ⟨B, j, none⟩ := fun j e => hne (by injection e)
  exact ⟨by rw [World.size_setCell]; exact h.lt, (World.cell?_setCell_other _ _ _ _ (o _)).trans h.c22, fun j v hj => ⟨(World.cell?_setCell_other _ _ _ _ (o _)).trans (h.c j v hj).1, (World.frozen?_setCell _ _ _ _).trans (h.c j v hj).2⟩⟩
/-- a store in the box -/
theorem Bx.put {B i : Nat} {vs : List Value} {W : World} (h : Bx B vs W) (hi : i < vs.length) (h22 : i ≠ 22) (u : Value) : Bx B (vs.set i u) (W.setCell ⟨B, i, none⟩ u) := by
  refine ⟨by rw [World.size_setCell]; exact h.lt, (World.cell?_setCell_other _ _ _ _ (by intro e; injection e with _ e; exact h22 e)).trans h.c22, fun j v hj => ?_⟩
  rw [World.frozen?_setCell]
  by_cases e : i = j
  · subst e
    rw [List.getElem?_set_self hi] at hj
    cases hj
    obtain ⟨h1, h2⟩ := h.c i (vs[i]) (List.getElem?_eq_getElem hi)
    exact ⟨World.cell?_setCell_same _ _ _ h1, h2⟩
  · rw [List.getElem?_set_ne e] at hj
    exact ⟨(World.cell?_setCell_other _ _ _ _ (by intro e2; injection e2 with _ e2; exact e e2)).trans (h.c j v hj).1, (h.c j v hj).2⟩
theorem Bx.two {B : Nat} {x y : Value} {W : World} (h : Bx B [x, y] W) (u v : Value) : Bx B [u, v] ((W.setCell ⟨B, 0, none⟩ u).setCell ⟨B, 1, none⟩ v) :=
  (h.put (i := 0) (by simp) (by decide) u).put (i := 1) (by simp) (by decide) v
theorem Bx.c2 {B : Nat} {x y : Value} {W : World} (h : Bx B [x, y] W) : W.cell? ⟨B, 0, none⟩ = some x ∧ W.cell? ⟨B, 1, none⟩ = some y ∧ W.frozen? ⟨B, 0, none⟩ = false ∧ W.frozen? ⟨B, 1, none⟩ = false :=
  ⟨(h.c 0 x rfl).1, (h.c 1 y rfl).1, (h.c 0 x rfl).2, (h.c 1 y rfl).2⟩

/-- both maps are of one function from pieces to tags, or both are unusable -/
def Dual (base : Nat) (W : World) (p : Option Addr) (size s : Int) (v : Value) : Prop :=
  (p = none ∧ size = 0 ∧ s = 0 ∧ v = .slice none 0 0) ∨ ∃ f L, IsM f size W p ∧ Gs.Can f 0 L size ∧ IsRs base W v L ∧ s = size
theorem Dual.below {base : Nat} {W W' : World} {p : Option Addr} {size s : Int} {v : Value} (h : Dual base W p size s v) (hb : Below W.heap.size W W') : Dual base W' p size s v := by
  rcases h with h | ⟨f, L, h1, h2, h3, h4⟩
  · exact .inl h
  · exact .inr ⟨f, L, h1.below hb, h2, h3.below hb, h4⟩
theorem Dual.mono {base base' : Nat} {W : World} {p : Option Addr} {size s : Int} {v : Value} (h : Dual base W p size s v) (hb : base' ≤ base) : Dual base' W p size s v := by
  rcases h with h | ⟨f, L, h1, h2, h3, h4⟩
  · exact .inl h
  · exact .inr ⟨f, L, h1, h2, h3.mono hb, h4⟩
theorem Dual.set {base : Nat} {W : World} {p : Option Addr} {size s : Int} {v : Value} {X : Nat} (h : Dual base W p size s v) (hX : X < base) (h22 : W.cell? ⟨X, 22, none⟩ = none) (i : Nat) (u : Value) : Dual base (W.setCell ⟨X, i, none⟩ u) p size s v := by
  rcases h with h | ⟨f, L, h1, h2, h3, h4⟩
  · exact .inl h
  · exact .inr ⟨f, L, ⟨h1.lo, h1.ctx, h1.tr.set h22 u⟩, h2, h3.set _ hX u, h4⟩
theorem Dual.shape {base : Nat} {W : World} {p : Option Addr} {size s : Int} {v : Value} (h : Dual base W p size s v) : ∃ a n c, v = .slice a n c := by
  rcases h with ⟨_, _, _, h⟩ | ⟨f, L, _, _, ⟨a, c, h, _⟩, _⟩
  · exact ⟨_, _, _, h⟩
  · exact ⟨_, _, _, h⟩
/-- what the program answers an update of a usable map -/
def CodeU (f : Int → Int) (size : Int) (a : Act) (q : Option Addr) (s2 n2 e2 : Int) (W : World) : Prop :=
  Upd f (actF a f) size (actE size a) q s2 e2 W ∧ (a.sw = true → (e2 = 0 ∧ 0 ≤ a.fr ∧ ∃ L, Gs.Can f a.lo L a.hi ∧ n2 = cnt a.fr L) ∨ (e2 ≠ 0 ∧ n2 = 0))
/-- what the document answers it -/
def DocU (f : Int → Int) (size : Int) (a : Act) (L : List R) (B : Nat) (s' : Int) (v' : Value) (k e : Int) (W : World) : Prop :=
  (actE size a ≠ 0 ∧ e = actE size a ∧ s' = 0 ∧ v' = .slice none 0 0 ∧ k = 0) ∨ (actE size a = 0 ∧ RU f size a.lo a.hi a.fr a.tt (!a.sw) L B s' v' k e W)
theorem gS_act {f : Int → Int} {size : Int} {a : Act} (h : actE size a = 0) : gS f a.lo a.hi a.fr a.tt (!a.sw) = actF a f := by
  obtain ⟨sw, lo, hi, fr, tt⟩ := a
  cases sw with
  | false => exact gS_put f lo hi fr tt
  | true =>
    obtain ⟨_, _, _, h4⟩ := errOf_zero (show errOf size lo hi [fr, tt] = 0 from h)
    have h5 := (h4 fr (by simp)).1
    have h6 := (h4 tt (by simp)).1
    have := gS_swr f lo hi fr.toNat tt.toNat
    rw [show ((fr.toNat : Nat) : Int) = fr by omega, show ((tt.toNat : Nat) : Int) = tt by omega] at this
    exact this
/-- both answers agree -/
def Agree (B : Nat) (W : World) (sw : Bool) (size : Int) (q : Option Addr) (s2 n2 e2 s' : Int) (v' : Value) (k e : Int) : Prop :=
  e2 = e ∧ (sw = true → n2 = k) ∧ (e ≠ 0 → q = none ∧ s2 = 0) ∧ (e = 0 → Dual B W q s2 s' v' ∧ s2 = size)
theorem agree_of {f : Int → Int} {size : Int} {a : Act} {L : List R} {q : Option Addr} {s2 n2 e2 : Int} {B : Nat} {s' : Int} {v' : Value} {k e : Int} {W : World} (hc : CodeU f size a q s2 n2 e2 W) (hd : DocU f size a L B s' v' k e W) (hL : Gs.Can f 0 L size) :
    Agree B W a.sw size q s2 n2 e2 s' v' k e := by
  rcases hd with ⟨h1, rfl, rfl, rfl, rfl⟩ | ⟨h1, hr⟩
  · rcases hc.1 with ⟨_, g2, g3, g4⟩ | ⟨g1, _⟩ | ⟨g1, _⟩
    · refine ⟨g2, fun hs => ?_, fun _ => ⟨g3, g4⟩, fun h => absurd h h1⟩
      rcases hc.2 hs with ⟨x, _⟩ | ⟨_, x⟩
      · exact absurd (g2 ▸ x) h1
      · exact x
    · exact absurd g1 h1
    · exact absurd g1 h1
  · obtain ⟨L', hL', hr⟩ := hr
    rw [gS_act h1] at hL'
    rcases hc.1 with ⟨g1, _⟩ | ⟨_, rfl, rfl, rfl, K, hK, hk⟩ | ⟨_, rfl, rfl, hm⟩
    · exact absurd h1 g1
    · have := hK.same hL'
      subst this
      rcases hr with ⟨_, rfl, rfl, rfl, rfl⟩ | ⟨r1, _⟩
      · refine ⟨rfl, fun hs => ?_, fun _ => ⟨rfl, rfl⟩, fun h => absurd h (by decide)⟩
        rcases hc.2 hs with ⟨x, _⟩ | ⟨_, x⟩
        · exact absurd x (by decide)
        · exact x
      · omega
    · obtain ⟨K, hK, hk⟩ := hm.can
      have := hK.same hL'
      subst this
      rcases hr with ⟨r1, _⟩ | ⟨_, rfl, rfl, hi, hn⟩
      · omega
      · refine ⟨rfl, fun hs => ?_, fun h => absurd rfl h, fun _ => ⟨.inr ⟨_, K, hm, hK, hi, rfl⟩, rfl⟩⟩
        rcases hc.2 hs with ⟨_, x0, K2, hK2, x⟩ | ⟨x, _⟩
        · have e1 : (!a.sw) = false := by rw [hs]; rfl
          rw [x, hn e1]
          obtain ⟨r1, r2, r3, _⟩ := errOf_zero h1
          rw [Gs.Can.same hK2 (clip_can hL r1 r2 r3)]
        · exact absurd rfl x
theorem DocU.shape {f : Int → Int} {size : Int} {a : Act} {L : List R} {B : Nat} {s' : Int} {v' : Value} {k e : Int} {W : World} (h : DocU f size a L B s' v' k e W) : ∃ b n c, v' = .slice b n c := by
  rcases h with ⟨_, _, _, h, _⟩ | ⟨_, L', _, ⟨_, _, h, _⟩ | ⟨_, _, _, ⟨_, _, h, _⟩, _⟩⟩
  · exact ⟨_, _, _, h⟩
  · exact ⟨_, _, _, h⟩
  · exact ⟨_, _, _, h⟩
end Go.Proofs.Ytjbenhmpeceaeab
namespace Go.Proofs.Ytjbenhmpeceaeab
open Go Go.RowKit Gs

theorem CodeU.below {f : Int → Int} {size : Int} {a : Act} {q : Option Addr} {s2 n2 e2 : Int} {W W' : World} (h : CodeU f size a q s2 n2 e2 W) (hb : Below W.heap.size W W') : CodeU f size a q s2 n2 e2 W' := ⟨h.1.below hb, h.2⟩
theorem CodeU.set {f : Int → Int} {size : Int} {a : Act} {q : Option Addr} {s2 n2 e2 : Int} {W : World} {X i : Nat} {u : Value} (h : CodeU f size a q s2 n2 e2 W) (h22 : W.cell? ⟨X, 22, none⟩ = none) : CodeU f size a q s2 n2 e2 (W.setCell ⟨X, i, none⟩ u) := by
  refine ⟨?_, h.2⟩
  rcases h.1 with g | g | ⟨g1, g2, g3, g4⟩
  · exact .inl g
  · exact .inr (.inl g)
  · exact .inr (.inr ⟨g1, g2, g3, g4.lo, g4.ctx, g4.tr.set h22 u⟩)
theorem DocU.below {f : Int → Int} {size : Int} {a : Act} {L : List R} {B : Nat} {s' : Int} {v' : Value} {k e : Int} {W W' : World} (h : DocU f size a L B s' v' k e W) (hb : Below W.heap.size W W') : DocU f size a L B s' v' k e W' := by
  rcases h with h | ⟨h1, L', h2, h | ⟨g1, g2, g3, g4, g5⟩⟩
  · exact .inl h
  · exact .inr ⟨h1, L', h2, .inl h⟩
  · exact .inr ⟨h1, L', h2, .inr ⟨g1, g2, g3, g4.below hb, g5⟩⟩
/-- the boxes that do lays -/
theorem boxes_do (W : World) (x0 x1 y0 y1 : Value) (zs : List Value) (hz : zs.length ≤ 22) (T1 T2 T3 : TypeId) : ∃ w0, w0 = ((((W.alloc (.cells #[x0, x1] T1)).alloc (.cells #[y0, y1] T2)).alloc (.cells zs.toArray T3)).alloc (.cells #[.pointer none, .int .i64 0] T1)).alloc (.cells #[.int .i64 0, .slice none 0 0] T2) ∧
    Bx W.heap.size [x0, x1] w0 ∧ Bx (W.heap.size + 1) [y0, y1] w0 ∧ Bx (W.heap.size + 1 + 1) zs w0 ∧ Bx (W.heap.size + 1 + 1 + 1) [.pointer none, .int .i64 0] w0 ∧ Bx (W.heap.size + 1 + 1 + 1 + 1) [.int .i64 0, .slice none 0 0] w0 ∧ Below W.heap.size W w0 ∧ w0.heap.size = W.heap.size + 5 := by
  have al : ∀ (X : World) (o : Obj), Below X.heap.size X (X.alloc o) := fun X o => (Below.refl _ _).alloc (Nat.le_refl _) _
  obtain ⟨w1, e1⟩ : ∃ w1, w1 = W.alloc (.cells #[x0, x1] T1) := ⟨_, rfl⟩
  obtain ⟨w2, e2⟩ : ∃ w2, w2 = w1.alloc (.cells #[y0, y1] T2) := ⟨_, rfl⟩
  obtain ⟨w3, e3⟩ : ∃ w3, w3 = w2.alloc (.cells zs.toArray T3) := ⟨_, rfl⟩
  obtain ⟨w4, e4⟩ : ∃ w4, w4 = w3.alloc (.cells #[.pointer none, .int .i64 0] T1) := ⟨_, rfl⟩
  obtain ⟨w5, e5⟩ : ∃ w5, w5 = w4.alloc (.cells #[.int .i64 0, .slice none 0 0] T2) := ⟨_, rfl⟩
  have s1 : w1.heap.size = W.heap.size + 1 := by rw [e1]; simp
  have s2 : w2.heap.size = W.heap.size + 1 + 1 := by rw [e2]; simp [s1]
  have s3 : w3.heap.size = W.heap.size + 1 + 1 + 1 := by rw [e3]; simp [s2]
  have s4 : w4.heap.size = W.heap.size + 1 + 1 + 1 + 1 := by rw [e4]; simp [s3]
  have s5 : w5.heap.size = W.heap.size + 1 + 1 + 1 + 1 + 1 := by rw [e5]; simp [s4]
  have a1 : Below W.heap.size W w1 := by rw [e1]; exact al _ _
  have a2 : Below w1.heap.size w1 w2 := by rw [e2]; exact al _ _
  have a3 : Below w2.heap.size w2 w3 := by rw [e3]; exact al _ _
  have a4 : Below w3.heap.size w3 w4 := by rw [e4]; exact al _ _
  have a5 : Below w4.heap.size w4 w5 := by rw [e5]; exact al _ _
  have n1 : Bx W.heap.size [x0, x1] w1 := by rw [e1]; exact Bx.new W [x0, x1] T1 (by simp)
  have n2 : Bx w1.heap.size [y0, y1] w2 := by rw [e2]; exact Bx.new w1 [y0, y1] T2 (by simp)
  have n3 : Bx w2.heap.size zs w3 := by rw [e3]; exact Bx.new w2 zs T3 hz
  have n4 : Bx w3.heap.size [.pointer none, .int .i64 0] w4 := by rw [e4]; exact Bx.new w3 [.pointer none, .int .i64 0] T1 (by simp)
  have n5 : Bx w4.heap.size [.int .i64 0, .slice none 0 0] w5 := by rw [e5]; exact Bx.new w4 [.int .i64 0, .slice none 0 0] T2 (by simp)
  rw [s1] at n2; rw [s2] at n3; rw [s3] at n4; rw [s4] at n5
  have a45 := a4.trans (a5.mono a4.size)
  have a35 := a3.trans (a45.mono a3.size)
  have a25 := a2.trans (a35.mono a2.size)
  rw [← e1, ← e2, ← e3, ← e4, ← e5]
  exact ⟨w5, rfl, n1.next a25, n2.next a35, n3.next a45, n4.next a5, n5, a1.trans (a25.mono a1.size), s5⟩

end Go.Proofs.Ytjbenhmpeceaeab
namespace Go.Proofs.Ytjbenhmpeceaeab
open Go Go.RowKit Gs

/-- a store at a block whose second cell is a list, or whose first one is a pointer -/
theorem IsRs.apart {base : Nat} {W : World} {v : Value} {l : List R} (h : IsRs base W v l) {X i : Nat} {u : Value} (hX : (∀ x, W.cell? ⟨X, 0, none⟩ ≠ some (.int .i64 x)) ∨ (∀ x, W.cell? ⟨X, 1, none⟩ ≠ some (.int .i64 x))) : IsRs base (W.setCell ⟨X, i, none⟩ u) v l := by
  obtain ⟨ao, c, hv, h⟩ := h
  refine ⟨ao, c, hv, fun hl => ?_⟩
  obtain ⟨B, e, hB, hc⟩ := h hl
  have hne : B ≠ X := fun e => by
    subst e
    obtain ⟨h0, h1, _⟩ := hc 0 hl
    rcases hX with h | h
    · exact h _ h0
    · exact h _ h1
  refine ⟨B, e, ⟨hB.1, by rw [World.size_setCell]; exact hB.2⟩, fun j hj => ?_⟩
  obtain ⟨h0, h1, h2⟩ := hc j hj
  have o : ∀ k, (⟨X, i, none⟩ : Addr) ≠ ⟨B, k, none⟩ := fun k e => hne (by injection e with e; exact e.symm)
  exact ⟨(World.cell?_setCell_other _ _ _ _ (o _)).trans h0, (World.cell?_setCell_other _ _ _ _ (o _)).trans h1, (World.cell?_setCell_other _ _ _ _ (o _)).trans h2⟩
theorem Dual.apart {base : Nat} {W : World} {p : Option Addr} {size s : Int} {v : Value} (h : Dual base W p size s v) {X i : Nat} {u : Value} (h22 : W.cell? ⟨X, 22, none⟩ = none) (hX : (∀ x, W.cell? ⟨X, 0, none⟩ ≠ some (.int .i64 x)) ∨ (∀ x, W.cell? ⟨X, 1, none⟩ ≠ some (.int .i64 x))) : Dual base (W.setCell ⟨X, i, none⟩ u) p size s v := by
  rcases h with h | ⟨f, L, h1, h2, h3, h4⟩
  · exact .inl h
  · exact .inr ⟨f, L, ⟨h1.lo, h1.ctx, h1.tr.set h22 u⟩, h2, h3.apart hX, h4⟩
theorem Dual.setM {base : Nat} {W : World} {p : Option Addr} {size s : Int} {v : Value} (h : Dual base W p size s v) {X : Nat} {q : Option Addr} {y : Value} (hb : Bx X [.pointer q, y] W) (q2 : Option Addr) (u : Value) : Dual base ((W.setCell ⟨X, 0, none⟩ (.pointer q2)).setCell ⟨X, 1, none⟩ u) p size s v :=
  (h.apart hb.c22 (.inl fun x e => by rw [hb.c2.1] at e; cases e)).apart (hb.put (i := 0) (by simp) (by decide) (.pointer q2)).c22 (.inl fun x e => by rw [((hb.put (i := 0) (by simp) (by decide) (.pointer q2)).c 0 _ rfl).1] at e; cases e)
theorem Dual.setR {base : Nat} {W : World} {p : Option Addr} {size s : Int} {v : Value} (h : Dual base W p size s v) {X : Nat} {x : Value} {a : Option Addr} {n c : Nat} (hb : Bx X [x, .slice a n c] W) (u1 u2 : Value) : Dual base ((W.setCell ⟨X, 0, none⟩ u1).setCell ⟨X, 1, none⟩ u2) p size s v :=
  (h.apart hb.c22 (.inr fun x e => by rw [hb.c2.2.1] at e; cases e)).apart (hb.put (i := 0) (by simp) (by decide) u1).c22 (.inr fun x e => by rw [((hb.put (i := 0) (by simp) (by decide) u1).c 1 _ rfl).1] at e; cases e)
/-- the parts of a Dual that is usable -/
theorem Dual.open {base : Nat} {W : World} {p : Option Addr} {z s : Int} {v : Value} (h : Dual base W p z s v) : (p = none ∧ z = 0 ∧ s = 0 ∧ v = .slice none 0 0) ∨ ∃ f L, IsM f z W p ∧ Gs.Can f 0 L z ∧ IsRs base W v L ∧ s = z ∧ 0 < L.length ∧ L.length ≤ 4096 := by
  rcases h with h | ⟨f, L, h1, h2, h3, h4⟩
  · exact .inl h
  · obtain ⟨K, k1, k2⟩ := h1.can
    have e := k1.same h2
    subst e
    refine .inr ⟨f, K, h1, h2, h3, h4, ?_, k2⟩
    rcases fits_cut h2.1 with ⟨_, e⟩ | ⟨r, k, rfl⟩
    · have := h1.lo; omega
    · simp
/-- an append of nothing -/
theorem wpList_append_nil {P : Program} {w : World} {ops : Array Oper} {rest : List Oper} {o : Oper} {a : Go.Act} {Q : Exit → Go.Act → World → Prop} (hgd : o.guard = none) (s x : Operand) (t : TypeId)
    (ho : o.op = .call { callee := .builtin .append, args := #[s, x], argTypes := #[t, t] })
    (base : Nat) (e : TypeId) (i : TypeInfo) (size : Nat) (ht : P.underlying t = some (.slice e)) (hi : P.info? e = some i)
    (v : Value) (n : Nat) (xs : List Value) (hs : a.eval s = v) (hown : w.ownsRow base e size v n xs) (hx : a.eval x = .slice none 0 0)
    (h : wpList P ops Q rest (a.put o.dst v) w) : wpList P ops Q (o :: rest) a w := by
  refine wpList_plain hgd fun K hK => ?_
  have hr := run_append_owned_none (P := P) w base t o.type e i size ht hi v n xs hown
  unfold Oper.wp execOp
  simp only [ho, resolve, invoke, builtin, Sem.run_bind, Sem.run_pure, Result.andThen_ok, List.map_toArray, List.map_cons, List.map_nil, hs, hx, hr]
  exact hK _ _ h
/-- what both News answer -/
theorem new_dual {size : Int} {B : Nat} {q : Option Addr} {s e2 s' : Int} {v' : Value} {e3 : Int} {W : World} (h1 : (e2 = 0 ∧ s = size ∧ IsM (fun _ => 0) size W q) ∨ (e2 = 2 ∧ q = none ∧ s = 0 ∧ (size < 1 ∨ 1099511627776 < size))) (h2 : RNP size B s' v' e3 W) : e2 = e3 ∧ Dual B W q s s' v' := by
  rcases h1 with ⟨rfl, rfl, h1⟩ | ⟨rfl, rfl, rfl, h1⟩
  · rcases h2 with ⟨rfl, rfl, h3, h4, h5⟩ | ⟨_, _, _, h3⟩
    · exact ⟨rfl, .inr ⟨_, _, h1, Gs.Can.one (r := ⟨0, s', 0⟩) (by show 0 < s'; omega) (fun _ _ _ => rfl), h5, rfl⟩⟩
    · have := h1.lo; have := h1.hi; omega
  · rcases h2 with ⟨_, _, h3, h4, _⟩ | ⟨rfl, rfl, rfl, _⟩
    · omega
    · exact ⟨rfl, .inl ⟨rfl, rfl, rfl, rfl⟩⟩
theorem RNP.below {size : Int} {B : Nat} {s : Int} {v : Value} {e : Int} {W W' : World} (h : RNP size B s v e W) (hb : Below W.heap.size W W') : RNP size B s v e W' := by
  rcases h with ⟨h1, h2, h3, h4, h5⟩ | h
  · exact .inl ⟨h1, h2, h3, h4, h5.below hb⟩
  · exact .inr h
theorem RNP.shape {size : Int} {B : Nat} {s : Int} {v : Value} {e : Int} {W : World} (h : RNP size B s v e W) : ∃ a n c, v = .slice a n c := by
  rcases h with ⟨_, _, _, _, ⟨_, _, h, _⟩⟩ | ⟨_, _, h, _⟩
  · exact ⟨_, _, _, h⟩
  · exact ⟨_, _, _, h⟩
/-- an update of a list -/
theorem IsAs.at' {W : World} {a : Option Addr} {n c : Nat} {l : List Act} (h : IsAs W (.slice a n c) l) {j : Nat} (hj : j < l.length) :
    ∃ B o, a = some ⟨B, o, none⟩ ∧ W.cell? ⟨B, o + j * 5, none⟩ = some (.bool l[j].sw) ∧ W.cell? ⟨B, o + j * 5 + 1, none⟩ = some (.int .i64 l[j].lo) ∧ W.cell? ⟨B, o + j * 5 + 2, none⟩ = some (.int .i64 l[j].hi) ∧ W.cell? ⟨B, o + j * 5 + 3, none⟩ = some (.int .i64 l[j].fr) ∧ W.cell? ⟨B, o + j * 5 + 4, none⟩ = some (.int .i64 l[j].tt) := by
  obtain ⟨a', c', hv, hcs⟩ := h
  injection hv with hv1 hv2 hv3
  subst hv1
  obtain ⟨B, o, e1, -, hcs2⟩ := hcs (by omega)
  exact ⟨B, o, e1, hcs2 j hj⟩
theorem alloc_below (W : World) (o : Obj) : Below W.heap.size W (W.alloc o) := (Below.refl _ _).alloc (Nat.le_refl _) _

end Go.Proofs.Ytjbenhmpeceaeab
namespace Go.Proofs.Ytjbenhmpeceaeab
open Go Go.RowKit Gs

structure Ch where
  lo : Int
  hi : Int
  fr : Int
  tt : Int
deriving DecidableEq
/-- a list of changes lies at a slice -/
def IsCs (W : World) (v : Value) (l : List Ch) : Prop :=
  ∃ ao c, v = .slice ao l.length c ∧ (0 < l.length → ∃ B o, ao = some ⟨B, o, none⟩ ∧ B < W.heap.size ∧ ∀ j (h : j < l.length),
    W.cell? ⟨B, o + j * 4, none⟩ = some (.int .i64 l[j].lo) ∧ W.cell? ⟨B, o + j * 4 + 1, none⟩ = some (.int .i64 l[j].hi) ∧ W.cell? ⟨B, o + j * 4 + 2, none⟩ = some (.int .i64 l[j].fr) ∧ W.cell? ⟨B, o + j * 4 + 3, none⟩ = some (.int .i64 l[j].tt))
theorem IsCs.below {W W' : World} {v : Value} {l : List Ch} (h : IsCs W v l) (hb : Below W.heap.size W W') : IsCs W' v l := by
  obtain ⟨ao, c, hv, h⟩ := h
  refine ⟨ao, c, hv, fun hp => ?_⟩
  obtain ⟨B, o, e, hB, hc⟩ := h hp
  refine ⟨B, o, e, Nat.lt_of_lt_of_le hB hb.size, fun j hj => ?_⟩
  obtain ⟨h0, h1, h2, h3⟩ := hc j hj
  exact ⟨(hb.cell (p := ⟨B, _, none⟩) hB).trans h0, (hb.cell (p := ⟨B, _, none⟩) hB).trans h1, (hb.cell (p := ⟨B, _, none⟩) hB).trans h2, (hb.cell (p := ⟨B, _, none⟩) hB).trans h3⟩
theorem IsCs.at' {W : World} {a : Option Addr} {n c : Nat} {l : List Ch} (h : IsCs W (.slice a n c) l) {j : Nat} (hj : j < l.length) :
    ∃ B o, a = some ⟨B, o, none⟩ ∧ W.cell? ⟨B, o + j * 4, none⟩ = some (.int .i64 l[j].lo) ∧ W.cell? ⟨B, o + j * 4 + 1, none⟩ = some (.int .i64 l[j].hi) ∧ W.cell? ⟨B, o + j * 4 + 2, none⟩ = some (.int .i64 l[j].fr) ∧ W.cell? ⟨B, o + j * 4 + 3, none⟩ = some (.int .i64 l[j].tt) := by
  obtain ⟨a', c', hv, hcs⟩ := h
  injection hv with hv1 hv2 hv3
  subst hv1
  obtain ⟨B, o, e1, -, hcs2⟩ := hcs (by omega)
  exact ⟨B, o, e1, hcs2 j hj⟩
open Classical in
/-- what is wrong with a change -/
noncomputable def chE (size : Int) (f : Int → Int) (c : Ch) : Int :=
  if ¬ (0 ≤ c.lo ∧ c.lo < c.hi ∧ c.hi ≤ size) then 3 else if isT c.fr = true ∧ isT c.tt = true then (if ∀ x, c.lo ≤ x → x < c.hi → f x = c.fr then 0 else 30) else 2
/-- the boxes of change -/
theorem boxes_ch (W : World) (x0 x1 : Value) (zs : List Value) (hz : zs.length ≤ 22) (T1 T3 : TypeId) : ∃ w0, w0 = ((W.alloc (.cells #[x0, x1] T1)).alloc (.cells zs.toArray T3)).alloc (.cells #[.pointer none, .int .i64 0] T1) ∧
    Bx W.heap.size [x0, x1] w0 ∧ Bx (W.heap.size + 1) zs w0 ∧ Bx (W.heap.size + 1 + 1) [.pointer none, .int .i64 0] w0 ∧ Below W.heap.size W w0 ∧ w0.heap.size = W.heap.size + 3 := by
  obtain ⟨w1, e1⟩ : ∃ w1, w1 = W.alloc (.cells #[x0, x1] T1) := ⟨_, rfl⟩
  obtain ⟨w2, e2⟩ : ∃ w2, w2 = w1.alloc (.cells zs.toArray T3) := ⟨_, rfl⟩
  obtain ⟨w3, e3⟩ : ∃ w3, w3 = w2.alloc (.cells #[.pointer none, .int .i64 0] T1) := ⟨_, rfl⟩
  have s1 : w1.heap.size = W.heap.size + 1 := by rw [e1]; simp
  have s2 : w2.heap.size = W.heap.size + 1 + 1 := by rw [e2]; simp [s1]
  have s3 : w3.heap.size = W.heap.size + 1 + 1 + 1 := by rw [e3]; simp [s2]
  have a1 : Below W.heap.size W w1 := by rw [e1]; exact alloc_below _ _
  have a2 : Below w1.heap.size w1 w2 := by rw [e2]; exact alloc_below _ _
  have a3 : Below w2.heap.size w2 w3 := by rw [e3]; exact alloc_below _ _
  have n1 : Bx W.heap.size [x0, x1] w1 := by rw [e1]; exact Bx.new W [x0, x1] T1 (by simp)
  have n2 : Bx w1.heap.size zs w2 := by rw [e2]; exact Bx.new w1 zs T3 hz
  have n3 : Bx w2.heap.size [.pointer none, .int .i64 0] w3 := by rw [e3]; exact Bx.new w2 [.pointer none, .int .i64 0] T1 (by simp)
  rw [s1] at n2; rw [s2] at n3
  have a23 := a2.trans (a3.mono a2.size)
  rw [← e1, ← e2, ← e3]
  exact ⟨w3, rfl, n1.next a23, n2.next a3, n3, a1.trans (a23.mono a1.size), s3⟩
set_option maxRecDepth 100000 in
set_option maxHeartbeats 4000000 in
theorem change_any {f : Int → Int} {size : Int} {W : World} {p : Option Addr} (h : IsM f size W p) (lo hi fr tt : Int) :
    Calls Try.prog 44 #[.agg #[.pointer p, .int .i64 size], .agg #[.int .i64 lo, .int .i64 hi, .int .i64 fr, .int .i64 tt]] W fun e w' => ∃ q s e2, e = .returned (.tuple #[.agg #[.pointer q, .int .i64 s], .int .i64 e2]) ∧ Hid (Upd f (put f lo hi tt) size (chE size f ⟨lo, hi, fr, tt⟩) q s e2 w') ∧ Below W.heap.size W w' := by
  obtain ⟨w0, HW, n1, n2, n3, hb, hs0⟩ := boxes_ch W (.pointer p) (.int .i64 size) [.int .i64 lo, .int .i64 hi, .int .i64 fr, .int .i64 tt] (by simp) 27 59
  have H1 := Lib.hid n1; have H2 := Lib.hid n2; have H3 := Lib.hid n3; have HB := Lib.hid hb; have HS0 := Lib.hid hs0; have HW' := Lib.hid HW
  have c0 := (n2.c 0 _ rfl).1; have c1 := (n2.c 1 _ rfl).1; have c2 := (n2.c 2 _ rfl).1; have c3 := (n2.c 3 _ rfl).1
  have HBF : Hid (∀ W' x y, Below W.heap.size W W' → Below W.heap.size W ((W'.setCell ⟨W.heap.size + 1 + 1, 0, none⟩ x).setCell ⟨W.heap.size + 1 + 1, 1, none⟩ y)) := fun W' x y h => below_put h (by omega) _ _
  by_cases he : lo = hi
  · subst he
    have HE : Hid (chE size f ⟨lo, lo, fr, tt⟩ = 3) := by show chE _ _ _ = 3; unfold chE; rw [if_pos (by simp)]
    obtain ⟨x0, x1, x2, x3⟩ := n3.c2
    obtain ⟨u0, u1, -, -⟩ := (n3.two (.pointer none) (.int .i64 0)).c2
    clear n1 n2 n3 hb hs0 HW h
    go_enter Try.func44, Try.ntmps44
    go_upto_region 1 with fail
    rw [← HW'.out]
    go_wp2_with fail
    refine bodyPost_ret (v := .tuple #[.agg #[.pointer none, .int .i64 0], .int .i64 3]) (by simp [results, Try.results44, go_sem, u0, u1]) rfl ?_
    have HU : ∀ W', Upd f (put f lo lo tt) size (chE size f ⟨lo, lo, fr, tt⟩) none 0 3 W' := fun W' => .inl ⟨by rw [HE.out]; decide, HE.out.symm, rfl, rfl⟩
    first
    | exact ⟨none, 0, 3, rfl, HU _, HB.out⟩
    | exact ⟨none, 0, 3, rfl, HU _, HBF.out _ _ _ HB.out⟩
  · obtain ⟨b, rfl⟩ := h.some
    have hlb : (lo == hi) = false := beq_eq_false_iff_ne.2 he
    obtain ⟨w1, HW1⟩ : ∃ w1, w1 = w0.alloc (.cells #[.int .i64 fr, .int .i64 tt] 3) := ⟨_, rfl⟩
    have b1 : Below w0.heap.size w0 w1 := by rw [HW1]; exact alloc_below _ _
    have hck : Calls Try.prog 31 #[.agg #[.pointer (some ⟨b, 0, none⟩), .int .i64 size], .int .i64 lo, .int .i64 hi, .slice (some ⟨w0.heap.size, 0, none⟩) 2 2] w1 fun e w' => e = .returned (.int .i64 (errOf size lo hi [fr, tt])) ∧ Below w1.heap.size w1 w' :=
      check_any b w0.heap.size 2 size lo hi [fr, tt] w1 (by rw [HW1]; simp) (fun i hi => by
        have : i = 0 ∨ i = 1 := by simp at hi; omega
        rw [HW1]
        rcases this with rfl | rfl
        · exact World.cell?_alloc_at _ _ _ _ rfl
        · exact World.cell?_alloc_at _ _ _ _ rfl) (by simp)
    have G1 := Lib.hid (n1.next b1); have G2 := Lib.hid (n2.next b1); have G3 := Lib.hid (n3.next b1)
    have HB1 := Lib.hid (hb.trans (b1.mono hb.size))
    have HW1' := Lib.hid HW1
    obtain ⟨m0, m1, -, -⟩ := n1.c2
    by_cases her : errOf size lo hi [fr, tt] = 0
    · rw [her] at hck
      obtain ⟨r1, r2, r3, r4⟩ := errOf_zero her
      have r5 := r4 fr (by simp); have r6 := r4 tt (by simp)
      obtain ⟨t, t1, t2, t3⟩ := h.tr
      have HAT : Hid (∀ W', Below W.heap.size W W' → Calls Try.prog 30 #[.pointer (some ⟨b, 0, none⟩), .int .i64 lo] W' fun e w' => ∃ rlo rhi rtag, e = .returned (.agg #[.int .i64 rlo, .int .i64 rhi, .int .i64 rtag]) ∧ Hid (∃ l k, t.L = l ++ ⟨rlo, rhi, rtag⟩ :: k ∧ rlo ≤ lo ∧ lo < rhi) ∧ Below W'.heap.size W' w') := fun W' hW => (at_any f 0 size t _ W' lo (IsT.below hW t1) t2 r1 (by omega)).mono fun e w' ⟨l, a1, a2, a3, k, he, hp, hB⟩ => ⟨a1, a2, a3, he, ⟨l, k, hp.out⟩, hB⟩
      have HCAN := Lib.hid t2
      have hst : errOf size lo hi [tt] = 0 := by unfold errOf; rw [if_neg (by omega)]; simp [isT, r6]
      have HST : Hid (∀ W', Below W.heap.size W W' → Calls Try.prog 14 #[.agg #[.pointer (some ⟨b, 0, none⟩), .int .i64 size], .int .i64 lo, .int .i64 hi, .int .i64 tt] W' fun e w' => ∃ q s e2, e = .returned (.tuple #[.agg #[.pointer q, .int .i64 s], .int .i64 e2]) ∧ Hid (Upd f (put f lo hi tt) size 0 q s e2 w') ∧ Below W'.heap.size W' w') := fun W' hW => by
        have := Set_any (h.below hW) (lo := lo) (hi := hi) (tag := tt)
        rw [hst] at this
        exact this
      have HCH : Hid (chE size f ⟨lo, hi, fr, tt⟩ = open Classical in if ∀ x, lo ≤ x → x < hi → f x = fr then 0 else 30) := by
        show chE _ _ _ = _
        unfold chE
        rw [if_neg (by simp; omega), if_pos ⟨decide_eq_true r5, decide_eq_true r6⟩]
      have HCK := Lib.hid hck
      have HLH : Hid (0 ≤ lo ∧ lo < hi ∧ hi ≤ size) := ⟨r1, by omega, r3⟩
      clear n1 n2 n3 hb hs0 HW h HW1 b1 hck her r1 r2 r3 r4 r5 r6 t1 t2 t3 hst he
      go_enter Try.func44, Try.ntmps44
      go_upto_region 1 with fail
      rw [← HW'.out]
      go_wp2_with fail
      rw [← HW1'.out]
      refine HCK.out.mono ?_
      rintro e w2 ⟨rfl, hb⟩
      have F1 := Lib.hid (G1.out.next hb); have F2 := Lib.hid (G2.out.next hb); have F3 := Lib.hid (G3.out.next hb)
      have HB2 := Lib.hid (HB1.out.trans (hb.mono HB1.out.size))
      clear hb m0 m1 c0 c1 c2 c3 G1 G2 G3 HB1
      obtain ⟨m0, m1, -, -⟩ := F1.out.c2
      have c0 := (F2.out.c 0 _ rfl).1; have c1 := (F2.out.c 1 _ rfl).1; have c2 := (F2.out.c 2 _ rfl).1; have c3 := (F2.out.c 3 _ rfl).1
      go_wp2_with fail
      refine (HAT.out _ HB2.out).mono ?_
      rintro e w3 ⟨rlo, rhi, rtag, rfl, HRN, hb⟩
      obtain ⟨w4, HW4⟩ : ∃ w4, w4 = w3.alloc (.cells #[.int .i64 rlo, .int .i64 rhi, .int .i64 rtag] 46) := ⟨_, rfl⟩
      have b4 : Below w3.heap.size w3 w4 := by rw [HW4]; exact alloc_below _ _
      have n4 : Bx w3.heap.size [.int .i64 rlo, .int .i64 rhi, .int .i64 rtag] w4 := by rw [HW4]; exact Bx.new w3 [.int .i64 rlo, .int .i64 rhi, .int .i64 rtag] 46 (by simp)
      have b34 := hb.trans (b4.mono hb.size)
      have K1 := Lib.hid (F1.out.next b34); have K2 := Lib.hid (F2.out.next b34); have K3 := Lib.hid (F3.out.next b34); have K4 := Lib.hid n4
      have HB4 := Lib.hid (HB2.out.trans (b34.mono HB2.out.size))
      have HW4' := Lib.hid HW4
      clear HW4 b4 n4 b34 hb m0 m1 c0 c1 c2 c3 F1 F2 F3 HB2
      go_upto_region 7 with fail
      rw [← HW4'.out]
      obtain ⟨m0, m1, -, -⟩ := K1.out.c2
      have c0 := (K2.out.c 0 _ rfl).1; have c1 := (K2.out.c 1 _ rfl).1; have c2 := (K2.out.c 2 _ rfl).1; have c3 := (K2.out.c 3 _ rfl).1
      have d1 := (K4.out.c 1 _ rfl).1; have d2 := (K4.out.c 2 _ rfl).1
      obtain ⟨x0, x1, x2, x3⟩ := K3.out.c2
      by_cases g1 : rtag = fr
      · have hbe : (rtag == fr) = true := by rw [g1]; exact beq_self_eq_true _
        by_cases g2 : rhi < hi
        · have HE : Hid (chE size f ⟨lo, hi, fr, tt⟩ = 30) := by
            obtain ⟨l, k, hL, q1, q2⟩ := HRN.out
            have hc := HCAN.out
            rw [hL] at hc
            obtain ⟨_, _, a3, a4, _, a6⟩ := hc.mid
            have e1 := a6 (by show rhi < size; have := HLH.out; omega)
            have e2 := a4 (rhi - 1) (by show rlo ≤ _; omega) (by show _ < rhi; omega)
            show chE _ _ _ = 30
            rw [HCH.out, if_neg]
            intro hall
            have e3 := hall rhi (by omega) g2
            have e1 : f (rhi - 1) ≠ f rhi := e1
            have e2 : f (rhi - 1) = rtag := e2
            exact e1 (by rw [e2, e3, g1])
          obtain ⟨u0, u1, -, -⟩ := (K3.out.two (.pointer none) (.int .i64 0)).c2
          clear hbe
          subst g1
          go_wp2_with fail
          refine bodyPost_ret (v := .tuple #[.agg #[.pointer none, .int .i64 0], .int .i64 30]) (by simp [results, Try.results44, go_sem, u0, u1]) rfl ?_
          have HU : ∀ W', Upd f (put f lo hi tt) size (chE size f ⟨lo, hi, rtag, tt⟩) none 0 30 W' := fun W' => .inl ⟨by rw [HE.out]; decide, HE.out.symm, rfl, rfl⟩
          first
          | exact ⟨none, 0, 30, rfl, HU _, HB4.out⟩
          | exact ⟨none, 0, 30, rfl, HU _, HBF.out _ _ _ HB4.out⟩
        · have HE : Hid (chE size f ⟨lo, hi, fr, tt⟩ = 0) := by
            obtain ⟨l, k, hL, q1, q2⟩ := HRN.out
            have hc := HCAN.out
            rw [hL] at hc
            obtain ⟨_, _, a3, a4, _, a6⟩ := hc.mid
            show chE _ _ _ = 0
            rw [HCH.out, if_pos]
            intro x x1 x2
            rw [← g1]
            exact a4 x (by show rlo ≤ x; omega) (by show x < rhi; omega)
          clear hbe
          subst g1
          go_wp2_with fail
          refine (HST.out _ HB4.out).mono ?_
          rintro e w5 ⟨q, s, e2, rfl, HU, hb⟩
          have K5 := Lib.hid (K3.out.next hb)
          have HB5 := Lib.hid (HB4.out.trans (hb.mono HB4.out.size))
          obtain ⟨y0, y1, y2, y3⟩ := K5.out.c2
          obtain ⟨u0, u1, -, -⟩ := (K5.out.two (.pointer q) (.int .i64 s)).c2
          have HUF : Hid (Upd f (put f lo hi tt) size (chE size f ⟨lo, hi, rtag, tt⟩) q s e2 ((w5.setCell ⟨W.heap.size + 1 + 1, 0, none⟩ (.pointer q)).setCell ⟨W.heap.size + 1 + 1, 1, none⟩ (.int .i64 s))) := by
            show Upd _ _ _ (chE _ _ _) _ _ _ _
            rw [HE.out]
            rcases HU.out with g | g | ⟨g1, g2, g3, g4⟩
            · exact .inl g
            · exact .inr (.inl g)
            · exact .inr (.inr ⟨g1, g2, g3, g4.lo, g4.ctx, (g4.tr.set K5.out.c22 _).set (K5.out.put (i := 0) (by simp) (by decide) _).c22 _⟩)
          clear hb m0 m1 c0 c1 c2 c3 d1 d2 x0 x1 x2 x3
          go_wp2_with fail
          refine bodyPost_ret (v := .tuple #[.agg #[.pointer q, .int .i64 s], .int .i64 e2]) (by simp [results, Try.results44, go_sem, u0, u1]) rfl ?_
          exact ⟨q, s, e2, rfl, HUF, HBF.out _ _ _ HB5.out⟩
      · have hbe : (rtag == fr) = false := beq_eq_false_iff_ne.2 g1
        have HE : Hid (chE size f ⟨lo, hi, fr, tt⟩ = 30) := by
          obtain ⟨l, k, hL, q1, q2⟩ := HRN.out
          have hc := HCAN.out
          rw [hL] at hc
          obtain ⟨_, _, a3, a4, _, a6⟩ := hc.mid
          show chE _ _ _ = 30
          rw [HCH.out, if_neg]
          intro hall
          exact g1 ((a4 lo q1 q2).symm.trans (hall lo (Int.le_refl _) HLH.out.2.1))
        obtain ⟨u0, u1, -, -⟩ := (K3.out.two (.pointer none) (.int .i64 0)).c2
        go_wp2_with fail
        refine bodyPost_ret (v := .tuple #[.agg #[.pointer none, .int .i64 0], .int .i64 30]) (by simp [results, Try.results44, go_sem, u0, u1]) rfl ?_
        have HU : ∀ W', Upd f (put f lo hi tt) size (chE size f ⟨lo, hi, fr, tt⟩) none 0 30 W' := fun W' => .inl ⟨by rw [HE.out]; decide, HE.out.symm, rfl, rfl⟩
        first
        | exact ⟨none, 0, 30, rfl, HU _, HB4.out⟩
        | exact ⟨none, 0, 30, rfl, HU _, HBF.out _ _ _ HB4.out⟩
    · have HE : Hid (chE size f ⟨lo, hi, fr, tt⟩ = errOf size lo hi [fr, tt]) := by
        show chE _ _ _ = _
        unfold errOf at her ⊢
        unfold chE
        by_cases hv : lo < 0 ∨ hi < lo ∨ size < hi
        · rw [if_pos (by simp; omega), if_pos hv]
        · rw [if_neg (by simp; omega), if_neg hv]
          rw [if_neg hv] at her
          by_cases ht : isT fr = true ∧ isT tt = true
          · exfalso
            apply her
            rw [if_pos (by simp [ht])]
          · rw [if_neg ht, if_neg]
            intro h
            apply ht
            simpa using h
      have hne : (errOf size lo hi [fr, tt] == 0) = false := beq_eq_false_iff_ne.2 her
      have HER := Lib.hid her
      have HCK := Lib.hid hck
      clear n1 n2 n3 hb hs0 HW h HW1 b1 hck her he
      generalize errOf size lo hi [fr, tt] = er at *
      go_enter Try.func44, Try.ntmps44
      go_upto_region 1 with fail
      rw [← HW'.out]
      go_wp2_with fail
      rw [← HW1'.out]
      refine HCK.out.mono ?_
      rintro e w2 ⟨rfl, hb⟩
      have F3 := Lib.hid (G3.out.next hb)
      have HB2 := Lib.hid (HB1.out.trans (hb.mono HB1.out.size))
      clear hb m0 m1 c0 c1 c2 c3 G1 G2 G3 HB1
      obtain ⟨x0, x1, x2, x3⟩ := F3.out.c2
      obtain ⟨u0, u1, -, -⟩ := (F3.out.two (.pointer none) (.int .i64 0)).c2
      go_wp2_with fail
      refine bodyPost_ret (v := .tuple #[.agg #[.pointer none, .int .i64 0], .int .i64 er]) (by simp [results, Try.results44, go_sem, u0, u1]) rfl ?_
      have HU : ∀ W', Upd f (put f lo hi tt) size (chE size f ⟨lo, hi, fr, tt⟩) none 0 er W' := fun W' => .inl ⟨by rw [HE.out]; exact HER.out, HE.out.symm, rfl, rfl⟩
      first
      | exact ⟨none, 0, er, rfl, HU _, HB2.out⟩
      | exact ⟨none, 0, er, rfl, HU _, HBF.out _ _ _ HB2.out⟩
open Classical in
/-- what a change answers -/
noncomputable def chK (size : Int) (f : Int → Int) (c : Ch) : Int :=
  if chE size f c ≠ 0 then chE size f c else if ∃ L, Gs.Can (put f c.lo c.hi c.tt) 0 L size ∧ 4096 < L.length then 5 else 0
open Classical in
/-- what several changes answer: the first error, or what the function becomes -/
noncomputable def apF (size : Int) : (Int → Int) → List Ch → Int × (Int → Int)
  | f, [] => (0, f)
  | f, c :: l => if chK size f c = 0 then apF size (put f c.lo c.hi c.tt) l else (chK size f c, f)
theorem apF_nil (size : Int) (f : Int → Int) : apF size f [] = (0, f) := rfl
theorem apF_ok {size : Int} {f : Int → Int} {c : Ch} {l : List Ch} (h : chK size f c = 0) : apF size f (c :: l) = apF size (put f c.lo c.hi c.tt) l := by
  show (if _ then _ else _) = _
  rw [if_pos h]
theorem apF_err {size : Int} {f : Int → Int} {c : Ch} {l : List Ch} (h : chK size f c ≠ 0) : apF size f (c :: l) = (chK size f c, f) := by
  show (if _ then _ else _) = _
  rw [if_neg h]
theorem upd_chK {f : Int → Int} {size : Int} {c : Ch} {q : Option Addr} {s e : Int} {W : World} (h : Upd f (put f c.lo c.hi c.tt) size (chE size f c) q s e W) :
    e = chK size f c ∧ ((e ≠ 0 ∧ q = none ∧ s = 0) ∨ (e = 0 ∧ s = size ∧ IsM (put f c.lo c.hi c.tt) size W q)) := by
  rcases h with ⟨h1, rfl, h3, h4⟩ | ⟨h1, rfl, h3, h4, L, hL, hl⟩ | ⟨h1, rfl, h3, h4⟩
  · refine ⟨?_, .inl ⟨h1, h3, h4⟩⟩
    unfold chK
    rw [if_pos h1]
  · refine ⟨?_, .inl ⟨by decide, h3, h4⟩⟩
    unfold chK
    rw [if_neg (fun h => h h1), if_pos ⟨L, hL, hl⟩]
  · refine ⟨?_, .inr ⟨rfl, h3, h4⟩⟩
    unfold chK
    rw [if_neg (fun h => h h1), if_neg]
    rintro ⟨L, hL, hl⟩
    obtain ⟨K, hK, hk⟩ := h4.can
    have := hK.same hL
    subst this
    omega
/-- what Apply answers -/
def ApP (size : Int) (r : Int × (Int → Int)) (q : Option Addr) (s e : Int) (W : World) : Prop :=
  e = r.1 ∧ ((e ≠ 0 ∧ q = none ∧ s = 0) ∨ (e = 0 ∧ s = size ∧ IsM r.2 size W q))
theorem ApP.below {size : Int} {r : Int × (Int → Int)} {q : Option Addr} {s e : Int} {W W' : World} (h : ApP size r q s e W) (hb : Below W.heap.size W W') : ApP size r q s e W' := by
  obtain ⟨h1, h | ⟨h2, h3, h4⟩⟩ := h
  · exact ⟨h1, .inl h⟩
  · exact ⟨h1, .inr ⟨h2, h3, h4.below hb⟩⟩
theorem IsM.set {f : Int → Int} {size : Int} {W : World} {p : Option Addr} (h : IsM f size W p) {X : Nat} (h22 : W.cell? ⟨X, 22, none⟩ = none) (i : Nat) (u : Value) : IsM f size (W.setCell ⟨X, i, none⟩ u) p := ⟨h.lo, h.ctx, h.tr.set h22 u⟩
theorem IsM.two {f : Int → Int} {size : Int} {W : World} {p : Option Addr} (h : IsM f size W p) {X : Nat} {x y : Value} (hb : Bx X [x, y] W) (u v : Value) : IsM f size ((W.setCell ⟨X, 0, none⟩ u).setCell ⟨X, 1, none⟩ v) p :=
  (h.set hb.c22 0 u).set (hb.put (i := 0) (by simp) (by decide) u).c22 1 v
set_option maxRecDepth 100000 in
set_option maxHeartbeats 4000000 in
theorem Apply_any {f : Int → Int} {size : Int} {W : World} {p : Option Addr} {v : Value} {l : List Ch} (h : IsM f size W p) (hl : IsCs W v l) (hn : l.length ≤ 100000) :
    Calls Try.prog 20 #[.agg #[.pointer p, .int .i64 size], v] W fun e w' => ∃ q s e2, e = .returned (.tuple #[.agg #[.pointer q, .int .i64 s], .int .i64 e2]) ∧ Hid (ApP size (apF size f l) q s e2 w') ∧ Below W.heap.size W w' := by
  have HCS := Lib.hid hl
  obtain ⟨ao, c, rfl, -⟩ := hl
  obtain ⟨n, hnn⟩ : ∃ n, n = l.length := ⟨_, rfl⟩
  have HN := Lib.hid hnn
  rw [← hnn] at hn HCS ⊢
  obtain ⟨b, rfl⟩ := h.some
  obtain ⟨w0, HW⟩ : ∃ w0, w0 = (W.alloc (.cells #[.pointer (some ⟨b, 0, none⟩), .int .i64 size] 27)).alloc (.cells #[.pointer none, .int .i64 0] 27) := ⟨_, rfl⟩
  have hb : Below W.heap.size W w0 := by rw [HW]; exact (alloc_below _ _).alloc (by simp) _
  have n1 : Bx W.heap.size [.pointer (some ⟨b, 0, none⟩), .int .i64 size] w0 := by rw [HW]; exact (Bx.new W [.pointer (some ⟨b, 0, none⟩), .int .i64 size] 27 (by simp)).next (alloc_below _ _)
  have n2 : Bx (W.heap.size + 1) [.pointer none, .int .i64 0] w0 := by
    have := Bx.new (W.alloc (.cells #[.pointer (some ⟨b, 0, none⟩), .int .i64 size] 27)) [.pointer none, .int .i64 0] 27 (by simp)
    rw [World.size_alloc, ← HW] at this
    exact this
  have HUS := Lib.hid (fun W' => isUsable_any b size W')
  have H1 := Lib.hid n1; have H2 := Lib.hid n2; have HB := Lib.hid hb; have HW' := Lib.hid HW; have HI := Lib.hid (h.below hb)
  obtain ⟨m0, m1, -, -⟩ := n1.c2
  clear hnn hb n1 n2 HW h
  go_enter Try.func20, Try.ntmps20
  go_upto_region 1 with fail
  rw [← HW'.out]
  go_wp2_with fail
  refine (HUS.out _).mono ?_
  rintro e w1 ⟨rfl, hb⟩
  have G1 := Lib.hid (H1.out.next hb); have G2 := Lib.hid (H2.out.next hb); have HB1 := Lib.hid (HB.out.trans (hb.mono HB.out.size)); have HI1 := Lib.hid (HI.out.below hb)
  clear hb m0 m1 H1 H2 HB HI HW'
  go_wp2_with fail
  go_loopg [16] n (fun k i wr => ∃ (j : Nat) (q : Option Addr) (g : Int → Int), Hid (k + j = n) ∧ i = .int .i64 j ∧ Hid (apF size f l = apF size g (l.drop j)) ∧ Hid (IsM g size wr q) ∧ Hid (Bx W.heap.size [.pointer q, .int .i64 size] wr) ∧ Hid (Bx (W.heap.size + 1) [.pointer none, .int .i64 0] wr) ∧ Hid (Below W.heap.size W wr))
  case atStart => exact ⟨0, some ⟨b, 0, none⟩, f, by show _ = _; omega, rfl, rfl, HI1, G1, G2, HB1⟩
  case round =>
    obtain ⟨j, q, g, HK, rfl, HAP, HI', F1, F2, HBr⟩ := hrel
    clear HI1 G1 G2 HB1
    have hjn : j ≤ n := by have := HK.out; omega
    by_cases hlt : j < n
    · have hlt2 : (j : Int) < n := by omega
      have hjl : j < l.length := by have := HN.out; omega
      obtain ⟨B, o, rfl, g0, g1, g2, g3⟩ := (HCS.out.below HBr.out).at' hjl
      have HDR : Hid (l.drop j = l[j] :: l.drop (j + 1)) := List.drop_eq_getElem_cons hjl
      generalize l[j] = a at *
      obtain ⟨alo, ahi, afr, att⟩ := a
      simp only at g0 g1 g2 g3
      obtain ⟨w2, HW2⟩ : ∃ w2, w2 = wr.alloc (.cells #[.int .i64 alo, .int .i64 ahi, .int .i64 afr, .int .i64 att] 59) := ⟨_, rfl⟩
      have b2 : Below wr.heap.size wr w2 := by rw [HW2]; exact alloc_below _ _
      have n3 : Bx wr.heap.size [.int .i64 alo, .int .i64 ahi, .int .i64 afr, .int .i64 att] w2 := by rw [HW2]; exact Bx.new wr [.int .i64 alo, .int .i64 ahi, .int .i64 afr, .int .i64 att] 59 (by simp)
      have HCH := Lib.hid (change_any (HI'.out.below b2) alo ahi afr att)
      have K1 := Lib.hid (F1.out.next b2); have K2 := Lib.hid (F2.out.next b2)
      have HB2 := Lib.hid (HBr.out.trans (b2.mono HBr.out.size))
      have c0 := (n3.c 0 _ rfl).1; have c1 := (n3.c 1 _ rfl).1; have c2 := (n3.c 2 _ rfl).1; have c3 := (n3.c 3 _ rfl).1
      have HW2' := Lib.hid HW2
      clear HW2 n3
      go_upto_region 6 with fail
      rw [← HW2'.out]
      clear g0 g1 g2 g3
      obtain ⟨m0, m1, -, -⟩ := K1.out.c2
      go_wp2_with fail
      refine HCH.out.mono ?_
      rintro e w3 ⟨q2, s2, e2, rfl, HU, hb⟩
      obtain ⟨w4, HW4⟩ : ∃ w4, w4 = w3.alloc (.cells #[.pointer q2, .int .i64 s2] 27) := ⟨_, rfl⟩
      have b4 : Below w3.heap.size w3 w4 := by rw [HW4]; exact alloc_below _ _
      have n4 : Bx w3.heap.size [.pointer q2, .int .i64 s2] w4 := by rw [HW4]; exact Bx.new w3 [.pointer q2, .int .i64 s2] 27 (by simp)
      have b34 := hb.trans (b4.mono hb.size)
      have L1 := Lib.hid (K1.out.next b34); have L2 := Lib.hid (K2.out.next b34); have L4 := Lib.hid n4
      have HB4 := Lib.hid (HB2.out.trans (b34.mono HB2.out.size))
      have HHU := Lib.hid (upd_chK (HU.out.below b4))
      have HCK := Lib.hid HHU.out.1
      have HSZ : Hid (wr.heap.size ≤ w3.heap.size) := Nat.le_trans b2.size hb.size
      have HW4' := Lib.hid HW4
      clear HW4 b4 n4 b34 hb m0 m1 c0 c1 c2 c3 K1 K2 HB2 b2
      go_upto_region 7 with fail
      rw [← HW4'.out]
      clear HW4' HW2'
      rcases HHU.out.2 with ⟨h1, rfl, rfl⟩ | ⟨rfl, rfl, h3⟩
      · have HF : Hid (ApP size (apF size f l) none 0 e2 w4) := by
          show ApP _ (apF _ _ _) _ _ _ _
          rw [HAP.out, HDR.out, apF_err (by rw [← HCK.out]; exact h1)]
          exact ⟨HCK.out, .inl ⟨h1, rfl, rfl⟩⟩
        have hne : (e2 == 0) = false := beq_eq_false_iff_ne.2 h1
        obtain ⟨x0, x1, x2, x3⟩ := L2.out.c2
        obtain ⟨u0, u1, -, -⟩ := (L2.out.two (.pointer none) (.int .i64 0)).c2
        clear h1
        go_wp2_with fail
        refine bodyPost_ret (v := .tuple #[.agg #[.pointer none, .int .i64 0], .int .i64 e2]) (by simp [results, Try.results20, go_sem, u0, u1]) rfl ?_
        obtain ⟨f1, f2⟩ := HF.out
        have hF : ∀ W', ApP size (apF size f l) none 0 e2 W' := fun W' => ⟨f1, by rcases f2 with f2 | ⟨_, f3, f4⟩; exact .inl f2; exact absurd f4.lo (by omega)⟩
        first
        | exact ⟨none, 0, e2, rfl, hF _, HB4.out⟩
        | exact ⟨none, 0, e2, rfl, hF _, below_put HB4.out (by omega) _ _⟩
      · have HA2 : Hid (apF s2 f l = apF s2 (put g alo ahi att) (l.drop (j + 1))) := by
          show _ = _
          rw [HAP.out, HDR.out, apF_ok HCK.out.symm]
        have HI2 := Lib.hid h3
        obtain ⟨p0, p1, -, -⟩ := L4.out.c2
        obtain ⟨m0, m1, m2, m3⟩ := L1.out.c2
        have hlt4 : W.heap.size + 1 < w3.heap.size := Nat.lt_of_lt_of_le F2.out.lt HSZ.out
        clear h3
        go_wp2_with fail
        go_roundg (n - (j + 1))
        case measure => have := HK.out; omega
        case rel => exact ⟨j + 1, q2, _, by show _ = _; omega, by go_num, HA2, HI2.out.two L1.out _ _, L1.out.two _ _, (L2.out.other (by omega) _).other (by omega) _, below_put HB4.out (Nat.le_refl _) _ _⟩
    · have hlt3 : ¬ (j : Int) < n := by omega
      have hdr : l.drop j = [] := List.drop_eq_nil_of_le (by have := HN.out; omega)
      have HF : Hid (apF size f l = (0, g)) := by
        show _ = _
        rw [HAP.out, hdr, apF_nil]
      clear hdr
      obtain ⟨m0, m1, -, -⟩ := F1.out.c2
      obtain ⟨x0, x1, x2, x3⟩ := F2.out.c2
      obtain ⟨u0, u1, -, -⟩ := (F2.out.two (.pointer q) (.int .i64 size)).c2
      have HI9 := Lib.hid (HI'.out.two F2.out (.pointer q) (.int .i64 size))
      go_wp2_with fail
      refine bodyPost_ret (v := .tuple #[.agg #[.pointer q, .int .i64 size], .int .i64 0]) (by simp [results, Try.results20, go_sem, u0, u1]) rfl ?_
      exact ⟨q, size, 0, rfl, by rw [HF.out]; exact ⟨rfl, .inr ⟨rfl, rfl, HI9.out⟩⟩, below_put HBr.out (by omega) _ _⟩
end Go.Proofs.Ytjbenhmpeceaeab
namespace Go.Proofs.Ytjbenhmpeceaeab
open Go Go.RowKit Gs

/-- a run of a list at a slice -/
theorem IsRs.at' {base : Nat} {W : World} {a : Option Addr} {n c : Nat} {L : List R} (h : IsRs base W (.slice a n c) L) {j : Nat} (hj : j < L.length) :
    ∃ G, a = some ⟨G, 0, none⟩ ∧ W.cell? ⟨G, j * 3, none⟩ = some (.int .i64 L[j].lo) ∧ W.cell? ⟨G, j * 3 + 1, none⟩ = some (.int .i64 L[j].hi) ∧ W.cell? ⟨G, j * 3 + 2, none⟩ = some (.int .i64 L[j].tag) := by
  obtain ⟨a', c', hv, hcs⟩ := h
  injection hv with hv1 hv2 hv3
  subst hv1
  obtain ⟨G, e1, -, hcs2⟩ := hcs (by omega)
  exact ⟨G, e1, hcs2 j hj⟩
theorem fits_at {f : Int → Int} : ∀ {l : List R} {a b : Int}, Fits f a l b → ∀ j (h : j < l.length), a ≤ l[j].lo ∧ l[j].lo < l[j].hi ∧ l[j].hi ≤ b ∧ ∀ p, l[j].lo ≤ p → p < l[j].hi → f p = l[j].tag
  | r :: l, a, b, h, 0, _ => by
    have hle := h.2.2.2.le
    exact ⟨by have := h.1; show a ≤ r.lo; omega, h.2.1, hle, h.2.2.1⟩
  | r :: l, a, b, h, j + 1, hj => by
    have := fits_at h.2.2.2 j (by simpa using hj)
    have h1 := h.1; have h2 := h.2.1
    exact ⟨by show a ≤ (l[j]'(by simpa using hj)).lo; omega, this.2⟩
theorem fits_idx {f : Int → Int} {x : Int} : ∀ {l : List R} {a b : Int}, Fits f a l b → a ≤ x → x < b → ∃ j, ∃ h : j < l.length, l[j].lo ≤ x ∧ x < l[j].hi
  | [], a, b, h, h1, h2 => by
    have h : a = b := h
    omega
  | r :: l, a, b, h, h1, h2 => by
    by_cases hx : x < r.hi
    · exact ⟨0, by simp, by have := h.1; show r.lo ≤ x; omega, hx⟩
    · obtain ⟨j, hj, h3⟩ := fits_idx h.2.2.2 (by omega) h2
      exact ⟨j + 1, by simpa using hj, h3⟩
def getE (size x : Int) : Int := if 0 ≤ x ∧ x < size then 0 else 3
def getT (f : Int → Int) (size x : Int) : Int := if 0 ≤ x ∧ x < size then f x else 0
end Go.Proofs.Ytjbenhmpeceaeab
namespace Go.Proofs.Ytjbenhmpeceaeab
open Go Go.RowKit Gs

/-- where the runs of a range end, of those that end at m -/
def clipE (lo hi m : Int) : Int := max lo (min hi m)
theorem clip_step {f : Int → Int} {lo hi m : Int} {lst : List R} {x : R} (h : Gs.Can f lo lst (clipE lo hi m)) (h1 : x.lo = m) (h2 : x.lo < x.hi) (h3 : ∀ p, x.lo ≤ p → p < x.hi → f p = x.tag) (hle : lo ≤ hi) :
    Gs.Can f lo (joinL lst ⟨max lo x.lo, min hi x.hi, x.tag⟩) (clipE lo hi x.hi) := by
  by_cases hx : min hi x.hi ≤ max lo x.lo
  · have e : joinL lst ⟨max lo x.lo, min hi x.hi, x.tag⟩ = lst := by unfold joinL; rw [if_pos hx]
    rw [e]
    have e2 : clipE lo hi x.hi = clipE lo hi m := by unfold clipE; omega
    rw [e2]
    exact h
  · have := join_can (x := ⟨max lo x.lo, min hi x.hi, x.tag⟩) h (by show max lo x.lo = clipE lo hi m; unfold clipE; omega) (by show clipE lo hi m ≤ min hi x.hi; unfold clipE; omega) (fun p p1 p2 => by
      have p1 : max lo x.lo ≤ p := p1
      have p2 : p < min hi x.hi := p2
      exact h3 p (by omega) (by omega))
    have e2 : clipE lo hi x.hi = min hi x.hi := by unfold clipE; omega
    rw [e2]
    exact this
/-- a list has room for what it holds -/
def Roomed (v : Value) (n : Nat) : Prop := ∃ a c, v = .slice a n c ∧ n ≤ c
theorem Roomed.of_row {W : World} {base : Nat} {e : TypeId} {size : Nat} {v : Value} {n : Nat} {xs : List Value} (h : W.ownsRow base e size v n xs) : Roomed v n := by
  rcases h.2 with ⟨rfl, rfl⟩ | ⟨g, cap, cur, rfl, _, _, h, _⟩
  · exact ⟨none, 0, rfl, Nat.le_refl _⟩
  · exact ⟨_, cap, rfl, h⟩
end Go.Proofs.Ytjbenhmpeceaeab
namespace Go.Proofs.Ytjbenhmpeceaeab
open Go Go.RowKit Gs

theorem cb_in {f : Int → Int} {l m : List R} {r : R} {size x k : Int} (h : Gs.Can f 0 (l ++ r :: m) size) (h1 : r.lo ≤ x) (h2 : x ≤ r.hi) : cb x k (l ++ r :: m) = cnt k l + (if r.tag = k then x - r.lo else 0) := by
  obtain ⟨q1, q2, q3, q4, _, _⟩ := h.mid
  by_cases e : x = r.lo
  · rw [cb_left h (by omega), cb_high x k q1.1 (by omega)]
    split <;> omega
  · rw [cb_right h (by omega), cb_low x k q2.1 (by omega)]
    split <;> omega
theorem FindOf.same {f : Int → Int} {size tag k : Int} {L : List R} {x y : Int} {b c : Bool} (hL : Gs.Can f 0 L size) (h1 : FindOf f size tag k L x b) (h2 : FindOf f size tag k L y c) : x = y ∧ b = c := by
  rcases h1 with ⟨rfl, a1, a2, a3, a4, a5, a6, a7⟩ | ⟨rfl, rfl, a1⟩
  · rcases h2 with ⟨rfl, b1, b2, b3, b4, b5, b6, b7⟩ | ⟨rfl, rfl, b1⟩
    · exact ⟨find_one hL.1 a4 a5 b4 b5 a6 b6 a7 b7, rfl⟩
    · rcases b1 with b1 | b1 | b1
      · rw [a1] at b1; cases b1
      · omega
      · omega
  · rcases h2 with ⟨rfl, b1, b2, b3, b4, b5, b6, b7⟩ | ⟨rfl, rfl, b1⟩
    · rcases a1 with a1 | a1 | a1
      · rw [b1] at a1; cases a1
      · omega
      · omega
    · exact ⟨rfl, rfl⟩
end Go.Proofs.Ytjbenhmpeceaeab
namespace Go.Proofs.Ytjbenhmpeceaeab
open Go Go.RowKit Gs

theorem cnt_full {g : Int → Int} {k : Int} : ∀ {l : List R} {a b : Int}, Fits g a l b → (cnt k l = b - a ↔ ∀ x, a ≤ x → x < b → g x = k)
  | [], a, b, h => by
    have h : a = b := h
    subst h
    exact ⟨fun _ x h1 h2 => absurd h2 (by omega), fun _ => by show 0 = _; omega⟩
  | r :: l, a, b, h => by
    have ih := cnt_full (k := k) h.2.2.2
    have hbd := cb_bd 0 k h.2.2.2
    obtain ⟨h1, h2, h3, h4⟩ := h
    have hle := h4.le
    show (if r.tag = k then r.hi - r.lo else 0) + cnt k l = _ ↔ _
    constructor
    · intro he x x1 x2
      by_cases ht : r.tag = k
      · rw [if_pos ht] at he
        by_cases hx : x < r.hi
        · rw [h3 x (by omega) hx, ht]
        · exact ih.1 (by omega) x (by omega) x2
      · rw [if_neg ht] at he
        omega
    · intro hall
      have ht : r.tag = k := by rw [← h3 a (by omega) (by omega)]; exact hall a (Int.le_refl _) (by omega)
      rw [if_pos ht, ih.2 fun x x1 x2 => hall x (by omega) x2]
      omega
theorem gS_all {g : Int → Int} {lo hi fr tt : Int} (h : ∀ x, lo ≤ x → x < hi → g x = fr) : gS g lo hi fr tt false = put g lo hi tt := by
  funext x
  show (if lo ≤ x ∧ x < hi ∧ (false = true ∨ g x = fr) then tt else g x) = if lo ≤ x ∧ x < hi then tt else g x
  by_cases hx : lo ≤ x ∧ x < hi
  · rw [if_pos hx, if_pos ⟨hx.1, hx.2, .inr (h x hx.1 hx.2)⟩]
  · rw [if_neg hx, if_neg fun h => hx ⟨h.1, h.2.1⟩]
/-- what the document's Apply answers -/
def RApP (size : Int) (r : Int × (Int → Int)) (s : Int) (v : Value) (e : Int) (W : World) : Prop :=
  e = r.1 ∧ ((e ≠ 0 ∧ s = 0 ∧ v = .slice none 0 0) ∨ (e = 0 ∧ s = size ∧ ∃ L, Gs.Can r.2 0 L size ∧ IsRs 0 W v L))
/-- what one change makes of the document's map -/
theorem ru_chK {f : Int → Int} {size : Int} {c : Ch} {L : List R} {B : Nat} {s : Int} {v : Value} {n e : Int} {W : World} (h0 : chE size f c = 0) (hg : gS f c.lo c.hi c.fr c.tt false = put f c.lo c.hi c.tt) (h : RU f size c.lo c.hi c.fr c.tt false L B s v n e W) :
    e = chK size f c ∧ ((e ≠ 0 ∧ s = 0 ∧ v = .slice none 0 0) ∨ (e = 0 ∧ s = size ∧ ∃ L, Gs.Can (put f c.lo c.hi c.tt) 0 L size ∧ IsRs 0 W v L ∧ L.length ≤ 4096)) := by
  obtain ⟨L', hL, h⟩ := h
  rw [hg] at hL
  rcases h with ⟨h1, rfl, rfl, rfl, rfl⟩ | ⟨h1, rfl, rfl, h2, _⟩
  · refine ⟨?_, .inl ⟨by decide, rfl, rfl⟩⟩
    unfold chK
    rw [if_neg (fun h => h h0), if_pos ⟨L', hL, h1⟩]
  · refine ⟨?_, .inr ⟨rfl, rfl, L', hL, h2.mono (Nat.zero_le _), h1⟩⟩
    unfold chK
    rw [if_neg (fun h => h h0), if_neg]
    rintro ⟨K, hK, hk⟩
    have := hK.same hL
    subst this
    omega
end Go.Proofs.Ytjbenhmpeceaeab
namespace Go.Proofs.Ytjbenhmpeceaeab
open Go Go.ChangeShapes Go.WideShapes Go.ChangeAt Go.RowKit Go.Deep Gs

theorem addz (b o k : Nat) : (⟨b, o, none⟩ : Addr).add k = ⟨b, o + k, none⟩ := by
  unfold Addr.add
  split <;> simp_all
theorem own : ownKnob Try.prog.godebug = none := by kernel_rfl
theorem laidOut' : laidOutB Try.prog = true := by kernel_rfl
theorem one_int : Try.prog.cellsOf 3 = 1 := by kernel_rfl
theorem one_bool : Try.prog.cellsOf 4 = 1 := by kernel_rfl
theorem five_act : Try.prog.cellsOf 24 = 5 := by kernel_rfl
theorem six_query : Try.prog.cellsOf 49 = 6 := by kernel_rfl
section
variable {H : Type} {enc : TypeId × Value → H} {W : World} {base : Nat} {sp : Nat → Bool} {held : Bool}
theorem fld_int {cs : List Value} {n i : Nat} {xs : List (DataW H × List MemPlace)} (hi : i < xs.length) (h : DataW.trod enc Try.prog W base sp held n 3 ((cs.drop i).take (Try.prog.cellsOf 3)) = xs[i]?) : ∃ k, cs[i]? = some (.int .i64 k) := by
  rw [one_int, List.getElem?_eq_getElem hi] at h
  obtain ⟨k, e, _⟩ := DataW.trod_int Try.underlying3 h
  refine ⟨k, ?_⟩
  have h1 : ((cs.drop i).take 1)[0]? = some (.int .i64 k) := by rw [e]; rfl
  simpa [List.getElem?_take, List.getElem?_drop] using h1
theorem fld_bool {cs : List Value} {n i : Nat} {xs : List (DataW H × List MemPlace)} (hi : i < xs.length) (h : DataW.trod enc Try.prog W base sp held n 4 ((cs.drop i).take (Try.prog.cellsOf 4)) = xs[i]?) : ∃ k, cs[i]? = some (.bool k) := by
  rw [one_bool, List.getElem?_eq_getElem hi] at h
  obtain ⟨k, e, _⟩ := DataW.trod_bool Try.underlying4 h
  refine ⟨k, ?_⟩
  have h1 : ((cs.drop i).take 1)[0]? = some (.bool k) := by rw [e]; rfl
  simpa [List.getElem?_take, List.getElem?_drop] using h1
/-- the cells of an update -/
theorem act_cells {fuel : Nat} {cs : List Value} {x : DataW H × List MemPlace} (h : DataW.trod enc Try.prog W base sp held fuel 24 cs = some x) :
    ∃ a : Act, cs[0]? = some (.bool a.sw) ∧ cs[1]? = some (.int .i64 a.lo) ∧ cs[2]? = some (.int .i64 a.hi) ∧ cs[3]? = some (.int .i64 a.fr) ∧ cs[4]? = some (.int .i64 a.tt) ∧ cs.length = 5 := by
  obtain ⟨xs, n, _, _, hl, hx, hg⟩ := DataW.trod_struct Try.underlying24 h
  have hx : xs.length = 5 := hx
  obtain ⟨b0, e0⟩ := fld_bool (i := 0) (by omega) (hg 0 _ rfl)
  obtain ⟨b1, e1⟩ := fld_int (i := 1) (by omega) (hg 1 _ rfl)
  obtain ⟨b2, e2⟩ := fld_int (i := 2) (by omega) (hg 2 _ rfl)
  obtain ⟨b3, e3⟩ := fld_int (i := 3) (by omega) (hg 3 _ rfl)
  obtain ⟨b4, e4⟩ := fld_int (i := 4) (by omega) (hg 4 _ rfl)
  exact ⟨⟨b0, b1, b2, b3, b4⟩, e0, e1, e2, e3, e4, by rw [hl, five_act]⟩
/-- a list of updates -/
theorem acts_of {v : Value} {d : DataW H} {p : List MemPlace} (h : DataW.Trod enc Try.prog W 0 (fun _ => true) true 22 v d p) (hv : ∃ a n c, v = .slice a n c) : ∃ l, IsAs W v l := by
  obtain ⟨a0, len0, cap0, rfl⟩ := hv
  obtain ⟨fuel, hf⟩ := h
  rcases open_slice Try.underlying22 hf with ⟨hcs, _⟩ | ⟨a, len, cap, m, n, D, Pl, hcs, _, hl, _, hm, _, hi⟩
  · simp [Value.cells] at hcs
    obtain ⟨rfl, rfl, rfl⟩ := hcs
    exact ⟨[], none, 0, rfl, fun h => absurd h (by simp)⟩
  · simp [Value.cells] at hcs
    obtain ⟨rfl, rfl, rfl⟩ := hcs
    simp only [if_true] at hm
    have hex : ∀ i, i < len0 → ∃ x : Act, ∀ j, j < 5 → W.cell? ((a.add (i * 5)).add j) = [Value.bool x.sw, .int .i64 x.lo, .int .i64 x.hi, .int .i64 x.fr, .int .i64 x.tt][j]? := fun i hlt => by
      obtain ⟨cs', hc, ht⟩ := hi i (by omega)
      rw [five_act] at hc
      obtain ⟨_, hln, hat⟩ := World.cells?_some hc
      obtain ⟨x, e0, e1, e2, e3, e4, _⟩ := act_cells ht
      refine ⟨x, fun j hj => ?_⟩
      rw [hat j hj]
      have : j = 0 ∨ j = 1 ∨ j = 2 ∨ j = 3 ∨ j = 4 := by omega
      rcases this with rfl | rfl | rfl | rfl | rfl
      · exact e0
      · exact e1
      · exact e2
      · exact e3
      · exact e4
    obtain ⟨g, hg⟩ : ∃ g : Nat → Act, ∀ i, i < len0 → ∀ j, j < 5 → W.cell? ((a.add (i * 5)).add j) = [Value.bool (g i).sw, .int .i64 (g i).lo, .int .i64 (g i).hi, .int .i64 (g i).fr, .int .i64 (g i).tt][j]? :=
      ⟨fun i => if h : i < len0 then (hex i h).choose else ⟨false, 0, 0, 0, 0⟩, fun i h => by simp only [dif_pos h]; exact (hex i h).choose_spec⟩
    refine ⟨(List.range len0).map g, some a, cap0, by simp, fun hp => ?_⟩
    have hp : 0 < len0 := by simpa using hp
    obtain ⟨b, o, s⟩ := a
    have h00 := hg 0 hp 0 (by decide)
    obtain rfl : s = none := by
      cases s with
      | none => rfl
      | some _ =>
        exfalso
        unfold World.cell? Addr.add at h00
        simp only [if_true] at h00
        split at h00 <;> simp at h00
    refine ⟨b, o, rfl, ?_, fun j hj => ?_⟩
    · have h1 : W.cell? ⟨b, o, none⟩ = some (.bool (g 0).sw) := by simpa [Addr.add] using h00
      exact World.block_lt_of_cell? _ _ h1
    · have hj : j < len0 := by simpa using hj
      have k : ∀ i, i < 5 → W.cell? ⟨b, o + j * 5 + i, none⟩ = [Value.bool (g j).sw, .int .i64 (g j).lo, .int .i64 (g j).hi, .int .i64 (g j).fr, .int .i64 (g j).tt][i]? := fun i hi => by
        have := hg j hj i hi
        rwa [addz, addz] at this
      have e : ((List.range len0).map g)[j]'(by simpa using hj) = g j := by simp
      have e' : ∀ (l : List Act) (h1 h2 : j < l.length), l[j]'h1 = l[j]'h2 := fun _ _ _ => rfl
      refine ⟨?_, ?_, ?_, ?_, ?_⟩
      · rw [e]; exact k 0 (by decide)
      · rw [e]; exact k 1 (by decide)
      · rw [e]; exact k 2 (by decide)
      · rw [e]; exact k 3 (by decide)
      · rw [e]; exact k 4 (by decide)
set_option maxRecDepth 100000 in
/-- an update, by value -/
theorem act_of {v : Value} {d : DataW H} {p : List MemPlace} {r : Reach} {b : Nat} (hv : Value.okWide Try.prog W r b 24 v) (h : DataW.Trod enc Try.prog W base sp held 24 v d p) : ∃ a : Act, v = .agg #[.bool a.sw, .int .i64 a.lo, .int .i64 a.hi, .int .i64 a.fr, .int .i64 a.tt] := by
  obtain ⟨cs, rfl, _⟩ := okWide_struct Try.underlying24 hv
  obtain ⟨fuel, hf⟩ := h
  obtain ⟨x, e0, e1, e2, e3, e4, el⟩ := act_cells hf
  refine ⟨x, ?_⟩
  obtain ⟨l⟩ := cs
  simp only [Value.cells] at e0 e1 e2 e3 e4 el
  match l, el with
  | [c0, c1, c2, c3, c4], _ =>
    simp at e0 e1 e2 e3 e4
    subst e0; subst e1; subst e2; subst e3; subst e4
    rfl
set_option maxRecDepth 100000 in
/-- a query, by value -/
theorem query_of {v : Value} {d : DataW H} {p : List MemPlace} {r : Reach} {b : Nat} (hv : Value.okWide Try.prog W r b 49 v) (h : DataW.Trod enc Try.prog W base sp held 49 v d p) : ∃ q0 q1 q2 q3 q4 q5, v = .agg #[.int .i64 q0, .int .i64 q1, .int .i64 q2, .int .i64 q3, .int .i64 q4, .int .i64 q5] := by
  obtain ⟨cs, rfl, _⟩ := okWide_struct Try.underlying49 hv
  obtain ⟨fuel, hf⟩ := h
  obtain ⟨xs, n, _, _, hl, hx, hg⟩ := DataW.trod_struct Try.underlying49 hf
  have hx : xs.length = 6 := hx
  obtain ⟨b0, e0⟩ := fld_int (i := 0) (by omega) (hg 0 _ rfl)
  obtain ⟨b1, e1⟩ := fld_int (i := 1) (by omega) (hg 1 _ rfl)
  obtain ⟨b2, e2⟩ := fld_int (i := 2) (by omega) (hg 2 _ rfl)
  obtain ⟨b3, e3⟩ := fld_int (i := 3) (by omega) (hg 3 _ rfl)
  obtain ⟨b4, e4⟩ := fld_int (i := 4) (by omega) (hg 4 _ rfl)
  obtain ⟨b5, e5⟩ := fld_int (i := 5) (by omega) (hg 5 _ rfl)
  refine ⟨b0, b1, b2, b3, b4, b5, ?_⟩
  rw [six_query] at hl
  obtain ⟨l⟩ := cs
  simp only [Value.cells] at e0 e1 e2 e3 e4 e5 hl
  match l, hl with
  | [c0, c1, c2, c3, c4, c5], _ =>
    simp at e0 e1 e2 e3 e4 e5
    subst e0; subst e1; subst e2; subst e3; subst e4; subst e5
    rfl
end
end Go.Proofs.Ytjbenhmpeceaeab
