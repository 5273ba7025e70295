/- The contracts of first, last and at. -/
import Derived.Test.YtahgfggcpmnnaaaYg
import Derived.Deep.LoopGhost
namespace Go.Proofs.Ytahgfggcpmnnaaa
open Go Go.RowKit Gs

theorem isT_nil {W : World} {u : Option Addr} (h : IsT W .nil (.pointer u)) : u = none := by
  have h1 : Value.pointer u = .pointer none := h
  injection h1
/-- the box of a result that is a run -/
theorem zbox (W : World) (Ty : TypeId) : ∃ W0, W0 = W.alloc (.cells #[.int .i64 0, .int .i64 0, .int .i64 0] Ty) ∧ Below W.heap.size W W0 ∧
    (W0.cell? ⟨W.heap.size, 0, none⟩ = some (.int .i64 0) ∧ W0.cell? ⟨W.heap.size, 1, none⟩ = some (.int .i64 0) ∧ W0.cell? ⟨W.heap.size, 2, none⟩ = some (.int .i64 0) ∧ W0.frozen? ⟨W.heap.size, 0, none⟩ = false ∧ W0.frozen? ⟨W.heap.size, 1, none⟩ = false ∧ W0.frozen? ⟨W.heap.size, 2, none⟩ = false) ∧
    ∀ x y z, (((W0.setCell ⟨W.heap.size, 0, none⟩ x).setCell ⟨W.heap.size, 1, none⟩ y).setCell ⟨W.heap.size, 2, none⟩ z).cell? ⟨W.heap.size, 0, none⟩ = some x ∧ (((W0.setCell ⟨W.heap.size, 0, none⟩ x).setCell ⟨W.heap.size, 1, none⟩ y).setCell ⟨W.heap.size, 2, none⟩ z).cell? ⟨W.heap.size, 1, none⟩ = some y ∧ (((W0.setCell ⟨W.heap.size, 0, none⟩ x).setCell ⟨W.heap.size, 1, none⟩ y).setCell ⟨W.heap.size, 2, none⟩ z).cell? ⟨W.heap.size, 2, none⟩ = some z ∧ Below W.heap.size W (((W0.setCell ⟨W.heap.size, 0, none⟩ x).setCell ⟨W.heap.size, 1, none⟩ y).setCell ⟨W.heap.size, 2, none⟩ z) := by
  have hb : Below W.heap.size W (W.alloc (.cells #[.int .i64 0, .int .i64 0, .int .i64 0] Ty)) := (Below.refl _ _).alloc (Nat.le_refl _) _
  have c0 : (W.alloc (.cells #[.int .i64 0, .int .i64 0, .int .i64 0] Ty)).cell? ⟨W.heap.size, 0, none⟩ = some (.int .i64 0) := World.cell?_alloc_at _ _ _ _ rfl
  have c1 : (W.alloc (.cells #[.int .i64 0, .int .i64 0, .int .i64 0] Ty)).cell? ⟨W.heap.size, 1, none⟩ = some (.int .i64 0) := World.cell?_alloc_at _ _ _ _ rfl
  have c2 : (W.alloc (.cells #[.int .i64 0, .int .i64 0, .int .i64 0] Ty)).cell? ⟨W.heap.size, 2, none⟩ = some (.int .i64 0) := World.cell?_alloc_at _ _ _ _ rfl
  refine ⟨_, rfl, hb, ⟨c0, c1, c2, World.frozen?_alloc_at _ _ _ _ rfl, World.frozen?_alloc_at _ _ _ _ rfl, World.frozen?_alloc_at _ _ _ _ rfl⟩, fun x y z => ⟨?_, ?_, ?_, ((hb.setCell (Nat.le_refl _) _).setCell (Nat.le_refl _) _).setCell (Nat.le_refl _) _⟩⟩
  · exact (World.cell?_setCell_other _ _ _ _ (by intro e; cases e)).trans ((World.cell?_setCell_other _ _ _ _ (by intro e; cases e)).trans (World.cell?_setCell_same _ _ _ c0))
  · exact (World.cell?_setCell_other _ _ _ _ (by intro e; cases e)).trans (World.cell?_setCell_same _ _ _ ((World.cell?_setCell_other _ _ _ _ (by intro e; cases e)).trans c1))
  · exact World.cell?_setCell_same _ _ _ ((World.cell?_setCell_other _ _ _ _ (by intro e; cases e)).trans ((World.cell?_setCell_other _ _ _ _ (by intro e; cases e)).trans c2))
theorem last_app (l : List R) {k : List R} (h : k ≠ []) : (l ++ k).getLast? = k.getLast? := by
  rw [List.getLast?_append]
  cases hk : k.getLast? with
  | none => exact absurd (List.getLast?_eq_none_iff.1 hk) h
  | some _ => rfl
theorem T.L_ne (l k : T) (r : R) : (T.node l r k).L ≠ [] := by simp [T.L]
theorem first_any (l k : T) (r : R) (p : Option Addr) (W : World) (h : IsT W (.node l r k) (.pointer p)) : Calls Try.prog 77 #[.pointer p] W fun e w' => ∃ lo hi tag, e = .returned (.agg #[.int .i64 lo, .int .i64 hi, .int .i64 tag]) ∧ Hid ((T.node l r k).L.head? = some ⟨lo, hi, tag⟩) ∧ Below W.heap.size W w' := by
  have HT := Lib.hid h
  clear h
  go_enter Try.func77, Try.ntmps77
  go_wp2_with fail
  obtain ⟨W0, HW, hb0, hg, hput⟩ := zbox W 64
  rw [← HW]
  have HT0 := Lib.hid (IsT.below hb0 HT.out)
  obtain ⟨g0, g1, g2, g3, g4, g5⟩ := hg
  have HPUT := Lib.hid hput
  have HW' := Lib.hid HW
  have HB0 := Lib.hid hb0
  clear HW hput hb0 HT
  go_loopg [0] (T.node l r k).sz (fun n x wr => ∃ (c d : T) (lo hi tag : Int) (q : Option Addr), x = .pointer q ∧ Hid (IsT wr (.node c ⟨lo, hi, tag⟩ d) (.pointer q)) ∧ Hid ((T.node c ⟨lo, hi, tag⟩ d).L.head? = (T.node l r k).L.head?) ∧ Hid (n = (T.node c ⟨lo, hi, tag⟩ d).sz) ∧ W0 = wr)
  case atStart => exact ⟨l, k, r.lo, r.hi, r.tag, p, rfl, HT0, rfl, rfl, rfl⟩
  case round =>
    obtain ⟨c, d, lo, hi, tag, q, rfl, HS, HE, HN, rfl⟩ := hrel
    obtain ⟨b, u, v, rfl, hlt, h1, h2, hcs⟩ := HS.out.open
    obtain ⟨d0, d1, d2, d3, d4⟩ := hcs _ (Below.refl _ _)
    clear hcs hlt HT0
    cases c with
    | nil =>
      obtain rfl := isT_nil h1
      have HR : Hid ((T.node l r k).L.head? = some ⟨lo, hi, tag⟩) := by
        show _ = _
        rw [← HE.out]; simp [T.L]
      clear HS HE HN h1 h2
      obtain ⟨t0, t1, t2, hp⟩ := HPUT.out (.int .i64 lo) (.int .i64 hi) (.int .i64 tag)
      have HP := Lib.hid hp
      clear hp
      go_wp2_with fail
      refine bodyPost_ret (v := .agg #[.int .i64 lo, .int .i64 hi, .int .i64 tag]) (by simp [results, Try.results77, go_sem, t0, t1, t2]) rfl ?_
      exact ⟨lo, hi, tag, rfl, HR, HP.out⟩
    | node c1 r1 c2 =>
      have HT1 := Lib.hid h1
      obtain ⟨b1, x1, y1, e1, _⟩ := h1
      injection e1 with e1
      subst e1
      have HE1 : Hid ((T.node c1 ⟨r1.lo, r1.hi, r1.tag⟩ c2).L.head? = (T.node l r k).L.head?) := by
        show _ = _
        rw [← HE.out]; simp [T.L]
      clear HE h2
      go_wp2_with fail
      go_roundg (T.node c1 r1 c2).sz
      case measure => have := HN.out; simp only [T.sz] at this ⊢; omega
      case rel => exact ⟨c1, c2, r1.lo, r1.hi, r1.tag, _, rfl, HT1, HE1, rfl, rfl⟩
theorem last_any (l k : T) (r : R) (p : Option Addr) (W : World) (h : IsT W (.node l r k) (.pointer p)) : Calls Try.prog 76 #[.pointer p] W fun e w' => ∃ lo hi tag, e = .returned (.agg #[.int .i64 lo, .int .i64 hi, .int .i64 tag]) ∧ Hid ((T.node l r k).L.getLast? = some ⟨lo, hi, tag⟩) ∧ Below W.heap.size W w' := by
  have HT := Lib.hid h
  clear h
  go_enter Try.func76, Try.ntmps76
  go_wp2_with fail
  obtain ⟨W0, HW, hb0, hg, hput⟩ := zbox W 64
  rw [← HW]
  have HT0 := Lib.hid (IsT.below hb0 HT.out)
  obtain ⟨g0, g1, g2, g3, g4, g5⟩ := hg
  have HPUT := Lib.hid hput
  have HW' := Lib.hid HW
  have HB0 := Lib.hid hb0
  clear HW hput hb0 HT
  go_loopg [0] (T.node l r k).sz (fun n x wr => ∃ (c d : T) (lo hi tag : Int) (q : Option Addr), x = .pointer q ∧ Hid (IsT wr (.node c ⟨lo, hi, tag⟩ d) (.pointer q)) ∧ Hid ((T.node c ⟨lo, hi, tag⟩ d).L.getLast? = (T.node l r k).L.getLast?) ∧ Hid (n = (T.node c ⟨lo, hi, tag⟩ d).sz) ∧ W0 = wr)
  case atStart => exact ⟨l, k, r.lo, r.hi, r.tag, p, rfl, HT0, rfl, rfl, rfl⟩
  case round =>
    obtain ⟨c, d, lo, hi, tag, q, rfl, HS, HE, HN, rfl⟩ := hrel
    obtain ⟨b, u, v, rfl, hlt, h1, h2, hcs⟩ := HS.out.open
    obtain ⟨d0, d1, d2, d3, d4⟩ := hcs _ (Below.refl _ _)
    clear hcs hlt HT0
    cases d with
    | nil =>
      obtain rfl := isT_nil h2
      have HR : Hid ((T.node l r k).L.getLast? = some ⟨lo, hi, tag⟩) := by
        show _ = _
        rw [← HE.out]; simp [T.L]
      clear HS HE HN h1 h2
      obtain ⟨t0, t1, t2, hp⟩ := HPUT.out (.int .i64 lo) (.int .i64 hi) (.int .i64 tag)
      have HP := Lib.hid hp
      clear hp
      go_wp2_with fail
      refine bodyPost_ret (v := .agg #[.int .i64 lo, .int .i64 hi, .int .i64 tag]) (by simp [results, Try.results76, go_sem, t0, t1, t2]) rfl ?_
      exact ⟨lo, hi, tag, rfl, HR, HP.out⟩
    | node c1 r1 c2 =>
      have HT1 := Lib.hid h2
      obtain ⟨b1, x1, y1, e1, _⟩ := h2
      injection e1 with e1
      subst e1
      have HE1 : Hid ((T.node c1 ⟨r1.lo, r1.hi, r1.tag⟩ c2).L.getLast? = (T.node l r k).L.getLast?) := by
        show _ = _
        rw [← HE.out]
        exact ((last_app c.L (by simp)).trans (last_app [⟨lo, hi, tag⟩] (T.L_ne c1 c2 r1))).symm
      clear HE h1
      go_wp2_with fail
      go_roundg (T.node c1 r1 c2).sz
      case measure => have := HN.out; simp only [T.sz] at this ⊢; omega
      case rel => exact ⟨c1, c2, r1.lo, r1.hi, r1.tag, _, rfl, HT1, HE1, rfl, rfl⟩
/-- the run that holds the piece -/
theorem at_any (f : Int → Int) (a b : Int) (t : T) (p : Option Addr) (W : World) (piece : Int) (h : IsT W t (.pointer p)) (hc : Gs.Can f a t.L b) (h1 : a ≤ piece) (h2 : piece < b) : Calls Try.prog 45 #[.pointer p, .int .i64 piece] W fun e w' => ∃ l lo hi tag k, e = .returned (.agg #[.int .i64 lo, .int .i64 hi, .int .i64 tag]) ∧ Hid (t.L = l ++ ⟨lo, hi, tag⟩ :: k ∧ lo ≤ piece ∧ piece < hi) ∧ Below W.heap.size W w' := by
  have HT := Lib.hid h
  have HC : Hid (∃ l k, t.L = l ++ t.L ++ k ∧ ∃ a' b', Gs.Can f a' t.L b' ∧ a' ≤ piece ∧ piece < b') := ⟨[], [], by simp, a, b, hc, h1, h2⟩
  clear h hc h1 h2
  go_enter Try.func45, Try.ntmps45
  go_wp2_with fail
  obtain ⟨W0, HW, hb0, hg, hput⟩ := zbox W 64
  rw [← HW]
  have HT0 := Lib.hid (IsT.below hb0 HT.out)
  obtain ⟨g0, g1, g2, g3, g4, g5⟩ := hg
  have HPUT := Lib.hid hput
  have HW' := Lib.hid HW
  clear HW hput hb0 HT
  go_loopg [0] t.sz (fun n x wr => ∃ (s : T) (q : Option Addr), x = .pointer q ∧ Hid (IsT wr s (.pointer q)) ∧ Hid (∃ l k, t.L = l ++ s.L ++ k ∧ ∃ a' b', Gs.Can f a' s.L b' ∧ a' ≤ piece ∧ piece < b') ∧ Hid (n = s.sz) ∧ W0 = wr)
  case atStart => exact ⟨t, p, rfl, HT0, HC, rfl, rfl⟩
  case round =>
    obtain ⟨s, q, rfl, HS, HE, HN, rfl⟩ := hrel
    cases s with
    | nil =>
      exfalso
      obtain ⟨l, k, -, a', b', ⟨hc, -⟩, h1, h2⟩ := HE.out
      simp only [T.L, Fits] at hc
      omega
    | node c r d =>
      obtain ⟨lo, hi, tag⟩ := r
      obtain ⟨b', u, v, rfl, hlt, h1, h2, hcs⟩ := HS.out.open
      obtain ⟨d0, d1, d2, d3, d4⟩ := hcs _ (Below.refl _ _)
      have HU := Lib.hid h1
      have HV := Lib.hid h2
      clear hcs hlt HT0 HC HS h1 h2
      by_cases g1 : piece < lo
      · have HE1 : Hid (∃ l k, t.L = l ++ c.L ++ k ∧ ∃ a' b', Gs.Can f a' c.L b' ∧ a' ≤ piece ∧ piece < b') := by
          obtain ⟨l, k, e, a', b', hc, i1, i2⟩ := HE.out
          have hm := hc.mid
          exact ⟨l, ⟨lo, hi, tag⟩ :: (d.L ++ k), by rw [e]; simp [T.L], a', lo, hm.1, i1, g1⟩
        clear HE
        go_wp2_with fail
        go_roundg c.sz
        case measure => have := HN.out; simp only [T.sz] at this ⊢; omega
        case rel => exact ⟨c, u, rfl, HU, HE1, rfl, rfl⟩
      · by_cases g2 : hi ≤ piece
        · have HE1 : Hid (∃ l k, t.L = l ++ d.L ++ k ∧ ∃ a' b', Gs.Can f a' d.L b' ∧ a' ≤ piece ∧ piece < b') := by
            obtain ⟨l, k, e, a', b', hc, i1, i2⟩ := HE.out
            have hm := hc.mid
            exact ⟨l ++ c.L ++ [⟨lo, hi, tag⟩], k, by rw [e]; simp [T.L], hi, b', hm.2.1, g2, i2⟩
          clear HE
          have g3 : ¬ piece < lo := g1
          have g4 : piece ≥ hi := g2
          go_wp2_with fail
          go_roundg d.sz
          case measure => have := HN.out; simp only [T.sz] at this ⊢; omega
          case rel => exact ⟨d, v, rfl, HV, HE1, rfl, rfl⟩
        · have HR : Hid (∃ l k, t.L = l ++ ⟨lo, hi, tag⟩ :: k ∧ lo ≤ piece ∧ piece < hi) := by
            obtain ⟨l, k, e, _⟩ := HE.out
            exact ⟨l ++ c.L, d.L ++ k, by rw [e]; simp [T.L], by omega, by omega⟩
          clear HE
          have g4 : ¬ piece ≥ hi := by omega
          obtain ⟨t0, t1, t2, hp⟩ := HPUT.out (.int .i64 lo) (.int .i64 hi) (.int .i64 tag)
          have HP := Lib.hid hp
          clear hp
          go_wp2_with fail
          refine bodyPost_ret (v := .agg #[.int .i64 lo, .int .i64 hi, .int .i64 tag]) (by simp [results, Try.results45, go_sem, t0, t1, t2]) rfl ?_
          obtain ⟨l, k, hr⟩ := HR.out
          exact ⟨l, lo, hi, tag, rfl, ⟨k, hr⟩, HP.out⟩
end Go.Proofs.Ytahgfggcpmnnaaa
