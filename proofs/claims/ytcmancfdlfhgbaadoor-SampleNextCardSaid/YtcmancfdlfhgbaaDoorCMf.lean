/- The law SampleNext: its walk. -/
import Derived.Test.YtcmancfdlfhgbaaDoorTSm4
import Derived.Test.YtcmancfdlfhgbaaDoorTSm3
import Derived.OrdersHeld
namespace Go.Proofs.YtcmancfdlfhgbaaDoor
open Go Go.RowKit Gu

/-- what each operation yields -/
def TC (w0 : World) (go ho : Option Addr) (gl gc hl hc rx ry pp qq : Nat) : Nat → (Nat → Value) → World → Prop
  | 0, x, _ => x 0 = .int .i64 (rx : Int)
  | 1, x, _ => x 1 = .int .i64 (ry : Int)
  | 2, x, w => ∃ ao al ac bo bl bc, x 2 = .agg #[.slice ao al ac, .slice bo bl bc] ∧ D w (.slice ao al ac) (lowP rx ry) ∧ D w (.slice bo bl bc) (lowQ rx ry)
  | 3, x, _ => x 3 = .agg #[.slice go gl gc, .slice ho hl hc]
  | 4, x, w => ∃ ao al ac bo bl bc, x 4 = .tuple #[.agg #[.slice ao al ac, .slice bo bl bc], .int .i64 0] ∧ D w (.slice ao al ac) pp ∧ D w (.slice bo bl bc) qq
  | 5, x, _ => x 5 = x 4 ∧ ∃ ao al ac bo bl bc, x 5 = .tuple #[.agg #[.slice ao al ac, .slice bo bl bc], .int .i64 0]
  | 6, x, _ => x 6 = tupN 0 (x 5)
  | 7, x, _ => x 7 = tupN 1 (x 5)
  | 8, x, w => ∃ X, x 8 = .pointer (some ⟨X, 0, none⟩) ∧ w0.heap.size ≤ X ∧ Bxs X [.slice none 0 0, .slice none 0 0] w
  | 9, x, w => ∃ X v v2, x 8 = .pointer (some ⟨X, 0, none⟩) ∧ x 6 = .agg #[v, v2] ∧ w0.heap.size ≤ X ∧ Bxs X [v, v2] w
  | 10, x, _ => x 10 = x 7
  | _ + 11, _, _ => True
def TCkill : Nat → Option Nat
  | 8 => some 9
  | _ => none
theorem TC.congr {w0 : World} {go ho : Option Addr} {gl gc hl hc rx ry pp qq : Nat} {DD : Nat → List Nat} (d5_4 : 4 ∈ DD 5) (d6_5 : 5 ∈ DD 6) (d7_5 : 5 ∈ DD 7) (d9_8 : 8 ∈ DD 9) (d9_6 : 6 ∈ DD 9) (d10_7 : 7 ∈ DD 10) : ∀ i x y w, (∀ j, j = i ∨ j ∈ DD i → x j = y j) → TC w0 go ho gl gc hl hc rx ry pp qq i x w → TC w0 go ho gl gc hl hc rx ry pp qq i y w
  | 0, x, y, w, h, t => by have e := h 0 (.inl rfl); simp only [TC] at t ⊢; rw [← e]; exact t
  | 1, x, y, w, h, t => by have e := h 1 (.inl rfl); simp only [TC] at t ⊢; rw [← e]; exact t
  | 2, x, y, w, h, t => by have e := h 2 (.inl rfl); simp only [TC] at t ⊢; rw [← e]; exact t
  | 3, x, y, w, h, t => by have e := h 3 (.inl rfl); simp only [TC] at t ⊢; rw [← e]; exact t
  | 4, x, y, w, h, t => by have e := h 4 (.inl rfl); simp only [TC] at t ⊢; rw [← e]; exact t
  | 5, x, y, w, h, t => by have e := h 5 (.inl rfl); have e4 := h 4 (.inr d5_4); simp only [TC] at t ⊢; rw [← e, ← e4]; exact t
  | 6, x, y, w, h, t => by have e := h 6 (.inl rfl); have e5 := h 5 (.inr d6_5); simp only [TC] at t ⊢; rw [← e, ← e5]; exact t
  | 7, x, y, w, h, t => by have e := h 7 (.inl rfl); have e5 := h 5 (.inr d7_5); simp only [TC] at t ⊢; rw [← e, ← e5]; exact t
  | 8, x, y, w, h, t => by have e := h 8 (.inl rfl); simp only [TC] at t ⊢; rw [← e]; exact t
  | 9, x, y, w, h, t => by have e8 := h 8 (.inr d9_8); have e6 := h 6 (.inr d9_6); simp only [TC] at t ⊢; rw [← e8, ← e6]; exact t
  | 10, x, y, w, h, t => by have e := h 10 (.inl rfl); have e7 := h 7 (.inr d10_7); simp only [TC] at t ⊢; rw [← e, ← e7]; exact t
  | _ + 11, x, y, w, h, t => trivial
theorem TC.next {w0 : World} {go ho : Option Addr} {gl gc hl hc rx ry pp qq : Nat} {w w' : World} (hb : Below w.heap.size w w') : ∀ j y, TC w0 go ho gl gc hl hc rx ry pp qq j y w → TC w0 go ho gl gc hl hc rx ry pp qq j y w'
  | 0, y, t => t
  | 1, y, t => t
  | 2, y, t => by obtain ⟨ao, al, ac, bo, bl, bc, e, h0, h1⟩ := t; exact ⟨ao, al, ac, bo, bl, bc, e, h0.below hb, h1.below hb⟩
  | 3, y, t => t
  | 4, y, t => by obtain ⟨ao, al, ac, bo, bl, bc, e, h0, h1⟩ := t; exact ⟨ao, al, ac, bo, bl, bc, e, h0.below hb, h1.below hb⟩
  | 5, y, t => t
  | 6, y, t => t
  | 7, y, t => t
  | 8, y, t => by obtain ⟨X, e, h0, h⟩ := t; exact ⟨X, e, h0, h.next hb⟩
  | 9, y, t => by obtain ⟨X, v, v2, e1, e2, h0, h⟩ := t; exact ⟨X, v, v2, e1, e2, h0, h.next hb⟩
  | 10, y, t => t
  | _ + 11, y, t => trivial
theorem TC.store9 {w0 : World} {go ho : Option Addr} {gl gc hl hc rx ry pp qq : Nat} {w : World} {X : Nat} (hz : Bxs X [.slice none 0 0, .slice none 0 0] w) (v v2 : Value) {j : Nat} (hj : j = 0 ∨ j = 1 ∨ j = 2 ∨ j = 3 ∨ j = 4 ∨ j = 5 ∨ j = 6 ∨ j = 7 ∨ j = 10) (y : Nat → Value) (t : TC w0 go ho gl gc hl hc rx ry pp qq j y w) : TC w0 go ho gl gc hl hc rx ry pp qq j y ((w.setCell ⟨X, 0, none⟩ v).setCell ⟨X, 1, none⟩ v2) := by
  rcases hj with rfl | rfl | rfl | rfl | rfl | rfl | rfl | rfl | rfl
  · exact t
  · exact t
  · obtain ⟨ao, al, ac, bo, bl, bc, e, h0, h1⟩ := t; exact ⟨ao, al, ac, bo, bl, bc, e, hz.keep2 h0 v v2, hz.keep2 h1 v v2⟩
  · exact t
  · obtain ⟨ao, al, ac, bo, bl, bc, e, h0, h1⟩ := t; exact ⟨ao, al, ac, bo, bl, bc, e, hz.keep2 h0 v v2, hz.keep2 h1 v v2⟩
  · exact t
  · exact t
  · exact t
  · exact t
/-- what each operation yields -/
def TD (w0 : World) (go ho : Option Addr) (gl gc hl hc u0 u1 rx ry pp qq : Nat) : Nat → (Nat → Value) → World → Prop
  | 0, x, _ => x 0 = .int .i64 (u0 : Int)
  | 1, x, _ => x 1 = .int .i64 (u1 : Int)
  | 2, x, _ => x 2 = .int .i64 (rx : Int)
  | 3, x, _ => x 3 = .int .i64 (ry : Int)
  | 4, x, w => ∃ ao al ac bo bl bc, x 4 = .agg #[.slice ao al ac, .slice bo bl bc] ∧ D w (.slice ao al ac) (lowP rx ry) ∧ D w (.slice bo bl bc) (lowQ rx ry)
  | 5, x, _ => x 5 = .agg #[.slice go gl gc, .slice ho hl hc]
  | 6, x, w => ∃ ao al ac bo bl bc, x 6 = .tuple #[.agg #[.slice ao al ac, .slice bo bl bc], .int .i64 0] ∧ D w (.slice ao al ac) pp ∧ D w (.slice bo bl bc) qq
  | 7, x, _ => x 7 = x 6 ∧ ∃ ao al ac bo bl bc, x 7 = .tuple #[.agg #[.slice ao al ac, .slice bo bl bc], .int .i64 0]
  | 8, x, _ => x 8 = tupN 0 (x 7)
  | 9, x, _ => x 9 = tupN 1 (x 7)
  | 10, x, w => ∃ X, x 10 = .pointer (some ⟨X, 0, none⟩) ∧ w0.heap.size ≤ X ∧ Bxs X [.slice none 0 0, .slice none 0 0] w
  | 11, x, w => ∃ X v v2, x 10 = .pointer (some ⟨X, 0, none⟩) ∧ x 8 = .agg #[v, v2] ∧ w0.heap.size ≤ X ∧ Bxs X [v, v2] w
  | 12, x, _ => x 12 = x 9
  | _ + 13, _, _ => True
def TDkill : Nat → Option Nat
  | 10 => some 11
  | _ => none
theorem TD.congr {w0 : World} {go ho : Option Addr} {gl gc hl hc u0 u1 rx ry pp qq : Nat} {DD : Nat → List Nat} (d7_6 : 6 ∈ DD 7) (d8_7 : 7 ∈ DD 8) (d9_7 : 7 ∈ DD 9) (d11_10 : 10 ∈ DD 11) (d11_8 : 8 ∈ DD 11) (d12_9 : 9 ∈ DD 12) : ∀ i x y w, (∀ j, j = i ∨ j ∈ DD i → x j = y j) → TD w0 go ho gl gc hl hc u0 u1 rx ry pp qq i x w → TD w0 go ho gl gc hl hc u0 u1 rx ry pp qq i y w
  | 0, x, y, w, h, t => by have e := h 0 (.inl rfl); simp only [TD] at t ⊢; rw [← e]; exact t
  | 1, x, y, w, h, t => by have e := h 1 (.inl rfl); simp only [TD] at t ⊢; rw [← e]; exact t
  | 2, x, y, w, h, t => by have e := h 2 (.inl rfl); simp only [TD] at t ⊢; rw [← e]; exact t
  | 3, x, y, w, h, t => by have e := h 3 (.inl rfl); simp only [TD] at t ⊢; rw [← e]; exact t
  | 4, x, y, w, h, t => by have e := h 4 (.inl rfl); simp only [TD] at t ⊢; rw [← e]; exact t
  | 5, x, y, w, h, t => by have e := h 5 (.inl rfl); simp only [TD] at t ⊢; rw [← e]; exact t
  | 6, x, y, w, h, t => by have e := h 6 (.inl rfl); simp only [TD] at t ⊢; rw [← e]; exact t
  | 7, x, y, w, h, t => by have e := h 7 (.inl rfl); have e6 := h 6 (.inr d7_6); simp only [TD] at t ⊢; rw [← e, ← e6]; exact t
  | 8, x, y, w, h, t => by have e := h 8 (.inl rfl); have e7 := h 7 (.inr d8_7); simp only [TD] at t ⊢; rw [← e, ← e7]; exact t
  | 9, x, y, w, h, t => by have e := h 9 (.inl rfl); have e7 := h 7 (.inr d9_7); simp only [TD] at t ⊢; rw [← e, ← e7]; exact t
  | 10, x, y, w, h, t => by have e := h 10 (.inl rfl); simp only [TD] at t ⊢; rw [← e]; exact t
  | 11, x, y, w, h, t => by have e10 := h 10 (.inr d11_10); have e8 := h 8 (.inr d11_8); simp only [TD] at t ⊢; rw [← e10, ← e8]; exact t
  | 12, x, y, w, h, t => by have e := h 12 (.inl rfl); have e9 := h 9 (.inr d12_9); simp only [TD] at t ⊢; rw [← e, ← e9]; exact t
  | _ + 13, x, y, w, h, t => trivial
theorem TD.next {w0 : World} {go ho : Option Addr} {gl gc hl hc u0 u1 rx ry pp qq : Nat} {w w' : World} (hb : Below w.heap.size w w') : ∀ j y, TD w0 go ho gl gc hl hc u0 u1 rx ry pp qq j y w → TD w0 go ho gl gc hl hc u0 u1 rx ry pp qq j y w'
  | 0, y, t => t
  | 1, y, t => t
  | 2, y, t => t
  | 3, y, t => t
  | 4, y, t => by obtain ⟨ao, al, ac, bo, bl, bc, e, h0, h1⟩ := t; exact ⟨ao, al, ac, bo, bl, bc, e, h0.below hb, h1.below hb⟩
  | 5, y, t => t
  | 6, y, t => by obtain ⟨ao, al, ac, bo, bl, bc, e, h0, h1⟩ := t; exact ⟨ao, al, ac, bo, bl, bc, e, h0.below hb, h1.below hb⟩
  | 7, y, t => t
  | 8, y, t => t
  | 9, y, t => t
  | 10, y, t => by obtain ⟨X, e, h0, h⟩ := t; exact ⟨X, e, h0, h.next hb⟩
  | 11, y, t => by obtain ⟨X, v, v2, e1, e2, h0, h⟩ := t; exact ⟨X, v, v2, e1, e2, h0, h.next hb⟩
  | 12, y, t => t
  | _ + 13, y, t => trivial
theorem TD.store11 {w0 : World} {go ho : Option Addr} {gl gc hl hc u0 u1 rx ry pp qq : Nat} {w : World} {X : Nat} (hz : Bxs X [.slice none 0 0, .slice none 0 0] w) (v v2 : Value) {j : Nat} (hj : j = 0 ∨ j = 1 ∨ j = 2 ∨ j = 3 ∨ j = 4 ∨ j = 5 ∨ j = 6 ∨ j = 7 ∨ j = 8 ∨ j = 9 ∨ j = 12) (y : Nat → Value) (t : TD w0 go ho gl gc hl hc u0 u1 rx ry pp qq j y w) : TD w0 go ho gl gc hl hc u0 u1 rx ry pp qq j y ((w.setCell ⟨X, 0, none⟩ v).setCell ⟨X, 1, none⟩ v2) := by
  rcases hj with rfl | rfl | rfl | rfl | rfl | rfl | rfl | rfl | rfl | rfl | rfl
  · exact t
  · exact t
  · exact t
  · exact t
  · obtain ⟨ao, al, ac, bo, bl, bc, e, h0, h1⟩ := t; exact ⟨ao, al, ac, bo, bl, bc, e, hz.keep2 h0 v v2, hz.keep2 h1 v v2⟩
  · exact t
  · obtain ⟨ao, al, ac, bo, bl, bc, e, h0, h1⟩ := t; exact ⟨ao, al, ac, bo, bl, bc, e, hz.keep2 h0 v v2, hz.keep2 h1 v v2⟩
  · exact t
  · exact t
  · exact t
  · exact t
/-- what each operation yields -/
def TM (w0 : World) (go ho : Option Addr) (gl gc hl hc pp qq : Nat) : Nat → (Nat → Value) → World → Prop
  | 0, x, _ => x 0 = .agg #[.slice go gl gc, .slice ho hl hc]
  | 1, x, w => ∃ ao al ac bo bl bc, x 1 = .agg #[.slice ao al ac, .slice bo bl bc] ∧ D w (.slice ao al ac) (lowP 1 1) ∧ D w (.slice bo bl bc) (lowQ 1 1)
  | 2, x, w => ∃ ao al ac bo bl bc, x 2 = .tuple #[.agg #[.slice ao al ac, .slice bo bl bc], .int .i64 0] ∧ D w (.slice ao al ac) pp ∧ D w (.slice bo bl bc) qq
  | 3, x, _ => x 3 = x 2 ∧ ∃ ao al ac bo bl bc, x 3 = .tuple #[.agg #[.slice ao al ac, .slice bo bl bc], .int .i64 0]
  | 4, x, _ => x 4 = tupN 0 (x 3)
  | 5, x, _ => x 5 = tupN 1 (x 3)
  | 6, x, w => ∃ X, x 6 = .pointer (some ⟨X, 0, none⟩) ∧ w0.heap.size ≤ X ∧ Bxs X [.slice none 0 0, .slice none 0 0] w
  | 7, x, w => ∃ X v v2, x 6 = .pointer (some ⟨X, 0, none⟩) ∧ x 4 = .agg #[v, v2] ∧ w0.heap.size ≤ X ∧ Bxs X [v, v2] w
  | 8, x, _ => x 8 = x 5
  | _ + 9, _, _ => True
def TMkill : Nat → Option Nat
  | 6 => some 7
  | _ => none
theorem TM.congr {w0 : World} {go ho : Option Addr} {gl gc hl hc pp qq : Nat} {DD : Nat → List Nat} (d3_2 : 2 ∈ DD 3) (d4_3 : 3 ∈ DD 4) (d5_3 : 3 ∈ DD 5) (d7_6 : 6 ∈ DD 7) (d7_4 : 4 ∈ DD 7) (d8_5 : 5 ∈ DD 8) : ∀ i x y w, (∀ j, j = i ∨ j ∈ DD i → x j = y j) → TM w0 go ho gl gc hl hc pp qq i x w → TM w0 go ho gl gc hl hc pp qq i y w
  | 0, x, y, w, h, t => by have e := h 0 (.inl rfl); simp only [TM] at t ⊢; rw [← e]; exact t
  | 1, x, y, w, h, t => by have e := h 1 (.inl rfl); simp only [TM] at t ⊢; rw [← e]; exact t
  | 2, x, y, w, h, t => by have e := h 2 (.inl rfl); simp only [TM] at t ⊢; rw [← e]; exact t
  | 3, x, y, w, h, t => by have e := h 3 (.inl rfl); have e2 := h 2 (.inr d3_2); simp only [TM] at t ⊢; rw [← e, ← e2]; exact t
  | 4, x, y, w, h, t => by have e := h 4 (.inl rfl); have e3 := h 3 (.inr d4_3); simp only [TM] at t ⊢; rw [← e, ← e3]; exact t
  | 5, x, y, w, h, t => by have e := h 5 (.inl rfl); have e3 := h 3 (.inr d5_3); simp only [TM] at t ⊢; rw [← e, ← e3]; exact t
  | 6, x, y, w, h, t => by have e := h 6 (.inl rfl); simp only [TM] at t ⊢; rw [← e]; exact t
  | 7, x, y, w, h, t => by have e6 := h 6 (.inr d7_6); have e4 := h 4 (.inr d7_4); simp only [TM] at t ⊢; rw [← e6, ← e4]; exact t
  | 8, x, y, w, h, t => by have e := h 8 (.inl rfl); have e5 := h 5 (.inr d8_5); simp only [TM] at t ⊢; rw [← e, ← e5]; exact t
  | _ + 9, x, y, w, h, t => trivial
theorem TM.next {w0 : World} {go ho : Option Addr} {gl gc hl hc pp qq : Nat} {w w' : World} (hb : Below w.heap.size w w') : ∀ j y, TM w0 go ho gl gc hl hc pp qq j y w → TM w0 go ho gl gc hl hc pp qq j y w'
  | 0, y, t => t
  | 1, y, t => by obtain ⟨ao, al, ac, bo, bl, bc, e, h0, h1⟩ := t; exact ⟨ao, al, ac, bo, bl, bc, e, h0.below hb, h1.below hb⟩
  | 2, y, t => by obtain ⟨ao, al, ac, bo, bl, bc, e, h0, h1⟩ := t; exact ⟨ao, al, ac, bo, bl, bc, e, h0.below hb, h1.below hb⟩
  | 3, y, t => t
  | 4, y, t => t
  | 5, y, t => t
  | 6, y, t => by obtain ⟨X, e, h0, h⟩ := t; exact ⟨X, e, h0, h.next hb⟩
  | 7, y, t => by obtain ⟨X, v, v2, e1, e2, h0, h⟩ := t; exact ⟨X, v, v2, e1, e2, h0, h.next hb⟩
  | 8, y, t => t
  | _ + 9, y, t => trivial
theorem TM.store7 {w0 : World} {go ho : Option Addr} {gl gc hl hc pp qq : Nat} {w : World} {X : Nat} (hz : Bxs X [.slice none 0 0, .slice none 0 0] w) (v v2 : Value) {j : Nat} (hj : j = 0 ∨ j = 1 ∨ j = 2 ∨ j = 3 ∨ j = 4 ∨ j = 5 ∨ j = 8) (y : Nat → Value) (t : TM w0 go ho gl gc hl hc pp qq j y w) : TM w0 go ho gl gc hl hc pp qq j y ((w.setCell ⟨X, 0, none⟩ v).setCell ⟨X, 1, none⟩ v2) := by
  rcases hj with rfl | rfl | rfl | rfl | rfl | rfl | rfl
  · exact t
  · obtain ⟨ao, al, ac, bo, bl, bc, e, h0, h1⟩ := t; exact ⟨ao, al, ac, bo, bl, bc, e, hz.keep2 h0 v v2, hz.keep2 h1 v v2⟩
  · obtain ⟨ao, al, ac, bo, bl, bc, e, h0, h1⟩ := t; exact ⟨ao, al, ac, bo, bl, bc, e, hz.keep2 h0 v v2, hz.keep2 h1 v v2⟩
  · exact t
  · exact t
  · exact t
  · exact t
/-- the effort by the first piece, over common denominators -/
theorem next_eq {b g m : Nat} {c : Int} (h0 : 0 ≤ c) (h1 : c < (m : Int) + 1) (hm : m ≤ b + 1 + g) :
    (((b + 1) * eS b (g + 1) m (c - 1) m * ((b + 1 + (g + 1)) * eM (b + 1 + g) m) + (g + 1) * eS (b + 1) g m c m * ((b + 1 + (g + 1)) * eM (b + 1 + g) m)) * 1 + 1 * ((b + 1 + (g + 1)) * eM (b + 1 + g) m * ((b + 1 + (g + 1)) * eM (b + 1 + g) m))) * eM (b + 1 + (g + 1)) (m + 1) =
    eS (b + 1) (g + 1) ((m + 1 : Nat) : Int) c (m + 1) * ((b + 1 + (g + 1)) * eM (b + 1 + g) m * ((b + 1 + (g + 1)) * eM (b + 1 + g) m) * 1) := by
  have e0 := eS_rat (b := b + 1) (g := g + 1) (n := ((m + 1 : Nat) : Int)) (c := c) (m + 1) (by omega) (by omega)
  have e1 := eS_rat (b := b) (g := g + 1) (n := (m : Int)) (c := c - 1) m (by omega) (by omega)
  have e2 := eS_rat (b := b + 1) (g := g) (n := (m : Int)) (c := c) m (by omega) (by omega)
  have hs := qE_step (b := b + 1) (g := g + 1) (l := b + 1 + g) (n := (m : Int)) (c := c) (by omega) h0 h1 m (by omega)
  rw [show ((m + 1 : Nat) : Int) = (m : Int) + 1 by omega] at e0 ⊢
  rw [show b + (g + 1) = b + 1 + g by omega] at e1
  rw [Nat.add_sub_cancel, Nat.add_sub_cancel] at hs
  refine cross_of (q := qE (b + 1) (g + 1) ((m : Int) + 1) c (m + 1)) ?_ e0
  have z : ((b + 1 + g + 1 : Nat) : Rat) ≠ 0 := pos_ne (by omega)
  rw [hs]
  simp only [Rat.natCast_mul, Rat.natCast_add] at z ⊢
  try simp only [Rat.natCast_add] at e1 e2
  rw [e1, e2]
  grind
set_option maxRecDepth 100000 in
set_option maxHeartbeats 4000000 in
theorem sampleNext_law {lot bad n c : Int} {W : World} (_hl : -9223372036854775808 ≤ lot ∧ lot ≤ 9223372036854775807) (_hb : -9223372036854775808 ≤ bad ∧ bad ≤ 9223372036854775807) (_hn : -9223372036854775808 ≤ n ∧ n ≤ 9223372036854775807) (_hc : -9223372036854775808 ≤ c ∧ c ≤ 9223372036854775807) (he : Env W) :
    Calls Tryd.prog 4 #[.int .i64 lot, .int .i64 bad, .int .i64 n, .int .i64 c] W fun e w' => e = .returned (.bool true) ∧ Below W.heap.size W w' := by
  have HAW : Hid (∀ W', Below W.heap.size W W' → Calls Tryd.prog 6 #[] W' fun e w' => e = .returned (.bool true) ∧ Hid (Below W'.heap.size W' w')) := fun W' h => sawake_any W' (he.below h)
  clear he _hl _hb _hn
  by_cases hbig : lot > 60
  · clear _hc
    go_enter Tryd.func4, Tryd.ntmps4
    go_wp2_with fail
    refine (HAW.out _ (Below.refl _ _)).mono ?_
    rintro e w' ⟨rfl, hb⟩
    go_wp2_with fail
    go_ret
    exact ⟨rfl, hb.out⟩
  by_cases hgood : GoodP lot bad n 256
  case neg =>
    have HG := Good_no hgood
    clear hgood _hc
    go_enter Tryd.func4, Tryd.ntmps4
    go_wp2_with fail
    refine (HG.out _).mono ?_
    rintro e w' ⟨rfl, rfl⟩
    go_wp2_with fail
    refine (HAW.out _ (Below.refl _ _)).mono ?_
    rintro e w' ⟨rfl, hb⟩
    go_wp2_with fail
    go_ret
    exact ⟨rfl, hb.out⟩
  case pos =>
    have HG := Good_yes hgood
    by_cases q1 : c < 1
    · clear hgood _hc
      go_enter Tryd.func4, Tryd.ntmps4
      go_wp2_with fail
      refine (HG.out _).mono ?_
      rintro e w' ⟨rfl, rfl⟩
      go_wp2_with fail
      refine (HAW.out _ (Below.refl _ _)).mono ?_
      rintro e w' ⟨rfl, hb⟩
      go_wp2_with fail
      go_ret
      exact ⟨rfl, hb.out⟩
    by_cases q4 : c ≥ n
    · clear hgood _hc
      go_enter Tryd.func4, Tryd.ntmps4
      go_wp2_with fail
      refine (HG.out _).mono ?_
      rintro e w' ⟨rfl, rfl⟩
      go_wp2_with fail
      refine (HAW.out _ (Below.refl _ _)).mono ?_
      rintro e w' ⟨rfl, hb⟩
      go_wp2_with fail
      go_ret
      exact ⟨rfl, hb.out⟩
    by_cases q2 : bad < 1
    · clear hgood _hc
      go_enter Tryd.func4, Tryd.ntmps4
      go_wp2_with fail
      refine (HG.out _).mono ?_
      rintro e w' ⟨rfl, rfl⟩
      go_wp2_with fail
      refine (HAW.out _ (Below.refl _ _)).mono ?_
      rintro e w' ⟨rfl, hb⟩
      go_wp2_with fail
      go_ret
      exact ⟨rfl, hb.out⟩
    by_cases q3 : bad ≥ lot
    · clear hgood _hc
      go_enter Tryd.func4, Tryd.ntmps4
      go_wp2_with fail
      refine (HG.out _).mono ?_
      rintro e w' ⟨rfl, rfl⟩
      go_wp2_with fail
      refine (HAW.out _ (Below.refl _ _)).mono ?_
      rintro e w' ⟨rfl, hb⟩
      go_wp2_with fail
      go_ret
      exact ⟨rfl, hb.out⟩
    obtain ⟨⟨h1, h2⟩, ⟨h3, h4⟩, h5, h6⟩ := hgood
    obtain ⟨b, rfl⟩ : ∃ b : Nat, bad = ((b + 1 : Nat) : Int) := ⟨bad.toNat - 1, by omega⟩
    obtain ⟨g, rfl⟩ : ∃ g : Nat, lot = ((b + 1 + (g + 1) : Nat) : Int) := ⟨lot.toNat - (b + 2), by omega⟩
    obtain ⟨m, rfl⟩ : ∃ m : Nat, n = ((m + 1 : Nat) : Int) := ⟨n.toNat - 1, by omega⟩
    obtain ⟨k, rfl⟩ : ∃ k : Nat, c = (k : Int) := ⟨c.toNat, by omega⟩
    have hm : m ≤ b + 1 + g := by omega
    have hbg : b + 1 + (g + 1) ≤ 60 := by omega
    have hm0 : 0 < m := by omega
    have HA1 : Hid (∀ W', Calls Tryd.prog 12 #[.int .i64 ((b + 1 + (g + 1) : Nat) : Int), .int .i64 ((b + 1 : Nat) : Int), .int .i64 ((m + 1 : Nat) : Int), .int .i64 (k : Int)] W' fun e w' => ∃ ao al ac bo bl bc, e = .returned (.tuple #[.agg #[.slice ao al ac, .slice bo bl bc], .int .i64 0]) ∧
        D w' (.slice ao al ac) (lowP (eS (b + 1) (g + 1) ((m + 1 : Nat) : Int) k (m + 1)) (eM (b + 1 + (g + 1)) (m + 1))) ∧ D w' (.slice bo bl bc) (lowQ (eS (b + 1) (g + 1) ((m + 1 : Nat) : Int) k (m + 1)) (eM (b + 1 + (g + 1)) (m + 1))) ∧ Below W'.heap.size W' w') := fun W' =>
      (Expect_any (b := b + 1) (g := g + 1) (n := m + 1) (c := (k : Int)) (W := W') (by omega) (by omega) (by omega) (by omega)).mono fun e w' ⟨ao, al, ac, bo, bl, bc, e1, e2, ⟨Q, e3, e4⟩, e5⟩ => ⟨ao, al, ac, bo, bl, bc, e1, e2, by rw [← e4 (by omega)]; exact e3, e5⟩
    have HA2 : Hid (∀ W', Calls Tryd.prog 12 #[.int .i64 ((b + 1 + g : Nat) : Int), .int .i64 (b : Int), .int .i64 (m : Int), .int .i64 ((k : Int) - 1)] W' fun e w' => ∃ ao al ac bo bl bc, e = .returned (.tuple #[.agg #[.slice ao al ac, .slice bo bl bc], .int .i64 0]) ∧
        D w' (.slice ao al ac) (lowP (eS b (g + 1) m ((k : Int) - 1) m) (eM (b + 1 + g) m)) ∧ D w' (.slice bo bl bc) (lowQ (eS b (g + 1) m ((k : Int) - 1) m) (eM (b + 1 + g) m)) ∧ Below W'.heap.size W' w') := fun W' => by
      have := Expect_any (b := b) (g := g + 1) (n := m) (c := (k : Int) - 1) (W := W') (by omega) (by omega) (by omega) (by omega)
      rw [show b + (g + 1) = b + 1 + g by omega] at this
      refine this.mono fun e w' ⟨ao, al, ac, bo, bl, bc, e1, e2, ⟨Q, e3, e4⟩, e5⟩ => ⟨ao, al, ac, bo, bl, bc, e1, e2, ?_, e5⟩
      rw [← show b + (g + 1) = b + 1 + g by omega, ← e4 hm0]; exact e3
    have HA3 : Hid (∀ W', Calls Tryd.prog 12 #[.int .i64 ((b + 1 + g : Nat) : Int), .int .i64 ((b + 1 : Nat) : Int), .int .i64 (m : Int), .int .i64 (k : Int)] W' fun e w' => ∃ ao al ac bo bl bc, e = .returned (.tuple #[.agg #[.slice ao al ac, .slice bo bl bc], .int .i64 0]) ∧
        D w' (.slice ao al ac) (lowP (eS (b + 1) g m k m) (eM (b + 1 + g) m)) ∧ D w' (.slice bo bl bc) (lowQ (eS (b + 1) g m k m) (eM (b + 1 + g) m)) ∧ Below W'.heap.size W' w') := fun W' =>
      (Expect_any (b := b + 1) (g := g) (n := m) (c := (k : Int)) (W := W') (by omega) (by omega) (by omega) (by omega)).mono fun e w' ⟨ao, al, ac, bo, bl, bc, e1, e2, ⟨Q, e3, e4⟩, e5⟩ => ⟨ao, al, ac, bo, bl, bc, e1, e2, by rw [← e4 hm0]; exact e3, e5⟩
    have HR1 : Hid (∀ W', Calls Tryd.prog 10 #[.int .i64 ((b + 1 : Nat) : Int), .int .i64 ((b + 1 + (g + 1) : Nat) : Int)] W' fun e w' => ∃ ao al ac bo bl bc, e = .returned (.agg #[.slice ao al ac, .slice bo bl bc]) ∧ D w' (.slice ao al ac) (lowP (b + 1) (b + 1 + (g + 1))) ∧ D w' (.slice bo bl bc) (lowQ (b + 1) (b + 1 + (g + 1))) ∧ Below W'.heap.size W' w') := fun W' => ratio_any (by omega) (by omega) (by omega)
    have HR2 : Hid (∀ W', Calls Tryd.prog 10 #[.int .i64 ((g + 1 : Nat) : Int), .int .i64 ((b + 1 + (g + 1) : Nat) : Int)] W' fun e w' => ∃ ao al ac bo bl bc, e = .returned (.agg #[.slice ao al ac, .slice bo bl bc]) ∧ D w' (.slice ao al ac) (lowP (g + 1) (b + 1 + (g + 1))) ∧ D w' (.slice bo bl bc) (lowQ (g + 1) (b + 1 + (g + 1))) ∧ Below W'.heap.size W' w') := fun W' => ratio_any (by omega) (by omega) (by omega)
    obtain ⟨b1, hb1⟩ : ∃ x : Nat, x = b + 1 := ⟨_, rfl⟩
    obtain ⟨g1, hg1⟩ : ∃ x : Nat, x = g + 1 := ⟨_, rfl⟩
    obtain ⟨m1, hm1⟩ : ∃ x : Nat, x = m + 1 := ⟨_, rfl⟩
    obtain ⟨l1, hl1⟩ : ∃ x : Nat, x = b + 1 + g := ⟨_, rfl⟩
    obtain ⟨lt, hlt⟩ : ∃ x : Nat, x = b + 1 + (g + 1) := ⟨_, rfl⟩
    have HR9 : Hid (∀ W', Calls Tryd.prog 10 #[.int .i64 1, .int .i64 1] W' fun e w' => ∃ ao al ac bo bl bc, e = .returned (.agg #[.slice ao al ac, .slice bo bl bc]) ∧ D w' (.slice ao al ac) (lowP 1 1) ∧ D w' (.slice bo bl bc) (lowQ 1 1) ∧ Below W'.heap.size W' w') := fun W' => ratio_any (a := 1) (b := 1) (by decide) (by decide) (by decide)
    obtain ⟨L, hL⟩ : ∃ x, x = eS (b + 1) (g + 1) ((m + 1 : Nat) : Int) k (m + 1) := ⟨_, rfl⟩
    obtain ⟨L1, hL1⟩ : ∃ x, x = eS b (g + 1) m ((k : Int) - 1) m := ⟨_, rfl⟩
    obtain ⟨L2, hL2⟩ : ∃ x, x = eS (b + 1) g m k m := ⟨_, rfl⟩
    obtain ⟨M, hM⟩ : ∃ x, x = eM (b + 1 + (g + 1)) (m + 1) := ⟨_, rfl⟩
    obtain ⟨M1, hM1⟩ : ∃ x, x = eM (b + 1 + g) m := ⟨_, rfl⟩
    obtain ⟨K, hK⟩ : ∃ K : Nat, K = 3606 := ⟨_, rfl⟩
    obtain ⟨J, hJ⟩ : ∃ J : Nat, J = 6 + K := ⟨_, rfl⟩
    obtain ⟨hq0, hp1⟩ : L ≤ 2 ^ K ∧ M ≤ 2 ^ K := by rw [hL, hM]; exact eS_big (by omega) (by omega) hK
    obtain ⟨hq1, hp2⟩ : L1 ≤ 2 ^ K ∧ M1 ≤ 2 ^ K := by rw [hL1, hM1, show b + 1 + g = b + (g + 1) by omega]; exact eS_big (by omega) (by omega) hK
    have hq2 : L2 ≤ 2 ^ K := by rw [hL2]; exact (eS_big (by omega) (by omega) hK).1
    have hM0 : 0 < M := by rw [hM]; exact eM_pos (by omega)
    have hM10 : 0 < M1 := by rw [hM1]; exact eM_pos (by omega)
    have hlt0 : 0 < lt := by omega
    have tp : (2 : Nat) ^ 6 ≤ 2 ^ K := Nat.pow_le_pow_right (by decide) (by omega)
    have hs1' : lt ≤ 2 ^ 6 := by omega
    have hs2' : b1 ≤ 2 ^ 6 := by omega
    have hs3' : g1 ≤ 2 ^ 6 := by omega
    have hs1 : lt ≤ 2 ^ K := Nat.le_trans hs1' tp
    have hs2 : b1 ≤ 2 ^ K := Nat.le_trans hs2' tp
    have hs3 : g1 ≤ 2 ^ K := Nat.le_trans hs3' tp
    have heq : ((b1 * L1 * (lt * M1) + g1 * L2 * (lt * M1)) * 1 + 1 * (lt * M1 * (lt * M1))) * M = L * (lt * M1 * (lt * M1) * 1) := by
      rw [hL, hL1, hL2, hM, hM1, hb1, hg1, hlt]; exact next_eq (by omega) (by omega) hm
    rw [← hL, ← hM, ← hlt, ← hb1, ← hm1] at HA1
    rw [← hL1, ← hM1, ← hl1] at HA2
    rw [← hL2, ← hM1, ← hl1, ← hb1] at HA3
    rw [← hlt, ← hb1] at HR1
    rw [← hlt, ← hg1] at HR2
    rw [← hlt, ← hb1, ← hm1] at HG ⊢
    rw [← hlt] at hbig
    rw [← hm1] at q4
    rw [← hb1] at q2
    rw [← hlt, ← hb1] at q3
    have d1 : decide ((k : Int) < 1) = false := decide_eq_false q1
    have d2 : decide ((b1 : Int) < 1) = false := decide_eq_false q2
    have d3 : decide ((b1 : Int) ≥ (lt : Int)) = false := decide_eq_false q3
    have d4 : decide ((k : Int) ≥ (m1 : Int)) = false := decide_eq_false q4
    have w1 : IntKind.i64.wrap ((lt : Int) - 1) = (l1 : Int) := by rw [IntWalk.i64_in _ (by omega)]; omega
    have w2 : IntKind.i64.wrap ((b1 : Int) - 1) = (b : Int) := by rw [IntWalk.i64_in _ (by omega)]; omega
    have w3 : IntKind.i64.wrap ((m1 : Int) - 1) = (m : Int) := by rw [IntWalk.i64_in _ (by omega)]; omega
    have w4 : IntKind.i64.wrap ((k : Int) - 1) = (k : Int) - 1 := IntWalk.i64_in _ (by omega)
    have HWR : Hid (IntKind.i64.wrap ((lt : Int) - b1) = (g1 : Int)) := by show _ = _; rw [IntWalk.i64_in _ (by omega)]; omega
    obtain ⟨pp, hpp⟩ : ∃ x, x = lowP (b1 * L1) (lt * M1) := ⟨_, rfl⟩
    obtain ⟨qq, hqq⟩ : ∃ x, x = lowQ (b1 * L1) (lt * M1) := ⟨_, rfl⟩
    obtain ⟨pp2, hpp2⟩ : ∃ x, x = lowP (g1 * L2) (lt * M1) := ⟨_, rfl⟩
    obtain ⟨qq2, hqq2⟩ : ∃ x, x = lowQ (g1 * L2) (lt * M1) := ⟨_, rfl⟩
    have hb1L : b1 * L1 ≤ 2 ^ J := by rw [hJ, Nat.pow_add]; exact Nat.mul_le_mul hs2' hq1
    have hg1L : g1 * L2 ≤ 2 ^ J := by rw [hJ, Nat.pow_add]; exact Nat.mul_le_mul hs3' hq2
    have hltM : lt * M1 ≤ 2 ^ J := by rw [hJ, Nat.pow_add]; exact Nat.mul_le_mul hs1' hp2
    have hltM0 : 0 < lt * M1 := Nat.mul_pos hlt0 hM10
    have HMU : Hid (∀ W' v u x y, D W' v (lowP b1 lt) → D W' u (lowQ b1 lt) → D W' x (lowP L1 M1) → D W' y (lowQ L1 M1) → Calls Tryd.prog 13 #[.agg #[v, u], .agg #[x, y]] W' fun e w' => ∃ ao al ac bo bl bc, e = .returned (.tuple #[.agg #[.slice ao al ac, .slice bo bl bc], .int .i64 0]) ∧ D w' (.slice ao al ac) pp ∧ D w' (.slice bo bl bc) qq ∧ Below W'.heap.size W' w') := fun W' v u x y g1 g2 g3 g4 => by
      rw [hpp, hqq]; exact FMul_gen g1 g2 g3 g4 hlt0 hM10 hs2 hs1 hq1 hp2 (by omega)
    have HMV : Hid (∀ W' v u x y, D W' v (lowP g1 lt) → D W' u (lowQ g1 lt) → D W' x (lowP L2 M1) → D W' y (lowQ L2 M1) → Calls Tryd.prog 13 #[.agg #[v, u], .agg #[x, y]] W' fun e w' => ∃ ao al ac bo bl bc, e = .returned (.tuple #[.agg #[.slice ao al ac, .slice bo bl bc], .int .i64 0]) ∧ D w' (.slice ao al ac) pp2 ∧ D w' (.slice bo bl bc) qq2 ∧ Below W'.heap.size W' w') := fun W' v u x y g1 g2 g3 g4 => by
      rw [hpp2, hqq2]; exact FMul_gen g1 g2 g3 g4 hlt0 hM10 hs3 hs1 hq2 hp2 (by omega)
    obtain ⟨S, hS⟩ : ∃ x, x = b1 * L1 * (lt * M1) + g1 * L2 * (lt * M1) := ⟨_, rfl⟩
    obtain ⟨N, hN⟩ : ∃ x, x = lt * M1 * (lt * M1) := ⟨_, rfl⟩
    have HAD : Hid (∀ W' v u x y, D W' v pp → D W' u qq → D W' x pp2 → D W' y qq2 → Calls Tryd.prog 14 #[.agg #[v, u], .agg #[x, y]] W' fun e w' => ∃ ao al ac bo bl bc, e = .returned (.tuple #[.agg #[.slice ao al ac, .slice bo bl bc], .int .i64 0]) ∧ D w' (.slice ao al ac) (lowP S N) ∧ D w' (.slice bo bl bc) (lowQ S N) ∧ Below W'.heap.size W' w') := fun W' v u x y g1 g2 g3 g4 => by
      rw [hpp] at g1; rw [hqq] at g2; rw [hpp2] at g3; rw [hqq2] at g4
      rw [hS, hN]; exact FAdd_gen g1 g2 (dn_of (lowQ_pos hltM0)) g3 g4 hltM0 hltM0 hb1L hltM hg1L hltM (by omega)
    have hN2 : N ≤ 2 ^ (J + J + 1) := by
      rw [hN, Nat.pow_succ, Nat.pow_add]
      exact Nat.le_trans (Nat.mul_le_mul hltM hltM) (Nat.le_mul_of_pos_right _ (by decide))
    have hS2 : S ≤ 2 ^ (J + J + 1) := by
      rw [hS, Nat.pow_succ, Nat.pow_add]
      have a1 := Nat.mul_le_mul hb1L hltM
      have a2 := Nat.mul_le_mul hg1L hltM
      omega
    have tq : (2 : Nat) ^ K ≤ 2 ^ (J + J + 1) := Nat.pow_le_pow_right (by decide) (by omega)
    have hN0 : 0 < N := by rw [hN]; exact Nat.mul_pos hltM0 hltM0
    obtain ⟨T, hT⟩ : ∃ x, x = S * 1 + 1 * N := ⟨_, rfl⟩
    obtain ⟨N1, hN1⟩ : ∃ x, x = N * 1 := ⟨_, rfl⟩
    have HAE : Hid (∀ W' v u x y, D W' v (lowP S N) → D W' u (lowQ S N) → D W' x (lowP 1 1) → D W' y (lowQ 1 1) → Calls Tryd.prog 14 #[.agg #[v, u], .agg #[x, y]] W' fun e w' => ∃ ao al ac bo bl bc, e = .returned (.tuple #[.agg #[.slice ao al ac, .slice bo bl bc], .int .i64 0]) ∧ D w' (.slice ao al ac) (lowP T N1) ∧ D w' (.slice bo bl bc) (lowQ T N1) ∧ Below W'.heap.size W' w') := fun W' v u x y g1 g2 g3 g4 => by
      rw [hT, hN1]; exact FAdd_gen (j := 0) g1 g2 (dn_of (lowQ_pos hN0)) g3 g4 hN0 (by decide) hS2 hN2 (by decide) (by decide) (by omega)
    have hN12 : N1 ≤ 2 ^ (J + J + 2) := by
      rw [hN1, Nat.mul_one, Nat.pow_succ 2 (J + J + 1)]; omega
    have hT2 : T ≤ 2 ^ (J + J + 2) := by
      rw [hT, Nat.pow_succ 2 (J + J + 1)]; omega
    have tq2 : (2 : Nat) ^ K ≤ 2 ^ (J + J + 2) := Nat.pow_le_pow_right (by decide) (by omega)
    have hN10 : 0 < N1 := by rw [hN1]; omega
    have HCM : Hid (∀ W' v u x y, D W' v (lowP T N1) → D W' u (lowQ T N1) → D W' x (lowP L M) → D W' y (lowQ L M) → Calls Tryd.prog 9 #[.agg #[v, u], .agg #[x, y]] W' fun e w' => e = .returned (.int .i64 0) ∧ Hid (Below W'.heap.size W' w')) := fun W' v u x y g1 g2 g3 g4 => by
      have := FCmp_low g1 g2 g3 g4 hN10 hM0 hT2 hN12 (Nat.le_trans hq0 tq2) (Nat.le_trans hp1 tq2) (by omega)
      rw [hT, hN1, hS, hN, heq, cmpN_eq rfl] at this
      exact this
    clear hp1 hp2 hq0 hq1 hq2 hM0 hM10 hlt0 tp hs1' hs2' hs3' hs1 hs2 hs3 heq hb1 hg1 hm1 hl1 hlt hL hL1 hL2 hM hM1 hpp hqq hpp2 hqq2 hb1L hg1L hltM hltM0 hS hN hN2 hS2 tq hN0 hT hN1 hN12 hT2 tq2 hN10 hJ hK h1 h2 h3 h4 h5 h6 hm hbg hm0 _hc
    go_enter Tryd.func4, Tryd.ntmps4
    go_wp2_with fail
    refine (HG.out _).mono ?_
    rintro e w' ⟨rfl, rfl⟩
    go_wp2_with fail
    refine (HA1.out _).mono ?_
    rintro e v1 ⟨ao, al, ac, bo, bl, bc, rfl, hp, hq, hb⟩
    obtain ⟨v2, HW2⟩ : ∃ w2, w2 = v1.alloc (.cells #[.slice ao al ac, .slice bo bl bc] 30) := ⟨_, rfl⟩
    have HX := Lib.hid (show FB v1.heap.size (.slice ao al ac) (.slice bo bl bc) L M v2 by rw [HW2]; exact FB.new hp hq _)
    have b2 : Below v1.heap.size v1 v2 := by rw [HW2]; exact alloc1_below _ _
    have HB := Lib.hid (hb.trans (b2.mono hb.size)); have HW' := Lib.hid HW2
    clear hp hq hb b2 HW2
    go_upto_region 4 with fail
    rw [← HW'.out]
    go_wp2_with fail
    refine (HA2.out _).mono ?_
    rintro e v3 ⟨co, cl, cc, do2, dl, dc, rfl, hp, hq, hb⟩
    obtain ⟨v4, HW4⟩ : ∃ w4, w4 = v3.alloc (.cells #[.slice co cl cc, .slice do2 dl dc] 30) := ⟨_, rfl⟩
    have HY := Lib.hid (show FB v3.heap.size (.slice co cl cc) (.slice do2 dl dc) L1 M1 v4 by rw [HW4]; exact FB.new hp hq _)
    have b4 : Below v3.heap.size v3 v4 := by rw [HW4]; exact alloc1_below _ _
    have b24 := hb.trans (b4.mono hb.size)
    have HX4 := Lib.hid (HX.out.next b24)
    have HB4 := Lib.hid (HB.out.trans (b24.mono HB.out.size)); have HW4' := Lib.hid HW4
    clear hp hq hb b4 b24 HW4 HX HB HW'
    go_upto_region 5 with fail
    rw [← HW4'.out]
    go_wp2_with fail
    refine (HA3.out _).mono ?_
    rintro e v5 ⟨eo, el, ec, fo, fl, fc, rfl, hp, hq, hb⟩
    obtain ⟨w6, HW6⟩ : ∃ w4, w4 = v5.alloc (.cells #[.slice eo el ec, .slice fo fl fc] 30) := ⟨_, rfl⟩
    have HZ := Lib.hid (show FB v5.heap.size (.slice eo el ec) (.slice fo fl fc) L2 M1 w6 by rw [HW6]; exact FB.new hp hq _)
    have b6 : Below v5.heap.size v5 w6 := by rw [HW6]; exact alloc1_below _ _
    have b46 := hb.trans (b6.mono hb.size)
    have HX6 := Lib.hid (HX4.out.next b46); have HY6 := Lib.hid (HY.out.next b46)
    have HB6 := Lib.hid (HB4.out.trans (b46.mono HB4.out.size)); have HW6' := Lib.hid HW6
    clear hp hq hb b6 b46 HW6 HX4 HY HB4 HW4'
    go_upto_region 6 with fail
    rw [← HW6'.out]
    have HRA := HR1
    have HCEL : Hid (∀ W', Kw w6 W' → W'.cell? ⟨v3.heap.size, 0, none⟩ = some (.slice co cl cc) ∧ W'.cell? ⟨v3.heap.size, 1, none⟩ = some (.slice do2 dl dc)) := fun W' h => ⟨(HY6.out.box.next h).c0, (HY6.out.box.next h).c1⟩
    have HMU0 := HMU
    have HMU : Hid (∀ W' v u, Kw w6 W' → D W' v (lowP b1 lt) → D W' u (lowQ b1 lt) → Calls Tryd.prog 13 #[.agg #[v, u], .agg #[.slice co cl cc, .slice do2 dl dc]] W' fun e w' => ∃ ao al ac bo bl bc, e = .returned (.tuple #[.agg #[.slice ao al ac, .slice bo bl bc], .int .i64 0]) ∧ D w' (.slice ao al ac) pp ∧ D w' (.slice bo bl bc) qq ∧ Below W'.heap.size W' w') := fun W' v u h g1 g2 => HMU0.out W' v u _ _ g1 g2 (HY6.out.num.below h) (HY6.out.den.below h)
    clear HMU0 HW6'
    go_cut [15, 16] from 82 to 89 (fun s15 s16 wz => ∃ X po pl pc qo ql qc, s15 = .pointer (some ⟨X, 0, none⟩) ∧ s16 = .int .i64 0 ∧ Hid (Kw w6 wz) ∧ w6.heap.size ≤ X ∧ Hid (Bxs X [.slice po pl pc, .slice qo ql qc] wz) ∧ Hid (D wz (.slice po pl pc) pp) ∧ Hid (D wz (.slice qo ql qc) qq))
    case first =>
      refine region_own w6 11 (fun x => ⟨#[.int .i64 (lt : Int), .int .i64 (b1 : Int), .int .i64 (m1 : Int), .int .i64 (k : Int), undef, undef, undef, undef, .bool false, .pointer (some ⟨v1.heap.size, 0, none⟩), .int .i64 0, .pointer (some ⟨v3.heap.size, 0, none⟩), .int .i64 0, .pointer (some ⟨v5.heap.size, 0, none⟩), .int .i64 0, x 8, x 10, undef, undef, undef, undef, undef, undef, .int .i64 (lt : Int), .bool false, .bool false, .int .i64 (lt : Int), .int .i64 (b1 : Int), .int .i64 (m1 : Int), .bool true, .bool false, .bool false, .bool false, .int .i64 (k : Int), .bool false, .bool false, .bool false, .int .i64 (k : Int), .int .i64 (m1 : Int), .bool false, .bool false, .bool false, .int .i64 (b1 : Int), .bool false, .bool false, .bool false, .int .i64 (b1 : Int), .int .i64 (lt : Int), .bool false, .bool false, undef, .tuple #[.agg #[.slice ao al ac, .slice bo bl bc], .int .i64 0], .int .i64 (lt : Int), .int .i64 (b1 : Int), .int .i64 (m1 : Int), .int .i64 (k : Int), .tuple #[.agg #[.slice ao al ac, .slice bo bl bc], .int .i64 0], .agg #[.slice ao al ac, .slice bo bl bc], .int .i64 0, .tuple #[.agg #[.slice co cl cc, .slice do2 dl dc], .int .i64 0], .int .i64 (lt : Int), .int .i64 (l1 : Int), .int .i64 (b1 : Int), .int .i64 (b : Int), .int .i64 (m1 : Int), .int .i64 (m : Int), .int .i64 (k : Int), .int .i64 (↑k - 1), .tuple #[.agg #[.slice co cl cc, .slice do2 dl dc], .int .i64 0], .agg #[.slice co cl cc, .slice do2 dl dc], .int .i64 0, .tuple #[.agg #[.slice eo el ec, .slice fo fl fc], .int .i64 0], .int .i64 (lt : Int), .int .i64 (l1 : Int), .int .i64 (b1 : Int), .int .i64 (m1 : Int), .int .i64 (m : Int), .int .i64 (k : Int), .tuple #[.agg #[.slice eo el ec, .slice fo fl fc], .int .i64 0], .agg #[.slice eo el ec, .slice fo fl fc], .int .i64 0, x 5, x 0, x 1, x 2, x 3, x 4, x 6, x 7, undef, undef, undef, undef, undef, undef, undef, undef, undef, undef, undef, undef, undef, undef, undef, undef, undef, undef, undef, undef, undef, undef, undef, undef, undef, undef, undef, undef, undef, undef, undef, undef, undef, undef, undef, undef, undef, undef, undef, undef, undef, undef, undef, undef, undef, undef, undef, undef, undef, undef, undef, undef, undef, undef, undef, undef, undef], []⟩) (TC w6 co do2 cl cc dl dc b1 lt pp qq) TCkill (fun j => [_, _, _, _, _, _, _, _, _, undef, _].getD j undef) rfl (by kernel_rfl) (of_decide_eq_true (by kernel_rfl)) (of_decide_eq_true (by kernel_rfl)) (of_decide_eq_true (by kernel_rfl)) (TC.congr (of_decide_eq_true (by kernel_rfl)) (of_decide_eq_true (by kernel_rfl)) (of_decide_eq_true (by kernel_rfl)) (of_decide_eq_true (by kernel_rfl)) (of_decide_eq_true (by kernel_rfl)) (of_decide_eq_true (by kernel_rfl))) ?_ ?_
      · intro i hi
        have hi2 : i = 0 ∨ i = 1 ∨ i = 2 ∨ i = 3 ∨ i = 4 ∨ i = 5 ∨ i = 6 ∨ i = 7 ∨ i = 8 ∨ i = 9 ∨ i = 10 := by omega
        clear hi
        rcases hi2 with rfl | rfl | rfl | rfl | rfl | rfl | rfl | rfl | rfl | rfl | rfl
        · refine ⟨_, rfl, fun x w hk hd K' hK => ?_⟩
          clear hd
          go_simp
          exact hK _ w (upd_same x 0 _) hk (fun j _ _ _ _ y t => t)
        · refine ⟨_, rfl, fun x w hk hd K' hK => ?_⟩
          clear hd
          go_simp
          exact hK _ w (upd_same x 1 _) hk (fun j _ _ _ _ y t => t)
        · refine ⟨_, rfl, fun x w hk hd K' hK => ?_⟩
          have e0 : x 0 = _ := (hd 0 (of_decide_eq_true (by kernel_rfl)) (.inl rfl))
          have e1 : x 1 = _ := (hd 1 (of_decide_eq_true (by kernel_rfl)) (.inl rfl))
          have HC := Lib.hid (HRA.out w)
          clear hd
          simp only [e0, e1]
          go_simp
          refine HC.out.mono ?_
          rintro e w' ⟨ao, al, ac, bo, bl, bc, rfl, h, h9, hB⟩
          have hK2 := hK _ w' (⟨ao, al, ac, bo, bl, bc, upd_same x 2 _, h, h9⟩) (hk.next hB) (fun j _ _ _ _ y t => TC.next hB j y t)
          simp (config := {decide := true}) only [upd, if_true, if_false, e0, e1] at hK2
          exact hK2
        · refine ⟨_, rfl, fun x w hk hd K' hK => ?_⟩
          obtain ⟨z0, z1⟩ := HCEL.out w hk
          clear hd
          go_simp
          have hK2 := hK _ w (upd_same x 3 _) hk (fun j _ _ _ _ y t => t)
          simp (config := {decide := true}) only [upd, if_true, if_false] at hK2
          exact hK2
        · refine ⟨_, rfl, fun x w hk hd K' hK => ?_⟩
          obtain ⟨ao2, al2, ac2, bo2, bl2, bc2, e2, h2_0, h2_1⟩ := (hd 2 (of_decide_eq_true (by kernel_rfl)) (.inl rfl))
          have e3 : x 3 = _ := (hd 3 (of_decide_eq_true (by kernel_rfl)) (.inl rfl))
          have HC := Lib.hid (HMU.out w _ _ hk h2_0 h2_1)
          clear h2_0 h2_1
          clear hd
          simp only [e2, e3]
          go_simp
          refine HC.out.mono ?_
          rintro e w' ⟨ao, al, ac, bo, bl, bc, rfl, h, h9, hB⟩
          have hK2 := hK _ w' (⟨ao, al, ac, bo, bl, bc, upd_same x 4 _, h, h9⟩) (hk.next hB) (fun j _ _ _ _ y t => TC.next hB j y t)
          simp (config := {decide := true}) only [upd, if_true, if_false, e2, e3] at hK2
          exact hK2
        · refine ⟨_, rfl, fun x w hk hd K' hK => ?_⟩
          obtain ⟨ao4, al4, ac4, bo4, bl4, bc4, e4, h4_0, h4_1⟩ := (hd 4 (of_decide_eq_true (by kernel_rfl)) (.inl rfl))
          clear hd
          go_simp
          have hK2 := hK (x 4) w ⟨rfl, ao4, al4, ac4, bo4, bl4, bc4, (upd_same x 5 _).trans e4⟩ hk (fun j _ _ _ _ y t => t)
          simp (config := {decide := true}) only [upd, if_true, if_false, e4] at hK2 ⊢
          exact hK2
        · refine ⟨_, rfl, fun x w hk hd K' hK => ?_⟩
          obtain ⟨-, ao5, al5, ac5, bo5, bl5, bc5, e5⟩ := (hd 5 (of_decide_eq_true (by kernel_rfl)) (.inl rfl))
          clear hd
          simp only [e5]
          go_simp
          have hK2 := hK _ w (show upd x 6 _ 6 = tupN 0 (x 5) from (upd_same x 6 _).trans (by rw [e5] <;> rfl)) hk (fun j _ _ _ _ y t => t)
          simp (config := {decide := true}) only [upd, if_true, if_false, e5] at hK2
          exact hK2
        · refine ⟨_, rfl, fun x w hk hd K' hK => ?_⟩
          obtain ⟨-, ao5, al5, ac5, bo5, bl5, bc5, e5⟩ := (hd 5 (of_decide_eq_true (by kernel_rfl)) (.inl rfl))
          clear hd
          simp only [e5]
          go_simp
          have hK2 := hK _ w (show upd x 7 _ 7 = tupN 1 (x 5) from (upd_same x 7 _).trans (by rw [e5] <;> rfl)) hk (fun j _ _ _ _ y t => t)
          simp (config := {decide := true}) only [upd, if_true, if_false, e5] at hK2
          exact hK2
        · refine ⟨_, rfl, fun x w hk hd K' hK => ?_⟩
          clear hd
          go_simp
          exact hK _ _ ⟨_, upd_same x 8 _, Below.size hk, Bxs.new2 w _ _ _⟩ (hk.next (alloc1_below _ _)) (fun j _ _ _ _ y t => TC.next (alloc1_below _ _) j y t)
        · refine ⟨_, rfl, fun x w hk hd K' hK => ?_⟩
          obtain ⟨X, eb, hX, hz⟩ := (hd 8 (of_decide_eq_true (by kernel_rfl)) (.inr rfl))
          have ev : x 6 = _ := (hd 6 (of_decide_eq_true (by kernel_rfl)) (.inl rfl))
          obtain ⟨-, ao5, al5, ac5, bo5, bl5, bc5, em⟩ := (hd 5 (of_decide_eq_true (by kernel_rfl)) (.inl rfl))
          rw [em] at ev
          have ev : x 6 = .agg #[.slice ao5 al5 ac5, .slice bo5 bl5 bc5] := ev
          have k0 := hz.c0; have g0 := hz.f0
          have k1 := hz.c1; have g1 := hz.f1
          clear hd
          simp only [ev, eb]
          go_simp
          have hK2 := hK undef ((w.setCell ⟨X, 0, none⟩ (.slice ao5 al5 ac5)).setCell ⟨X, 1, none⟩ (.slice bo5 bl5 bc5)) ⟨X, _, _, eb, ev, hX, hz.set2 _ _⟩ (Below.setCell (Below.setCell hk (p := ⟨X, 0, none⟩) hX _) (p := ⟨X, 1, none⟩) hX _) (fun j hj hne hnr hkl y t => by
            have hjj : j = 0 ∨ j = 1 ∨ j = 2 ∨ j = 3 ∨ j = 4 ∨ j = 5 ∨ j = 6 ∨ j = 7 ∨ j = 10 := by
              rcases (by omega : j = 0 ∨ j = 1 ∨ j = 2 ∨ j = 3 ∨ j = 4 ∨ j = 5 ∨ j = 6 ∨ j = 7 ∨ j = 8 ∨ j = 10) with rfl | rfl | rfl | rfl | rfl | rfl | rfl | rfl | rfl | rfl
              · decide
              · decide
              · decide
              · decide
              · decide
              · decide
              · decide
              · decide
              · exact absurd rfl (hkl 9 rfl).1
              · decide
            exact TC.store9 hz _ _ hjj y t)
          simp (config := {decide := true}) only [upd, if_false, eb, ev, em] at hK2
          exact hK2
        · refine ⟨_, rfl, fun x w hk hd K' hK => ?_⟩
          clear hd
          go_simp
          exact hK _ w (show upd x 10 _ 10 = x 7 from upd_same x 10 _) hk (fun j _ _ _ _ y t => t)
      · intro x w listed hk hT hl
        subst hl
        have t8 := hT 4 (by decide) rfl
        obtain ⟨e9, -⟩ := hT 5 (by decide) rfl
        obtain ⟨X, v, v2, e12, e10, hX, hbx⟩ := hT 9 (by decide) rfl
        obtain ⟨ao, al, ac, bo, bl, bc, e8, hq, hq2⟩ := t8
        have f10 : x 6 = .agg #[.slice ao al ac, .slice bo bl bc] := Eq.trans (hT 6 (by decide) rfl) (by rw [e9, e8]; rfl)
        rw [f10] at e10
        injection e10 with e10; injection e10 with e10; injection e10 with e10 e11; injection e11 with e11 _
        subst e10; subst e11
        have e14 : x 10 = .int .i64 0 := Eq.trans (hT 10 (by decide) rfl) (Eq.trans (hT 7 (by decide) rfl) (by rw [e9, e8]; rfl))
        simp only [e12, e14]
        refine wpAny_done (by kernel_rfl) ?_ _
        have HQ := Lib.hid hq; have HQ2 := Lib.hid hq2; have HBX := Lib.hid hbx; have HKW := Lib.hid hk
        clear e8 e9 e12 f10 e14 hq hq2 hbx hk hT
        go_wp2_with fail
        go_meet
        case rel => exact ⟨X, ao, al, ac, bo, bl, bc, rfl, rfl, HKW, hX, HBX, HQ, HQ2⟩
    case rest =>
      obtain ⟨X, po, pl, pc, qo, ql, qc, rfl, rfl, HKW, hX, HBX, HQ, HQ2⟩ := hcut
      obtain ⟨w7, hw7⟩ : ∃ W1, W1 = wc := ⟨_, rfl⟩
      subst hw7
      have HX7 := Lib.hid (HX6.out.next HKW.out); have HZ7 := Lib.hid (HZ.out.next HKW.out)
      have HB7 := Lib.hid (HB6.out.trans (Below.mono HKW.out HB6.out.size))
      clear HRA HCEL HMU HX6 HY6 HZ HB6 HKW hX
      have HRA := HR2
      have HCEL : Hid (∀ W', Kw w7 W' → W'.cell? ⟨v5.heap.size, 0, none⟩ = some (.slice eo el ec) ∧ W'.cell? ⟨v5.heap.size, 1, none⟩ = some (.slice fo fl fc)) := fun W' h => ⟨(HZ7.out.box.next h).c0, (HZ7.out.box.next h).c1⟩
      have HMU : Hid (∀ W' v u, Kw w7 W' → D W' v (lowP g1 lt) → D W' u (lowQ g1 lt) → Calls Tryd.prog 13 #[.agg #[v, u], .agg #[.slice eo el ec, .slice fo fl fc]] W' fun e w' => ∃ ao al ac bo bl bc, e = .returned (.tuple #[.agg #[.slice ao al ac, .slice bo bl bc], .int .i64 0]) ∧ D w' (.slice ao al ac) pp2 ∧ D w' (.slice bo bl bc) qq2 ∧ Below W'.heap.size W' w') := fun W' v u h g1 g2 => HMV.out W' v u _ _ g1 g2 (HZ7.out.num.below h) (HZ7.out.den.below h)
      go_upto_region 7 with fail
      go_cut [17, 18] from 90 to 99 (fun s17 s18 wz => ∃ X po pl pc qo ql qc, s17 = .pointer (some ⟨X, 0, none⟩) ∧ s18 = .int .i64 0 ∧ Hid (Kw w7 wz) ∧ w7.heap.size ≤ X ∧ Hid (Bxs X [.slice po pl pc, .slice qo ql qc] wz) ∧ Hid (D wz (.slice po pl pc) pp2) ∧ Hid (D wz (.slice qo ql qc) qq2))
      case first =>
        refine region_own w7 13 (fun x => ⟨#[.int .i64 (lt : Int), .int .i64 (b1 : Int), .int .i64 (m1 : Int), .int .i64 (k : Int), undef, undef, undef, undef, .bool false, .pointer (some ⟨v1.heap.size, 0, none⟩), .int .i64 0, .pointer (some ⟨v3.heap.size, 0, none⟩), .int .i64 0, .pointer (some ⟨v5.heap.size, 0, none⟩), .int .i64 0, .pointer (some ⟨X, 0, none⟩), .int .i64 0, x 10, x 12, undef, undef, undef, undef, .int .i64 (lt : Int), .bool false, .bool false, .int .i64 (lt : Int), .int .i64 (b1 : Int), .int .i64 (m1 : Int), .bool true, .bool false, .bool false, .bool false, .int .i64 (k : Int), .bool false, .bool false, .bool false, .int .i64 (k : Int), .int .i64 (m1 : Int), .bool false, .bool false, .bool false, .int .i64 (b1 : Int), .bool false, .bool false, .bool false, .int .i64 (b1 : Int), .int .i64 (lt : Int), .bool false, .bool false, undef, .tuple #[.agg #[.slice ao al ac, .slice bo bl bc], .int .i64 0], .int .i64 (lt : Int), .int .i64 (b1 : Int), .int .i64 (m1 : Int), .int .i64 (k : Int), .tuple #[.agg #[.slice ao al ac, .slice bo bl bc], .int .i64 0], .agg #[.slice ao al ac, .slice bo bl bc], .int .i64 0, .tuple #[.agg #[.slice co cl cc, .slice do2 dl dc], .int .i64 0], .int .i64 (lt : Int), .int .i64 (l1 : Int), .int .i64 (b1 : Int), .int .i64 (b : Int), .int .i64 (m1 : Int), .int .i64 (m : Int), .int .i64 (k : Int), .int .i64 (↑k - 1), .tuple #[.agg #[.slice co cl cc, .slice do2 dl dc], .int .i64 0], .agg #[.slice co cl cc, .slice do2 dl dc], .int .i64 0, .tuple #[.agg #[.slice eo el ec, .slice fo fl fc], .int .i64 0], .int .i64 (lt : Int), .int .i64 (l1 : Int), .int .i64 (b1 : Int), .int .i64 (m1 : Int), .int .i64 (m : Int), .int .i64 (k : Int), .tuple #[.agg #[.slice eo el ec, .slice fo fl fc], .int .i64 0], .agg #[.slice eo el ec, .slice fo fl fc], .int .i64 0, u81, u82, u83, u84, u85, u86, u87, u88, x 7, x 0, x 1, x 2, x 3, x 4, x 5, x 6, x 8, x 9, undef, undef, undef, undef, undef, undef, undef, undef, undef, undef, undef, undef, undef, undef, undef, undef, undef, undef, undef, undef, undef, undef, undef, undef, undef, undef, undef, undef, undef, undef, undef, undef, undef, undef, undef, undef, undef, undef, undef, undef, undef, undef, undef, undef, undef, undef, undef], []⟩) (TD w7 eo fo el ec fl fc lt b1 g1 lt pp2 qq2) TDkill (fun j => [_, _, _, _, _, _, _, _, _, _, _, undef, _].getD j undef) rfl (by kernel_rfl) (of_decide_eq_true (by kernel_rfl)) (of_decide_eq_true (by kernel_rfl)) (of_decide_eq_true (by kernel_rfl)) (TD.congr (of_decide_eq_true (by kernel_rfl)) (of_decide_eq_true (by kernel_rfl)) (of_decide_eq_true (by kernel_rfl)) (of_decide_eq_true (by kernel_rfl)) (of_decide_eq_true (by kernel_rfl)) (of_decide_eq_true (by kernel_rfl))) ?_ ?_
        · intro i hi
          have hi2 : i = 0 ∨ i = 1 ∨ i = 2 ∨ i = 3 ∨ i = 4 ∨ i = 5 ∨ i = 6 ∨ i = 7 ∨ i = 8 ∨ i = 9 ∨ i = 10 ∨ i = 11 ∨ i = 12 := by omega
          clear hi
          rcases hi2 with rfl | rfl | rfl | rfl | rfl | rfl | rfl | rfl | rfl | rfl | rfl | rfl | rfl
          · refine ⟨_, rfl, fun x w hk hd K' hK => ?_⟩
            clear hd
            go_simp
            exact hK _ w (upd_same x 0 _) hk (fun j _ _ _ _ y t => t)
          · refine ⟨_, rfl, fun x w hk hd K' hK => ?_⟩
            clear hd
            go_simp
            exact hK _ w (upd_same x 1 _) hk (fun j _ _ _ _ y t => t)
          · refine ⟨_, rfl, fun x w hk hd K' hK => ?_⟩
            have e0 : x 0 = _ := (hd 0 (of_decide_eq_true (by kernel_rfl)) (.inl rfl))
            have e1 : x 1 = _ := (hd 1 (of_decide_eq_true (by kernel_rfl)) (.inl rfl))
            have hw := HWR.out
            clear hd
            simp only [e0, e1]
            go_simp
            have hK2 := hK _ w (upd_same x 2 _) hk (fun j _ _ _ _ y t => t)
            simp (config := {decide := true}) only [upd, if_true, if_false, e0, e1] at hK2
            exact hK2
          · refine ⟨_, rfl, fun x w hk hd K' hK => ?_⟩
            clear hd
            go_simp
            exact hK _ w (upd_same x 3 _) hk (fun j _ _ _ _ y t => t)
          · refine ⟨_, rfl, fun x w hk hd K' hK => ?_⟩
            have e2 : x 2 = _ := (hd 2 (of_decide_eq_true (by kernel_rfl)) (.inl rfl))
            have e3 : x 3 = _ := (hd 3 (of_decide_eq_true (by kernel_rfl)) (.inl rfl))
            have HC := Lib.hid (HRA.out w)
            clear hd
            simp only [e2, e3]
            go_simp
            refine HC.out.mono ?_
            rintro e w' ⟨ao, al, ac, bo, bl, bc, rfl, h, h9, hB⟩
            have hK2 := hK _ w' (⟨ao, al, ac, bo, bl, bc, upd_same x 4 _, h, h9⟩) (hk.next hB) (fun j _ _ _ _ y t => TD.next hB j y t)
            simp (config := {decide := true}) only [upd, if_true, if_false, e2, e3] at hK2
            exact hK2
          · refine ⟨_, rfl, fun x w hk hd K' hK => ?_⟩
            obtain ⟨z0, z1⟩ := HCEL.out w hk
            clear hd
            go_simp
            have hK2 := hK _ w (upd_same x 5 _) hk (fun j _ _ _ _ y t => t)
            simp (config := {decide := true}) only [upd, if_true, if_false] at hK2
            exact hK2
          · refine ⟨_, rfl, fun x w hk hd K' hK => ?_⟩
            obtain ⟨ao4, al4, ac4, bo4, bl4, bc4, e4, h4_0, h4_1⟩ := (hd 4 (of_decide_eq_true (by kernel_rfl)) (.inl rfl))
            have e5 : x 5 = _ := (hd 5 (of_decide_eq_true (by kernel_rfl)) (.inl rfl))
            have HC := Lib.hid (HMU.out w _ _ hk h4_0 h4_1)
            clear h4_0 h4_1
            clear hd
            simp only [e4, e5]
            go_simp
            refine HC.out.mono ?_
            rintro e w' ⟨ao, al, ac, bo, bl, bc, rfl, h, h9, hB⟩
            have hK2 := hK _ w' (⟨ao, al, ac, bo, bl, bc, upd_same x 6 _, h, h9⟩) (hk.next hB) (fun j _ _ _ _ y t => TD.next hB j y t)
            simp (config := {decide := true}) only [upd, if_true, if_false, e4, e5] at hK2
            exact hK2
          · refine ⟨_, rfl, fun x w hk hd K' hK => ?_⟩
            obtain ⟨ao6, al6, ac6, bo6, bl6, bc6, e6, h6_0, h6_1⟩ := (hd 6 (of_decide_eq_true (by kernel_rfl)) (.inl rfl))
            clear hd
            go_simp
            have hK2 := hK (x 6) w ⟨rfl, ao6, al6, ac6, bo6, bl6, bc6, (upd_same x 7 _).trans e6⟩ hk (fun j _ _ _ _ y t => t)
            simp (config := {decide := true}) only [upd, if_true, if_false, e6] at hK2 ⊢
            exact hK2
          · refine ⟨_, rfl, fun x w hk hd K' hK => ?_⟩
            obtain ⟨-, ao7, al7, ac7, bo7, bl7, bc7, e7⟩ := (hd 7 (of_decide_eq_true (by kernel_rfl)) (.inl rfl))
            clear hd
            simp only [e7]
            go_simp
            have hK2 := hK _ w (show upd x 8 _ 8 = tupN 0 (x 7) from (upd_same x 8 _).trans (by rw [e7] <;> rfl)) hk (fun j _ _ _ _ y t => t)
            simp (config := {decide := true}) only [upd, if_true, if_false, e7] at hK2
            exact hK2
          · refine ⟨_, rfl, fun x w hk hd K' hK => ?_⟩
            obtain ⟨-, ao7, al7, ac7, bo7, bl7, bc7, e7⟩ := (hd 7 (of_decide_eq_true (by kernel_rfl)) (.inl rfl))
            clear hd
            simp only [e7]
            go_simp
            have hK2 := hK _ w (show upd x 9 _ 9 = tupN 1 (x 7) from (upd_same x 9 _).trans (by rw [e7] <;> rfl)) hk (fun j _ _ _ _ y t => t)
            simp (config := {decide := true}) only [upd, if_true, if_false, e7] at hK2
            exact hK2
          · refine ⟨_, rfl, fun x w hk hd K' hK => ?_⟩
            clear hd
            go_simp
            exact hK _ _ ⟨_, upd_same x 10 _, Below.size hk, Bxs.new2 w _ _ _⟩ (hk.next (alloc1_below _ _)) (fun j _ _ _ _ y t => TD.next (alloc1_below _ _) j y t)
          · refine ⟨_, rfl, fun x w hk hd K' hK => ?_⟩
            obtain ⟨X, eb, hX, hz⟩ := (hd 10 (of_decide_eq_true (by kernel_rfl)) (.inr rfl))
            have ev : x 8 = _ := (hd 8 (of_decide_eq_true (by kernel_rfl)) (.inl rfl))
            obtain ⟨-, ao7, al7, ac7, bo7, bl7, bc7, em⟩ := (hd 7 (of_decide_eq_true (by kernel_rfl)) (.inl rfl))
            rw [em] at ev
            have ev : x 8 = .agg #[.slice ao7 al7 ac7, .slice bo7 bl7 bc7] := ev
            have k0 := hz.c0; have g0 := hz.f0
            have k1 := hz.c1; have g1 := hz.f1
            clear hd
            simp only [ev, eb]
            go_simp
            have hK2 := hK undef ((w.setCell ⟨X, 0, none⟩ (.slice ao7 al7 ac7)).setCell ⟨X, 1, none⟩ (.slice bo7 bl7 bc7)) ⟨X, _, _, eb, ev, hX, hz.set2 _ _⟩ (Below.setCell (Below.setCell hk (p := ⟨X, 0, none⟩) hX _) (p := ⟨X, 1, none⟩) hX _) (fun j hj hne hnr hkl y t => by
              have hjj : j = 0 ∨ j = 1 ∨ j = 2 ∨ j = 3 ∨ j = 4 ∨ j = 5 ∨ j = 6 ∨ j = 7 ∨ j = 8 ∨ j = 9 ∨ j = 12 := by
                rcases (by omega : j = 0 ∨ j = 1 ∨ j = 2 ∨ j = 3 ∨ j = 4 ∨ j = 5 ∨ j = 6 ∨ j = 7 ∨ j = 8 ∨ j = 9 ∨ j = 10 ∨ j = 12) with rfl | rfl | rfl | rfl | rfl | rfl | rfl | rfl | rfl | rfl | rfl | rfl
                · decide
                · decide
                · decide
                · decide
                · decide
                · decide
                · decide
                · decide
                · decide
                · decide
                · exact absurd rfl (hkl 11 rfl).1
                · decide
              exact TD.store11 hz _ _ hjj y t)
            simp (config := {decide := true}) only [upd, if_false, eb, ev, em] at hK2
            exact hK2
          · refine ⟨_, rfl, fun x w hk hd K' hK => ?_⟩
            clear hd
            go_simp
            exact hK _ w (show upd x 12 _ 12 = x 9 from upd_same x 12 _) hk (fun j _ _ _ _ y t => t)
        · intro x w listed hk hT hl
          subst hl
          have t8 := hT 6 (by decide) rfl
          obtain ⟨e9, -⟩ := hT 7 (by decide) rfl
          obtain ⟨X, v, v2, e12, e10, hX, hbx⟩ := hT 11 (by decide) rfl
          obtain ⟨ao, al, ac, bo, bl, bc, e8, hq, hq2⟩ := t8
          have f10 : x 8 = .agg #[.slice ao al ac, .slice bo bl bc] := Eq.trans (hT 8 (by decide) rfl) (by rw [e9, e8]; rfl)
          rw [f10] at e10
          injection e10 with e10; injection e10 with e10; injection e10 with e10 e11; injection e11 with e11 _
          subst e10; subst e11
          have e14 : x 12 = .int .i64 0 := Eq.trans (hT 12 (by decide) rfl) (Eq.trans (hT 9 (by decide) rfl) (by rw [e9, e8]; rfl))
          simp only [e12, e14]
          refine wpAny_done (by kernel_rfl) ?_ _
          have HQ := Lib.hid hq; have HQ2 := Lib.hid hq2; have HBX := Lib.hid hbx; have HKW := Lib.hid hk
          clear e8 e9 e12 f10 e14 hq hq2 hbx hk hT
          go_wp2_with fail
          go_meet
          case rel => exact ⟨X, ao, al, ac, bo, bl, bc, rfl, rfl, HKW, hX, HBX, HQ, HQ2⟩
      case rest =>
        obtain ⟨Y, ro, rl, rc, so, sl, sc, rfl, rfl, HKW, hY, HBY, HQ3, HQ4⟩ := hcut
        obtain ⟨w8, hw8⟩ : ∃ W1, W1 = wc := ⟨_, rfl⟩
        subst hw8
        have HX8 := Lib.hid (HX7.out.next HKW.out); have HB8 := Lib.hid (HB7.out.trans (Below.mono HKW.out HB7.out.size))
        have k0 := (HBX.out.next HKW.out).c0; have k1 := (HBX.out.next HKW.out).c1; have k2 := HBY.out.c0; have k3 := HBY.out.c1
        have HAD2 := Lib.hid (HAD.out w8 _ _ _ _ (HQ.out.below HKW.out) (HQ2.out.below HKW.out) HQ3.out HQ4.out)
        clear HRA HCEL HMU HX7 HZ7 HB7 HKW hY HBX HBY HQ HQ2 HQ3 HQ4
        go_wp2_with fail
        refine HAD2.out.mono ?_
        rintro e v9 ⟨xo, xl, xc, yo, yl, yc, rfl, hp, hq, hb⟩
        obtain ⟨w10, HW10⟩ : ∃ w4, w4 = v9.alloc (.cells #[.slice xo xl xc, .slice yo yl yc] 30) := ⟨_, rfl⟩
        have HS := Lib.hid (show FB v9.heap.size (.slice xo xl xc) (.slice yo yl yc) S N w10 by rw [HW10]; exact FB.new hp hq _)
        have b10 : Below v9.heap.size v9 w10 := by rw [HW10]; exact alloc1_below _ _
        have b810 := hb.trans (b10.mono hb.size)
        have HX10 := Lib.hid (HX8.out.next b810); have HB10 := Lib.hid (HB8.out.trans (b810.mono HB8.out.size)); have HW10' := Lib.hid HW10
        clear hp hq hb b10 b810 HW10 HX8 HB8 k0 k1 k2 k3
        go_upto_region 9 with fail
        rw [← HW10'.out]
        have HRA := HR9
        have HCEL : Hid (∀ W', Kw w10 W' → W'.cell? ⟨v9.heap.size, 0, none⟩ = some (.slice xo xl xc) ∧ W'.cell? ⟨v9.heap.size, 1, none⟩ = some (.slice yo yl yc)) := fun W' h => ⟨(HS.out.box.next h).c0, (HS.out.box.next h).c1⟩
        have HMU : Hid (∀ W' v u, Kw w10 W' → D W' v (lowP 1 1) → D W' u (lowQ 1 1) → Calls Tryd.prog 14 #[.agg #[.slice xo xl xc, .slice yo yl yc], .agg #[v, u]] W' fun e w' => ∃ ao al ac bo bl bc, e = .returned (.tuple #[.agg #[.slice ao al ac, .slice bo bl bc], .int .i64 0]) ∧ D w' (.slice ao al ac) (lowP T N1) ∧ D w' (.slice bo bl bc) (lowQ T N1) ∧ Below W'.heap.size W' w') := fun W' v u h g1 g2 => HAE.out W' _ _ v u (HS.out.num.below h) (HS.out.den.below h) g1 g2
        clear HW10'
        go_cut [21, 22] from 106 to 111 (fun s21 s22 wz => ∃ X po pl pc qo ql qc, s21 = .pointer (some ⟨X, 0, none⟩) ∧ s22 = .int .i64 0 ∧ Hid (Kw w10 wz) ∧ w10.heap.size ≤ X ∧ Hid (Bxs X [.slice po pl pc, .slice qo ql qc] wz) ∧ Hid (D wz (.slice po pl pc) (lowP T N1)) ∧ Hid (D wz (.slice qo ql qc) (lowQ T N1)))
        case first =>
          refine region_own w10 9 (fun x => ⟨#[.int .i64 (lt : Int), .int .i64 (b1 : Int), .int .i64 (m1 : Int), .int .i64 (k : Int), undef, undef, undef, undef, .bool false, .pointer (some ⟨v1.heap.size, 0, none⟩), .int .i64 0, .pointer (some ⟨v3.heap.size, 0, none⟩), .int .i64 0, .pointer (some ⟨v5.heap.size, 0, none⟩), .int .i64 0, .pointer (some ⟨X, 0, none⟩), .int .i64 0, .pointer (some ⟨Y, 0, none⟩), .int .i64 0, .pointer (some ⟨v9.heap.size, 0, none⟩), .int .i64 0, x 6, x 8, .int .i64 (lt : Int), .bool false, .bool false, .int .i64 (lt : Int), .int .i64 (b1 : Int), .int .i64 (m1 : Int), .bool true, .bool false, .bool false, .bool false, .int .i64 (k : Int), .bool false, .bool false, .bool false, .int .i64 (k : Int), .int .i64 (m1 : Int), .bool false, .bool false, .bool false, .int .i64 (b1 : Int), .bool false, .bool false, .bool false, .int .i64 (b1 : Int), .int .i64 (lt : Int), .bool false, .bool false, undef, .tuple #[.agg #[.slice ao al ac, .slice bo bl bc], .int .i64 0], .int .i64 (lt : Int), .int .i64 (b1 : Int), .int .i64 (m1 : Int), .int .i64 (k : Int), .tuple #[.agg #[.slice ao al ac, .slice bo bl bc], .int .i64 0], .agg #[.slice ao al ac, .slice bo bl bc], .int .i64 0, .tuple #[.agg #[.slice co cl cc, .slice do2 dl dc], .int .i64 0], .int .i64 (lt : Int), .int .i64 (l1 : Int), .int .i64 (b1 : Int), .int .i64 (b : Int), .int .i64 (m1 : Int), .int .i64 (m : Int), .int .i64 (k : Int), .int .i64 (↑k - 1), .tuple #[.agg #[.slice co cl cc, .slice do2 dl dc], .int .i64 0], .agg #[.slice co cl cc, .slice do2 dl dc], .int .i64 0, .tuple #[.agg #[.slice eo el ec, .slice fo fl fc], .int .i64 0], .int .i64 (lt : Int), .int .i64 (l1 : Int), .int .i64 (b1 : Int), .int .i64 (m1 : Int), .int .i64 (m : Int), .int .i64 (k : Int), .tuple #[.agg #[.slice eo el ec, .slice fo fl fc], .int .i64 0], .agg #[.slice eo el ec, .slice fo fl fc], .int .i64 0, u81, u82, u83, u84, u85, u86, u87, u88, u89, u90, u91, u92, u93, u94, u95, u96, u97, u98, .tuple #[.agg #[.slice xo xl xc, .slice yo yl yc], .int .i64 0], .agg #[.slice po pl pc, .slice qo ql qc], .agg #[.slice ro rl rc, .slice so sl sc], .tuple #[.agg #[.slice xo xl xc, .slice yo yl yc], .int .i64 0], .agg #[.slice xo xl xc, .slice yo yl yc], .int .i64 0, x 3, x 0, x 1, x 2, x 4, x 5, undef, undef, undef, undef, undef, undef, undef, undef, undef, undef, undef, undef, undef, undef, undef, undef, undef, undef, undef, undef, undef, undef, undef, undef, undef, undef, undef, undef, undef, undef, undef, undef, undef, undef, undef], []⟩) (TM w10 xo yo xl xc yl yc (lowP T N1) (lowQ T N1)) TMkill (fun j => [_, _, _, _, _, _, _, undef, _].getD j undef) rfl (by kernel_rfl) (of_decide_eq_true (by kernel_rfl)) (of_decide_eq_true (by kernel_rfl)) (of_decide_eq_true (by kernel_rfl)) (TM.congr (of_decide_eq_true (by kernel_rfl)) (of_decide_eq_true (by kernel_rfl)) (of_decide_eq_true (by kernel_rfl)) (of_decide_eq_true (by kernel_rfl)) (of_decide_eq_true (by kernel_rfl)) (of_decide_eq_true (by kernel_rfl))) ?_ ?_
          · intro i hi
            have hi2 : i = 0 ∨ i = 1 ∨ i = 2 ∨ i = 3 ∨ i = 4 ∨ i = 5 ∨ i = 6 ∨ i = 7 ∨ i = 8 := by omega
            clear hi
            rcases hi2 with rfl | rfl | rfl | rfl | rfl | rfl | rfl | rfl | rfl
            · refine ⟨_, rfl, fun x w hk hd K' hK => ?_⟩
              obtain ⟨z0, z1⟩ := HCEL.out w hk
              clear hd
              go_simp
              have hK2 := hK _ w (upd_same x 0 _) hk (fun j _ _ _ _ y t => t)
              simp (config := {decide := true}) only [upd, if_true, if_false] at hK2
              exact hK2
            · refine ⟨_, rfl, fun x w hk hd K' hK => ?_⟩
              have HC := Lib.hid (HRA.out w)
              clear hd
              go_simp
              refine HC.out.mono ?_
              rintro e w' ⟨ao, al, ac, bo, bl, bc, rfl, h, h9, hB⟩
              have hK2 := hK _ w' (⟨ao, al, ac, bo, bl, bc, upd_same x 1 _, h, h9⟩) (hk.next hB) (fun j _ _ _ _ y t => TM.next hB j y t)
              simp (config := {decide := true}) only [upd, if_true, if_false] at hK2
              exact hK2
            · refine ⟨_, rfl, fun x w hk hd K' hK => ?_⟩
              have e0 : x 0 = _ := (hd 0 (of_decide_eq_true (by kernel_rfl)) (.inl rfl))
              obtain ⟨ao1, al1, ac1, bo1, bl1, bc1, e1, h1_0, h1_1⟩ := (hd 1 (of_decide_eq_true (by kernel_rfl)) (.inl rfl))
              have HC := Lib.hid (HMU.out w _ _ hk h1_0 h1_1)
              clear h1_0 h1_1
              clear hd
              simp only [e0, e1]
              go_simp
              refine HC.out.mono ?_
              rintro e w' ⟨ao, al, ac, bo, bl, bc, rfl, h, h9, hB⟩
              have hK2 := hK _ w' (⟨ao, al, ac, bo, bl, bc, upd_same x 2 _, h, h9⟩) (hk.next hB) (fun j _ _ _ _ y t => TM.next hB j y t)
              simp (config := {decide := true}) only [upd, if_true, if_false, e0, e1] at hK2
              exact hK2
            · refine ⟨_, rfl, fun x w hk hd K' hK => ?_⟩
              obtain ⟨ao2, al2, ac2, bo2, bl2, bc2, e2, h2_0, h2_1⟩ := (hd 2 (of_decide_eq_true (by kernel_rfl)) (.inl rfl))
              clear hd
              go_simp
              have hK2 := hK (x 2) w ⟨rfl, ao2, al2, ac2, bo2, bl2, bc2, (upd_same x 3 _).trans e2⟩ hk (fun j _ _ _ _ y t => t)
              simp (config := {decide := true}) only [upd, if_true, if_false, e2] at hK2 ⊢
              exact hK2
            · refine ⟨_, rfl, fun x w hk hd K' hK => ?_⟩
              obtain ⟨-, ao3, al3, ac3, bo3, bl3, bc3, e3⟩ := (hd 3 (of_decide_eq_true (by kernel_rfl)) (.inl rfl))
              clear hd
              simp only [e3]
              go_simp
              have hK2 := hK _ w (show upd x 4 _ 4 = tupN 0 (x 3) from (upd_same x 4 _).trans (by rw [e3] <;> rfl)) hk (fun j _ _ _ _ y t => t)
              simp (config := {decide := true}) only [upd, if_true, if_false, e3] at hK2
              exact hK2
            · refine ⟨_, rfl, fun x w hk hd K' hK => ?_⟩
              obtain ⟨-, ao3, al3, ac3, bo3, bl3, bc3, e3⟩ := (hd 3 (of_decide_eq_true (by kernel_rfl)) (.inl rfl))
              clear hd
              simp only [e3]
              go_simp
              have hK2 := hK _ w (show upd x 5 _ 5 = tupN 1 (x 3) from (upd_same x 5 _).trans (by rw [e3] <;> rfl)) hk (fun j _ _ _ _ y t => t)
              simp (config := {decide := true}) only [upd, if_true, if_false, e3] at hK2
              exact hK2
            · refine ⟨_, rfl, fun x w hk hd K' hK => ?_⟩
              clear hd
              go_simp
              exact hK _ _ ⟨_, upd_same x 6 _, Below.size hk, Bxs.new2 w _ _ _⟩ (hk.next (alloc1_below _ _)) (fun j _ _ _ _ y t => TM.next (alloc1_below _ _) j y t)
            · refine ⟨_, rfl, fun x w hk hd K' hK => ?_⟩
              obtain ⟨X, eb, hX, hz⟩ := (hd 6 (of_decide_eq_true (by kernel_rfl)) (.inr rfl))
              have ev : x 4 = _ := (hd 4 (of_decide_eq_true (by kernel_rfl)) (.inl rfl))
              obtain ⟨-, ao3, al3, ac3, bo3, bl3, bc3, em⟩ := (hd 3 (of_decide_eq_true (by kernel_rfl)) (.inl rfl))
              rw [em] at ev
              have ev : x 4 = .agg #[.slice ao3 al3 ac3, .slice bo3 bl3 bc3] := ev
              have k0 := hz.c0; have g0 := hz.f0
              have k1 := hz.c1; have g1 := hz.f1
              clear hd
              simp only [ev, eb]
              go_simp
              have hK2 := hK undef ((w.setCell ⟨X, 0, none⟩ (.slice ao3 al3 ac3)).setCell ⟨X, 1, none⟩ (.slice bo3 bl3 bc3)) ⟨X, _, _, eb, ev, hX, hz.set2 _ _⟩ (Below.setCell (Below.setCell hk (p := ⟨X, 0, none⟩) hX _) (p := ⟨X, 1, none⟩) hX _) (fun j hj hne hnr hkl y t => by
                have hjj : j = 0 ∨ j = 1 ∨ j = 2 ∨ j = 3 ∨ j = 4 ∨ j = 5 ∨ j = 8 := by
                  rcases (by omega : j = 0 ∨ j = 1 ∨ j = 2 ∨ j = 3 ∨ j = 4 ∨ j = 5 ∨ j = 6 ∨ j = 8) with rfl | rfl | rfl | rfl | rfl | rfl | rfl | rfl
                  · decide
                  · decide
                  · decide
                  · decide
                  · decide
                  · decide
                  · exact absurd rfl (hkl 7 rfl).1
                  · decide
                exact TM.store7 hz _ _ hjj y t)
              simp (config := {decide := true}) only [upd, if_false, eb, ev, em] at hK2
              exact hK2
            · refine ⟨_, rfl, fun x w hk hd K' hK => ?_⟩
              clear hd
              go_simp
              exact hK _ w (show upd x 8 _ 8 = x 5 from upd_same x 8 _) hk (fun j _ _ _ _ y t => t)
          · intro x w listed hk hT hl
            subst hl
            have t8 := hT 2 (by decide) rfl
            obtain ⟨e9, -⟩ := hT 3 (by decide) rfl
            obtain ⟨X, v, v2, e12, e10, hX, hbx⟩ := hT 7 (by decide) rfl
            obtain ⟨ao, al, ac, bo, bl, bc, e8, hq, hq2⟩ := t8
            have f10 : x 4 = .agg #[.slice ao al ac, .slice bo bl bc] := Eq.trans (hT 4 (by decide) rfl) (by rw [e9, e8]; rfl)
            rw [f10] at e10
            injection e10 with e10; injection e10 with e10; injection e10 with e10 e11; injection e11 with e11 _
            subst e10; subst e11
            have e14 : x 8 = .int .i64 0 := Eq.trans (hT 8 (by decide) rfl) (Eq.trans (hT 5 (by decide) rfl) (by rw [e9, e8]; rfl))
            simp only [e12, e14]
            refine wpAny_done (by kernel_rfl) ?_ _
            have HQ := Lib.hid hq; have HQ2 := Lib.hid hq2; have HBX := Lib.hid hbx; have HKW := Lib.hid hk
            clear e8 e9 e12 f10 e14 hq hq2 hbx hk hT
            go_wp2_with fail
            go_meet
            case rel => exact ⟨X, ao, al, ac, bo, bl, bc, rfl, rfl, HKW, hX, HBX, HQ, HQ2⟩
        case rest =>
          obtain ⟨X, po, pl, pc, qo, ql, qc, rfl, rfl, HKW, hX, HBX, HQ, HQ2⟩ := hcut
          obtain ⟨w14, hw14⟩ : ∃ W1, W1 = wc := ⟨_, rfl⟩
          subst hw14
          have HX14 := Lib.hid (HX10.out.next HKW.out)
          have HB14 := Lib.hid (HB10.out.trans (Below.mono HKW.out HB10.out.size))
          have k0 := HX14.out.box.c0; have k1 := HX14.out.box.c1; have k2 := HBX.out.c0; have k3 := HBX.out.c1
          clear HRA HCEL HMU HX10 HB10 HKW hX HS
          go_wp2_with fail
          refine (HCM.out _ _ _ _ _ HQ.out HQ2.out HX14.out.num HX14.out.den).mono ?_
          rintro e w11 ⟨rfl, hb⟩
          have HB11 := Lib.hid (HB14.out.trans (hb.out.mono HB14.out.size))
          clear hb k0 k1 k2 k3
          go_wp2_with fail
          refine (HAW.out _ HB11.out).mono ?_
          rintro e w12 ⟨rfl, hb⟩
          have HB12 := Lib.hid (HB11.out.trans (hb.out.mono HB11.out.size))
          clear hb
          go_wp2_with fail
          go_ret
          exact ⟨rfl, HB12.out⟩
end Go.Proofs.YtcmancfdlfhgbaaDoor
