/- The law SampleGrows. -/
import Derived.OrdersHeld
import Derived.Test.YteieedfigoihpaaDoorTSm3
namespace Go.Proofs.YteieedfigoihpaaDoor
open Go Go.RowKit Gu

theorem accS_mono {b g n : Nat} {c d : Int} (h : c ≤ d) : accS b g n c ≤ accS b g n d := by
  unfold accS; exact hsum_mono (by omega)
theorem accS_neg {b g n : Nat} {c : Int} (h : c < 0) : accS b g n c = 0 := by
  unfold accS; rw [show (c + 1).toNat = 0 by omega]; rfl
theorem accS_all {b g n : Nat} {c : Int} (h : c ≥ n) : accS b g n c = pascalN (b + g) n := by
  unfold accS; rw [hsum_full (by omega), hsum_all]
theorem accS_worse (b g n : Nat) (c : Int) : accS (b + 1) g n c ≤ accS b (g + 1) n c := hsum_worse _ _ _ _
/-- what each operation yields -/
def TGA (w0 : World) (go ho io jo : Option Addr) (gl gc hl hc il ic jl jc m : Nat) (c R1 R2 : Int) : Nat → (Nat → Value) → World → Prop
  | 0, x, _ => x 0 = .int .i64 0
  | 1, x, _ => x 1 = .bool false
  | 2, x, _ => x 2 = .bool false
  | 3, x, _ => x 3 = .int .i64 0
  | 4, x, _ => x 4 = .bool false
  | 5, x, _ => x 5 = .bool false
  | 6, x, _ => x 6 = .bool false
  | 7, x, _ => x 7 = .agg #[.slice go gl gc, .slice ho hl hc]
  | 8, x, _ => x 8 = .agg #[.slice io il ic, .slice jo jl jc]
  | 9, x, _ => x 9 = .int .i64 R1
  | 10, x, _ => x 10 = .bool false
  | 11, x, _ => x 11 = .bool false
  | 12, x, _ => x 12 = .bool false
  | 13, x, _ => x 13 = .agg #[.slice io il ic, .slice jo jl jc]
  | 14, x, w => ∃ ao ai ac bo bl bc, x 14 = .agg #[.slice ao ai ac, .slice bo bl bc] ∧ D w (.slice ao ai ac) (lowP 1 1) ∧ D w (.slice bo bl bc) (lowQ 1 1)
  | 15, x, _ => x 15 = .int .i64 R2
  | 16, x, _ => x 16 = .bool false
  | 17, x, _ => x 17 = .bool false
  | 18, x, _ => x 18 = .bool false
  | 19, x, _ => x 19 = .int .i64 c
  | 20, x, _ => x 20 = .bool true
  | 21, x, _ => x 21 = .bool true
  | 22, x, _ => x 22 = .agg #[.slice go gl gc, .slice ho hl hc]
  | 23, x, _ => x 23 = .string ⟨#[48]⟩
  | 24, x, _ => x 24 = .bool false
  | 25, x, _ => x 25 = .bool false
  | 26, x, _ => x 26 = .bool false
  | 27, x, _ => x 27 = .bool false
  | 28, x, _ => x 28 = .int .i64 c
  | 29, x, _ => x 29 = .int .i64 (m : Int)
  | 30, x, _ => x 30 = .bool false
  | 31, x, _ => x 31 = .bool false
  | 32, x, _ => x 32 = undef
  | 33, x, _ => x 33 = undef
  | 34, x, _ => x 34 = undef
  | 35, x, _ => x 35 = .bool false
  | 36, x, _ => x 36 = .bool false
  | _ + 37, _, _ => True
def TGAkill : Nat → Option Nat
  | _ => none
theorem TGA.congr {w0 : World} {go ho io jo : Option Addr} {gl gc hl hc il ic jl jc m : Nat} {c R1 R2 : Int} {DD : Nat → List Nat}  : ∀ i x y w, (∀ j, j = i ∨ j ∈ DD i → x j = y j) → TGA w0 go ho io jo gl gc hl hc il ic jl jc m c R1 R2 i x w → TGA w0 go ho io jo gl gc hl hc il ic jl jc m c R1 R2 i y w
  | 0, x, y, w, h, t => by have e := h 0 (.inl rfl); simp only [TGA] at t ⊢; rw [← e]; exact t
  | 1, x, y, w, h, t => by have e := h 1 (.inl rfl); simp only [TGA] at t ⊢; rw [← e]; exact t
  | 2, x, y, w, h, t => by have e := h 2 (.inl rfl); simp only [TGA] at t ⊢; rw [← e]; exact t
  | 3, x, y, w, h, t => by have e := h 3 (.inl rfl); simp only [TGA] at t ⊢; rw [← e]; exact t
  | 4, x, y, w, h, t => by have e := h 4 (.inl rfl); simp only [TGA] at t ⊢; rw [← e]; exact t
  | 5, x, y, w, h, t => by have e := h 5 (.inl rfl); simp only [TGA] at t ⊢; rw [← e]; exact t
  | 6, x, y, w, h, t => by have e := h 6 (.inl rfl); simp only [TGA] at t ⊢; rw [← e]; exact t
  | 7, x, y, w, h, t => by have e := h 7 (.inl rfl); simp only [TGA] at t ⊢; rw [← e]; exact t
  | 8, x, y, w, h, t => by have e := h 8 (.inl rfl); simp only [TGA] at t ⊢; rw [← e]; exact t
  | 9, x, y, w, h, t => by have e := h 9 (.inl rfl); simp only [TGA] at t ⊢; rw [← e]; exact t
  | 10, x, y, w, h, t => by have e := h 10 (.inl rfl); simp only [TGA] at t ⊢; rw [← e]; exact t
  | 11, x, y, w, h, t => by have e := h 11 (.inl rfl); simp only [TGA] at t ⊢; rw [← e]; exact t
  | 12, x, y, w, h, t => by have e := h 12 (.inl rfl); simp only [TGA] at t ⊢; rw [← e]; exact t
  | 13, x, y, w, h, t => by have e := h 13 (.inl rfl); simp only [TGA] at t ⊢; rw [← e]; exact t
  | 14, x, y, w, h, t => by have e := h 14 (.inl rfl); simp only [TGA] at t ⊢; rw [← e]; exact t
  | 15, x, y, w, h, t => by have e := h 15 (.inl rfl); simp only [TGA] at t ⊢; rw [← e]; exact t
  | 16, x, y, w, h, t => by have e := h 16 (.inl rfl); simp only [TGA] at t ⊢; rw [← e]; exact t
  | 17, x, y, w, h, t => by have e := h 17 (.inl rfl); simp only [TGA] at t ⊢; rw [← e]; exact t
  | 18, x, y, w, h, t => by have e := h 18 (.inl rfl); simp only [TGA] at t ⊢; rw [← e]; exact t
  | 19, x, y, w, h, t => by have e := h 19 (.inl rfl); simp only [TGA] at t ⊢; rw [← e]; exact t
  | 20, x, y, w, h, t => by have e := h 20 (.inl rfl); simp only [TGA] at t ⊢; rw [← e]; exact t
  | 21, x, y, w, h, t => by have e := h 21 (.inl rfl); simp only [TGA] at t ⊢; rw [← e]; exact t
  | 22, x, y, w, h, t => by have e := h 22 (.inl rfl); simp only [TGA] at t ⊢; rw [← e]; exact t
  | 23, x, y, w, h, t => by have e := h 23 (.inl rfl); simp only [TGA] at t ⊢; rw [← e]; exact t
  | 24, x, y, w, h, t => by have e := h 24 (.inl rfl); simp only [TGA] at t ⊢; rw [← e]; exact t
  | 25, x, y, w, h, t => by have e := h 25 (.inl rfl); simp only [TGA] at t ⊢; rw [← e]; exact t
  | 26, x, y, w, h, t => by have e := h 26 (.inl rfl); simp only [TGA] at t ⊢; rw [← e]; exact t
  | 27, x, y, w, h, t => by have e := h 27 (.inl rfl); simp only [TGA] at t ⊢; rw [← e]; exact t
  | 28, x, y, w, h, t => by have e := h 28 (.inl rfl); simp only [TGA] at t ⊢; rw [← e]; exact t
  | 29, x, y, w, h, t => by have e := h 29 (.inl rfl); simp only [TGA] at t ⊢; rw [← e]; exact t
  | 30, x, y, w, h, t => by have e := h 30 (.inl rfl); simp only [TGA] at t ⊢; rw [← e]; exact t
  | 31, x, y, w, h, t => by have e := h 31 (.inl rfl); simp only [TGA] at t ⊢; rw [← e]; exact t
  | 32, x, y, w, h, t => by have e := h 32 (.inl rfl); simp only [TGA] at t ⊢; rw [← e]; exact t
  | 33, x, y, w, h, t => by have e := h 33 (.inl rfl); simp only [TGA] at t ⊢; rw [← e]; exact t
  | 34, x, y, w, h, t => by have e := h 34 (.inl rfl); simp only [TGA] at t ⊢; rw [← e]; exact t
  | 35, x, y, w, h, t => by have e := h 35 (.inl rfl); simp only [TGA] at t ⊢; rw [← e]; exact t
  | 36, x, y, w, h, t => by have e := h 36 (.inl rfl); simp only [TGA] at t ⊢; rw [← e]; exact t
  | _ + 37, x, y, w, h, t => trivial
theorem TGA.next {w0 : World} {go ho io jo : Option Addr} {gl gc hl hc il ic jl jc m : Nat} {c R1 R2 : Int} {w w' : World} (hb : Below w.heap.size w w') : ∀ j y, TGA w0 go ho io jo gl gc hl hc il ic jl jc m c R1 R2 j y w → TGA w0 go ho io jo gl gc hl hc il ic jl jc m c R1 R2 j y w'
  | 0, y, t => t
  | 1, y, t => t
  | 2, y, t => t
  | 3, y, t => t
  | 4, y, t => t
  | 5, y, t => t
  | 6, y, t => t
  | 7, y, t => t
  | 8, y, t => t
  | 9, y, t => t
  | 10, y, t => t
  | 11, y, t => t
  | 12, y, t => t
  | 13, y, t => t
  | 14, y, t => by obtain ⟨ao, ai, ac, bo, bl, bc, e, h0, h1⟩ := t; exact ⟨ao, ai, ac, bo, bl, bc, e, h0.below hb, h1.below hb⟩
  | 15, y, t => t
  | 16, y, t => t
  | 17, y, t => t
  | 18, y, t => t
  | 19, y, t => t
  | 20, y, t => t
  | 21, y, t => t
  | 22, y, t => t
  | 23, y, t => t
  | 24, y, t => t
  | 25, y, t => t
  | 26, y, t => t
  | 27, y, t => t
  | 28, y, t => t
  | 29, y, t => t
  | 30, y, t => t
  | 31, y, t => t
  | 32, y, t => t
  | 33, y, t => t
  | 34, y, t => t
  | 35, y, t => t
  | 36, y, t => t
  | _ + 37, y, t => trivial
/-- what each operation yields -/
def TGC (w0 : World) (go ho io jo : Option Addr) (gl gc hl hc il ic jl jc m : Nat) (c R1 R2 : Int) : Nat → (Nat → Value) → World → Prop
  | 0, x, _ => x 0 = .int .i64 0
  | 1, x, _ => x 1 = .bool false
  | 2, x, _ => x 2 = .bool false
  | 3, x, _ => x 3 = .int .i64 0
  | 4, x, _ => x 4 = .bool false
  | 5, x, _ => x 5 = .bool false
  | 6, x, _ => x 6 = .bool false
  | 7, x, _ => x 7 = .agg #[.slice go gl gc, .slice ho hl hc]
  | 8, x, _ => x 8 = .agg #[.slice io il ic, .slice jo jl jc]
  | 9, x, _ => x 9 = .int .i64 R1
  | 10, x, _ => x 10 = .bool false
  | 11, x, _ => x 11 = .bool false
  | 12, x, _ => x 12 = .bool false
  | 13, x, _ => x 13 = .agg #[.slice io il ic, .slice jo jl jc]
  | 14, x, w => ∃ ao ai ac bo bl bc, x 14 = .agg #[.slice ao ai ac, .slice bo bl bc] ∧ D w (.slice ao ai ac) (lowP 1 1) ∧ D w (.slice bo bl bc) (lowQ 1 1)
  | 15, x, _ => x 15 = .int .i64 R2
  | 16, x, _ => x 16 = .bool false
  | 17, x, _ => x 17 = .bool false
  | 18, x, _ => x 18 = .bool false
  | 19, x, _ => x 19 = .int .i64 c
  | 20, x, _ => x 20 = .bool false
  | 21, x, _ => x 21 = .bool false
  | 22, x, _ => x 22 = undef
  | 23, x, _ => x 23 = undef
  | 24, x, _ => x 24 = undef
  | 25, x, _ => x 25 = .bool false
  | 26, x, _ => x 26 = .bool false
  | 27, x, _ => x 27 = .bool false
  | 28, x, _ => x 28 = .int .i64 c
  | 29, x, _ => x 29 = .int .i64 (m : Int)
  | 30, x, _ => x 30 = .bool true
  | 31, x, _ => x 31 = .bool true
  | 32, x, _ => x 32 = .agg #[.slice go gl gc, .slice ho hl hc]
  | 33, x, _ => x 33 = .string ⟨#[49]⟩
  | 34, x, _ => x 34 = .bool false
  | 35, x, _ => x 35 = .bool false
  | 36, x, _ => x 36 = .bool false
  | _ + 37, _, _ => True
def TGCkill : Nat → Option Nat
  | _ => none
theorem TGC.congr {w0 : World} {go ho io jo : Option Addr} {gl gc hl hc il ic jl jc m : Nat} {c R1 R2 : Int} {DD : Nat → List Nat}  : ∀ i x y w, (∀ j, j = i ∨ j ∈ DD i → x j = y j) → TGC w0 go ho io jo gl gc hl hc il ic jl jc m c R1 R2 i x w → TGC w0 go ho io jo gl gc hl hc il ic jl jc m c R1 R2 i y w
  | 0, x, y, w, h, t => by have e := h 0 (.inl rfl); simp only [TGC] at t ⊢; rw [← e]; exact t
  | 1, x, y, w, h, t => by have e := h 1 (.inl rfl); simp only [TGC] at t ⊢; rw [← e]; exact t
  | 2, x, y, w, h, t => by have e := h 2 (.inl rfl); simp only [TGC] at t ⊢; rw [← e]; exact t
  | 3, x, y, w, h, t => by have e := h 3 (.inl rfl); simp only [TGC] at t ⊢; rw [← e]; exact t
  | 4, x, y, w, h, t => by have e := h 4 (.inl rfl); simp only [TGC] at t ⊢; rw [← e]; exact t
  | 5, x, y, w, h, t => by have e := h 5 (.inl rfl); simp only [TGC] at t ⊢; rw [← e]; exact t
  | 6, x, y, w, h, t => by have e := h 6 (.inl rfl); simp only [TGC] at t ⊢; rw [← e]; exact t
  | 7, x, y, w, h, t => by have e := h 7 (.inl rfl); simp only [TGC] at t ⊢; rw [← e]; exact t
  | 8, x, y, w, h, t => by have e := h 8 (.inl rfl); simp only [TGC] at t ⊢; rw [← e]; exact t
  | 9, x, y, w, h, t => by have e := h 9 (.inl rfl); simp only [TGC] at t ⊢; rw [← e]; exact t
  | 10, x, y, w, h, t => by have e := h 10 (.inl rfl); simp only [TGC] at t ⊢; rw [← e]; exact t
  | 11, x, y, w, h, t => by have e := h 11 (.inl rfl); simp only [TGC] at t ⊢; rw [← e]; exact t
  | 12, x, y, w, h, t => by have e := h 12 (.inl rfl); simp only [TGC] at t ⊢; rw [← e]; exact t
  | 13, x, y, w, h, t => by have e := h 13 (.inl rfl); simp only [TGC] at t ⊢; rw [← e]; exact t
  | 14, x, y, w, h, t => by have e := h 14 (.inl rfl); simp only [TGC] at t ⊢; rw [← e]; exact t
  | 15, x, y, w, h, t => by have e := h 15 (.inl rfl); simp only [TGC] at t ⊢; rw [← e]; exact t
  | 16, x, y, w, h, t => by have e := h 16 (.inl rfl); simp only [TGC] at t ⊢; rw [← e]; exact t
  | 17, x, y, w, h, t => by have e := h 17 (.inl rfl); simp only [TGC] at t ⊢; rw [← e]; exact t
  | 18, x, y, w, h, t => by have e := h 18 (.inl rfl); simp only [TGC] at t ⊢; rw [← e]; exact t
  | 19, x, y, w, h, t => by have e := h 19 (.inl rfl); simp only [TGC] at t ⊢; rw [← e]; exact t
  | 20, x, y, w, h, t => by have e := h 20 (.inl rfl); simp only [TGC] at t ⊢; rw [← e]; exact t
  | 21, x, y, w, h, t => by have e := h 21 (.inl rfl); simp only [TGC] at t ⊢; rw [← e]; exact t
  | 22, x, y, w, h, t => by have e := h 22 (.inl rfl); simp only [TGC] at t ⊢; rw [← e]; exact t
  | 23, x, y, w, h, t => by have e := h 23 (.inl rfl); simp only [TGC] at t ⊢; rw [← e]; exact t
  | 24, x, y, w, h, t => by have e := h 24 (.inl rfl); simp only [TGC] at t ⊢; rw [← e]; exact t
  | 25, x, y, w, h, t => by have e := h 25 (.inl rfl); simp only [TGC] at t ⊢; rw [← e]; exact t
  | 26, x, y, w, h, t => by have e := h 26 (.inl rfl); simp only [TGC] at t ⊢; rw [← e]; exact t
  | 27, x, y, w, h, t => by have e := h 27 (.inl rfl); simp only [TGC] at t ⊢; rw [← e]; exact t
  | 28, x, y, w, h, t => by have e := h 28 (.inl rfl); simp only [TGC] at t ⊢; rw [← e]; exact t
  | 29, x, y, w, h, t => by have e := h 29 (.inl rfl); simp only [TGC] at t ⊢; rw [← e]; exact t
  | 30, x, y, w, h, t => by have e := h 30 (.inl rfl); simp only [TGC] at t ⊢; rw [← e]; exact t
  | 31, x, y, w, h, t => by have e := h 31 (.inl rfl); simp only [TGC] at t ⊢; rw [← e]; exact t
  | 32, x, y, w, h, t => by have e := h 32 (.inl rfl); simp only [TGC] at t ⊢; rw [← e]; exact t
  | 33, x, y, w, h, t => by have e := h 33 (.inl rfl); simp only [TGC] at t ⊢; rw [← e]; exact t
  | 34, x, y, w, h, t => by have e := h 34 (.inl rfl); simp only [TGC] at t ⊢; rw [← e]; exact t
  | 35, x, y, w, h, t => by have e := h 35 (.inl rfl); simp only [TGC] at t ⊢; rw [← e]; exact t
  | 36, x, y, w, h, t => by have e := h 36 (.inl rfl); simp only [TGC] at t ⊢; rw [← e]; exact t
  | _ + 37, x, y, w, h, t => trivial
theorem TGC.next {w0 : World} {go ho io jo : Option Addr} {gl gc hl hc il ic jl jc m : Nat} {c R1 R2 : Int} {w w' : World} (hb : Below w.heap.size w w') : ∀ j y, TGC w0 go ho io jo gl gc hl hc il ic jl jc m c R1 R2 j y w → TGC w0 go ho io jo gl gc hl hc il ic jl jc m c R1 R2 j y w'
  | 0, y, t => t
  | 1, y, t => t
  | 2, y, t => t
  | 3, y, t => t
  | 4, y, t => t
  | 5, y, t => t
  | 6, y, t => t
  | 7, y, t => t
  | 8, y, t => t
  | 9, y, t => t
  | 10, y, t => t
  | 11, y, t => t
  | 12, y, t => t
  | 13, y, t => t
  | 14, y, t => by obtain ⟨ao, ai, ac, bo, bl, bc, e, h0, h1⟩ := t; exact ⟨ao, ai, ac, bo, bl, bc, e, h0.below hb, h1.below hb⟩
  | 15, y, t => t
  | 16, y, t => t
  | 17, y, t => t
  | 18, y, t => t
  | 19, y, t => t
  | 20, y, t => t
  | 21, y, t => t
  | 22, y, t => t
  | 23, y, t => t
  | 24, y, t => t
  | 25, y, t => t
  | 26, y, t => t
  | 27, y, t => t
  | 28, y, t => t
  | 29, y, t => t
  | 30, y, t => t
  | 31, y, t => t
  | 32, y, t => t
  | 33, y, t => t
  | 34, y, t => t
  | 35, y, t => t
  | 36, y, t => t
  | _ + 37, y, t => trivial
/-- what each operation yields -/
def TGB (w0 : World) (go ho io jo : Option Addr) (gl gc hl hc il ic jl jc m : Nat) (c R1 R2 : Int) : Nat → (Nat → Value) → World → Prop
  | 0, x, _ => x 0 = .int .i64 0
  | 1, x, _ => x 1 = .bool false
  | 2, x, _ => x 2 = .bool false
  | 3, x, _ => x 3 = .int .i64 0
  | 4, x, _ => x 4 = .bool false
  | 5, x, _ => x 5 = .bool false
  | 6, x, _ => x 6 = .bool false
  | 7, x, _ => x 7 = .agg #[.slice go gl gc, .slice ho hl hc]
  | 8, x, _ => x 8 = .agg #[.slice io il ic, .slice jo jl jc]
  | 9, x, _ => x 9 = .int .i64 R1
  | 10, x, _ => x 10 = .bool false
  | 11, x, _ => x 11 = .bool false
  | 12, x, _ => x 12 = .bool false
  | 13, x, _ => x 13 = .agg #[.slice io il ic, .slice jo jl jc]
  | 14, x, w => ∃ ao ai ac bo bl bc, x 14 = .agg #[.slice ao ai ac, .slice bo bl bc] ∧ D w (.slice ao ai ac) (lowP 1 1) ∧ D w (.slice bo bl bc) (lowQ 1 1)
  | 15, x, _ => x 15 = .int .i64 R2
  | 16, x, _ => x 16 = .bool false
  | 17, x, _ => x 17 = .bool false
  | 18, x, _ => x 18 = .bool false
  | 19, x, _ => x 19 = .int .i64 c
  | 20, x, _ => x 20 = .bool false
  | 21, x, _ => x 21 = .bool false
  | 22, x, _ => x 22 = undef
  | 23, x, _ => x 23 = undef
  | 24, x, _ => x 24 = undef
  | 25, x, _ => x 25 = .bool false
  | 26, x, _ => x 26 = .bool false
  | 27, x, _ => x 27 = .bool false
  | 28, x, _ => x 28 = .int .i64 c
  | 29, x, _ => x 29 = .int .i64 (m : Int)
  | 30, x, _ => x 30 = .bool false
  | 31, x, _ => x 31 = .bool false
  | 32, x, _ => x 32 = undef
  | 33, x, _ => x 33 = undef
  | 34, x, _ => x 34 = undef
  | 35, x, _ => x 35 = .bool false
  | 36, x, _ => x 36 = .bool false
  | _ + 37, _, _ => True
def TGBkill : Nat → Option Nat
  | _ => none
theorem TGB.congr {w0 : World} {go ho io jo : Option Addr} {gl gc hl hc il ic jl jc m : Nat} {c R1 R2 : Int} {DD : Nat → List Nat}  : ∀ i x y w, (∀ j, j = i ∨ j ∈ DD i → x j = y j) → TGB w0 go ho io jo gl gc hl hc il ic jl jc m c R1 R2 i x w → TGB w0 go ho io jo gl gc hl hc il ic jl jc m c R1 R2 i y w
  | 0, x, y, w, h, t => by have e := h 0 (.inl rfl); simp only [TGB] at t ⊢; rw [← e]; exact t
  | 1, x, y, w, h, t => by have e := h 1 (.inl rfl); simp only [TGB] at t ⊢; rw [← e]; exact t
  | 2, x, y, w, h, t => by have e := h 2 (.inl rfl); simp only [TGB] at t ⊢; rw [← e]; exact t
  | 3, x, y, w, h, t => by have e := h 3 (.inl rfl); simp only [TGB] at t ⊢; rw [← e]; exact t
  | 4, x, y, w, h, t => by have e := h 4 (.inl rfl); simp only [TGB] at t ⊢; rw [← e]; exact t
  | 5, x, y, w, h, t => by have e := h 5 (.inl rfl); simp only [TGB] at t ⊢; rw [← e]; exact t
  | 6, x, y, w, h, t => by have e := h 6 (.inl rfl); simp only [TGB] at t ⊢; rw [← e]; exact t
  | 7, x, y, w, h, t => by have e := h 7 (.inl rfl); simp only [TGB] at t ⊢; rw [← e]; exact t
  | 8, x, y, w, h, t => by have e := h 8 (.inl rfl); simp only [TGB] at t ⊢; rw [← e]; exact t
  | 9, x, y, w, h, t => by have e := h 9 (.inl rfl); simp only [TGB] at t ⊢; rw [← e]; exact t
  | 10, x, y, w, h, t => by have e := h 10 (.inl rfl); simp only [TGB] at t ⊢; rw [← e]; exact t
  | 11, x, y, w, h, t => by have e := h 11 (.inl rfl); simp only [TGB] at t ⊢; rw [← e]; exact t
  | 12, x, y, w, h, t => by have e := h 12 (.inl rfl); simp only [TGB] at t ⊢; rw [← e]; exact t
  | 13, x, y, w, h, t => by have e := h 13 (.inl rfl); simp only [TGB] at t ⊢; rw [← e]; exact t
  | 14, x, y, w, h, t => by have e := h 14 (.inl rfl); simp only [TGB] at t ⊢; rw [← e]; exact t
  | 15, x, y, w, h, t => by have e := h 15 (.inl rfl); simp only [TGB] at t ⊢; rw [← e]; exact t
  | 16, x, y, w, h, t => by have e := h 16 (.inl rfl); simp only [TGB] at t ⊢; rw [← e]; exact t
  | 17, x, y, w, h, t => by have e := h 17 (.inl rfl); simp only [TGB] at t ⊢; rw [← e]; exact t
  | 18, x, y, w, h, t => by have e := h 18 (.inl rfl); simp only [TGB] at t ⊢; rw [← e]; exact t
  | 19, x, y, w, h, t => by have e := h 19 (.inl rfl); simp only [TGB] at t ⊢; rw [← e]; exact t
  | 20, x, y, w, h, t => by have e := h 20 (.inl rfl); simp only [TGB] at t ⊢; rw [← e]; exact t
  | 21, x, y, w, h, t => by have e := h 21 (.inl rfl); simp only [TGB] at t ⊢; rw [← e]; exact t
  | 22, x, y, w, h, t => by have e := h 22 (.inl rfl); simp only [TGB] at t ⊢; rw [← e]; exact t
  | 23, x, y, w, h, t => by have e := h 23 (.inl rfl); simp only [TGB] at t ⊢; rw [← e]; exact t
  | 24, x, y, w, h, t => by have e := h 24 (.inl rfl); simp only [TGB] at t ⊢; rw [← e]; exact t
  | 25, x, y, w, h, t => by have e := h 25 (.inl rfl); simp only [TGB] at t ⊢; rw [← e]; exact t
  | 26, x, y, w, h, t => by have e := h 26 (.inl rfl); simp only [TGB] at t ⊢; rw [← e]; exact t
  | 27, x, y, w, h, t => by have e := h 27 (.inl rfl); simp only [TGB] at t ⊢; rw [← e]; exact t
  | 28, x, y, w, h, t => by have e := h 28 (.inl rfl); simp only [TGB] at t ⊢; rw [← e]; exact t
  | 29, x, y, w, h, t => by have e := h 29 (.inl rfl); simp only [TGB] at t ⊢; rw [← e]; exact t
  | 30, x, y, w, h, t => by have e := h 30 (.inl rfl); simp only [TGB] at t ⊢; rw [← e]; exact t
  | 31, x, y, w, h, t => by have e := h 31 (.inl rfl); simp only [TGB] at t ⊢; rw [← e]; exact t
  | 32, x, y, w, h, t => by have e := h 32 (.inl rfl); simp only [TGB] at t ⊢; rw [← e]; exact t
  | 33, x, y, w, h, t => by have e := h 33 (.inl rfl); simp only [TGB] at t ⊢; rw [← e]; exact t
  | 34, x, y, w, h, t => by have e := h 34 (.inl rfl); simp only [TGB] at t ⊢; rw [← e]; exact t
  | 35, x, y, w, h, t => by have e := h 35 (.inl rfl); simp only [TGB] at t ⊢; rw [← e]; exact t
  | 36, x, y, w, h, t => by have e := h 36 (.inl rfl); simp only [TGB] at t ⊢; rw [← e]; exact t
  | _ + 37, x, y, w, h, t => trivial
theorem TGB.next {w0 : World} {go ho io jo : Option Addr} {gl gc hl hc il ic jl jc m : Nat} {c R1 R2 : Int} {w w' : World} (hb : Below w.heap.size w w') : ∀ j y, TGB w0 go ho io jo gl gc hl hc il ic jl jc m c R1 R2 j y w → TGB w0 go ho io jo gl gc hl hc il ic jl jc m c R1 R2 j y w'
  | 0, y, t => t
  | 1, y, t => t
  | 2, y, t => t
  | 3, y, t => t
  | 4, y, t => t
  | 5, y, t => t
  | 6, y, t => t
  | 7, y, t => t
  | 8, y, t => t
  | 9, y, t => t
  | 10, y, t => t
  | 11, y, t => t
  | 12, y, t => t
  | 13, y, t => t
  | 14, y, t => by obtain ⟨ao, ai, ac, bo, bl, bc, e, h0, h1⟩ := t; exact ⟨ao, ai, ac, bo, bl, bc, e, h0.below hb, h1.below hb⟩
  | 15, y, t => t
  | 16, y, t => t
  | 17, y, t => t
  | 18, y, t => t
  | 19, y, t => t
  | 20, y, t => t
  | 21, y, t => t
  | 22, y, t => t
  | 23, y, t => t
  | 24, y, t => t
  | 25, y, t => t
  | 26, y, t => t
  | 27, y, t => t
  | 28, y, t => t
  | 29, y, t => t
  | 30, y, t => t
  | 31, y, t => t
  | 32, y, t => t
  | 33, y, t => t
  | 34, y, t => t
  | 35, y, t => t
  | 36, y, t => t
  | _ + 37, y, t => trivial
set_option maxRecDepth 100000 in
set_option maxHeartbeats 8000000 in
theorem sampleGrows_law {lot bad n c : Int} {W : World} (_hl : -9223372036854775808 ≤ lot ∧ lot ≤ 9223372036854775807) (_hb : -9223372036854775808 ≤ bad ∧ bad ≤ 9223372036854775807) (_hn : -9223372036854775808 ≤ n ∧ n ≤ 9223372036854775807) (_hc : -9223372036854775808 ≤ c ∧ c ≤ 9223372036854775807) (he : Env W) :
    Calls Tryd.prog 5 #[.int .i64 lot, .int .i64 bad, .int .i64 n, .int .i64 c] W fun e w' => e = .returned (.bool true) ∧ Below W.heap.size W w' := by
  have HAW : Hid (∀ W', Below W.heap.size W W' → Calls Tryd.prog 9 #[] W' fun e w' => e = .returned (.bool true) ∧ Hid (Below W'.heap.size W' w')) := fun W' h => sawake_any W' (he.below h)
  by_cases hbig : lot > 300
  case pos =>
    clear he _hc _hl _hb _hn
    go_enter Tryd.func5, Tryd.ntmps5
    go_wp2_with fail
    refine (HAW.out _ (Below.refl _ _)).mono ?_
    rintro e w' ⟨rfl, hb⟩
    go_wp2_with fail
    go_ret
    exact ⟨rfl, hb.out⟩
  by_cases hgood : GoodP lot bad n 2048
  case neg =>
    have HG := Good_no hgood
    clear hgood he _hc _hl _hb _hn
    go_enter Tryd.func5, Tryd.ntmps5
    go_wp2_with fail
    refine (HG.out _).mono ?_
    rintro e w' ⟨rfl, rfl⟩
    go_wp2_with fail
    refine (HAW.out _ (Below.refl _ _)).mono ?_
    rintro e w' ⟨rfl, hb⟩
    go_wp2_with fail
    go_ret
    exact ⟨rfl, hb.out⟩
  have HG := Good_yes hgood
  by_cases hfar : c > 1099511627776
  case pos =>
    clear hgood he _hc _hl _hb _hn
    go_enter Tryd.func5, Tryd.ntmps5
    go_wp2_with fail
    refine (HG.out _).mono ?_
    rintro e w' ⟨rfl, rfl⟩
    go_wp2_with fail
    refine (HAW.out _ (Below.refl _ _)).mono ?_
    rintro e w' ⟨rfl, hb⟩
    go_wp2_with fail
    go_ret
    exact ⟨rfl, hb.out⟩
  obtain ⟨⟨h1, h2⟩, ⟨h3, h4⟩, h5, h6⟩ := hgood
  obtain ⟨b, rfl⟩ : ∃ b : Nat, bad = b := ⟨bad.toNat, by omega⟩
  obtain ⟨g, rfl⟩ : ∃ g : Nat, lot = ((b + g : Nat) : Int) := ⟨lot.toNat - b, by omega⟩
  obtain ⟨m, rfl⟩ : ∃ m : Nat, n = m := ⟨n.toNat, by omega⟩
  have hm : m ≤ b + g := by omega
  have hbg : b + g ≤ 300 := by omega
  have hw : IntKind.i64.wrap (c + 1) = c + 1 := IntWalk.i64_in _ (by omega)
  have HA1 : Hid (∀ W', Calls Tryd.prog 13 #[.int .i64 ((b + g : Nat) : Int), .int .i64 b, .int .i64 m, .int .i64 c] W' fun e w' => ∃ ao al ac bo bl bc, e = .returned (.tuple #[.agg #[.slice ao al ac, .slice bo bl bc], .int .i64 0]) ∧
      D w' (.slice ao al ac) (lowP (accS b g m c) (pascalN (b + g) m)) ∧ D w' (.slice bo bl bc) (lowQ (accS b g m c) (pascalN (b + g) m)) ∧ Below W'.heap.size W' w') := fun W' => Accept_any (by omega) hm
  have HA2 : Hid (∀ W', Calls Tryd.prog 13 #[.int .i64 ((b + g : Nat) : Int), .int .i64 b, .int .i64 m, .int .i64 (c + 1)] W' fun e w' => ∃ ao al ac bo bl bc, e = .returned (.tuple #[.agg #[.slice ao al ac, .slice bo bl bc], .int .i64 0]) ∧
      D w' (.slice ao al ac) (lowP (accS b g m (c + 1)) (pascalN (b + g) m)) ∧ D w' (.slice bo bl bc) (lowQ (accS b g m (c + 1)) (pascalN (b + g) m)) ∧ Below W'.heap.size W' w') := fun W' => Accept_any (by omega) hm
  have HA3 : Hid (¬ g = 0 → ∀ W', Calls Tryd.prog 13 #[.int .i64 ((b + g : Nat) : Int), .int .i64 ((b : Int) + 1), .int .i64 m, .int .i64 c] W' fun e w' => ∃ ao al ac bo bl bc, e = .returned (.tuple #[.agg #[.slice ao al ac, .slice bo bl bc], .int .i64 0]) ∧
      D w' (.slice ao al ac) (lowP (accS (b + 1) (g - 1) m c) (pascalN (b + g) m)) ∧ D w' (.slice bo bl bc) (lowQ (accS (b + 1) (g - 1) m c) (pascalN (b + g) m)) ∧ Below W'.heap.size W' w') := fun hg W' => by
    have := Accept_any (b := b + 1) (g := g - 1) (n := m) (c := c) (W := W') (by omega) (by omega)
    rw [show b + 1 + (g - 1) = b + g by omega, show ((b + 1 : Nat) : Int) = (b : Int) + 1 by omega] at this
    exact this
  obtain ⟨K, hK⟩ : ∃ K : Nat, K = 300 := ⟨_, rfl⟩
  have hp : pascalN (b + g) m ≤ 2 ^ K := Nat.le_trans (pascalN_le _ _) (Nat.pow_le_pow_right (by decide) (by omega))
  have hp1 : accS b g m c ≤ pascalN (b + g) m := accS_le _ _ _ _
  have hp2 : accS b g m (c + 1) ≤ pascalN (b + g) m := accS_le _ _ _ _
  have hp3 : accS b g m c ≤ accS b g m (c + 1) := accS_mono (by omega)
  have hp4 : ¬ g = 0 → accS (b + 1) (g - 1) m c ≤ accS b g m c := fun hg => by
    have := accS_worse b (g - 1) m c
    rwa [show g - 1 + 1 = g by omega] at this
  have hp5 : c < 0 → accS b g m c = 0 := accS_neg
  have hp6 : c ≥ m → accS b g m c = pascalN (b + g) m := accS_all
  have hM0 : 0 < pascalN (b + g) m := pascalN_pos hm
  obtain ⟨L, hL⟩ : ∃ x, x = accS b g m c := ⟨_, rfl⟩
  obtain ⟨L2, hL2⟩ : ∃ x, x = accS b g m (c + 1) := ⟨_, rfl⟩
  obtain ⟨L3, hL3⟩ : ∃ x, x = accS (b + 1) (g - 1) m c := ⟨_, rfl⟩
  obtain ⟨M, hM⟩ : ∃ x, x = pascalN (b + g) m := ⟨_, rfl⟩
  rw [← hM] at HA1 HA2 HA3 hp hp1 hp2 hp6 hM0
  rw [← hL] at HA1 hp1 hp3 hp4 hp5 hp6
  rw [← hL2] at HA2 hp2 hp3
  rw [← hL3] at HA3 hp4
  have HCM : Hid (∀ W' v u x y (A B : Nat), A ≤ M → B ≤ M → A ≤ B → D W' v (lowP A M) → D W' u (lowQ A M) → D W' x (lowP B M) → D W' y (lowQ B M) → Calls Tryd.prog 17 #[.agg #[v, u], .agg #[x, y]] W' fun e w' => ∃ R : Int, e = .returned (.int .i64 R) ∧ R ≤ 0 ∧ Hid (Below W'.heap.size W' w')) := fun W' v u x y A B q1 q2 q3 g1 g2 g3 g4 =>
    (FCmp_low g1 g2 g3 g4 hM0 hM0 (Nat.le_trans q1 hp) hp (Nat.le_trans q2 hp) hp (by omega)).mono fun e w' ⟨e1, e2⟩ => ⟨_, e1, cmp_le.2 (Nat.mul_le_mul_right _ q3), e2⟩
  obtain ⟨R1, hR1⟩ : ∃ R, R = cmpN ((L * M : Nat) : Int) ((L2 * M : Nat) : Int) := ⟨_, rfl⟩
  obtain ⟨R2, hR2⟩ : ∃ R, R = cmpN ((L2 * 1 : Nat) : Int) ((1 * M : Nat) : Int) := ⟨_, rfl⟩
  have r1 : R1 ≤ 0 := by rw [hR1]; exact cmp_le.2 (Nat.mul_le_mul_right _ hp3)
  have r2 : R2 ≤ 0 := by rw [hR2]; exact cmp_le.2 (by rw [Nat.mul_one, Nat.one_mul]; exact hp2)
  have HC1 : Hid (∀ W' v u x y, D W' v (lowP L M) → D W' u (lowQ L M) → D W' x (lowP L2 M) → D W' y (lowQ L2 M) → Calls Tryd.prog 17 #[.agg #[v, u], .agg #[x, y]] W' fun e w' => e = .returned (.int .i64 R1) ∧ Below W'.heap.size W' w') := fun W' v u x y g1 g2 g3 g4 => by
    rw [hR1]; exact FCmp_low g1 g2 g3 g4 hM0 hM0 (Nat.le_trans hp1 hp) hp (Nat.le_trans hp2 hp) hp (by omega)
  have hK1 : (1 : Nat) ≤ 2 ^ K := Nat.one_le_two_pow
  have HC2 : Hid (∀ W' v u x y, D W' v (lowP L2 M) → D W' u (lowQ L2 M) → D W' x (lowP 1 1) → D W' y (lowQ 1 1) → Calls Tryd.prog 17 #[.agg #[v, u], .agg #[x, y]] W' fun e w' => e = .returned (.int .i64 R2) ∧ Below W'.heap.size W' w') := fun W' v u x y g1 g2 g3 g4 => by
    rw [hR2]; exact FCmp_low g1 g2 g3 g4 hM0 (by decide) (Nat.le_trans hp2 hp) hp hK1 hK1 (by omega)
  have HRA : Hid (∀ W', Calls Tryd.prog 14 #[.int .i64 1, .int .i64 1] W' fun e w' => ∃ ao al ac bo bl bc, e = .returned (.agg #[.slice ao al ac, .slice bo bl bc]) ∧ D w' (.slice ao al ac) (lowP 1 1) ∧ D w' (.slice bo bl bc) (lowQ 1 1) ∧ Below W'.heap.size W' w') := fun W' => ratio_any (a := 1) (b := 1) (by decide) (by decide) (by decide)
  have HS0 : Hid (c < 0 → ∀ W' v u, Below W.heap.size W W' → D W' v (lowP L M) → D W' u (lowQ L M) → Calls Tryd.prog 18 #[.agg #[v, u]] W' fun e w' => e = .returned (.string ⟨#[48]⟩) ∧ Below W'.heap.size W' w') := fun hc W' v u hB g1 g2 => by
    rw [hp5 hc] at g1 g2
    have e1 : lowP 0 M = 0 := Nat.zero_div _
    have e2 : lowQ 0 M = 1 := by unfold lowQ; rw [Nat.gcd_zero_left]; exact Nat.div_self hM0
    rw [e1] at g1; rw [e2] at g2
    have := FracString_any v u 0 1 W' g1 g2 (Nat.le_trans ((nd_le (by decide)).2 (show 0 < 4294967296 ^ 1 by decide)) (by decide)) (Nat.le_trans ((nd_le (by decide)).2 (show 1 < 4294967296 ^ 1 by decide)) (by decide)) (he.below hB)
    rwa [show (⟨(fracText 0 (dn 1)).toArray⟩ : ByteArray) = ⟨#[48]⟩ from congrArg _ (by decide +kernel)] at this
  have HS1 : Hid (c ≥ m → ∀ W' v u, Below W.heap.size W W' → D W' v (lowP L M) → D W' u (lowQ L M) → Calls Tryd.prog 18 #[.agg #[v, u]] W' fun e w' => e = .returned (.string ⟨#[49]⟩) ∧ Below W'.heap.size W' w') := fun hc W' v u hB g1 g2 => by
    rw [hp6 hc] at g1 g2
    have e1 : lowP M M = 1 := by unfold lowP; rw [Nat.gcd_self]; exact Nat.div_self hM0
    have e2 : lowQ M M = 1 := by unfold lowQ; rw [Nat.gcd_self]; exact Nat.div_self hM0
    rw [e1] at g1; rw [e2] at g2
    have := FracString_any v u 1 1 W' g1 g2 (Nat.le_trans ((nd_le (by decide)).2 (show 1 < 4294967296 ^ 1 by decide)) (by decide)) (Nat.le_trans ((nd_le (by decide)).2 (show 1 < 4294967296 ^ 1 by decide)) (by decide)) (he.below hB)
    rwa [show (⟨(fracText 1 (dn 1)).toArray⟩ : ByteArray) = ⟨#[49]⟩ from congrArg _ (by decide +kernel)] at this
  have HP4 : Hid (¬ g = 0 → L3 ≤ L) := hp4
  have HP1 : Hid (L ≤ M) := hp1
  have hw3 : ¬ g = 0 → IntKind.i64.wrap ((b : Int) + 1) = (b : Int) + 1 := fun _ => IntWalk.i64_in _ (by omega)
  have HWB := Lib.hid hw3
  obtain ⟨lt, hlt⟩ : ∃ lt : Nat, lt = b + g := ⟨_, rfl⟩
  have HLT := Lib.hid hlt
  rw [← hlt] at HG HA1 HA2 HA3 hbig ⊢
  clear hlt hw3 hp hp1 hp2 hp3 hp4 hp5 hp6 hM0 hL hL2 hL3 hM hK hK1 hm hbg h1 h2 h3 h4 h5 h6 _hl _hb _hn _hc he hR1 hR2
  have HD1 : Hid (decide (R1 > 0) = false ∧ decide (0 < R1) = false) := ⟨decide_eq_false (by omega), decide_eq_false (by omega)⟩
  have HD2 : Hid (decide (R2 > 0) = false ∧ decide (0 < R2) = false) := ⟨decide_eq_false (by omega), decide_eq_false (by omega)⟩
  clear r1 r2
  go_enter Tryd.func5, Tryd.ntmps5
  go_wp2_with fail
  refine (HG.out _).mono ?_
  rintro e w' ⟨rfl, rfl⟩
  go_wp2_with fail
  refine (HA1.out _).mono ?_
  rintro e v1 ⟨ao, aj, ac, bo, bl, bc, rfl, hp, hq, hb⟩
  obtain ⟨v2, HW2⟩ : ∃ w2, w2 = v1.alloc (.cells #[.slice ao aj ac, .slice bo bl bc] 34) := ⟨_, rfl⟩
  have HX := Lib.hid (show FB v1.heap.size (.slice ao aj ac) (.slice bo bl bc) L M v2 by rw [HW2]; exact FB.new hp hq _)
  have b2 : Below v1.heap.size v1 v2 := by rw [HW2]; exact alloc1_below _ _
  have HB := Lib.hid (hb.trans (b2.mono hb.size)); have HW' := Lib.hid HW2
  clear hp hq hb b2 HW2
  go_upto_region 4 with fail
  rw [← HW'.out]
  go_wp2_with fail
  refine (HA2.out _).mono ?_
  rintro e v3 ⟨co, cl, cc, do2, dl, dc, rfl, hp, hq, hb⟩
  obtain ⟨v4, HW4⟩ : ∃ w4, w4 = v3.alloc (.cells #[.slice co cl cc, .slice do2 dl dc] 34) := ⟨_, rfl⟩
  have HY := Lib.hid (show FB v3.heap.size (.slice co cl cc) (.slice do2 dl dc) L2 M v4 by rw [HW4]; exact FB.new hp hq _)
  have b4 : Below v3.heap.size v3 v4 := by rw [HW4]; exact alloc1_below _ _
  have b24 := hb.trans (b4.mono hb.size)
  have HX4 := Lib.hid (HX.out.next b24)
  have HB4 := Lib.hid (HB.out.trans (b24.mono HB.out.size)); have HW4' := Lib.hid HW4
  clear hp hq hb b4 b24 HW4 HX HB HW' HA1 HA2
  have HCE : Hid (∀ W', Kw v4 W' → (W'.cell? ⟨v1.heap.size, 0, none⟩ = some (.slice ao aj ac) ∧ W'.cell? ⟨v1.heap.size, 1, none⟩ = some (.slice bo bl bc)) ∧ W'.cell? ⟨v3.heap.size, 0, none⟩ = some (.slice co cl cc) ∧ W'.cell? ⟨v3.heap.size, 1, none⟩ = some (.slice do2 dl dc)) := fun W' h => ⟨⟨(HX4.out.box.next h).c0, (HX4.out.box.next h).c1⟩, (HY.out.box.next h).c0, (HY.out.box.next h).c1⟩
  go_upto_region 5 with fail
  rw [← HW4'.out]
  by_cases q1 : c < 0
  case pos =>
    have HN : Hid (decide (c < 0) = true ∧ decide (0 > c) = true) := ⟨decide_eq_true (by omega), decide_eq_true (by omega)⟩
    have HF : Hid (decide (c ≥ m) = false ∧ decide ((m : Int) ≤ c) = false) := ⟨decide_eq_false (by omega), decide_eq_false (by omega)⟩
    have HQ := Lib.hid q1
    clear q1 HS1
    refine region_own v4 37 (fun x => ⟨#[.int .i64 (lt : Int), .int .i64 (b : Int), .int .i64 (m : Int), .int .i64 c, undef, undef, undef, undef, .bool false, .pointer (some ⟨v1.heap.size, 0, none⟩), .int .i64 0, .pointer (some ⟨v3.heap.size, 0, none⟩), .int .i64 0, undef, undef, .int .i64 (lt : Int), .bool false, .bool false, .int .i64 (lt : Int), .int .i64 (b : Int), .int .i64 (m : Int), .bool true, .bool false, .bool false, .bool false, .int .i64 c, .bool (decide (1099511627776 < c)), .bool (decide (1099511627776 < c)), undef, .tuple #[.agg #[.slice ao aj ac, .slice bo bl bc], .int .i64 0], .int .i64 (lt : Int), .int .i64 (b : Int), .int .i64 (m : Int), .int .i64 c, .tuple #[.agg #[.slice ao aj ac, .slice bo bl bc], .int .i64 0], .agg #[.slice ao aj ac, .slice bo bl bc], .int .i64 0, .tuple #[.agg #[.slice co cl cc, .slice do2 dl dc], .int .i64 0], .int .i64 (lt : Int), .int .i64 (b : Int), .int .i64 (m : Int), .int .i64 c, .int .i64 (c + 1), .tuple #[.agg #[.slice co cl cc, .slice do2 dl dc], .int .i64 0], .agg #[.slice co cl cc, .slice do2 dl dc], .int .i64 0, x 0, x 1, x 2, x 3, x 4, x 5, x 6, x 7, x 8, x 9, x 10, x 11, x 12, x 13, x 14, x 15, x 16, x 17, x 18, x 19, x 20, x 21, x 22, x 23, x 24, x 25, x 26, x 27, x 28, x 29, x 30, x 31, x 32, x 33, x 34, x 35, x 36, undef, undef, undef, undef, undef, undef, undef, undef, undef, undef, undef, undef, undef, undef, undef, undef, undef, undef, undef, undef, undef, undef, undef, undef], []⟩) (TGA v4 ao bo co do2 aj ac bl bc cl cc dl dc m c R1 R2) TGAkill (fun j => [undef, undef, undef, undef, undef, undef, undef, undef, undef, undef, undef, undef, undef, undef, undef, undef, undef, undef, undef, undef, undef, undef, undef, undef, undef, undef, undef, undef, undef, undef, undef, undef, undef, undef, undef, undef, undef].getD j undef) rfl (by kernel_rfl) (of_decide_eq_true (by kernel_rfl)) (of_decide_eq_true (by kernel_rfl)) (of_decide_eq_true (by kernel_rfl)) (TGA.congr ) ?_ ?_
    · intro i hi
      have hi2 : i = 0 ∨ i = 1 ∨ i = 2 ∨ i = 3 ∨ i = 4 ∨ i = 5 ∨ i = 6 ∨ i = 7 ∨ i = 8 ∨ i = 9 ∨ i = 10 ∨ i = 11 ∨ i = 12 ∨ i = 13 ∨ i = 14 ∨ i = 15 ∨ i = 16 ∨ i = 17 ∨ i = 18 ∨ i = 19 ∨ i = 20 ∨ i = 21 ∨ i = 22 ∨ i = 23 ∨ i = 24 ∨ i = 25 ∨ i = 26 ∨ i = 27 ∨ i = 28 ∨ i = 29 ∨ i = 30 ∨ i = 31 ∨ i = 32 ∨ i = 33 ∨ i = 34 ∨ i = 35 ∨ i = 36 := by omega
      clear hi
      rcases hi2 with rfl | rfl | rfl | rfl | rfl | rfl | rfl | rfl | rfl | rfl | rfl | rfl | rfl | rfl | rfl | rfl | rfl | rfl | rfl | rfl | rfl | rfl | rfl | rfl | rfl | rfl | rfl | rfl | rfl | rfl | rfl | rfl | rfl | rfl | rfl | rfl | rfl
      · refine ⟨_, rfl, fun x w hk hd K' hK => ?_⟩
        clear hd
        go_simp
        exact hK _ w (upd_same x 0 _) hk (fun j _ _ _ _ y t => t)
      · refine ⟨_, rfl, fun x w hk hd K' hK => ?_⟩
        have e0 : x 0 = _ := (hd 0 (of_decide_eq_true (by kernel_rfl)) (.inl rfl))
        clear hd
        simp only [e0]
        go_simp
        have hK2 := hK _ w (upd_same x 1 _) hk (fun j _ _ _ _ y t => t)
        simp (config := {decide := true}) only [upd, if_true, if_false, e0] at hK2
        exact hK2
      · refine ⟨_, rfl, fun x w hk hd K' hK => ?_⟩
        have e1 : x 1 = _ := (hd 1 (of_decide_eq_true (by kernel_rfl)) (.inl rfl))
        clear hd
        simp only [e1]
        go_simp
        have hK2 := hK _ w (upd_same x 2 _) hk (fun j _ _ _ _ y t => t)
        simp (config := {decide := true}) only [upd, if_true, if_false, e1] at hK2
        exact hK2
      · refine ⟨_, rfl, fun x w hk hd K' hK => ?_⟩
        have e2 : x 2 = _ := (hd 2 (of_decide_eq_true (by kernel_rfl)) (.inl rfl))
        clear hd
        simp only [e2]
        go_simp
        have hK2 := hK _ w (upd_same x 3 _) hk (fun j _ _ _ _ y t => t)
        simp (config := {decide := true}) only [upd, if_true, if_false, e2] at hK2
        exact hK2
      · refine ⟨_, rfl, fun x w hk hd K' hK => ?_⟩
        have e3 : x 3 = _ := (hd 3 (of_decide_eq_true (by kernel_rfl)) (.inl rfl))
        have e2 : x 2 = _ := (hd 2 (of_decide_eq_true (by kernel_rfl)) (.inl rfl))
        clear hd
        simp only [e3, e2]
        go_simp
        have hK2 := hK _ w (upd_same x 4 _) hk (fun j _ _ _ _ y t => t)
        simp (config := {decide := true}) only [upd, if_true, if_false, e3, e2] at hK2
        exact hK2
      · refine ⟨_, rfl, fun x w hk hd K' hK => ?_⟩
        have e2 : x 2 = _ := (hd 2 (of_decide_eq_true (by kernel_rfl)) (.inl rfl))
        have e4 : x 4 = _ := (hd 4 (of_decide_eq_true (by kernel_rfl)) (.inl rfl))
        clear hd
        simp only [e2, e4]
        go_simp
        have hK2 := hK _ w (upd_same x 5 _) hk (fun j _ _ _ _ y t => t)
        simp (config := {decide := true}) only [upd, if_true, if_false, e2, e4] at hK2
        exact hK2
      · refine ⟨_, rfl, fun x w hk hd K' hK => ?_⟩
        have e5 : x 5 = _ := (hd 5 (of_decide_eq_true (by kernel_rfl)) (.inl rfl))
        clear hd
        simp only [e5]
        go_simp
        have hK2 := hK _ w (upd_same x 6 _) hk (fun j _ _ _ _ y t => t)
        simp (config := {decide := true}) only [upd, if_true, if_false, e5] at hK2
        exact hK2
      · refine ⟨_, rfl, fun x w hk hd K' hK => ?_⟩
        have e6 : x 6 = _ := (hd 6 (of_decide_eq_true (by kernel_rfl)) (.inl rfl))
        obtain ⟨⟨z0, z1⟩, -⟩ := HCE.out w hk
        clear hd
        simp only [e6]
        go_simp
        have hK2 := hK _ w (upd_same x 7 _) hk (fun j _ _ _ _ y t => t)
        simp (config := {decide := true}) only [upd, if_true, if_false, e6] at hK2
        exact hK2
      · refine ⟨_, rfl, fun x w hk hd K' hK => ?_⟩
        have e6 : x 6 = _ := (hd 6 (of_decide_eq_true (by kernel_rfl)) (.inl rfl))
        obtain ⟨-, z0, z1⟩ := HCE.out w hk
        clear hd
        simp only [e6]
        go_simp
        have hK2 := hK _ w (upd_same x 8 _) hk (fun j _ _ _ _ y t => t)
        simp (config := {decide := true}) only [upd, if_true, if_false, e6] at hK2
        exact hK2
      · refine ⟨_, rfl, fun x w hk hd K' hK => ?_⟩
        have e7 : x 7 = _ := (hd 7 (of_decide_eq_true (by kernel_rfl)) (.inl rfl))
        have e8 : x 8 = _ := (hd 8 (of_decide_eq_true (by kernel_rfl)) (.inl rfl))
        have e6 : x 6 = _ := (hd 6 (of_decide_eq_true (by kernel_rfl)) (.inl rfl))
        have HC := Lib.hid (HC1.out w _ _ _ _ (HX4.out.num.below hk) (HX4.out.den.below hk) (HY.out.num.below hk) (HY.out.den.below hk))
        clear hd
        simp only [e7, e8, e6]
        go_simp
        refine HC.out.mono ?_
        rintro e w' ⟨rfl, hB⟩
        have hK2 := hK _ w' (upd_same x 9 _) (hk.next hB) (fun j _ _ _ _ y t => TGA.next hB j y t)
        simp (config := {decide := true}) only [upd, if_true, if_false, e7, e8, e6] at hK2
        exact hK2
      · refine ⟨_, rfl, fun x w hk hd K' hK => ?_⟩
        have e9 : x 9 = _ := (hd 9 (of_decide_eq_true (by kernel_rfl)) (.inl rfl))
        have e6 : x 6 = _ := (hd 6 (of_decide_eq_true (by kernel_rfl)) (.inl rfl))
        obtain ⟨s1, s2⟩ := HD1.out
        clear hd
        simp only [e9, e6]
        go_simp
        have hK2 := hK _ w (upd_same x 10 _) hk (fun j _ _ _ _ y t => t)
        simp (config := {decide := true}) only [upd, if_true, if_false, e9, e6] at hK2
        exact hK2
      · refine ⟨_, rfl, fun x w hk hd K' hK => ?_⟩
        have e6 : x 6 = _ := (hd 6 (of_decide_eq_true (by kernel_rfl)) (.inl rfl))
        have e10 : x 10 = _ := (hd 10 (of_decide_eq_true (by kernel_rfl)) (.inl rfl))
        clear hd
        simp only [e6, e10]
        go_simp
        have hK2 := hK _ w (upd_same x 11 _) hk (fun j _ _ _ _ y t => t)
        simp (config := {decide := true}) only [upd, if_true, if_false, e6, e10] at hK2
        exact hK2
      · refine ⟨_, rfl, fun x w hk hd K' hK => ?_⟩
        have e11 : x 11 = _ := (hd 11 (of_decide_eq_true (by kernel_rfl)) (.inl rfl))
        clear hd
        simp only [e11]
        go_simp
        have hK2 := hK _ w (upd_same x 12 _) hk (fun j _ _ _ _ y t => t)
        simp (config := {decide := true}) only [upd, if_true, if_false, e11] at hK2
        exact hK2
      · refine ⟨_, rfl, fun x w hk hd K' hK => ?_⟩
        have e12 : x 12 = _ := (hd 12 (of_decide_eq_true (by kernel_rfl)) (.inl rfl))
        obtain ⟨-, z0, z1⟩ := HCE.out w hk
        clear hd
        simp only [e12]
        go_simp
        have hK2 := hK _ w (upd_same x 13 _) hk (fun j _ _ _ _ y t => t)
        simp (config := {decide := true}) only [upd, if_true, if_false, e12] at hK2
        exact hK2
      · refine ⟨_, rfl, fun x w hk hd K' hK => ?_⟩
        have e12 : x 12 = _ := (hd 12 (of_decide_eq_true (by kernel_rfl)) (.inl rfl))
        have HC := Lib.hid (HRA.out w)
        clear hd
        simp only [e12]
        go_simp
        refine HC.out.mono ?_
        rintro e w' ⟨ao, ai, ac, bo, bl, bc, rfl, h, h9, hB⟩
        have hK2 := hK _ w' (⟨ao, ai, ac, bo, bl, bc, upd_same x 14 _, h, h9⟩) (hk.next hB) (fun j _ _ _ _ y t => TGA.next hB j y t)
        simp (config := {decide := true}) only [upd, if_true, if_false, e12] at hK2
        exact hK2
      · refine ⟨_, rfl, fun x w hk hd K' hK => ?_⟩
        have e13 : x 13 = _ := (hd 13 (of_decide_eq_true (by kernel_rfl)) (.inl rfl))
        obtain ⟨ao14, ai14, ac14, bo14, bl14, bc14, e14, h14_0, h14_1⟩ := (hd 14 (of_decide_eq_true (by kernel_rfl)) (.inl rfl))
        have e12 : x 12 = _ := (hd 12 (of_decide_eq_true (by kernel_rfl)) (.inl rfl))
        have HC := Lib.hid (HC2.out w _ _ _ _ (HY.out.num.below hk) (HY.out.den.below hk) h14_0 h14_1)
        clear h14_0 h14_1
        clear hd
        simp only [e13, e14, e12]
        go_simp
        refine HC.out.mono ?_
        rintro e w' ⟨rfl, hB⟩
        have hK2 := hK _ w' (upd_same x 15 _) (hk.next hB) (fun j _ _ _ _ y t => TGA.next hB j y t)
        simp (config := {decide := true}) only [upd, if_true, if_false, e13, e14, e12] at hK2
        exact hK2
      · refine ⟨_, rfl, fun x w hk hd K' hK => ?_⟩
        have e15 : x 15 = _ := (hd 15 (of_decide_eq_true (by kernel_rfl)) (.inl rfl))
        have e12 : x 12 = _ := (hd 12 (of_decide_eq_true (by kernel_rfl)) (.inl rfl))
        obtain ⟨s1, s2⟩ := HD2.out
        clear hd
        simp only [e15, e12]
        go_simp
        have hK2 := hK _ w (upd_same x 16 _) hk (fun j _ _ _ _ y t => t)
        simp (config := {decide := true}) only [upd, if_true, if_false, e15, e12] at hK2
        exact hK2
      · refine ⟨_, rfl, fun x w hk hd K' hK => ?_⟩
        have e12 : x 12 = _ := (hd 12 (of_decide_eq_true (by kernel_rfl)) (.inl rfl))
        have e16 : x 16 = _ := (hd 16 (of_decide_eq_true (by kernel_rfl)) (.inl rfl))
        clear hd
        simp only [e12, e16]
        go_simp
        have hK2 := hK _ w (upd_same x 17 _) hk (fun j _ _ _ _ y t => t)
        simp (config := {decide := true}) only [upd, if_true, if_false, e12, e16] at hK2
        exact hK2
      · refine ⟨_, rfl, fun x w hk hd K' hK => ?_⟩
        have e17 : x 17 = _ := (hd 17 (of_decide_eq_true (by kernel_rfl)) (.inl rfl))
        clear hd
        simp only [e17]
        go_simp
        have hK2 := hK _ w (upd_same x 18 _) hk (fun j _ _ _ _ y t => t)
        simp (config := {decide := true}) only [upd, if_true, if_false, e17] at hK2
        exact hK2
      · refine ⟨_, rfl, fun x w hk hd K' hK => ?_⟩
        have e18 : x 18 = _ := (hd 18 (of_decide_eq_true (by kernel_rfl)) (.inl rfl))
        clear hd
        simp only [e18]
        go_simp
        have hK2 := hK _ w (upd_same x 19 _) hk (fun j _ _ _ _ y t => t)
        simp (config := {decide := true}) only [upd, if_true, if_false, e18] at hK2
        exact hK2
      · refine ⟨_, rfl, fun x w hk hd K' hK => ?_⟩
        have e19 : x 19 = _ := (hd 19 (of_decide_eq_true (by kernel_rfl)) (.inl rfl))
        have e18 : x 18 = _ := (hd 18 (of_decide_eq_true (by kernel_rfl)) (.inl rfl))
        obtain ⟨s1, s2⟩ := HN.out
        clear hd
        simp only [e19, e18]
        go_simp
        have hK2 := hK _ w (upd_same x 20 _) hk (fun j _ _ _ _ y t => t)
        simp (config := {decide := true}) only [upd, if_true, if_false, e19, e18] at hK2
        exact hK2
      · refine ⟨_, rfl, fun x w hk hd K' hK => ?_⟩
        have e20 : x 20 = _ := (hd 20 (of_decide_eq_true (by kernel_rfl)) (.inl rfl))
        have e18 : x 18 = _ := (hd 18 (of_decide_eq_true (by kernel_rfl)) (.inl rfl))
        clear hd
        simp only [e20, e18]
        go_simp
        have hK2 := hK _ w (upd_same x 21 _) hk (fun j _ _ _ _ y t => t)
        simp (config := {decide := true}) only [upd, if_true, if_false, e20, e18] at hK2
        exact hK2
      · refine ⟨_, rfl, fun x w hk hd K' hK => ?_⟩
        have e21 : x 21 = _ := (hd 21 (of_decide_eq_true (by kernel_rfl)) (.inl rfl))
        obtain ⟨⟨z0, z1⟩, -⟩ := HCE.out w hk
        clear hd
        simp only [e21]
        go_simp
        have hK2 := hK _ w (upd_same x 22 _) hk (fun j _ _ _ _ y t => t)
        simp (config := {decide := true}) only [upd, if_true, if_false, e21] at hK2
        exact hK2
      · refine ⟨_, rfl, fun x w hk hd K' hK => ?_⟩
        have e22 : x 22 = _ := (hd 22 (of_decide_eq_true (by kernel_rfl)) (.inl rfl))
        have e21 : x 21 = _ := (hd 21 (of_decide_eq_true (by kernel_rfl)) (.inl rfl))
        have HC := Lib.hid (HS0.out HQ.out w _ _ (HB4.out.trans (Below.mono hk HB4.out.size)) (HX4.out.num.below hk) (HX4.out.den.below hk))
        clear hd
        simp only [e22, e21]
        go_simp
        refine HC.out.mono ?_
        rintro e w' ⟨rfl, hB⟩
        have hK2 := hK _ w' (upd_same x 23 _) (hk.next hB) (fun j _ _ _ _ y t => TGA.next hB j y t)
        simp (config := {decide := true}) only [upd, if_true, if_false, e22, e21] at hK2
        exact hK2
      · refine ⟨_, rfl, fun x w hk hd K' hK => ?_⟩
        have e23 : x 23 = _ := (hd 23 (of_decide_eq_true (by kernel_rfl)) (.inl rfl))
        have e21 : x 21 = _ := (hd 21 (of_decide_eq_true (by kernel_rfl)) (.inl rfl))
        have hne : ((#[48] : Array UInt8) == #[48]) = true := by decide
        clear hd
        simp only [e23, e21]
        go_simp
        have hK2 := hK _ w (upd_same x 24 _) hk (fun j _ _ _ _ y t => t)
        simp (config := {decide := true}) only [upd, if_true, if_false, e23, e21] at hK2
        exact hK2
      · refine ⟨_, rfl, fun x w hk hd K' hK => ?_⟩
        have e21 : x 21 = _ := (hd 21 (of_decide_eq_true (by kernel_rfl)) (.inl rfl))
        have e24 : x 24 = _ := (hd 24 (of_decide_eq_true (by kernel_rfl)) (.inl rfl))
        have e18 : x 18 = _ := (hd 18 (of_decide_eq_true (by kernel_rfl)) (.inl rfl))
        clear hd
        simp only [e21, e24, e18]
        go_simp
        have hK2 := hK _ w (upd_same x 25 _) hk (fun j _ _ _ _ y t => t)
        simp (config := {decide := true}) only [upd, if_true, if_false, e21, e24, e18] at hK2
        exact hK2
      · refine ⟨_, rfl, fun x w hk hd K' hK => ?_⟩
        have e18 : x 18 = _ := (hd 18 (of_decide_eq_true (by kernel_rfl)) (.inl rfl))
        have e25 : x 25 = _ := (hd 25 (of_decide_eq_true (by kernel_rfl)) (.inl rfl))
        clear hd
        simp only [e18, e25]
        go_simp
        have hK2 := hK _ w (upd_same x 26 _) hk (fun j _ _ _ _ y t => t)
        simp (config := {decide := true}) only [upd, if_true, if_false, e18, e25] at hK2
        exact hK2
      · refine ⟨_, rfl, fun x w hk hd K' hK => ?_⟩
        have e26 : x 26 = _ := (hd 26 (of_decide_eq_true (by kernel_rfl)) (.inl rfl))
        clear hd
        simp only [e26]
        go_simp
        have hK2 := hK _ w (upd_same x 27 _) hk (fun j _ _ _ _ y t => t)
        simp (config := {decide := true}) only [upd, if_true, if_false, e26] at hK2
        exact hK2
      · refine ⟨_, rfl, fun x w hk hd K' hK => ?_⟩
        have e27 : x 27 = _ := (hd 27 (of_decide_eq_true (by kernel_rfl)) (.inl rfl))
        clear hd
        simp only [e27]
        go_simp
        have hK2 := hK _ w (upd_same x 28 _) hk (fun j _ _ _ _ y t => t)
        simp (config := {decide := true}) only [upd, if_true, if_false, e27] at hK2
        exact hK2
      · refine ⟨_, rfl, fun x w hk hd K' hK => ?_⟩
        have e27 : x 27 = _ := (hd 27 (of_decide_eq_true (by kernel_rfl)) (.inl rfl))
        clear hd
        simp only [e27]
        go_simp
        have hK2 := hK _ w (upd_same x 29 _) hk (fun j _ _ _ _ y t => t)
        simp (config := {decide := true}) only [upd, if_true, if_false, e27] at hK2
        exact hK2
      · refine ⟨_, rfl, fun x w hk hd K' hK => ?_⟩
        have e28 : x 28 = _ := (hd 28 (of_decide_eq_true (by kernel_rfl)) (.inl rfl))
        have e29 : x 29 = _ := (hd 29 (of_decide_eq_true (by kernel_rfl)) (.inl rfl))
        have e27 : x 27 = _ := (hd 27 (of_decide_eq_true (by kernel_rfl)) (.inl rfl))
        obtain ⟨s1, s2⟩ := HF.out
        clear hd
        simp only [e28, e29, e27]
        go_simp
        have hK2 := hK _ w (upd_same x 30 _) hk (fun j _ _ _ _ y t => t)
        simp (config := {decide := true}) only [upd, if_true, if_false, e28, e29, e27] at hK2
        exact hK2
      · refine ⟨_, rfl, fun x w hk hd K' hK => ?_⟩
        have e30 : x 30 = _ := (hd 30 (of_decide_eq_true (by kernel_rfl)) (.inl rfl))
        have e27 : x 27 = _ := (hd 27 (of_decide_eq_true (by kernel_rfl)) (.inl rfl))
        clear hd
        simp only [e30, e27]
        go_simp
        have hK2 := hK _ w (upd_same x 31 _) hk (fun j _ _ _ _ y t => t)
        simp (config := {decide := true}) only [upd, if_true, if_false, e30, e27] at hK2
        exact hK2
      · refine ⟨_, rfl, fun x w hk hd K' hK => ?_⟩
        have e31 : x 31 = _ := (hd 31 (of_decide_eq_true (by kernel_rfl)) (.inl rfl))
        clear hd
        rw [if_neg (by show ¬ _ = true; simp only [e31]; exact Bool.false_ne_true)]
        have hK2 := hK undef w (upd_same x 32 _) hk (fun j _ _ _ _ y t => t)
        simp only [e31]
        simp (config := {decide := true}) only [upd, if_true, if_false, e31] at hK2
        exact hK2
      · refine ⟨_, rfl, fun x w hk hd K' hK => ?_⟩
        have e31 : x 31 = _ := (hd 31 (of_decide_eq_true (by kernel_rfl)) (.inl rfl))
        clear hd
        rw [if_neg (by show ¬ _ = true; simp only [e31]; exact Bool.false_ne_true)]
        have hK2 := hK undef w (upd_same x 33 _) hk (fun j _ _ _ _ y t => t)
        simp only [e31]
        simp (config := {decide := true}) only [upd, if_true, if_false, e31] at hK2
        exact hK2
      · refine ⟨_, rfl, fun x w hk hd K' hK => ?_⟩
        have e31 : x 31 = _ := (hd 31 (of_decide_eq_true (by kernel_rfl)) (.inl rfl))
        clear hd
        rw [if_neg (by show ¬ _ = true; simp only [e31]; exact Bool.false_ne_true)]
        have hK2 := hK undef w (upd_same x 34 _) hk (fun j _ _ _ _ y t => t)
        simp only [e31]
        simp (config := {decide := true}) only [upd, if_true, if_false, e31] at hK2
        exact hK2
      · refine ⟨_, rfl, fun x w hk hd K' hK => ?_⟩
        have e31 : x 31 = _ := (hd 31 (of_decide_eq_true (by kernel_rfl)) (.inl rfl))
        have e34 : x 34 = _ := (hd 34 (of_decide_eq_true (by kernel_rfl)) (.inl rfl))
        have e27 : x 27 = _ := (hd 27 (of_decide_eq_true (by kernel_rfl)) (.inl rfl))
        clear hd
        simp only [e31, e34, e27]
        go_simp
        have hK2 := hK _ w (upd_same x 35 _) hk (fun j _ _ _ _ y t => t)
        simp (config := {decide := true}) only [upd, if_true, if_false, e31, e34, e27] at hK2
        exact hK2
      · refine ⟨_, rfl, fun x w hk hd K' hK => ?_⟩
        have e27 : x 27 = _ := (hd 27 (of_decide_eq_true (by kernel_rfl)) (.inl rfl))
        have e35 : x 35 = _ := (hd 35 (of_decide_eq_true (by kernel_rfl)) (.inl rfl))
        clear hd
        simp only [e27, e35]
        go_simp
        have hK2 := hK _ w (upd_same x 36 _) hk (fun j _ _ _ _ y t => t)
        simp (config := {decide := true}) only [upd, if_true, if_false, e27, e35] at hK2
        exact hK2
    · intro x w listed hk hT hl
      subst hl
      have y0 : x 0 = _ := hT 0 (by decide) rfl
      have y1 : x 1 = _ := hT 1 (by decide) rfl
      have y2 : x 2 = _ := hT 2 (by decide) rfl
      have y3 : x 3 = _ := hT 3 (by decide) rfl
      have y4 : x 4 = _ := hT 4 (by decide) rfl
      have y5 : x 5 = _ := hT 5 (by decide) rfl
      have y6 : x 6 = _ := hT 6 (by decide) rfl
      have y7 : x 7 = _ := hT 7 (by decide) rfl
      have y8 : x 8 = _ := hT 8 (by decide) rfl
      have y9 : x 9 = _ := hT 9 (by decide) rfl
      have y10 : x 10 = _ := hT 10 (by decide) rfl
      have y11 : x 11 = _ := hT 11 (by decide) rfl
      have y12 : x 12 = _ := hT 12 (by decide) rfl
      have y13 : x 13 = _ := hT 13 (by decide) rfl
      have y15 : x 15 = _ := hT 15 (by decide) rfl
      have y16 : x 16 = _ := hT 16 (by decide) rfl
      have y17 : x 17 = _ := hT 17 (by decide) rfl
      have y18 : x 18 = _ := hT 18 (by decide) rfl
      have y19 : x 19 = _ := hT 19 (by decide) rfl
      have y20 : x 20 = _ := hT 20 (by decide) rfl
      have y21 : x 21 = _ := hT 21 (by decide) rfl
      have y22 : x 22 = _ := hT 22 (by decide) rfl
      have y23 : x 23 = _ := hT 23 (by decide) rfl
      have y24 : x 24 = _ := hT 24 (by decide) rfl
      have y25 : x 25 = _ := hT 25 (by decide) rfl
      have y26 : x 26 = _ := hT 26 (by decide) rfl
      have y27 : x 27 = _ := hT 27 (by decide) rfl
      have y28 : x 28 = _ := hT 28 (by decide) rfl
      have y29 : x 29 = _ := hT 29 (by decide) rfl
      have y30 : x 30 = _ := hT 30 (by decide) rfl
      have y31 : x 31 = _ := hT 31 (by decide) rfl
      have y32 : x 32 = _ := hT 32 (by decide) rfl
      have y33 : x 33 = _ := hT 33 (by decide) rfl
      have y34 : x 34 = _ := hT 34 (by decide) rfl
      have y35 : x 35 = _ := hT 35 (by decide) rfl
      have y36 : x 36 = _ := hT 36 (by decide) rfl
      obtain ⟨zo, zl, zc, yo, yl, yc, y14, -⟩ := hT 14 (by decide) rfl
      clear hT
      simp only [y0, y1, y2, y3, y4, y5, y6, y7, y8, y9, y10, y11, y12, y13, y14, y15, y16, y17, y18, y19, y20, y21, y22, y23, y24, y25, y26, y27, y28, y29, y30, y31, y32, y33, y34, y35, y36]
      refine wpAny_done (by kernel_rfl) ?_ _
      have HKW := Lib.hid hk
      clear hk y0 y1 y2 y3 y4 y5 y6 y7 y8 y9 y10 y11 y12 y13 y14 y15 y16 y17 y18 y19 y20 y21 y22 y23 y24 y25 y26 y27 y28 y29 y30 y31 y32 y33 y34 y35 y36
      have HB5 := Lib.hid (HB4.out.trans (Below.mono HKW.out HB4.out.size))
      have HX5 := Lib.hid (HX4.out.next HKW.out)
      clear HX4 HY HB4 HCE HC1 HC2 HRA HD1 HD2 HN HF HG HW4' HKW
      by_cases hg : g = 0
      · have e : lt = b := by have := HLT.out; omega
        subst e
        have hee : ((lt : Int) = (lt : Int)) := rfl
        clear HLT HA3 HCM HP4 HP1 HWB hg
        go_wp2_with fail
        refine (HAW.out _ HB5.out).mono ?_
        rintro e w6 ⟨rfl, hb⟩
        go_wp2_with fail
        go_ret
        exact ⟨rfl, HB5.out.trans (hb.out.mono HB5.out.size)⟩
      · have hne : ¬ (b : Int) = (lt : Int) := by have := HLT.out; omega
        have HA := Lib.hid (HA3.out hg)
        have hwb := HWB.out hg
        have hle := Lib.hid (HP4.out hg)
        clear HLT HA3 HWB HP4 hg
        go_wp2_with fail
        refine (HA.out _).mono ?_
        rintro e w6 ⟨ko, kl, kc, lo, ll, lc, rfl, hp, hq, hb⟩
        obtain ⟨w7, HW7⟩ : ∃ w2, w2 = w6.alloc (.cells #[.slice ko kl kc, .slice lo ll lc] 34) := ⟨_, rfl⟩
        have HZ := Lib.hid (show FB w6.heap.size (.slice ko kl kc) (.slice lo ll lc) L3 M w7 by rw [HW7]; exact FB.new hp hq _)
        have b2 : Below w6.heap.size w6 w7 := by rw [HW7]; exact alloc1_below _ _
        have b3 := hb.trans (b2.mono hb.size)
        have HX7 := Lib.hid (HX5.out.next b3)
        have HB7 := Lib.hid (HB5.out.trans (b3.mono HB5.out.size)); have HW7' := Lib.hid HW7
        clear hp hq hb b2 b3 HW7 HX5 HB5 hwb hne
        go_upto_region 10 with fail
        rw [← HW7'.out]
        have k0 := HX7.out.box.c0; have k1 := HX7.out.box.c1; have k2 := HZ.out.box.c0; have k3 := HZ.out.box.c1
        go_wp2_with fail
        refine (HCM.out _ _ _ _ _ L3 L (Nat.le_trans hle.out HP1.out) HP1.out hle.out HZ.out.num HZ.out.den HX7.out.num HX7.out.den).mono ?_
        rintro e w8 ⟨R3, rfl, hr3, hb⟩
        have HB8 := Lib.hid (HB7.out.trans (hb.out.mono HB7.out.size))
        have d3 : decide (R3 ≤ 0) = true := decide_eq_true hr3
        clear hb k0 k1 k2 k3
        go_wp2_with fail
        refine (HAW.out _ HB8.out).mono ?_
        rintro e w9 ⟨rfl, hb⟩
        go_wp2_with fail
        go_ret
        exact ⟨rfl, HB8.out.trans (hb.out.mono HB8.out.size)⟩
  by_cases q2 : c ≥ m
  case pos =>
    have HN : Hid (decide (c < 0) = false ∧ decide (0 > c) = false) := ⟨decide_eq_false (by omega), decide_eq_false (by omega)⟩
    have HF : Hid (decide (c ≥ m) = true ∧ decide ((m : Int) ≤ c) = true) := ⟨decide_eq_true (by omega), decide_eq_true (by omega)⟩
    have HQ := Lib.hid q2
    clear q1 q2 HS0
    refine region_own v4 37 (fun x => ⟨#[.int .i64 (lt : Int), .int .i64 (b : Int), .int .i64 (m : Int), .int .i64 c, undef, undef, undef, undef, .bool false, .pointer (some ⟨v1.heap.size, 0, none⟩), .int .i64 0, .pointer (some ⟨v3.heap.size, 0, none⟩), .int .i64 0, undef, undef, .int .i64 (lt : Int), .bool false, .bool false, .int .i64 (lt : Int), .int .i64 (b : Int), .int .i64 (m : Int), .bool true, .bool false, .bool false, .bool false, .int .i64 c, .bool (decide (1099511627776 < c)), .bool (decide (1099511627776 < c)), undef, .tuple #[.agg #[.slice ao aj ac, .slice bo bl bc], .int .i64 0], .int .i64 (lt : Int), .int .i64 (b : Int), .int .i64 (m : Int), .int .i64 c, .tuple #[.agg #[.slice ao aj ac, .slice bo bl bc], .int .i64 0], .agg #[.slice ao aj ac, .slice bo bl bc], .int .i64 0, .tuple #[.agg #[.slice co cl cc, .slice do2 dl dc], .int .i64 0], .int .i64 (lt : Int), .int .i64 (b : Int), .int .i64 (m : Int), .int .i64 c, .int .i64 (c + 1), .tuple #[.agg #[.slice co cl cc, .slice do2 dl dc], .int .i64 0], .agg #[.slice co cl cc, .slice do2 dl dc], .int .i64 0, x 0, x 1, x 2, x 3, x 4, x 5, x 6, x 7, x 8, x 9, x 10, x 11, x 12, x 13, x 14, x 15, x 16, x 17, x 18, x 19, x 20, x 21, x 22, x 23, x 24, x 25, x 26, x 27, x 28, x 29, x 30, x 31, x 32, x 33, x 34, x 35, x 36, undef, undef, undef, undef, undef, undef, undef, undef, undef, undef, undef, undef, undef, undef, undef, undef, undef, undef, undef, undef, undef, undef, undef, undef], []⟩) (TGC v4 ao bo co do2 aj ac bl bc cl cc dl dc m c R1 R2) TGCkill (fun j => [undef, undef, undef, undef, undef, undef, undef, undef, undef, undef, undef, undef, undef, undef, undef, undef, undef, undef, undef, undef, undef, undef, undef, undef, undef, undef, undef, undef, undef, undef, undef, undef, undef, undef, undef, undef, undef].getD j undef) rfl (by kernel_rfl) (of_decide_eq_true (by kernel_rfl)) (of_decide_eq_true (by kernel_rfl)) (of_decide_eq_true (by kernel_rfl)) (TGC.congr ) ?_ ?_
    · intro i hi
      have hi2 : i = 0 ∨ i = 1 ∨ i = 2 ∨ i = 3 ∨ i = 4 ∨ i = 5 ∨ i = 6 ∨ i = 7 ∨ i = 8 ∨ i = 9 ∨ i = 10 ∨ i = 11 ∨ i = 12 ∨ i = 13 ∨ i = 14 ∨ i = 15 ∨ i = 16 ∨ i = 17 ∨ i = 18 ∨ i = 19 ∨ i = 20 ∨ i = 21 ∨ i = 22 ∨ i = 23 ∨ i = 24 ∨ i = 25 ∨ i = 26 ∨ i = 27 ∨ i = 28 ∨ i = 29 ∨ i = 30 ∨ i = 31 ∨ i = 32 ∨ i = 33 ∨ i = 34 ∨ i = 35 ∨ i = 36 := by omega
      clear hi
      rcases hi2 with rfl | rfl | rfl | rfl | rfl | rfl | rfl | rfl | rfl | rfl | rfl | rfl | rfl | rfl | rfl | rfl | rfl | rfl | rfl | rfl | rfl | rfl | rfl | rfl | rfl | rfl | rfl | rfl | rfl | rfl | rfl | rfl | rfl | rfl | rfl | rfl | rfl
      · refine ⟨_, rfl, fun x w hk hd K' hK => ?_⟩
        clear hd
        go_simp
        exact hK _ w (upd_same x 0 _) hk (fun j _ _ _ _ y t => t)
      · refine ⟨_, rfl, fun x w hk hd K' hK => ?_⟩
        have e0 : x 0 = _ := (hd 0 (of_decide_eq_true (by kernel_rfl)) (.inl rfl))
        clear hd
        simp only [e0]
        go_simp
        have hK2 := hK _ w (upd_same x 1 _) hk (fun j _ _ _ _ y t => t)
        simp (config := {decide := true}) only [upd, if_true, if_false, e0] at hK2
        exact hK2
      · refine ⟨_, rfl, fun x w hk hd K' hK => ?_⟩
        have e1 : x 1 = _ := (hd 1 (of_decide_eq_true (by kernel_rfl)) (.inl rfl))
        clear hd
        simp only [e1]
        go_simp
        have hK2 := hK _ w (upd_same x 2 _) hk (fun j _ _ _ _ y t => t)
        simp (config := {decide := true}) only [upd, if_true, if_false, e1] at hK2
        exact hK2
      · refine ⟨_, rfl, fun x w hk hd K' hK => ?_⟩
        have e2 : x 2 = _ := (hd 2 (of_decide_eq_true (by kernel_rfl)) (.inl rfl))
        clear hd
        simp only [e2]
        go_simp
        have hK2 := hK _ w (upd_same x 3 _) hk (fun j _ _ _ _ y t => t)
        simp (config := {decide := true}) only [upd, if_true, if_false, e2] at hK2
        exact hK2
      · refine ⟨_, rfl, fun x w hk hd K' hK => ?_⟩
        have e3 : x 3 = _ := (hd 3 (of_decide_eq_true (by kernel_rfl)) (.inl rfl))
        have e2 : x 2 = _ := (hd 2 (of_decide_eq_true (by kernel_rfl)) (.inl rfl))
        clear hd
        simp only [e3, e2]
        go_simp
        have hK2 := hK _ w (upd_same x 4 _) hk (fun j _ _ _ _ y t => t)
        simp (config := {decide := true}) only [upd, if_true, if_false, e3, e2] at hK2
        exact hK2
      · refine ⟨_, rfl, fun x w hk hd K' hK => ?_⟩
        have e2 : x 2 = _ := (hd 2 (of_decide_eq_true (by kernel_rfl)) (.inl rfl))
        have e4 : x 4 = _ := (hd 4 (of_decide_eq_true (by kernel_rfl)) (.inl rfl))
        clear hd
        simp only [e2, e4]
        go_simp
        have hK2 := hK _ w (upd_same x 5 _) hk (fun j _ _ _ _ y t => t)
        simp (config := {decide := true}) only [upd, if_true, if_false, e2, e4] at hK2
        exact hK2
      · refine ⟨_, rfl, fun x w hk hd K' hK => ?_⟩
        have e5 : x 5 = _ := (hd 5 (of_decide_eq_true (by kernel_rfl)) (.inl rfl))
        clear hd
        simp only [e5]
        go_simp
        have hK2 := hK _ w (upd_same x 6 _) hk (fun j _ _ _ _ y t => t)
        simp (config := {decide := true}) only [upd, if_true, if_false, e5] at hK2
        exact hK2
      · refine ⟨_, rfl, fun x w hk hd K' hK => ?_⟩
        have e6 : x 6 = _ := (hd 6 (of_decide_eq_true (by kernel_rfl)) (.inl rfl))
        obtain ⟨⟨z0, z1⟩, -⟩ := HCE.out w hk
        clear hd
        simp only [e6]
        go_simp
        have hK2 := hK _ w (upd_same x 7 _) hk (fun j _ _ _ _ y t => t)
        simp (config := {decide := true}) only [upd, if_true, if_false, e6] at hK2
        exact hK2
      · refine ⟨_, rfl, fun x w hk hd K' hK => ?_⟩
        have e6 : x 6 = _ := (hd 6 (of_decide_eq_true (by kernel_rfl)) (.inl rfl))
        obtain ⟨-, z0, z1⟩ := HCE.out w hk
        clear hd
        simp only [e6]
        go_simp
        have hK2 := hK _ w (upd_same x 8 _) hk (fun j _ _ _ _ y t => t)
        simp (config := {decide := true}) only [upd, if_true, if_false, e6] at hK2
        exact hK2
      · refine ⟨_, rfl, fun x w hk hd K' hK => ?_⟩
        have e7 : x 7 = _ := (hd 7 (of_decide_eq_true (by kernel_rfl)) (.inl rfl))
        have e8 : x 8 = _ := (hd 8 (of_decide_eq_true (by kernel_rfl)) (.inl rfl))
        have e6 : x 6 = _ := (hd 6 (of_decide_eq_true (by kernel_rfl)) (.inl rfl))
        have HC := Lib.hid (HC1.out w _ _ _ _ (HX4.out.num.below hk) (HX4.out.den.below hk) (HY.out.num.below hk) (HY.out.den.below hk))
        clear hd
        simp only [e7, e8, e6]
        go_simp
        refine HC.out.mono ?_
        rintro e w' ⟨rfl, hB⟩
        have hK2 := hK _ w' (upd_same x 9 _) (hk.next hB) (fun j _ _ _ _ y t => TGC.next hB j y t)
        simp (config := {decide := true}) only [upd, if_true, if_false, e7, e8, e6] at hK2
        exact hK2
      · refine ⟨_, rfl, fun x w hk hd K' hK => ?_⟩
        have e9 : x 9 = _ := (hd 9 (of_decide_eq_true (by kernel_rfl)) (.inl rfl))
        have e6 : x 6 = _ := (hd 6 (of_decide_eq_true (by kernel_rfl)) (.inl rfl))
        obtain ⟨s1, s2⟩ := HD1.out
        clear hd
        simp only [e9, e6]
        go_simp
        have hK2 := hK _ w (upd_same x 10 _) hk (fun j _ _ _ _ y t => t)
        simp (config := {decide := true}) only [upd, if_true, if_false, e9, e6] at hK2
        exact hK2
      · refine ⟨_, rfl, fun x w hk hd K' hK => ?_⟩
        have e6 : x 6 = _ := (hd 6 (of_decide_eq_true (by kernel_rfl)) (.inl rfl))
        have e10 : x 10 = _ := (hd 10 (of_decide_eq_true (by kernel_rfl)) (.inl rfl))
        clear hd
        simp only [e6, e10]
        go_simp
        have hK2 := hK _ w (upd_same x 11 _) hk (fun j _ _ _ _ y t => t)
        simp (config := {decide := true}) only [upd, if_true, if_false, e6, e10] at hK2
        exact hK2
      · refine ⟨_, rfl, fun x w hk hd K' hK => ?_⟩
        have e11 : x 11 = _ := (hd 11 (of_decide_eq_true (by kernel_rfl)) (.inl rfl))
        clear hd
        simp only [e11]
        go_simp
        have hK2 := hK _ w (upd_same x 12 _) hk (fun j _ _ _ _ y t => t)
        simp (config := {decide := true}) only [upd, if_true, if_false, e11] at hK2
        exact hK2
      · refine ⟨_, rfl, fun x w hk hd K' hK => ?_⟩
        have e12 : x 12 = _ := (hd 12 (of_decide_eq_true (by kernel_rfl)) (.inl rfl))
        obtain ⟨-, z0, z1⟩ := HCE.out w hk
        clear hd
        simp only [e12]
        go_simp
        have hK2 := hK _ w (upd_same x 13 _) hk (fun j _ _ _ _ y t => t)
        simp (config := {decide := true}) only [upd, if_true, if_false, e12] at hK2
        exact hK2
      · refine ⟨_, rfl, fun x w hk hd K' hK => ?_⟩
        have e12 : x 12 = _ := (hd 12 (of_decide_eq_true (by kernel_rfl)) (.inl rfl))
        have HC := Lib.hid (HRA.out w)
        clear hd
        simp only [e12]
        go_simp
        refine HC.out.mono ?_
        rintro e w' ⟨ao, ai, ac, bo, bl, bc, rfl, h, h9, hB⟩
        have hK2 := hK _ w' (⟨ao, ai, ac, bo, bl, bc, upd_same x 14 _, h, h9⟩) (hk.next hB) (fun j _ _ _ _ y t => TGC.next hB j y t)
        simp (config := {decide := true}) only [upd, if_true, if_false, e12] at hK2
        exact hK2
      · refine ⟨_, rfl, fun x w hk hd K' hK => ?_⟩
        have e13 : x 13 = _ := (hd 13 (of_decide_eq_true (by kernel_rfl)) (.inl rfl))
        obtain ⟨ao14, ai14, ac14, bo14, bl14, bc14, e14, h14_0, h14_1⟩ := (hd 14 (of_decide_eq_true (by kernel_rfl)) (.inl rfl))
        have e12 : x 12 = _ := (hd 12 (of_decide_eq_true (by kernel_rfl)) (.inl rfl))
        have HC := Lib.hid (HC2.out w _ _ _ _ (HY.out.num.below hk) (HY.out.den.below hk) h14_0 h14_1)
        clear h14_0 h14_1
        clear hd
        simp only [e13, e14, e12]
        go_simp
        refine HC.out.mono ?_
        rintro e w' ⟨rfl, hB⟩
        have hK2 := hK _ w' (upd_same x 15 _) (hk.next hB) (fun j _ _ _ _ y t => TGC.next hB j y t)
        simp (config := {decide := true}) only [upd, if_true, if_false, e13, e14, e12] at hK2
        exact hK2
      · refine ⟨_, rfl, fun x w hk hd K' hK => ?_⟩
        have e15 : x 15 = _ := (hd 15 (of_decide_eq_true (by kernel_rfl)) (.inl rfl))
        have e12 : x 12 = _ := (hd 12 (of_decide_eq_true (by kernel_rfl)) (.inl rfl))
        obtain ⟨s1, s2⟩ := HD2.out
        clear hd
        simp only [e15, e12]
        go_simp
        have hK2 := hK _ w (upd_same x 16 _) hk (fun j _ _ _ _ y t => t)
        simp (config := {decide := true}) only [upd, if_true, if_false, e15, e12] at hK2
        exact hK2
      · refine ⟨_, rfl, fun x w hk hd K' hK => ?_⟩
        have e12 : x 12 = _ := (hd 12 (of_decide_eq_true (by kernel_rfl)) (.inl rfl))
        have e16 : x 16 = _ := (hd 16 (of_decide_eq_true (by kernel_rfl)) (.inl rfl))
        clear hd
        simp only [e12, e16]
        go_simp
        have hK2 := hK _ w (upd_same x 17 _) hk (fun j _ _ _ _ y t => t)
        simp (config := {decide := true}) only [upd, if_true, if_false, e12, e16] at hK2
        exact hK2
      · refine ⟨_, rfl, fun x w hk hd K' hK => ?_⟩
        have e17 : x 17 = _ := (hd 17 (of_decide_eq_true (by kernel_rfl)) (.inl rfl))
        clear hd
        simp only [e17]
        go_simp
        have hK2 := hK _ w (upd_same x 18 _) hk (fun j _ _ _ _ y t => t)
        simp (config := {decide := true}) only [upd, if_true, if_false, e17] at hK2
        exact hK2
      · refine ⟨_, rfl, fun x w hk hd K' hK => ?_⟩
        have e18 : x 18 = _ := (hd 18 (of_decide_eq_true (by kernel_rfl)) (.inl rfl))
        clear hd
        simp only [e18]
        go_simp
        have hK2 := hK _ w (upd_same x 19 _) hk (fun j _ _ _ _ y t => t)
        simp (config := {decide := true}) only [upd, if_true, if_false, e18] at hK2
        exact hK2
      · refine ⟨_, rfl, fun x w hk hd K' hK => ?_⟩
        have e19 : x 19 = _ := (hd 19 (of_decide_eq_true (by kernel_rfl)) (.inl rfl))
        have e18 : x 18 = _ := (hd 18 (of_decide_eq_true (by kernel_rfl)) (.inl rfl))
        obtain ⟨s1, s2⟩ := HN.out
        clear hd
        simp only [e19, e18]
        go_simp
        have hK2 := hK _ w (upd_same x 20 _) hk (fun j _ _ _ _ y t => t)
        simp (config := {decide := true}) only [upd, if_true, if_false, e19, e18] at hK2
        exact hK2
      · refine ⟨_, rfl, fun x w hk hd K' hK => ?_⟩
        have e20 : x 20 = _ := (hd 20 (of_decide_eq_true (by kernel_rfl)) (.inl rfl))
        have e18 : x 18 = _ := (hd 18 (of_decide_eq_true (by kernel_rfl)) (.inl rfl))
        clear hd
        simp only [e20, e18]
        go_simp
        have hK2 := hK _ w (upd_same x 21 _) hk (fun j _ _ _ _ y t => t)
        simp (config := {decide := true}) only [upd, if_true, if_false, e20, e18] at hK2
        exact hK2
      · refine ⟨_, rfl, fun x w hk hd K' hK => ?_⟩
        have e21 : x 21 = _ := (hd 21 (of_decide_eq_true (by kernel_rfl)) (.inl rfl))
        clear hd
        rw [if_neg (by show ¬ _ = true; simp only [e21]; exact Bool.false_ne_true)]
        have hK2 := hK undef w (upd_same x 22 _) hk (fun j _ _ _ _ y t => t)
        simp only [e21]
        simp (config := {decide := true}) only [upd, if_true, if_false, e21] at hK2
        exact hK2
      · refine ⟨_, rfl, fun x w hk hd K' hK => ?_⟩
        have e21 : x 21 = _ := (hd 21 (of_decide_eq_true (by kernel_rfl)) (.inl rfl))
        clear hd
        rw [if_neg (by show ¬ _ = true; simp only [e21]; exact Bool.false_ne_true)]
        have hK2 := hK undef w (upd_same x 23 _) hk (fun j _ _ _ _ y t => t)
        simp only [e21]
        simp (config := {decide := true}) only [upd, if_true, if_false, e21] at hK2
        exact hK2
      · refine ⟨_, rfl, fun x w hk hd K' hK => ?_⟩
        have e21 : x 21 = _ := (hd 21 (of_decide_eq_true (by kernel_rfl)) (.inl rfl))
        clear hd
        rw [if_neg (by show ¬ _ = true; simp only [e21]; exact Bool.false_ne_true)]
        have hK2 := hK undef w (upd_same x 24 _) hk (fun j _ _ _ _ y t => t)
        simp only [e21]
        simp (config := {decide := true}) only [upd, if_true, if_false, e21] at hK2
        exact hK2
      · refine ⟨_, rfl, fun x w hk hd K' hK => ?_⟩
        have e21 : x 21 = _ := (hd 21 (of_decide_eq_true (by kernel_rfl)) (.inl rfl))
        have e24 : x 24 = _ := (hd 24 (of_decide_eq_true (by kernel_rfl)) (.inl rfl))
        have e18 : x 18 = _ := (hd 18 (of_decide_eq_true (by kernel_rfl)) (.inl rfl))
        clear hd
        simp only [e21, e24, e18]
        go_simp
        have hK2 := hK _ w (upd_same x 25 _) hk (fun j _ _ _ _ y t => t)
        simp (config := {decide := true}) only [upd, if_true, if_false, e21, e24, e18] at hK2
        exact hK2
      · refine ⟨_, rfl, fun x w hk hd K' hK => ?_⟩
        have e18 : x 18 = _ := (hd 18 (of_decide_eq_true (by kernel_rfl)) (.inl rfl))
        have e25 : x 25 = _ := (hd 25 (of_decide_eq_true (by kernel_rfl)) (.inl rfl))
        clear hd
        simp only [e18, e25]
        go_simp
        have hK2 := hK _ w (upd_same x 26 _) hk (fun j _ _ _ _ y t => t)
        simp (config := {decide := true}) only [upd, if_true, if_false, e18, e25] at hK2
        exact hK2
      · refine ⟨_, rfl, fun x w hk hd K' hK => ?_⟩
        have e26 : x 26 = _ := (hd 26 (of_decide_eq_true (by kernel_rfl)) (.inl rfl))
        clear hd
        simp only [e26]
        go_simp
        have hK2 := hK _ w (upd_same x 27 _) hk (fun j _ _ _ _ y t => t)
        simp (config := {decide := true}) only [upd, if_true, if_false, e26] at hK2
        exact hK2
      · refine ⟨_, rfl, fun x w hk hd K' hK => ?_⟩
        have e27 : x 27 = _ := (hd 27 (of_decide_eq_true (by kernel_rfl)) (.inl rfl))
        clear hd
        simp only [e27]
        go_simp
        have hK2 := hK _ w (upd_same x 28 _) hk (fun j _ _ _ _ y t => t)
        simp (config := {decide := true}) only [upd, if_true, if_false, e27] at hK2
        exact hK2
      · refine ⟨_, rfl, fun x w hk hd K' hK => ?_⟩
        have e27 : x 27 = _ := (hd 27 (of_decide_eq_true (by kernel_rfl)) (.inl rfl))
        clear hd
        simp only [e27]
        go_simp
        have hK2 := hK _ w (upd_same x 29 _) hk (fun j _ _ _ _ y t => t)
        simp (config := {decide := true}) only [upd, if_true, if_false, e27] at hK2
        exact hK2
      · refine ⟨_, rfl, fun x w hk hd K' hK => ?_⟩
        have e28 : x 28 = _ := (hd 28 (of_decide_eq_true (by kernel_rfl)) (.inl rfl))
        have e29 : x 29 = _ := (hd 29 (of_decide_eq_true (by kernel_rfl)) (.inl rfl))
        have e27 : x 27 = _ := (hd 27 (of_decide_eq_true (by kernel_rfl)) (.inl rfl))
        obtain ⟨s1, s2⟩ := HF.out
        clear hd
        simp only [e28, e29, e27]
        go_simp
        have hK2 := hK _ w (upd_same x 30 _) hk (fun j _ _ _ _ y t => t)
        simp (config := {decide := true}) only [upd, if_true, if_false, e28, e29, e27] at hK2
        exact hK2
      · refine ⟨_, rfl, fun x w hk hd K' hK => ?_⟩
        have e30 : x 30 = _ := (hd 30 (of_decide_eq_true (by kernel_rfl)) (.inl rfl))
        have e27 : x 27 = _ := (hd 27 (of_decide_eq_true (by kernel_rfl)) (.inl rfl))
        clear hd
        simp only [e30, e27]
        go_simp
        have hK2 := hK _ w (upd_same x 31 _) hk (fun j _ _ _ _ y t => t)
        simp (config := {decide := true}) only [upd, if_true, if_false, e30, e27] at hK2
        exact hK2
      · refine ⟨_, rfl, fun x w hk hd K' hK => ?_⟩
        have e31 : x 31 = _ := (hd 31 (of_decide_eq_true (by kernel_rfl)) (.inl rfl))
        obtain ⟨⟨z0, z1⟩, -⟩ := HCE.out w hk
        clear hd
        simp only [e31]
        go_simp
        have hK2 := hK _ w (upd_same x 32 _) hk (fun j _ _ _ _ y t => t)
        simp (config := {decide := true}) only [upd, if_true, if_false, e31] at hK2
        exact hK2
      · refine ⟨_, rfl, fun x w hk hd K' hK => ?_⟩
        have e32 : x 32 = _ := (hd 32 (of_decide_eq_true (by kernel_rfl)) (.inl rfl))
        have e31 : x 31 = _ := (hd 31 (of_decide_eq_true (by kernel_rfl)) (.inl rfl))
        have HC := Lib.hid (HS1.out HQ.out w _ _ (HB4.out.trans (Below.mono hk HB4.out.size)) (HX4.out.num.below hk) (HX4.out.den.below hk))
        clear hd
        simp only [e32, e31]
        go_simp
        refine HC.out.mono ?_
        rintro e w' ⟨rfl, hB⟩
        have hK2 := hK _ w' (upd_same x 33 _) (hk.next hB) (fun j _ _ _ _ y t => TGC.next hB j y t)
        simp (config := {decide := true}) only [upd, if_true, if_false, e32, e31] at hK2
        exact hK2
      · refine ⟨_, rfl, fun x w hk hd K' hK => ?_⟩
        have e33 : x 33 = _ := (hd 33 (of_decide_eq_true (by kernel_rfl)) (.inl rfl))
        have e31 : x 31 = _ := (hd 31 (of_decide_eq_true (by kernel_rfl)) (.inl rfl))
        have hne : ((#[49] : Array UInt8) == #[49]) = true := by decide
        clear hd
        simp only [e33, e31]
        go_simp
        have hK2 := hK _ w (upd_same x 34 _) hk (fun j _ _ _ _ y t => t)
        simp (config := {decide := true}) only [upd, if_true, if_false, e33, e31] at hK2
        exact hK2
      · refine ⟨_, rfl, fun x w hk hd K' hK => ?_⟩
        have e31 : x 31 = _ := (hd 31 (of_decide_eq_true (by kernel_rfl)) (.inl rfl))
        have e34 : x 34 = _ := (hd 34 (of_decide_eq_true (by kernel_rfl)) (.inl rfl))
        have e27 : x 27 = _ := (hd 27 (of_decide_eq_true (by kernel_rfl)) (.inl rfl))
        clear hd
        simp only [e31, e34, e27]
        go_simp
        have hK2 := hK _ w (upd_same x 35 _) hk (fun j _ _ _ _ y t => t)
        simp (config := {decide := true}) only [upd, if_true, if_false, e31, e34, e27] at hK2
        exact hK2
      · refine ⟨_, rfl, fun x w hk hd K' hK => ?_⟩
        have e27 : x 27 = _ := (hd 27 (of_decide_eq_true (by kernel_rfl)) (.inl rfl))
        have e35 : x 35 = _ := (hd 35 (of_decide_eq_true (by kernel_rfl)) (.inl rfl))
        clear hd
        simp only [e27, e35]
        go_simp
        have hK2 := hK _ w (upd_same x 36 _) hk (fun j _ _ _ _ y t => t)
        simp (config := {decide := true}) only [upd, if_true, if_false, e27, e35] at hK2
        exact hK2
    · intro x w listed hk hT hl
      subst hl
      have y0 : x 0 = _ := hT 0 (by decide) rfl
      have y1 : x 1 = _ := hT 1 (by decide) rfl
      have y2 : x 2 = _ := hT 2 (by decide) rfl
      have y3 : x 3 = _ := hT 3 (by decide) rfl
      have y4 : x 4 = _ := hT 4 (by decide) rfl
      have y5 : x 5 = _ := hT 5 (by decide) rfl
      have y6 : x 6 = _ := hT 6 (by decide) rfl
      have y7 : x 7 = _ := hT 7 (by decide) rfl
      have y8 : x 8 = _ := hT 8 (by decide) rfl
      have y9 : x 9 = _ := hT 9 (by decide) rfl
      have y10 : x 10 = _ := hT 10 (by decide) rfl
      have y11 : x 11 = _ := hT 11 (by decide) rfl
      have y12 : x 12 = _ := hT 12 (by decide) rfl
      have y13 : x 13 = _ := hT 13 (by decide) rfl
      have y15 : x 15 = _ := hT 15 (by decide) rfl
      have y16 : x 16 = _ := hT 16 (by decide) rfl
      have y17 : x 17 = _ := hT 17 (by decide) rfl
      have y18 : x 18 = _ := hT 18 (by decide) rfl
      have y19 : x 19 = _ := hT 19 (by decide) rfl
      have y20 : x 20 = _ := hT 20 (by decide) rfl
      have y21 : x 21 = _ := hT 21 (by decide) rfl
      have y22 : x 22 = _ := hT 22 (by decide) rfl
      have y23 : x 23 = _ := hT 23 (by decide) rfl
      have y24 : x 24 = _ := hT 24 (by decide) rfl
      have y25 : x 25 = _ := hT 25 (by decide) rfl
      have y26 : x 26 = _ := hT 26 (by decide) rfl
      have y27 : x 27 = _ := hT 27 (by decide) rfl
      have y28 : x 28 = _ := hT 28 (by decide) rfl
      have y29 : x 29 = _ := hT 29 (by decide) rfl
      have y30 : x 30 = _ := hT 30 (by decide) rfl
      have y31 : x 31 = _ := hT 31 (by decide) rfl
      have y32 : x 32 = _ := hT 32 (by decide) rfl
      have y33 : x 33 = _ := hT 33 (by decide) rfl
      have y34 : x 34 = _ := hT 34 (by decide) rfl
      have y35 : x 35 = _ := hT 35 (by decide) rfl
      have y36 : x 36 = _ := hT 36 (by decide) rfl
      obtain ⟨zo, zl, zc, yo, yl, yc, y14, -⟩ := hT 14 (by decide) rfl
      clear hT
      simp only [y0, y1, y2, y3, y4, y5, y6, y7, y8, y9, y10, y11, y12, y13, y14, y15, y16, y17, y18, y19, y20, y21, y22, y23, y24, y25, y26, y27, y28, y29, y30, y31, y32, y33, y34, y35, y36]
      refine wpAny_done (by kernel_rfl) ?_ _
      have HKW := Lib.hid hk
      clear hk y0 y1 y2 y3 y4 y5 y6 y7 y8 y9 y10 y11 y12 y13 y14 y15 y16 y17 y18 y19 y20 y21 y22 y23 y24 y25 y26 y27 y28 y29 y30 y31 y32 y33 y34 y35 y36
      have HB5 := Lib.hid (HB4.out.trans (Below.mono HKW.out HB4.out.size))
      have HX5 := Lib.hid (HX4.out.next HKW.out)
      clear HX4 HY HB4 HCE HC1 HC2 HRA HD1 HD2 HN HF HG HW4' HKW
      by_cases hg : g = 0
      · have e : lt = b := by have := HLT.out; omega
        subst e
        have hee : ((lt : Int) = (lt : Int)) := rfl
        clear HLT HA3 HCM HP4 HP1 HWB hg
        go_wp2_with fail
        refine (HAW.out _ HB5.out).mono ?_
        rintro e w6 ⟨rfl, hb⟩
        go_wp2_with fail
        go_ret
        exact ⟨rfl, HB5.out.trans (hb.out.mono HB5.out.size)⟩
      · have hne : ¬ (b : Int) = (lt : Int) := by have := HLT.out; omega
        have HA := Lib.hid (HA3.out hg)
        have hwb := HWB.out hg
        have hle := Lib.hid (HP4.out hg)
        clear HLT HA3 HWB HP4 hg
        go_wp2_with fail
        refine (HA.out _).mono ?_
        rintro e w6 ⟨ko, kl, kc, lo, ll, lc, rfl, hp, hq, hb⟩
        obtain ⟨w7, HW7⟩ : ∃ w2, w2 = w6.alloc (.cells #[.slice ko kl kc, .slice lo ll lc] 34) := ⟨_, rfl⟩
        have HZ := Lib.hid (show FB w6.heap.size (.slice ko kl kc) (.slice lo ll lc) L3 M w7 by rw [HW7]; exact FB.new hp hq _)
        have b2 : Below w6.heap.size w6 w7 := by rw [HW7]; exact alloc1_below _ _
        have b3 := hb.trans (b2.mono hb.size)
        have HX7 := Lib.hid (HX5.out.next b3)
        have HB7 := Lib.hid (HB5.out.trans (b3.mono HB5.out.size)); have HW7' := Lib.hid HW7
        clear hp hq hb b2 b3 HW7 HX5 HB5 hwb hne
        go_upto_region 10 with fail
        rw [← HW7'.out]
        have k0 := HX7.out.box.c0; have k1 := HX7.out.box.c1; have k2 := HZ.out.box.c0; have k3 := HZ.out.box.c1
        go_wp2_with fail
        refine (HCM.out _ _ _ _ _ L3 L (Nat.le_trans hle.out HP1.out) HP1.out hle.out HZ.out.num HZ.out.den HX7.out.num HX7.out.den).mono ?_
        rintro e w8 ⟨R3, rfl, hr3, hb⟩
        have HB8 := Lib.hid (HB7.out.trans (hb.out.mono HB7.out.size))
        have d3 : decide (R3 ≤ 0) = true := decide_eq_true hr3
        clear hb k0 k1 k2 k3
        go_wp2_with fail
        refine (HAW.out _ HB8.out).mono ?_
        rintro e w9 ⟨rfl, hb⟩
        go_wp2_with fail
        go_ret
        exact ⟨rfl, HB8.out.trans (hb.out.mono HB8.out.size)⟩
  have HN : Hid (decide (c < 0) = false ∧ decide (0 > c) = false) := ⟨decide_eq_false (by omega), decide_eq_false (by omega)⟩
  have HF : Hid (decide (c ≥ m) = false ∧ decide ((m : Int) ≤ c) = false) := ⟨decide_eq_false (by omega), decide_eq_false (by omega)⟩
  clear q1 q2 HS0 HS1
  refine region_own v4 37 (fun x => ⟨#[.int .i64 (lt : Int), .int .i64 (b : Int), .int .i64 (m : Int), .int .i64 c, undef, undef, undef, undef, .bool false, .pointer (some ⟨v1.heap.size, 0, none⟩), .int .i64 0, .pointer (some ⟨v3.heap.size, 0, none⟩), .int .i64 0, undef, undef, .int .i64 (lt : Int), .bool false, .bool false, .int .i64 (lt : Int), .int .i64 (b : Int), .int .i64 (m : Int), .bool true, .bool false, .bool false, .bool false, .int .i64 c, .bool (decide (1099511627776 < c)), .bool (decide (1099511627776 < c)), undef, .tuple #[.agg #[.slice ao aj ac, .slice bo bl bc], .int .i64 0], .int .i64 (lt : Int), .int .i64 (b : Int), .int .i64 (m : Int), .int .i64 c, .tuple #[.agg #[.slice ao aj ac, .slice bo bl bc], .int .i64 0], .agg #[.slice ao aj ac, .slice bo bl bc], .int .i64 0, .tuple #[.agg #[.slice co cl cc, .slice do2 dl dc], .int .i64 0], .int .i64 (lt : Int), .int .i64 (b : Int), .int .i64 (m : Int), .int .i64 c, .int .i64 (c + 1), .tuple #[.agg #[.slice co cl cc, .slice do2 dl dc], .int .i64 0], .agg #[.slice co cl cc, .slice do2 dl dc], .int .i64 0, x 0, x 1, x 2, x 3, x 4, x 5, x 6, x 7, x 8, x 9, x 10, x 11, x 12, x 13, x 14, x 15, x 16, x 17, x 18, x 19, x 20, x 21, x 22, x 23, x 24, x 25, x 26, x 27, x 28, x 29, x 30, x 31, x 32, x 33, x 34, x 35, x 36, undef, undef, undef, undef, undef, undef, undef, undef, undef, undef, undef, undef, undef, undef, undef, undef, undef, undef, undef, undef, undef, undef, undef, undef], []⟩) (TGB v4 ao bo co do2 aj ac bl bc cl cc dl dc m c R1 R2) TGBkill (fun j => [undef, undef, undef, undef, undef, undef, undef, undef, undef, undef, undef, undef, undef, undef, undef, undef, undef, undef, undef, undef, undef, undef, undef, undef, undef, undef, undef, undef, undef, undef, undef, undef, undef, undef, undef, undef, undef].getD j undef) rfl (by kernel_rfl) (of_decide_eq_true (by kernel_rfl)) (of_decide_eq_true (by kernel_rfl)) (of_decide_eq_true (by kernel_rfl)) (TGB.congr ) ?_ ?_
  · intro i hi
    have hi2 : i = 0 ∨ i = 1 ∨ i = 2 ∨ i = 3 ∨ i = 4 ∨ i = 5 ∨ i = 6 ∨ i = 7 ∨ i = 8 ∨ i = 9 ∨ i = 10 ∨ i = 11 ∨ i = 12 ∨ i = 13 ∨ i = 14 ∨ i = 15 ∨ i = 16 ∨ i = 17 ∨ i = 18 ∨ i = 19 ∨ i = 20 ∨ i = 21 ∨ i = 22 ∨ i = 23 ∨ i = 24 ∨ i = 25 ∨ i = 26 ∨ i = 27 ∨ i = 28 ∨ i = 29 ∨ i = 30 ∨ i = 31 ∨ i = 32 ∨ i = 33 ∨ i = 34 ∨ i = 35 ∨ i = 36 := by omega
    clear hi
    rcases hi2 with rfl | rfl | rfl | rfl | rfl | rfl | rfl | rfl | rfl | rfl | rfl | rfl | rfl | rfl | rfl | rfl | rfl | rfl | rfl | rfl | rfl | rfl | rfl | rfl | rfl | rfl | rfl | rfl | rfl | rfl | rfl | rfl | rfl | rfl | rfl | rfl | rfl
    · refine ⟨_, rfl, fun x w hk hd K' hK => ?_⟩
      clear hd
      go_simp
      exact hK _ w (upd_same x 0 _) hk (fun j _ _ _ _ y t => t)
    · refine ⟨_, rfl, fun x w hk hd K' hK => ?_⟩
      have e0 : x 0 = _ := (hd 0 (of_decide_eq_true (by kernel_rfl)) (.inl rfl))
      clear hd
      simp only [e0]
      go_simp
      have hK2 := hK _ w (upd_same x 1 _) hk (fun j _ _ _ _ y t => t)
      simp (config := {decide := true}) only [upd, if_true, if_false, e0] at hK2
      exact hK2
    · refine ⟨_, rfl, fun x w hk hd K' hK => ?_⟩
      have e1 : x 1 = _ := (hd 1 (of_decide_eq_true (by kernel_rfl)) (.inl rfl))
      clear hd
      simp only [e1]
      go_simp
      have hK2 := hK _ w (upd_same x 2 _) hk (fun j _ _ _ _ y t => t)
      simp (config := {decide := true}) only [upd, if_true, if_false, e1] at hK2
      exact hK2
    · refine ⟨_, rfl, fun x w hk hd K' hK => ?_⟩
      have e2 : x 2 = _ := (hd 2 (of_decide_eq_true (by kernel_rfl)) (.inl rfl))
      clear hd
      simp only [e2]
      go_simp
      have hK2 := hK _ w (upd_same x 3 _) hk (fun j _ _ _ _ y t => t)
      simp (config := {decide := true}) only [upd, if_true, if_false, e2] at hK2
      exact hK2
    · refine ⟨_, rfl, fun x w hk hd K' hK => ?_⟩
      have e3 : x 3 = _ := (hd 3 (of_decide_eq_true (by kernel_rfl)) (.inl rfl))
      have e2 : x 2 = _ := (hd 2 (of_decide_eq_true (by kernel_rfl)) (.inl rfl))
      clear hd
      simp only [e3, e2]
      go_simp
      have hK2 := hK _ w (upd_same x 4 _) hk (fun j _ _ _ _ y t => t)
      simp (config := {decide := true}) only [upd, if_true, if_false, e3, e2] at hK2
      exact hK2
    · refine ⟨_, rfl, fun x w hk hd K' hK => ?_⟩
      have e2 : x 2 = _ := (hd 2 (of_decide_eq_true (by kernel_rfl)) (.inl rfl))
      have e4 : x 4 = _ := (hd 4 (of_decide_eq_true (by kernel_rfl)) (.inl rfl))
      clear hd
      simp only [e2, e4]
      go_simp
      have hK2 := hK _ w (upd_same x 5 _) hk (fun j _ _ _ _ y t => t)
      simp (config := {decide := true}) only [upd, if_true, if_false, e2, e4] at hK2
      exact hK2
    · refine ⟨_, rfl, fun x w hk hd K' hK => ?_⟩
      have e5 : x 5 = _ := (hd 5 (of_decide_eq_true (by kernel_rfl)) (.inl rfl))
      clear hd
      simp only [e5]
      go_simp
      have hK2 := hK _ w (upd_same x 6 _) hk (fun j _ _ _ _ y t => t)
      simp (config := {decide := true}) only [upd, if_true, if_false, e5] at hK2
      exact hK2
    · refine ⟨_, rfl, fun x w hk hd K' hK => ?_⟩
      have e6 : x 6 = _ := (hd 6 (of_decide_eq_true (by kernel_rfl)) (.inl rfl))
      obtain ⟨⟨z0, z1⟩, -⟩ := HCE.out w hk
      clear hd
      simp only [e6]
      go_simp
      have hK2 := hK _ w (upd_same x 7 _) hk (fun j _ _ _ _ y t => t)
      simp (config := {decide := true}) only [upd, if_true, if_false, e6] at hK2
      exact hK2
    · refine ⟨_, rfl, fun x w hk hd K' hK => ?_⟩
      have e6 : x 6 = _ := (hd 6 (of_decide_eq_true (by kernel_rfl)) (.inl rfl))
      obtain ⟨-, z0, z1⟩ := HCE.out w hk
      clear hd
      simp only [e6]
      go_simp
      have hK2 := hK _ w (upd_same x 8 _) hk (fun j _ _ _ _ y t => t)
      simp (config := {decide := true}) only [upd, if_true, if_false, e6] at hK2
      exact hK2
    · refine ⟨_, rfl, fun x w hk hd K' hK => ?_⟩
      have e7 : x 7 = _ := (hd 7 (of_decide_eq_true (by kernel_rfl)) (.inl rfl))
      have e8 : x 8 = _ := (hd 8 (of_decide_eq_true (by kernel_rfl)) (.inl rfl))
      have e6 : x 6 = _ := (hd 6 (of_decide_eq_true (by kernel_rfl)) (.inl rfl))
      have HC := Lib.hid (HC1.out w _ _ _ _ (HX4.out.num.below hk) (HX4.out.den.below hk) (HY.out.num.below hk) (HY.out.den.below hk))
      clear hd
      simp only [e7, e8, e6]
      go_simp
      refine HC.out.mono ?_
      rintro e w' ⟨rfl, hB⟩
      have hK2 := hK _ w' (upd_same x 9 _) (hk.next hB) (fun j _ _ _ _ y t => TGB.next hB j y t)
      simp (config := {decide := true}) only [upd, if_true, if_false, e7, e8, e6] at hK2
      exact hK2
    · refine ⟨_, rfl, fun x w hk hd K' hK => ?_⟩
      have e9 : x 9 = _ := (hd 9 (of_decide_eq_true (by kernel_rfl)) (.inl rfl))
      have e6 : x 6 = _ := (hd 6 (of_decide_eq_true (by kernel_rfl)) (.inl rfl))
      obtain ⟨s1, s2⟩ := HD1.out
      clear hd
      simp only [e9, e6]
      go_simp
      have hK2 := hK _ w (upd_same x 10 _) hk (fun j _ _ _ _ y t => t)
      simp (config := {decide := true}) only [upd, if_true, if_false, e9, e6] at hK2
      exact hK2
    · refine ⟨_, rfl, fun x w hk hd K' hK => ?_⟩
      have e6 : x 6 = _ := (hd 6 (of_decide_eq_true (by kernel_rfl)) (.inl rfl))
      have e10 : x 10 = _ := (hd 10 (of_decide_eq_true (by kernel_rfl)) (.inl rfl))
      clear hd
      simp only [e6, e10]
      go_simp
      have hK2 := hK _ w (upd_same x 11 _) hk (fun j _ _ _ _ y t => t)
      simp (config := {decide := true}) only [upd, if_true, if_false, e6, e10] at hK2
      exact hK2
    · refine ⟨_, rfl, fun x w hk hd K' hK => ?_⟩
      have e11 : x 11 = _ := (hd 11 (of_decide_eq_true (by kernel_rfl)) (.inl rfl))
      clear hd
      simp only [e11]
      go_simp
      have hK2 := hK _ w (upd_same x 12 _) hk (fun j _ _ _ _ y t => t)
      simp (config := {decide := true}) only [upd, if_true, if_false, e11] at hK2
      exact hK2
    · refine ⟨_, rfl, fun x w hk hd K' hK => ?_⟩
      have e12 : x 12 = _ := (hd 12 (of_decide_eq_true (by kernel_rfl)) (.inl rfl))
      obtain ⟨-, z0, z1⟩ := HCE.out w hk
      clear hd
      simp only [e12]
      go_simp
      have hK2 := hK _ w (upd_same x 13 _) hk (fun j _ _ _ _ y t => t)
      simp (config := {decide := true}) only [upd, if_true, if_false, e12] at hK2
      exact hK2
    · refine ⟨_, rfl, fun x w hk hd K' hK => ?_⟩
      have e12 : x 12 = _ := (hd 12 (of_decide_eq_true (by kernel_rfl)) (.inl rfl))
      have HC := Lib.hid (HRA.out w)
      clear hd
      simp only [e12]
      go_simp
      refine HC.out.mono ?_
      rintro e w' ⟨ao, ai, ac, bo, bl, bc, rfl, h, h9, hB⟩
      have hK2 := hK _ w' (⟨ao, ai, ac, bo, bl, bc, upd_same x 14 _, h, h9⟩) (hk.next hB) (fun j _ _ _ _ y t => TGB.next hB j y t)
      simp (config := {decide := true}) only [upd, if_true, if_false, e12] at hK2
      exact hK2
    · refine ⟨_, rfl, fun x w hk hd K' hK => ?_⟩
      have e13 : x 13 = _ := (hd 13 (of_decide_eq_true (by kernel_rfl)) (.inl rfl))
      obtain ⟨ao14, ai14, ac14, bo14, bl14, bc14, e14, h14_0, h14_1⟩ := (hd 14 (of_decide_eq_true (by kernel_rfl)) (.inl rfl))
      have e12 : x 12 = _ := (hd 12 (of_decide_eq_true (by kernel_rfl)) (.inl rfl))
      have HC := Lib.hid (HC2.out w _ _ _ _ (HY.out.num.below hk) (HY.out.den.below hk) h14_0 h14_1)
      clear h14_0 h14_1
      clear hd
      simp only [e13, e14, e12]
      go_simp
      refine HC.out.mono ?_
      rintro e w' ⟨rfl, hB⟩
      have hK2 := hK _ w' (upd_same x 15 _) (hk.next hB) (fun j _ _ _ _ y t => TGB.next hB j y t)
      simp (config := {decide := true}) only [upd, if_true, if_false, e13, e14, e12] at hK2
      exact hK2
    · refine ⟨_, rfl, fun x w hk hd K' hK => ?_⟩
      have e15 : x 15 = _ := (hd 15 (of_decide_eq_true (by kernel_rfl)) (.inl rfl))
      have e12 : x 12 = _ := (hd 12 (of_decide_eq_true (by kernel_rfl)) (.inl rfl))
      obtain ⟨s1, s2⟩ := HD2.out
      clear hd
      simp only [e15, e12]
      go_simp
      have hK2 := hK _ w (upd_same x 16 _) hk (fun j _ _ _ _ y t => t)
      simp (config := {decide := true}) only [upd, if_true, if_false, e15, e12] at hK2
      exact hK2
    · refine ⟨_, rfl, fun x w hk hd K' hK => ?_⟩
      have e12 : x 12 = _ := (hd 12 (of_decide_eq_true (by kernel_rfl)) (.inl rfl))
      have e16 : x 16 = _ := (hd 16 (of_decide_eq_true (by kernel_rfl)) (.inl rfl))
      clear hd
      simp only [e12, e16]
      go_simp
      have hK2 := hK _ w (upd_same x 17 _) hk (fun j _ _ _ _ y t => t)
      simp (config := {decide := true}) only [upd, if_true, if_false, e12, e16] at hK2
      exact hK2
    · refine ⟨_, rfl, fun x w hk hd K' hK => ?_⟩
      have e17 : x 17 = _ := (hd 17 (of_decide_eq_true (by kernel_rfl)) (.inl rfl))
      clear hd
      simp only [e17]
      go_simp
      have hK2 := hK _ w (upd_same x 18 _) hk (fun j _ _ _ _ y t => t)
      simp (config := {decide := true}) only [upd, if_true, if_false, e17] at hK2
      exact hK2
    · refine ⟨_, rfl, fun x w hk hd K' hK => ?_⟩
      have e18 : x 18 = _ := (hd 18 (of_decide_eq_true (by kernel_rfl)) (.inl rfl))
      clear hd
      simp only [e18]
      go_simp
      have hK2 := hK _ w (upd_same x 19 _) hk (fun j _ _ _ _ y t => t)
      simp (config := {decide := true}) only [upd, if_true, if_false, e18] at hK2
      exact hK2
    · refine ⟨_, rfl, fun x w hk hd K' hK => ?_⟩
      have e19 : x 19 = _ := (hd 19 (of_decide_eq_true (by kernel_rfl)) (.inl rfl))
      have e18 : x 18 = _ := (hd 18 (of_decide_eq_true (by kernel_rfl)) (.inl rfl))
      obtain ⟨s1, s2⟩ := HN.out
      clear hd
      simp only [e19, e18]
      go_simp
      have hK2 := hK _ w (upd_same x 20 _) hk (fun j _ _ _ _ y t => t)
      simp (config := {decide := true}) only [upd, if_true, if_false, e19, e18] at hK2
      exact hK2
    · refine ⟨_, rfl, fun x w hk hd K' hK => ?_⟩
      have e20 : x 20 = _ := (hd 20 (of_decide_eq_true (by kernel_rfl)) (.inl rfl))
      have e18 : x 18 = _ := (hd 18 (of_decide_eq_true (by kernel_rfl)) (.inl rfl))
      clear hd
      simp only [e20, e18]
      go_simp
      have hK2 := hK _ w (upd_same x 21 _) hk (fun j _ _ _ _ y t => t)
      simp (config := {decide := true}) only [upd, if_true, if_false, e20, e18] at hK2
      exact hK2
    · refine ⟨_, rfl, fun x w hk hd K' hK => ?_⟩
      have e21 : x 21 = _ := (hd 21 (of_decide_eq_true (by kernel_rfl)) (.inl rfl))
      clear hd
      rw [if_neg (by show ¬ _ = true; simp only [e21]; exact Bool.false_ne_true)]
      have hK2 := hK undef w (upd_same x 22 _) hk (fun j _ _ _ _ y t => t)
      simp only [e21]
      simp (config := {decide := true}) only [upd, if_true, if_false, e21] at hK2
      exact hK2
    · refine ⟨_, rfl, fun x w hk hd K' hK => ?_⟩
      have e21 : x 21 = _ := (hd 21 (of_decide_eq_true (by kernel_rfl)) (.inl rfl))
      clear hd
      rw [if_neg (by show ¬ _ = true; simp only [e21]; exact Bool.false_ne_true)]
      have hK2 := hK undef w (upd_same x 23 _) hk (fun j _ _ _ _ y t => t)
      simp only [e21]
      simp (config := {decide := true}) only [upd, if_true, if_false, e21] at hK2
      exact hK2
    · refine ⟨_, rfl, fun x w hk hd K' hK => ?_⟩
      have e21 : x 21 = _ := (hd 21 (of_decide_eq_true (by kernel_rfl)) (.inl rfl))
      clear hd
      rw [if_neg (by show ¬ _ = true; simp only [e21]; exact Bool.false_ne_true)]
      have hK2 := hK undef w (upd_same x 24 _) hk (fun j _ _ _ _ y t => t)
      simp only [e21]
      simp (config := {decide := true}) only [upd, if_true, if_false, e21] at hK2
      exact hK2
    · refine ⟨_, rfl, fun x w hk hd K' hK => ?_⟩
      have e21 : x 21 = _ := (hd 21 (of_decide_eq_true (by kernel_rfl)) (.inl rfl))
      have e24 : x 24 = _ := (hd 24 (of_decide_eq_true (by kernel_rfl)) (.inl rfl))
      have e18 : x 18 = _ := (hd 18 (of_decide_eq_true (by kernel_rfl)) (.inl rfl))
      clear hd
      simp only [e21, e24, e18]
      go_simp
      have hK2 := hK _ w (upd_same x 25 _) hk (fun j _ _ _ _ y t => t)
      simp (config := {decide := true}) only [upd, if_true, if_false, e21, e24, e18] at hK2
      exact hK2
    · refine ⟨_, rfl, fun x w hk hd K' hK => ?_⟩
      have e18 : x 18 = _ := (hd 18 (of_decide_eq_true (by kernel_rfl)) (.inl rfl))
      have e25 : x 25 = _ := (hd 25 (of_decide_eq_true (by kernel_rfl)) (.inl rfl))
      clear hd
      simp only [e18, e25]
      go_simp
      have hK2 := hK _ w (upd_same x 26 _) hk (fun j _ _ _ _ y t => t)
      simp (config := {decide := true}) only [upd, if_true, if_false, e18, e25] at hK2
      exact hK2
    · refine ⟨_, rfl, fun x w hk hd K' hK => ?_⟩
      have e26 : x 26 = _ := (hd 26 (of_decide_eq_true (by kernel_rfl)) (.inl rfl))
      clear hd
      simp only [e26]
      go_simp
      have hK2 := hK _ w (upd_same x 27 _) hk (fun j _ _ _ _ y t => t)
      simp (config := {decide := true}) only [upd, if_true, if_false, e26] at hK2
      exact hK2
    · refine ⟨_, rfl, fun x w hk hd K' hK => ?_⟩
      have e27 : x 27 = _ := (hd 27 (of_decide_eq_true (by kernel_rfl)) (.inl rfl))
      clear hd
      simp only [e27]
      go_simp
      have hK2 := hK _ w (upd_same x 28 _) hk (fun j _ _ _ _ y t => t)
      simp (config := {decide := true}) only [upd, if_true, if_false, e27] at hK2
      exact hK2
    · refine ⟨_, rfl, fun x w hk hd K' hK => ?_⟩
      have e27 : x 27 = _ := (hd 27 (of_decide_eq_true (by kernel_rfl)) (.inl rfl))
      clear hd
      simp only [e27]
      go_simp
      have hK2 := hK _ w (upd_same x 29 _) hk (fun j _ _ _ _ y t => t)
      simp (config := {decide := true}) only [upd, if_true, if_false, e27] at hK2
      exact hK2
    · refine ⟨_, rfl, fun x w hk hd K' hK => ?_⟩
      have e28 : x 28 = _ := (hd 28 (of_decide_eq_true (by kernel_rfl)) (.inl rfl))
      have e29 : x 29 = _ := (hd 29 (of_decide_eq_true (by kernel_rfl)) (.inl rfl))
      have e27 : x 27 = _ := (hd 27 (of_decide_eq_true (by kernel_rfl)) (.inl rfl))
      obtain ⟨s1, s2⟩ := HF.out
      clear hd
      simp only [e28, e29, e27]
      go_simp
      have hK2 := hK _ w (upd_same x 30 _) hk (fun j _ _ _ _ y t => t)
      simp (config := {decide := true}) only [upd, if_true, if_false, e28, e29, e27] at hK2
      exact hK2
    · refine ⟨_, rfl, fun x w hk hd K' hK => ?_⟩
      have e30 : x 30 = _ := (hd 30 (of_decide_eq_true (by kernel_rfl)) (.inl rfl))
      have e27 : x 27 = _ := (hd 27 (of_decide_eq_true (by kernel_rfl)) (.inl rfl))
      clear hd
      simp only [e30, e27]
      go_simp
      have hK2 := hK _ w (upd_same x 31 _) hk (fun j _ _ _ _ y t => t)
      simp (config := {decide := true}) only [upd, if_true, if_false, e30, e27] at hK2
      exact hK2
    · refine ⟨_, rfl, fun x w hk hd K' hK => ?_⟩
      have e31 : x 31 = _ := (hd 31 (of_decide_eq_true (by kernel_rfl)) (.inl rfl))
      clear hd
      rw [if_neg (by show ¬ _ = true; simp only [e31]; exact Bool.false_ne_true)]
      have hK2 := hK undef w (upd_same x 32 _) hk (fun j _ _ _ _ y t => t)
      simp only [e31]
      simp (config := {decide := true}) only [upd, if_true, if_false, e31] at hK2
      exact hK2
    · refine ⟨_, rfl, fun x w hk hd K' hK => ?_⟩
      have e31 : x 31 = _ := (hd 31 (of_decide_eq_true (by kernel_rfl)) (.inl rfl))
      clear hd
      rw [if_neg (by show ¬ _ = true; simp only [e31]; exact Bool.false_ne_true)]
      have hK2 := hK undef w (upd_same x 33 _) hk (fun j _ _ _ _ y t => t)
      simp only [e31]
      simp (config := {decide := true}) only [upd, if_true, if_false, e31] at hK2
      exact hK2
    · refine ⟨_, rfl, fun x w hk hd K' hK => ?_⟩
      have e31 : x 31 = _ := (hd 31 (of_decide_eq_true (by kernel_rfl)) (.inl rfl))
      clear hd
      rw [if_neg (by show ¬ _ = true; simp only [e31]; exact Bool.false_ne_true)]
      have hK2 := hK undef w (upd_same x 34 _) hk (fun j _ _ _ _ y t => t)
      simp only [e31]
      simp (config := {decide := true}) only [upd, if_true, if_false, e31] at hK2
      exact hK2
    · refine ⟨_, rfl, fun x w hk hd K' hK => ?_⟩
      have e31 : x 31 = _ := (hd 31 (of_decide_eq_true (by kernel_rfl)) (.inl rfl))
      have e34 : x 34 = _ := (hd 34 (of_decide_eq_true (by kernel_rfl)) (.inl rfl))
      have e27 : x 27 = _ := (hd 27 (of_decide_eq_true (by kernel_rfl)) (.inl rfl))
      clear hd
      simp only [e31, e34, e27]
      go_simp
      have hK2 := hK _ w (upd_same x 35 _) hk (fun j _ _ _ _ y t => t)
      simp (config := {decide := true}) only [upd, if_true, if_false, e31, e34, e27] at hK2
      exact hK2
    · refine ⟨_, rfl, fun x w hk hd K' hK => ?_⟩
      have e27 : x 27 = _ := (hd 27 (of_decide_eq_true (by kernel_rfl)) (.inl rfl))
      have e35 : x 35 = _ := (hd 35 (of_decide_eq_true (by kernel_rfl)) (.inl rfl))
      clear hd
      simp only [e27, e35]
      go_simp
      have hK2 := hK _ w (upd_same x 36 _) hk (fun j _ _ _ _ y t => t)
      simp (config := {decide := true}) only [upd, if_true, if_false, e27, e35] at hK2
      exact hK2
  · intro x w listed hk hT hl
    subst hl
    have y0 : x 0 = _ := hT 0 (by decide) rfl
    have y1 : x 1 = _ := hT 1 (by decide) rfl
    have y2 : x 2 = _ := hT 2 (by decide) rfl
    have y3 : x 3 = _ := hT 3 (by decide) rfl
    have y4 : x 4 = _ := hT 4 (by decide) rfl
    have y5 : x 5 = _ := hT 5 (by decide) rfl
    have y6 : x 6 = _ := hT 6 (by decide) rfl
    have y7 : x 7 = _ := hT 7 (by decide) rfl
    have y8 : x 8 = _ := hT 8 (by decide) rfl
    have y9 : x 9 = _ := hT 9 (by decide) rfl
    have y10 : x 10 = _ := hT 10 (by decide) rfl
    have y11 : x 11 = _ := hT 11 (by decide) rfl
    have y12 : x 12 = _ := hT 12 (by decide) rfl
    have y13 : x 13 = _ := hT 13 (by decide) rfl
    have y15 : x 15 = _ := hT 15 (by decide) rfl
    have y16 : x 16 = _ := hT 16 (by decide) rfl
    have y17 : x 17 = _ := hT 17 (by decide) rfl
    have y18 : x 18 = _ := hT 18 (by decide) rfl
    have y19 : x 19 = _ := hT 19 (by decide) rfl
    have y20 : x 20 = _ := hT 20 (by decide) rfl
    have y21 : x 21 = _ := hT 21 (by decide) rfl
    have y22 : x 22 = _ := hT 22 (by decide) rfl
    have y23 : x 23 = _ := hT 23 (by decide) rfl
    have y24 : x 24 = _ := hT 24 (by decide) rfl
    have y25 : x 25 = _ := hT 25 (by decide) rfl
    have y26 : x 26 = _ := hT 26 (by decide) rfl
    have y27 : x 27 = _ := hT 27 (by decide) rfl
    have y28 : x 28 = _ := hT 28 (by decide) rfl
    have y29 : x 29 = _ := hT 29 (by decide) rfl
    have y30 : x 30 = _ := hT 30 (by decide) rfl
    have y31 : x 31 = _ := hT 31 (by decide) rfl
    have y32 : x 32 = _ := hT 32 (by decide) rfl
    have y33 : x 33 = _ := hT 33 (by decide) rfl
    have y34 : x 34 = _ := hT 34 (by decide) rfl
    have y35 : x 35 = _ := hT 35 (by decide) rfl
    have y36 : x 36 = _ := hT 36 (by decide) rfl
    obtain ⟨zo, zl, zc, yo, yl, yc, y14, -⟩ := hT 14 (by decide) rfl
    clear hT
    simp only [y0, y1, y2, y3, y4, y5, y6, y7, y8, y9, y10, y11, y12, y13, y14, y15, y16, y17, y18, y19, y20, y21, y22, y23, y24, y25, y26, y27, y28, y29, y30, y31, y32, y33, y34, y35, y36]
    refine wpAny_done (by kernel_rfl) ?_ _
    have HKW := Lib.hid hk
    clear hk y0 y1 y2 y3 y4 y5 y6 y7 y8 y9 y10 y11 y12 y13 y14 y15 y16 y17 y18 y19 y20 y21 y22 y23 y24 y25 y26 y27 y28 y29 y30 y31 y32 y33 y34 y35 y36
    have HB5 := Lib.hid (HB4.out.trans (Below.mono HKW.out HB4.out.size))
    have HX5 := Lib.hid (HX4.out.next HKW.out)
    clear HX4 HY HB4 HCE HC1 HC2 HRA HD1 HD2 HN HF HG HW4' HKW
    by_cases hg : g = 0
    · have e : lt = b := by have := HLT.out; omega
      subst e
      have hee : ((lt : Int) = (lt : Int)) := rfl
      clear HLT HA3 HCM HP4 HP1 HWB hg
      go_wp2_with fail
      refine (HAW.out _ HB5.out).mono ?_
      rintro e w6 ⟨rfl, hb⟩
      go_wp2_with fail
      go_ret
      exact ⟨rfl, HB5.out.trans (hb.out.mono HB5.out.size)⟩
    · have hne : ¬ (b : Int) = (lt : Int) := by have := HLT.out; omega
      have HA := Lib.hid (HA3.out hg)
      have hwb := HWB.out hg
      have hle := Lib.hid (HP4.out hg)
      clear HLT HA3 HWB HP4 hg
      go_wp2_with fail
      refine (HA.out _).mono ?_
      rintro e w6 ⟨ko, kl, kc, lo, ll, lc, rfl, hp, hq, hb⟩
      obtain ⟨w7, HW7⟩ : ∃ w2, w2 = w6.alloc (.cells #[.slice ko kl kc, .slice lo ll lc] 34) := ⟨_, rfl⟩
      have HZ := Lib.hid (show FB w6.heap.size (.slice ko kl kc) (.slice lo ll lc) L3 M w7 by rw [HW7]; exact FB.new hp hq _)
      have b2 : Below w6.heap.size w6 w7 := by rw [HW7]; exact alloc1_below _ _
      have b3 := hb.trans (b2.mono hb.size)
      have HX7 := Lib.hid (HX5.out.next b3)
      have HB7 := Lib.hid (HB5.out.trans (b3.mono HB5.out.size)); have HW7' := Lib.hid HW7
      clear hp hq hb b2 b3 HW7 HX5 HB5 hwb hne
      go_upto_region 10 with fail
      rw [← HW7'.out]
      have k0 := HX7.out.box.c0; have k1 := HX7.out.box.c1; have k2 := HZ.out.box.c0; have k3 := HZ.out.box.c1
      go_wp2_with fail
      refine (HCM.out _ _ _ _ _ L3 L (Nat.le_trans hle.out HP1.out) HP1.out hle.out HZ.out.num HZ.out.den HX7.out.num HX7.out.den).mono ?_
      rintro e w8 ⟨R3, rfl, hr3, hb⟩
      have HB8 := Lib.hid (HB7.out.trans (hb.out.mono HB7.out.size))
      have d3 : decide (R3 ≤ 0) = true := decide_eq_true hr3
      clear hb k0 k1 k2 k3
      go_wp2_with fail
      refine (HAW.out _ HB8.out).mono ?_
      rintro e w9 ⟨rfl, hb⟩
      go_wp2_with fail
      go_ret
      exact ⟨rfl, HB8.out.trans (hb.out.mono HB8.out.size)⟩
end Go.Proofs.YteieedfigoihpaaDoor
