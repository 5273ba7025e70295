/- The document's expected effort. -/
import Derived.Test.YtcmancfdlfhgbaaGreatDoorTSz5
import Derived.Test.YtcmancfdlfhgbaaGreatDoorTSz7
import Derived.Test.YtcmancfdlfhgbaaGreatDoorRgo
import Derived.Deep.DeepCutAuto
namespace Go.Proofs.YtcmancfdlfhgbaaGreatDoor
open Go Go.RowKit Gu

theorem R.nd {x k : Nat} (h : x ≤ 2 ^ k) (hk : k ≤ 3100) : nd 65536 x ≤ 200 := by
  refine (nd_le (by decide)).2 (Nat.lt_of_le_of_lt h ?_)
  have e : (65536 : Nat) = 2 ^ 16 := by decide
  obtain ⟨K, hK⟩ : ∃ K, K = 200 := ⟨_, rfl⟩
  rw [← hK, e, ← Nat.pow_mul]
  exact Nat.pow_lt_pow_right (by decide) (by omega)
theorem RFMul_gen {v u x y : Value} {L M L' M' k : Nat} {W : World} (hv : R W v (lowP L M)) (hu : R W u (lowQ L M)) (hx : R W x (lowP L' M')) (hy : R W y (lowQ L' M')) (hM : 0 < M) (hM' : 0 < M') (h1 : L ≤ 2 ^ k) (h2 : M ≤ 2 ^ k) (h3 : L' ≤ 2 ^ k) (h4 : M' ≤ 2 ^ k) (hk : k ≤ 3100) :
    Calls Tryz.prog 45 #[.agg #[v, u], .agg #[x, y]] W fun e w' => ∃ ao al ac bo bl bc, e = .returned (.agg #[.slice ao al ac, .slice bo bl bc]) ∧ R w' (.slice ao al ac) (lowP (L * L') (M * M')) ∧ R w' (.slice bo bl bc) (lowQ (L * L') (M * M')) ∧ Below W.heap.size W w' := by
  refine (RFMul_any v u x y _ _ _ _ W hv hu hx hy (lowQ_pos hM) (lowQ_pos hM') (R.nd (Nat.le_trans (lowP_le _ _) h1) hk) (R.nd (Nat.le_trans (lowQ_le _ _) h2) hk) (R.nd (Nat.le_trans (lowP_le _ _) h3) hk) (R.nd (Nat.le_trans (lowQ_le _ _) h4) hk)).mono fun e w' ⟨r, s, a, b, c, d⟩ => ?_
  rw [(low_prod hM hM').1] at b
  rw [(low_prod hM hM').2] at c
  obtain ⟨ro, rc, rfl, -⟩ := b.shape
  obtain ⟨so, sc, rfl, -⟩ := c.shape
  exact ⟨_, _, _, _, _, _, a, b, c, d⟩
theorem RFAdd_gen {v u x y : Value} {L M L' M' k : Nat} {W : World} (hv : R W v (lowP L M)) (hu : R W u (lowQ L M)) (hx : R W x (lowP L' M')) (hy : R W y (lowQ L' M')) (hM : 0 < M) (hM' : 0 < M') (h1 : L ≤ 2 ^ k) (h2 : M ≤ 2 ^ k) (h3 : L' ≤ 2 ^ k) (h4 : M' ≤ 2 ^ k) (hk : k ≤ 3100) :
    Calls Tryz.prog 43 #[.agg #[v, u], .agg #[x, y]] W fun e w' => ∃ ao al ac bo bl bc, e = .returned (.agg #[.slice ao al ac, .slice bo bl bc]) ∧ R w' (.slice ao al ac) (lowP (L * M' + L' * M) (M * M')) ∧ R w' (.slice bo bl bc) (lowQ (L * M' + L' * M) (M * M')) ∧ Below W.heap.size W w' := by
  refine (RFAdd_any v u x y _ _ _ _ W hv hu hx hy (lowQ_pos hM) (lowQ_pos hM') (R.nd (Nat.le_trans (lowP_le _ _) h1) hk) (R.nd (Nat.le_trans (lowQ_le _ _) h2) hk) (R.nd (Nat.le_trans (lowP_le _ _) h3) hk) (R.nd (Nat.le_trans (lowQ_le _ _) h4) hk)).mono fun e w' ⟨r, s, a, b, c, d⟩ => ?_
  rw [(low_plus hM hM').1] at b
  rw [(low_plus hM hM').2] at c
  obtain ⟨ro, rc, rfl, -⟩ := b.shape
  obtain ⟨so, sc, rfl, -⟩ := c.shape
  exact ⟨_, _, _, _, _, _, a, b, c, d⟩
theorem num_is (x : Nat) (hx : x ≤ 9223372036854775807) : Hid (∀ W, Calls Tryz.prog 42 #[.int .i64 x] W fun e w' => ∃ ro rl rc, e = .returned (.slice ro rl rc) ∧ R w' (.slice ro rl rc) x ∧ Below W.heap.size W w') := fun W =>
  (num_any x W hx).mono fun e w' ⟨r, a, b, c⟩ => by
    obtain ⟨ro, rc, rfl, -⟩ := b.shape
    exact ⟨_, _, _, a, b, c⟩
theorem Low_is {L M : Nat} {v u : Value} {W : World} (hv : R W v L) (hu : R W u M) (hM : 0 < M) (h1 : L ≤ 2 ^ 60) (h2 : M ≤ 2 ^ 60) :
    Calls Tryz.prog 44 #[v, u] W fun e w' => ∃ ao al ac bo bl bc, e = .returned (.agg #[.slice ao al ac, .slice bo bl bc]) ∧ R w' (.slice ao al ac) (lowP L M) ∧ R w' (.slice bo bl bc) (lowQ L M) ∧ Below W.heap.size W w' :=
  (RLow_any v u L M W hv hu hM (Nat.le_trans (n60 h1) (by decide)) (Nat.le_trans (n60 h2) (by decide))).mono fun e w' ⟨r, s, a, b, c, d⟩ => by
    obtain ⟨ro, rc, rfl, -⟩ := b.shape
    obtain ⟨so, sc, rfl, -⟩ := c.shape
    exact ⟨_, _, _, _, _, _, a, b, c, d⟩
/-- the sum in its box -/
def SR (X S N : Nat) (W : World) : Prop := ∃ ro rl rc so sl sc, Bxs X [.slice ro rl rc, .slice so sl sc] W ∧ R W (.slice ro rl rc) (lowP S N) ∧ R W (.slice so sl sc) (lowQ S N)
theorem SR.next {X S N : Nat} {W W' : World} (h : SR X S N W) (hb : Below W.heap.size W W') : SR X S N W' := by
  obtain ⟨ro, rl, rc, so, sl, sc, a, b, c⟩ := h
  exact ⟨ro, rl, rc, so, sl, sc, a.next hb, b.below hb, c.below hb⟩
theorem SR.put {X S N : Nat} {W : World} {x y a b : Value} {ao bo : Option Addr} {al ac bl bc : Nat} (h : Bxs X [x, y] W) (hx : ∀ k d, x ≠ .int k d) (hy : ∀ k d, y ≠ .int k d) (ea : a = .slice ao al ac) (eb : b = .slice bo bl bc) (ha : R W a (lowP S N)) (hb : R W b (lowQ S N)) : SR X S N ((W.setCell ⟨X, 0, none⟩ a).setCell ⟨X, 1, none⟩ b) := by
  subst ea; subst eb
  exact ⟨_, _, _, _, _, _, h.set2 _ _, IsN_setTwo ha h.c0 h.c1 (hx _) (hy _) _ _, IsN_setTwo hb h.c0 h.c1 (hx _) (hy _) _ _⟩
/-- a bound of exponents, not to be unfolded -/
def K6 : Nat := 600
/-- what the recursion answers -/
def ExpR (p q m : Nat) (c : Int) (W : World) (e : Ending) (w' : World) : Prop := ∃ ao al ac bo bl bc, e = .returned (.agg #[.slice ao al ac, .slice bo bl bc]) ∧ R w' (.slice ao al ac) (lowP (eS p q m c m) (eM (p + q) m)) ∧ R w' (.slice bo bl bc) (lowQ (eS p q m c m) (eM (p + q) m)) ∧ Below W.heap.size W w'
theorem ExpR.none {p q m : Nat} {c : Int} {W w' : World} {ro : Option Addr} {rl rc : Nat} (hm : m ≤ p + q) (h : (m : Int) ≤ c ∨ c < 0) (hr : R w' (.slice ro rl rc) 1) (hb : Below W.heap.size W w') : ExpR p q m c W (.returned (.agg #[.slice none 0 0, .slice ro rl rc])) w' := by
  have h0 : eS p q m c m = 0 := by
    refine eS_none (by omega) (by omega) ?_
    rcases h with h | h
    · exact qE_sure h m (by omega)
    · exact qE_neg h (by omega) m (by omega)
  refine ⟨_, _, _, _, _, _, rfl, ?_, ?_, hb⟩
  · rw [h0, show lowP 0 (eM (p + q) m) = 0 by unfold lowP; simp]
    exact IsN.zero _ _ _ _ _
  · rw [h0, show lowQ 0 (eM (p + q) m) = 1 by unfold lowQ; rw [Nat.gcd_zero_left]; exact Nat.div_self (eM_pos (by omega))]
    exact hr
/-- what each operation yields -/
def TP (w0 : World) (eo fo : Option Addr) (el ec fl fc lot bad n g b b1 p left L M S N : Nat) (d : Int) : Nat → (Nat → Value) → World → Prop
  | 0, x, _ => x 0 = .agg #[.slice eo el ec, .slice fo fl fc]
  | 1, x, _ => x 1 = .int .i64 (bad : Int)
  | 2, x, _ => x 2 = .int .i64 (b : Int)
  | 3, x, _ => x 3 = .int .i64 (p : Int)
  | 4, x, w => ∃ ro rl rc, x 4 = .slice ro rl rc ∧ R w (.slice ro rl rc) p
  | 5, x, _ => x 5 = .int .i64 (left : Int)
  | 6, x, w => ∃ ro rl rc, x 6 = .slice ro rl rc ∧ R w (.slice ro rl rc) left
  | 7, x, w => ∃ ao al ac bo bl bc, x 7 = .agg #[.slice ao al ac, .slice bo bl bc] ∧ R w (.slice ao al ac) (lowP p left) ∧ R w (.slice bo bl bc) (lowQ p left)
  | 8, x, _ => x 8 = .int .i64 (lot : Int)
  | 9, x, _ => x 9 = .int .i64 (bad : Int)
  | 10, x, _ => x 10 = .int .i64 (n : Int)
  | 11, x, _ => x 11 = .int .i64 d
  | 12, x, _ => x 12 = .int .i64 (g : Int)
  | 13, x, _ => x 13 = .int .i64 (b : Int)
  | 14, x, _ => x 14 = .int .i64 (b1 : Int)
  | 15, x, w => ∃ ao al ac bo bl bc, x 15 = .agg #[.slice ao al ac, .slice bo bl bc] ∧ R w (.slice ao al ac) (lowP L M) ∧ R w (.slice bo bl bc) (lowQ L M)
  | 16, x, w => ∃ ao al ac bo bl bc, x 16 = .agg #[.slice ao al ac, .slice bo bl bc] ∧ R w (.slice ao al ac) (lowP (p * L) (left * M)) ∧ R w (.slice bo bl bc) (lowQ (p * L) (left * M))
  | 17, x, w => ∃ ao al ac bo bl bc, x 17 = .agg #[.slice ao al ac, .slice bo bl bc] ∧ R w (.slice ao al ac) (lowP S N) ∧ R w (.slice bo bl bc) (lowQ S N)
  | _ + 18, _, _ => True
def TPkill : Nat → Option Nat
  | _ => none
theorem TP.congr {w0 : World} {eo fo : Option Addr} {el ec fl fc lot bad n g b b1 p left L M S N : Nat} {d : Int} {DD : Nat → List Nat}  : ∀ i x y w, (∀ j, j = i ∨ j ∈ DD i → x j = y j) → TP w0 eo fo el ec fl fc lot bad n g b b1 p left L M S N d i x w → TP w0 eo fo el ec fl fc lot bad n g b b1 p left L M S N d i y w
  | 0, x, y, w, h, t => by have e := h 0 (.inl rfl); simp only [TP] at t ⊢; rw [← e]; exact t
  | 1, x, y, w, h, t => by have e := h 1 (.inl rfl); simp only [TP] at t ⊢; rw [← e]; exact t
  | 2, x, y, w, h, t => by have e := h 2 (.inl rfl); simp only [TP] at t ⊢; rw [← e]; exact t
  | 3, x, y, w, h, t => by have e := h 3 (.inl rfl); simp only [TP] at t ⊢; rw [← e]; exact t
  | 4, x, y, w, h, t => by have e := h 4 (.inl rfl); simp only [TP] at t ⊢; rw [← e]; exact t
  | 5, x, y, w, h, t => by have e := h 5 (.inl rfl); simp only [TP] at t ⊢; rw [← e]; exact t
  | 6, x, y, w, h, t => by have e := h 6 (.inl rfl); simp only [TP] at t ⊢; rw [← e]; exact t
  | 7, x, y, w, h, t => by have e := h 7 (.inl rfl); simp only [TP] at t ⊢; rw [← e]; exact t
  | 8, x, y, w, h, t => by have e := h 8 (.inl rfl); simp only [TP] at t ⊢; rw [← e]; exact t
  | 9, x, y, w, h, t => by have e := h 9 (.inl rfl); simp only [TP] at t ⊢; rw [← e]; exact t
  | 10, x, y, w, h, t => by have e := h 10 (.inl rfl); simp only [TP] at t ⊢; rw [← e]; exact t
  | 11, x, y, w, h, t => by have e := h 11 (.inl rfl); simp only [TP] at t ⊢; rw [← e]; exact t
  | 12, x, y, w, h, t => by have e := h 12 (.inl rfl); simp only [TP] at t ⊢; rw [← e]; exact t
  | 13, x, y, w, h, t => by have e := h 13 (.inl rfl); simp only [TP] at t ⊢; rw [← e]; exact t
  | 14, x, y, w, h, t => by have e := h 14 (.inl rfl); simp only [TP] at t ⊢; rw [← e]; exact t
  | 15, x, y, w, h, t => by have e := h 15 (.inl rfl); simp only [TP] at t ⊢; rw [← e]; exact t
  | 16, x, y, w, h, t => by have e := h 16 (.inl rfl); simp only [TP] at t ⊢; rw [← e]; exact t
  | 17, x, y, w, h, t => by have e := h 17 (.inl rfl); simp only [TP] at t ⊢; rw [← e]; exact t
  | _ + 18, x, y, w, h, t => trivial
theorem TP.next {w0 : World} {eo fo : Option Addr} {el ec fl fc lot bad n g b b1 p left L M S N : Nat} {d : Int} {w w' : World} (hb : Below w.heap.size w w') : ∀ j y, TP w0 eo fo el ec fl fc lot bad n g b b1 p left L M S N d j y w → TP w0 eo fo el ec fl fc lot bad n g b b1 p left L M S N d j y w'
  | 0, y, t => t
  | 1, y, t => t
  | 2, y, t => t
  | 3, y, t => t
  | 4, y, t => by obtain ⟨ro, rl, rc, e, h0⟩ := t; exact ⟨ro, rl, rc, e, h0.below hb⟩
  | 5, y, t => t
  | 6, y, t => by obtain ⟨ro, rl, rc, e, h0⟩ := t; exact ⟨ro, rl, rc, e, h0.below hb⟩
  | 7, y, t => by obtain ⟨ao, al, ac, bo, bl, bc, e, h0, h1⟩ := t; exact ⟨ao, al, ac, bo, bl, bc, e, h0.below hb, h1.below hb⟩
  | 8, y, t => t
  | 9, y, t => t
  | 10, y, t => t
  | 11, y, t => t
  | 12, y, t => t
  | 13, y, t => t
  | 14, y, t => t
  | 15, y, t => by obtain ⟨ao, al, ac, bo, bl, bc, e, h0, h1⟩ := t; exact ⟨ao, al, ac, bo, bl, bc, e, h0.below hb, h1.below hb⟩
  | 16, y, t => by obtain ⟨ao, al, ac, bo, bl, bc, e, h0, h1⟩ := t; exact ⟨ao, al, ac, bo, bl, bc, e, h0.below hb, h1.below hb⟩
  | 17, y, t => by obtain ⟨ao, al, ac, bo, bl, bc, e, h0, h1⟩ := t; exact ⟨ao, al, ac, bo, bl, bc, e, h0.below hb, h1.below hb⟩
  | _ + 18, y, t => trivial
/-- what each operation yields -/
def TQ (w0 : World) (eo fo : Option Addr) (el ec fl fc lot bad n g b g1 q left L M S N : Nat) (d : Int) : Nat → (Nat → Value) → World → Prop
  | 0, x, _ => x 0 = .agg #[.slice eo el ec, .slice fo fl fc]
  | 1, x, _ => x 1 = .int .i64 (lot : Int)
  | 2, x, _ => x 2 = .int .i64 (bad : Int)
  | 3, x, _ => x 3 = .int .i64 ((lot : Int) - bad)
  | 4, x, _ => x 4 = .int .i64 (g : Int)
  | 5, x, _ => x 5 = .int .i64 (q : Int)
  | 6, x, w => ∃ ro rl rc, x 6 = .slice ro rl rc ∧ R w (.slice ro rl rc) q
  | 7, x, _ => x 7 = .int .i64 (left : Int)
  | 8, x, w => ∃ ro rl rc, x 8 = .slice ro rl rc ∧ R w (.slice ro rl rc) left
  | 9, x, w => ∃ ao al ac bo bl bc, x 9 = .agg #[.slice ao al ac, .slice bo bl bc] ∧ R w (.slice ao al ac) (lowP q left) ∧ R w (.slice bo bl bc) (lowQ q left)
  | 10, x, _ => x 10 = .int .i64 (lot : Int)
  | 11, x, _ => x 11 = .int .i64 (bad : Int)
  | 12, x, _ => x 12 = .int .i64 (n : Int)
  | 13, x, _ => x 13 = .int .i64 d
  | 14, x, _ => x 14 = .int .i64 (g : Int)
  | 15, x, _ => x 15 = .int .i64 (g1 : Int)
  | 16, x, _ => x 16 = .int .i64 (b : Int)
  | 17, x, w => ∃ ao al ac bo bl bc, x 17 = .agg #[.slice ao al ac, .slice bo bl bc] ∧ R w (.slice ao al ac) (lowP L M) ∧ R w (.slice bo bl bc) (lowQ L M)
  | 18, x, w => ∃ ao al ac bo bl bc, x 18 = .agg #[.slice ao al ac, .slice bo bl bc] ∧ R w (.slice ao al ac) (lowP (q * L) (left * M)) ∧ R w (.slice bo bl bc) (lowQ (q * L) (left * M))
  | 19, x, w => ∃ ao al ac bo bl bc, x 19 = .agg #[.slice ao al ac, .slice bo bl bc] ∧ R w (.slice ao al ac) (lowP S N) ∧ R w (.slice bo bl bc) (lowQ S N)
  | _ + 20, _, _ => True
def TQkill : Nat → Option Nat
  | _ => none
theorem TQ.congr {w0 : World} {eo fo : Option Addr} {el ec fl fc lot bad n g b g1 q left L M S N : Nat} {d : Int} {DD : Nat → List Nat}  : ∀ i x y w, (∀ j, j = i ∨ j ∈ DD i → x j = y j) → TQ w0 eo fo el ec fl fc lot bad n g b g1 q left L M S N d i x w → TQ w0 eo fo el ec fl fc lot bad n g b g1 q left L M S N d i y w
  | 0, x, y, w, h, t => by have e := h 0 (.inl rfl); simp only [TQ] at t ⊢; rw [← e]; exact t
  | 1, x, y, w, h, t => by have e := h 1 (.inl rfl); simp only [TQ] at t ⊢; rw [← e]; exact t
  | 2, x, y, w, h, t => by have e := h 2 (.inl rfl); simp only [TQ] at t ⊢; rw [← e]; exact t
  | 3, x, y, w, h, t => by have e := h 3 (.inl rfl); simp only [TQ] at t ⊢; rw [← e]; exact t
  | 4, x, y, w, h, t => by have e := h 4 (.inl rfl); simp only [TQ] at t ⊢; rw [← e]; exact t
  | 5, x, y, w, h, t => by have e := h 5 (.inl rfl); simp only [TQ] at t ⊢; rw [← e]; exact t
  | 6, x, y, w, h, t => by have e := h 6 (.inl rfl); simp only [TQ] at t ⊢; rw [← e]; exact t
  | 7, x, y, w, h, t => by have e := h 7 (.inl rfl); simp only [TQ] at t ⊢; rw [← e]; exact t
  | 8, x, y, w, h, t => by have e := h 8 (.inl rfl); simp only [TQ] at t ⊢; rw [← e]; exact t
  | 9, x, y, w, h, t => by have e := h 9 (.inl rfl); simp only [TQ] at t ⊢; rw [← e]; exact t
  | 10, x, y, w, h, t => by have e := h 10 (.inl rfl); simp only [TQ] at t ⊢; rw [← e]; exact t
  | 11, x, y, w, h, t => by have e := h 11 (.inl rfl); simp only [TQ] at t ⊢; rw [← e]; exact t
  | 12, x, y, w, h, t => by have e := h 12 (.inl rfl); simp only [TQ] at t ⊢; rw [← e]; exact t
  | 13, x, y, w, h, t => by have e := h 13 (.inl rfl); simp only [TQ] at t ⊢; rw [← e]; exact t
  | 14, x, y, w, h, t => by have e := h 14 (.inl rfl); simp only [TQ] at t ⊢; rw [← e]; exact t
  | 15, x, y, w, h, t => by have e := h 15 (.inl rfl); simp only [TQ] at t ⊢; rw [← e]; exact t
  | 16, x, y, w, h, t => by have e := h 16 (.inl rfl); simp only [TQ] at t ⊢; rw [← e]; exact t
  | 17, x, y, w, h, t => by have e := h 17 (.inl rfl); simp only [TQ] at t ⊢; rw [← e]; exact t
  | 18, x, y, w, h, t => by have e := h 18 (.inl rfl); simp only [TQ] at t ⊢; rw [← e]; exact t
  | 19, x, y, w, h, t => by have e := h 19 (.inl rfl); simp only [TQ] at t ⊢; rw [← e]; exact t
  | _ + 20, x, y, w, h, t => trivial
theorem TQ.next {w0 : World} {eo fo : Option Addr} {el ec fl fc lot bad n g b g1 q left L M S N : Nat} {d : Int} {w w' : World} (hb : Below w.heap.size w w') : ∀ j y, TQ w0 eo fo el ec fl fc lot bad n g b g1 q left L M S N d j y w → TQ w0 eo fo el ec fl fc lot bad n g b g1 q left L M S N d j y w'
  | 0, y, t => t
  | 1, y, t => t
  | 2, y, t => t
  | 3, y, t => t
  | 4, y, t => t
  | 5, y, t => t
  | 6, y, t => by obtain ⟨ro, rl, rc, e, h0⟩ := t; exact ⟨ro, rl, rc, e, h0.below hb⟩
  | 7, y, t => t
  | 8, y, t => by obtain ⟨ro, rl, rc, e, h0⟩ := t; exact ⟨ro, rl, rc, e, h0.below hb⟩
  | 9, y, t => by obtain ⟨ao, al, ac, bo, bl, bc, e, h0, h1⟩ := t; exact ⟨ao, al, ac, bo, bl, bc, e, h0.below hb, h1.below hb⟩
  | 10, y, t => t
  | 11, y, t => t
  | 12, y, t => t
  | 13, y, t => t
  | 14, y, t => t
  | 15, y, t => t
  | 16, y, t => t
  | 17, y, t => by obtain ⟨ao, al, ac, bo, bl, bc, e, h0, h1⟩ := t; exact ⟨ao, al, ac, bo, bl, bc, e, h0.below hb, h1.below hb⟩
  | 18, y, t => by obtain ⟨ao, al, ac, bo, bl, bc, e, h0, h1⟩ := t; exact ⟨ao, al, ac, bo, bl, bc, e, h0.below hb, h1.below hb⟩
  | 19, y, t => by obtain ⟨ao, al, ac, bo, bl, bc, e, h0, h1⟩ := t; exact ⟨ao, al, ac, bo, bl, bc, e, h0.below hb, h1.below hb⟩
  | _ + 20, y, t => trivial
set_option maxRecDepth 100000 in
set_option maxHeartbeats 2000000 in
theorem RExpect_open (p q g b left m : Nat) (c : Int) (hl : p + q = left) (hl2 : left ≤ 40) (hm : m + 1 ≤ left) (hm2 : m + 1 ≤ 6) (hc0 : 0 ≤ c) (hc1 : c < (m : Int) + 1) (hgb : g + b ≤ 40) (W : World)
    (H1 : Hid (0 < p → ∀ W', Calls Tryz.prog 17 #[.int .i64 ((g + b + p + q : Nat) : Int), .int .i64 ((b + p : Nat) : Int), .int .i64 ((g + b + (m + 1) : Nat) : Int), .int .i64 (c + b), .int .i64 (g : Int), .int .i64 ((b + 1 : Nat) : Int)] W' (ExpR (p - 1) q m (c - 1) W')))
    (H2 : Hid (0 < q → ∀ W', Calls Tryz.prog 17 #[.int .i64 ((g + b + p + q : Nat) : Int), .int .i64 ((b + p : Nat) : Int), .int .i64 ((g + b + (m + 1) : Nat) : Int), .int .i64 (c + b), .int .i64 ((g + 1 : Nat) : Int), .int .i64 (b : Int)] W' (ExpR p (q - 1) m c W'))) :
    Calls Tryz.prog 17 #[.int .i64 ((g + b + p + q : Nat) : Int), .int .i64 ((b + p : Nat) : Int), .int .i64 ((g + b + (m + 1) : Nat) : Int), .int .i64 (c + b), .int .i64 (g : Int), .int .i64 (b : Int)] W (ExpR p q (m + 1) c W) := by
  obtain ⟨lot, hlot⟩ : ∃ x : Nat, x = g + b + p + q := ⟨_, rfl⟩
  obtain ⟨bad, hbad⟩ : ∃ x : Nat, x = b + p := ⟨_, rfl⟩
  obtain ⟨n, hn⟩ : ∃ x : Nat, x = g + b + (m + 1) := ⟨_, rfl⟩
  obtain ⟨d, hd⟩ : ∃ x : Int, x = c + b := ⟨_, rfl⟩
  obtain ⟨b1, hb1⟩ : ∃ x : Nat, x = b + 1 := ⟨_, rfl⟩
  obtain ⟨g1, hg1⟩ : ∃ x : Nat, x = g + 1 := ⟨_, rfl⟩
  rw [← hlot, ← hbad, ← hn, ← hd, ← hb1] at H1
  rw [← hlot, ← hbad, ← hn, ← hd, ← hg1] at H2
  rw [← hlot, ← hbad, ← hn, ← hd]
  have N1 := num_is 1 (by decide); have NP := num_is p (by omega); have NQ := num_is q (by omega); have NL := num_is left (by omega)
  have w1 : IntKind.i64.wrap ((n : Int) - d) = (n : Int) - d := IntWalk.i64_in _ (by omega)
  have t1 : ¬ (g : Int) ≥ (n : Int) - d := by omega
  have t2 : ¬ (b : Int) > d := by omega
  have d1 : decide ((g : Int) ≥ (n : Int) - d) = false := decide_eq_false t1
  have d2 : decide ((b : Int) > d) = false := decide_eq_false t2
  have w2 : IntKind.i64.wrap ((lot : Int) - g) = (lot : Int) - g := IntWalk.i64_in _ (by omega)
  have w3 : IntKind.i64.wrap ((lot : Int) - g - b) = (left : Int) := by rw [IntWalk.i64_in _ (by omega)]; omega
  have w4 : IntKind.i64.wrap ((bad : Int) - b) = (p : Int) := by rw [IntWalk.i64_in _ (by omega)]; omega
  have w5 : IntKind.i64.wrap ((lot : Int) - bad) = (lot : Int) - bad := IntWalk.i64_in _ (by omega)
  have w6 : IntKind.i64.wrap ((lot : Int) - bad - g) = (q : Int) := by rw [IntWalk.i64_in _ (by omega)]; omega
  have w7 : IntKind.i64.wrap ((b : Int) + 1) = (b1 : Int) := by rw [IntWalk.i64_in _ (by omega)]; omega
  have w8 : IntKind.i64.wrap ((g : Int) + 1) = (g1 : Int) := by rw [IntWalk.i64_in _ (by omega)]; omega
  have W4 := Lib.hid w4; have W5 := Lib.hid w5; have W6 := Lib.hid w6; have W7 := Lib.hid w7; have W8 := Lib.hid w8
  have hp40 : p ≤ 2 ^ 6 := by omega
  have hq40 : q ≤ 2 ^ 6 := by omega
  have hl40 : left ≤ 2 ^ 6 := by omega
  have hl0 : 0 < left := by omega
  have f6 : (2 : Nat) ^ 6 ≤ 2 ^ 60 := by decide
  have HLO : Hid (∀ x, x ≤ 2 ^ 6 → ∀ W' u v, R W' u x → R W' v left → Calls Tryz.prog 44 #[u, v] W' fun e w' => ∃ ao al ac bo bl bc, e = .returned (.agg #[.slice ao al ac, .slice bo bl bc]) ∧ R w' (.slice ao al ac) (lowP x left) ∧ R w' (.slice bo bl bc) (lowQ x left) ∧ Below W'.heap.size W' w') := fun x hx W' u v g1 g2 => Low_is g1 g2 hl0 (Nat.le_trans hx f6) (Nat.le_trans hl40 f6)
  obtain ⟨K, hK⟩ : ∃ K : Nat, K = 600 := ⟨_, rfl⟩
  have HMUL : Hid (∀ x L M r, x ≤ 2 ^ 6 → QN 243 L M r → ∀ W' v u y z, R W' v (lowP x left) → R W' u (lowQ x left) → R W' y (lowP L M) → R W' z (lowQ L M) → Calls Tryz.prog 45 #[.agg #[v, u], .agg #[y, z]] W' fun e w' => ∃ ao al ac bo bl bc, e = .returned (.agg #[.slice ao al ac, .slice bo bl bc]) ∧ R w' (.slice ao al ac) (lowP (x * L) (left * M)) ∧ R w' (.slice bo bl bc) (lowQ (x * L) (left * M)) ∧ Below W'.heap.size W' w') := fun x L M r hx hq W' v u y z g1 g2 g3 g4 => by
    have f : ∀ j, j ≤ K → (2 : Nat) ^ j ≤ 2 ^ K := fun j h => Nat.pow_le_pow_right (by decide) h
    exact RFMul_gen g1 g2 g3 g4 hl0 hq.1 (Nat.le_trans hx (f _ (by omega))) (Nat.le_trans hl40 (f _ (by omega))) (Nat.le_trans hq.2.1 (f _ (by omega))) (Nat.le_trans hq.2.2.1 (f _ (by omega))) (by omega)
  have HADD : Hid (∀ k S N r x L M t, k ≤ 256 → QN k S N r → x ≤ 2 ^ 6 → QN 243 L M t → ∀ W' v u y z, R W' v (lowP S N) → R W' u (lowQ S N) → R W' y (lowP (x * L) (left * M)) → R W' z (lowQ (x * L) (left * M)) → Calls Tryz.prog 43 #[.agg #[v, u], .agg #[y, z]] W' fun e w' => ∃ ao al ac bo bl bc, e = .returned (.agg #[.slice ao al ac, .slice bo bl bc]) ∧ R w' (.slice ao al ac) (lowP (S * (left * M) + x * L * N) (N * (left * M))) ∧ R w' (.slice bo bl bc) (lowQ (S * (left * M) + x * L * N) (N * (left * M))) ∧ Below W'.heap.size W' w') := fun k S N r x L M t hk h1 hx h2 W' v u y z g1 g2 g3 g4 => by
    have f : ∀ j, j ≤ K → (2 : Nat) ^ j ≤ 2 ^ K := fun j h => Nat.pow_le_pow_right (by decide) h
    have c1 : left * M ≤ 2 ^ (243 + 6) := by rw [Nat.pow_add, Nat.mul_comm]; exact Nat.mul_le_mul h2.2.2.1 hl40
    have c2 : x * L ≤ 2 ^ (243 + 6) := by rw [Nat.pow_add, Nat.mul_comm]; exact Nat.mul_le_mul h2.2.1 hx
    exact RFAdd_gen g1 g2 g3 g4 h1.1 (Nat.mul_pos hl0 h2.1) (Nat.le_trans h1.2.1 (f _ (by omega))) (Nat.le_trans h1.2.2.1 (f _ (by omega))) (Nat.le_trans c2 (f _ (by omega))) (Nat.le_trans c1 (f _ (by omega))) (by omega)
  have HQ1 : Hid (0 < p → QN 243 (eS (p - 1) q m (c - 1) m) (eM (p - 1 + q) m) (qE (p - 1) q m (c - 1) m)) := fun h => eS_QN (by omega) (by omega) (by omega) (by omega)
  have HQ2 : Hid (0 < q → QN 243 (eS p (q - 1) m c m) (eM (p + (q - 1)) m) (qE p (q - 1) m c m)) := fun h => eS_QN (by omega) (by omega) (by omega) (by omega)
  have HFIN : Hid (∀ S N, QN K6 S N ((1 + (p : Rat) * qE (p - 1) q m (c - 1) m / (left : Rat)) + (q : Rat) * qE p (q - 1) m c m / (left : Rat)) → lowP S N = lowP (eS p q ((m + 1 : Nat) : Int) c (m + 1)) (eM (p + q) (m + 1)) ∧ lowQ S N = lowQ (eS p q ((m + 1 : Nat) : Int) c (m + 1)) (eM (p + q) (m + 1))) := fun S N h => by
    obtain ⟨l, hl'⟩ : ∃ l, left = l + 1 := ⟨left - 1, by omega⟩
    rw [hl', exp_value (l := l) (by omega) hc0 hc1 (by omega)] at h
    exact low_same h.1 (eM_pos (by omega)) (cross_of h.2.2.2 (eS_rat (m + 1) (by omega) (by omega)))
  obtain ⟨v1, HW⟩ : ∃ w1, w1 = W.alloc (.cells #[.slice none 0 0, .slice none 0 0] 38) := ⟨_, rfl⟩
  have hb : Below W.heap.size W v1 := by rw [HW]; exact alloc1_below _ _
  have r1 : Bxs W.heap.size [.slice none 0 0, .slice none 0 0] v1 := by rw [HW]; exact Bxs.new2 _ _ _ _
  have HB := Lib.hid hb; have HR := Lib.hid r1; have HW' := Lib.hid HW
  have HP1 := Lib.hid hl; have HP2 := Lib.hid hl0
  clear hb r1 HW hlot hbad hn hd hb1 hg1 w4 w5 w6 w7 w8 hl f6 hK hl0 hm hc0 hc1
  go_enter Tryz.func17, Tryz.ntmps17
  go_upto_region 1 with fail
  rw [← HW'.out]
  go_wp2_with fail
  refine (N1.out _).mono ?_
  rintro e v2 ⟨ro, rl, rc, rfl, -, hb⟩
  obtain ⟨v3, HW3⟩ : ∃ w, w = v2.alloc (.cells #[.slice none 0 0, .slice ro rl rc] 38) := ⟨_, rfl⟩
  have b3 : Below v2.heap.size v2 v3 := by rw [HW3]; exact alloc1_below _ _
  have HB3 := Lib.hid (hb.trans (b3.mono hb.size)); have HW3' := Lib.hid HW3
  clear hb b3 HW3
  go_upto_region 2 with fail
  rw [← HW3'.out]
  go_upto_region 5 with fail
  go_wp2_with fail
  refine (N1.out _).mono ?_
  rintro e v4 ⟨so, sl, sc, rfl, hs, hb4⟩
  have HS := Lib.hid hs; have HB4 := Lib.hid (HB3.out.trans (hb4.mono HB3.out.size))
  clear hs hb4 HB3
  go_wp2_with fail
  refine (N1.out _).mono ?_
  rintro e v5 ⟨po, pl, pc, rfl, hs, hb5⟩
  obtain ⟨v6, HW6⟩ : ∃ w, w = v5.alloc (.cells #[.slice so sl sc, .slice po pl pc] 38) := ⟨_, rfl⟩
  have b6 : Below v5.heap.size v5 v6 := by rw [HW6]; exact alloc1_below _ _
  have b56 := hb5.trans (b6.mono hb5.size)
  have HSR : Hid (SR v5.heap.size 1 1 v6) := ⟨so, sl, sc, po, pl, pc, by rw [HW6]; exact Bxs.new2 _ _ _ _, by rw [show lowP 1 1 = 1 by decide]; exact HS.out.below b56, by rw [show lowQ 1 1 = 1 by decide]; exact hs.below b6⟩
  have HK6 : Hid (Kw v1 v6) := HB4.out.trans (b56.mono HB4.out.size)
  have HG5 : Hid (v1.heap.size ≤ v5.heap.size) := Nat.le_trans HB4.out.size hb5.size
  have HW6' := Lib.hid HW6
  clear hs hb5 b6 b56 HW6 HS HB4 HW' HW3'
  go_upto_region 6 with fail
  rw [← HW6'.out]
  clear HW6'
  have w4 := W4.out
  go_upto_if 40 with (fail)
  clear w4
  generalize hbp : decide (0 < p) = bp
  have HBP := Lib.hid hbp
  clear hbp
  go_cut [] from 41 to 59 (fun wz => ∃ S N, QN 256 S N (1 + (p : Rat) * qE (p - 1) q m (c - 1) m / (left : Rat)) ∧ Hid (SR v5.heap.size S N wz) ∧ Hid (Kw v1 wz))
  case first =>
    cases bp with
    | false =>
      have hp : ¬ 0 < p := of_decide_eq_false HBP.out
      have HQN : Hid (QN 256 1 1 (1 + (p : Rat) * qE (p - 1) q m (c - 1) m / (left : Rat))) := by
        have : p = 0 := by omega
        subst this
        exact ⟨by decide, by decide, by decide, by grind⟩
      go_wp2_with fail
      go_meet
      case rel => exact ⟨1, 1, HQN.out, HSR, HK6⟩
    | true =>
      have hp : 0 < p := of_decide_eq_true HBP.out
      have hqv := HQ1.out hp
      have HEX0 := Lib.hid (H1.out hp)
      obtain ⟨L, hL⟩ : ∃ x, x = eS (p - 1) q m (c - 1) m := ⟨_, rfl⟩
      obtain ⟨M, hM⟩ : ∃ x, x = eM (p - 1 + q) m := ⟨_, rfl⟩
      have HEX : Hid (∀ W', Calls Tryz.prog 17 #[.int .i64 lot, .int .i64 bad, .int .i64 n, .int .i64 d, .int .i64 g, .int .i64 b1] W' fun e w' => ∃ ao al ac bo bl bc, e = .returned (.agg #[.slice ao al ac, .slice bo bl bc]) ∧ R w' (.slice ao al ac) (lowP L M) ∧ R w' (.slice bo bl bc) (lowQ L M) ∧ Below W'.heap.size W' w') := fun W' => by
        rw [hL, hM]; exact HEX0.out W'
      rw [← hL, ← hM] at hqv
      obtain ⟨S, hS⟩ : ∃ x, x = 1 * (left * M) + p * L * 1 := ⟨_, rfl⟩
      obtain ⟨N, hN⟩ : ∃ x, x = 1 * (left * M) := ⟨_, rfl⟩
      have HQN : Hid (QN 256 S N (1 + (p : Rat) * qE (p - 1) q m (c - 1) m / (left : Rat))) := by
        have := QN.add QN.one hqv hp40 hl40 HP2.out
        rw [← hS, ← hN] at this
        exact ⟨this.1, Nat.le_trans this.2.1 (Nat.pow_le_pow_right (by decide) (by decide)), Nat.le_trans this.2.2.1 (Nat.pow_le_pow_right (by decide) (by decide)), this.2.2.2⟩
      obtain ⟨eo, el, ec, fo, fl, fc, hbx, hs1, hs2⟩ := HSR.out
      have HBX := Lib.hid hbx
      have HCEL : Hid (∀ W', Kw v6 W' → W'.cell? ⟨v5.heap.size, 0, none⟩ = some (.slice eo el ec) ∧ W'.cell? ⟨v5.heap.size, 1, none⟩ = some (.slice fo fl fc)) := fun W' h => ⟨(hbx.next h).c0, (hbx.next h).c1⟩
      have HCF : Hid (∀ W', Kw v6 W' → W'.cell? ⟨v5.heap.size, 0, none⟩ = some (.slice eo el ec) ∧ W'.cell? ⟨v5.heap.size, 1, none⟩ = some (.slice fo fl fc) ∧ W'.frozen? ⟨v5.heap.size, 0, none⟩ = false ∧ W'.frozen? ⟨v5.heap.size, 1, none⟩ = false) := fun W' h => ⟨(hbx.next h).c0, (hbx.next h).c1, (hbx.next h).f0, (hbx.next h).f1⟩
      have HLO := Lib.hid (HLO.out p hp40)
      have HMU := Lib.hid (HMUL.out p L M _ hp40 hqv)
      have HAD : Hid (∀ W' y z, Kw v6 W' → R W' y (lowP (p * L) (left * M)) → R W' z (lowQ (p * L) (left * M)) → Calls Tryz.prog 43 #[.agg #[.slice eo el ec, .slice fo fl fc], .agg #[y, z]] W' fun e w' => ∃ ao al ac bo bl bc, e = .returned (.agg #[.slice ao al ac, .slice bo bl bc]) ∧ R w' (.slice ao al ac) (lowP S N) ∧ R w' (.slice bo bl bc) (lowQ S N) ∧ Below W'.heap.size W' w') := fun W' y z h g1 g2 => by
        rw [hS, hN]
        exact HADD.out 0 1 1 1 p L M _ (by decide) QN.one hp40 hqv W' _ _ y z (hs1.below h) (hs2.below h) g1 g2
      clear hbx hs1 hs2 hS hN hL hM hqv HEX0 hp HBP
      go_upto_region 7 with fail
      refine region_own v6 18 (fun x => ⟨#[.int .i64 (lot : Int), .int .i64 (bad : Int), .int .i64 (n : Int), .int .i64 d, .int .i64 (g : Int), .int .i64 (b : Int), undef, undef, undef, undef, undef, undef, .pointer (some ⟨W.heap.size, 0, none⟩), .pointer (some ⟨v2.heap.size, 0, none⟩), .int .i64 (left : Int), .pointer (some ⟨v5.heap.size, 0, none⟩), .slice ro rl rc, .agg #[.slice none 0 0, .slice ro rl rc], .int .i64 (g : Int), .int .i64 (n : Int), .int .i64 d, .int .i64 ((n : Int) - d), .bool false, .bool false, .int .i64 (b : Int), .int .i64 d, .bool false, .bool false, undef, .int .i64 (lot : Int), .int .i64 (g : Int), .int .i64 ((lot : Int) - (g : Int)), .int .i64 (b : Int), .int .i64 (left : Int), .slice so sl sc, .slice po pl pc, .agg #[.slice so sl sc, .slice po pl pc], .int .i64 (bad : Int), .int .i64 (b : Int), .int .i64 (p : Int), .bool true, x 0, x 1, x 2, x 3, x 4, x 5, x 6, x 7, x 8, x 9, x 10, x 11, x 12, x 13, x 14, x 15, x 16, x 17, undef, undef, undef, undef, undef, undef, undef, undef, undef, undef, undef, undef, undef, undef, undef, undef, undef, undef, undef, undef, undef, undef, undef, undef, undef, undef, undef], []⟩) (TP v6 eo fo el ec fl fc lot bad n g b b1 p left L M S N d) TPkill (fun j => [_, _, _, _, _, _, _, _, _, _, _, _, _, _, _, _, _, _].getD j undef) rfl (by kernel_rfl) (of_decide_eq_true (by kernel_rfl)) (of_decide_eq_true (by kernel_rfl)) (of_decide_eq_true (by kernel_rfl)) (TP.congr ) ?_ ?_
      · intro i hi
        have hi2 : i = 0 ∨ i = 1 ∨ i = 2 ∨ i = 3 ∨ i = 4 ∨ i = 5 ∨ i = 6 ∨ i = 7 ∨ i = 8 ∨ i = 9 ∨ i = 10 ∨ i = 11 ∨ i = 12 ∨ i = 13 ∨ i = 14 ∨ i = 15 ∨ i = 16 ∨ i = 17 := by omega
        clear hi
        rcases hi2 with rfl | rfl | rfl | rfl | rfl | rfl | rfl | rfl | rfl | rfl | rfl | rfl | rfl | rfl | rfl | rfl | rfl | rfl
        · refine ⟨_, rfl, fun x w hk hd K' hK => ?_⟩
          obtain ⟨z0, z1⟩ := HCEL.out w hk
          clear hd
          go_simp
          have hK2 := hK _ w (upd_same x 0 _) hk (fun j _ _ _ _ y t => t)
          simp (config := {decide := true}) only [upd, if_true, if_false] at hK2
          exact hK2
        · refine ⟨_, rfl, fun x w hk hd K' hK => ?_⟩
          clear hd
          go_simp
          exact hK _ w (upd_same x 1 _) hk (fun j _ _ _ _ y t => t)
        · refine ⟨_, rfl, fun x w hk hd K' hK => ?_⟩
          clear hd
          go_simp
          exact hK _ w (upd_same x 2 _) hk (fun j _ _ _ _ y t => t)
        · refine ⟨_, rfl, fun x w hk hd K' hK => ?_⟩
          have e1 : x 1 = _ := (hd 1 (of_decide_eq_true (by kernel_rfl)) (.inl rfl))
          have e2 : x 2 = _ := (hd 2 (of_decide_eq_true (by kernel_rfl)) (.inl rfl))
          have w4 := W4.out
          clear hd
          simp only [e1, e2]
          go_simp
          have hK2 := hK _ w (upd_same x 3 _) hk (fun j _ _ _ _ y t => t)
          simp (config := {decide := true}) only [upd, if_true, if_false, e1, e2] at hK2
          exact hK2
        · refine ⟨_, rfl, fun x w hk hd K' hK => ?_⟩
          have e3 : x 3 = _ := (hd 3 (of_decide_eq_true (by kernel_rfl)) (.inl rfl))
          have HC := Lib.hid (NP.out w)
          clear hd
          simp only [e3]
          go_simp
          refine HC.out.mono ?_
          rintro e w' ⟨ro, rl, rc, rfl, h, hB⟩
          have hK2 := hK _ w' (⟨ro, rl, rc, upd_same x 4 _, h⟩) (hk.next hB) (fun j _ _ _ _ y t => TP.next hB j y t)
          simp (config := {decide := true}) only [upd, if_true, if_false, e3] at hK2
          exact hK2
        · refine ⟨_, rfl, fun x w hk hd K' hK => ?_⟩
          clear hd
          go_simp
          exact hK _ w (upd_same x 5 _) hk (fun j _ _ _ _ y t => t)
        · refine ⟨_, rfl, fun x w hk hd K' hK => ?_⟩
          have e5 : x 5 = _ := (hd 5 (of_decide_eq_true (by kernel_rfl)) (.inl rfl))
          have HC := Lib.hid (NL.out w)
          clear hd
          simp only [e5]
          go_simp
          refine HC.out.mono ?_
          rintro e w' ⟨ro, rl, rc, rfl, h, hB⟩
          have hK2 := hK _ w' (⟨ro, rl, rc, upd_same x 6 _, h⟩) (hk.next hB) (fun j _ _ _ _ y t => TP.next hB j y t)
          simp (config := {decide := true}) only [upd, if_true, if_false, e5] at hK2
          exact hK2
        · refine ⟨_, rfl, fun x w hk hd K' hK => ?_⟩
          obtain ⟨ro4, rl4, rc4, e4, h4_0⟩ := (hd 4 (of_decide_eq_true (by kernel_rfl)) (.inl rfl))
          obtain ⟨ro6, rl6, rc6, e6, h6_0⟩ := (hd 6 (of_decide_eq_true (by kernel_rfl)) (.inl rfl))
          have HC := Lib.hid (HLO.out w _ _ h4_0 h6_0)
          clear h4_0 h6_0
          clear hd
          simp only [e4, e6]
          go_simp
          refine HC.out.mono ?_
          rintro e w' ⟨ao, al, ac, bo, bl, bc, rfl, h, h9, hB⟩
          have hK2 := hK _ w' (⟨ao, al, ac, bo, bl, bc, upd_same x 7 _, h, h9⟩) (hk.next hB) (fun j _ _ _ _ y t => TP.next hB j y t)
          simp (config := {decide := true}) only [upd, if_true, if_false, e4, e6] at hK2
          exact hK2
        · refine ⟨_, rfl, fun x w hk hd K' hK => ?_⟩
          clear hd
          go_simp
          exact hK _ w (upd_same x 8 _) hk (fun j _ _ _ _ y t => t)
        · refine ⟨_, rfl, fun x w hk hd K' hK => ?_⟩
          clear hd
          go_simp
          exact hK _ w (upd_same x 9 _) hk (fun j _ _ _ _ y t => t)
        · refine ⟨_, rfl, fun x w hk hd K' hK => ?_⟩
          clear hd
          go_simp
          exact hK _ w (upd_same x 10 _) hk (fun j _ _ _ _ y t => t)
        · refine ⟨_, rfl, fun x w hk hd K' hK => ?_⟩
          clear hd
          go_simp
          exact hK _ w (upd_same x 11 _) hk (fun j _ _ _ _ y t => t)
        · refine ⟨_, rfl, fun x w hk hd K' hK => ?_⟩
          clear hd
          go_simp
          exact hK _ w (upd_same x 12 _) hk (fun j _ _ _ _ y t => t)
        · refine ⟨_, rfl, fun x w hk hd K' hK => ?_⟩
          clear hd
          go_simp
          exact hK _ w (upd_same x 13 _) hk (fun j _ _ _ _ y t => t)
        · refine ⟨_, rfl, fun x w hk hd K' hK => ?_⟩
          have e13 : x 13 = _ := (hd 13 (of_decide_eq_true (by kernel_rfl)) (.inl rfl))
          have w7 := W7.out
          clear hd
          simp only [e13]
          go_simp
          have hK2 := hK _ w (upd_same x 14 _) hk (fun j _ _ _ _ y t => t)
          simp (config := {decide := true}) only [upd, if_true, if_false, e13] at hK2
          exact hK2
        · refine ⟨_, rfl, fun x w hk hd K' hK => ?_⟩
          have e8 : x 8 = _ := (hd 8 (of_decide_eq_true (by kernel_rfl)) (.inl rfl))
          have e9 : x 9 = _ := (hd 9 (of_decide_eq_true (by kernel_rfl)) (.inl rfl))
          have e10 : x 10 = _ := (hd 10 (of_decide_eq_true (by kernel_rfl)) (.inl rfl))
          have e11 : x 11 = _ := (hd 11 (of_decide_eq_true (by kernel_rfl)) (.inl rfl))
          have e12 : x 12 = _ := (hd 12 (of_decide_eq_true (by kernel_rfl)) (.inl rfl))
          have e14 : x 14 = _ := (hd 14 (of_decide_eq_true (by kernel_rfl)) (.inl rfl))
          have HC := Lib.hid (HEX.out w)
          clear hd
          simp only [e8, e9, e10, e11, e12, e14]
          go_simp
          refine HC.out.mono ?_
          rintro e w' ⟨ao, al, ac, bo, bl, bc, rfl, h, h9, hB⟩
          have hK2 := hK _ w' (⟨ao, al, ac, bo, bl, bc, upd_same x 15 _, h, h9⟩) (hk.next hB) (fun j _ _ _ _ y t => TP.next hB j y t)
          simp (config := {decide := true}) only [upd, if_true, if_false, e8, e9, e10, e11, e12, e14] at hK2
          exact hK2
        · refine ⟨_, rfl, fun x w hk hd K' hK => ?_⟩
          obtain ⟨ao7, al7, ac7, bo7, bl7, bc7, e7, h7_0, h7_1⟩ := (hd 7 (of_decide_eq_true (by kernel_rfl)) (.inl rfl))
          obtain ⟨ao15, al15, ac15, bo15, bl15, bc15, e15, h15_0, h15_1⟩ := (hd 15 (of_decide_eq_true (by kernel_rfl)) (.inl rfl))
          have HC := Lib.hid (HMU.out w _ _ _ _ h7_0 h7_1 h15_0 h15_1)
          clear h7_0 h7_1 h15_0 h15_1
          clear hd
          simp only [e7, e15]
          go_simp
          refine HC.out.mono ?_
          rintro e w' ⟨ao, al, ac, bo, bl, bc, rfl, h, h9, hB⟩
          have hK2 := hK _ w' (⟨ao, al, ac, bo, bl, bc, upd_same x 16 _, h, h9⟩) (hk.next hB) (fun j _ _ _ _ y t => TP.next hB j y t)
          simp (config := {decide := true}) only [upd, if_true, if_false, e7, e15] at hK2
          exact hK2
        · refine ⟨_, rfl, fun x w hk hd K' hK => ?_⟩
          have e0 : x 0 = _ := (hd 0 (of_decide_eq_true (by kernel_rfl)) (.inl rfl))
          obtain ⟨ao16, al16, ac16, bo16, bl16, bc16, e16, h16_0, h16_1⟩ := (hd 16 (of_decide_eq_true (by kernel_rfl)) (.inl rfl))
          have HC := Lib.hid (HAD.out w _ _ hk h16_0 h16_1)
          clear h16_0 h16_1
          clear hd
          simp only [e0, e16]
          go_simp
          refine HC.out.mono ?_
          rintro e w' ⟨ao, al, ac, bo, bl, bc, rfl, h, h9, hB⟩
          have hK2 := hK _ w' (⟨ao, al, ac, bo, bl, bc, upd_same x 17 _, h, h9⟩) (hk.next hB) (fun j _ _ _ _ y t => TP.next hB j y t)
          simp (config := {decide := true}) only [upd, if_true, if_false, e0, e16] at hK2
          exact hK2
      · intro x w listed hk hT hl
        subst hl
        obtain ⟨ao, al, ac, bo, bl, bc, e17, ha, hb⟩ := hT 17 (by decide) rfl
        obtain ⟨k0, k1, k2, k3⟩ := HCF.out w hk
        clear hT
        simp only [e17]
        refine wpAny_ready (rs := [18]) (by kernel_rfl) (by simp) (AllReady.cons rfl (fun K hK => ?_) AllReady.nil)
        go_simp
        refine hK _ _ ?_
        clear hK K
        refine wpAny_done (by kernel_rfl) ?_ _
        have HSN : Hid (SR v5.heap.size S N ((w.setCell ⟨v5.heap.size, 0, none⟩ (.slice ao al ac)).setCell ⟨v5.heap.size, 1, none⟩ (.slice bo bl bc))) := SR.put (HBX.out.next hk) (by intro k d h; cases h) (by intro k d h; cases h) rfl rfl ha hb
        have HKN : Hid (Kw v1 ((w.setCell ⟨v5.heap.size, 0, none⟩ (.slice ao al ac)).setCell ⟨v5.heap.size, 1, none⟩ (.slice bo bl bc))) := Below.setCell (Below.setCell (Kw.next HK6.out hk) (p := ⟨v5.heap.size, 0, none⟩) HG5.out _) (p := ⟨v5.heap.size, 1, none⟩) HG5.out _
        clear k0 k1 k2 k3 ha hb hk e17
        go_wp2_with fail
        go_meet
        case rel => exact ⟨S, N, HQN.out, HSN, HKN⟩
  case rest =>
    obtain ⟨S1, N1, hqn, HSR7, HK7⟩ := hcut
    have HQ7 := Lib.hid hqn
    obtain ⟨v7, hv7⟩ : ∃ x, x = wc := ⟨_, rfl⟩
    subst hv7
    clear hqn HSR HK6
    have w5 := W5.out; have w6 := W6.out
    go_upto_if 64 with (fail)
    clear w5 w6
    generalize hbq : decide (0 < q) = bq
    have HBQ := Lib.hid hbq
    clear hbq
    go_cut [] from 65 to 85 (fun wz => ∃ S N, QN K6 S N ((1 + (p : Rat) * qE (p - 1) q m (c - 1) m / (left : Rat)) + (q : Rat) * qE p (q - 1) m c m / (left : Rat)) ∧ Hid (SR v5.heap.size S N wz) ∧ Hid (Kw v1 wz))
    case first =>
      cases bq with
      | false =>
        have hq : ¬ 0 < q := of_decide_eq_false HBQ.out
        have HQN : Hid (QN K6 S1 N1 ((1 + (p : Rat) * qE (p - 1) q m (c - 1) m / (left : Rat)) + (q : Rat) * qE p (q - 1) m c m / (left : Rat))) := by
          have : q = 0 := by omega
          obtain ⟨a1, a2, a3, a4⟩ := HQ7.out
          refine ⟨a1, Nat.le_trans a2 (Nat.pow_le_pow_right (by decide) (by unfold K6; omega)), Nat.le_trans a3 (Nat.pow_le_pow_right (by decide) (by unfold K6; omega)), ?_⟩
          rw [a4, this]
          grind
        go_wp2_with fail
        go_meet
        case rel => exact ⟨S1, N1, HQN.out, HSR7, HK7⟩
      | true =>
        have hq : 0 < q := of_decide_eq_true HBQ.out
        have hqv := HQ2.out hq
        have HEX0 := Lib.hid (H2.out hq)
        obtain ⟨L, hL⟩ : ∃ x, x = eS p (q - 1) m c m := ⟨_, rfl⟩
        obtain ⟨M, hM⟩ : ∃ x, x = eM (p + (q - 1)) m := ⟨_, rfl⟩
        have HEX : Hid (∀ W', Calls Tryz.prog 17 #[.int .i64 lot, .int .i64 bad, .int .i64 n, .int .i64 d, .int .i64 g1, .int .i64 b] W' fun e w' => ∃ ao al ac bo bl bc, e = .returned (.agg #[.slice ao al ac, .slice bo bl bc]) ∧ R w' (.slice ao al ac) (lowP L M) ∧ R w' (.slice bo bl bc) (lowQ L M) ∧ Below W'.heap.size W' w') := fun W' => by
          rw [hL, hM]; exact HEX0.out W'
        have hq7 := HQ7.out
        rw [← hL, ← hM] at hqv
        obtain ⟨S, hS⟩ : ∃ x, x = S1 * (left * M) + q * L * N1 := ⟨_, rfl⟩
        obtain ⟨N, hN⟩ : ∃ x, x = N1 * (left * M) := ⟨_, rfl⟩
        have HQN : Hid (QN K6 S N ((1 + (p : Rat) * qE (p - 1) q m (c - 1) m / (left : Rat)) + (q : Rat) * qE p (q - 1) m c m / (left : Rat))) := by
          have := QN.add hq7 hqv hq40 hl40 HP2.out
          rw [← hS, ← hN] at this
          exact this.mono (by unfold K6; omega)
        obtain ⟨eo, el, ec, fo, fl, fc, hbx, hs1, hs2⟩ := HSR7.out
        have HBX := Lib.hid hbx
        have HCEL : Hid (∀ W', Kw v7 W' → W'.cell? ⟨v5.heap.size, 0, none⟩ = some (.slice eo el ec) ∧ W'.cell? ⟨v5.heap.size, 1, none⟩ = some (.slice fo fl fc)) := fun W' h => ⟨(hbx.next h).c0, (hbx.next h).c1⟩
        have HCF : Hid (∀ W', Kw v7 W' → W'.cell? ⟨v5.heap.size, 0, none⟩ = some (.slice eo el ec) ∧ W'.cell? ⟨v5.heap.size, 1, none⟩ = some (.slice fo fl fc) ∧ W'.frozen? ⟨v5.heap.size, 0, none⟩ = false ∧ W'.frozen? ⟨v5.heap.size, 1, none⟩ = false) := fun W' h => ⟨(hbx.next h).c0, (hbx.next h).c1, (hbx.next h).f0, (hbx.next h).f1⟩
        have HLO := Lib.hid (HLO.out q hq40)
        have HMU := Lib.hid (HMUL.out q L M _ hq40 hqv)
        have HAD : Hid (∀ W' y z, Kw v7 W' → R W' y (lowP (q * L) (left * M)) → R W' z (lowQ (q * L) (left * M)) → Calls Tryz.prog 43 #[.agg #[.slice eo el ec, .slice fo fl fc], .agg #[y, z]] W' fun e w' => ∃ ao al ac bo bl bc, e = .returned (.agg #[.slice ao al ac, .slice bo bl bc]) ∧ R w' (.slice ao al ac) (lowP S N) ∧ R w' (.slice bo bl bc) (lowQ S N) ∧ Below W'.heap.size W' w') := fun W' y z h g1 g2 => by
          rw [hS, hN]
          exact HADD.out 256 S1 N1 _ q L M _ (by decide) hq7 hq40 hqv W' _ _ y z (hs1.below h) (hs2.below h) g1 g2
        clear hbx hs1 hs2 hS hN hL hM hqv hq7 HEX0 hq HBQ
        go_upto_region 9 with fail
        refine region_own v7 20 (fun x => ⟨#[.int .i64 (lot : Int), .int .i64 (bad : Int), .int .i64 (n : Int), .int .i64 d, .int .i64 (g : Int), .int .i64 (b : Int), undef, undef, undef, undef, undef, undef, .pointer (some ⟨W.heap.size, 0, none⟩), .pointer (some ⟨v2.heap.size, 0, none⟩), .int .i64 (left : Int), .pointer (some ⟨v5.heap.size, 0, none⟩), .slice ro rl rc, .agg #[.slice none 0 0, .slice ro rl rc], .int .i64 (g : Int), .int .i64 (n : Int), .int .i64 d, .int .i64 ((n : Int) - d), .bool false, .bool false, .int .i64 (b : Int), .int .i64 d, .bool false, .bool false, undef, .int .i64 (lot : Int), .int .i64 (g : Int), .int .i64 ((lot : Int) - (g : Int)), .int .i64 (b : Int), .int .i64 (left : Int), .slice so sl sc, .slice po pl pc, .agg #[.slice so sl sc, .slice po pl pc], .int .i64 (bad : Int), .int .i64 (b : Int), .int .i64 (p : Int), .bool bp, u41, u42, u43, u44, u45, u46, u47, u48, u49, u50, u51, u52, u53, u54, u55, u56, u57, u58, .int .i64 (lot : Int), .int .i64 (bad : Int), .int .i64 ((lot : Int) - (bad : Int)), .int .i64 (g : Int), .int .i64 (q : Int), .bool true, x 0, x 1, x 2, x 3, x 4, x 5, x 6, x 7, x 8, x 9, x 10, x 11, x 12, x 13, x 14, x 15, x 16, x 17, x 18, x 19, undef], []⟩) (TQ v7 eo fo el ec fl fc lot bad n g b g1 q left L M S N d) TQkill (fun j => [_, _, _, _, _, _, _, _, _, _, _, _, _, _, _, _, _, _, _, _].getD j undef) rfl (by kernel_rfl) (of_decide_eq_true (by kernel_rfl)) (of_decide_eq_true (by kernel_rfl)) (of_decide_eq_true (by kernel_rfl)) (TQ.congr ) ?_ ?_
        · intro i hi
          have hi2 : i = 0 ∨ i = 1 ∨ i = 2 ∨ i = 3 ∨ i = 4 ∨ i = 5 ∨ i = 6 ∨ i = 7 ∨ i = 8 ∨ i = 9 ∨ i = 10 ∨ i = 11 ∨ i = 12 ∨ i = 13 ∨ i = 14 ∨ i = 15 ∨ i = 16 ∨ i = 17 ∨ i = 18 ∨ i = 19 := by omega
          clear hi
          rcases hi2 with rfl | rfl | rfl | rfl | rfl | rfl | rfl | rfl | rfl | rfl | rfl | rfl | rfl | rfl | rfl | rfl | rfl | rfl | rfl | rfl
          · refine ⟨_, rfl, fun x w hk hd K' hK => ?_⟩
            obtain ⟨z0, z1⟩ := HCEL.out w hk
            clear hd
            go_simp
            have hK2 := hK _ w (upd_same x 0 _) hk (fun j _ _ _ _ y t => t)
            simp (config := {decide := true}) only [upd, if_true, if_false] at hK2
            exact hK2
          · refine ⟨_, rfl, fun x w hk hd K' hK => ?_⟩
            clear hd
            go_simp
            exact hK _ w (upd_same x 1 _) hk (fun j _ _ _ _ y t => t)
          · refine ⟨_, rfl, fun x w hk hd K' hK => ?_⟩
            clear hd
            go_simp
            exact hK _ w (upd_same x 2 _) hk (fun j _ _ _ _ y t => t)
          · refine ⟨_, rfl, fun x w hk hd K' hK => ?_⟩
            have e1 : x 1 = _ := (hd 1 (of_decide_eq_true (by kernel_rfl)) (.inl rfl))
            have e2 : x 2 = _ := (hd 2 (of_decide_eq_true (by kernel_rfl)) (.inl rfl))
            have w5 := W5.out
            clear hd
            simp only [e1, e2]
            go_simp
            have hK2 := hK _ w (upd_same x 3 _) hk (fun j _ _ _ _ y t => t)
            simp (config := {decide := true}) only [upd, if_true, if_false, e1, e2] at hK2
            exact hK2
          · refine ⟨_, rfl, fun x w hk hd K' hK => ?_⟩
            clear hd
            go_simp
            exact hK _ w (upd_same x 4 _) hk (fun j _ _ _ _ y t => t)
          · refine ⟨_, rfl, fun x w hk hd K' hK => ?_⟩
            have e3 : x 3 = _ := (hd 3 (of_decide_eq_true (by kernel_rfl)) (.inl rfl))
            have e4 : x 4 = _ := (hd 4 (of_decide_eq_true (by kernel_rfl)) (.inl rfl))
            have w6 := W6.out
            clear hd
            simp only [e3, e4]
            go_simp
            have hK2 := hK _ w (upd_same x 5 _) hk (fun j _ _ _ _ y t => t)
            simp (config := {decide := true}) only [upd, if_true, if_false, e3, e4] at hK2
            exact hK2
          · refine ⟨_, rfl, fun x w hk hd K' hK => ?_⟩
            have e5 : x 5 = _ := (hd 5 (of_decide_eq_true (by kernel_rfl)) (.inl rfl))
            have HC := Lib.hid (NQ.out w)
            clear hd
            simp only [e5]
            go_simp
            refine HC.out.mono ?_
            rintro e w' ⟨ro, rl, rc, rfl, h, hB⟩
            have hK2 := hK _ w' (⟨ro, rl, rc, upd_same x 6 _, h⟩) (hk.next hB) (fun j _ _ _ _ y t => TQ.next hB j y t)
            simp (config := {decide := true}) only [upd, if_true, if_false, e5] at hK2
            exact hK2
          · refine ⟨_, rfl, fun x w hk hd K' hK => ?_⟩
            clear hd
            go_simp
            exact hK _ w (upd_same x 7 _) hk (fun j _ _ _ _ y t => t)
          · refine ⟨_, rfl, fun x w hk hd K' hK => ?_⟩
            have e7 : x 7 = _ := (hd 7 (of_decide_eq_true (by kernel_rfl)) (.inl rfl))
            have HC := Lib.hid (NL.out w)
            clear hd
            simp only [e7]
            go_simp
            refine HC.out.mono ?_
            rintro e w' ⟨ro, rl, rc, rfl, h, hB⟩
            have hK2 := hK _ w' (⟨ro, rl, rc, upd_same x 8 _, h⟩) (hk.next hB) (fun j _ _ _ _ y t => TQ.next hB j y t)
            simp (config := {decide := true}) only [upd, if_true, if_false, e7] at hK2
            exact hK2
          · refine ⟨_, rfl, fun x w hk hd K' hK => ?_⟩
            obtain ⟨ro6, rl6, rc6, e6, h6_0⟩ := (hd 6 (of_decide_eq_true (by kernel_rfl)) (.inl rfl))
            obtain ⟨ro8, rl8, rc8, e8, h8_0⟩ := (hd 8 (of_decide_eq_true (by kernel_rfl)) (.inl rfl))
            have HC := Lib.hid (HLO.out w _ _ h6_0 h8_0)
            clear h6_0 h8_0
            clear hd
            simp only [e6, e8]
            go_simp
            refine HC.out.mono ?_
            rintro e w' ⟨ao, al, ac, bo, bl, bc, rfl, h, h9, hB⟩
            have hK2 := hK _ w' (⟨ao, al, ac, bo, bl, bc, upd_same x 9 _, h, h9⟩) (hk.next hB) (fun j _ _ _ _ y t => TQ.next hB j y t)
            simp (config := {decide := true}) only [upd, if_true, if_false, e6, e8] at hK2
            exact hK2
          · refine ⟨_, rfl, fun x w hk hd K' hK => ?_⟩
            clear hd
            go_simp
            exact hK _ w (upd_same x 10 _) hk (fun j _ _ _ _ y t => t)
          · refine ⟨_, rfl, fun x w hk hd K' hK => ?_⟩
            clear hd
            go_simp
            exact hK _ w (upd_same x 11 _) hk (fun j _ _ _ _ y t => t)
          · refine ⟨_, rfl, fun x w hk hd K' hK => ?_⟩
            clear hd
            go_simp
            exact hK _ w (upd_same x 12 _) hk (fun j _ _ _ _ y t => t)
          · refine ⟨_, rfl, fun x w hk hd K' hK => ?_⟩
            clear hd
            go_simp
            exact hK _ w (upd_same x 13 _) hk (fun j _ _ _ _ y t => t)
          · refine ⟨_, rfl, fun x w hk hd K' hK => ?_⟩
            clear hd
            go_simp
            exact hK _ w (upd_same x 14 _) hk (fun j _ _ _ _ y t => t)
          · refine ⟨_, rfl, fun x w hk hd K' hK => ?_⟩
            have e14 : x 14 = _ := (hd 14 (of_decide_eq_true (by kernel_rfl)) (.inl rfl))
            have w8 := W8.out
            clear hd
            simp only [e14]
            go_simp
            have hK2 := hK _ w (upd_same x 15 _) hk (fun j _ _ _ _ y t => t)
            simp (config := {decide := true}) only [upd, if_true, if_false, e14] at hK2
            exact hK2
          · refine ⟨_, rfl, fun x w hk hd K' hK => ?_⟩
            clear hd
            go_simp
            exact hK _ w (upd_same x 16 _) hk (fun j _ _ _ _ y t => t)
          · refine ⟨_, rfl, fun x w hk hd K' hK => ?_⟩
            have e10 : x 10 = _ := (hd 10 (of_decide_eq_true (by kernel_rfl)) (.inl rfl))
            have e11 : x 11 = _ := (hd 11 (of_decide_eq_true (by kernel_rfl)) (.inl rfl))
            have e12 : x 12 = _ := (hd 12 (of_decide_eq_true (by kernel_rfl)) (.inl rfl))
            have e13 : x 13 = _ := (hd 13 (of_decide_eq_true (by kernel_rfl)) (.inl rfl))
            have e15 : x 15 = _ := (hd 15 (of_decide_eq_true (by kernel_rfl)) (.inl rfl))
            have e16 : x 16 = _ := (hd 16 (of_decide_eq_true (by kernel_rfl)) (.inl rfl))
            have HC := Lib.hid (HEX.out w)
            clear hd
            simp only [e10, e11, e12, e13, e15, e16]
            go_simp
            refine HC.out.mono ?_
            rintro e w' ⟨ao, al, ac, bo, bl, bc, rfl, h, h9, hB⟩
            have hK2 := hK _ w' (⟨ao, al, ac, bo, bl, bc, upd_same x 17 _, h, h9⟩) (hk.next hB) (fun j _ _ _ _ y t => TQ.next hB j y t)
            simp (config := {decide := true}) only [upd, if_true, if_false, e10, e11, e12, e13, e15, e16] at hK2
            exact hK2
          · refine ⟨_, rfl, fun x w hk hd K' hK => ?_⟩
            obtain ⟨ao9, al9, ac9, bo9, bl9, bc9, e9, h9_0, h9_1⟩ := (hd 9 (of_decide_eq_true (by kernel_rfl)) (.inl rfl))
            obtain ⟨ao17, al17, ac17, bo17, bl17, bc17, e17, h17_0, h17_1⟩ := (hd 17 (of_decide_eq_true (by kernel_rfl)) (.inl rfl))
            have HC := Lib.hid (HMU.out w _ _ _ _ h9_0 h9_1 h17_0 h17_1)
            clear h9_0 h9_1 h17_0 h17_1
            clear hd
            simp only [e9, e17]
            go_simp
            refine HC.out.mono ?_
            rintro e w' ⟨ao, al, ac, bo, bl, bc, rfl, h, h9, hB⟩
            have hK2 := hK _ w' (⟨ao, al, ac, bo, bl, bc, upd_same x 18 _, h, h9⟩) (hk.next hB) (fun j _ _ _ _ y t => TQ.next hB j y t)
            simp (config := {decide := true}) only [upd, if_true, if_false, e9, e17] at hK2
            exact hK2
          · refine ⟨_, rfl, fun x w hk hd K' hK => ?_⟩
            have e0 : x 0 = _ := (hd 0 (of_decide_eq_true (by kernel_rfl)) (.inl rfl))
            obtain ⟨ao18, al18, ac18, bo18, bl18, bc18, e18, h18_0, h18_1⟩ := (hd 18 (of_decide_eq_true (by kernel_rfl)) (.inl rfl))
            have HC := Lib.hid (HAD.out w _ _ hk h18_0 h18_1)
            clear h18_0 h18_1
            clear hd
            simp only [e0, e18]
            go_simp
            refine HC.out.mono ?_
            rintro e w' ⟨ao, al, ac, bo, bl, bc, rfl, h, h9, hB⟩
            have hK2 := hK _ w' (⟨ao, al, ac, bo, bl, bc, upd_same x 19 _, h, h9⟩) (hk.next hB) (fun j _ _ _ _ y t => TQ.next hB j y t)
            simp (config := {decide := true}) only [upd, if_true, if_false, e0, e18] at hK2
            exact hK2
        · intro x w listed hk hT hl
          subst hl
          obtain ⟨ao, al, ac, bo, bl, bc, e19, ha, hb⟩ := hT 19 (by decide) rfl
          obtain ⟨k0, k1, k2, k3⟩ := HCF.out w hk
          clear hT
          simp only [e19]
          refine wpAny_ready (rs := [20]) (by kernel_rfl) (by simp) (AllReady.cons rfl (fun K hK => ?_) AllReady.nil)
          go_simp
          refine hK _ _ ?_
          clear hK K
          refine wpAny_done (by kernel_rfl) ?_ _
          have HSN : Hid (SR v5.heap.size S N ((w.setCell ⟨v5.heap.size, 0, none⟩ (.slice ao al ac)).setCell ⟨v5.heap.size, 1, none⟩ (.slice bo bl bc))) := SR.put (HBX.out.next hk) (by intro k d h; cases h) (by intro k d h; cases h) rfl rfl ha hb
          have HKN : Hid (Kw v1 ((w.setCell ⟨v5.heap.size, 0, none⟩ (.slice ao al ac)).setCell ⟨v5.heap.size, 1, none⟩ (.slice bo bl bc))) := Below.setCell (Below.setCell (Kw.next HK7.out hk) (p := ⟨v5.heap.size, 0, none⟩) HG5.out _) (p := ⟨v5.heap.size, 1, none⟩) HG5.out _
          clear k0 k1 k2 k3 ha hb hk e19
          go_wp2_with fail
          go_meet
          case rel => exact ⟨S, N, HQN.out, HSN, HKN⟩
    case rest =>
      obtain ⟨S, N, hqn, HSR8, HK8⟩ := hcut
      obtain ⟨w10, hv8⟩ : ∃ x, x = wc := ⟨_, rfl⟩
      subst hv8
      obtain ⟨f1, f2⟩ := HFIN.out S N hqn
      obtain ⟨eo, el, ec, fo, fl, fc, hbx, hs1, hs2⟩ := HSR8.out
      rw [f1] at hs1
      rw [f2] at hs2
      have z := HR.out.next HK8.out
      have k0 := hbx.c0; have k1 := hbx.c1; have k2 := z.c0; have k3 := z.c1; have k4 := z.f0; have k5 := z.f1
      obtain ⟨z0, z1⟩ := read_two z.c0 z.c1 (.slice eo el ec) (.slice fo fl fc)
      have HD1 := Lib.hid (IsN_setTwo hs1 z.c0 z.c1 (by intro d h; cases h) (by intro d h; cases h) (.slice eo el ec) (.slice fo fl fc))
      have HD2 := Lib.hid (IsN_setTwo hs2 z.c0 z.c1 (by intro d h; cases h) (by intro d h; cases h) (.slice eo el ec) (.slice fo fl fc))
      have HBE := Lib.hid (((HB.out.trans (Below.mono HK8.out HB.out.size)).setCell (p := ⟨W.heap.size, 0, none⟩) (Nat.le_refl _) (.slice eo el ec)).setCell (p := ⟨W.heap.size, 1, none⟩) (Nat.le_refl _) (.slice fo fl fc))
      clear hqn f1 f2 hbx hs1 hs2 z HSR7 HSR8 HQ7
      go_wp2_with fail
      refine bodyPost_ret (v := .agg #[.slice eo el ec, .slice fo fl fc]) (by simp [results, Tryz.results17, go_sem, z0, z1]) rfl ?_
      exact ⟨_, _, _, _, _, _, rfl, HD1.out, HD2.out, HBE.out⟩
end Go.Proofs.YtcmancfdlfhgbaaGreatDoor
