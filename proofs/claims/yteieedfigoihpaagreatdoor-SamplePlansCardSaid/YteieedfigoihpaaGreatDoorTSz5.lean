/- Contracts and lemmas (several texts merged into one). -/
import Derived.Test.YteieedfigoihpaaGreatDoorTSz3
import Derived.Test.YteieedfigoihpaaGreatDoorTSz2
import Derived.OrdersHeld
import Derived.Test.YteieedfigoihpaaGreatDoorTSz6
import Derived.Test.YteieedfigoihpaaGreatDoorLd
import Derived.Test.YteieedfigoihpaaGreatDoorCUf
namespace Go.Proofs.YteieedfigoihpaaGreatDoor
open Go Go.ChangeShapes Go.RowKit
section
variable {H : Type} {enc : TypeId × Value → H} {P : Program} {w : World} {base : Nat} {spare : Nat → Bool} {held : Bool}
theorem trodAll_five {t0 t1 t2 t3 t4 : TypeId} {args : Array Value} {ds : List (DataW H)} {ps : List MemPlace} (h : DataW.TrodAll enc P w base spare held [t0, t1, t2, t3, t4] args.toList ds ps) :
    ∃ v0 v1 v2 v3 v4 d0 d1 d2 d3 d4 p0 p1 p2 p3 p4, args = #[v0, v1, v2, v3, v4] ∧ ds = [d0, d1, d2, d3, d4] ∧ ps = p0 ++ (p1 ++ (p2 ++ (p3 ++ p4))) ∧ DataW.Trod enc P w base spare held t0 v0 d0 p0 ∧ DataW.Trod enc P w base spare held t1 v1 d1 p1 ∧ DataW.Trod enc P w base spare held t2 v2 d2 p2 ∧ DataW.Trod enc P w base spare held t3 v3 d3 p3 ∧ DataW.Trod enc P w base spare held t4 v4 d4 p4 := by
  obtain ⟨v0, vs0, d0, ds0, p0, q0, hargs, rfl, rfl, hd0, r0⟩ := trodAll_cons h
  obtain ⟨v1, vs1, d1, ds1, p1, q1, rfl, rfl, rfl, hd1, r1⟩ := trodAll_cons r0
  obtain ⟨v2, vs2, d2, ds2, p2, q2, rfl, rfl, rfl, hd2, r2⟩ := trodAll_cons r1
  obtain ⟨v3, vs3, d3, ds3, p3, q3, rfl, rfl, rfl, hd3, r3⟩ := trodAll_cons r2
  obtain ⟨v4, vs4, d4, ds4, p4, q4, rfl, rfl, rfl, hd4, r4⟩ := trodAll_cons r3
  obtain ⟨rfl, rfl, rfl⟩ := trodAll_nil r4
  exact ⟨v0, v1, v2, v3, v4, d0, d1, d2, d3, d4, p0, p1, p2, p3, p4, by cases args; simp_all, rfl, by simp, hd0, hd1, hd2, hd3, hd4⟩
theorem trodAll_mk5 {t0 t1 t2 t3 t4 : TypeId} {v0 v1 v2 v3 v4 : Value} {d0 d1 d2 d3 d4 : DataW H} {p0 p1 p2 p3 p4 : List MemPlace} (h0 : DataW.Trod enc P w base spare held t0 v0 d0 p0) (h1 : DataW.Trod enc P w base spare held t1 v1 d1 p1) (h2 : DataW.Trod enc P w base spare held t2 v2 d2 p2) (h3 : DataW.Trod enc P w base spare held t3 v3 d3 p3) (h4 : DataW.Trod enc P w base spare held t4 v4 d4 p4) :
    DataW.TrodAll enc P w base spare held [t0, t1, t2, t3, t4] [v0, v1, v2, v3, v4] [d0, d1, d2, d3, d4] (p0 ++ (p1 ++ (p2 ++ (p3 ++ p4)))) :=
  ⟨p0, _, h0, trodAll_mk4 h1 h2 h3 h4, rfl⟩
end
end Go.Proofs.YteieedfigoihpaaGreatDoor
namespace Go.Proofs.YteieedfigoihpaaGreatDoor
open Go Go.RowKit Gu

/-- what an operation on fractions gives: the quotient of L by M in lowest terms, or ErrRange -/
def FRes (L M : Nat) (w' : World) (e : Ending) (B : Nat) (w : World) : Prop :=
  ∃ r s, e = .returned (.tuple #[.agg #[r, s], .int .i64 (ffE (lowP L M) (lowQ L M))]) ∧ D w' r (ffN (lowP L M) (lowQ L M) (lowP L M)) ∧ D w' s (ffN (lowP L M) (lowQ L M) (lowQ L M)) ∧ Below B w w'
theorem nd_dmul {b d : Nat} (hb : nd 4294967296 b ≤ 100000) (hd : nd 4294967296 d ≤ 100000) : nd 4294967296 (dn b * dn d) ≤ 200000 := nd_mul (dn_nd hb (by decide)) (dn_nd hd (by decide))
end Go.Proofs.YteieedfigoihpaaGreatDoor
namespace Go.Proofs.YteieedfigoihpaaGreatDoor
open Go Go.RowKit Gu

theorem low_of {P Q L M : Nat} (h : Nat.gcd P Q = 1) (hQ : 0 < Q) (hM : 0 < M) (he : P * M = L * Q) : P = lowP L M ∧ Q = lowQ L M := by
  obtain ⟨e1, e2⟩ := low_mul (L := L) (M := M)
  have hg : 0 < Nat.gcd L M := Nat.gcd_pos_of_pos_right _ hM
  refine low_unique h (low_coprime hM) hQ (lowQ_pos hM) (Nat.eq_of_mul_eq_mul_right hg ?_)
  calc P * lowQ L M * Nat.gcd L M = P * (lowQ L M * Nat.gcd L M) := Nat.mul_assoc _ _ _
    _ = L * Q := by rw [e2, he]
    _ = lowP L M * Nat.gcd L M * Q := by rw [e1]
    _ = lowP L M * Q * Nat.gcd L M := by grind
theorem low_same {L M L' M' : Nat} (hM : 0 < M) (hM' : 0 < M') (he : L * M' = L' * M) : lowP L M = lowP L' M' ∧ lowQ L M = lowQ L' M' := by
  obtain ⟨e1, e2⟩ := low_mul (L := L) (M := M)
  have hg : 0 < Nat.gcd L M := Nat.gcd_pos_of_pos_right _ hM
  refine low_of (low_coprime hM) (lowQ_pos hM) hM' (Nat.eq_of_mul_eq_mul_right hg ?_)
  calc lowP L M * M' * Nat.gcd L M = lowP L M * Nat.gcd L M * M' := by grind
    _ = L' * (lowQ L M * Nat.gcd L M) := by rw [e1, e2, he]
    _ = L' * lowQ L M * Nat.gcd L M := (Nat.mul_assoc _ _ _).symm
theorem low_prod {L M L' M' : Nat} (hM : 0 < M) (hM' : 0 < M') : lowP (lowP L M * lowP L' M') (lowQ L M * lowQ L' M') = lowP (L * L') (M * M') ∧ lowQ (lowP L M * lowP L' M') (lowQ L M * lowQ L' M') = lowQ (L * L') (M * M') := by
  obtain ⟨e1, e2⟩ := low_mul (L := L) (M := M)
  obtain ⟨e3, e4⟩ := low_mul (L := L') (M := M')
  refine low_same (Nat.mul_pos (lowQ_pos hM) (lowQ_pos hM')) (Nat.mul_pos hM hM') ?_
  generalize lowP L M = P at *
  generalize lowQ L M = Q at *
  generalize lowP L' M' = P' at *
  generalize lowQ L' M' = Q' at *
  rw [← e1, ← e2, ← e3, ← e4]
  grind
theorem low_plus {L M L' M' : Nat} (hM : 0 < M) (hM' : 0 < M') : lowP (lowP L M * lowQ L' M' + lowP L' M' * lowQ L M) (lowQ L M * lowQ L' M') = lowP (L * M' + L' * M) (M * M') ∧ lowQ (lowP L M * lowQ L' M' + lowP L' M' * lowQ L M) (lowQ L M * lowQ L' M') = lowQ (L * M' + L' * M) (M * M') := by
  obtain ⟨e1, e2⟩ := low_mul (L := L) (M := M)
  obtain ⟨e3, e4⟩ := low_mul (L := L') (M := M')
  refine low_same (Nat.mul_pos (lowQ_pos hM) (lowQ_pos hM')) (Nat.mul_pos hM hM') ?_
  generalize lowP L M = P at *
  generalize lowQ L M = Q at *
  generalize lowP L' M' = P' at *
  generalize lowQ L' M' = Q' at *
  rw [← e1, ← e2, ← e3, ← e4]
  grind
theorem fits_low {L M k : Nat} (hL : L ≤ 2 ^ k) (hM : M ≤ 2 ^ k) (hk : k ≤ 10000) : ffE (lowP L M) (lowQ L M) = 0 ∧ ∀ x, ffN (lowP L M) (lowQ L M) x = x := by
  have h2 : ∀ z, z ≤ 2 ^ k → nd 2 z ≤ 16384 := fun z hz => Nat.le_trans ((nd_le (by decide)).2 (Nat.lt_of_le_of_lt hz (Nat.pow_lt_pow_right (by decide) (Nat.lt_succ_self k)))) (by omega)
  have h : nd 2 (lowP L M) ≤ 16384 ∧ nd 2 (lowQ L M) ≤ 16384 := ⟨h2 _ (Nat.le_trans (lowP_le _ _) hL), h2 _ (Nat.le_trans (lowQ_le _ _) hM)⟩
  exact ⟨if_pos h, fun x => if_pos h⟩
theorem FRes.low {L M k : Nat} {w' w : World} {e : Ending} (h : FRes L M w' e w.heap.size w) (hL : L ≤ 2 ^ k) (hM : M ≤ 2 ^ k) (hk : k ≤ 10000) :
    ∃ ao al ac bo bl bc, e = .returned (.tuple #[.agg #[.slice ao al ac, .slice bo bl bc], .int .i64 0]) ∧ D w' (.slice ao al ac) (lowP L M) ∧ D w' (.slice bo bl bc) (lowQ L M) ∧ Below w.heap.size w w' := by
  obtain ⟨f1, f2⟩ := fits_low hL hM hk
  obtain ⟨r, s, h1, h2, h3, h4⟩ := h
  rw [f2] at h2 h3
  rw [f1] at h1
  obtain ⟨ao, ac, rfl, -⟩ := h2.shape
  obtain ⟨bo, bc, rfl, -⟩ := h3.shape
  exact ⟨_, _, _, _, _, _, h1, h2, h3, h4⟩
theorem small5 {z k : Nat} (hz : z ≤ 2 ^ k) (hk : k ≤ 5000) : nd 4294967296 z ≤ 100000 := Nat.le_trans (small_nd (m := 200) hz (by omega)) (by decide)
theorem int_big {n : Nat} (h : n ≤ 9223372036854775807) : n ≤ big := le_big (k := 63) (by omega) (by omega)
end Go.Proofs.YteieedfigoihpaaGreatDoor
namespace Go.Proofs.YteieedfigoihpaaGreatDoor
open Go Go.RowKit Gu

/-- both risks are kept, by the probabilities of acceptance -/
def KeepA (b g n m c : Nat) : Prop := pascalN (b + g) n * m ≤ accS b g n c * 1000000
def KeepC (b g n be c : Nat) : Prop := accS b g n c * 1000000 ≤ pascalN (b + g) n * be
theorem accS_nat (b g n c : Nat) : accS b g n (c : Int) = hsum b g n 0 (c + 1) := by unfold accS; rw [show ((c : Int) + 1).toNat = c + 1 by omega]
theorem least_exists (b g n m : Nat) : ∃ c, LeastC b g n m c := by
  have h : ∀ k, k ≤ n → (∃ c, c ≤ k ∧ LeastC b g n m c) ∨ ∀ j, j < k → hsum b g n 0 (j + 1) * 1000000 < pascalN (b + g) n * m := by
    intro k
    induction k with
    | zero => exact fun _ => .inr fun j hj => absurd hj (Nat.not_lt_zero _)
    | succ k ih =>
      intro hk
      rcases ih (by omega) with ⟨c, h1, h2⟩ | h
      · exact .inl ⟨c, by omega, h2⟩
      · by_cases hx : hsum b g n 0 (k + 1) * 1000000 < pascalN (b + g) n * m
        · exact .inr fun j hj => by
            rcases Nat.eq_or_lt_of_le (Nat.le_of_lt_succ hj) with e | e
            · rw [e]; exact hx
            · exact h j e
        · exact .inl ⟨k, by omega, by omega, h, fun _ => by omega⟩
  rcases h n (Nat.le_refl _) with ⟨c, _, h2⟩ | h2
  · exact ⟨c, h2⟩
  · exact ⟨n, Nat.le_refl _, h2, fun h => absurd h (Nat.lt_irrefl _)⟩
theorem plan_keeps {b1 g1 b2 g2 n c al be : Nat} (h1 : LeastC b1 g1 n (1000000 - al) c) (h2 : KeepB b2 g2 n be c) : KeepA b1 g1 n (1000000 - al) c ∧ KeepC b2 g2 n be c := by
  refine ⟨?_, ?_⟩
  · unfold KeepA
    rw [accS_nat]
    rcases Nat.eq_or_lt_of_le h1.1 with e | e
    · rw [e, hsum_all]; exact Nat.mul_le_mul_left _ (Nat.sub_le _ _)
    · exact h1.2.2 e
  · unfold KeepC
    rw [accS_nat]; exact h2
theorem plan_smaller {b1 g1 b2 g2 n c m d al be : Nat} (h1 : LeastC b1 g1 n (1000000 - al) c) (h3 : ∀ m, m < n → ∀ d, LeastC b1 g1 m (1000000 - al) d → ¬ KeepB b2 g2 m be d) (hmd : m < n ∨ m = n ∧ d < c) : ¬ (KeepA b1 g1 m (1000000 - al) d ∧ KeepC b2 g2 m be d) := by
  rintro ⟨k1, k2⟩
  unfold KeepA at k1
  unfold KeepC at k2
  rw [accS_nat] at k1 k2
  rcases hmd with h | ⟨rfl, h⟩
  · obtain ⟨e, he⟩ := least_exists b1 g1 m (1000000 - al)
    have hn := h3 m h e he
    unfold KeepB at hn
    have hde : e ≤ d := Nat.le_of_not_lt fun hx => by
      have := he.2.1 d hx
      omega
    have := hsum_mono (b := b2) (g := g2) (n := m) (a := 0) (show e + 1 ≤ d + 1 by omega)
    have := Nat.mul_le_mul_right 1000000 this
    omega
  · have := h1.2.1 d h
    omega
theorem million_le : (1000000 : Nat) ≤ 2 ^ 100 := by decide
theorem acc100 {b g n : Nat} (c : Int) (h : b + g ≤ 60) : accS b g n c ≤ 2 ^ 100 ∧ pascalN (b + g) n ≤ 2 ^ 100 := by
  have h1 : pascalN (b + g) n ≤ 2 ^ 100 := Nat.le_trans (pascalN_le _ _) (Nat.pow_le_pow_right (by decide) (by omega))
  exact ⟨Nat.le_trans (accS_le _ _ _ _) h1, h1⟩
/-- what each operation yields -/
def TE (w0 : World) (go ho : Option Addr) (gl gc hl hc ap ma : Nat) : Nat → (Nat → Value) → World → Prop
  | 0, x, _ => x 0 = .int .i64 0
  | 1, x, _ => x 1 = .bool true
  | 2, x, _ => x 2 = .bool true
  | 3, x, _ => x 3 = .int .i64 0
  | 4, x, _ => x 4 = .bool true
  | 5, x, _ => x 5 = .bool true
  | 6, x, _ => x 6 = .bool true
  | 7, x, _ => x 7 = .agg #[.slice go gl gc, .slice ho hl hc]
  | 8, x, _ => x 8 = .int .i64 (ap : Int)
  | 9, x, _ => x 9 = .int .i64 (ma : Int)
  | 10, x, w => ∃ ao ai ac bo bl bc, x 10 = .agg #[.slice ao ai ac, .slice bo bl bc] ∧ D w (.slice ao ai ac) (lowP ma 1000000) ∧ D w (.slice bo bl bc) (lowQ ma 1000000)
  | 11, x, _ => x 11 = .int .i64 (-1)
  | 12, x, _ => x 12 = .bool false
  | 13, x, _ => x 13 = .bool false
  | 14, x, _ => x 14 = .bool false
  | 15, x, _ => x 15 = undef
  | 16, x, _ => x 16 = undef
  | 17, x, _ => x 17 = undef
  | 18, x, _ => x 18 = undef
  | 19, x, _ => x 19 = undef
  | 20, x, _ => x 20 = .bool false
  | 21, x, _ => x 21 = .bool false
  | _ + 22, _, _ => True
def TEkill : Nat → Option Nat
  | _ => none
theorem TE.congr {w0 : World} {go ho : Option Addr} {gl gc hl hc ap ma : Nat} {DD : Nat → List Nat}  : ∀ i x y w, (∀ j, j = i ∨ j ∈ DD i → x j = y j) → TE w0 go ho gl gc hl hc ap ma i x w → TE w0 go ho gl gc hl hc ap ma i y w
  | 0, x, y, w, h, t => by have e := h 0 (.inl rfl); simp only [TE] at t ⊢; rw [← e]; exact t
  | 1, x, y, w, h, t => by have e := h 1 (.inl rfl); simp only [TE] at t ⊢; rw [← e]; exact t
  | 2, x, y, w, h, t => by have e := h 2 (.inl rfl); simp only [TE] at t ⊢; rw [← e]; exact t
  | 3, x, y, w, h, t => by have e := h 3 (.inl rfl); simp only [TE] at t ⊢; rw [← e]; exact t
  | 4, x, y, w, h, t => by have e := h 4 (.inl rfl); simp only [TE] at t ⊢; rw [← e]; exact t
  | 5, x, y, w, h, t => by have e := h 5 (.inl rfl); simp only [TE] at t ⊢; rw [← e]; exact t
  | 6, x, y, w, h, t => by have e := h 6 (.inl rfl); simp only [TE] at t ⊢; rw [← e]; exact t
  | 7, x, y, w, h, t => by have e := h 7 (.inl rfl); simp only [TE] at t ⊢; rw [← e]; exact t
  | 8, x, y, w, h, t => by have e := h 8 (.inl rfl); simp only [TE] at t ⊢; rw [← e]; exact t
  | 9, x, y, w, h, t => by have e := h 9 (.inl rfl); simp only [TE] at t ⊢; rw [← e]; exact t
  | 10, x, y, w, h, t => by have e := h 10 (.inl rfl); simp only [TE] at t ⊢; rw [← e]; exact t
  | 11, x, y, w, h, t => by have e := h 11 (.inl rfl); simp only [TE] at t ⊢; rw [← e]; exact t
  | 12, x, y, w, h, t => by have e := h 12 (.inl rfl); simp only [TE] at t ⊢; rw [← e]; exact t
  | 13, x, y, w, h, t => by have e := h 13 (.inl rfl); simp only [TE] at t ⊢; rw [← e]; exact t
  | 14, x, y, w, h, t => by have e := h 14 (.inl rfl); simp only [TE] at t ⊢; rw [← e]; exact t
  | 15, x, y, w, h, t => by have e := h 15 (.inl rfl); simp only [TE] at t ⊢; rw [← e]; exact t
  | 16, x, y, w, h, t => by have e := h 16 (.inl rfl); simp only [TE] at t ⊢; rw [← e]; exact t
  | 17, x, y, w, h, t => by have e := h 17 (.inl rfl); simp only [TE] at t ⊢; rw [← e]; exact t
  | 18, x, y, w, h, t => by have e := h 18 (.inl rfl); simp only [TE] at t ⊢; rw [← e]; exact t
  | 19, x, y, w, h, t => by have e := h 19 (.inl rfl); simp only [TE] at t ⊢; rw [← e]; exact t
  | 20, x, y, w, h, t => by have e := h 20 (.inl rfl); simp only [TE] at t ⊢; rw [← e]; exact t
  | 21, x, y, w, h, t => by have e := h 21 (.inl rfl); simp only [TE] at t ⊢; rw [← e]; exact t
  | _ + 22, x, y, w, h, t => trivial
theorem TE.next {w0 : World} {go ho : Option Addr} {gl gc hl hc ap ma : Nat} {w w' : World} (hb : Below w.heap.size w w') : ∀ j y, TE w0 go ho gl gc hl hc ap ma j y w → TE w0 go ho gl gc hl hc ap ma j y w'
  | 0, y, t => t
  | 1, y, t => t
  | 2, y, t => t
  | 3, y, t => t
  | 4, y, t => t
  | 5, y, t => t
  | 6, y, t => t
  | 7, y, t => t
  | 8, y, t => t
  | 9, y, t => t
  | 10, y, t => by obtain ⟨ao, ai, ac, bo, bl, bc, e, h0, h1⟩ := t; exact ⟨ao, ai, ac, bo, bl, bc, e, h0.below hb, h1.below hb⟩
  | 11, y, t => t
  | 12, y, t => t
  | 13, y, t => t
  | 14, y, t => t
  | 15, y, t => t
  | 16, y, t => t
  | 17, y, t => t
  | 18, y, t => t
  | 19, y, t => t
  | 20, y, t => t
  | 21, y, t => t
  | _ + 22, y, t => trivial
end Go.Proofs.YteieedfigoihpaaGreatDoor
namespace Go.Proofs.YteieedfigoihpaaGreatDoor
open Go Go.RowKit Gu

theorem risk_yes {x : Int} (h : 0 ≤ x ∧ x ≤ 1000000) : Hid (∀ W, Calls Tryz.prog 27 #[.int .i64 x] W fun e w' => e = .returned (.bool true) ∧ W = w') := fun W => by
  obtain ⟨h1, h2⟩ := h
  have g1 : x ≥ 0 := h1
  go_enter Tryz.func27, Tryz.ntmps27
  go_wp2_with fail
  go_ret
  exact ⟨rfl, rfl⟩
theorem risk_no {x : Int} (h : ¬ (0 ≤ x ∧ x ≤ 1000000)) : Hid (∀ W, Calls Tryz.prog 27 #[.int .i64 x] W fun e w' => e = .returned (.bool false) ∧ W = w') := fun W => by
  by_cases h1 : x ≥ 0
  · have h2 : ¬ x ≤ 1000000 := fun h2 => h ⟨h1, h2⟩
    clear h
    go_enter Tryz.func27, Tryz.ntmps27
    go_wp2_with fail
    go_ret
    exact ⟨rfl, rfl⟩
  · clear h
    go_enter Tryz.func27, Tryz.ntmps27
    go_wp2_with fail
    go_ret
    exact ⟨rfl, rfl⟩
/-- valid arguments of Plan -/
def PlannedP (lot good bad al be : Int) : Prop := (1 ≤ lot ∧ lot ≤ 256) ∧ (0 ≤ good ∧ good < bad ∧ bad ≤ lot) ∧ (0 ≤ al ∧ al ≤ 1000000) ∧ 0 ≤ be ∧ be ≤ 1000000
theorem Planned_yes {lot good bad al be : Int} (h : PlannedP lot good bad al be) : Hid (∀ W, Calls Tryz.prog 12 #[.int .i64 lot, .int .i64 good, .int .i64 bad, .int .i64 al, .int .i64 be] W fun e w' => e = .returned (.bool true) ∧ W = w') := fun W => by
  obtain ⟨⟨h1, h2⟩, ⟨h3, h4, h5⟩, h6, h7⟩ := h
  have g1 : lot ≥ 1 := h1
  have g3 : good ≥ 0 := h3
  have H6 := risk_yes h6
  have H7 := risk_yes h7
  clear h6 h7
  go_enter Tryz.func12, Tryz.ntmps12
  go_wp2_with fail
  refine (H6.out _).mono ?_
  rintro e w' ⟨rfl, rfl⟩
  go_wp2_with fail
  refine (H7.out _).mono ?_
  rintro e w' ⟨rfl, rfl⟩
  go_wp2_with fail
  go_ret
  exact ⟨rfl, rfl⟩
set_option maxHeartbeats 2000000 in
theorem Planned_no {lot good bad al be : Int} (h : ¬ PlannedP lot good bad al be) : Hid (∀ W, Calls Tryz.prog 12 #[.int .i64 lot, .int .i64 good, .int .i64 bad, .int .i64 al, .int .i64 be] W fun e w' => e = .returned (.bool false) ∧ W = w') := fun W => by
  have fin : ∀ (a1 : lot ≥ 1) (a2 : lot ≤ 256) (a3 : good ≥ 0) (a4 : good < bad) (a5 : bad ≤ lot) (a6 : 0 ≤ al ∧ al ≤ 1000000) (a7 : 0 ≤ be ∧ be ≤ 1000000), False := fun a1 a2 a3 a4 a5 a6 a7 => h ⟨⟨a1, a2⟩, ⟨a3, a4, a5⟩, a6, a7⟩
  have HF := Lib.hid fin
  clear h fin
  by_cases h1 : lot ≥ 1
  case neg => go_enter Tryz.func12, Tryz.ntmps12; go_wp2_with fail; go_ret; exact ⟨rfl, rfl⟩
  by_cases h2 : lot ≤ 256
  case neg => go_enter Tryz.func12, Tryz.ntmps12; go_wp2_with fail; go_ret; exact ⟨rfl, rfl⟩
  by_cases h3 : good ≥ 0
  case neg => go_enter Tryz.func12, Tryz.ntmps12; go_wp2_with fail; go_ret; exact ⟨rfl, rfl⟩
  by_cases h4 : good < bad
  case neg => go_enter Tryz.func12, Tryz.ntmps12; go_wp2_with fail; go_ret; exact ⟨rfl, rfl⟩
  by_cases h5 : bad ≤ lot
  case neg => go_enter Tryz.func12, Tryz.ntmps12; go_wp2_with fail; go_ret; exact ⟨rfl, rfl⟩
  by_cases h6 : 0 ≤ al ∧ al ≤ 1000000
  case neg =>
    have H6 := risk_no h6
    clear h6 HF
    go_enter Tryz.func12, Tryz.ntmps12
    go_wp2_with fail
    refine (H6.out _).mono ?_
    rintro e w' ⟨rfl, rfl⟩
    go_wp2_with fail
    go_ret
    exact ⟨rfl, rfl⟩
  have H7 := risk_no fun h7 => HF.out h1 h2 h3 h4 h5 h6 h7
  have H6 := risk_yes h6
  clear h6 HF
  go_enter Tryz.func12, Tryz.ntmps12
  go_wp2_with fail
  refine (H6.out _).mono ?_
  rintro e w' ⟨rfl, rfl⟩
  go_wp2_with fail
  refine (H7.out _).mono ?_
  rintro e w' ⟨rfl, rfl⟩
  go_wp2_with fail
  go_ret
  exact ⟨rfl, rfl⟩
end Go.Proofs.YteieedfigoihpaaGreatDoor
namespace Go.Proofs.YteieedfigoihpaaGreatDoor
open Go Go.RowKit Gu

/-- what a region over two fractions of the document keeps: their boxes are the call's first blocks -/
structure StG (w : World) (v u x y : Value) (a b c d : Nat) (W : World) : Prop where
  n1 : R W v a
  n2 : R W u b
  n3 : R W x c
  n4 : R W y d
  bel : Below w.heap.size w W
  lt : w.heap.size + 1 < W.heap.size
  c : W.cell? ⟨w.heap.size, 0, none⟩ = some v ∧ W.cell? ⟨w.heap.size, 1, none⟩ = some u ∧ W.cell? ⟨w.heap.size + 1, 0, none⟩ = some x ∧ W.cell? ⟨w.heap.size + 1, 1, none⟩ = some y
theorem StG.next {w W W' : World} {v u x y : Value} {a b c d : Nat} (h : StG w v u x y a b c d W) (hb : Below W.heap.size W W') : StG w v u x y a b c d W' := by
  have hl := h.lt
  obtain ⟨e0, e1, e2, e3⟩ := h.c
  exact ⟨h.n1.below hb, h.n2.below hb, h.n3.below hb, h.n4.below hb, h.bel.trans (hb.mono h.bel.size), Nat.lt_of_lt_of_le hl hb.size,
    (hb.cell (p := ⟨w.heap.size, 0, none⟩) (by show w.heap.size < _; omega)).trans e0, (hb.cell (p := ⟨w.heap.size, 1, none⟩) (by show w.heap.size < _; omega)).trans e1, (hb.cell (p := ⟨w.heap.size + 1, 0, none⟩) hl).trans e2, (hb.cell (p := ⟨w.heap.size + 1, 1, none⟩) hl).trans e3⟩
theorem StG.start {w : World} {v u x y : Value} {a b c d : Nat} (hv : R w v a) (hu : R w u b) (hx : R w x c) (hy : R w y d) : StG w v u x y a b c d ((w.alloc (.cells #[v, u] 35)).alloc (.cells #[x, y] 35)) := by
  have b2 : Below w.heap.size w ((w.alloc (.cells #[v, u] 35)).alloc (.cells #[x, y] 35)) := ((Below.refl _ _).alloc (Nat.le_refl _) _).alloc (by simp) _
  exact ⟨hv.below b2, hu.below b2, hx.below b2, hy.below b2, b2, by simp, (World.cell?_alloc_past _ _ _ (by simp)).trans (World.cell?_alloc_at _ _ _ _ rfl), (World.cell?_alloc_past _ _ _ (by simp)).trans (World.cell?_alloc_at _ _ _ _ rfl), World.cell?_alloc_at _ _ _ _ (by simp), World.cell?_alloc_at _ _ _ _ (by simp)⟩
/-- and a box for the result behind them -/
structure StGr (w : World) (v u x y : Value) (a b c d : Nat) (W : World) : Prop where
  g : StG w v u x y a b c d W
  lt : w.heap.size + 1 + 1 < W.heap.size
  r0 : ∃ o l k, W.cell? ⟨w.heap.size + 1 + 1, 0, none⟩ = some (.slice o l k)
  r1 : ∃ o l k, W.cell? ⟨w.heap.size + 1 + 1, 1, none⟩ = some (.slice o l k)
  z0 : W.frozen? ⟨w.heap.size + 1 + 1, 0, none⟩ = false
  z1 : W.frozen? ⟨w.heap.size + 1 + 1, 1, none⟩ = false
theorem StGr.next {w W W' : World} {v u x y : Value} {a b c d : Nat} (h : StGr w v u x y a b c d W) (hb : Below W.heap.size W W') : StGr w v u x y a b c d W' := by
  obtain ⟨o0, l0, k0, e0⟩ := h.r0
  obtain ⟨o1, l1, k1, e1⟩ := h.r1
  exact ⟨h.g.next hb, Nat.lt_of_lt_of_le h.lt hb.size, ⟨o0, l0, k0, (hb.cell (p := ⟨w.heap.size + 1 + 1, 0, none⟩) h.lt).trans e0⟩, ⟨o1, l1, k1, (hb.cell (p := ⟨w.heap.size + 1 + 1, 1, none⟩) h.lt).trans e1⟩,
    (hb.frozen (p := ⟨w.heap.size + 1 + 1, 0, none⟩) h.lt).trans h.z0, (hb.frozen (p := ⟨w.heap.size + 1 + 1, 1, none⟩) h.lt).trans h.z1⟩
theorem StGr.start {w : World} {v u x y : Value} {a b c d : Nat} (hv : R w v a) (hu : R w u b) (hx : R w x c) (hy : R w y d) : StGr w v u x y a b c d (((w.alloc (.cells #[v, u] 35)).alloc (.cells #[x, y] 35)).alloc (.cells #[.slice none 0 0, .slice none 0 0] 35)) :=
  ⟨(StG.start hv hu hx hy).next ((Below.refl _ _).alloc (Nat.le_refl _) _), by simp, ⟨none, 0, 0, World.cell?_alloc_at _ _ _ _ (by simp)⟩, ⟨none, 0, 0, World.cell?_alloc_at _ _ _ _ (by simp)⟩, World.frozen?_alloc_at _ _ _ _ (by simp), World.frozen?_alloc_at _ _ _ _ (by simp)⟩
/-- what the store of the result leaves -/
theorem StGr.done {w W : World} {v u x y : Value} {a b c d P Q : Nat} (h : StGr w v u x y a b c d W) {ro so : Option Addr} {rl rc sl sc : Nat} (hr : R W (.slice ro rl rc) P ∧ R W (.slice so sl sc) Q) :
    let W2 := (W.setCell ⟨w.heap.size + 1 + 1, 0, none⟩ (.slice ro rl rc)).setCell ⟨w.heap.size + 1 + 1, 1, none⟩ (.slice so sl sc)
    R W2 (.slice ro rl rc) P ∧ R W2 (.slice so sl sc) Q ∧ W2.cell? ⟨w.heap.size + 1 + 1, 0, none⟩ = some (.slice ro rl rc) ∧ W2.cell? ⟨w.heap.size + 1 + 1, 1, none⟩ = some (.slice so sl sc) ∧ Below w.heap.size w W2 := by
  obtain ⟨o0, l0, k0, d0⟩ := h.r0
  obtain ⟨o1, l1, k1, d1⟩ := h.r1
  obtain ⟨t0, t1⟩ := read_two d0 d1 (.slice ro rl rc) (.slice so sl sc)
  exact ⟨IsN_setTwo hr.1 d0 d1 (by intro d h; cases h) (by intro d h; cases h) _ _, IsN_setTwo hr.2 d0 d1 (by intro d h; cases h) (by intro d h; cases h) _ _, t0, t1, (h.g.bel.setCell (by show w.heap.size ≤ w.heap.size + 1 + 1; omega) _).setCell (by show w.heap.size ≤ w.heap.size + 1 + 1; omega) _⟩
theorem StGr.set {w W : World} {v u x y : Value} {a b c d : Nat} (h : StGr w v u x y a b c d W) (ro so : Option Addr) (rl rc sl sc : Nat) :
    StGr w v u x y a b c d ((W.setCell ⟨w.heap.size + 1 + 1, 0, none⟩ (.slice ro rl rc)).setCell ⟨w.heap.size + 1 + 1, 1, none⟩ (.slice so sl sc)) := by
  obtain ⟨o0, l0, k0, d0⟩ := h.r0
  obtain ⟨o1, l1, k1, d1⟩ := h.r1
  obtain ⟨t0, t1⟩ := read_two d0 d1 (.slice ro rl rc) (.slice so sl sc)
  have hk : ∀ {z : Value} {n : Nat}, R W z n → R ((W.setCell ⟨w.heap.size + 1 + 1, 0, none⟩ (.slice ro rl rc)).setCell ⟨w.heap.size + 1 + 1, 1, none⟩ (.slice so sl sc)) z n := fun hz => IsN_setTwo hz d0 d1 (by intro d e; cases e) (by intro d e; cases e) _ _
  have far : ∀ j o, j < w.heap.size + 1 + 1 → ((W.setCell ⟨w.heap.size + 1 + 1, 0, none⟩ (.slice ro rl rc)).setCell ⟨w.heap.size + 1 + 1, 1, none⟩ (.slice so sl sc)).cell? ⟨j, o, none⟩ = W.cell? ⟨j, o, none⟩ := fun j o hj => by
    rw [World.cell?_setCell_far _ _ _ _ (by show w.heap.size + 1 + 1 ≠ j; omega), World.cell?_setCell_far _ _ _ _ (by show w.heap.size + 1 + 1 ≠ j; omega)]
  obtain ⟨e0, e1, e2, e3⟩ := h.g.c
  refine ⟨⟨hk h.g.n1, hk h.g.n2, hk h.g.n3, hk h.g.n4, (h.g.bel.setCell (by show w.heap.size ≤ w.heap.size + 1 + 1; omega) _).setCell (by show w.heap.size ≤ w.heap.size + 1 + 1; omega) _, by rw [World.size_setCell, World.size_setCell]; exact h.g.lt, (far _ _ (by omega)).trans e0, (far _ _ (by omega)).trans e1, (far _ _ (by omega)).trans e2, (far _ _ (by omega)).trans e3⟩, by rw [World.size_setCell, World.size_setCell]; exact h.lt, ⟨_, _, _, t0⟩, ⟨_, _, _, t1⟩, ?_, ?_⟩
  · have := h.z0; simpa using this
  · have := h.z1; simpa using this
set_option maxHeartbeats 4000000 in
set_option maxRecDepth 100000 in
theorem RFCmp_any (v u x y : Value) (a b c d : Nat) (w : World) (hv : R w v a) (hu : R w u b) (hx : R w x c) (hy : R w y d) (_hb0 : 0 < b) (_hd0 : 0 < d) (ha : nd 65536 a ≤ 200) (hb : nd 65536 b ≤ 200) (hc : nd 65536 c ≤ 200) (hd : nd 65536 d ≤ 200) :
    Calls Tryz.prog 49 #[.agg #[v, u], .agg #[x, y]] w fun e w' => e = .returned (.int .i64 (cmpN ((a * d : Nat) : Int) ((c * b : Nat) : Int))) ∧ Below w.heap.size w w' := by
  have hst0 := StG.start hv hu hx hy
  obtain ⟨W0, hW0⟩ : ∃ W0 : World, W0 = (w.alloc (.cells #[v, u] 35)).alloc (.cells #[x, y] 35) := ⟨_, rfl⟩
  rw [← hW0] at hst0
  have g0 := nd_rmul ha hd
  have HM0 : Hid (∀ W, StG w v u x y a b c d W → Calls Tryz.prog 21 #[v, y] W fun e w' => ∃ o l k, e = .returned (.slice o l k) ∧ R w' (.slice o l k) (a * d) ∧ Below W.heap.size W w' ∧ StG w v u x y a b c d w') := fun W h =>
    (RMul_any _ _ _ _ W h.n1 h.n4 (by omega) (by omega)).mono fun e w' ⟨r, he, hr, hB⟩ => by
      obtain ⟨ro, rc, rfl, -⟩ := hr.shape
      exact ⟨ro, _, rc, he, hr, hB, h.next hB⟩
  have g1 := nd_rmul hc hb
  have HM1 : Hid (∀ W, StG w v u x y a b c d W → Calls Tryz.prog 21 #[x, u] W fun e w' => ∃ o l k, e = .returned (.slice o l k) ∧ R w' (.slice o l k) (c * b) ∧ Below W.heap.size W w' ∧ StG w v u x y a b c d w') := fun W h =>
    (RMul_any _ _ _ _ W h.n3 h.n2 (by omega) (by omega)).mono fun e w' ⟨r, he, hr, hB⟩ => by
      obtain ⟨ro, rc, rfl, -⟩ := hr.shape
      exact ⟨ro, _, rc, he, hr, hB, h.next hB⟩
  have HCM : Hid (∀ W p q, StG w v u x y a b c d W → R W p (a * d) → R W q (c * b) → Calls Tryz.prog 37 #[p, q] W fun e w' => e = .returned (.int .i64 (cmpN ((a * d : Nat) : Int) ((c * b : Nat) : Int))) ∧ StG w v u x y a b c d w') := fun W p q h hp hq =>
    (RCmp_any p q _ _ W hp hq (by omega) (by omega)).mono fun e w' ⟨he, k, hw⟩ => ⟨he, by rw [hw]; exact h.next (below_drewN (Below.refl _ _) k)⟩
  have HCC : Hid (∀ W, StG w v u x y a b c d W → W.cell? ⟨w.heap.size, 0, none⟩ = some v ∧ W.cell? ⟨w.heap.size, 1, none⟩ = some u ∧ W.cell? ⟨w.heap.size + 1, 0, none⟩ = some x ∧ W.cell? ⟨w.heap.size + 1, 1, none⟩ = some y) := fun W h => h.c
  obtain ⟨ao, ac, rfl, -⟩ := hv.shape
  obtain ⟨bo, bc, rfl, -⟩ := hu.shape
  obtain ⟨co, cc, rfl, -⟩ := hx.shape
  obtain ⟨eo, ec, rfl, -⟩ := hy.shape
  have hs2 := hst0.next ((Below.refl _ _).drew)
  have hc0 := HCC.out _ hst0
  have hc2 := HCC.out _ hs2
  have HW0 := Lib.hid hW0
  clear hv hu hx hy hW0 _hb0 _hd0 ha hb hc hd g0 g1
  generalize cmpN ((a * d : Nat) : Int) ((c * b : Nat) : Int) = kk at *
  generalize a * d = N0 at *
  generalize c * b = N1 at *
  generalize nd 65536 a = la at *
  generalize nd 65536 b = lb at *
  generalize nd 65536 c = lc at *
  generalize nd 65536 d = ld at *
  go_enter Tryz.func49, Tryz.ntmps49
  go_wp2_with fail
  rw [← HW0.out]
  go_region_held3 (fun W : World => (W.cell? ⟨w.heap.size, 0, none⟩ = some (.slice ao la ac) ∧ W.cell? ⟨w.heap.size, 1, none⟩ = some (.slice bo lb bc) ∧ W.cell? ⟨w.heap.size + 1, 0, none⟩ = some (.slice co lc cc) ∧ W.cell? ⟨w.heap.size + 1, 1, none⟩ = some (.slice eo ld ec)) ∧ StG w (.slice ao la ac) (.slice bo lb bc) (.slice co lc cc) (.slice eo ld ec) a b c d W) (first | (refine And.intro ?_ ?_ <;> assumption)) (first
    | (go_at_call 21; with_reducible refine (HM0.out _ ?h).mono ?_; (case h => assumption); rintro e w' ⟨o1, l1, k1, rfl, hr', hB', hs'⟩; have hc' := HCC.out _ hs')
    | (go_at_call 21; with_reducible refine (HM1.out _ ?h).mono ?_; (case h => assumption); rintro e w' ⟨o1, l1, k1, rfl, hr', hB', hs'⟩; have hc' := HCC.out _ hs')
    | (go_at_call 37; with_reducible refine (HCM.out _ _ _ ?h ?r ?r2).mono ?_; (case h => assumption); (case r => first | assumption | exact rchain (by assumption) (by assumption) | exact rchain (by assumption) (rchain (by assumption) (by assumption)) | exact rchain (by assumption) (rchain (by assumption) (rchain (by assumption) (by assumption)))); (case r2 => first | assumption | exact rchain (by assumption) (by assumption) | exact rchain (by assumption) (rchain (by assumption) (by assumption)) | exact rchain (by assumption) (rchain (by assumption) (rchain (by assumption) (by assumption)))); rintro e w' ⟨rfl, hs'⟩; have hc' := HCC.out _ hs'))
  all_goals
    have hT : StG w (.slice ao la ac) (.slice bo lb bc) (.slice co lc cc) (.slice eo ld ec) a b c d w' := by assumption
    have HBE := Lib.hid hT.bel
    clear hT
    go_wp2
    go_ret
    exact ⟨rfl, HBE.out⟩
end Go.Proofs.YteieedfigoihpaaGreatDoor
namespace Go.Proofs.YteieedfigoihpaaGreatDoor
open Go Go.RowKit Gu

theorem num_any (x : Nat) (w : World) (hx : x ≤ 9223372036854775807) :
    Calls Tryz.prog 74 #[.int .i64 x] w fun e w' => ∃ r, e = .returned r ∧ R w' r x ∧ Below w.heap.size w w' := by
  have HO := Lib.hid (Of_any x w hx)
  clear hx
  go_enter Tryz.func74, Tryz.ntmps74
  go_wp2_with fail
  refine HO.out.mono ?_
  rintro e w1 ⟨r, rfl, hr, hb⟩
  obtain ⟨ro, rc, rfl, -⟩ := hr.shape
  have HR := Lib.hid hr; have HB := Lib.hid hb
  clear hr hb
  go_wp2_with fail
  go_ret
  exact ⟨_, rfl, HR.out, HB.out⟩
theorem n20 {x : Nat} (h : x ≤ 1000000) : nd 65536 x ≤ 2 := pow_nd16 (a := 20) (Nat.lt_of_le_of_lt h (by decide)) (by decide)
theorem Risk_any (x : Nat) (w : World) (hx : x ≤ 1000000) :
    Calls Tryz.prog 50 #[.int .i64 x] w fun e w' => ∃ r s, e = .returned (.agg #[r, s]) ∧ R w' r (lowP x 1000000) ∧ R w' s (lowQ x 1000000) ∧ Below w.heap.size w w' := by
  obtain ⟨ml, hml⟩ : ∃ ml : Nat, ml = 1000000 := ⟨_, rfl⟩
  have hmi : (1000000 : Int) = (ml : Int) := by rw [hml]; rfl
  obtain ⟨w1, HW1⟩ : ∃ w1, w1 = w.alloc (.cells #[.slice none 0 0, .slice none 0 0] 35) := ⟨_, rfl⟩
  have hz : Bxs w.heap.size [.slice none 0 0, .slice none 0 0] w1 := by rw [HW1]; exact Bxs.new2 _ _ _ _
  have hbw : Below w.heap.size w w1 := by rw [HW1]; exact alloc1_below _ _
  have HZ := Lib.hid hz; have HBW := Lib.hid hbw; have HW1' := Lib.hid HW1
  have HO := Lib.hid (num_any x w1 (by omega))
  have HM : Hid (∀ W, Calls Tryz.prog 74 #[.int .i64 1000000] W fun e w' => ∃ r, e = .returned r ∧ R w' r ml ∧ Below W.heap.size W w') := fun W => by rw [hmi]; exact num_any ml W (by omega)
  have HL : Hid (∀ W u v, R W u x → R W v ml → Calls Tryz.prog 23 #[u, v] W fun e w' => ∃ r s, e = .returned (.agg #[r, s]) ∧ R w' r (lowP x ml) ∧ R w' s (lowQ x ml) ∧ Below W.heap.size W w') := fun W u v h1 h2 => RLow_any u v x ml W h1 h2 (by omega) (Nat.le_trans (n20 hx) (by decide)) (Nat.le_trans (n20 (by omega)) (by decide))
  rw [← hml]
  clear hmi hml hx hz hbw HW1
  go_enter Tryz.func50, Tryz.ntmps50
  go_wp2_with fail
  rw [← HW1'.out]
  refine HO.out.mono ?_
  rintro e w2 ⟨u, rfl, hu, hb⟩
  obtain ⟨uo, uc, rfl, -⟩ := hu.shape
  have HU := Lib.hid hu; have HB := Lib.hid hb
  clear hu hb HO
  go_wp2_with fail
  refine (HM.out _).mono ?_
  rintro e w3 ⟨v, rfl, hv, hb⟩
  obtain ⟨vo, vc, rfl, -⟩ := hv.shape
  have HL2 := Lib.hid (HL.out _ _ _ (HU.out.below hb) hv)
  have HB2 := Lib.hid (HB.out.trans (hb.mono HB.out.size))
  clear hv hb HL HM HU HB
  go_wp2_with fail
  refine HL2.out.mono ?_
  rintro e w4 ⟨r, s, rfl, hr, hs, hb⟩
  obtain ⟨ro, rc2, rfl, -⟩ := hr.shape
  obtain ⟨so, sc2, rfl, -⟩ := hs.shape
  have hb3 := HB2.out.trans (hb.mono HB2.out.size)
  have hz := HZ.out.next hb3
  have d0' := hz.c0; have d1 := hz.c1; have g0 := hz.f0; have g1 := hz.f1
  obtain ⟨t0, t1⟩ := read_two d0' d1 (.slice ro (nd 65536 (lowP x ml)) rc2) (.slice so (nd 65536 (lowQ x ml)) sc2)
  have hX := IsN_setTwo hr d0' d1 (by intro d h; cases h) (by intro d h; cases h) (.slice ro (nd 65536 (lowP x ml)) rc2) (.slice so (nd 65536 (lowQ x ml)) sc2)
  have hY := IsN_setTwo hs d0' d1 (by intro d h; cases h) (by intro d h; cases h) (.slice ro (nd 65536 (lowP x ml)) rc2) (.slice so (nd 65536 (lowQ x ml)) sc2)
  have hBE := ((HBW.out.trans (hb3.mono HBW.out.size)).setCell (p := ⟨w.heap.size, 0, none⟩) (Nat.le_refl _) (.slice ro (nd 65536 (lowP x ml)) rc2)).setCell (p := ⟨w.heap.size, 1, none⟩) (Nat.le_refl _) (.slice so (nd 65536 (lowQ x ml)) sc2)
  generalize nd 65536 (lowP x ml) = lr at *
  generalize nd 65536 (lowQ x ml) = ls at *
  have HF := Lib.hid (show R _ _ _ ∧ R _ _ _ ∧ Below _ _ _ from ⟨hX, hY, hBE⟩)
  have T0 := Lib.hid t0; have T1 := Lib.hid t1
  clear hr hs hb hX hY hBE t0 t1 hz hb3
  go_wp2
  have t0 := T0.out; have t1 := T1.out
  refine bodyPost_ret (v := .agg #[.slice ro lr rc2, .slice so ls sc2]) (by simp [results, Tryz.results50, go_sem, t0, t1]) rfl ⟨_, _, rfl, HF.out⟩
theorem low60 {L M : Nat} (h1 : L ≤ 2 ^ 60) (h2 : M ≤ 2 ^ 60) : nd 65536 (lowP L M) ≤ 200 ∧ nd 65536 (lowQ L M) ≤ 200 :=
  ⟨Nat.le_trans (n60 (Nat.le_trans (lowP_le _ _) h1)) (by decide), Nat.le_trans (n60 (Nat.le_trans (lowQ_le _ _) h2)) (by decide)⟩
theorem RCmp_low {v u x y : Value} {L M L' M' : Nat} {W : World} (hv : R W v (lowP L M)) (hu : R W u (lowQ L M)) (hx : R W x (lowP L' M')) (hy : R W y (lowQ L' M')) (hM : 0 < M) (hM' : 0 < M') (h1 : L ≤ 2 ^ 60) (h2 : M ≤ 2 ^ 60) (h3 : L' ≤ 2 ^ 60) (h4 : M' ≤ 2 ^ 60) :
    Calls Tryz.prog 49 #[.agg #[v, u], .agg #[x, y]] W fun e w' => e = .returned (.int .i64 (cmpN ((L * M' : Nat) : Int) ((L' * M : Nat) : Int))) ∧ Below W.heap.size W w' := by
  have := RFCmp_any v u x y _ _ _ _ W hv hu hx hy (lowQ_pos hM) (lowQ_pos hM') (low60 h1 h2).1 (low60 h1 h2).2 (low60 h3 h4).1 (low60 h3 h4).2
  rw [cmp_low hM hM'] at this
  exact this
set_option maxRecDepth 100000 in
set_option maxHeartbeats 4000000 in
theorem Keeps_any {b1 g1 b2 g2 n c al be : Nat} {W : World} (hs : b1 + g1 = b2 + g2) (hl : b2 + g2 ≤ 60) (hn : n ≤ b2 + g2) (hc : c ≤ 1000) (hal : al ≤ 1000000) (hbe : be ≤ 1000000) (r : Bool) (hr : r = true ↔ KeepA b1 g1 n (1000000 - al) c ∧ KeepC b2 g2 n be c) :
    Calls Tryz.prog 28 #[.int .i64 ((b2 + g2 : Nat) : Int), .int .i64 b1, .int .i64 b2, .int .i64 al, .int .i64 be, .int .i64 n, .int .i64 c] W fun e w' => e = .returned (.bool r) ∧ Hid (Below W.heap.size W w') := by
  have HA1 : Hid (∀ W', Calls Tryz.prog 10 #[.int .i64 ((b2 + g2 : Nat) : Int), .int .i64 b1, .int .i64 n, .int .i64 c] W' fun e w' => ∃ r s, e = .returned (.agg #[r, s]) ∧ R w' r (lowP (accS b1 g1 n c) (pascalN (b1 + g1) n)) ∧ R w' s (lowQ (accS b1 g1 n c) (pascalN (b1 + g1) n)) ∧ Below W'.heap.size W' w') := fun W' => by
    have := RAccept_any (b := b1) (g := g1) (n := n) (c := (c : Int)) (w := W') (by omega) (by omega) (by omega)
    rw [show ((b1 + g1 : Nat) : Int) = ((b2 + g2 : Nat) : Int) by rw [hs]] at this
    exact this
  have HA2 : Hid (∀ W', Calls Tryz.prog 10 #[.int .i64 ((b2 + g2 : Nat) : Int), .int .i64 b2, .int .i64 n, .int .i64 c] W' fun e w' => ∃ r s, e = .returned (.agg #[r, s]) ∧ R w' r (lowP (accS b2 g2 n c) (pascalN (b2 + g2) n)) ∧ R w' s (lowQ (accS b2 g2 n c) (pascalN (b2 + g2) n)) ∧ Below W'.heap.size W' w') := fun W' => RAccept_any hl hn (by omega)
  have p2 : pascalN (b1 + g1) n ≤ 2 ^ 60 := Nat.le_trans (pascalN_le _ _) (Nat.pow_le_pow_right (by decide) (by omega))
  have p4 : pascalN (b2 + g2) n ≤ 2 ^ 60 := Nat.le_trans (pascalN_le _ _) (Nat.pow_le_pow_right (by decide) hl)
  have p1 : accS b1 g1 n c ≤ 2 ^ 60 := Nat.le_trans (accS_le _ _ _ _) p2
  have p3 : accS b2 g2 n c ≤ 2 ^ 60 := Nat.le_trans (accS_le _ _ _ _) p4
  have z1 : 0 < pascalN (b1 + g1) n := pascalN_pos (by omega)
  have z2 : 0 < pascalN (b2 + g2) n := pascalN_pos hn
  obtain ⟨L1, hL1⟩ : ∃ x, x = accS b1 g1 n c := ⟨_, rfl⟩
  obtain ⟨L2, hL2⟩ : ∃ x, x = accS b2 g2 n c := ⟨_, rfl⟩
  obtain ⟨M1, hM1⟩ : ∃ x, x = pascalN (b1 + g1) n := ⟨_, rfl⟩
  obtain ⟨M2, hM2⟩ : ∃ x, x = pascalN (b2 + g2) n := ⟨_, rfl⟩
  unfold KeepA KeepC at hr
  rw [← hL1, ← hM1] at HA1 hr
  rw [← hL2, ← hM2] at HA2 hr
  rw [← hL1] at p1
  rw [← hM1] at p2 z1
  rw [← hL2] at p3
  rw [← hM2] at p4 z2
  obtain ⟨ma, hma⟩ : ∃ ma : Nat, ma = 1000000 - al := ⟨_, rfl⟩
  rw [← hma] at hr
  have hma2 : ma ≤ 1000000 := by rw [hma]; exact Nat.sub_le _ _
  have hw : IntKind.i64.wrap (1000000 - (al : Int)) = (ma : Int) := by rw [IntWalk.i64_in _ (by omega), hma, Int.ofNat_sub hal]; rfl
  have e6 : (1000000 : Nat) ≤ 2 ^ 60 := by decide
  obtain ⟨R1, hR1⟩ : ∃ R, R = cmpN ((L1 * 1000000 : Nat) : Int) ((ma * M1 : Nat) : Int) := ⟨_, rfl⟩
  obtain ⟨R2, hR2⟩ : ∃ R, R = cmpN ((L2 * 1000000 : Nat) : Int) ((be * M2 : Nat) : Int) := ⟨_, rfl⟩
  have HK1 : Hid (∀ W', Calls Tryz.prog 50 #[.int .i64 ma] W' fun e w' => ∃ r s, e = .returned (.agg #[r, s]) ∧ R w' r (lowP ma 1000000) ∧ R w' s (lowQ ma 1000000) ∧ Below W'.heap.size W' w') := fun W' => Risk_any ma W' hma2
  have HK2 : Hid (∀ W', Calls Tryz.prog 50 #[.int .i64 be] W' fun e w' => ∃ r s, e = .returned (.agg #[r, s]) ∧ R w' r (lowP be 1000000) ∧ R w' s (lowQ be 1000000) ∧ Below W'.heap.size W' w') := fun W' => Risk_any be W' hbe
  have HC1 : Hid (∀ W' v u x y, R W' v (lowP L1 M1) → R W' u (lowQ L1 M1) → R W' x (lowP ma 1000000) → R W' y (lowQ ma 1000000) → Calls Tryz.prog 49 #[.agg #[v, u], .agg #[x, y]] W' fun e w' => e = .returned (.int .i64 R1) ∧ Below W'.heap.size W' w') := fun W' v u x y a1 a2 a3 a4 => by
    rw [hR1]; exact RCmp_low a1 a2 a3 a4 z1 (by decide) p1 p2 (Nat.le_trans hma2 e6) e6
  have HC2 : Hid (∀ W' v u x y, R W' v (lowP L2 M2) → R W' u (lowQ L2 M2) → R W' x (lowP be 1000000) → R W' y (lowQ be 1000000) → Calls Tryz.prog 49 #[.agg #[v, u], .agg #[x, y]] W' fun e w' => e = .returned (.int .i64 R2) ∧ Below W'.heap.size W' w') := fun W' v u x y a1 a2 a3 a4 => by
    rw [hR2]; exact RCmp_low a1 a2 a3 a4 z2 (by decide) p3 p4 (Nat.le_trans hbe e6) e6
  have e1 : R1 ≥ 0 ↔ M1 * ma ≤ L1 * 1000000 := by
    rw [hR1, Nat.mul_comm ma M1]
    unfold cmpN
    split
    · constructor
      · intro h; omega
      · intro h; omega
    · constructor
      · intro _; omega
      · intro _; split <;> omega
  have e2 : R2 ≤ 0 ↔ L2 * 1000000 ≤ M2 * be := by
    rw [hR2, Nat.mul_comm be M2]
    exact cmp_le
  rw [← e1, ← e2] at hr
  have HR := Lib.hid hr
  obtain ⟨lt, hlt⟩ : ∃ lt : Nat, lt = b2 + g2 := ⟨_, rfl⟩
  rw [← hlt] at HA1 HA2 ⊢
  clear e1 e2 e6 hR1 hR2 hma hma2 p1 p2 p3 p4 z1 z2 hL1 hL2 hM1 hM2 hs hl hn hc hal hbe hlt hr
  go_enter Tryz.func28, Tryz.ntmps28
  go_wp2_with fail
  refine (HA1.out _).mono ?_
  rintro e w1 ⟨u, v, rfl, hu, hv, hb⟩
  obtain ⟨uo, uc, rfl, -⟩ := hu.shape
  obtain ⟨vo, vc, rfl, -⟩ := hv.shape
  have HU := Lib.hid hu; have HV := Lib.hid hv; have HB := Lib.hid hb
  clear hu hv hb HA1
  go_wp2_with fail
  refine (HK1.out _).mono ?_
  rintro e w2 ⟨x, y, rfl, hx, hy, hb⟩
  obtain ⟨xo, xc, rfl, -⟩ := hx.shape
  obtain ⟨yo, yc, rfl, -⟩ := hy.shape
  have HC := Lib.hid (HC1.out _ _ _ _ _ (HU.out.below hb) (HV.out.below hb) hx hy)
  have HB2 := Lib.hid (HB.out.trans (hb.mono HB.out.size))
  clear hx hy hb HU HV HB HK1 HC1
  go_wp2_with fail
  refine HC.out.mono ?_
  rintro e w3 ⟨rfl, hb⟩
  have HB3 := Lib.hid (HB2.out.trans (hb.mono HB2.out.size))
  clear hb HB2 HC
  by_cases q1 : R1 ≥ 0
  case neg =>
    have HE : Hid (r = false) := by
      show _ = _
      have := HR.out
      cases r with
      | false => rfl
      | true => exact absurd (this.1 rfl).1 q1
    have d1 : decide (R1 ≥ 0) = false := decide_eq_false q1
    clear HA2 HK2 HC2 HR
    go_wp2_with fail
    go_ret
    exact ⟨by rw [HE.out]; rfl, HB3.out⟩
  have HE : Hid (r = decide (R2 ≤ 0)) := by
    show _ = _
    have := HR.out
    by_cases q2 : R2 ≤ 0
    · rw [decide_eq_true q2]; exact this.2 ⟨q1, q2⟩
    · rw [decide_eq_false q2]
      cases r with
      | false => rfl
      | true => exact absurd (this.1 rfl).2 q2
  have d1 : decide (R1 ≥ 0) = true := decide_eq_true q1
  clear HR
  go_wp2_with fail
  refine (HA2.out _).mono ?_
  rintro e w4 ⟨u2, v2, rfl, hu, hv, hb⟩
  obtain ⟨u2o, u2c, rfl, -⟩ := hu.shape
  obtain ⟨v2o, v2c, rfl, -⟩ := hv.shape
  have HU := Lib.hid hu; have HV := Lib.hid hv; have HB := Lib.hid (HB3.out.trans (hb.mono HB3.out.size))
  clear hu hv hb HA2 HB3
  go_wp2_with fail
  refine (HK2.out _).mono ?_
  rintro e w5 ⟨x2, y2, rfl, hx, hy, hb⟩
  obtain ⟨x2o, x2c, rfl, -⟩ := hx.shape
  obtain ⟨y2o, y2c, rfl, -⟩ := hy.shape
  have HC := Lib.hid (HC2.out _ _ _ _ _ (HU.out.below hb) (HV.out.below hb) hx hy)
  have HB2 := Lib.hid (HB.out.trans (hb.mono HB.out.size))
  clear hx hy hb HU HV HB HK2 HC2
  go_wp2_with fail
  refine HC.out.mono ?_
  rintro e w6 ⟨rfl, hb⟩
  have HB3 := Lib.hid (HB2.out.trans (hb.mono HB2.out.size))
  clear hb HB2 HC
  go_wp2_with fail
  go_ret
  exact ⟨by rw [HE.out]; first | rfl | simp, HB3.out⟩
set_option maxRecDepth 100000 in
set_option maxHeartbeats 4000000 in
theorem RPlan_any {b1 g1 b2 g2 al be N C : Nat} {W : World} (hs : b1 + g1 = b2 + g2) (hl : b2 + g2 ≤ 60) (hal : al ≤ 1000000) (hbe : be ≤ 1000000) (hN : N ≤ b2 + g2) (h1 : LeastC b1 g1 N (1000000 - al) C) (h2 : KeepB b2 g2 N be C) (h3 : ∀ m, m < N → ∀ d, LeastC b1 g1 m (1000000 - al) d → ¬ KeepB b2 g2 m be d) :
    Calls Tryz.prog 13 #[.int .i64 ((b2 + g2 : Nat) : Int), .int .i64 b1, .int .i64 b2, .int .i64 al, .int .i64 be] W fun e w' => e = .returned (.tuple #[.int .i64 N, .int .i64 C]) ∧ Below W.heap.size W w' := by
  have hC : C ≤ N := h1.1
  have HY : Hid (∀ W', Calls Tryz.prog 28 #[.int .i64 ((b2 + g2 : Nat) : Int), .int .i64 b1, .int .i64 b2, .int .i64 al, .int .i64 be, .int .i64 N, .int .i64 C] W' fun e w' => e = .returned (.bool true) ∧ Hid (Below W'.heap.size W' w')) := fun W' => Keeps_any hs hl hN (by omega) hal hbe true ⟨fun _ => plan_keeps h1 h2, fun _ => rfl⟩
  have HX : Hid (∀ W' (k j : Nat), k ≤ b2 + g2 → j ≤ k → (k < N ∨ k = N ∧ j < C) → Calls Tryz.prog 28 #[.int .i64 ((b2 + g2 : Nat) : Int), .int .i64 b1, .int .i64 b2, .int .i64 al, .int .i64 be, .int .i64 k, .int .i64 j] W' fun e w' => e = .returned (.bool false) ∧ Hid (Below W'.heap.size W' w')) := fun W' k j hk hj hkj => Keeps_any hs hl hk (by omega) hal hbe false ⟨fun h => absurd h Bool.false_ne_true, fun h => absurd h (plan_smaller h1 h3 hkj)⟩
  obtain ⟨lt, hlt⟩ : ∃ lt : Nat, lt = b2 + g2 := ⟨_, rfl⟩
  rw [← hlt] at HY HX hl hN ⊢
  clear hlt hs h1 h2 h3 hal hbe
  go_enter Tryz.func13, Tryz.ntmps13
  go_wp2

  go_loopw [12] (fun t wr => ∃ i : Nat, i ≤ N ∧ t = .int .i64 i ∧ Below W.heap.size W wr) (fun t _ => N + 1 - (intOf t).toNat)
  case atStart => exact ⟨0, Nat.zero_le _, rfl, Below.refl _ _⟩
  case round =>
    obtain ⟨i, hi, rfl, hrel⟩ := hrel
    have HR := Lib.hid hrel
    clear hrel
    obtain ⟨wo, rfl⟩ : ∃ wo : World, wo = wr := ⟨_, rfl⟩
    have hil : (i : Int) ≤ lt := by omega
    have d1 : decide ((i : Int) ≤ lt) = true := decide_eq_true hil
    go_wp2

    go_loopw [13] (fun t wr => ∃ j : Nat, j ≤ i + 1 ∧ (i = N → j ≤ C) ∧ t = .int .i64 j ∧ Below W.heap.size W wr) (fun t _ => i + 1 - (intOf t).toNat)
    case atStart => exact ⟨0, Nat.zero_le _, fun _ => Nat.zero_le _, rfl, HR.out⟩
    case round =>
      obtain ⟨j, hj, hjC, rfl, hrel⟩ := hrel
      have HR2 := Lib.hid hrel
      have HJ := Lib.hid hjC
      clear hrel hjC
      by_cases q : (j : Int) ≤ i
      · have d2 : decide ((j : Int) ≤ i) = true := decide_eq_true q
        by_cases hkj : i < N ∨ i = N ∧ j < C
        · have HK := Lib.hid (fun W' => HX.out W' i j (by omega) (by omega) hkj)
          have HKJ := Lib.hid hkj
          clear hkj
          go_wp2_with fail
          refine (HK.out _).mono ?_
          rintro e w2 ⟨rfl, hb⟩
          have HB := Lib.hid (HR2.out.trans (hb.out.mono HR2.out.size))
          clear hb
          go_wp2
          go_roundw
          case rel => exact ⟨j + 1, by omega, fun e => by have := HKJ.out; omega, by go_num, HB.out⟩
          case measure => simp [intOf]; omega
        · have hij : i = N ∧ j = C := by have := HJ.out; omega
          obtain ⟨e1, e2⟩ := hij
          subst e1
          subst e2
          clear hkj HJ
          go_wp2_with fail
          refine (HY.out _).mono ?_
          rintro e w2 ⟨rfl, hb⟩
          have HB := Lib.hid (HR2.out.trans (hb.out.mono HR2.out.size))
          clear hb
          go_wp2
          refine bodyPost_ret (v := .tuple #[.int .i64 i, .int .i64 j]) (by simp [results, Tryz.results13, go_sem]) rfl ?_
          exact ⟨rfl, HB.out⟩
      · have d2 : decide ((j : Int) ≤ i) = false := decide_eq_false q
        have HIN : Hid (i < N) := by
          show _ < _
          have := HJ.out
          omega
        clear HJ
        go_wp2
        go_roundw
        case rel => exact ⟨i + 1, HIN.out, by go_num, HR2.out⟩
        case measure => have := HIN.out; simp [intOf]; omega
end Go.Proofs.YteieedfigoihpaaGreatDoor
namespace Go.Proofs.YteieedfigoihpaaGreatDoor
open Go Go.RowKit Gu

set_option maxHeartbeats 4000000 in
theorem Plan_bad {lot good bad al be : Int} (h : ¬ PlannedP lot good bad al be) : Hid (∀ W, Calls Tryz.prog 11 #[.int .i64 lot, .int .i64 good, .int .i64 bad, .int .i64 al, .int .i64 be] W fun e w' => e = .returned (.tuple #[.int .i64 0, .int .i64 0, .int .i64 2]) ∧ W = w') := fun W => by
  have fin : ∀ (a1 : 1 ≤ lot ∧ lot ≤ 256) (a3 : ¬ good < 0) (a4 : ¬ good ≥ bad) (a5 : ¬ bad > lot) (a6 : 0 ≤ al ∧ al ≤ 1000000) (a7 : 0 ≤ be ∧ be ≤ 1000000), False := fun a1 a3 a4 a5 a6 a7 => h ⟨a1, ⟨by omega, by omega, by omega⟩, a6, a7⟩
  have HF := Lib.hid fin
  have HI := Lib.hid (fun W => isFrom_any 1 lot 256 W)
  have HA := Lib.hid (fun W => isRisk_any al W)
  have HB := Lib.hid (fun W => isRisk_any be W)
  clear h fin
  by_cases h1 : 1 ≤ lot ∧ lot ≤ 256
  case neg =>
    rw [decide_eq_false h1] at HI
    clear h1 HF HA HB
    go_enter Tryz.func11, Tryz.ntmps11
    go_wp2_with fail
    refine (HI.out _).mono ?_
    rintro e w' ⟨rfl, rfl⟩
    go_wp2_with fail
    refine bodyPost_ret (v := .tuple #[.int .i64 0, .int .i64 0, .int .i64 2]) (by simp [results, Tryz.results11, go_sem]) rfl ?_
    exact ⟨rfl, rfl⟩
  rw [decide_eq_true h1] at HI
  by_cases h3 : good < 0
  case pos =>
    clear h1 HF HA HB
    go_enter Tryz.func11, Tryz.ntmps11
    go_wp2_with fail
    refine (HI.out _).mono ?_
    rintro e w' ⟨rfl, rfl⟩
    go_wp2_with fail
    refine bodyPost_ret (v := .tuple #[.int .i64 0, .int .i64 0, .int .i64 2]) (by simp [results, Tryz.results11, go_sem]) rfl ?_
    exact ⟨rfl, rfl⟩
  by_cases h4 : good ≥ bad
  case pos =>
    clear h1 HF HA HB
    go_enter Tryz.func11, Tryz.ntmps11
    go_wp2_with fail
    refine (HI.out _).mono ?_
    rintro e w' ⟨rfl, rfl⟩
    go_wp2_with fail
    refine bodyPost_ret (v := .tuple #[.int .i64 0, .int .i64 0, .int .i64 2]) (by simp [results, Tryz.results11, go_sem]) rfl ?_
    exact ⟨rfl, rfl⟩
  by_cases h5 : bad > lot
  case pos =>
    clear h1 HF HA HB
    go_enter Tryz.func11, Tryz.ntmps11
    go_wp2_with fail
    refine (HI.out _).mono ?_
    rintro e w' ⟨rfl, rfl⟩
    go_wp2_with fail
    refine bodyPost_ret (v := .tuple #[.int .i64 0, .int .i64 0, .int .i64 2]) (by simp [results, Tryz.results11, go_sem]) rfl ?_
    exact ⟨rfl, rfl⟩
  by_cases h6 : 0 ≤ al ∧ al ≤ 1000000
  case neg =>
    rw [decide_eq_false h6] at HA
    clear h1 h6 HF HB
    go_enter Tryz.func11, Tryz.ntmps11
    go_wp2_with fail
    refine (HI.out _).mono ?_
    rintro e w' ⟨rfl, rfl⟩
    go_wp2_with fail
    refine (HA.out _).mono ?_
    rintro e w' ⟨rfl, rfl⟩
    go_wp2_with fail
    refine bodyPost_ret (v := .tuple #[.int .i64 0, .int .i64 0, .int .i64 2]) (by simp [results, Tryz.results11, go_sem]) rfl ?_
    exact ⟨rfl, rfl⟩
  have h7 : ¬ (0 ≤ be ∧ be ≤ 1000000) := fun h7 => HF.out h1 h3 h4 h5 h6 h7
  rw [decide_eq_true h6] at HA
  rw [decide_eq_false h7] at HB
  clear h1 h6 h7 HF
  go_enter Tryz.func11, Tryz.ntmps11
  go_wp2_with fail
  refine (HI.out _).mono ?_
  rintro e w' ⟨rfl, rfl⟩
  go_wp2_with fail
  refine (HA.out _).mono ?_
  rintro e w' ⟨rfl, rfl⟩
  go_wp2_with fail
  refine (HB.out _).mono ?_
  rintro e w' ⟨rfl, rfl⟩
  go_wp2_with fail
  refine bodyPost_ret (v := .tuple #[.int .i64 0, .int .i64 0, .int .i64 2]) (by simp [results, Tryz.results11, go_sem]) rfl ?_
  exact ⟨rfl, rfl⟩
set_option maxRecDepth 100000 in
set_option maxHeartbeats 8000000 in
theorem samplePlans_law {lot good bad al be : Int} {W : World} (_h0 : -9223372036854775808 ≤ lot ∧ lot ≤ 9223372036854775807) (_h1 : -9223372036854775808 ≤ good ∧ good ≤ 9223372036854775807) (_h2 : -9223372036854775808 ≤ bad ∧ bad ≤ 9223372036854775807) (_h3 : -9223372036854775808 ≤ al ∧ al ≤ 9223372036854775807) (_h4 : -9223372036854775808 ≤ be ∧ be ≤ 9223372036854775807) (he : Env W) :
    Calls Tryz.prog 4 #[.int .i64 lot, .int .i64 good, .int .i64 bad, .int .i64 al, .int .i64 be] W fun e w' => e = .returned (.bool true) ∧ Below W.heap.size W w' := by
  have HAW : Hid (∀ W', Below W.heap.size W W' → Calls Tryz.prog 5 #[] W' fun e w' => e = .returned (.bool true) ∧ Hid (Below W'.heap.size W' w')) := fun W' h => sawake_any W' (he.below h)
  clear he _h0 _h1 _h2 _h3 _h4
  by_cases hskip : lot > 10 ∧ lot ≤ 256
  case pos =>
    obtain ⟨s1, s2⟩ := hskip
    go_enter Tryz.func4, Tryz.ntmps4
    go_wp2_with fail
    refine (HAW.out _ (Below.refl _ _)).mono ?_
    rintro e w' ⟨rfl, hb⟩
    go_wp2_with fail
    go_ret
    exact ⟨rfl, hb.out⟩
  by_cases hpl : PlannedP lot good bad al be
  case neg =>
    have HG := Planned_no hpl
    have HPB := Plan_bad hpl
    clear hpl
    by_cases s1 : lot > 10
    case pos =>
      have s2 : ¬ lot ≤ 256 := fun s2 => hskip ⟨s1, s2⟩
      clear hskip
      go_enter Tryz.func4, Tryz.ntmps4
      go_wp2_with fail
      refine (HPB.out _).mono ?_
      rintro e w' ⟨rfl, rfl⟩
      go_wp2_with fail
      refine (HG.out _).mono ?_
      rintro e w' ⟨rfl, rfl⟩
      go_wp2_with fail
      refine (HAW.out _ (Below.refl _ _)).mono ?_
      rintro e w' ⟨rfl, hb⟩
      go_wp2_with fail
      go_ret
      exact ⟨rfl, hb.out⟩
    case neg =>
      clear hskip
      go_enter Tryz.func4, Tryz.ntmps4
      go_wp2_with fail
      refine (HPB.out _).mono ?_
      rintro e w' ⟨rfl, rfl⟩
      go_wp2_with fail
      refine (HG.out _).mono ?_
      rintro e w' ⟨rfl, rfl⟩
      go_wp2_with fail
      refine (HAW.out _ (Below.refl _ _)).mono ?_
      rintro e w' ⟨rfl, hb⟩
      go_wp2_with fail
      go_ret
      exact ⟨rfl, hb.out⟩
  have HG := Planned_yes hpl
  obtain ⟨⟨h1, h2⟩, ⟨h3, h4, h5⟩, ⟨h6, h7⟩, h8, h9⟩ := hpl
  have s1 : ¬ lot > 10 := fun s1 => hskip ⟨s1, h2⟩
  clear hskip
  obtain ⟨b1, rfl⟩ : ∃ b : Nat, good = (b : Int) := ⟨good.toNat, by omega⟩
  obtain ⟨b2, rfl⟩ : ∃ b : Nat, bad = (b : Int) := ⟨bad.toNat, by omega⟩
  obtain ⟨g2, rfl⟩ : ∃ g : Nat, lot = ((b2 + g : Nat) : Int) := ⟨lot.toNat - b2, by omega⟩
  obtain ⟨a1, rfl⟩ : ∃ b : Nat, al = (b : Int) := ⟨al.toNat, by omega⟩
  obtain ⟨a2, rfl⟩ : ∃ b : Nat, be = (b : Int) := ⟨be.toNat, by omega⟩
  obtain ⟨g1, hg1⟩ : ∃ g : Nat, b1 + g = b2 + g2 := ⟨b2 + g2 - b1, by omega⟩
  have HP : Hid (∀ W', Calls Tryz.prog 11 #[.int .i64 ((b2 + g2 : Nat) : Int), .int .i64 b1, .int .i64 b2, .int .i64 a1, .int .i64 a2] W' fun e w' => ∃ n c : Nat, e = .returned (.tuple #[.int .i64 n, .int .i64 c, .int .i64 0]) ∧
      n ≤ b2 + g2 ∧ LeastC b1 g1 n (1000000 - a1) c ∧ KeepB b2 g2 n a2 c ∧ (∀ m, m < n → ∀ d, LeastC b1 g1 m (1000000 - a1) d → ¬ KeepB b2 g2 m a2 d) ∧ Below W'.heap.size W' w') := fun W' => Plan_any hg1 (by omega) (by omega) (by omega) (by omega)
  have HRP : Hid (∀ W' (N C : Nat), N ≤ b2 + g2 → LeastC b1 g1 N (1000000 - a1) C → KeepB b2 g2 N a2 C → (∀ m, m < N → ∀ d, LeastC b1 g1 m (1000000 - a1) d → ¬ KeepB b2 g2 m a2 d) → Calls Tryz.prog 13 #[.int .i64 ((b2 + g2 : Nat) : Int), .int .i64 b1, .int .i64 b2, .int .i64 a1, .int .i64 a2] W' fun e w' => e = .returned (.tuple #[.int .i64 N, .int .i64 C]) ∧ Below W'.heap.size W' w') := fun W' N C q1 q2 q3 q4 => RPlan_any hg1 (by omega) (by omega) (by omega) q1 q2 q3 q4
  obtain ⟨lt, hlt⟩ : ∃ x : Nat, x = b2 + g2 := ⟨_, rfl⟩
  rw [← hlt] at HG HP HRP s1 ⊢
  clear h1 h2 h3 h4 h5 h6 h7 h8 h9 hg1 hlt
  go_enter Tryz.func4, Tryz.ntmps4
  go_wp2_with fail
  refine (HP.out _).mono ?_
  rintro e w1 ⟨n, c, rfl, hn, h1, h2, h3, hb⟩
  have HB := Lib.hid hb
  have HR := Lib.hid (fun W' => HRP.out W' n c hn h1 h2 h3)
  clear hb h1 h2 h3 hn HRP HP
  go_wp2_with fail
  refine (HG.out _).mono ?_
  rintro e w' ⟨rfl, rfl⟩
  go_wp2_with fail
  refine (HR.out _).mono ?_
  rintro e w2 ⟨rfl, hb⟩
  have HB2 := Lib.hid (HB.out.trans (hb.mono HB.out.size))
  clear hb HB HR
  go_wp2_with fail
  refine (HAW.out _ HB2.out).mono ?_
  rintro e w' ⟨rfl, hb⟩
  go_wp2_with fail
  go_ret
  exact ⟨rfl, HB2.out.trans (hb.out.mono HB2.out.size)⟩
end Go.Proofs.YteieedfigoihpaaGreatDoor
