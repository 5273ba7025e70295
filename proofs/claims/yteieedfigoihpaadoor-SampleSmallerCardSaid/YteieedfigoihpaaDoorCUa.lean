/- The law SampleSmaller: a plan keeps both risks, and no smaller one does. -/
import Derived.OrdersHeld
import Derived.Test.YteieedfigoihpaaDoorTSm3
namespace Go.Proofs.YteieedfigoihpaaDoor
open Go Go.RowKit Gu

/-- both risks are kept, by the probabilities of acceptance -/
def KeepA (b g n m c : Nat) : Prop := pascalN (b + g) n * m ≤ accS b g n c * 1000000
def KeepC (b g n be c : Nat) : Prop := accS b g n c * 1000000 ≤ pascalN (b + g) n * be
theorem accS_nat (b g n c : Nat) : accS b g n (c : Int) = hsum b g n 0 (c + 1) := by unfold accS; rw [show ((c : Int) + 1).toNat = c + 1 by omega]
theorem least_exists (b g n m : Nat) : ∃ c, LeastC b g n m c := by
  have h : ∀ k, k ≤ n → (∃ c, c ≤ k ∧ LeastC b g n m c) ∨ ∀ j, j < k → hsum b g n 0 (j + 1) * 1000000 < pascalN (b + g) n * m := by
    intro k
    induction k with
    | zero => exact fun _ => .inr fun j hj => absurd hj (Nat.not_lt_zero _)
    | succ k ih =>
      intro hk
      rcases ih (by omega) with ⟨c, h1, h2⟩ | h
      · exact .inl ⟨c, by omega, h2⟩
      · by_cases hx : hsum b g n 0 (k + 1) * 1000000 < pascalN (b + g) n * m
        · exact .inr fun j hj => by
            rcases Nat.eq_or_lt_of_le (Nat.le_of_lt_succ hj) with e | e
            · rw [e]; exact hx
            · exact h j e
        · exact .inl ⟨k, by omega, by omega, h, fun _ => by omega⟩
  rcases h n (Nat.le_refl _) with ⟨c, _, h2⟩ | h2
  · exact ⟨c, h2⟩
  · exact ⟨n, Nat.le_refl _, h2, fun h => absurd h (Nat.lt_irrefl _)⟩
theorem plan_keeps {b1 g1 b2 g2 n c al be : Nat} (h1 : LeastC b1 g1 n (1000000 - al) c) (h2 : KeepB b2 g2 n be c) : KeepA b1 g1 n (1000000 - al) c ∧ KeepC b2 g2 n be c := by
  refine ⟨?_, ?_⟩
  · unfold KeepA
    rw [accS_nat]
    rcases Nat.eq_or_lt_of_le h1.1 with e | e
    · rw [e, hsum_all]; exact Nat.mul_le_mul_left _ (Nat.sub_le _ _)
    · exact h1.2.2 e
  · unfold KeepC
    rw [accS_nat]; exact h2
theorem plan_smaller {b1 g1 b2 g2 n c m d al be : Nat} (h1 : LeastC b1 g1 n (1000000 - al) c) (h3 : ∀ m, m < n → ∀ d, LeastC b1 g1 m (1000000 - al) d → ¬ KeepB b2 g2 m be d) (hmd : m < n ∨ m = n ∧ d < c) : ¬ (KeepA b1 g1 m (1000000 - al) d ∧ KeepC b2 g2 m be d) := by
  rintro ⟨k1, k2⟩
  unfold KeepA at k1
  unfold KeepC at k2
  rw [accS_nat] at k1 k2
  rcases hmd with h | ⟨rfl, h⟩
  · obtain ⟨e, he⟩ := least_exists b1 g1 m (1000000 - al)
    have hn := h3 m h e he
    unfold KeepB at hn
    have hde : e ≤ d := Nat.le_of_not_lt fun hx => by
      have := he.2.1 d hx
      omega
    have := hsum_mono (b := b2) (g := g2) (n := m) (a := 0) (show e + 1 ≤ d + 1 by omega)
    have := Nat.mul_le_mul_right 1000000 this
    omega
  · have := h1.2.1 d h
    omega
theorem million_le : (1000000 : Nat) ≤ 2 ^ 100 := by decide
theorem acc100 {b g n : Nat} (c : Int) (h : b + g ≤ 60) : accS b g n c ≤ 2 ^ 100 ∧ pascalN (b + g) n ≤ 2 ^ 100 := by
  have h1 : pascalN (b + g) n ≤ 2 ^ 100 := Nat.le_trans (pascalN_le _ _) (Nat.pow_le_pow_right (by decide) (by omega))
  exact ⟨Nat.le_trans (accS_le _ _ _ _) h1, h1⟩
/-- what each operation yields -/
def TE (w0 : World) (go ho : Option Addr) (gl gc hl hc ap ma : Nat) : Nat → (Nat → Value) → World → Prop
  | 0, x, _ => x 0 = .int .i64 0
  | 1, x, _ => x 1 = .bool true
  | 2, x, _ => x 2 = .bool true
  | 3, x, _ => x 3 = .int .i64 0
  | 4, x, _ => x 4 = .bool true
  | 5, x, _ => x 5 = .bool true
  | 6, x, _ => x 6 = .bool true
  | 7, x, _ => x 7 = .agg #[.slice go gl gc, .slice ho hl hc]
  | 8, x, _ => x 8 = .int .i64 (ap : Int)
  | 9, x, _ => x 9 = .int .i64 (ma : Int)
  | 10, x, w => ∃ ao ai ac bo bl bc, x 10 = .agg #[.slice ao ai ac, .slice bo bl bc] ∧ D w (.slice ao ai ac) (lowP ma 1000000) ∧ D w (.slice bo bl bc) (lowQ ma 1000000)
  | 11, x, _ => x 11 = .int .i64 (-1)
  | 12, x, _ => x 12 = .bool false
  | 13, x, _ => x 13 = .bool false
  | 14, x, _ => x 14 = .bool false
  | 15, x, _ => x 15 = undef
  | 16, x, _ => x 16 = undef
  | 17, x, _ => x 17 = undef
  | 18, x, _ => x 18 = undef
  | 19, x, _ => x 19 = undef
  | 20, x, _ => x 20 = .bool false
  | 21, x, _ => x 21 = .bool false
  | _ + 22, _, _ => True
def TEkill : Nat → Option Nat
  | _ => none
theorem TE.congr {w0 : World} {go ho : Option Addr} {gl gc hl hc ap ma : Nat} {DD : Nat → List Nat}  : ∀ i x y w, (∀ j, j = i ∨ j ∈ DD i → x j = y j) → TE w0 go ho gl gc hl hc ap ma i x w → TE w0 go ho gl gc hl hc ap ma i y w
  | 0, x, y, w, h, t => by have e := h 0 (.inl rfl); simp only [TE] at t ⊢; rw [← e]; exact t
  | 1, x, y, w, h, t => by have e := h 1 (.inl rfl); simp only [TE] at t ⊢; rw [← e]; exact t
  | 2, x, y, w, h, t => by have e := h 2 (.inl rfl); simp only [TE] at t ⊢; rw [← e]; exact t
  | 3, x, y, w, h, t => by have e := h 3 (.inl rfl); simp only [TE] at t ⊢; rw [← e]; exact t
  | 4, x, y, w, h, t => by have e := h 4 (.inl rfl); simp only [TE] at t ⊢; rw [← e]; exact t
  | 5, x, y, w, h, t => by have e := h 5 (.inl rfl); simp only [TE] at t ⊢; rw [← e]; exact t
  | 6, x, y, w, h, t => by have e := h 6 (.inl rfl); simp only [TE] at t ⊢; rw [← e]; exact t
  | 7, x, y, w, h, t => by have e := h 7 (.inl rfl); simp only [TE] at t ⊢; rw [← e]; exact t
  | 8, x, y, w, h, t => by have e := h 8 (.inl rfl); simp only [TE] at t ⊢; rw [← e]; exact t
  | 9, x, y, w, h, t => by have e := h 9 (.inl rfl); simp only [TE] at t ⊢; rw [← e]; exact t
  | 10, x, y, w, h, t => by have e := h 10 (.inl rfl); simp only [TE] at t ⊢; rw [← e]; exact t
  | 11, x, y, w, h, t => by have e := h 11 (.inl rfl); simp only [TE] at t ⊢; rw [← e]; exact t
  | 12, x, y, w, h, t => by have e := h 12 (.inl rfl); simp only [TE] at t ⊢; rw [← e]; exact t
  | 13, x, y, w, h, t => by have e := h 13 (.inl rfl); simp only [TE] at t ⊢; rw [← e]; exact t
  | 14, x, y, w, h, t => by have e := h 14 (.inl rfl); simp only [TE] at t ⊢; rw [← e]; exact t
  | 15, x, y, w, h, t => by have e := h 15 (.inl rfl); simp only [TE] at t ⊢; rw [← e]; exact t
  | 16, x, y, w, h, t => by have e := h 16 (.inl rfl); simp only [TE] at t ⊢; rw [← e]; exact t
  | 17, x, y, w, h, t => by have e := h 17 (.inl rfl); simp only [TE] at t ⊢; rw [← e]; exact t
  | 18, x, y, w, h, t => by have e := h 18 (.inl rfl); simp only [TE] at t ⊢; rw [← e]; exact t
  | 19, x, y, w, h, t => by have e := h 19 (.inl rfl); simp only [TE] at t ⊢; rw [← e]; exact t
  | 20, x, y, w, h, t => by have e := h 20 (.inl rfl); simp only [TE] at t ⊢; rw [← e]; exact t
  | 21, x, y, w, h, t => by have e := h 21 (.inl rfl); simp only [TE] at t ⊢; rw [← e]; exact t
  | _ + 22, x, y, w, h, t => trivial
theorem TE.next {w0 : World} {go ho : Option Addr} {gl gc hl hc ap ma : Nat} {w w' : World} (hb : Below w.heap.size w w') : ∀ j y, TE w0 go ho gl gc hl hc ap ma j y w → TE w0 go ho gl gc hl hc ap ma j y w'
  | 0, y, t => t
  | 1, y, t => t
  | 2, y, t => t
  | 3, y, t => t
  | 4, y, t => t
  | 5, y, t => t
  | 6, y, t => t
  | 7, y, t => t
  | 8, y, t => t
  | 9, y, t => t
  | 10, y, t => by obtain ⟨ao, ai, ac, bo, bl, bc, e, h0, h1⟩ := t; exact ⟨ao, ai, ac, bo, bl, bc, e, h0.below hb, h1.below hb⟩
  | 11, y, t => t
  | 12, y, t => t
  | 13, y, t => t
  | 14, y, t => t
  | 15, y, t => t
  | 16, y, t => t
  | 17, y, t => t
  | 18, y, t => t
  | 19, y, t => t
  | 20, y, t => t
  | 21, y, t => t
  | _ + 22, y, t => trivial
set_option maxRecDepth 100000 in
set_option maxHeartbeats 4000000 in
theorem keeps_any {b1 g1 b2 g2 n c al be : Nat} {W : World} (hs : b1 + g1 = b2 + g2) (hl : b2 + g2 ≤ 60) (hn : n ≤ b2 + g2) (hal : al ≤ 1000000) (hbe : be ≤ 1000000) (r : Bool) (hr : r = true ↔ KeepA b1 g1 n (1000000 - al) c ∧ KeepC b2 g2 n be c) :
    Calls Tryd.prog 21 #[.int .i64 ((b2 + g2 : Nat) : Int), .int .i64 b1, .int .i64 b2, .int .i64 al, .int .i64 be, .int .i64 n, .int .i64 c] W fun e w' => e = .returned (.bool r) ∧ Hid (Below W.heap.size W w') := by
  have HA1 : Hid (∀ W', Calls Tryd.prog 13 #[.int .i64 ((b2 + g2 : Nat) : Int), .int .i64 b1, .int .i64 n, .int .i64 c] W' fun e w' => ∃ ao al ac bo bl bc, e = .returned (.tuple #[.agg #[.slice ao al ac, .slice bo bl bc], .int .i64 0]) ∧
      D w' (.slice ao al ac) (lowP (accS b1 g1 n c) (pascalN (b1 + g1) n)) ∧ D w' (.slice bo bl bc) (lowQ (accS b1 g1 n c) (pascalN (b1 + g1) n)) ∧ Below W'.heap.size W' w') := fun W' => by
    have := Accept_any (b := b1) (g := g1) (n := n) (c := (c : Int)) (W := W') (by omega) (by omega)
    rw [show ((b1 + g1 : Nat) : Int) = ((b2 + g2 : Nat) : Int) by rw [hs]] at this
    exact this
  have HA2 : Hid (∀ W', Calls Tryd.prog 13 #[.int .i64 ((b2 + g2 : Nat) : Int), .int .i64 b2, .int .i64 n, .int .i64 c] W' fun e w' => ∃ ao al ac bo bl bc, e = .returned (.tuple #[.agg #[.slice ao al ac, .slice bo bl bc], .int .i64 0]) ∧
      D w' (.slice ao al ac) (lowP (accS b2 g2 n c) (pascalN (b2 + g2) n)) ∧ D w' (.slice bo bl bc) (lowQ (accS b2 g2 n c) (pascalN (b2 + g2) n)) ∧ Below W'.heap.size W' w') := fun W' => Accept_any (by omega) hn
  obtain ⟨L1, hL1⟩ : ∃ x, x = accS b1 g1 n c := ⟨_, rfl⟩
  obtain ⟨L2, hL2⟩ : ∃ x, x = accS b2 g2 n c := ⟨_, rfl⟩
  obtain ⟨M1, hM1⟩ : ∃ x, x = pascalN (b1 + g1) n := ⟨_, rfl⟩
  obtain ⟨M2, hM2⟩ : ∃ x, x = pascalN (b2 + g2) n := ⟨_, rfl⟩
  obtain ⟨p1, p2⟩ := acc100 (b := b1) (g := g1) (n := n) (c : Int) (by omega)
  obtain ⟨p3, p4⟩ := acc100 (b := b2) (g := g2) (n := n) (c : Int) hl
  have z1 : 0 < M1 := by rw [hM1]; exact pascalN_pos (by omega)
  have z2 : 0 < M2 := by rw [hM2]; exact pascalN_pos hn
  unfold KeepA KeepC at hr
  rw [← hL1, ← hM1] at HA1 hr
  rw [← hL2, ← hM2] at HA2 hr
  rw [← hL1] at p1
  rw [← hM1] at p2
  rw [← hL2] at p3
  rw [← hM2] at p4
  obtain ⟨ma, hma⟩ : ∃ ma : Nat, ma = 1000000 - al := ⟨_, rfl⟩
  rw [← hma] at hr
  have hw : IntKind.i64.wrap (1000000 - (al : Int)) = (ma : Int) := by rw [IntWalk.i64_in _ (by omega), hma, Int.ofNat_sub hal]; rfl
  have HRA : Hid (∀ W' (x : Nat), x ≤ 1000000 → Calls Tryd.prog 14 #[.int .i64 x, .int .i64 1000000] W' fun e w' => ∃ ao al ac bo bl bc, e = .returned (.agg #[.slice ao al ac, .slice bo bl bc]) ∧ D w' (.slice ao al ac) (lowP x 1000000) ∧ D w' (.slice bo bl bc) (lowQ x 1000000) ∧ Below W'.heap.size W' w') := fun W' x hx => ratio_any (b := 1000000) (by omega) (by decide) (by decide)
  obtain ⟨R1, hR1⟩ : ∃ R, R = cmpN ((L1 * 1000000 : Nat) : Int) ((ma * M1 : Nat) : Int) := ⟨_, rfl⟩
  obtain ⟨R2, hR2⟩ : ∃ R, R = cmpN ((L2 * 1000000 : Nat) : Int) ((be * M2 : Nat) : Int) := ⟨_, rfl⟩
  have HC1 : Hid (∀ W' v u x y, D W' v (lowP L1 M1) → D W' u (lowQ L1 M1) → D W' x (lowP ma 1000000) → D W' y (lowQ ma 1000000) → Calls Tryd.prog 17 #[.agg #[v, u], .agg #[x, y]] W' fun e w' => e = .returned (.int .i64 R1) ∧ Below W'.heap.size W' w') := fun W' v u x y a1 a2 a3 a4 => by
    rw [hR1]; exact FCmp_low a1 a2 a3 a4 z1 (by decide) p1 p2 (Nat.le_trans (show ma ≤ 1000000 by omega) million_le) million_le (by decide)
  have HC2 : Hid (∀ W' v u x y, D W' v (lowP L2 M2) → D W' u (lowQ L2 M2) → D W' x (lowP be 1000000) → D W' y (lowQ be 1000000) → Calls Tryd.prog 17 #[.agg #[v, u], .agg #[x, y]] W' fun e w' => e = .returned (.int .i64 R2) ∧ Below W'.heap.size W' w') := fun W' v u x y a1 a2 a3 a4 => by
    rw [hR2]; exact FCmp_low a1 a2 a3 a4 z2 (by decide) p3 p4 (Nat.le_trans hbe million_le) million_le (by decide)
  have e1 : R1 ≥ 0 ↔ M1 * ma ≤ L1 * 1000000 := by
    rw [hR1, Nat.mul_comm ma M1]
    unfold cmpN
    split
    · constructor
      · intro h; omega
      · intro h; omega
    · constructor
      · intro _; omega
      · intro _; split <;> omega
  have e2 : R2 ≤ 0 ↔ L2 * 1000000 ≤ M2 * be := by
    rw [hR2, Nat.mul_comm be M2]
    unfold cmpN
    split
    · constructor
      · intro h; omega
      · intro h; omega
    · split
      · constructor
        · intro h; omega
        · intro h; omega
      · constructor
        · intro _; omega
        · intro _; omega
  rw [← e1, ← e2] at hr
  have HR := Lib.hid hr
  have HV1 : Hid (¬ R1 ≥ 0 → R1 = -1) := fun h => by
    rw [hR1] at h ⊢
    unfold cmpN at h ⊢
    split at h
    · rename_i h2; rw [if_pos h2]
    · split at h <;> omega
  have hma2 : ma ≤ 1000000 := by rw [hma]; exact Nat.sub_le _ _
  obtain ⟨lt, hlt⟩ : ∃ lt : Nat, lt = b2 + g2 := ⟨_, rfl⟩
  rw [← hlt] at HA1 HA2 ⊢
  clear e1 e2 hR1 hR2 hma p1 p2 p3 p4 z1 z2 hL1 hL2 hM1 hM2 hs hl hn hal hlt hr
  go_enter Tryd.func21, Tryd.ntmps21
  go_wp2_with fail
  refine (HA1.out _).mono ?_
  rintro e v1 ⟨ao, aj, ac, bo, bl, bc, rfl, hp, hq, hb⟩
  obtain ⟨v2, HW2⟩ : ∃ w2, w2 = v1.alloc (.cells #[.slice ao aj ac, .slice bo bl bc] 34) := ⟨_, rfl⟩
  have HX := Lib.hid (show FB v1.heap.size (.slice ao aj ac) (.slice bo bl bc) L1 M1 v2 by rw [HW2]; exact FB.new hp hq _)
  have b2 : Below v1.heap.size v1 v2 := by rw [HW2]; exact alloc1_below _ _
  have HB := Lib.hid (hb.trans (b2.mono hb.size)); have HW' := Lib.hid HW2
  clear hp hq hb b2 HW2
  go_upto_region 2 with fail
  rw [← HW'.out]
  go_wp2_with fail
  refine (HA2.out _).mono ?_
  rintro e v3 ⟨co, cl, cc, do2, dl, dc, rfl, hp, hq, hb⟩
  obtain ⟨v4, HW4⟩ : ∃ w4, w4 = v3.alloc (.cells #[.slice co cl cc, .slice do2 dl dc] 34) := ⟨_, rfl⟩
  have HY := Lib.hid (show FB v3.heap.size (.slice co cl cc) (.slice do2 dl dc) L2 M2 v4 by rw [HW4]; exact FB.new hp hq _)
  have b4 : Below v3.heap.size v3 v4 := by rw [HW4]; exact alloc1_below _ _
  have b24 := hb.trans (b4.mono hb.size)
  have HX4 := Lib.hid (HX.out.next b24)
  have HB4 := Lib.hid (HB.out.trans (b24.mono HB.out.size)); have HW4' := Lib.hid HW4
  clear hp hq hb b4 b24 HW4 HX HB HW' HA1 HA2
  have HCE : Hid (∀ W', Kw v4 W' → (W'.cell? ⟨v1.heap.size, 0, none⟩ = some (.slice ao aj ac) ∧ W'.cell? ⟨v1.heap.size, 1, none⟩ = some (.slice bo bl bc)) ∧ W'.cell? ⟨v3.heap.size, 0, none⟩ = some (.slice co cl cc) ∧ W'.cell? ⟨v3.heap.size, 1, none⟩ = some (.slice do2 dl dc)) := fun W' h => ⟨⟨(HX4.out.box.next h).c0, (HX4.out.box.next h).c1⟩, (HY.out.box.next h).c0, (HY.out.box.next h).c1⟩
  have HR1 : Hid (∀ W', Kw v4 W' → Calls Tryd.prog 14 #[.int .i64 ma, .int .i64 1000000] W' fun e w' => ∃ ao al ac bo bl bc, e = .returned (.agg #[.slice ao al ac, .slice bo bl bc]) ∧ Hid (D w' (.slice ao al ac) (lowP ma 1000000) ∧ D w' (.slice bo bl bc) (lowQ ma 1000000)) ∧ Kw v4 w') := fun W' h =>
    (HRA.out W' ma hma2).mono fun e w' ⟨a1, a2, a3, a4, a5, a6, h1, h2, h3, h4⟩ => ⟨a1, a2, a3, a4, a5, a6, h1, ⟨h2, h3⟩, Kw.next h h4⟩
  have HR2 : Hid (∀ W', Kw v4 W' → Calls Tryd.prog 14 #[.int .i64 be, .int .i64 1000000] W' fun e w' => ∃ ao al ac bo bl bc, e = .returned (.agg #[.slice ao al ac, .slice bo bl bc]) ∧ Hid (D w' (.slice ao al ac) (lowP be 1000000) ∧ D w' (.slice bo bl bc) (lowQ be 1000000)) ∧ Kw v4 w') := fun W' h =>
    (HRA.out W' be hbe).mono fun e w' ⟨a1, a2, a3, a4, a5, a6, h1, h2, h3, h4⟩ => ⟨a1, a2, a3, a4, a5, a6, h1, ⟨h2, h3⟩, Kw.next h h4⟩
  have HD1 : Hid (∀ W' x y, Kw v4 W' → (D W' x (lowP ma 1000000) ∧ D W' y (lowQ ma 1000000)) → Calls Tryd.prog 17 #[.agg #[.slice ao aj ac, .slice bo bl bc], .agg #[x, y]] W' fun e w' => e = .returned (.int .i64 R1) ∧ Kw v4 w') := fun W' x y h hd =>
    (HC1.out W' _ _ _ _ (HX4.out.num.below h) (HX4.out.den.below h) hd.1 hd.2).mono fun e w' ⟨h1, h2⟩ => ⟨h1, Kw.next h h2⟩
  have HD2 : Hid (∀ W' x y, Kw v4 W' → (D W' x (lowP be 1000000) ∧ D W' y (lowQ be 1000000)) → Calls Tryd.prog 17 #[.agg #[.slice co cl cc, .slice do2 dl dc], .agg #[x, y]] W' fun e w' => e = .returned (.int .i64 R2) ∧ Kw v4 w') := fun W' x y h hd =>
    (HC2.out W' _ _ _ _ (HY.out.num.below h) (HY.out.den.below h) hd.1 hd.2).mono fun e w' ⟨h1, h2⟩ => ⟨h1, Kw.next h h2⟩
  go_upto_region 3 with fail
  rw [← HW4'.out]
  have hs : Kw v4 v4 := Below.refl _ _
  have hs2 : Kw v4 v4.drew := Below.drew hs
  have hc0 := HCE.out _ hs
  have hc1 := HCE.out _ hs2
  clear HC2 HW4'
  by_cases q1 : R1 ≥ 0
  · clear HRA HC1 HX4 HY
    have q1' : decide (R1 ≥ 0) = true := decide_eq_true q1
    have HE : Hid (r = decide (R2 ≤ 0)) := by
      show _ = _
      have := HR.out
      by_cases q2 : R2 ≤ 0
      · rw [decide_eq_true q2]; exact this.2 ⟨q1, q2⟩
      · rw [decide_eq_false q2]
        cases r with
        | false => rfl
        | true => exact absurd (this.1 rfl).2 q2
    go_region_held3 (fun W' : World => ((W'.cell? ⟨v1.heap.size, 0, none⟩ = some (.slice ao aj ac) ∧ W'.cell? ⟨v1.heap.size, 1, none⟩ = some (.slice bo bl bc)) ∧ W'.cell? ⟨v3.heap.size, 0, none⟩ = some (.slice co cl cc) ∧ W'.cell? ⟨v3.heap.size, 1, none⟩ = some (.slice do2 dl dc)) ∧ Kw v4 W') (first | (refine And.intro ?_ ?_ <;> assumption) | fail) (first | (go_at_call 14; with_reducible refine (HR1.out _ ?h).mono ?_; (case h => assumption); rintro e w' ⟨eo, el, ec, fo, fl, fc, rfl, hd1, hs3⟩; have hc3 := HCE.out _ hs3) | (go_at_call 17; with_reducible refine (HD1.out _ _ _ ?h ?h2).mono ?_; (case h => assumption); (case h2 => exact hd1.out); rintro e w' ⟨rfl, hs4⟩; have hc4 := HCE.out _ hs4) | (go_at_call 14; with_reducible refine (HR2.out _ ?h).mono ?_; (case h => assumption); rintro e w' ⟨go, gl, gc, ho, hl, hc, rfl, hd2, hs5⟩; have hc5 := HCE.out _ hs5) | (go_at_call 17; with_reducible refine (HD2.out _ _ _ ?h ?h2).mono ?_; (case h => assumption); (case h2 => exact hd2.out); rintro e w' ⟨rfl, hs6⟩; have hc6 := HCE.out _ hs6) | fail)
    all_goals
      have HS := Lib.hid hs6
      clear hs6 hc6
      go_wp2_with fail
      go_ret
      exact ⟨by rw [HE.out]; first | rfl | simp, HB4.out.trans (Below.mono HS.out HB4.out.size)⟩
  · have HE : Hid (r = false) := by
      show _ = _
      have := HR.out
      cases r with
      | false => rfl
      | true => exact absurd (this.1 rfl).1 q1
    have hm1 := HV1.out (by omega)
    subst hm1
    clear q1 HR HV1 HR1 HR2 HD1 HD2 hs hs2 hc0 hc1
    have HWR := Lib.hid hw
    refine region_own v4 22 (fun x => ⟨#[.int .i64 (lt : Int), .int .i64 (b1 : Int), .int .i64 (b2 : Int), .int .i64 (al : Int), .int .i64 (be : Int), .int .i64 (n : Int), .int .i64 (c : Int), undef, undef, undef, undef, undef, undef, undef, x 21, .pointer (some ⟨v1.heap.size, 0, none⟩), .int .i64 0, .pointer (some ⟨v3.heap.size, 0, none⟩), .int .i64 0, .tuple #[.agg #[.slice ao aj ac, .slice bo bl bc], .int .i64 0], .int .i64 (lt : Int), .int .i64 (b1 : Int), .int .i64 (n : Int), .int .i64 (c : Int), .tuple #[.agg #[.slice ao aj ac, .slice bo bl bc], .int .i64 0], .agg #[.slice ao aj ac, .slice bo bl bc], .int .i64 0, .tuple #[.agg #[.slice co cl cc, .slice do2 dl dc], .int .i64 0], .int .i64 (lt : Int), .int .i64 (b2 : Int), .int .i64 (n : Int), .int .i64 (c : Int), .tuple #[.agg #[.slice co cl cc, .slice do2 dl dc], .int .i64 0], .agg #[.slice co cl cc, .slice do2 dl dc], .int .i64 0, x 0, x 1, x 2, x 3, x 4, x 5, x 6, x 7, x 8, x 9, x 10, x 11, x 12, x 13, x 14, x 15, x 16, x 17, x 18, x 19, x 20], []⟩) (TE v4 ao bo aj ac bl bc al ma) TEkill (fun j => [undef, undef, undef, undef, undef, undef, undef, undef, undef, undef, undef, undef, undef, undef, undef, undef, undef, undef, undef, undef, undef, .bool false].getD j undef) rfl (by kernel_rfl) (of_decide_eq_true (by kernel_rfl)) (of_decide_eq_true (by kernel_rfl)) (of_decide_eq_true (by kernel_rfl)) (TE.congr ) ?_ ?_
    · intro i hi
      have hi2 : i = 0 ∨ i = 1 ∨ i = 2 ∨ i = 3 ∨ i = 4 ∨ i = 5 ∨ i = 6 ∨ i = 7 ∨ i = 8 ∨ i = 9 ∨ i = 10 ∨ i = 11 ∨ i = 12 ∨ i = 13 ∨ i = 14 ∨ i = 15 ∨ i = 16 ∨ i = 17 ∨ i = 18 ∨ i = 19 ∨ i = 20 ∨ i = 21 := by omega
      clear hi
      rcases hi2 with rfl | rfl | rfl | rfl | rfl | rfl | rfl | rfl | rfl | rfl | rfl | rfl | rfl | rfl | rfl | rfl | rfl | rfl | rfl | rfl | rfl | rfl
      · refine ⟨_, rfl, fun x w hk hd K' hK => ?_⟩
        clear hd
        go_simp
        exact hK _ w (upd_same x 0 _) hk (fun j _ _ _ _ y t => t)
      · refine ⟨_, rfl, fun x w hk hd K' hK => ?_⟩
        have e0 : x 0 = _ := (hd 0 (of_decide_eq_true (by kernel_rfl)) (.inl rfl))
        clear hd
        simp only [e0]
        go_simp
        have hK2 := hK _ w (upd_same x 1 _) hk (fun j _ _ _ _ y t => t)
        simp (config := {decide := true}) only [upd, if_true, if_false, e0] at hK2
        exact hK2
      · refine ⟨_, rfl, fun x w hk hd K' hK => ?_⟩
        have e1 : x 1 = _ := (hd 1 (of_decide_eq_true (by kernel_rfl)) (.inl rfl))
        clear hd
        simp only [e1]
        go_simp
        have hK2 := hK _ w (upd_same x 2 _) hk (fun j _ _ _ _ y t => t)
        simp (config := {decide := true}) only [upd, if_true, if_false, e1] at hK2
        exact hK2
      · refine ⟨_, rfl, fun x w hk hd K' hK => ?_⟩
        have e2 : x 2 = _ := (hd 2 (of_decide_eq_true (by kernel_rfl)) (.inl rfl))
        clear hd
        simp only [e2]
        go_simp
        have hK2 := hK _ w (upd_same x 3 _) hk (fun j _ _ _ _ y t => t)
        simp (config := {decide := true}) only [upd, if_true, if_false, e2] at hK2
        exact hK2
      · refine ⟨_, rfl, fun x w hk hd K' hK => ?_⟩
        have e3 : x 3 = _ := (hd 3 (of_decide_eq_true (by kernel_rfl)) (.inl rfl))
        have e2 : x 2 = _ := (hd 2 (of_decide_eq_true (by kernel_rfl)) (.inl rfl))
        clear hd
        simp only [e3, e2]
        go_simp
        have hK2 := hK _ w (upd_same x 4 _) hk (fun j _ _ _ _ y t => t)
        simp (config := {decide := true}) only [upd, if_true, if_false, e3, e2] at hK2
        exact hK2
      · refine ⟨_, rfl, fun x w hk hd K' hK => ?_⟩
        have e2 : x 2 = _ := (hd 2 (of_decide_eq_true (by kernel_rfl)) (.inl rfl))
        have e4 : x 4 = _ := (hd 4 (of_decide_eq_true (by kernel_rfl)) (.inl rfl))
        clear hd
        simp only [e2, e4]
        go_simp
        have hK2 := hK _ w (upd_same x 5 _) hk (fun j _ _ _ _ y t => t)
        simp (config := {decide := true}) only [upd, if_true, if_false, e2, e4] at hK2
        exact hK2
      · refine ⟨_, rfl, fun x w hk hd K' hK => ?_⟩
        have e5 : x 5 = _ := (hd 5 (of_decide_eq_true (by kernel_rfl)) (.inl rfl))
        clear hd
        simp only [e5]
        go_simp
        have hK2 := hK _ w (upd_same x 6 _) hk (fun j _ _ _ _ y t => t)
        simp (config := {decide := true}) only [upd, if_true, if_false, e5] at hK2
        exact hK2
      · refine ⟨_, rfl, fun x w hk hd K' hK => ?_⟩
        have e6 : x 6 = _ := (hd 6 (of_decide_eq_true (by kernel_rfl)) (.inl rfl))
        obtain ⟨⟨z0, z1⟩, -⟩ := HCE.out w hk
        clear hd
        simp only [e6]
        go_simp
        have hK2 := hK _ w (upd_same x 7 _) hk (fun j _ _ _ _ y t => t)
        simp (config := {decide := true}) only [upd, if_true, if_false, e6] at hK2
        exact hK2
      · refine ⟨_, rfl, fun x w hk hd K' hK => ?_⟩
        have e6 : x 6 = _ := (hd 6 (of_decide_eq_true (by kernel_rfl)) (.inl rfl))
        clear hd
        simp only [e6]
        go_simp
        have hK2 := hK _ w (upd_same x 8 _) hk (fun j _ _ _ _ y t => t)
        simp (config := {decide := true}) only [upd, if_true, if_false, e6] at hK2
        exact hK2
      · refine ⟨_, rfl, fun x w hk hd K' hK => ?_⟩
        have e8 : x 8 = _ := (hd 8 (of_decide_eq_true (by kernel_rfl)) (.inl rfl))
        have e6 : x 6 = _ := (hd 6 (of_decide_eq_true (by kernel_rfl)) (.inl rfl))
        have hw2 := HWR.out
        clear hd
        simp only [e8, e6]
        go_simp
        have hK2 := hK _ w (upd_same x 9 _) hk (fun j _ _ _ _ y t => t)
        simp (config := {decide := true}) only [upd, if_true, if_false, e8, e6] at hK2
        exact hK2
      · refine ⟨_, rfl, fun x w hk hd K' hK => ?_⟩
        have e9 : x 9 = _ := (hd 9 (of_decide_eq_true (by kernel_rfl)) (.inl rfl))
        have e6 : x 6 = _ := (hd 6 (of_decide_eq_true (by kernel_rfl)) (.inl rfl))
        have HC := Lib.hid (HRA.out w ma hma2)
        clear hd
        simp only [e9, e6]
        go_simp
        refine HC.out.mono ?_
        rintro e w' ⟨ao, ai, ac, bo, bl, bc, rfl, h, h9, hB⟩
        have hK2 := hK _ w' (⟨ao, ai, ac, bo, bl, bc, upd_same x 10 _, h, h9⟩) (hk.next hB) (fun j _ _ _ _ y t => TE.next hB j y t)
        simp (config := {decide := true}) only [upd, if_true, if_false, e9, e6] at hK2
        exact hK2
      · refine ⟨_, rfl, fun x w hk hd K' hK => ?_⟩
        have e7 : x 7 = _ := (hd 7 (of_decide_eq_true (by kernel_rfl)) (.inl rfl))
        obtain ⟨ao10, ai10, ac10, bo10, bl10, bc10, e10, h10_0, h10_1⟩ := (hd 10 (of_decide_eq_true (by kernel_rfl)) (.inl rfl))
        have e6 : x 6 = _ := (hd 6 (of_decide_eq_true (by kernel_rfl)) (.inl rfl))
        have HC := Lib.hid (HC1.out w _ _ _ _ (HX4.out.num.below hk) (HX4.out.den.below hk) h10_0 h10_1)
        clear h10_0 h10_1
        clear hd
        simp only [e7, e10, e6]
        go_simp
        refine HC.out.mono ?_
        rintro e w' ⟨rfl, hB⟩
        have hK2 := hK _ w' (upd_same x 11 _) (hk.next hB) (fun j _ _ _ _ y t => TE.next hB j y t)
        simp (config := {decide := true}) only [upd, if_true, if_false, e7, e10, e6] at hK2
        exact hK2
      · refine ⟨_, rfl, fun x w hk hd K' hK => ?_⟩
        have e11 : x 11 = _ := (hd 11 (of_decide_eq_true (by kernel_rfl)) (.inl rfl))
        have e6 : x 6 = _ := (hd 6 (of_decide_eq_true (by kernel_rfl)) (.inl rfl))
        clear hd
        simp only [e11, e6]
        go_simp
        have hK2 := hK _ w (upd_same x 12 _) hk (fun j _ _ _ _ y t => t)
        simp (config := {decide := true}) only [upd, if_true, if_false, e11, e6] at hK2
        exact hK2
      · refine ⟨_, rfl, fun x w hk hd K' hK => ?_⟩
        have e6 : x 6 = _ := (hd 6 (of_decide_eq_true (by kernel_rfl)) (.inl rfl))
        have e12 : x 12 = _ := (hd 12 (of_decide_eq_true (by kernel_rfl)) (.inl rfl))
        clear hd
        simp only [e6, e12]
        go_simp
        have hK2 := hK _ w (upd_same x 13 _) hk (fun j _ _ _ _ y t => t)
        simp (config := {decide := true}) only [upd, if_true, if_false, e6, e12] at hK2
        exact hK2
      · refine ⟨_, rfl, fun x w hk hd K' hK => ?_⟩
        have e13 : x 13 = _ := (hd 13 (of_decide_eq_true (by kernel_rfl)) (.inl rfl))
        clear hd
        simp only [e13]
        go_simp
        have hK2 := hK _ w (upd_same x 14 _) hk (fun j _ _ _ _ y t => t)
        simp (config := {decide := true}) only [upd, if_true, if_false, e13] at hK2
        exact hK2
      · refine ⟨_, rfl, fun x w hk hd K' hK => ?_⟩
        have e14 : x 14 = _ := (hd 14 (of_decide_eq_true (by kernel_rfl)) (.inl rfl))
        clear hd
        rw [if_neg (by show ¬ _ = true; simp only [e14]; exact Bool.false_ne_true)]
        have hK2 := hK undef w (upd_same x 15 _) hk (fun j _ _ _ _ y t => t)
        simp only [e14]
        simp (config := {decide := true}) only [upd, if_true, if_false, e14] at hK2
        exact hK2
      · refine ⟨_, rfl, fun x w hk hd K' hK => ?_⟩
        have e14 : x 14 = _ := (hd 14 (of_decide_eq_true (by kernel_rfl)) (.inl rfl))
        clear hd
        rw [if_neg (by show ¬ _ = true; simp only [e14]; exact Bool.false_ne_true)]
        have hK2 := hK undef w (upd_same x 16 _) hk (fun j _ _ _ _ y t => t)
        simp only [e14]
        simp (config := {decide := true}) only [upd, if_true, if_false, e14] at hK2
        exact hK2
      · refine ⟨_, rfl, fun x w hk hd K' hK => ?_⟩
        have e14 : x 14 = _ := (hd 14 (of_decide_eq_true (by kernel_rfl)) (.inl rfl))
        clear hd
        rw [if_neg (by show ¬ _ = true; simp only [e14]; exact Bool.false_ne_true)]
        have hK2 := hK undef w (upd_same x 17 _) hk (fun j _ _ _ _ y t => t)
        simp only [e14]
        simp (config := {decide := true}) only [upd, if_true, if_false, e14] at hK2
        exact hK2
      · refine ⟨_, rfl, fun x w hk hd K' hK => ?_⟩
        have e14 : x 14 = _ := (hd 14 (of_decide_eq_true (by kernel_rfl)) (.inl rfl))
        clear hd
        rw [if_neg (by show ¬ _ = true; simp only [e14]; exact Bool.false_ne_true)]
        have hK2 := hK undef w (upd_same x 18 _) hk (fun j _ _ _ _ y t => t)
        simp only [e14]
        simp (config := {decide := true}) only [upd, if_true, if_false, e14] at hK2
        exact hK2
      · refine ⟨_, rfl, fun x w hk hd K' hK => ?_⟩
        have e14 : x 14 = _ := (hd 14 (of_decide_eq_true (by kernel_rfl)) (.inl rfl))
        clear hd
        rw [if_neg (by show ¬ _ = true; simp only [e14]; exact Bool.false_ne_true)]
        have hK2 := hK undef w (upd_same x 19 _) hk (fun j _ _ _ _ y t => t)
        simp only [e14]
        simp (config := {decide := true}) only [upd, if_true, if_false, e14] at hK2
        exact hK2
      · refine ⟨_, rfl, fun x w hk hd K' hK => ?_⟩
        have e14 : x 14 = _ := (hd 14 (of_decide_eq_true (by kernel_rfl)) (.inl rfl))
        have e19 : x 19 = _ := (hd 19 (of_decide_eq_true (by kernel_rfl)) (.inl rfl))
        clear hd
        simp only [e14, e19]
        go_simp
        have hK2 := hK _ w (upd_same x 20 _) hk (fun j _ _ _ _ y t => t)
        simp (config := {decide := true}) only [upd, if_true, if_false, e14, e19] at hK2
        exact hK2
      · refine ⟨_, rfl, fun x w hk hd K' hK => ?_⟩
        have e20 : x 20 = _ := (hd 20 (of_decide_eq_true (by kernel_rfl)) (.inl rfl))
        clear hd
        simp only [e20]
        go_simp
        have hK2 := hK _ w (upd_same x 21 _) hk (fun j _ _ _ _ y t => t)
        simp (config := {decide := true}) only [upd, if_true, if_false, e20] at hK2
        exact hK2
    · intro x w listed hk hT hl
      subst hl
      have y0 : x 0 = _ := hT 0 (by decide) rfl
      have y1 : x 1 = _ := hT 1 (by decide) rfl
      have y2 : x 2 = _ := hT 2 (by decide) rfl
      have y3 : x 3 = _ := hT 3 (by decide) rfl
      have y4 : x 4 = _ := hT 4 (by decide) rfl
      have y5 : x 5 = _ := hT 5 (by decide) rfl
      have y6 : x 6 = _ := hT 6 (by decide) rfl
      have y7 : x 7 = _ := hT 7 (by decide) rfl
      have y8 : x 8 = _ := hT 8 (by decide) rfl
      have y9 : x 9 = _ := hT 9 (by decide) rfl
      have y12 : x 12 = _ := hT 12 (by decide) rfl
      have y13 : x 13 = _ := hT 13 (by decide) rfl
      have y14 : x 14 = _ := hT 14 (by decide) rfl
      have y15 : x 15 = _ := hT 15 (by decide) rfl
      have y16 : x 16 = _ := hT 16 (by decide) rfl
      have y17 : x 17 = _ := hT 17 (by decide) rfl
      have y18 : x 18 = _ := hT 18 (by decide) rfl
      have y19 : x 19 = _ := hT 19 (by decide) rfl
      have y20 : x 20 = _ := hT 20 (by decide) rfl
      have y21 : x 21 = _ := hT 21 (by decide) rfl
      have y11 : x 11 = _ := hT 11 (by decide) rfl
      obtain ⟨zo, zl, zc, yo, yl, yc, y10, -⟩ := hT 10 (by decide) rfl
      clear hT
      simp only [y0, y1, y2, y3, y4, y5, y6, y7, y8, y9, y10, y11, y12, y13, y14, y15, y16, y17, y18, y19, y20, y21]
      refine wpAny_done (by kernel_rfl) ?_ _
      have HKW := Lib.hid hk
      clear hk y0 y1 y2 y3 y4 y5 y6 y7 y8 y9 y10 y11 y12 y13 y14 y15 y16 y17 y18 y19 y20 y21
      go_wp2_with fail
      go_ret
      exact ⟨by rw [HE.out]; rfl, HB4.out.trans (Below.mono HKW.out HB4.out.size)⟩
end Go.Proofs.YteieedfigoihpaaDoor
