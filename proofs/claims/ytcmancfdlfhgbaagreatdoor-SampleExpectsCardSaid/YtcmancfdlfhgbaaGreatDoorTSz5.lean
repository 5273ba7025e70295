/- Contracts and lemmas (several texts merged into one). -/
import Derived.Test.YtcmancfdlfhgbaaGreatDoorTSz2
import Derived.Test.YtcmancfdlfhgbaaGreatDoorTSz3
import Derived.OrdersHeld
import Derived.Deep.RegionHeld3
namespace Go.Proofs.YtcmancfdlfhgbaaGreatDoor
open Go Go.RowKit Gu

/-- what an operation on fractions gives: the quotient of L by M in lowest terms, or ErrRange -/
def FRes (L M : Nat) (w' : World) (e : Ending) (B : Nat) (w : World) : Prop :=
  ∃ r s, e = .returned (.tuple #[.agg #[r, s], .int .i64 (ffE (lowP L M) (lowQ L M))]) ∧ D w' r (ffN (lowP L M) (lowQ L M) (lowP L M)) ∧ D w' s (ffN (lowP L M) (lowQ L M) (lowQ L M)) ∧ Below B w w'
theorem nd_dmul {b d : Nat} (hb : nd 4294967296 b ≤ 100000) (hd : nd 4294967296 d ≤ 100000) : nd 4294967296 (dn b * dn d) ≤ 200000 := nd_mul (dn_nd hb (by decide)) (dn_nd hd (by decide))
set_option maxHeartbeats 2000000 in
theorem FAdd_any (v u x y : Value) (a b c d : Nat) (w : World) (hv : D w v a) (hu : D w u b) (hx : D w x c) (hy : D w y d) (ha : nd 4294967296 a ≤ 100000) (hb : nd 4294967296 b ≤ 100000) (hc : nd 4294967296 c ≤ 100000) (hd : nd 4294967296 d ≤ 100000) :
    Calls Tryz.prog 40 #[.agg #[v, u], .agg #[x, y]] w fun e w' => FRes (a * dn d + c * dn b) (dn b * dn d) w' e w.heap.size w := by
  have b3 : ∀ o1 o2 o3, Below w.heap.size w (((w.alloc o1).alloc o2).alloc o3) := fun o1 o2 o3 => (((Below.refl _ _).alloc (Nat.le_refl _) _).alloc (by simp) _).alloc (by simp; omega) _
  have HCR := Lib.hid (fun o1 o2 o3 => crossed_any v u x y a b c d (((w.alloc o1).alloc o2).alloc o3) (hv.below (b3 o1 o2 o3)) (hu.below (b3 o1 o2 o3)) (hx.below (b3 o1 o2 o3)) (hy.below (b3 o1 o2 o3)) ha hb hc hd)
  have h1 := nd_mul ha (dn_nd hd (by decide))
  have h2 := nd_mul hc (dn_nd hb (by decide))
  have h3 := nd_add h1 h2
  have h4 := nd_dmul hb hd
  have h5 : 0 < dn b * dn d := Nat.mul_pos (dn_pos b) (dn_pos d)
  have HSU := Lib.hid (fun v u W (h : D W v (a * dn d)) (h' : D W u (c * dn b)) => sum_any v u _ _ W h h' (by omega) (by omega))
  have HFF := Lib.hid (fun v u W (h : D W v (a * dn d + c * dn b)) (h' : D W u (dn b * dn d)) => fittingFrac_any v u _ _ W h h' h5 (by omega) (by omega))
  have HB := Lib.hid b3
  obtain ⟨ao, ac, rfl, -⟩ := hv.shape
  obtain ⟨bo, bc, rfl, -⟩ := hu.shape
  obtain ⟨co, cc, rfl, -⟩ := hx.shape
  obtain ⟨eo, ec, rfl, -⟩ := hy.shape
  clear hv hu hx hy b3 h1 h2 h3 h4 h5
  unfold FRes
  generalize a * dn d = L1 at *
  generalize c * dn b = L2 at *
  generalize L1 + L2 = L at *
  generalize dn b * dn d = M at *
  generalize ffE (lowP L M) (lowQ L M) = E at *
  generalize ffN (lowP L M) (lowQ L M) (lowP L M) = X at *
  generalize ffN (lowP L M) (lowQ L M) (lowQ L M) = Y at *
  go_enter Tryz.func40, Tryz.ntmps40
  go_wp2_with fail
  refine (HCR.out _ _ _).mono ?_
  rintro e w1 ⟨r1, r2, r3, rfl, hr1, hr2, hr3, hb1⟩
  have HB1 := Lib.hid hb1; have HR3 := Lib.hid hr3
  have HS1 := Lib.hid (HSU.out _ _ _ hr1 hr2)
  clear hb1 hr1 hr2 hr3
  go_wp2_with fail
  refine HS1.out.mono ?_
  rintro e w2 ⟨s1, rfl, hs1, hb2⟩
  have HB2 := Lib.hid (HB1.out.trans (hb2.mono HB1.out.size))
  have HF1 := Lib.hid (HFF.out _ _ _ hs1 (HR3.out.below hb2))
  clear hs1 hb2
  go_wp2_with fail
  refine HF1.out.mono ?_
  rintro e w3 ⟨r, s, rfl, hr, hs, hb3⟩
  have hbt := HB2.out.trans (hb3.mono HB2.out.size)
  clear hb3
  obtain ⟨ro, rc, rfl, -⟩ := hr.shape
  obtain ⟨so, sc, rfl, -⟩ := hs.shape
  have d0 : w3.cell? ⟨w.heap.size + 1 + 1, 0, none⟩ = some (.slice none 0 0) := (hbt.cell (p := ⟨w.heap.size + 1 + 1, 0, none⟩) (by simp)).trans (World.cell?_alloc_at _ _ _ _ (by simp))
  have g0 : w3.frozen? ⟨w.heap.size + 1 + 1, 0, none⟩ = false := (hbt.frozen (p := ⟨w.heap.size + 1 + 1, 0, none⟩) (by simp)).trans (World.frozen?_alloc_at _ _ _ _ (by simp))
  have d1 : w3.cell? ⟨w.heap.size + 1 + 1, 1, none⟩ = some (.slice none 0 0) := (hbt.cell (p := ⟨w.heap.size + 1 + 1, 1, none⟩) (by simp)).trans (World.cell?_alloc_at _ _ _ _ (by simp))
  have g1 : w3.frozen? ⟨w.heap.size + 1 + 1, 1, none⟩ = false := (hbt.frozen (p := ⟨w.heap.size + 1 + 1, 1, none⟩) (by simp)).trans (World.frozen?_alloc_at _ _ _ _ (by simp))
  have HTS := Lib.hid (two_store (B := w.heap.size + 1 + 1) hr hs d0 d1 ((HB.out _ _ _).trans (hbt.mono (HB.out _ _ _).size)) (by omega))
  clear hr hs hbt
  go_wp2
  obtain ⟨z1, z2, z3, z4, z5⟩ := HTS.out
  refine bodyPost_ret (v := .tuple #[.agg #[.slice ro (nd 4294967296 (X)) rc, .slice so (nd 4294967296 (Y)) sc], .int .i64 (E)]) (by simp [results, Tryz.results40, go_sem, z3, z4]) rfl ⟨_, _, rfl, z1, z2, z5⟩
end Go.Proofs.YtcmancfdlfhgbaaGreatDoor
namespace Go.Proofs.YtcmancfdlfhgbaaGreatDoor
open Go Go.RowKit Gu

theorem low_of {P Q L M : Nat} (h : Nat.gcd P Q = 1) (hQ : 0 < Q) (hM : 0 < M) (he : P * M = L * Q) : P = lowP L M ∧ Q = lowQ L M := by
  obtain ⟨e1, e2⟩ := low_mul (L := L) (M := M)
  have hg : 0 < Nat.gcd L M := Nat.gcd_pos_of_pos_right _ hM
  refine low_unique h (low_coprime hM) hQ (lowQ_pos hM) (Nat.eq_of_mul_eq_mul_right hg ?_)
  calc P * lowQ L M * Nat.gcd L M = P * (lowQ L M * Nat.gcd L M) := Nat.mul_assoc _ _ _
    _ = L * Q := by rw [e2, he]
    _ = lowP L M * Nat.gcd L M * Q := by rw [e1]
    _ = lowP L M * Q * Nat.gcd L M := by grind
theorem low_same {L M L' M' : Nat} (hM : 0 < M) (hM' : 0 < M') (he : L * M' = L' * M) : lowP L M = lowP L' M' ∧ lowQ L M = lowQ L' M' := by
  obtain ⟨e1, e2⟩ := low_mul (L := L) (M := M)
  have hg : 0 < Nat.gcd L M := Nat.gcd_pos_of_pos_right _ hM
  refine low_of (low_coprime hM) (lowQ_pos hM) hM' (Nat.eq_of_mul_eq_mul_right hg ?_)
  calc lowP L M * M' * Nat.gcd L M = lowP L M * Nat.gcd L M * M' := by grind
    _ = L' * (lowQ L M * Nat.gcd L M) := by rw [e1, e2, he]
    _ = L' * lowQ L M * Nat.gcd L M := (Nat.mul_assoc _ _ _).symm
theorem low_prod {L M L' M' : Nat} (hM : 0 < M) (hM' : 0 < M') : lowP (lowP L M * lowP L' M') (lowQ L M * lowQ L' M') = lowP (L * L') (M * M') ∧ lowQ (lowP L M * lowP L' M') (lowQ L M * lowQ L' M') = lowQ (L * L') (M * M') := by
  obtain ⟨e1, e2⟩ := low_mul (L := L) (M := M)
  obtain ⟨e3, e4⟩ := low_mul (L := L') (M := M')
  refine low_same (Nat.mul_pos (lowQ_pos hM) (lowQ_pos hM')) (Nat.mul_pos hM hM') ?_
  generalize lowP L M = P at *
  generalize lowQ L M = Q at *
  generalize lowP L' M' = P' at *
  generalize lowQ L' M' = Q' at *
  rw [← e1, ← e2, ← e3, ← e4]
  grind
theorem low_plus {L M L' M' : Nat} (hM : 0 < M) (hM' : 0 < M') : lowP (lowP L M * lowQ L' M' + lowP L' M' * lowQ L M) (lowQ L M * lowQ L' M') = lowP (L * M' + L' * M) (M * M') ∧ lowQ (lowP L M * lowQ L' M' + lowP L' M' * lowQ L M) (lowQ L M * lowQ L' M') = lowQ (L * M' + L' * M) (M * M') := by
  obtain ⟨e1, e2⟩ := low_mul (L := L) (M := M)
  obtain ⟨e3, e4⟩ := low_mul (L := L') (M := M')
  refine low_same (Nat.mul_pos (lowQ_pos hM) (lowQ_pos hM')) (Nat.mul_pos hM hM') ?_
  generalize lowP L M = P at *
  generalize lowQ L M = Q at *
  generalize lowP L' M' = P' at *
  generalize lowQ L' M' = Q' at *
  rw [← e1, ← e2, ← e3, ← e4]
  grind
theorem fits_low {L M k : Nat} (hL : L ≤ 2 ^ k) (hM : M ≤ 2 ^ k) (hk : k ≤ 10000) : ffE (lowP L M) (lowQ L M) = 0 ∧ ∀ x, ffN (lowP L M) (lowQ L M) x = x := by
  have h2 : ∀ z, z ≤ 2 ^ k → nd 2 z ≤ 16384 := fun z hz => Nat.le_trans ((nd_le (by decide)).2 (Nat.lt_of_le_of_lt hz (Nat.pow_lt_pow_right (by decide) (Nat.lt_succ_self k)))) (by omega)
  have h : nd 2 (lowP L M) ≤ 16384 ∧ nd 2 (lowQ L M) ≤ 16384 := ⟨h2 _ (Nat.le_trans (lowP_le _ _) hL), h2 _ (Nat.le_trans (lowQ_le _ _) hM)⟩
  exact ⟨if_pos h, fun x => if_pos h⟩
theorem FRes.low {L M k : Nat} {w' w : World} {e : Ending} (h : FRes L M w' e w.heap.size w) (hL : L ≤ 2 ^ k) (hM : M ≤ 2 ^ k) (hk : k ≤ 10000) :
    ∃ ao al ac bo bl bc, e = .returned (.tuple #[.agg #[.slice ao al ac, .slice bo bl bc], .int .i64 0]) ∧ D w' (.slice ao al ac) (lowP L M) ∧ D w' (.slice bo bl bc) (lowQ L M) ∧ Below w.heap.size w w' := by
  obtain ⟨f1, f2⟩ := fits_low hL hM hk
  obtain ⟨r, s, h1, h2, h3, h4⟩ := h
  rw [f2] at h2 h3
  rw [f1] at h1
  obtain ⟨ao, ac, rfl, -⟩ := h2.shape
  obtain ⟨bo, bc, rfl, -⟩ := h3.shape
  exact ⟨_, _, _, _, _, _, h1, h2, h3, h4⟩
theorem small5 {z k : Nat} (hz : z ≤ 2 ^ k) (hk : k ≤ 5000) : nd 4294967296 z ≤ 100000 := Nat.le_trans (small_nd (m := 200) hz (by omega)) (by decide)
theorem FAdd_low {v u x y : Value} {L M L' M' k : Nat} {W : World} (hv : D W v (lowP L M)) (hu : D W u (lowQ L M)) (hx : D W x (lowP L' M')) (hy : D W y (lowQ L' M')) (hM : 0 < M) (hM' : 0 < M') (h1 : L ≤ 2 ^ k) (h2 : M ≤ 2 ^ k) (h3 : L' ≤ 2 ^ k) (h4 : M' ≤ 2 ^ k) (hk : k ≤ 2000) :
    Calls Tryz.prog 40 #[.agg #[v, u], .agg #[x, y]] W fun e w' => ∃ ao al ac bo bl bc, e = .returned (.tuple #[.agg #[.slice ao al ac, .slice bo bl bc], .int .i64 0]) ∧ D w' (.slice ao al ac) (lowP (L * M' + L' * M) (M * M')) ∧ D w' (.slice bo bl bc) (lowQ (L * M' + L' * M) (M * M')) ∧ Below W.heap.size W w' := by
  have a1 := Nat.le_trans (lowP_le L M) h1
  have a2 := Nat.le_trans (lowQ_le L M) h2
  have a3 := Nat.le_trans (lowP_le L' M') h3
  have a4 := Nat.le_trans (lowQ_le L' M') h4
  have b1 := Nat.mul_le_mul a1 a4
  have b2 := Nat.mul_le_mul a2 a4
  have b3 := Nat.mul_le_mul a3 a2
  rw [← Nat.pow_add] at b1 b2 b3
  have b4 : lowP L M * lowQ L' M' + lowP L' M' * lowQ L M ≤ 2 ^ (k + k + 1) := by rw [Nat.pow_succ]; omega
  have b5 : lowQ L M * lowQ L' M' ≤ 2 ^ (k + k + 1) := by rw [Nat.pow_succ]; omega
  have := FAdd_any v u x y _ _ _ _ W hv hu hx hy (small5 a1 (by omega)) (small5 a2 (by omega)) (small5 a3 (by omega)) (small5 a4 (by omega))
  rw [dn_of (lowQ_pos hM), dn_of (lowQ_pos hM')] at this
  refine this.mono fun e w' h => ?_
  have h' := FRes.low h b4 b5 (by omega)
  rw [(low_plus hM hM').1, (low_plus hM hM').2] at h'
  exact h'
theorem int_big {n : Nat} (h : n ≤ 9223372036854775807) : n ≤ big := le_big (k := 63) (by omega) (by omega)
end Go.Proofs.YtcmancfdlfhgbaaGreatDoor
namespace Go.Proofs.YtcmancfdlfhgbaaGreatDoor
open Go Go.RowKit Gu

/-- both risks are kept, by the probabilities of acceptance -/
def KeepA (b g n m c : Nat) : Prop := pascalN (b + g) n * m ≤ accS b g n c * 1000000
def KeepC (b g n be c : Nat) : Prop := accS b g n c * 1000000 ≤ pascalN (b + g) n * be
theorem accS_nat (b g n c : Nat) : accS b g n (c : Int) = hsum b g n 0 (c + 1) := by unfold accS; rw [show ((c : Int) + 1).toNat = c + 1 by omega]
theorem least_exists (b g n m : Nat) : ∃ c, LeastC b g n m c := by
  have h : ∀ k, k ≤ n → (∃ c, c ≤ k ∧ LeastC b g n m c) ∨ ∀ j, j < k → hsum b g n 0 (j + 1) * 1000000 < pascalN (b + g) n * m := by
    intro k
    induction k with
    | zero => exact fun _ => .inr fun j hj => absurd hj (Nat.not_lt_zero _)
    | succ k ih =>
      intro hk
      rcases ih (by omega) with ⟨c, h1, h2⟩ | h
      · exact .inl ⟨c, by omega, h2⟩
      · by_cases hx : hsum b g n 0 (k + 1) * 1000000 < pascalN (b + g) n * m
        · exact .inr fun j hj => by
            rcases Nat.eq_or_lt_of_le (Nat.le_of_lt_succ hj) with e | e
            · rw [e]; exact hx
            · exact h j e
        · exact .inl ⟨k, by omega, by omega, h, fun _ => by omega⟩
  rcases h n (Nat.le_refl _) with ⟨c, _, h2⟩ | h2
  · exact ⟨c, h2⟩
  · exact ⟨n, Nat.le_refl _, h2, fun h => absurd h (Nat.lt_irrefl _)⟩
theorem plan_keeps {b1 g1 b2 g2 n c al be : Nat} (h1 : LeastC b1 g1 n (1000000 - al) c) (h2 : KeepB b2 g2 n be c) : KeepA b1 g1 n (1000000 - al) c ∧ KeepC b2 g2 n be c := by
  refine ⟨?_, ?_⟩
  · unfold KeepA
    rw [accS_nat]
    rcases Nat.eq_or_lt_of_le h1.1 with e | e
    · rw [e, hsum_all]; exact Nat.mul_le_mul_left _ (Nat.sub_le _ _)
    · exact h1.2.2 e
  · unfold KeepC
    rw [accS_nat]; exact h2
theorem plan_smaller {b1 g1 b2 g2 n c m d al be : Nat} (h1 : LeastC b1 g1 n (1000000 - al) c) (h3 : ∀ m, m < n → ∀ d, LeastC b1 g1 m (1000000 - al) d → ¬ KeepB b2 g2 m be d) (hmd : m < n ∨ m = n ∧ d < c) : ¬ (KeepA b1 g1 m (1000000 - al) d ∧ KeepC b2 g2 m be d) := by
  rintro ⟨k1, k2⟩
  unfold KeepA at k1
  unfold KeepC at k2
  rw [accS_nat] at k1 k2
  rcases hmd with h | ⟨rfl, h⟩
  · obtain ⟨e, he⟩ := least_exists b1 g1 m (1000000 - al)
    have hn := h3 m h e he
    unfold KeepB at hn
    have hde : e ≤ d := Nat.le_of_not_lt fun hx => by
      have := he.2.1 d hx
      omega
    have := hsum_mono (b := b2) (g := g2) (n := m) (a := 0) (show e + 1 ≤ d + 1 by omega)
    have := Nat.mul_le_mul_right 1000000 this
    omega
  · have := h1.2.1 d h
    omega
theorem million_le : (1000000 : Nat) ≤ 2 ^ 100 := by decide
theorem acc100 {b g n : Nat} (c : Int) (h : b + g ≤ 60) : accS b g n c ≤ 2 ^ 100 ∧ pascalN (b + g) n ≤ 2 ^ 100 := by
  have h1 : pascalN (b + g) n ≤ 2 ^ 100 := Nat.le_trans (pascalN_le _ _) (Nat.pow_le_pow_right (by decide) (by omega))
  exact ⟨Nat.le_trans (accS_le _ _ _ _) h1, h1⟩
/-- what each operation yields -/
def TE (w0 : World) (go ho : Option Addr) (gl gc hl hc ap ma : Nat) : Nat → (Nat → Value) → World → Prop
  | 0, x, _ => x 0 = .int .i64 0
  | 1, x, _ => x 1 = .bool true
  | 2, x, _ => x 2 = .bool true
  | 3, x, _ => x 3 = .int .i64 0
  | 4, x, _ => x 4 = .bool true
  | 5, x, _ => x 5 = .bool true
  | 6, x, _ => x 6 = .bool true
  | 7, x, _ => x 7 = .agg #[.slice go gl gc, .slice ho hl hc]
  | 8, x, _ => x 8 = .int .i64 (ap : Int)
  | 9, x, _ => x 9 = .int .i64 (ma : Int)
  | 10, x, w => ∃ ao ai ac bo bl bc, x 10 = .agg #[.slice ao ai ac, .slice bo bl bc] ∧ D w (.slice ao ai ac) (lowP ma 1000000) ∧ D w (.slice bo bl bc) (lowQ ma 1000000)
  | 11, x, _ => x 11 = .int .i64 (-1)
  | 12, x, _ => x 12 = .bool false
  | 13, x, _ => x 13 = .bool false
  | 14, x, _ => x 14 = .bool false
  | 15, x, _ => x 15 = undef
  | 16, x, _ => x 16 = undef
  | 17, x, _ => x 17 = undef
  | 18, x, _ => x 18 = undef
  | 19, x, _ => x 19 = undef
  | 20, x, _ => x 20 = .bool false
  | 21, x, _ => x 21 = .bool false
  | _ + 22, _, _ => True
def TEkill : Nat → Option Nat
  | _ => none
theorem TE.congr {w0 : World} {go ho : Option Addr} {gl gc hl hc ap ma : Nat} {DD : Nat → List Nat}  : ∀ i x y w, (∀ j, j = i ∨ j ∈ DD i → x j = y j) → TE w0 go ho gl gc hl hc ap ma i x w → TE w0 go ho gl gc hl hc ap ma i y w
  | 0, x, y, w, h, t => by have e := h 0 (.inl rfl); simp only [TE] at t ⊢; rw [← e]; exact t
  | 1, x, y, w, h, t => by have e := h 1 (.inl rfl); simp only [TE] at t ⊢; rw [← e]; exact t
  | 2, x, y, w, h, t => by have e := h 2 (.inl rfl); simp only [TE] at t ⊢; rw [← e]; exact t
  | 3, x, y, w, h, t => by have e := h 3 (.inl rfl); simp only [TE] at t ⊢; rw [← e]; exact t
  | 4, x, y, w, h, t => by have e := h 4 (.inl rfl); simp only [TE] at t ⊢; rw [← e]; exact t
  | 5, x, y, w, h, t => by have e := h 5 (.inl rfl); simp only [TE] at t ⊢; rw [← e]; exact t
  | 6, x, y, w, h, t => by have e := h 6 (.inl rfl); simp only [TE] at t ⊢; rw [← e]; exact t
  | 7, x, y, w, h, t => by have e := h 7 (.inl rfl); simp only [TE] at t ⊢; rw [← e]; exact t
  | 8, x, y, w, h, t => by have e := h 8 (.inl rfl); simp only [TE] at t ⊢; rw [← e]; exact t
  | 9, x, y, w, h, t => by have e := h 9 (.inl rfl); simp only [TE] at t ⊢; rw [← e]; exact t
  | 10, x, y, w, h, t => by have e := h 10 (.inl rfl); simp only [TE] at t ⊢; rw [← e]; exact t
  | 11, x, y, w, h, t => by have e := h 11 (.inl rfl); simp only [TE] at t ⊢; rw [← e]; exact t
  | 12, x, y, w, h, t => by have e := h 12 (.inl rfl); simp only [TE] at t ⊢; rw [← e]; exact t
  | 13, x, y, w, h, t => by have e := h 13 (.inl rfl); simp only [TE] at t ⊢; rw [← e]; exact t
  | 14, x, y, w, h, t => by have e := h 14 (.inl rfl); simp only [TE] at t ⊢; rw [← e]; exact t
  | 15, x, y, w, h, t => by have e := h 15 (.inl rfl); simp only [TE] at t ⊢; rw [← e]; exact t
  | 16, x, y, w, h, t => by have e := h 16 (.inl rfl); simp only [TE] at t ⊢; rw [← e]; exact t
  | 17, x, y, w, h, t => by have e := h 17 (.inl rfl); simp only [TE] at t ⊢; rw [← e]; exact t
  | 18, x, y, w, h, t => by have e := h 18 (.inl rfl); simp only [TE] at t ⊢; rw [← e]; exact t
  | 19, x, y, w, h, t => by have e := h 19 (.inl rfl); simp only [TE] at t ⊢; rw [← e]; exact t
  | 20, x, y, w, h, t => by have e := h 20 (.inl rfl); simp only [TE] at t ⊢; rw [← e]; exact t
  | 21, x, y, w, h, t => by have e := h 21 (.inl rfl); simp only [TE] at t ⊢; rw [← e]; exact t
  | _ + 22, x, y, w, h, t => trivial
theorem TE.next {w0 : World} {go ho : Option Addr} {gl gc hl hc ap ma : Nat} {w w' : World} (hb : Below w.heap.size w w') : ∀ j y, TE w0 go ho gl gc hl hc ap ma j y w → TE w0 go ho gl gc hl hc ap ma j y w'
  | 0, y, t => t
  | 1, y, t => t
  | 2, y, t => t
  | 3, y, t => t
  | 4, y, t => t
  | 5, y, t => t
  | 6, y, t => t
  | 7, y, t => t
  | 8, y, t => t
  | 9, y, t => t
  | 10, y, t => by obtain ⟨ao, ai, ac, bo, bl, bc, e, h0, h1⟩ := t; exact ⟨ao, ai, ac, bo, bl, bc, e, h0.below hb, h1.below hb⟩
  | 11, y, t => t
  | 12, y, t => t
  | 13, y, t => t
  | 14, y, t => t
  | 15, y, t => t
  | 16, y, t => t
  | 17, y, t => t
  | 18, y, t => t
  | 19, y, t => t
  | 20, y, t => t
  | 21, y, t => t
  | _ + 22, y, t => trivial
end Go.Proofs.YtcmancfdlfhgbaaGreatDoor
namespace Go.Proofs.YtcmancfdlfhgbaaGreatDoor
open Go Go.RowKit Gu

theorem risk_yes {x : Int} (h : 0 ≤ x ∧ x ≤ 1000000) : Hid (∀ W, Calls Tryz.prog 35 #[.int .i64 x] W fun e w' => e = .returned (.bool true) ∧ W = w') := fun W => by
  obtain ⟨h1, h2⟩ := h
  have g1 : x ≥ 0 := h1
  go_enter Tryz.func35, Tryz.ntmps35
  go_wp2_with fail
  go_ret
  exact ⟨rfl, rfl⟩
theorem risk_no {x : Int} (h : ¬ (0 ≤ x ∧ x ≤ 1000000)) : Hid (∀ W, Calls Tryz.prog 35 #[.int .i64 x] W fun e w' => e = .returned (.bool false) ∧ W = w') := fun W => by
  by_cases h1 : x ≥ 0
  · have h2 : ¬ x ≤ 1000000 := fun h2 => h ⟨h1, h2⟩
    clear h
    go_enter Tryz.func35, Tryz.ntmps35
    go_wp2_with fail
    go_ret
    exact ⟨rfl, rfl⟩
  · clear h
    go_enter Tryz.func35, Tryz.ntmps35
    go_wp2_with fail
    go_ret
    exact ⟨rfl, rfl⟩
/-- valid arguments of Plan -/
def PlannedP (lot good bad al be : Int) : Prop := (1 ≤ lot ∧ lot ≤ 256) ∧ (0 ≤ good ∧ good < bad ∧ bad ≤ lot) ∧ (0 ≤ al ∧ al ≤ 1000000) ∧ 0 ≤ be ∧ be ≤ 1000000
end Go.Proofs.YtcmancfdlfhgbaaGreatDoor
namespace Go.Proofs.YtcmancfdlfhgbaaGreatDoor
open Go Go.RowKit Gu

/-- valid arguments of Bound -/
def BoundedP (lot n fnd risk : Int) : Prop := (0 ≤ lot ∧ lot ≤ 256) ∧ (0 ≤ n ∧ n ≤ lot) ∧ (0 ≤ fnd ∧ fnd ≤ n) ∧ (0 ≤ risk ∧ risk ≤ 1000000)
theorem Bounded_yes {lot n fnd risk : Int} (h : BoundedP lot n fnd risk) : Hid (∀ W, Calls Tryz.prog 11 #[.int .i64 lot, .int .i64 n, .int .i64 fnd, .int .i64 risk] W fun e w' => e = .returned (.bool true) ∧ W = w') := fun W => by
  obtain ⟨⟨h1, h2⟩, ⟨h3, h4⟩, ⟨h5, h6⟩, h7⟩ := h
  have g1 : lot ≥ 0 := h1
  have g3 : n ≥ 0 := h3
  have g5 : fnd ≥ 0 := h5
  have H7 := risk_yes h7
  clear h7
  go_enter Tryz.func11, Tryz.ntmps11
  go_wp2_with fail
  refine (H7.out _).mono ?_
  rintro e w' ⟨rfl, rfl⟩
  go_wp2_with fail
  go_ret
  exact ⟨rfl, rfl⟩
theorem below_drewNs {b : Nat} {w W : World} (h : Below b w W) (n : Nat) : Below b w (W.drewN n) := ⟨h.os, h.tape, h.output, h.size, h.block⟩
set_option maxHeartbeats 2000000 in
theorem Bounded_no {lot n fnd risk : Int} (h : ¬ BoundedP lot n fnd risk) : Hid (∀ W, Calls Tryz.prog 11 #[.int .i64 lot, .int .i64 n, .int .i64 fnd, .int .i64 risk] W fun e w' => e = .returned (.bool false) ∧ W = w') := fun W => by
  have fin : ∀ (a1 : lot ≥ 0) (a2 : lot ≤ 256) (a3 : n ≥ 0) (a4 : n ≤ lot) (a5 : fnd ≥ 0) (a6 : fnd ≤ n) (a7 : 0 ≤ risk ∧ risk ≤ 1000000), False := fun a1 a2 a3 a4 a5 a6 a7 => h ⟨⟨a1, a2⟩, ⟨a3, a4⟩, ⟨a5, a6⟩, a7⟩
  have HF := Lib.hid fin
  clear h fin
  by_cases h1 : lot ≥ 0
  case neg => go_enter Tryz.func11, Tryz.ntmps11; go_wp2_with fail; go_ret; exact ⟨rfl, rfl⟩
  by_cases h2 : lot ≤ 256
  case neg => go_enter Tryz.func11, Tryz.ntmps11; go_wp2_with fail; go_ret; exact ⟨rfl, rfl⟩
  by_cases h3 : n ≥ 0
  case neg => go_enter Tryz.func11, Tryz.ntmps11; go_wp2_with fail; go_ret; exact ⟨rfl, rfl⟩
  by_cases h4 : n ≤ lot
  case neg => go_enter Tryz.func11, Tryz.ntmps11; go_wp2_with fail; go_ret; exact ⟨rfl, rfl⟩
  by_cases h5 : fnd ≥ 0
  case neg => go_enter Tryz.func11, Tryz.ntmps11; go_wp2_with fail; go_ret; exact ⟨rfl, rfl⟩
  by_cases h6 : fnd ≤ n
  case neg => go_enter Tryz.func11, Tryz.ntmps11; go_wp2_with fail; go_ret; exact ⟨rfl, rfl⟩
  have H7 := risk_no fun h7 => HF.out h1 h2 h3 h4 h5 h6 h7
  clear HF
  go_enter Tryz.func11, Tryz.ntmps11
  go_wp2_with fail
  refine (H7.out _).mono ?_
  rintro e w' ⟨rfl, rfl⟩
  go_wp2_with fail
  go_ret
  exact ⟨rfl, rfl⟩
end Go.Proofs.YtcmancfdlfhgbaaGreatDoor
namespace Gu

/-- how many samples of n pieces have at most c bad ones -/
def accC (b g n : Nat) (c : Int) : Nat := hsum b g n 0 (c + 1).toNat
theorem accC_neg {b g n : Nat} {c : Int} (h : c < 0) : accC b g n c = 0 := by
  unfold accC; rw [show (c + 1).toNat = 0 by omega]; rfl
theorem accC_full {b g n : Nat} {c : Int} (h : (n : Int) ≤ c) : accC b g n c = pascalN (b + g) n := by
  unfold accC; rw [hsum_full (by omega), hsum_all]
theorem accC_mono {b g n : Nat} {c d : Int} (h : c ≤ d) : accC b g n c ≤ accC b g n d := hsum_mono (by omega)
theorem accC_le (b g n : Nat) (c : Int) : accC b g n c ≤ pascalN (b + g) n := hsum_le_all _ _ _ _
theorem accC_none {b g : Nat} {c : Int} (h : 0 ≤ c) : accC b g 0 c = 1 := by
  unfold accC; rw [show (c + 1).toNat = c.toNat + 1 by omega, hsum_none]
theorem accC_nobad {g n : Nat} {c : Int} (h : 0 ≤ c) : accC 0 g n c = pascalN g n := by
  unfold accC; rw [show (c + 1).toNat = c.toNat + 1 by omega, hyp_zero]
theorem hsum_split (b g n : Nat) (a : Nat) : ∀ m, hsum b g n 0 (a + m) = hsum b g n 0 a + hsum b g n a m
  | 0 => by simp [hsum]
  | m + 1 => by rw [← Nat.add_assoc, hsum_succ, hsum_split b g n a m, hsum_succ, Nat.zero_add]; omega
/-- only bad pieces -/
theorem hsum_nogood (b n : Nat) : ∀ m, hsum b 0 n 0 m = if n < m then pascalN b n else 0
  | 0 => rfl
  | m + 1 => by
    rw [hsum_succ, hsum_nogood b n m, Nat.zero_add]
    by_cases h : m = n
    · subst h
      rw [if_neg (by omega), if_pos (by omega), hyp_of (Nat.le_refl _), Nat.sub_self, pascalN_zero]; omega
    · by_cases h2 : m < n
      · rw [if_neg (by omega), if_neg (by omega), hyp_of (by omega), pascalN_gt (n := 0) (by omega), Nat.mul_zero]
      · rw [if_pos (by omega), if_pos (by omega), hyp_gt (by omega), Nat.add_zero]
/-- by the first piece -/
theorem accC_step (b g n : Nat) (c : Int) : b * accC (b - 1) g n (c - 1) + g * accC b (g - 1) n c = (n + 1) * accC b g (n + 1) c := by
  by_cases hc : c < 0
  · rw [accC_neg hc, accC_neg hc, accC_neg (by omega)]; omega
  obtain ⟨m, rfl⟩ : ∃ m : Nat, c = m := ⟨c.toNat, by omega⟩
  have e1 : ∀ b g n, accC b g n (m : Int) = hsum b g n 0 (m + 1) := fun b g n => by unfold accC; rw [show ((m : Int) + 1).toNat = m + 1 by omega]
  have e2 : ∀ b g n, accC b g n ((m : Int) - 1) = hsum b g n 0 m := fun b g n => by unfold accC; rw [show ((m : Int) - 1 + 1).toNat = m by omega]
  rw [e1, e1, e2]
  match b, g with
  | 0, 0 => rw [hyp_zero 0 (n + 1), pascalN_gt (by omega)]; simp
  | 0, g + 1 => rw [hyp_zero, hyp_zero, pascalN_abs]; simp
  | b + 1, 0 =>
    rw [Nat.zero_mul, Nat.add_zero, Nat.add_sub_cancel, hsum_nogood, hsum_nogood]
    by_cases h : n < m
    · rw [if_pos h, if_pos (by omega), pascalN_abs]
    · rw [if_neg h, if_neg (by omega)]; rfl
  | b + 1, g + 1 => exact hsum_first b g n m
/-- the probability that the verdict is open after s pieces of a sample of n, with the number c -/
def qT (b g : Nat) (n : Int) (c : Int) (s : Nat) : Rat := ((accC b g s c : Rat) - (accC b g s ((s : Int) - n + c) : Rat)) / (pascalN (b + g) s : Rat)
def qE (b g : Nat) (n c : Int) : Nat → Rat
  | 0 => 0
  | s + 1 => qE b g n c s + qT b g n c s
theorem pos_ne {x : Nat} (h : 0 < x) : (x : Rat) ≠ 0 := by
  intro e
  have : x = 0 := by exact_mod_cast e
  omega
theorem pascal_ne {l n : Nat} (h : n ≤ l) : (pascalN l n : Rat) ≠ 0 := pos_ne (pascalN_pos h)
theorem qT_zero {b g : Nat} {n c : Int} (h0 : 0 ≤ c) (h1 : c < n) : qT b g n c 0 = 1 := by
  unfold qT
  rw [accC_none h0, accC_neg (by omega), pascalN_zero]
  grind
theorem qT_step {b g l s : Nat} {n c : Int} (hl : b + g = l + 1) (hs : s ≤ l) : qT b g (n + 1) c (s + 1) = ((b : Rat) * qT (b - 1) g n (c - 1) s + (g : Rat) * qT b (g - 1) n c s) / ((l + 1 : Nat) : Rat) := by
  have a1 := accC_step b g s c
  have a2 := accC_step b g s ((s : Int) - n + c)
  have e1 : (((s + 1 : Nat) : Int) - (n + 1) + c) = (s : Int) - n + c := by omega
  have e2 : (s : Int) - n + (c - 1) = (s : Int) - n + c - 1 := by omega
  have hp := pascalN_abs l s
  have z1 := pascal_ne (l := l + 1) (n := s + 1) (by omega)
  have z2 := pascal_ne (l := l) (n := s) hs
  have z3 : ((s + 1 : Nat) : Rat) ≠ 0 := pos_ne (by omega)
  have z4 : ((l + 1 : Nat) : Rat) ≠ 0 := pos_ne (by omega)
  have b1 : (b : Rat) * (accC (b - 1) g s (c - 1) : Rat) + (g : Rat) * (accC b (g - 1) s c : Rat) = ((s + 1 : Nat) : Rat) * (accC b g (s + 1) c : Rat) := by exact_mod_cast a1
  have b2 : (b : Rat) * (accC (b - 1) g s ((s : Int) - n + c - 1) : Rat) + (g : Rat) * (accC b (g - 1) s ((s : Int) - n + c) : Rat) = ((s + 1 : Nat) : Rat) * (accC b g (s + 1) ((s : Int) - n + c) : Rat) := by exact_mod_cast a2
  have b3 : ((s + 1 : Nat) : Rat) * (pascalN (l + 1) (s + 1) : Rat) = ((l + 1 : Nat) : Rat) * (pascalN l s : Rat) := by exact_mod_cast hp
  unfold qT
  rw [e1, e2, hl]
  have f1 : (b : Rat) * (((accC (b - 1) g s (c - 1) : Rat) - (accC (b - 1) g s ((s : Int) - n + c - 1) : Rat)) / (pascalN (b - 1 + g) s : Rat)) = (b : Rat) * (((accC (b - 1) g s (c - 1) : Rat) - (accC (b - 1) g s ((s : Int) - n + c - 1) : Rat)) / (pascalN l s : Rat)) := by
    match b, hl with
    | 0, _ => grind
    | b + 1, hl => rw [show b + 1 - 1 + g = l by omega]
  have f2 : (g : Rat) * (((accC b (g - 1) s c : Rat) - (accC b (g - 1) s ((s : Int) - n + c) : Rat)) / (pascalN (b + (g - 1)) s : Rat)) = (g : Rat) * (((accC b (g - 1) s c : Rat) - (accC b (g - 1) s ((s : Int) - n + c) : Rat)) / (pascalN l s : Rat)) := by
    match g, hl with
    | 0, _ => grind
    | g + 1, hl => rw [show b + (g + 1 - 1) = l by omega]
  rw [f1, f2]
  clear f1 f2 a1 a2 e1 e2 hp
  generalize (accC b g (s + 1) c : Rat) = A at *
  generalize (accC b g (s + 1) ((s : Int) - n + c) : Rat) = B at *
  generalize (accC (b - 1) g s (c - 1) : Rat) = A1 at *
  generalize (accC b (g - 1) s c : Rat) = A2 at *
  generalize (accC (b - 1) g s ((s : Int) - n + c - 1) : Rat) = B1 at *
  generalize (accC b (g - 1) s ((s : Int) - n + c) : Rat) = B2 at *
  generalize (pascalN (l + 1) (s + 1) : Rat) = P1 at *
  generalize (pascalN l s : Rat) = P0 at *
  generalize ((s + 1 : Nat) : Rat) = S at *
  generalize ((l + 1 : Nat) : Rat) = L at *
  grind
/-- the effort by the first piece -/
theorem qE_step {b g l : Nat} {n c : Int} (hl : b + g = l + 1) (h0 : 0 ≤ c) (h1 : c < n + 1) : ∀ k, k ≤ l + 1 → qE b g (n + 1) c (k + 1) = 1 + ((b : Rat) * qE (b - 1) g n (c - 1) k + (g : Rat) * qE b (g - 1) n c k) / ((l + 1 : Nat) : Rat)
  | 0, _ => by
    show qE b g (n + 1) c 0 + qT b g (n + 1) c 0 = 1 + ((b : Rat) * 0 + (g : Rat) * 0) / ((l + 1 : Nat) : Rat)
    rw [qT_zero h0 h1]
    show (0 : Rat) + 1 = _
    grind
  | k + 1, h => by
    show qE b g (n + 1) c (k + 1) + qT b g (n + 1) c (k + 1) = 1 + ((b : Rat) * (qE (b - 1) g n (c - 1) k + qT (b - 1) g n (c - 1) k) + (g : Rat) * (qE b (g - 1) n c k + qT b (g - 1) n c k)) / ((l + 1 : Nat) : Rat)
    rw [qE_step hl h0 h1 k (by omega), qT_step hl (by omega)]
    grind
/-- no effort -/
theorem qE_neg {b g : Nat} {n c : Int} (h0 : c < 0) (hn : 0 ≤ n) : ∀ k : Nat, (k : Int) ≤ n → qE b g n c k = 0
  | 0, _ => rfl
  | k + 1, h => by
    show qE b g n c k + qT b g n c k = 0
    rw [qE_neg h0 hn k (by omega)]
    unfold qT
    rw [accC_neg h0, accC_neg (by omega)]
    grind
theorem qE_sure {b g : Nat} {n c : Int} (h1 : n ≤ c) : ∀ k : Nat, (k : Int) ≤ n → qE b g n c k = 0
  | 0, _ => rfl
  | k + 1, h => by
    show qE b g n c k + qT b g n c k = 0
    rw [qE_sure h1 k (by omega)]
    unfold qT
    rw [accC_full (by omega), accC_full (by omega)]
    grind
/-- the samples of s pieces after which the verdict is open -/
def opens (b g : Nat) (n c : Int) (s : Nat) : Nat := accC b g s c - accC b g s ((s : Int) - n + c)
theorem opens_rat {b g s : Nat} {n c : Int} (h : (s : Int) ≤ n) : ((opens b g n c s : Nat) : Rat) = (accC b g s c : Rat) - (accC b g s ((s : Int) - n + c) : Rat) := by
  have h1 : accC b g s ((s : Int) - n + c) ≤ accC b g s c := accC_mono (by omega)
  have h2 : opens b g n c s + accC b g s ((s : Int) - n + c) = accC b g s c := by unfold opens; omega
  have h3 : ((opens b g n c s : Nat) : Rat) + (accC b g s ((s : Int) - n + c) : Rat) = (accC b g s c : Rat) := by exact_mod_cast h2
  rw [← h3]
  grind
theorem opens_le (b g : Nat) (n c : Int) (s : Nat) : opens b g n c s ≤ pascalN (b + g) s := Nat.le_trans (Nat.sub_le _ _) (accC_le _ _ _ _)
theorem opens_sum {b g s a N : Nat} {n c lo top : Int} (hc : 0 ≤ c) (hs : (s : Int) < n) (hlo : lo = (s : Int) - (n - c - 1)) (hmax : max lo 0 = (a : Int)) (hmin : min c (s : Int) = top) (hN : (N : Int) = max 0 (top + 1 - a)) : hsum b g s a N = opens b g n c s := by
  have e1 : accC b g s ((s : Int) - n + c) = hsum b g s 0 a := by
    unfold accC; rw [show ((s : Int) - n + c + 1).toNat = a by omega]
  have e2 : accC b g s c = hsum b g s 0 (a + N) := by
    unfold accC
    by_cases h : c ≤ s
    · rw [show a + N = (c + 1).toNat by omega]
    · rw [hsum_full (by omega), hsum_full (b := b) (g := g) (show s + 1 ≤ a + N by omega)]
  unfold opens
  rw [e1, e2, hsum_split]; omega
/-- the product of the denominators, and the sum over it -/
def eM (l : Nat) : Nat → Nat
  | 0 => 1
  | s + 1 => eM l s * pascalN l s
def eS (b g : Nat) (n c : Int) : Nat → Nat
  | 0 => 0
  | s + 1 => eS b g n c s * pascalN (b + g) s + opens b g n c s * eM (b + g) s
theorem eM_pos {l : Nat} : ∀ {k : Nat}, k ≤ l + 1 → 0 < eM l k
  | 0, _ => Nat.one_pos
  | k + 1, h => Nat.mul_pos (eM_pos (by omega)) (pascalN_pos (by omega))
theorem pascal_pow (n k : Nat) : pascalN n k ≤ 2 ^ n := pascalN_le n k
theorem eM_le (l : Nat) : ∀ k, eM l k ≤ 2 ^ (l * k)
  | 0 => Nat.le_refl _
  | k + 1 => by
    show eM l k * pascalN l k ≤ _
    rw [Nat.mul_succ, Nat.pow_add]
    exact Nat.mul_le_mul (eM_le l k) (pascal_pow _ _)
theorem eS_le (b g : Nat) (n c : Int) : ∀ k, eS b g n c k ≤ k * eM (b + g) k
  | 0 => by simp [eS]
  | k + 1 => by
    show eS b g n c k * pascalN (b + g) k + opens b g n c k * eM (b + g) k ≤ (k + 1) * (eM (b + g) k * pascalN (b + g) k)
    have h1 := Nat.mul_le_mul_right (pascalN (b + g) k) (eS_le b g n c k)
    have h2 := Nat.mul_le_mul_right (eM (b + g) k) (opens_le b g n c k)
    calc _ ≤ k * eM (b + g) k * pascalN (b + g) k + pascalN (b + g) k * eM (b + g) k := Nat.add_le_add h1 h2
      _ = _ := by grind
theorem eS_rat {b g : Nat} {n c : Int} : ∀ k : Nat, (k : Int) ≤ n → k ≤ b + g + 1 → ((eS b g n c k : Nat) : Rat) = qE b g n c k * (eM (b + g) k : Rat)
  | 0, _, _ => by show ((0 : Nat) : Rat) = 0 * _; grind
  | k + 1, h, h2 => by
    show ((eS b g n c k * pascalN (b + g) k + opens b g n c k * eM (b + g) k : Nat) : Rat) = (qE b g n c k + qT b g n c k) * ((eM (b + g) k * pascalN (b + g) k : Nat) : Rat)
    have ih := eS_rat (b := b) (g := g) (n := n) (c := c) k (by omega) (by omega)
    have z := pascal_ne (l := b + g) (n := k) (by omega)
    have ho := opens_rat (b := b) (g := g) (s := k) (n := n) (c := c) (by omega)
    rw [Rat.natCast_add, Rat.natCast_mul, Rat.natCast_mul, Rat.natCast_mul, ih, ho]
    unfold qT
    grind
/-- fractions of one value -/
theorem cross_of {L M L' M' : Nat} {q : Rat} (h : (L : Rat) = q * (M : Rat)) (h' : (L' : Rat) = q * (M' : Rat)) : L * M' = L' * M := by
  have : ((L * M' : Nat) : Rat) = ((L' * M : Nat) : Rat) := by
    rw [Rat.natCast_mul, Rat.natCast_mul, h, h']
    grind
  exact_mod_cast this
end Gu
namespace Gu
/-- a fraction that stands for a value, of bounded size -/
def QN (k S N : Nat) (r : Rat) : Prop := 0 < N ∧ S ≤ 2 ^ k ∧ N ≤ 2 ^ k ∧ (S : Rat) = r * (N : Rat)
theorem QN.one : QN 0 1 1 1 := ⟨by decide, by decide, by decide, by grind⟩
theorem QN.mono {k j S N : Nat} {r : Rat} (h : QN k S N r) (hk : k ≤ j) : QN j S N r := ⟨h.1, Nat.le_trans h.2.1 (Nat.pow_le_pow_right (by decide) hk), Nat.le_trans h.2.2.1 (Nat.pow_le_pow_right (by decide) hk), h.2.2.2⟩
theorem QN.add {k j S N L M p l : Nat} {r v : Rat} (h : QN k S N r) (hv : QN j L M v) (hp : p ≤ 2 ^ 6) (hl : l ≤ 2 ^ 6) (hl0 : 0 < l) : QN (k + (j + 6) + 1) (S * (l * M) + p * L * N) (N * (l * M)) (r + (p : Rat) * v / (l : Rat)) := by
  obtain ⟨a1, a2, a3, a4⟩ := h
  obtain ⟨b1, b2, b3, b4⟩ := hv
  have c1 : l * M ≤ 2 ^ (j + 6) := by rw [Nat.pow_add, Nat.mul_comm]; exact Nat.mul_le_mul b3 hl
  have c2 : p * L ≤ 2 ^ (j + 6) := by rw [Nat.pow_add, Nat.mul_comm]; exact Nat.mul_le_mul b2 hp
  have d1 := Nat.mul_le_mul a2 c1
  have d2 := Nat.mul_le_mul c2 a3
  have d3 := Nat.mul_le_mul a3 c1
  rw [Nat.mul_comm (2 ^ (j + 6))] at d2
  rw [← Nat.pow_add] at d1 d2 d3
  refine ⟨Nat.mul_pos a1 (Nat.mul_pos hl0 b1), by rw [Nat.pow_succ]; omega, by rw [Nat.pow_succ]; omega, ?_⟩
  have z := pos_ne hl0
  rw [Rat.natCast_add, Rat.natCast_mul, Rat.natCast_mul, Rat.natCast_mul, Rat.natCast_mul, Rat.natCast_mul, Rat.natCast_mul, a4, b4]
  grind
theorem eS_none {b g k : Nat} {n c : Int} (hk : (k : Int) ≤ n) (hk2 : k ≤ b + g + 1) (h : qE b g n c k = 0) : eS b g n c k = 0 := by
  have := eS_rat (b := b) (g := g) (n := n) (c := c) k hk hk2
  rw [h] at this
  have h2 : ((eS b g n c k : Nat) : Rat) = ((0 : Nat) : Rat) := by rw [this]; grind
  exact_mod_cast h2
theorem eS_QN {b g k : Nat} {n c : Int} (hk : (k : Int) ≤ n) (hk2 : k ≤ b + g) (hl : b + g ≤ 40) (hk6 : k ≤ 6) : QN 243 (eS b g n c k) (eM (b + g) k) (qE b g n c k) := by
  have h2 : (b + g) * k ≤ 40 * 6 := Nat.mul_le_mul hl hk6
  have h3 : eM (b + g) k ≤ 2 ^ 240 := Nat.le_trans (eM_le (b + g) k) (Nat.pow_le_pow_right (by decide) h2)
  refine ⟨eM_pos (by omega), Nat.le_trans (eS_le b g n c k) (Nat.le_trans (Nat.mul_le_mul (show k ≤ 2 ^ 3 by omega) h3) ?_), Nat.le_trans h3 (Nat.pow_le_pow_right (by decide) (by decide)), eS_rat k hk (by omega)⟩
  rw [← Nat.pow_add]
  exact Nat.pow_le_pow_right (by decide) (by decide)
/-- the recursion's value -/
theorem exp_value {p q m l : Nat} {c : Int} (hl : p + q = l + 1) (h0 : 0 ≤ c) (h1 : c < (m : Int) + 1) (hm : m ≤ l) :
    (1 + (p : Rat) * qE (p - 1) q m (c - 1) m / ((l + 1 : Nat) : Rat)) + (q : Rat) * qE p (q - 1) m c m / ((l + 1 : Nat) : Rat) = qE p q ((m + 1 : Nat) : Int) c (m + 1) := by
  rw [show ((m + 1 : Nat) : Int) = (m : Int) + 1 by omega, qE_step hl h0 h1 m (by omega)]
  have z : ((l + 1 : Nat) : Rat) ≠ 0 := pos_ne (by omega)
  grind
end Gu
namespace Go.Proofs.YtcmancfdlfhgbaaGreatDoor
open Go Go.RowKit Gu

theorem small10 {z k : Nat} (hz : z ≤ 2 ^ k) (hk : k ≤ 10000) : nd 4294967296 z ≤ 100000 := Nat.le_trans (small_nd (m := 400) hz (by omega)) (by decide)
/-- Add, where the first fraction may be the zero value -/
theorem FAdd_gen {v u x y : Value} {L M L' M' Q k j : Nat} {W : World} (hv : D W v (lowP L M)) (hu : D W u Q) (hQ : dn Q = lowQ L M) (hx : D W x (lowP L' M')) (hy : D W y (lowQ L' M')) (hM : 0 < M) (hM' : 0 < M') (h1 : L ≤ 2 ^ k) (h2 : M ≤ 2 ^ k) (h3 : L' ≤ 2 ^ j) (h4 : M' ≤ 2 ^ j) (hk : k + j + 1 ≤ 10000) :
    Calls Tryz.prog 40 #[.agg #[v, u], .agg #[x, y]] W fun e w' => ∃ ao al ac bo bl bc, e = .returned (.tuple #[.agg #[.slice ao al ac, .slice bo bl bc], .int .i64 0]) ∧ D w' (.slice ao al ac) (lowP (L * M' + L' * M) (M * M')) ∧ D w' (.slice bo bl bc) (lowQ (L * M' + L' * M) (M * M')) ∧ Below W.heap.size W w' := by
  have a1 := Nat.le_trans (lowP_le L M) h1
  have a2 := Nat.le_trans (lowQ_le L M) h2
  have a3 := Nat.le_trans (lowP_le L' M') h3
  have a4 := Nat.le_trans (lowQ_le L' M') h4
  have a5 : Q ≤ 2 ^ k := by
    unfold dn at hQ
    split at hQ
    · omega
    · rw [hQ]; exact a2
  have b1 := Nat.mul_le_mul a1 a4
  have b2 := Nat.mul_le_mul a2 a4
  have b3 := Nat.mul_le_mul a3 a2
  rw [Nat.mul_comm (2 ^ j)] at b3
  rw [← Nat.pow_add] at b1 b2 b3
  have b4 : lowP L M * lowQ L' M' + lowP L' M' * lowQ L M ≤ 2 ^ (k + j + 1) := by rw [Nat.pow_succ]; omega
  have b5 : lowQ L M * lowQ L' M' ≤ 2 ^ (k + j + 1) := by rw [Nat.pow_succ]; omega
  have := FAdd_any v u x y _ _ _ _ W hv hu hx hy (small10 a1 (by omega)) (small10 a5 (by omega)) (small10 a3 (by omega)) (small10 a4 (by omega))
  rw [hQ, dn_of (lowQ_pos hM')] at this
  refine this.mono fun e w' h => ?_
  have h' := FRes.low h b4 b5 (by omega)
  rw [(low_plus hM hM').1, (low_plus hM hM').2] at h'
  exact h'
theorem eS_big {b g k K : Nat} {n c : Int} (hl : b + g ≤ 60) (hk : k ≤ b + g) (hK : K = 3606) : eS b g n c k ≤ 2 ^ K ∧ eM (b + g) k ≤ 2 ^ K := by
  obtain ⟨J, hJ⟩ : ∃ J, J = (b + g) * k := ⟨_, rfl⟩
  have h1 := eM_le (b + g) k
  rw [← hJ] at h1
  have h2 : J ≤ 60 * 60 := by rw [hJ]; exact Nat.mul_le_mul hl (by omega)
  refine ⟨Nat.le_trans (eS_le b g n c k) (Nat.le_trans (Nat.mul_le_mul (show k ≤ 2 ^ 6 by omega) h1) ?_), Nat.le_trans h1 (Nat.pow_le_pow_right (by decide) (by omega))⟩
  rw [← Nat.pow_add]
  exact Nat.pow_le_pow_right (by decide) (by omega)
/-- the denominator of the answer -/
def DenE (b g n : Nat) (c : Int) (W : World) (v : Value) : Prop := ∃ Q, D W v Q ∧ (0 < n → Q = lowQ (eS b g n c n) (eM (b + g) n))
def DenF (b g n : Nat) (c : Int) (W : World) (v : Value) : Prop := ∃ Q, D W v Q ∧ dn Q = lowQ (eS b g n c n) (eM (b + g) n) ∧ (0 < n → Q = lowQ (eS b g n c n) (eM (b + g) n))
/-- the sum under way in its box -/
def SumB (X : Nat) (b g : Nat) (n c : Int) (s : Nat) (W : World) : Prop := ∃ po pl pc qo ql qc Q, Bxs X [.slice po pl pc, .slice qo ql qc] W ∧ D W (.slice po pl pc) (lowP (eS b g n c s) (eM (b + g) s)) ∧ D W (.slice qo ql qc) Q ∧ dn Q = lowQ (eS b g n c s) (eM (b + g) s) ∧ (0 < s → Q = lowQ (eS b g n c s) (eM (b + g) s))
theorem SumB.next {X b g s : Nat} {n c : Int} {W W' : World} (h : SumB X b g n c s W) (hb : Below W.heap.size W W') : SumB X b g n c s W' := by
  obtain ⟨po, pl, pc, qo, ql, qc, Q, h1, h2, h3, h4⟩ := h
  exact ⟨po, pl, pc, qo, ql, qc, Q, h1.next hb, h2.below hb, h3.below hb, h4⟩
theorem SumB.zero {X b g : Nat} {n c : Int} {W : World} (h : Bxs X [.slice none 0 0, .slice none 0 0] W) : SumB X b g n c 0 W :=
  ⟨none, 0, 0, none, 0, 0, 0, h, by show D W _ (lowP 0 1); exact IsN.zero _ _ _ _ _, IsN.zero _ _ _ _ _, by show dn 0 = lowQ 0 1; rfl, fun h => absurd h (Nat.lt_irrefl _)⟩
set_option maxHeartbeats 4000000 in
set_option maxRecDepth 100000 in
theorem Expect_dn {b g n : Nat} {c : Int} {W : World} (hbg : b + g ≤ 60) (hn : n ≤ b + g) (hc0 : 0 ≤ c) (hc1 : c ≤ 9223372036854775807) :
    Calls Tryz.prog 13 #[.int .i64 ((b + g : Nat) : Int), .int .i64 b, .int .i64 n, .int .i64 c] W fun e w' => ∃ ao al ac bo bl bc, e = .returned (.tuple #[.agg #[.slice ao al ac, .slice bo bl bc], .int .i64 0]) ∧
      D w' (.slice ao al ac) (lowP (eS b g n c n) (eM (b + g) n)) ∧ DenF b g n c w' (.slice bo bl bc) ∧ Below W.heap.size W w' := by
  obtain ⟨w1, HW⟩ : ∃ w1, w1 = W.alloc (.cells #[.slice none 0 0, .slice none 0 0] 31) := ⟨_, rfl⟩
  have hb : Below W.heap.size W w1 := by rw [HW]; exact alloc1_below _ _
  have r1 : Bxs W.heap.size [.slice none 0 0, .slice none 0 0] w1 := by rw [HW]; exact Bxs.new2 _ _ _ _
  have HSO : Hid (∀ W', Calls Tryz.prog 33 #[.int .i64 ((b + g : Nat) : Int), .int .i64 b] W' fun e w' => ∃ so sl sc po pl pc, e = .returned (.agg #[.int .i64 ((b + g : Nat) : Int), .slice so sl sc, .slice po pl pc]) ∧ Hid (NRow w' (.slice so sl sc) (b + 1) (pascalN b)) ∧ Hid (NRow w' (.slice po pl pc) (g + 1) (pascalN g)) ∧ Hid (Below W'.heap.size W' w')) := fun W' => by
    have := samplesOf_any (b + g) b W' (by omega) (by omega)
    rw [show b + g - b = g by omega] at this
    refine this.mono fun e w' ⟨vb, vg, h1, h2, h3, h4⟩ => ?_
    obtain ⟨_, _, _, rfl⟩ := h2.out.slice
    obtain ⟨_, _, _, rfl⟩ := h3.out.slice
    exact ⟨_, _, _, _, _, _, h1, h2, h3, h4⟩
  have HF1 := isFrom_is (decide_eq_true (show (0 : Int) ≤ ((b + g : Nat) : Int) ∧ ((b + g : Nat) : Int) ≤ 256 by omega))
  have HF2 := isFrom_is (decide_eq_true (show (0 : Int) ≤ (b : Int) ∧ (b : Int) ≤ ((b + g : Nat) : Int) by omega))
  have HF3 := isFrom_is (decide_eq_true (show (0 : Int) ≤ (n : Int) ∧ (n : Int) ≤ ((b + g : Nat) : Int) by omega))
  obtain ⟨mg, hmg⟩ : ∃ mg : Int, mg = (n : Int) - c - 1 := ⟨_, rfl⟩
  have HCH : Hid (∀ W' vb vg (s : Nat) (lo : Int), s < n → lo = (s : Int) - mg → NRow W' vb (b + 1) (pascalN b) → NRow W' vg (g + 1) (pascalN g) → Calls Tryz.prog 39 #[.agg #[.int .i64 ((b + g : Nat) : Int), vb, vg], .int .i64 s, .int .i64 lo, .int .i64 c] W' fun e w' => ∃ ao al ac bo bl bc, e = .returned (.agg #[.slice ao al ac, .slice bo bl bc]) ∧
      D w' (.slice ao al ac) (lowP (opens b g n c s) (pascalN (b + g) s)) ∧ D w' (.slice bo bl bc) (lowQ (opens b g n c s) (pascalN (b + g) s)) ∧ Below W'.heap.size W' w') := fun W' vb vg s lo hs hlo h1 h2 => by
    obtain ⟨top, htop⟩ : ∃ top, min c (s : Int) = top := ⟨_, rfl⟩
    obtain ⟨a, ha⟩ : ∃ a : Nat, max lo 0 = (a : Int) := ⟨(max lo 0).toNat, by omega⟩
    obtain ⟨N, hN⟩ : ∃ N : Nat, (N : Int) = max 0 (top + 1 - a) := ⟨(max 0 (top + 1 - a)).toNat, by omega⟩
    have := chance_any (W := W') (a := a) (lo := lo) (hi := c) (n := s) h1 h2 (by omega) (by omega) ha htop hN (by omega)
    rwa [opens_sum (n := (n : Int)) hc0 (by omega) (by omega) ha htop hN] at this
  have HAD : Hid (∀ W' v u x y (s Q : Nat), s < n → D W' v (lowP (eS b g n c s) (eM (b + g) s)) → D W' u Q → dn Q = lowQ (eS b g n c s) (eM (b + g) s) → D W' x (lowP (opens b g n c s) (pascalN (b + g) s)) → D W' y (lowQ (opens b g n c s) (pascalN (b + g) s)) → Calls Tryz.prog 40 #[.agg #[v, u], .agg #[x, y]] W' fun e w' => ∃ ao al ac bo bl bc, e = .returned (.tuple #[.agg #[.slice ao al ac, .slice bo bl bc], .int .i64 0]) ∧ D w' (.slice ao al ac) (lowP (eS b g n c (s + 1)) (eM (b + g) (s + 1))) ∧ D w' (.slice bo bl bc) (lowQ (eS b g n c (s + 1)) (eM (b + g) (s + 1))) ∧ Below W'.heap.size W' w') := fun W' v u x y s Q hs h1 h2 h3 h4 h5 => by
    obtain ⟨K, hK⟩ : ∃ K, K = 3606 := ⟨_, rfl⟩
    have hz := eS_big (b := b) (g := g) (k := s) (n := (n : Int)) (c := c) hbg (by omega) hK
    have hp : pascalN (b + g) s ≤ 2 ^ 60 := Nat.le_trans (pascalN_le _ _) (Nat.pow_le_pow_right (by decide) hbg)
    exact FAdd_gen (j := 60) h1 h2 h3 h4 h5 (eM_pos (by omega)) (pascalN_pos (by omega)) hz.1 hz.2 (Nat.le_trans (opens_le _ _ _ _ _) hp) hp (by omega)
  have hw1 : IntKind.i64.wrap ((n : Int) - c) = (n : Int) - c := IntWalk.i64_in _ (by omega)
  have hw2 : IntKind.i64.wrap ((n : Int) - c - 1) = mg := by rw [IntWalk.i64_in _ (by omega)]; omega
  have hmg1 : (n : Int) - 9223372036854775808 ≤ mg := by omega
  have hmg2 : mg ≤ 100 := by omega
  have hn60 : n ≤ 60 := by omega
  have hc : ¬ c < 0 := by omega
  have HEP : Hid (∀ k, k ≤ n → k ≤ b + g + 1) := fun k hk => by omega
  obtain ⟨lt, hlt⟩ : ∃ lt : Nat, lt = b + g := ⟨_, rfl⟩
  have HLT := Lib.hid hlt
  rw [show ((b + g : Nat) : Int) = (lt : Int) by rw [hlt]] at HF1 HF2 HF3 HCH HSO ⊢
  have HB := Lib.hid hb; have HR := Lib.hid r1; have HW' := Lib.hid HW
  clear hb r1 HW hbg hn hlt hmg hc0
  go_enter Tryz.func13, Tryz.ntmps13
  go_upto_region 1 with fail
  rw [← HW'.out]
  go_wp2_with fail
  refine (HF1.out _).mono ?_
  rintro e w' ⟨rfl, rfl⟩
  go_wp2_with fail
  refine (HF2.out _).mono ?_
  rintro e w' ⟨rfl, rfl⟩
  go_wp2_with fail
  refine (HF3.out _).mono ?_
  rintro e w' ⟨rfl, rfl⟩
  go_wp2_with fail
  refine (HSO.out _).mono ?_
  rintro e w2 ⟨so, sl, sc, po, pl, pc, rfl, h1, h2, hb2⟩
  obtain ⟨w3, HW3⟩ : ∃ w3, w3 = w2.alloc (.cells #[.int .i64 lt, .slice so sl sc, .slice po pl pc] 62) := ⟨_, rfl⟩
  have b3 : Below w2.heap.size w2 w3 := by rw [HW3]; exact alloc1_below _ _
  have x3 : Sx w2.heap.size lt (.slice so sl sc) (.slice po pl pc) w3 := by rw [HW3]; exact Sx.new w2 lt _ _ _
  obtain ⟨w4, HW4⟩ : ∃ w4, w4 = w3.alloc (.cells #[.slice none 0 0, .slice none 0 0] 31) := ⟨_, rfl⟩
  have b4 : Below w3.heap.size w3 w4 := by rw [HW4]; exact alloc1_below _ _
  have x4 : Bxs w3.heap.size [.slice none 0 0, .slice none 0 0] w4 := by rw [HW4]; exact Bxs.new2 _ _ _ _
  have s3 : w3.heap.size = w2.heap.size + 1 := by rw [HW3, World.size_alloc]
  have b23 := hb2.out.trans (b3.mono hb2.out.size)
  have HN : Hid (∀ W', Kw w3 W' → NRow W' (.slice so sl sc) (b + 1) (pascalN b) ∧ NRow W' (.slice po pl pc) (g + 1) (pascalN g)) := fun W' h => ⟨(h1.out.below b3).below h, (h2.out.below b3).below h⟩
  have HC : Hid (∀ W', Kw w3 W' → (W'.cell? ⟨w2.heap.size, 0, none⟩ = some (.int .i64 lt) ∧ W'.cell? ⟨w2.heap.size, 1, none⟩ = some (.slice so sl sc) ∧ W'.cell? ⟨w2.heap.size, 2, none⟩ = some (.slice po pl pc)) ∧ Bxs W.heap.size [.slice none 0 0, .slice none 0 0] W') := fun W' h => ⟨⟨(x3.next h).c0, (x3.next h).c1, (x3.next h).c2⟩, (HR.out.next b23).next h⟩
  have HB3 : Hid (Below W.heap.size W w3) := HB.out.trans (b23.mono HB.out.size)
  have HK4 : Hid (Kw w3 w4) := b4
  have HS4 : Hid (SumB (w2.heap.size + 1) b g n c 0 w4) := by
    have := SumB.zero (b := b) (g := g) (n := (n : Int)) (c := c) x4
    rw [s3] at this
    exact this
  have HW3' := Lib.hid HW3; have HW4' := Lib.hid HW4; have HS3 := Lib.hid s3
  clear h1 h2 hb2 b3 x3 b4 x4 s3 b23 HW3 HW4
  go_upto_region 5 with fail
  rw [← HW3'.out, ← HW4'.out]
  go_wp2_with fail
  go_loopw [13, 14, 43] (fun _ _ t wr => ∃ s : Nat, s ≤ n ∧ t = .int .i64 s ∧ Hid (Kw w3 wr) ∧ Hid (SumB (w2.heap.size + 1) b g n c s wr)) (fun _ _ t _ => n - (intOf t).toNat)
  case atStart => exact ⟨0, Nat.zero_le _, rfl, HK4, HS4⟩
  case round =>
    obtain ⟨s, hs, rfl, HK, HS⟩ := hrel
    by_cases hlt : s < n
    · have hlt2 : (s : Int) < n := by omega
      have hw3 : IntKind.i64.wrap ((s : Int) - mg) = (s : Int) - mg := IntWalk.i64_in _ (by omega)
      have hs1 : IntKind.i64.wrap ((s : Int) + 1) = ((s + 1 : Nat) : Int) := by rw [IntWalk.i64_in _ (by omega)]; omega
      have hcc := (HC.out _ HK.out).1
      have HCH2 := Lib.hid (HCH.out wr _ _ s ((s : Int) - mg) hlt rfl (HN.out _ HK.out).1 (HN.out _ HK.out).2)
      go_wp2_with fail
      refine HCH2.out.mono ?_
      rintro e w5 ⟨ao, al, ac, bo, bl, bc, rfl, hp, hq, hb⟩
      obtain ⟨w6, HW6⟩ : ∃ w6, w6 = w5.alloc (.cells #[.slice ao al ac, .slice bo bl bc] 31) := ⟨_, rfl⟩
      have b6 : Below w5.heap.size w5 w6 := by rw [HW6]; exact alloc1_below _ _
      have x6 : Bxs w5.heap.size [.slice ao al ac, .slice bo bl bc] w6 := by rw [HW6]; exact Bxs.new2 _ _ _ _
      have b56 := hb.trans (b6.mono hb.size)
      have HK6 := Lib.hid (Kw.next HK.out b56)
      obtain ⟨qo, ql, qc, ro, rl, rc, Q, y1, y2, y3, y4, -⟩ := HS.out.next b56
      have HAD2 := Lib.hid (HAD.out w6 _ _ _ _ s Q hlt y2 y3 y4 (hp.below b6) (hq.below b6))
      have HY := Lib.hid y1; have HX := Lib.hid x6; have HW6' := Lib.hid HW6
      clear hp hq hb b6 x6 b56 HW6 y1 y2 y3 y4 hcc HS HK HCH2
      go_upto_region 9 with fail
      rw [← HW6'.out]
      have k0 := HY.out.c0; have k1 := HY.out.c1; have k2 := HX.out.c0; have k3 := HX.out.c1
      go_wp2_with fail
      refine HAD2.out.mono ?_
      rintro e w7 ⟨co, cl, cc, do', dl, dc, rfl, hp, hq, hb⟩
      have z := HY.out.next hb
      have HS8 : Hid (SumB (w2.heap.size + 1) b g n c (s + 1) ((w7.setCell ⟨w2.heap.size + 1, 0, none⟩ (.slice co cl cc)).setCell ⟨w2.heap.size + 1, 1, none⟩ (.slice do' dl dc))) :=
        ⟨co, cl, cc, do', dl, dc, _, z.set2 _ _, IsN_setTwo hp z.c0 z.c1 (by intro d h; cases h) (by intro d h; cases h) _ _, IsN_setTwo hq z.c0 z.c1 (by intro d h; cases h) (by intro d h; cases h) _ _, dn_of (lowQ_pos (eM_pos (HEP.out (s + 1) hlt))), fun _ => rfl⟩
      have HK8 : Hid (Kw w3 ((w7.setCell ⟨w2.heap.size + 1, 0, none⟩ (.slice co cl cc)).setCell ⟨w2.heap.size + 1, 1, none⟩ (.slice do' dl dc))) :=
        Below.setCell (Below.setCell (Kw.next HK6.out hb) (p := ⟨w2.heap.size + 1, 0, none⟩) (by rw [HS3.out]; exact Nat.le_refl _) _) (p := ⟨w2.heap.size + 1, 1, none⟩) (by rw [HS3.out]; exact Nat.le_refl _) _
      have k4 := z.c0; have k5 := z.c1; have k6 := z.f0; have k7 := z.f1
      clear hp hq hb z k0 k1 k2 k3 HAD2
      go_wp2_with fail
      go_roundw
      case rel => exact ⟨s + 1, by omega, rfl, HK8, HS8⟩
      case measure => simp [intOf]; omega
    · have hlt' : ¬ ((s : Int) < n) := by omega
      obtain rfl : s = n := by omega
      obtain ⟨qo, ql, qc, ro, rl, rc, Q, y1, y2, y3, y4, y5⟩ := HS.out
      have z := (HC.out _ HK.out).2
      have k0 := y1.c0; have k1 := y1.c1; have k2 := z.c0; have k3 := z.c1; have k4 := z.f0; have k5 := z.f1
      obtain ⟨z0, z1⟩ := read_two z.c0 z.c1 (.slice qo ql qc) (.slice ro rl rc)
      have HD1 := Lib.hid (z.keep2 y2 (.slice qo ql qc) (.slice ro rl rc)); have HD2 := Lib.hid (z.keep2 y3 (.slice qo ql qc) (.slice ro rl rc)); have HQ := Lib.hid y5; have HQ4 := Lib.hid y4
      have HBE := Lib.hid (((HB3.out.trans (Below.mono HK.out HB3.out.size)).setCell (p := ⟨W.heap.size, 0, none⟩) (Nat.le_refl _) (.slice qo ql qc)).setCell (p := ⟨W.heap.size, 1, none⟩) (Nat.le_refl _) (.slice ro rl rc))
      have HLT2 := HLT
      clear y1 y2 y3 y4 y5 z HS HK
      go_wp2_with fail
      refine bodyPost_ret (v := .tuple #[.agg #[.slice qo ql qc, .slice ro rl rc], .int .i64 0]) (by simp [results, Tryz.results13, go_sem, z0, z1]) rfl ?_
      exact ⟨_, _, _, _, _, _, rfl, HD1.out, ⟨Q, HD2.out, HQ4.out, HQ.out⟩, HBE.out⟩
theorem Expect_any {b g n : Nat} {c : Int} {W : World} (hbg : b + g ≤ 60) (hn : n ≤ b + g) (hc0 : 0 ≤ c) (hc1 : c ≤ 9223372036854775807) :
    Calls Tryz.prog 13 #[.int .i64 ((b + g : Nat) : Int), .int .i64 b, .int .i64 n, .int .i64 c] W fun e w' => ∃ ao al ac bo bl bc, e = .returned (.tuple #[.agg #[.slice ao al ac, .slice bo bl bc], .int .i64 0]) ∧
      D w' (.slice ao al ac) (lowP (eS b g n c n) (eM (b + g) n)) ∧ DenE b g n c w' (.slice bo bl bc) ∧ Below W.heap.size W w' :=
  (Expect_dn hbg hn hc0 hc1).mono fun e w' ⟨ao, al, ac, bo, bl, bc, e1, e2, ⟨Q, e3, _, e5⟩, e6⟩ => ⟨ao, al, ac, bo, bl, bc, e1, e2, ⟨Q, e3, e5⟩, e6⟩
end Go.Proofs.YtcmancfdlfhgbaaGreatDoor
