/- Contracts and lemmas (several texts merged into one). -/
import Derived.Test.YtcmancfdlfhgbaaDoorTSm3
import Derived.OrdersHeld
import Derived.Deep.RegionHeld3
namespace Go.Proofs.YtcmancfdlfhgbaaDoor
open Go Go.RowKit Gu

theorem FMul_gen {v u x y : Value} {L M L' M' k : Nat} {W : World} (hv : D W v (lowP L M)) (hu : D W u (lowQ L M)) (hx : D W x (lowP L' M')) (hy : D W y (lowQ L' M')) (hM : 0 < M) (hM' : 0 < M') (h1 : L ≤ 2 ^ k) (h2 : M ≤ 2 ^ k) (h3 : L' ≤ 2 ^ k) (h4 : M' ≤ 2 ^ k) (hk : k ≤ 4900) :
    Calls Tryd.prog 13 #[.agg #[v, u], .agg #[x, y]] W fun e w' => ∃ ao al ac bo bl bc, e = .returned (.tuple #[.agg #[.slice ao al ac, .slice bo bl bc], .int .i64 0]) ∧ D w' (.slice ao al ac) (lowP (L * L') (M * M')) ∧ D w' (.slice bo bl bc) (lowQ (L * L') (M * M')) ∧ Below W.heap.size W w' := by
  have a1 := Nat.le_trans (lowP_le L M) h1
  have a2 := Nat.le_trans (lowQ_le L M) h2
  have a3 := Nat.le_trans (lowP_le L' M') h3
  have a4 := Nat.le_trans (lowQ_le L' M') h4
  have b1 := Nat.mul_le_mul a1 a3
  have b2 := Nat.mul_le_mul a2 a4
  rw [← Nat.pow_add] at b1 b2
  have := FMul_any v u x y _ _ _ _ W hv hu hx hy (small5 a1 (by omega)) (small5 a2 (by omega)) (small5 a3 (by omega)) (small5 a4 (by omega))
  rw [dn_of (lowQ_pos hM), dn_of (lowQ_pos hM')] at this
  refine this.mono fun e w' h => ?_
  have h' := FRes.low h b1 b2 (by omega)
  rw [(low_prod hM hM').1, (low_prod hM hM').2] at h'
  exact h'
theorem small10 {z k : Nat} (hz : z ≤ 2 ^ k) (hk : k ≤ 10000) : nd 4294967296 z ≤ 100000 := Nat.le_trans (small_nd (m := 400) hz (by omega)) (by decide)
/-- Add, where the first fraction may be the zero value -/
theorem FAdd_gen {v u x y : Value} {L M L' M' Q k j : Nat} {W : World} (hv : D W v (lowP L M)) (hu : D W u Q) (hQ : dn Q = lowQ L M) (hx : D W x (lowP L' M')) (hy : D W y (lowQ L' M')) (hM : 0 < M) (hM' : 0 < M') (h1 : L ≤ 2 ^ k) (h2 : M ≤ 2 ^ k) (h3 : L' ≤ 2 ^ j) (h4 : M' ≤ 2 ^ j) (hk : k + j + 1 ≤ 10000) :
    Calls Tryd.prog 14 #[.agg #[v, u], .agg #[x, y]] W fun e w' => ∃ ao al ac bo bl bc, e = .returned (.tuple #[.agg #[.slice ao al ac, .slice bo bl bc], .int .i64 0]) ∧ D w' (.slice ao al ac) (lowP (L * M' + L' * M) (M * M')) ∧ D w' (.slice bo bl bc) (lowQ (L * M' + L' * M) (M * M')) ∧ Below W.heap.size W w' := by
  have a1 := Nat.le_trans (lowP_le L M) h1
  have a2 := Nat.le_trans (lowQ_le L M) h2
  have a3 := Nat.le_trans (lowP_le L' M') h3
  have a4 := Nat.le_trans (lowQ_le L' M') h4
  have a5 : Q ≤ 2 ^ k := by
    unfold dn at hQ
    split at hQ
    · omega
    · rw [hQ]; exact a2
  have b1 := Nat.mul_le_mul a1 a4
  have b2 := Nat.mul_le_mul a2 a4
  have b3 := Nat.mul_le_mul a3 a2
  rw [Nat.mul_comm (2 ^ j)] at b3
  rw [← Nat.pow_add] at b1 b2 b3
  have b4 : lowP L M * lowQ L' M' + lowP L' M' * lowQ L M ≤ 2 ^ (k + j + 1) := by rw [Nat.pow_succ]; omega
  have b5 : lowQ L M * lowQ L' M' ≤ 2 ^ (k + j + 1) := by rw [Nat.pow_succ]; omega
  have := FAdd_any v u x y _ _ _ _ W hv hu hx hy (small10 a1 (by omega)) (small10 a5 (by omega)) (small10 a3 (by omega)) (small10 a4 (by omega))
  rw [hQ, dn_of (lowQ_pos hM')] at this
  refine this.mono fun e w' h => ?_
  have h' := FRes.low h b4 b5 (by omega)
  rw [(low_plus hM hM').1, (low_plus hM hM').2] at h'
  exact h'
theorem eS_big {b g k K : Nat} {n c : Int} (hl : b + g ≤ 60) (hk : k ≤ b + g) (hK : K = 3606) : eS b g n c k ≤ 2 ^ K ∧ eM (b + g) k ≤ 2 ^ K := by
  obtain ⟨J, hJ⟩ : ∃ J, J = (b + g) * k := ⟨_, rfl⟩
  have h1 := eM_le (b + g) k
  rw [← hJ] at h1
  have h2 : J ≤ 60 * 60 := by rw [hJ]; exact Nat.mul_le_mul hl (by omega)
  refine ⟨Nat.le_trans (eS_le b g n c k) (Nat.le_trans (Nat.mul_le_mul (show k ≤ 2 ^ 6 by omega) h1) ?_), Nat.le_trans h1 (Nat.pow_le_pow_right (by decide) (by omega))⟩
  rw [← Nat.pow_add]
  exact Nat.pow_le_pow_right (by decide) (by omega)
/-- the denominator of the answer -/
def DenE (b g n : Nat) (c : Int) (W : World) (v : Value) : Prop := ∃ Q, D W v Q ∧ (0 < n → Q = lowQ (eS b g n c n) (eM (b + g) n))
/-- the sum under way in its box -/
def SumB (X : Nat) (b g : Nat) (n c : Int) (s : Nat) (W : World) : Prop := ∃ po pl pc qo ql qc Q, Bxs X [.slice po pl pc, .slice qo ql qc] W ∧ D W (.slice po pl pc) (lowP (eS b g n c s) (eM (b + g) s)) ∧ D W (.slice qo ql qc) Q ∧ dn Q = lowQ (eS b g n c s) (eM (b + g) s) ∧ (0 < s → Q = lowQ (eS b g n c s) (eM (b + g) s))
theorem SumB.next {X b g s : Nat} {n c : Int} {W W' : World} (h : SumB X b g n c s W) (hb : Below W.heap.size W W') : SumB X b g n c s W' := by
  obtain ⟨po, pl, pc, qo, ql, qc, Q, h1, h2, h3, h4⟩ := h
  exact ⟨po, pl, pc, qo, ql, qc, Q, h1.next hb, h2.below hb, h3.below hb, h4⟩
theorem SumB.zero {X b g : Nat} {n c : Int} {W : World} (h : Bxs X [.slice none 0 0, .slice none 0 0] W) : SumB X b g n c 0 W :=
  ⟨none, 0, 0, none, 0, 0, 0, h, by show D W _ (lowP 0 1); exact IsN.zero _ _ _ _ _, IsN.zero _ _ _ _ _, by show dn 0 = lowQ 0 1; rfl, fun h => absurd h (Nat.lt_irrefl _)⟩
set_option maxHeartbeats 4000000 in
set_option maxRecDepth 100000 in
theorem Expect_any {b g n : Nat} {c : Int} {W : World} (hbg : b + g ≤ 60) (hn : n ≤ b + g) (hc0 : 0 ≤ c) (hc1 : c ≤ 9223372036854775807) :
    Calls Tryd.prog 12 #[.int .i64 ((b + g : Nat) : Int), .int .i64 b, .int .i64 n, .int .i64 c] W fun e w' => ∃ ao al ac bo bl bc, e = .returned (.tuple #[.agg #[.slice ao al ac, .slice bo bl bc], .int .i64 0]) ∧
      D w' (.slice ao al ac) (lowP (eS b g n c n) (eM (b + g) n)) ∧ DenE b g n c w' (.slice bo bl bc) ∧ Below W.heap.size W w' := by
  obtain ⟨w1, HW⟩ : ∃ w1, w1 = W.alloc (.cells #[.slice none 0 0, .slice none 0 0] 30) := ⟨_, rfl⟩
  have hb : Below W.heap.size W w1 := by rw [HW]; exact alloc1_below _ _
  have r1 : Bxs W.heap.size [.slice none 0 0, .slice none 0 0] w1 := by rw [HW]; exact Bxs.new2 _ _ _ _
  have HSO : Hid (∀ W', Calls Tryd.prog 23 #[.int .i64 ((b + g : Nat) : Int), .int .i64 b] W' fun e w' => ∃ so sl sc po pl pc, e = .returned (.agg #[.int .i64 ((b + g : Nat) : Int), .slice so sl sc, .slice po pl pc]) ∧ Hid (NRow w' (.slice so sl sc) (b + 1) (pascalN b)) ∧ Hid (NRow w' (.slice po pl pc) (g + 1) (pascalN g)) ∧ Hid (Below W'.heap.size W' w')) := fun W' => by
    have := samplesOf_any (b + g) b W' (by omega) (by omega)
    rw [show b + g - b = g by omega] at this
    refine this.mono fun e w' ⟨vb, vg, h1, h2, h3, h4⟩ => ?_
    obtain ⟨_, _, _, rfl⟩ := h2.out.slice
    obtain ⟨_, _, _, rfl⟩ := h3.out.slice
    exact ⟨_, _, _, _, _, _, h1, h2, h3, h4⟩
  have HF1 := isFrom_is (decide_eq_true (show (0 : Int) ≤ ((b + g : Nat) : Int) ∧ ((b + g : Nat) : Int) ≤ 256 by omega))
  have HF2 := isFrom_is (decide_eq_true (show (0 : Int) ≤ (b : Int) ∧ (b : Int) ≤ ((b + g : Nat) : Int) by omega))
  have HF3 := isFrom_is (decide_eq_true (show (0 : Int) ≤ (n : Int) ∧ (n : Int) ≤ ((b + g : Nat) : Int) by omega))
  obtain ⟨mg, hmg⟩ : ∃ mg : Int, mg = (n : Int) - c - 1 := ⟨_, rfl⟩
  have HCH : Hid (∀ W' vb vg (s : Nat) (lo : Int), s < n → lo = (s : Int) - mg → NRow W' vb (b + 1) (pascalN b) → NRow W' vg (g + 1) (pascalN g) → Calls Tryd.prog 25 #[.agg #[.int .i64 ((b + g : Nat) : Int), vb, vg], .int .i64 s, .int .i64 lo, .int .i64 c] W' fun e w' => ∃ ao al ac bo bl bc, e = .returned (.agg #[.slice ao al ac, .slice bo bl bc]) ∧
      D w' (.slice ao al ac) (lowP (opens b g n c s) (pascalN (b + g) s)) ∧ D w' (.slice bo bl bc) (lowQ (opens b g n c s) (pascalN (b + g) s)) ∧ Below W'.heap.size W' w') := fun W' vb vg s lo hs hlo h1 h2 => by
    obtain ⟨top, htop⟩ : ∃ top, min c (s : Int) = top := ⟨_, rfl⟩
    obtain ⟨a, ha⟩ : ∃ a : Nat, max lo 0 = (a : Int) := ⟨(max lo 0).toNat, by omega⟩
    obtain ⟨N, hN⟩ : ∃ N : Nat, (N : Int) = max 0 (top + 1 - a) := ⟨(max 0 (top + 1 - a)).toNat, by omega⟩
    have := chance_any (W := W') (a := a) (lo := lo) (hi := c) (n := s) h1 h2 (by omega) (by omega) ha htop hN (by omega)
    rwa [opens_sum (n := (n : Int)) hc0 (by omega) (by omega) ha htop hN] at this
  have HAD : Hid (∀ W' v u x y (s Q : Nat), s < n → D W' v (lowP (eS b g n c s) (eM (b + g) s)) → D W' u Q → dn Q = lowQ (eS b g n c s) (eM (b + g) s) → D W' x (lowP (opens b g n c s) (pascalN (b + g) s)) → D W' y (lowQ (opens b g n c s) (pascalN (b + g) s)) → Calls Tryd.prog 14 #[.agg #[v, u], .agg #[x, y]] W' fun e w' => ∃ ao al ac bo bl bc, e = .returned (.tuple #[.agg #[.slice ao al ac, .slice bo bl bc], .int .i64 0]) ∧ D w' (.slice ao al ac) (lowP (eS b g n c (s + 1)) (eM (b + g) (s + 1))) ∧ D w' (.slice bo bl bc) (lowQ (eS b g n c (s + 1)) (eM (b + g) (s + 1))) ∧ Below W'.heap.size W' w') := fun W' v u x y s Q hs h1 h2 h3 h4 h5 => by
    obtain ⟨K, hK⟩ : ∃ K, K = 3606 := ⟨_, rfl⟩
    have hz := eS_big (b := b) (g := g) (k := s) (n := (n : Int)) (c := c) hbg (by omega) hK
    have hp : pascalN (b + g) s ≤ 2 ^ 60 := Nat.le_trans (pascalN_le _ _) (Nat.pow_le_pow_right (by decide) hbg)
    exact FAdd_gen (j := 60) h1 h2 h3 h4 h5 (eM_pos (by omega)) (pascalN_pos (by omega)) hz.1 hz.2 (Nat.le_trans (opens_le _ _ _ _ _) hp) hp (by omega)
  have hw1 : IntKind.i64.wrap ((n : Int) - c) = (n : Int) - c := IntWalk.i64_in _ (by omega)
  have hw2 : IntKind.i64.wrap ((n : Int) - c - 1) = mg := by rw [IntWalk.i64_in _ (by omega)]; omega
  have hmg1 : (n : Int) - 9223372036854775808 ≤ mg := by omega
  have hmg2 : mg ≤ 100 := by omega
  have hn60 : n ≤ 60 := by omega
  have hc : ¬ c < 0 := by omega
  have HEP : Hid (∀ k, k ≤ n → k ≤ b + g + 1) := fun k hk => by omega
  obtain ⟨lt, hlt⟩ : ∃ lt : Nat, lt = b + g := ⟨_, rfl⟩
  have HLT := Lib.hid hlt
  rw [show ((b + g : Nat) : Int) = (lt : Int) by rw [hlt]] at HF1 HF2 HF3 HCH HSO ⊢
  have HB := Lib.hid hb; have HR := Lib.hid r1; have HW' := Lib.hid HW
  clear hb r1 HW hbg hn hlt hmg hc0
  go_enter Tryd.func12, Tryd.ntmps12
  go_upto_region 1 with fail
  rw [← HW'.out]
  go_wp2_with fail
  refine (HF1.out _).mono ?_
  rintro e w' ⟨rfl, rfl⟩
  go_wp2_with fail
  refine (HF2.out _).mono ?_
  rintro e w' ⟨rfl, rfl⟩
  go_wp2_with fail
  refine (HF3.out _).mono ?_
  rintro e w' ⟨rfl, rfl⟩
  go_wp2_with fail
  refine (HSO.out _).mono ?_
  rintro e w2 ⟨so, sl, sc, po, pl, pc, rfl, h1, h2, hb2⟩
  obtain ⟨w3, HW3⟩ : ∃ w3, w3 = w2.alloc (.cells #[.int .i64 lt, .slice so sl sc, .slice po pl pc] 47) := ⟨_, rfl⟩
  have b3 : Below w2.heap.size w2 w3 := by rw [HW3]; exact alloc1_below _ _
  have x3 : Sx w2.heap.size lt (.slice so sl sc) (.slice po pl pc) w3 := by rw [HW3]; exact Sx.new w2 lt _ _ _
  obtain ⟨w4, HW4⟩ : ∃ w4, w4 = w3.alloc (.cells #[.slice none 0 0, .slice none 0 0] 30) := ⟨_, rfl⟩
  have b4 : Below w3.heap.size w3 w4 := by rw [HW4]; exact alloc1_below _ _
  have x4 : Bxs w3.heap.size [.slice none 0 0, .slice none 0 0] w4 := by rw [HW4]; exact Bxs.new2 _ _ _ _
  have s3 : w3.heap.size = w2.heap.size + 1 := by rw [HW3, World.size_alloc]
  have b23 := hb2.out.trans (b3.mono hb2.out.size)
  have HN : Hid (∀ W', Kw w3 W' → NRow W' (.slice so sl sc) (b + 1) (pascalN b) ∧ NRow W' (.slice po pl pc) (g + 1) (pascalN g)) := fun W' h => ⟨(h1.out.below b3).below h, (h2.out.below b3).below h⟩
  have HC : Hid (∀ W', Kw w3 W' → (W'.cell? ⟨w2.heap.size, 0, none⟩ = some (.int .i64 lt) ∧ W'.cell? ⟨w2.heap.size, 1, none⟩ = some (.slice so sl sc) ∧ W'.cell? ⟨w2.heap.size, 2, none⟩ = some (.slice po pl pc)) ∧ Bxs W.heap.size [.slice none 0 0, .slice none 0 0] W') := fun W' h => ⟨⟨(x3.next h).c0, (x3.next h).c1, (x3.next h).c2⟩, (HR.out.next b23).next h⟩
  have HB3 : Hid (Below W.heap.size W w3) := HB.out.trans (b23.mono HB.out.size)
  have HK4 : Hid (Kw w3 w4) := b4
  have HS4 : Hid (SumB (w2.heap.size + 1) b g n c 0 w4) := by
    have := SumB.zero (b := b) (g := g) (n := (n : Int)) (c := c) x4
    rw [s3] at this
    exact this
  have HW3' := Lib.hid HW3; have HW4' := Lib.hid HW4; have HS3 := Lib.hid s3
  clear h1 h2 hb2 b3 x3 b4 x4 s3 b23 HW3 HW4
  go_upto_region 5 with fail
  rw [← HW3'.out, ← HW4'.out]
  go_wp2_with fail
  go_loopw [13, 14, 43] (fun _ _ t wr => ∃ s : Nat, s ≤ n ∧ t = .int .i64 s ∧ Hid (Kw w3 wr) ∧ Hid (SumB (w2.heap.size + 1) b g n c s wr)) (fun _ _ t _ => n - (intOf t).toNat)
  case atStart => exact ⟨0, Nat.zero_le _, rfl, HK4, HS4⟩
  case round =>
    obtain ⟨s, hs, rfl, HK, HS⟩ := hrel
    by_cases hlt : s < n
    · have hlt2 : (s : Int) < n := by omega
      have hw3 : IntKind.i64.wrap ((s : Int) - mg) = (s : Int) - mg := IntWalk.i64_in _ (by omega)
      have hs1 : IntKind.i64.wrap ((s : Int) + 1) = ((s + 1 : Nat) : Int) := by rw [IntWalk.i64_in _ (by omega)]; omega
      have hcc := (HC.out _ HK.out).1
      have HCH2 := Lib.hid (HCH.out wr _ _ s ((s : Int) - mg) hlt rfl (HN.out _ HK.out).1 (HN.out _ HK.out).2)
      go_wp2_with fail
      refine HCH2.out.mono ?_
      rintro e w5 ⟨ao, al, ac, bo, bl, bc, rfl, hp, hq, hb⟩
      obtain ⟨w6, HW6⟩ : ∃ w6, w6 = w5.alloc (.cells #[.slice ao al ac, .slice bo bl bc] 30) := ⟨_, rfl⟩
      have b6 : Below w5.heap.size w5 w6 := by rw [HW6]; exact alloc1_below _ _
      have x6 : Bxs w5.heap.size [.slice ao al ac, .slice bo bl bc] w6 := by rw [HW6]; exact Bxs.new2 _ _ _ _
      have b56 := hb.trans (b6.mono hb.size)
      have HK6 := Lib.hid (Kw.next HK.out b56)
      obtain ⟨qo, ql, qc, ro, rl, rc, Q, y1, y2, y3, y4, -⟩ := HS.out.next b56
      have HAD2 := Lib.hid (HAD.out w6 _ _ _ _ s Q hlt y2 y3 y4 (hp.below b6) (hq.below b6))
      have HY := Lib.hid y1; have HX := Lib.hid x6; have HW6' := Lib.hid HW6
      clear hp hq hb b6 x6 b56 HW6 y1 y2 y3 y4 hcc HS HK HCH2
      go_upto_region 9 with fail
      rw [← HW6'.out]
      have k0 := HY.out.c0; have k1 := HY.out.c1; have k2 := HX.out.c0; have k3 := HX.out.c1
      go_wp2_with fail
      refine HAD2.out.mono ?_
      rintro e w7 ⟨co, cl, cc, do', dl, dc, rfl, hp, hq, hb⟩
      have z := HY.out.next hb
      have HS8 : Hid (SumB (w2.heap.size + 1) b g n c (s + 1) ((w7.setCell ⟨w2.heap.size + 1, 0, none⟩ (.slice co cl cc)).setCell ⟨w2.heap.size + 1, 1, none⟩ (.slice do' dl dc))) :=
        ⟨co, cl, cc, do', dl, dc, _, z.set2 _ _, IsN_setTwo hp z.c0 z.c1 (by intro d h; cases h) (by intro d h; cases h) _ _, IsN_setTwo hq z.c0 z.c1 (by intro d h; cases h) (by intro d h; cases h) _ _, dn_of (lowQ_pos (eM_pos (HEP.out (s + 1) hlt))), fun _ => rfl⟩
      have HK8 : Hid (Kw w3 ((w7.setCell ⟨w2.heap.size + 1, 0, none⟩ (.slice co cl cc)).setCell ⟨w2.heap.size + 1, 1, none⟩ (.slice do' dl dc))) :=
        Below.setCell (Below.setCell (Kw.next HK6.out hb) (p := ⟨w2.heap.size + 1, 0, none⟩) (by rw [HS3.out]; exact Nat.le_refl _) _) (p := ⟨w2.heap.size + 1, 1, none⟩) (by rw [HS3.out]; exact Nat.le_refl _) _
      have k4 := z.c0; have k5 := z.c1; have k6 := z.f0; have k7 := z.f1
      clear hp hq hb z k0 k1 k2 k3 HAD2
      go_wp2_with fail
      go_roundw
      case rel => exact ⟨s + 1, by omega, rfl, HK8, HS8⟩
      case measure => simp [intOf]; omega
    · have hlt' : ¬ ((s : Int) < n) := by omega
      obtain rfl : s = n := by omega
      obtain ⟨qo, ql, qc, ro, rl, rc, Q, y1, y2, y3, y4, y5⟩ := HS.out
      have z := (HC.out _ HK.out).2
      have k0 := y1.c0; have k1 := y1.c1; have k2 := z.c0; have k3 := z.c1; have k4 := z.f0; have k5 := z.f1
      obtain ⟨z0, z1⟩ := read_two z.c0 z.c1 (.slice qo ql qc) (.slice ro rl rc)
      have HD1 := Lib.hid (z.keep2 y2 (.slice qo ql qc) (.slice ro rl rc)); have HD2 := Lib.hid (z.keep2 y3 (.slice qo ql qc) (.slice ro rl rc)); have HQ := Lib.hid y5
      have HBE := Lib.hid (((HB3.out.trans (Below.mono HK.out HB3.out.size)).setCell (p := ⟨W.heap.size, 0, none⟩) (Nat.le_refl _) (.slice qo ql qc)).setCell (p := ⟨W.heap.size, 1, none⟩) (Nat.le_refl _) (.slice ro rl rc))
      have HLT2 := HLT
      clear y1 y2 y3 y4 y5 z HS HK
      go_wp2_with fail
      refine bodyPost_ret (v := .tuple #[.agg #[.slice qo ql qc, .slice ro rl rc], .int .i64 0]) (by simp [results, Tryd.results12, go_sem, z0, z1]) rfl ?_
      exact ⟨_, _, _, _, _, _, rfl, HD1.out, ⟨Q, HD2.out, HQ.out⟩, HBE.out⟩
end Go.Proofs.YtcmancfdlfhgbaaDoor
namespace Go.Proofs.YtcmancfdlfhgbaaDoor
open Go Go.RowKit Gu

/-- both risks are kept, by the probabilities of acceptance -/
def KeepA (b g n m c : Nat) : Prop := pascalN (b + g) n * m ≤ accS b g n c * 1000000
def KeepC (b g n be c : Nat) : Prop := accS b g n c * 1000000 ≤ pascalN (b + g) n * be
theorem accS_nat (b g n c : Nat) : accS b g n (c : Int) = hsum b g n 0 (c + 1) := by unfold accS; rw [show ((c : Int) + 1).toNat = c + 1 by omega]
theorem least_exists (b g n m : Nat) : ∃ c, LeastC b g n m c := by
  have h : ∀ k, k ≤ n → (∃ c, c ≤ k ∧ LeastC b g n m c) ∨ ∀ j, j < k → hsum b g n 0 (j + 1) * 1000000 < pascalN (b + g) n * m := by
    intro k
    induction k with
    | zero => exact fun _ => .inr fun j hj => absurd hj (Nat.not_lt_zero _)
    | succ k ih =>
      intro hk
      rcases ih (by omega) with ⟨c, h1, h2⟩ | h
      · exact .inl ⟨c, by omega, h2⟩
      · by_cases hx : hsum b g n 0 (k + 1) * 1000000 < pascalN (b + g) n * m
        · exact .inr fun j hj => by
            rcases Nat.eq_or_lt_of_le (Nat.le_of_lt_succ hj) with e | e
            · rw [e]; exact hx
            · exact h j e
        · exact .inl ⟨k, by omega, by omega, h, fun _ => by omega⟩
  rcases h n (Nat.le_refl _) with ⟨c, _, h2⟩ | h2
  · exact ⟨c, h2⟩
  · exact ⟨n, Nat.le_refl _, h2, fun h => absurd h (Nat.lt_irrefl _)⟩
theorem plan_keeps {b1 g1 b2 g2 n c al be : Nat} (h1 : LeastC b1 g1 n (1000000 - al) c) (h2 : KeepB b2 g2 n be c) : KeepA b1 g1 n (1000000 - al) c ∧ KeepC b2 g2 n be c := by
  refine ⟨?_, ?_⟩
  · unfold KeepA
    rw [accS_nat]
    rcases Nat.eq_or_lt_of_le h1.1 with e | e
    · rw [e, hsum_all]; exact Nat.mul_le_mul_left _ (Nat.sub_le _ _)
    · exact h1.2.2 e
  · unfold KeepC
    rw [accS_nat]; exact h2
theorem plan_smaller {b1 g1 b2 g2 n c m d al be : Nat} (h1 : LeastC b1 g1 n (1000000 - al) c) (h3 : ∀ m, m < n → ∀ d, LeastC b1 g1 m (1000000 - al) d → ¬ KeepB b2 g2 m be d) (hmd : m < n ∨ m = n ∧ d < c) : ¬ (KeepA b1 g1 m (1000000 - al) d ∧ KeepC b2 g2 m be d) := by
  rintro ⟨k1, k2⟩
  unfold KeepA at k1
  unfold KeepC at k2
  rw [accS_nat] at k1 k2
  rcases hmd with h | ⟨rfl, h⟩
  · obtain ⟨e, he⟩ := least_exists b1 g1 m (1000000 - al)
    have hn := h3 m h e he
    unfold KeepB at hn
    have hde : e ≤ d := Nat.le_of_not_lt fun hx => by
      have := he.2.1 d hx
      omega
    have := hsum_mono (b := b2) (g := g2) (n := m) (a := 0) (show e + 1 ≤ d + 1 by omega)
    have := Nat.mul_le_mul_right 1000000 this
    omega
  · have := h1.2.1 d h
    omega
theorem million_le : (1000000 : Nat) ≤ 2 ^ 100 := by decide
theorem acc100 {b g n : Nat} (c : Int) (h : b + g ≤ 60) : accS b g n c ≤ 2 ^ 100 ∧ pascalN (b + g) n ≤ 2 ^ 100 := by
  have h1 : pascalN (b + g) n ≤ 2 ^ 100 := Nat.le_trans (pascalN_le _ _) (Nat.pow_le_pow_right (by decide) (by omega))
  exact ⟨Nat.le_trans (accS_le _ _ _ _) h1, h1⟩
/-- what each operation yields -/
def TE (w0 : World) (go ho : Option Addr) (gl gc hl hc ap ma : Nat) : Nat → (Nat → Value) → World → Prop
  | 0, x, _ => x 0 = .int .i64 0
  | 1, x, _ => x 1 = .bool true
  | 2, x, _ => x 2 = .bool true
  | 3, x, _ => x 3 = .int .i64 0
  | 4, x, _ => x 4 = .bool true
  | 5, x, _ => x 5 = .bool true
  | 6, x, _ => x 6 = .bool true
  | 7, x, _ => x 7 = .agg #[.slice go gl gc, .slice ho hl hc]
  | 8, x, _ => x 8 = .int .i64 (ap : Int)
  | 9, x, _ => x 9 = .int .i64 (ma : Int)
  | 10, x, w => ∃ ao ai ac bo bl bc, x 10 = .agg #[.slice ao ai ac, .slice bo bl bc] ∧ D w (.slice ao ai ac) (lowP ma 1000000) ∧ D w (.slice bo bl bc) (lowQ ma 1000000)
  | 11, x, _ => x 11 = .int .i64 (-1)
  | 12, x, _ => x 12 = .bool false
  | 13, x, _ => x 13 = .bool false
  | 14, x, _ => x 14 = .bool false
  | 15, x, _ => x 15 = undef
  | 16, x, _ => x 16 = undef
  | 17, x, _ => x 17 = undef
  | 18, x, _ => x 18 = undef
  | 19, x, _ => x 19 = undef
  | 20, x, _ => x 20 = .bool false
  | 21, x, _ => x 21 = .bool false
  | _ + 22, _, _ => True
def TEkill : Nat → Option Nat
  | _ => none
theorem TE.congr {w0 : World} {go ho : Option Addr} {gl gc hl hc ap ma : Nat} {DD : Nat → List Nat}  : ∀ i x y w, (∀ j, j = i ∨ j ∈ DD i → x j = y j) → TE w0 go ho gl gc hl hc ap ma i x w → TE w0 go ho gl gc hl hc ap ma i y w
  | 0, x, y, w, h, t => by have e := h 0 (.inl rfl); simp only [TE] at t ⊢; rw [← e]; exact t
  | 1, x, y, w, h, t => by have e := h 1 (.inl rfl); simp only [TE] at t ⊢; rw [← e]; exact t
  | 2, x, y, w, h, t => by have e := h 2 (.inl rfl); simp only [TE] at t ⊢; rw [← e]; exact t
  | 3, x, y, w, h, t => by have e := h 3 (.inl rfl); simp only [TE] at t ⊢; rw [← e]; exact t
  | 4, x, y, w, h, t => by have e := h 4 (.inl rfl); simp only [TE] at t ⊢; rw [← e]; exact t
  | 5, x, y, w, h, t => by have e := h 5 (.inl rfl); simp only [TE] at t ⊢; rw [← e]; exact t
  | 6, x, y, w, h, t => by have e := h 6 (.inl rfl); simp only [TE] at t ⊢; rw [← e]; exact t
  | 7, x, y, w, h, t => by have e := h 7 (.inl rfl); simp only [TE] at t ⊢; rw [← e]; exact t
  | 8, x, y, w, h, t => by have e := h 8 (.inl rfl); simp only [TE] at t ⊢; rw [← e]; exact t
  | 9, x, y, w, h, t => by have e := h 9 (.inl rfl); simp only [TE] at t ⊢; rw [← e]; exact t
  | 10, x, y, w, h, t => by have e := h 10 (.inl rfl); simp only [TE] at t ⊢; rw [← e]; exact t
  | 11, x, y, w, h, t => by have e := h 11 (.inl rfl); simp only [TE] at t ⊢; rw [← e]; exact t
  | 12, x, y, w, h, t => by have e := h 12 (.inl rfl); simp only [TE] at t ⊢; rw [← e]; exact t
  | 13, x, y, w, h, t => by have e := h 13 (.inl rfl); simp only [TE] at t ⊢; rw [← e]; exact t
  | 14, x, y, w, h, t => by have e := h 14 (.inl rfl); simp only [TE] at t ⊢; rw [← e]; exact t
  | 15, x, y, w, h, t => by have e := h 15 (.inl rfl); simp only [TE] at t ⊢; rw [← e]; exact t
  | 16, x, y, w, h, t => by have e := h 16 (.inl rfl); simp only [TE] at t ⊢; rw [← e]; exact t
  | 17, x, y, w, h, t => by have e := h 17 (.inl rfl); simp only [TE] at t ⊢; rw [← e]; exact t
  | 18, x, y, w, h, t => by have e := h 18 (.inl rfl); simp only [TE] at t ⊢; rw [← e]; exact t
  | 19, x, y, w, h, t => by have e := h 19 (.inl rfl); simp only [TE] at t ⊢; rw [← e]; exact t
  | 20, x, y, w, h, t => by have e := h 20 (.inl rfl); simp only [TE] at t ⊢; rw [← e]; exact t
  | 21, x, y, w, h, t => by have e := h 21 (.inl rfl); simp only [TE] at t ⊢; rw [← e]; exact t
  | _ + 22, x, y, w, h, t => trivial
theorem TE.next {w0 : World} {go ho : Option Addr} {gl gc hl hc ap ma : Nat} {w w' : World} (hb : Below w.heap.size w w') : ∀ j y, TE w0 go ho gl gc hl hc ap ma j y w → TE w0 go ho gl gc hl hc ap ma j y w'
  | 0, y, t => t
  | 1, y, t => t
  | 2, y, t => t
  | 3, y, t => t
  | 4, y, t => t
  | 5, y, t => t
  | 6, y, t => t
  | 7, y, t => t
  | 8, y, t => t
  | 9, y, t => t
  | 10, y, t => by obtain ⟨ao, ai, ac, bo, bl, bc, e, h0, h1⟩ := t; exact ⟨ao, ai, ac, bo, bl, bc, e, h0.below hb, h1.below hb⟩
  | 11, y, t => t
  | 12, y, t => t
  | 13, y, t => t
  | 14, y, t => t
  | 15, y, t => t
  | 16, y, t => t
  | 17, y, t => t
  | 18, y, t => t
  | 19, y, t => t
  | 20, y, t => t
  | 21, y, t => t
  | _ + 22, y, t => trivial
end Go.Proofs.YtcmancfdlfhgbaaDoor
namespace Go.Proofs.YtcmancfdlfhgbaaDoor
open Go Go.RowKit Gu

theorem risk_yes {x : Int} (h : 0 ≤ x ∧ x ≤ 1000000) : Hid (∀ W, Calls Tryd.prog 15 #[.int .i64 x] W fun e w' => e = .returned (.bool true) ∧ W = w') := fun W => by
  obtain ⟨h1, h2⟩ := h
  have g1 : x ≥ 0 := h1
  go_enter Tryd.func15, Tryd.ntmps15
  go_wp2_with fail
  go_ret
  exact ⟨rfl, rfl⟩
theorem risk_no {x : Int} (h : ¬ (0 ≤ x ∧ x ≤ 1000000)) : Hid (∀ W, Calls Tryd.prog 15 #[.int .i64 x] W fun e w' => e = .returned (.bool false) ∧ W = w') := fun W => by
  by_cases h1 : x ≥ 0
  · have h2 : ¬ x ≤ 1000000 := fun h2 => h ⟨h1, h2⟩
    clear h
    go_enter Tryd.func15, Tryd.ntmps15
    go_wp2_with fail
    go_ret
    exact ⟨rfl, rfl⟩
  · clear h
    go_enter Tryd.func15, Tryd.ntmps15
    go_wp2_with fail
    go_ret
    exact ⟨rfl, rfl⟩
/-- valid arguments of Plan -/
def PlannedP (lot good bad al be : Int) : Prop := (1 ≤ lot ∧ lot ≤ 256) ∧ (0 ≤ good ∧ good < bad ∧ bad ≤ lot) ∧ (0 ≤ al ∧ al ≤ 1000000) ∧ 0 ≤ be ∧ be ≤ 1000000
end Go.Proofs.YtcmancfdlfhgbaaDoor
namespace Go.Proofs.YtcmancfdlfhgbaaDoor
open Go Go.RowKit Gu

/-- valid arguments of Bound -/
def BoundedP (lot n fnd risk : Int) : Prop := (0 ≤ lot ∧ lot ≤ 256) ∧ (0 ≤ n ∧ n ≤ lot) ∧ (0 ≤ fnd ∧ fnd ≤ n) ∧ (0 ≤ risk ∧ risk ≤ 1000000)
theorem Bounded_yes {lot n fnd risk : Int} (h : BoundedP lot n fnd risk) : Hid (∀ W, Calls Tryd.prog 5 #[.int .i64 lot, .int .i64 n, .int .i64 fnd, .int .i64 risk] W fun e w' => e = .returned (.bool true) ∧ W = w') := fun W => by
  obtain ⟨⟨h1, h2⟩, ⟨h3, h4⟩, ⟨h5, h6⟩, h7⟩ := h
  have g1 : lot ≥ 0 := h1
  have g3 : n ≥ 0 := h3
  have g5 : fnd ≥ 0 := h5
  have H7 := risk_yes h7
  clear h7
  go_enter Tryd.func5, Tryd.ntmps5
  go_wp2_with fail
  refine (H7.out _).mono ?_
  rintro e w' ⟨rfl, rfl⟩
  go_wp2_with fail
  go_ret
  exact ⟨rfl, rfl⟩
theorem below_drewNs {b : Nat} {w W : World} (h : Below b w W) (n : Nat) : Below b w (W.drewN n) := ⟨h.os, h.tape, h.output, h.size, h.block⟩
set_option maxHeartbeats 2000000 in
theorem Bounded_no {lot n fnd risk : Int} (h : ¬ BoundedP lot n fnd risk) : Hid (∀ W, Calls Tryd.prog 5 #[.int .i64 lot, .int .i64 n, .int .i64 fnd, .int .i64 risk] W fun e w' => e = .returned (.bool false) ∧ W = w') := fun W => by
  have fin : ∀ (a1 : lot ≥ 0) (a2 : lot ≤ 256) (a3 : n ≥ 0) (a4 : n ≤ lot) (a5 : fnd ≥ 0) (a6 : fnd ≤ n) (a7 : 0 ≤ risk ∧ risk ≤ 1000000), False := fun a1 a2 a3 a4 a5 a6 a7 => h ⟨⟨a1, a2⟩, ⟨a3, a4⟩, ⟨a5, a6⟩, a7⟩
  have HF := Lib.hid fin
  clear h fin
  by_cases h1 : lot ≥ 0
  case neg => go_enter Tryd.func5, Tryd.ntmps5; go_wp2_with fail; go_ret; exact ⟨rfl, rfl⟩
  by_cases h2 : lot ≤ 256
  case neg => go_enter Tryd.func5, Tryd.ntmps5; go_wp2_with fail; go_ret; exact ⟨rfl, rfl⟩
  by_cases h3 : n ≥ 0
  case neg => go_enter Tryd.func5, Tryd.ntmps5; go_wp2_with fail; go_ret; exact ⟨rfl, rfl⟩
  by_cases h4 : n ≤ lot
  case neg => go_enter Tryd.func5, Tryd.ntmps5; go_wp2_with fail; go_ret; exact ⟨rfl, rfl⟩
  by_cases h5 : fnd ≥ 0
  case neg => go_enter Tryd.func5, Tryd.ntmps5; go_wp2_with fail; go_ret; exact ⟨rfl, rfl⟩
  by_cases h6 : fnd ≤ n
  case neg => go_enter Tryd.func5, Tryd.ntmps5; go_wp2_with fail; go_ret; exact ⟨rfl, rfl⟩
  have H7 := risk_no fun h7 => HF.out h1 h2 h3 h4 h5 h6 h7
  clear HF
  go_enter Tryd.func5, Tryd.ntmps5
  go_wp2_with fail
  refine (H7.out _).mono ?_
  rintro e w' ⟨rfl, rfl⟩
  go_wp2_with fail
  go_ret
  exact ⟨rfl, rfl⟩
set_option maxRecDepth 100000 in
set_option maxHeartbeats 2000000 in
theorem sampleExplains_law {lot n fnd risk other : Int} {W : World} (_h0 : (-9223372036854775808 ≤ lot ∧ lot ≤ 9223372036854775807)) (_h1 : (-9223372036854775808 ≤ n ∧ n ≤ 9223372036854775807)) (_h2 : (-9223372036854775808 ≤ fnd ∧ fnd ≤ 9223372036854775807)) (_h3 : (-9223372036854775808 ≤ risk ∧ risk ≤ 9223372036854775807)) (_h4 : (-9223372036854775808 ≤ other ∧ other ≤ 9223372036854775807)) (he : Env W) :
    Calls Tryd.prog 3 #[.int .i64 lot, .int .i64 n, .int .i64 fnd, .int .i64 risk, .int .i64 other] W fun e w' => e = .returned (.bool true) ∧ Below W.heap.size W w' := by
  have HAW : Hid (∀ W', Below W.heap.size W W' → Calls Tryd.prog 6 #[] W' fun e w' => e = .returned (.bool true) ∧ Hid (Below W'.heap.size W' w')) := fun W' h => sawake_any W' (he.below h)
  clear he _h0 _h1 _h2 _h3 _h4
  by_cases hbig : lot > 120
  case pos =>
    go_enter Tryd.func3, Tryd.ntmps3
    go_wp2_with fail
    refine (HAW.out _ (Below.refl _ _)).mono ?_
    rintro e w' ⟨rfl, hb⟩
    go_wp2_with fail
    go_ret
    exact ⟨rfl, hb.out⟩
  by_cases hbd : BoundedP lot n fnd risk
  case neg =>
    have HG := Bounded_no hbd
    clear hbd
    go_enter Tryd.func3, Tryd.ntmps3
    go_wp2_with fail
    refine (HG.out _).mono ?_
    rintro e w' ⟨rfl, rfl⟩
    go_wp2_with fail
    refine (HAW.out _ (Below.refl _ _)).mono ?_
    rintro e w' ⟨rfl, hb⟩
    go_wp2_with fail
    go_ret
    exact ⟨rfl, hb.out⟩
  have HG := Bounded_yes hbd
  obtain ⟨⟨h1, h2⟩, ⟨h3, h4⟩, ⟨h5, h6⟩, h7, h8⟩ := hbd
  obtain ⟨lot, rfl⟩ : ∃ b : Nat, lot = (b : Int) := ⟨lot.toNat, by omega⟩
  obtain ⟨n, rfl⟩ : ∃ b : Nat, n = (b : Int) := ⟨n.toNat, by omega⟩
  obtain ⟨fnd, rfl⟩ : ∃ b : Nat, fnd = (b : Int) := ⟨fnd.toNat, by omega⟩
  obtain ⟨risk, rfl⟩ : ∃ b : Nat, risk = (b : Int) := ⟨risk.toNat, by omega⟩
  have HBD : Hid (∀ W', Calls Tryd.prog 7 #[.int .i64 lot, .int .i64 n, .int .i64 fnd, .int .i64 risk] W' fun e w' => ∃ k : Nat, e = .returned (.tuple #[.int .i64 k, .int .i64 0]) ∧ Hid (BoundK lot n fnd risk k) ∧ Hid (Below W'.heap.size W' w')) := fun W' => Bound_any (by omega) (by omega) (by omega) (by omega)
  obtain ⟨M, hM⟩ : ∃ M, M = pascalN lot n := ⟨_, rfl⟩
  obtain ⟨top, htop⟩ : ∃ top : Nat, top = lot - n + fnd := ⟨_, rfl⟩
  have HA2 : Hid (∀ W' (y : Nat) (k : Nat), k < y ∨ k = y → y ≤ top → Calls Tryd.prog 8 #[.int .i64 lot, .int .i64 y, .int .i64 n, .int .i64 fnd] W' fun e w' => ∃ ao al ac bo bl bc, e = .returned (.tuple #[.agg #[.slice ao al ac, .slice bo bl bc], .int .i64 0]) ∧
      D w' (.slice ao al ac) (lowP (accS y (lot - y) n fnd) M) ∧ D w' (.slice bo bl bc) (lowQ (accS y (lot - y) n fnd) M) ∧ Below W'.heap.size W' w') := fun W' y k _ h => by
    have := Accept_any (b := y) (g := lot - y) (n := n) (c := (fnd : Int)) (W := W') (by omega) (by omega)
    rw [show y + (lot - y) = lot by omega, ← hM] at this
    exact this
  have p2 : M ≤ 2 ^ 120 := by rw [hM]; exact Nat.le_trans (pascalN_le _ _) (Nat.pow_le_pow_right (by decide) (by omega))
  have z1 : 0 < M := by rw [hM]; exact pascalN_pos (by omega)
  have hacc : ∀ y, y ≤ top → accS y (lot - y) n fnd ≤ 2 ^ 120 := fun y hy => Nat.le_trans (accS_le _ _ _ _) (by rw [show y + (lot - y) = lot by omega, ← hM]; exact p2)
  have e6 : (1000000 : Nat) ≤ 2 ^ 120 := by decide
  have HCM : Hid (∀ y, y ≤ top → ∀ W' v u x z, D W' v (lowP (accS y (lot - y) n fnd) M) → D W' u (lowQ (accS y (lot - y) n fnd) M) → D W' x (lowP risk 1000000) → D W' z (lowQ risk 1000000) → Calls Tryd.prog 9 #[.agg #[v, u], .agg #[x, z]] W' fun e w' => ∃ R : Int, e = .returned (.int .i64 R) ∧ (R ≤ 0 ↔ ¬ OKB lot n fnd risk y) ∧ Below W'.heap.size W' w') := fun y hy W' v u x z g1 g2 g3 g4 => by
    refine (FCmp_low g1 g2 g3 g4 z1 (by decide) (hacc y hy) p2 (Nat.le_trans (show risk ≤ 1000000 by omega) e6) e6 (by omega)).mono fun e w' ⟨h1, h2⟩ => ⟨_, h1, ?_, h2⟩
    unfold OKB
    rw [cmp_le, ← hM, Nat.mul_comm risk M]
    omega
  have HRA : Hid (∀ W', Calls Tryd.prog 10 #[.int .i64 risk, .int .i64 1000000] W' fun e w' => ∃ ro rl rc so sl sc, e = .returned (.agg #[.slice ro rl rc, .slice so sl sc]) ∧ D w' (.slice ro rl rc) (lowP risk 1000000) ∧ D w' (.slice so sl sc) (lowQ risk 1000000) ∧ Below W'.heap.size W' w') := fun W' => ratio_any (a := risk) (b := 1000000) (by omega) (by decide) (by decide)
  have hw1 : IntKind.i64.wrap ((lot : Int) - n) = (lot : Int) - n := IntWalk.i64_in _ (by omega)
  have hw2 : IntKind.i64.wrap ((lot : Int) - n + fnd) = (top : Int) := by rw [IntWalk.i64_in _ (by omega)]; omega
  have HBK : Hid (∀ k, BoundK lot n fnd risk k → k ≤ top ∧ fnd ≤ k ∧ (fnd < k → OKB lot n fnd risk k) ∧ ∀ j, k < j → j ≤ top → ¬ OKB lot n fnd risk j) := fun k ⟨a, b, c, d⟩ => ⟨by omega, a, c, fun j h1 h2 => d j h1 (by omega)⟩
  clear h1 h2 h3 h4 h5 h6 h7 h8 hM htop p2 z1 hacc e6
  go_enter Tryd.func3, Tryd.ntmps3
  go_wp2_with fail
  refine (HG.out _).mono ?_
  rintro e w' ⟨rfl, rfl⟩
  go_wp2_with fail
  refine (HBD.out _).mono ?_
  rintro e v1 ⟨k, rfl, hk, hb1⟩
  obtain ⟨k1, k2, k3, k4⟩ := HBK.out k hk.out
  have HK3 := Lib.hid k3
  have HCY : Hid (∀ y : Nat, k < y → y ≤ top → ∀ W' v u x z, D W' v (lowP (accS y (lot - y) n fnd) M) → D W' u (lowQ (accS y (lot - y) n fnd) M) → D W' x (lowP risk 1000000) → D W' z (lowQ risk 1000000) → Calls Tryd.prog 9 #[.agg #[v, u], .agg #[x, z]] W' fun e w' => ∃ R : Int, e = .returned (.int .i64 R) ∧ R ≤ 0 ∧ Below W'.heap.size W' w') := fun y h1 h2 W' v u x z g1 g2 g3 g4 => (HCM.out y h2 W' v u x z g1 g2 g3 g4).mono fun e w' ⟨R, a, b, c⟩ => ⟨R, a, b.2 (k4 y h1 h2), c⟩
  have HCK : Hid (fnd < k → ∀ W' v u x z, D W' v (lowP (accS k (lot - k) n fnd) M) → D W' u (lowQ (accS k (lot - k) n fnd) M) → D W' x (lowP risk 1000000) → D W' z (lowQ risk 1000000) → Calls Tryd.prog 9 #[.agg #[v, u], .agg #[x, z]] W' fun e w' => ∃ R : Int, e = .returned (.int .i64 R) ∧ 0 < R ∧ Below W'.heap.size W' w') := fun h0 W' v u x z g1 g2 g3 g4 => (HCM.out k k1 W' v u x z g1 g2 g3 g4).mono fun e w' ⟨R, a, b, c⟩ => ⟨R, a, Int.lt_of_not_ge fun h => b.1 h (k3 h0), c⟩
  have HAK := Lib.hid fun W' => HA2.out W' k k (.inr rfl) k1
  have HA2 : Hid (∀ W' (y : Nat), k < y → y ≤ top → Calls Tryd.prog 8 #[.int .i64 lot, .int .i64 y, .int .i64 n, .int .i64 fnd] W' fun e w' => ∃ ao al ac bo bl bc, e = .returned (.tuple #[.agg #[.slice ao al ac, .slice bo bl bc], .int .i64 0]) ∧
      D w' (.slice ao al ac) (lowP (accS y (lot - y) n fnd) M) ∧ D w' (.slice bo bl bc) (lowQ (accS y (lot - y) n fnd) M) ∧ Below W'.heap.size W' w') := fun W' y h1 h2 => HA2.out W' y k (.inl h1) h2
  have HB1 : Hid (Below W.heap.size W v1) := hb1.out
  have d1 : decide ((k : Int) < (fnd : Int)) = false := decide_eq_false (by omega)
  have d2 : decide ((k : Int) > (top : Int)) = false := decide_eq_false (by omega)
  have t1 : ¬ (k : Int) < (fnd : Int) := by omega
  have t2 : ¬ (k : Int) > (top : Int) := by omega
  clear hk hb1 k3 k4 HBD HG HCM HBK
  go_wp2_with fail
  refine (HAK.out _).mono ?_
  rintro e v2 ⟨ao, al, ac, bo, bl, bc, rfl, hp, hq, hb⟩
  obtain ⟨v3, HV3⟩ : ∃ w, w = v2.alloc (.cells #[.slice ao al ac, .slice bo bl bc] 30) := ⟨_, rfl⟩
  have HX := Lib.hid (show FB v2.heap.size (.slice ao al ac) (.slice bo bl bc) (accS k (lot - k) n fnd) M v3 by rw [HV3]; exact FB.new hp hq _)
  have b3 : Below v2.heap.size v2 v3 := by rw [HV3]; exact alloc1_below _ _
  have HB3 := Lib.hid (HB1.out.trans ((hb.trans (b3.mono hb.size)).mono HB1.out.size)); have HV3' := Lib.hid HV3
  clear hp hq hb b3 HV3 HAK HB1
  go_upto_region 7 with fail
  rw [← HV3'.out]
  by_cases q : fnd < k
  case neg =>
    have q0 : ¬ (k : Int) > (fnd : Int) := by omega
    have dq : decide ((k : Int) > (fnd : Int)) = false := decide_eq_false q0
    clear HX HV3' HCK HK3
    go_quiet (fail)
    rename_i nq
    have HB4 : Hid (Below W.heap.size W (World.drewN v3 nq)) := below_drewNs HB3.out nq
    generalize hw : World.drewN v3 nq = v4 at HB4 ⊢
    clear hw HB3
    by_cases q1 : other ≤ (k : Int)
    case pos =>
      go_wp2_with fail
      refine (HAW.out _ HB4.out).mono ?_
      rintro e w' ⟨rfl, hb⟩
      go_wp2_with fail
      go_ret
      exact ⟨rfl, HB4.out.trans (hb.out.mono HB4.out.size)⟩
    by_cases q2 : other > (top : Int)
    case pos =>
      go_wp2_with fail
      refine (HAW.out _ HB4.out).mono ?_
      rintro e w' ⟨rfl, hb⟩
      go_wp2_with fail
      go_ret
      exact ⟨rfl, HB4.out.trans (hb.out.mono HB4.out.size)⟩
    obtain ⟨y, rfl⟩ : ∃ y : Nat, other = (y : Int) := ⟨other.toNat, by omega⟩
    have hy : k < y := by omega
    have hy2 : y ≤ top := by omega
    have e1 : decide ((y : Int) ≤ (k : Int)) = false := decide_eq_false q1
    have e2 : decide ((y : Int) > (top : Int)) = false := decide_eq_false q2
    have HC2 := Lib.hid fun W' => HA2.out W' y hy hy2
    go_wp2_with fail
    refine (HC2.out _).mono ?_
    rintro e v5 ⟨co, cl, cc, do2, dl, dc, rfl, hp, hq, hb⟩
    obtain ⟨v6, HV6⟩ : ∃ w, w = v5.alloc (.cells #[.slice co cl cc, .slice do2 dl dc] 30) := ⟨_, rfl⟩
    have HY := Lib.hid (show FB v5.heap.size (.slice co cl cc) (.slice do2 dl dc) (accS y (lot - y) n fnd) M v6 by rw [HV6]; exact FB.new hp hq _)
    have b6 : Below v5.heap.size v5 v6 := by rw [HV6]; exact alloc1_below _ _
    have HB6 := Lib.hid (HB4.out.trans ((hb.trans (b6.mono hb.size)).mono HB4.out.size)); have HV6' := Lib.hid HV6
    clear hp hq hb b6 HV6
    have HR3 : Hid (∀ W', Kw v6 W' → Calls Tryd.prog 10 #[.int .i64 risk, .int .i64 1000000] W' fun e w' => ∃ ro rl rc so sl sc, e = .returned (.agg #[.slice ro rl rc, .slice so sl sc]) ∧ Hid (D w' (.slice ro rl rc) (lowP risk 1000000) ∧ D w' (.slice so sl sc) (lowQ risk 1000000)) ∧ Kw v6 w') := fun W' h => (HRA.out W').mono fun e w' ⟨ro, rl, rc, so, sl, sc, e1, e2, e3, e4⟩ => ⟨ro, rl, rc, so, sl, sc, e1, ⟨e2, e3⟩, Kw.next h e4⟩
    have HC3 : Hid (∀ W' x y, Kw v6 W' → (D W' x (lowP risk 1000000) ∧ D W' y (lowQ risk 1000000)) → Calls Tryd.prog 9 #[.agg #[.slice co cl cc, .slice do2 dl dc], .agg #[x, y]] W' fun e w' => ∃ R : Int, e = .returned (.int .i64 R) ∧ R ≤ 0 ∧ Kw v6 w') := fun W' x z h hr => (HCY.out y hy hy2 W' _ _ _ _ (HY.out.num.below h) (HY.out.den.below h) hr.1 hr.2).mono fun e w' ⟨R, h1, h2, h3⟩ => ⟨R, h1, h2, Kw.next h h3⟩
    have HW3 : Hid (∀ W', Kw v6 W' → Calls Tryd.prog 6 #[] W' fun e w' => e = .returned (.bool true) ∧ Kw v6 w') := fun W' h => (HAW.out W' (HB6.out.trans (Below.mono h HB6.out.size))).mono fun e w' ⟨h1, h2⟩ => ⟨h1, Kw.next h h2.out⟩
    have HCE : Hid (∀ W', Kw v6 W' → (W'.cell? ⟨v5.heap.size, 0, none⟩ = some (.slice co cl cc) ∧ W'.cell? ⟨v5.heap.size, 1, none⟩ = some (.slice do2 dl dc))) := fun W' h => ⟨(HY.out.box.next h).c0, (HY.out.box.next h).c1⟩
    go_upto_region 12 with fail
    rw [← HV6'.out]
    have hs : Kw v6 v6 := Below.refl _ _
    have hs2 : Kw v6 v6.drew := Below.drew hs
    have hc0 := HCE.out _ hs
    have hc1 := HCE.out _ hs2
    clear HC2 HA2 HRA HCY HY HV6' HAW
    go_region_held3 (fun W' : World => (W'.cell? ⟨v5.heap.size, 0, none⟩ = some (.slice co cl cc) ∧ W'.cell? ⟨v5.heap.size, 1, none⟩ = some (.slice do2 dl dc)) ∧ Kw v6 W') (first | (refine And.intro ?_ ?_ <;> assumption) | fail) (first | (go_at_call 10; with_reducible refine (HR3.out _ ?h).mono ?_; (case h => assumption); rintro e w' ⟨eo, el, ec, fo, fl, fc, rfl, hd1, hs3⟩; have hc3 := HCE.out _ hs3) | (go_at_call 9; with_reducible refine (HC3.out _ _ _ ?h ?h2).mono ?_; (case h => assumption); (case h2 => exact hd1.out); rintro e w' ⟨R, rfl, hR, hs4⟩; have hc4 := HCE.out _ hs4; have hR2 := decide_eq_true hR) | (go_at_call 6; with_reducible refine (HW3.out _ ?h).mono ?_; (case h => assumption); rintro e w' ⟨rfl, hs5⟩; have hc5 := HCE.out _ hs5) | fail)
    all_goals
      have HS := Lib.hid hs5
      clear hs5 hc5
      go_wp2_with fail
      go_ret
      exact ⟨by first | rfl | simp, HB6.out.trans (Below.mono HS.out HB6.out.size)⟩
  have q0 : (k : Int) > (fnd : Int) := by omega
  have dq : decide ((k : Int) > (fnd : Int)) = true := decide_eq_true q0
  have HR3 : Hid (∀ W', Kw v3 W' → Calls Tryd.prog 10 #[.int .i64 risk, .int .i64 1000000] W' fun e w' => ∃ ro rl rc so sl sc, e = .returned (.agg #[.slice ro rl rc, .slice so sl sc]) ∧ Hid (D w' (.slice ro rl rc) (lowP risk 1000000) ∧ D w' (.slice so sl sc) (lowQ risk 1000000)) ∧ Kw v3 w') := fun W' h => (HRA.out W').mono fun e w' ⟨ro, rl, rc, so, sl, sc, e1, e2, e3, e4⟩ => ⟨ro, rl, rc, so, sl, sc, e1, ⟨e2, e3⟩, Kw.next h e4⟩
  have HC3 : Hid (∀ W' x y, Kw v3 W' → (D W' x (lowP risk 1000000) ∧ D W' y (lowQ risk 1000000)) → Calls Tryd.prog 9 #[.agg #[.slice ao al ac, .slice bo bl bc], .agg #[x, y]] W' fun e w' => ∃ R : Int, e = .returned (.int .i64 R) ∧ 0 < R ∧ Kw v3 w') := fun W' x z h hr => (HCK.out q W' _ _ _ _ (HX.out.num.below h) (HX.out.den.below h) hr.1 hr.2).mono fun e w' ⟨R, h1, h2, h3⟩ => ⟨R, h1, h2, Kw.next h h3⟩
  have HCE : Hid (∀ W', Kw v3 W' → (W'.cell? ⟨v2.heap.size, 0, none⟩ = some (.slice ao al ac) ∧ W'.cell? ⟨v2.heap.size, 1, none⟩ = some (.slice bo bl bc))) := fun W' h => ⟨(HX.out.box.next h).c0, (HX.out.box.next h).c1⟩
  have hs : Kw v3 v3 := Below.refl _ _
  have hs2 : Kw v3 v3.drew := Below.drew hs
  have hc0 := HCE.out _ hs
  have hc1 := HCE.out _ hs2
  clear HX HV3' HCK HK3
  go_region_held3 (fun W' : World => (W'.cell? ⟨v2.heap.size, 0, none⟩ = some (.slice ao al ac) ∧ W'.cell? ⟨v2.heap.size, 1, none⟩ = some (.slice bo bl bc)) ∧ Kw v3 W') (first | (refine And.intro ?_ ?_ <;> assumption) | fail) (first | (go_at_call 10; with_reducible refine (HR3.out _ ?h).mono ?_; (case h => assumption); rintro e w' ⟨eo, el, ec, fo, fl, fc, rfl, hd1, hs3⟩; have hc3 := HCE.out _ hs3) | (go_at_call 9; with_reducible refine (HC3.out _ _ _ ?h ?h2).mono ?_; (case h => assumption); (case h2 => exact hd1.out); rintro e w' ⟨R, rfl, hR, hs4⟩; have hc4 := HCE.out _ hs4; have hR2 : decide (R ≤ 0) = false := decide_eq_false (by omega)) | fail)
  all_goals
    have HB4 := Lib.hid (HB3.out.trans (Below.mono hs4 HB3.out.size))
    clear hs4 hc4 hs hs2 hc0 hc1 HCE HC3 HR3
    by_cases q1 : other ≤ (k : Int)
    case pos =>
      go_wp2_with fail
      refine (HAW.out _ HB4.out).mono ?_
      rintro e w' ⟨rfl, hb⟩
      go_wp2_with fail
      go_ret
      exact ⟨rfl, HB4.out.trans (hb.out.mono HB4.out.size)⟩
    by_cases q2 : other > (top : Int)
    case pos =>
      go_wp2_with fail
      refine (HAW.out _ HB4.out).mono ?_
      rintro e w' ⟨rfl, hb⟩
      go_wp2_with fail
      go_ret
      exact ⟨rfl, HB4.out.trans (hb.out.mono HB4.out.size)⟩
    obtain ⟨y, rfl⟩ : ∃ y : Nat, other = (y : Int) := ⟨other.toNat, by omega⟩
    have hy : k < y := by omega
    have hy2 : y ≤ top := by omega
    have e1 : decide ((y : Int) ≤ (k : Int)) = false := decide_eq_false q1
    have e2 : decide ((y : Int) > (top : Int)) = false := decide_eq_false q2
    have HC2 := Lib.hid fun W' => HA2.out W' y hy hy2
    go_wp2_with fail
    refine (HC2.out _).mono ?_
    rintro e v5 ⟨co, cl, cc, do2, dl, dc, rfl, hp, hq, hb⟩
    obtain ⟨v6, HV6⟩ : ∃ w, w = v5.alloc (.cells #[.slice co cl cc, .slice do2 dl dc] 30) := ⟨_, rfl⟩
    have HY := Lib.hid (show FB v5.heap.size (.slice co cl cc) (.slice do2 dl dc) (accS y (lot - y) n fnd) M v6 by rw [HV6]; exact FB.new hp hq _)
    have b6 : Below v5.heap.size v5 v6 := by rw [HV6]; exact alloc1_below _ _
    have HB6 := Lib.hid (HB4.out.trans ((hb.trans (b6.mono hb.size)).mono HB4.out.size)); have HV6' := Lib.hid HV6
    clear hp hq hb b6 HV6
    have HR3 : Hid (∀ W', Kw v6 W' → Calls Tryd.prog 10 #[.int .i64 risk, .int .i64 1000000] W' fun e w' => ∃ ro rl rc so sl sc, e = .returned (.agg #[.slice ro rl rc, .slice so sl sc]) ∧ Hid (D w' (.slice ro rl rc) (lowP risk 1000000) ∧ D w' (.slice so sl sc) (lowQ risk 1000000)) ∧ Kw v6 w') := fun W' h => (HRA.out W').mono fun e w' ⟨ro, rl, rc, so, sl, sc, e1, e2, e3, e4⟩ => ⟨ro, rl, rc, so, sl, sc, e1, ⟨e2, e3⟩, Kw.next h e4⟩
    have HC3 : Hid (∀ W' x y, Kw v6 W' → (D W' x (lowP risk 1000000) ∧ D W' y (lowQ risk 1000000)) → Calls Tryd.prog 9 #[.agg #[.slice co cl cc, .slice do2 dl dc], .agg #[x, y]] W' fun e w' => ∃ R : Int, e = .returned (.int .i64 R) ∧ R ≤ 0 ∧ Kw v6 w') := fun W' x z h hr => (HCY.out y hy hy2 W' _ _ _ _ (HY.out.num.below h) (HY.out.den.below h) hr.1 hr.2).mono fun e w' ⟨R, h1, h2, h3⟩ => ⟨R, h1, h2, Kw.next h h3⟩
    have HW3 : Hid (∀ W', Kw v6 W' → Calls Tryd.prog 6 #[] W' fun e w' => e = .returned (.bool true) ∧ Kw v6 w') := fun W' h => (HAW.out W' (HB6.out.trans (Below.mono h HB6.out.size))).mono fun e w' ⟨h1, h2⟩ => ⟨h1, Kw.next h h2.out⟩
    have HCE : Hid (∀ W', Kw v6 W' → (W'.cell? ⟨v5.heap.size, 0, none⟩ = some (.slice co cl cc) ∧ W'.cell? ⟨v5.heap.size, 1, none⟩ = some (.slice do2 dl dc))) := fun W' h => ⟨(HY.out.box.next h).c0, (HY.out.box.next h).c1⟩
    go_upto_region 12 with fail
    rw [← HV6'.out]
    have hs : Kw v6 v6 := Below.refl _ _
    have hs2 : Kw v6 v6.drew := Below.drew hs
    have hc0 := HCE.out _ hs
    have hc1 := HCE.out _ hs2
    clear HC2 HA2 HRA HCY HY HV6' HAW
    go_region_held3 (fun W' : World => (W'.cell? ⟨v5.heap.size, 0, none⟩ = some (.slice co cl cc) ∧ W'.cell? ⟨v5.heap.size, 1, none⟩ = some (.slice do2 dl dc)) ∧ Kw v6 W') (first | (refine And.intro ?_ ?_ <;> assumption) | fail) (first | (go_at_call 10; with_reducible refine (HR3.out _ ?h).mono ?_; (case h => assumption); rintro e w' ⟨eo, el, ec, fo, fl, fc, rfl, hd1, hs3⟩; have hc3 := HCE.out _ hs3) | (go_at_call 9; with_reducible refine (HC3.out _ _ _ ?h ?h2).mono ?_; (case h => assumption); (case h2 => exact hd1.out); rintro e w' ⟨R, rfl, hR, hs4⟩; have hc4 := HCE.out _ hs4; have hR2 := decide_eq_true hR) | (go_at_call 6; with_reducible refine (HW3.out _ ?h).mono ?_; (case h => assumption); rintro e w' ⟨rfl, hs5⟩; have hc5 := HCE.out _ hs5) | fail)
    all_goals
      have HS := Lib.hid hs5
      clear hs5 hc5
      go_wp2_with fail
      go_ret
      exact ⟨by first | rfl | simp, HB6.out.trans (Below.mono HS.out HB6.out.size)⟩
end Go.Proofs.YtcmancfdlfhgbaaDoor
