/- Contracts and lemmas (several texts merged into one). -/
import Derived.Test.YtfkogbomijonjaaGreatDoorTSz1
import Derived.Laws.Bits64
import Derived.Laws.Bits64b
import Derived.RegionTactic
import Derived.Deep.CutBlock
import Derived.Test.YtfkogbomijonjaaGreatDoorTxt
import Derived.Test.YtfkogbomijonjaaGreatDoorNum
import Derived.Test.YtfkogbomijonjaaGreatDoorTSz2
import Derived.Deep.LoopGhost
import Derived.Test.YtfkogbomijonjaaGreatDoorTSz3
import Derived.Maps.Own
import Derived.Maps.Views
import Derived.BigQuiet
namespace Go.Proofs.YtfkogbomijonjaaGreatDoor
open Go Go.RowKit Gu

/-- what a loop of the division keeps: q is not below the digit -/
structure DigK (u x f s q r : Nat) : Prop where
  sum : q * f + r = u
  low : (u * 4294967296 + x) / (f * 4294967296 + s) ≤ q
  top : q ≤ 4294967297
theorem div_lt_mul {a b c : Nat} (hb : 0 < b) (h : a < c * b) : a / b < c := (Nat.div_lt_iff_lt_mul hb).2 h
/-- the digit -/
structure DigP (u x f s : Nat) : Prop where
  hf : 2147483648 ≤ f
  hf2 : f < 4294967296
  hs : s < 4294967296
  hx : x < 4294967296
  hu : u < f * 4294967296 + s
theorem DigP.lt {u x f s : Nat} (h : DigP u x f s) : (u * 4294967296 + x) / (f * 4294967296 + s) < 4294967296 := by
  obtain ⟨h1, h2, h3, h4, h5⟩ := h
  have hy : 0 < f * 4294967296 + s := by omega
  obtain ⟨y, he⟩ : ∃ y, y = f * 4294967296 + s := ⟨_, rfl⟩
  rw [← he] at hy h5 ⊢
  have h6 : u * 4294967296 + x < 4294967296 * y := by omega
  exact div_lt_mul hy h6
theorem DigP.first {u x f s : Nat} (h : DigP u x f s) : DigK u x f s (u / f) (u % f) := by
  obtain ⟨h1, h2, h3, h4, h5⟩ := h
  refine ⟨by rw [Nat.mul_comm]; exact Nat.div_add_mod u f, ?_, ?_⟩
  · have e1 : (u * 4294967296 + x) / (f * 4294967296 + s) ≤ (u * 4294967296 + x) / (f * 4294967296) := Nat.div_le_div_left (Nat.le_add_right _ _) (by omega)
    have e2 : (u * 4294967296 + x) / (f * 4294967296) = u / f := by
      rw [Nat.mul_comm f, ← Nat.div_div_eq_div_mul]
      congr 1; omega
    omega
  · refine Nat.le_of_lt_succ ((Nat.div_lt_iff_lt_mul (by omega)).2 ?_)
    omega
theorem DigK.down {u x f s q r : Nat} (hp : DigP u x f s) (h : DigK u x f s q r) (hq : 4294967296 ≤ q ∨ 4294967296 * r + x < q * s) : 0 < q ∧ DigK u x f s (q - 1) (r + f) ∧ q - 1 ≤ 4294967296 := by
  have h0 := hp.lt
  obtain ⟨h1, h2, h3⟩ := h
  have hlt : (u * 4294967296 + x) / (f * 4294967296 + s) < q := by
    rcases hq with e | e
    · omega
    · have g1 := hp.hf
      refine (Nat.div_lt_iff_lt_mul (by omega)).2 ?_
      rw [Nat.mul_add, ← h1, ← Nat.mul_assoc]
      generalize q * f = a at *
      generalize q * s = b at *
      omega
  obtain ⟨j, rfl⟩ : ∃ j, q = j + 1 := ⟨q - 1, by have := Nat.lt_of_le_of_lt (Nat.zero_le _) hlt; omega⟩
  rw [Nat.add_mul, Nat.one_mul] at h1
  refine ⟨by omega, ⟨by rw [Nat.add_sub_cancel]; omega, by omega, by omega⟩, by omega⟩
theorem DigK.stop {u x f s q r : Nat} (hp : DigP u x f s) (h : DigK u x f s q r) (hq : (q < 4294967296 ∧ q * s ≤ 4294967296 * r + x) ∨ (4294967296 ≤ r ∧ q ≤ 4294967296)) : q = (u * 4294967296 + x) / (f * 4294967296 + s) := by
  obtain ⟨g1, g2, g3, g4, g5⟩ := hp
  obtain ⟨h1, h2, h3⟩ := h
  refine Nat.le_antisymm ((Nat.le_div_iff_mul_le (by omega)).2 ?_) h2
  rw [Nat.mul_add, ← h1, ← Nat.mul_assoc]
  have hqs : q * s ≤ 4294967296 * r + x := by
    rcases hq with e | e
    · exact e.2
    · have : q * s ≤ 4294967296 * 4294967296 := Nat.mul_le_mul e.2 (by omega)
      omega
  generalize q * f = a at *
  generalize q * s = b at *
  omega
/-- the rest of a digit, as words make it -/
theorem dig_rest {u x y q : Nat} (hy : y < 18446744073709551616) (hy0 : 0 < y) (hq : q = (u * 4294967296 + x) / y) :
    IntKind.u64.wrap (IntKind.u64.wrap (IntKind.u64.wrap ((u : Int) * 4294967296) + x) - IntKind.u64.wrap ((q : Int) * y)) = (((u * 4294967296 + x) % y : Nat) : Int) := by
  have h1 : (u * 4294967296 + x) % y < y := Nat.mod_lt _ hy0
  have h2 := Nat.div_add_mod (u * 4294967296 + x) y
  rw [← hq] at h2
  rw [show (q : Int) * y = ((y * q : Nat) : Int) by rw [Nat.mul_comm]; exact_mod_cast rfl]
  generalize (u * 4294967296 + x) % y = z at *
  generalize y * q = w at *
  simp only [wrap_u64]
  omega
end Go.Proofs.YtfkogbomijonjaaGreatDoor
namespace Go.Proofs.YtfkogbomijonjaaGreatDoor
open Go Go.RowKit Gu

/-- the scaled division -/
structure NormK (hi lo y s S Z Y U V : Nat) : Prop where
  p : S * Z = 18446744073709551616
  s0 : 0 < S
  z0 : 0 < Z
  eY : Y = y * S
  Y1 : 9223372036854775808 ≤ Y
  Y2 : Y < 18446744073709551616
  eU : U = hi * S + lo / Z
  UY : U < Y
  lz : lo / Z < S
  hS : hi * S < 18446744073709551616
  eV : V = lo * S % 18446744073709551616
  id' : (hi * 18446744073709551616 + lo) * S = U * 18446744073709551616 + V
set_option maxRecDepth 100000 in
theorem and_low {Y : Nat} (h : Y < 18446744073709551616) : bits BinOp.and IntKind.u64 (Y : Int) 4294967295 = ((Y % 4294967296 : Nat) : Int) := by
  have e := bits_and_u64_nat Y 4294967295 h (by decide)
  rw [show (4294967295 : Nat) = 2 ^ 32 - 1 by decide, Nat.and_two_pow_sub_one_eq_mod] at e
  exact e
theorem norm_of {hi lo y : Nat} (h1 : hi < y) (hlo : lo < 18446744073709551616) (hy : y < 9223372036854775808) :
    ∃ s z : Nat, 0 < s ∧ 0 < z ∧ z + s = 64 ∧ (64 : Int) - (Go.Lib.bitLen y : Int) = (s : Int) ∧ NormK hi lo y s (2 ^ s) (2 ^ z) (y * 2 ^ s) (hi * 2 ^ s + lo / 2 ^ z) (lo * 2 ^ s % 18446744073709551616) := by
  obtain ⟨L, e1, e2, e3⟩ := Gu.bitLen_spec (x := y) (by omega) (by omega)
  have hL : L < 63 := by
    rcases Nat.lt_or_ge L 63 with h | h
    · exact h
    · have : 2 ^ 63 ≤ 2 ^ L := Nat.pow_le_pow_right (by decide) h
      omega
  refine ⟨63 - L, L + 1, by omega, by omega, by omega, by rw [e1]; omega, ?_⟩
  have hp : 2 ^ (63 - L) * 2 ^ (L + 1) = 18446744073709551616 := by
    rw [← Nat.pow_add, show 63 - L + (L + 1) = 64 by omega]
  have hp2 : 2 ^ (63 - L) * 2 ^ L = 9223372036854775808 := by
    rw [← Nat.pow_add, show 63 - L + L = 63 by omega]
  have hS : 0 < 2 ^ (63 - L) := Nat.pow_pos (by decide)
  have hZ : 0 < 2 ^ (L + 1) := Nat.pow_pos (by decide)
  generalize 2 ^ (63 - L) = S at *
  have hY1 : S * 2 ^ L ≤ S * y := Nat.mul_le_mul_left _ e2
  have hY2 : S * y < S * 2 ^ (L + 1) := Nat.mul_lt_mul_of_pos_left e3 hS
  rw [hp2] at hY1
  rw [hp] at hY2
  generalize 2 ^ (L + 1) = Z at *
  have hlz : lo / Z < S := (Nat.div_lt_iff_lt_mul hZ).2 (by rw [hp]; exact hlo)
  have hhi : hi * S + S ≤ S * y := by
    have : (hi + 1) * S ≤ y * S := Nat.mul_le_mul_right _ h1
    rw [Nat.add_mul, Nat.one_mul, Nat.mul_comm y] at this
    exact this
  have hid : lo * S = lo / Z * 18446744073709551616 + lo % Z * S := by
    conv => lhs; rw [← Nat.div_add_mod lo Z, Nat.add_mul, Nat.mul_right_comm, Nat.mul_comm Z, Nat.mul_comm (S * Z), hp]
  have hmod : lo % Z * S < 18446744073709551616 := by
    rw [← hp, Nat.mul_comm S Z]
    exact Nat.mul_lt_mul_of_pos_right (Nat.mod_lt _ hZ) hS
  have hV : lo * S % 18446744073709551616 = lo % Z * S := by
    rw [hid, Nat.add_comm, Nat.add_mul_mod_self_right, Nat.mod_eq_of_lt hmod]
  refine ⟨hp, hS, hZ, rfl, by rw [Nat.mul_comm]; exact hY1, by rw [Nat.mul_comm]; exact hY2, rfl, by rw [Nat.mul_comm y]; omega, hlz, by rw [Nat.mul_comm S y] at hY2 hhi; omega, rfl, ?_⟩
  rw [hV, Nat.add_mul, hid, Nat.add_mul, Nat.mul_right_comm]
  omega
set_option maxRecDepth 100000 in
/-- the quotient and the rest, out of the two digits -/
theorem NormK.whole {hi lo y s S Z Y U V : Nat} (h : NormK hi lo y s S Z Y U V) {U2 : Nat} (e2 : U2 = (U * 4294967296 + V / 4294967296) % Y) :
    (U * 4294967296 + V / 4294967296) / Y * 4294967296 + (U2 * 4294967296 + V % 4294967296) / Y = (hi * 18446744073709551616 + lo) / y ∧
    (U2 * 4294967296 + V % 4294967296) % Y / S = (hi * 18446744073709551616 + lo) % y := by
  have hY : 0 < Y := by have := h.Y1; omega
  have d1 := Nat.div_add_mod (U * 4294967296 + V / 4294967296) Y
  rw [← e2] at d1
  have d2 := Nat.div_add_mod (U2 * 4294967296 + V % 4294967296) Y
  have l2 := Nat.mod_lt (U2 * 4294967296 + V % 4294967296) hY
  obtain ⟨a, ha⟩ : ∃ a, a = (U * 4294967296 + V / 4294967296) / Y := ⟨_, rfl⟩
  obtain ⟨b, hb⟩ : ∃ b, b = (U2 * 4294967296 + V % 4294967296) / Y := ⟨_, rfl⟩
  obtain ⟨r, hr⟩ : ∃ r, r = (U2 * 4294967296 + V % 4294967296) % Y := ⟨_, rfl⟩
  rw [← ha] at d1 ⊢
  rw [← hb, ← hr] at d2
  rw [← hr] at l2
  rw [← hb, ← hr]
  clear ha hb hr e2
  have hid := h.id'
  have hM : (hi * 18446744073709551616 + lo) * S = Y * (a * 4294967296 + b) + r := by
    rw [hid, Nat.mul_add, ← Nat.mul_assoc]
    obtain ⟨A, hA⟩ : ∃ A, A = Y * a := ⟨_, rfl⟩
    obtain ⟨Bb, hB⟩ : ∃ A, A = Y * b := ⟨_, rfl⟩
    rw [← hA] at d1 ⊢
    rw [← hB] at d2 ⊢
    omega
  obtain ⟨M, hM'⟩ : ∃ M, M = hi * 18446744073709551616 + lo := ⟨_, rfl⟩
  rw [← hM'] at hM ⊢
  have q1 : M * S / Y = a * 4294967296 + b := by
    rw [hM, Nat.mul_add_div hY, Nat.div_eq_of_lt l2, Nat.add_zero]
  have q2 : M * S % Y = r := by
    rw [hM, Nat.mul_add_mod, Nat.mod_eq_of_lt l2]
  rw [h.eY, Nat.mul_div_mul_right _ _ h.s0] at q1
  rw [h.eY, Nat.mul_mod_mul_right] at q2
  exact ⟨q1.symm, by rw [← q2, Nat.mul_div_cancel _ h.s0]⟩
set_option maxRecDepth 100000 in
set_option maxHeartbeats 2000000 in
/-- the quotient and the rest, where the high word is less than the divisor -/
theorem Div64_any {hi lo y : Nat} {W : World} (h1 : hi < y) (hlo : lo < 18446744073709551616) (hy : y < 9223372036854775808) :
    Calls Tryz.prog 23 #[.int .u64 hi, .int .u64 lo, .int .u64 y] W fun e w' => e = .returned (.tuple #[.int .u64 ((hi * 18446744073709551616 + lo) / y : Nat), .int .u64 ((hi * 18446744073709551616 + lo) % y : Nat)]) ∧ ∃ q, w' = W.drewN q := by
  have y0 : ((y : Int) == 0) = false := beq_eq_false_iff_ne.2 (by omega)
  have y1 : ¬ (y : Int) = 0 := by omega
  have y2 : ¬ (y : Int) ≤ (hi : Int) := by omega
  by_cases hz : hi = 0
  · subst hz
    have _e1 : IntKind.u64.wrap ((lo : Int) / y) = ((lo / y : Nat) : Int) := by
      have := Nat.div_le_self lo y
      rw [show (lo : Int) / y = ((lo / y : Nat) : Int) by simp]
      generalize lo / y = z at *
      rw [wrap_u64]; omega
    go_enter Tryz.func23, Tryz.ntmps23
    go_wp2_with fail
    go_quiet (fail)
    go_wp2_with fail
    refine bodyPost_ret (v := .tuple #[.int .u64 ((lo / y : Nat) : Int), .int .u64 ((lo % y : Nat) : Int)]) (by simp [results, Tryz.results23, go_sem]) rfl ?_
    exact ⟨by rw [Nat.zero_mul, Nat.zero_add], _, rfl⟩
  · obtain ⟨s, z, hs0, hz0', hzs, hlz, hN⟩ := norm_of h1 hlo hy
    obtain ⟨Y, eY⟩ : ∃ Y, Y = y * 2 ^ s := ⟨_, rfl⟩
    obtain ⟨U, eU⟩ : ∃ U, U = hi * 2 ^ s + lo / 2 ^ z := ⟨_, rfl⟩
    obtain ⟨V, eV⟩ : ∃ V, V = lo * 2 ^ s % 18446744073709551616 := ⟨_, rfl⟩
    rw [← eY, ← eU, ← eV] at hN
    have HN := Lib.hid hN
    have hs64 : s < 64 := by omega
    have hzl : z < 64 := by omega
    have hwz : IntKind.u64.wrap ((64 : Int) - (s : Int)) = (z : Int) := by rw [wrap_u64]; omega
    have hz0 : ((hi : Int) == 0) = false := beq_eq_false_iff_ne.2 (by omega)
    have hz1 : ¬ (hi : Int) = 0 := by omega
    have w1 : IntKind.u64.wrap ((y : Int) * 2 ^ s) = (Y : Int) := by
      rw [show (y : Int) * 2 ^ s = ((y * 2 ^ s : Nat) : Int) by simp, ← eY, wrap_u64]
      have := hN.Y2; omega
    have w2 : IntKind.u64.wrap ((hi : Int) * 2 ^ s) = ((hi * 2 ^ s : Nat) : Int) := by
      rw [show (hi : Int) * 2 ^ s = ((hi * 2 ^ s : Nat) : Int) by simp, wrap_u64]
      have := hN.hS
      generalize hi * 2 ^ s = q at *
      omega
    have w3 : IntKind.u64.wrap ((lo : Int) * 2 ^ s) = (V : Int) := by
      rw [show (lo : Int) * 2 ^ s = ((lo * 2 ^ s : Nat) : Int) by simp, wrap_u64, eV]
      generalize lo * 2 ^ s = q at *
      omega
    have w4 : (lo : Int) / 2 ^ z = ((lo / 2 ^ z : Nat) : Int) := by simp
    have w5 : bits BinOp.or IntKind.u64 ((hi * 2 ^ s : Nat) : Int) ((lo / 2 ^ z : Nat) : Int) = (U : Int) := by
      have q1 := hN.hS
      have q2 := hN.lz
      have e := bits_or_u64_nat (hi * 2 ^ s) (lo / 2 ^ z) q1 (Nat.lt_of_le_of_lt (Nat.div_le_self _ _) hlo)
      have e2 : (hi * 2 ^ s) ||| (lo / 2 ^ z) = hi * 2 ^ s + lo / 2 ^ z := by
        have := Nat.two_pow_add_eq_or_of_lt (i := s) (b := lo / 2 ^ z) q2 hi
        rw [Nat.mul_comm hi, ← this]
      rw [e2, ← eU] at e
      exact e
    obtain ⟨bl, hbl⟩ : ∃ x : Int, x = (Go.Lib.bitLen y : Int) := ⟨_, rfl⟩
    have hb64 : (64 : Int) - bl = (s : Int) := by rw [hbl]; exact hlz
    have hz64 : (64 : Int) - (s : Int) = (z : Int) := by omega
    have HLZ : Hid (∀ W', Calls Tryz.prog 42 #[.int .u64 y] W' fun e w' => e = .returned (.int .i64 (s : Int)) ∧ W' = w') := fun W' => by
      have := Tryz.bits_LeadingZeros64 (y : Int) W' (by omega) (by omega)
      rw [show ((y : Int)).toNat = y by omega, hlz] at this
      exact this.mono fun e w' ⟨a, b⟩ => ⟨a, b.symm⟩
    obtain ⟨l, hl⟩ : ∃ l, l = lo / 2 ^ z := ⟨_, rfl⟩
    obtain ⟨h, hh⟩ : ∃ h, h = hi * 2 ^ s := ⟨_, rfl⟩
    rw [← hl] at w4 w5
    rw [← hh] at w2 w5
    obtain ⟨f, hf⟩ : ∃ f, f = Y / 4294967296 := ⟨_, rfl⟩
    obtain ⟨g0, hg0⟩ : ∃ g, g = U / f := ⟨_, rfl⟩
    obtain ⟨gf, hgf⟩ : ∃ g, g = g0 * f := ⟨_, rfl⟩
    obtain ⟨r0, hr0⟩ : ∃ g, g = U % f := ⟨_, rfl⟩
    obtain ⟨s1, hs1⟩ : ∃ f, f = Y % 4294967296 := ⟨_, rfl⟩
    obtain ⟨x1, hx1⟩ : ∃ f, f = V / 4294967296 := ⟨_, rfl⟩
    obtain ⟨x0, hx0⟩ : ∃ f, f = V % 4294967296 := ⟨_, rfl⟩
    have hV : V < 18446744073709551616 := by rw [eV]; exact Nat.mod_lt _ (by decide)
    have hY1 := hN.Y1
    have hY2 := hN.Y2
    have hUY := hN.UY
    have w6 : bits BinOp.and IntKind.u64 (Y : Int) 4294967295 = (s1 : Int) := by rw [and_low hY2, hs1]
    have w7 : bits BinOp.and IntKind.u64 (V : Int) 4294967295 = (x0 : Int) := by rw [and_low hV, hx0]
    have w8 : (Y : Int) / 4294967296 = (f : Int) := by omega
    have w9 : (V : Int) / 4294967296 = (x1 : Int) := by omega
    have HP1 : Hid (DigP U x1 f s1) := ⟨by omega, by omega, by omega, by omega, by omega⟩
    have HYF : Hid (f * 4294967296 + s1 = Y) := by show _ = _; omega
    have hf1 : 2147483648 ≤ f := by omega
    have hf2 : f < 4294967296 := by omega
    have hf3 : ¬ (f : Int) = 0 := by omega
    have hs4 : s1 < 4294967296 := by omega
    have hx4 : x1 < 4294967296 := by omega
    have hx5 : x0 < 4294967296 := by omega
    have hU : U < 18446744073709551616 := by omega
    have HX1 := Lib.hid hx1; have HX0 := Lib.hid hx0
    have hgr : gf + r0 = U := by rw [hgf, hg0, hr0, Nat.mul_comm]; exact Nat.div_add_mod _ _
    have w10 : IntKind.u64.wrap ((U : Int) / (f : Int)) = (g0 : Int) := by
      have := Nat.div_le_self U f
      rw [show (U : Int) / f = ((U / f : Nat) : Int) by simp, ← hg0, wrap_u64]; omega
    have w11 : IntKind.u64.wrap ((g0 : Int) * (f : Int)) = (gf : Int) := by
      rw [show (g0 : Int) * f = ((g0 * f : Nat) : Int) by simp, ← hgf, wrap_u64]; omega
    have w12 : IntKind.u64.wrap ((U : Int) - (gf : Int)) = (r0 : Int) := by rw [wrap_u64]; omega
    have Hg0 : Hid (DigK U x1 f s1 g0 r0) := by rw [hg0, hr0]; exact HP1.out.first
    have hr0f : r0 < f := by rw [hr0]; exact Nat.mod_lt _ (by omega)
    have hr0b : r0 < 4294967296 := by omega
    obtain ⟨T1, hT1⟩ : ∃ t, t = (U * 4294967296 + x1) / (f * 4294967296 + s1) := ⟨_, rfl⟩
    have HT1 := Lib.hid hT1
    have HT1b : Hid (T1 < 4294967296) := by rw [hT1]; exact HP1.out.lt
    clear hbl hb64 hlz eY eU eV hN hl hh hf hs1 hx1 hx0 hg0 hgf hr0 hT1 hgr
    go_enter Tryz.func23, Tryz.ntmps23
    go_wp2_with fail
    refine (HLZ.out _).mono ?_
    rintro e w' ⟨rfl, rfl⟩
    go_upto_block 0 with fail
    go_cut [15, 16] from 67 to 85 (fun s t wz => s = .int .u64 T1 ∧ (∃ r : Nat, t = .int .u64 r) ∧ W = wz)
    case first =>
      go_wp2_with fail
      go_loopw [15, 16] (fun s t wr => ∃ q r : Nat, s = .int .u64 q ∧ t = .int .u64 r ∧ r < 4294967296 ∧ Hid (DigK U x1 f s1 q r) ∧ W = wr) (fun s t _ => (intOf s).toNat)
      case atStart => exact ⟨g0, r0, rfl, rfl, hr0b, Hg0, rfl⟩
      case round =>
        obtain ⟨q, r, rfl, rfl, hr, HK, rfl⟩ := hrel
        have hqt := HK.out.top
        by_cases qb : 4294967296 ≤ q
        · have d1 : (q : Int) ≥ 4294967296 := by omega
          have d2 : decide ((q : Int) ≥ 4294967296) = true := decide_eq_true d1
          have d3 : decide ((4294967296 : Int) ≤ q) = true := decide_eq_true d1
          have hd := HK.out.down HP1.out (.inl qb)
          have HK2 := Lib.hid hd.2.1; have HT2 := Lib.hid hd.2.2; have HQ0 := Lib.hid hd.1
          have hq0 : 0 < q := hd.1
          obtain ⟨q', hq'⟩ : ∃ z, z = q - 1 := ⟨_, rfl⟩
          obtain ⟨r', hr'⟩ : ∃ z, z = r + f := ⟨_, rfl⟩
          rw [← hq', ← hr'] at HK2
          rw [← hq'] at HT2
          have v1 : IntKind.u64.wrap ((q : Int) - 1) = (q' : Int) := by rw [wrap_u64]; omega
          have v2 : IntKind.u64.wrap ((r : Int) + (f : Int)) = (r' : Int) := by rw [wrap_u64]; omega
          have hqq : q' < q := by omega
          clear hd hq' hr'
          by_cases qr : 4294967296 ≤ r'
          · have v3 : (r' : Int) ≥ 4294967296 := by omega
            have v4 : decide ((r' : Int) ≥ 4294967296) = true := decide_eq_true v3
            have HE : Hid (q' = T1) := by rw [HT1.out]; exact HK2.out.stop HP1.out (.inr ⟨qr, HT2.out⟩)
            go_wp2_with fail
            go_meet
            case rel => exact ⟨congrArg (fun z : Nat => Value.int .u64 (z : Int)) HE.out, ⟨r', rfl⟩, rfl⟩
          · have v3 : ¬ (r' : Int) ≥ 4294967296 := by omega
            have v4 : decide ((r' : Int) ≥ 4294967296) = false := decide_eq_false v3
            have hrl : r' < 4294967296 := by omega
            go_wp2_with fail
            go_roundw
            case rel => exact ⟨q', r', rfl, rfl, hrl, HK2, by trivial⟩
            case measure => simp [intOf]; omega
        · have d1 : ¬ (q : Int) ≥ 4294967296 := by omega
          have d2 : decide ((q : Int) ≥ 4294967296) = false := decide_eq_false d1
          have d3 : decide ((4294967296 : Int) ≤ q) = false := decide_eq_false d1
          obtain ⟨qs, hqs⟩ : ∃ z, z = q * s1 := ⟨_, rfl⟩
          obtain ⟨rb, hrb⟩ : ∃ z, z = 4294967296 * r := ⟨_, rfl⟩
          obtain ⟨rx, hrx⟩ : ∃ z, z = rb + x1 := ⟨_, rfl⟩
          have hqs2 : qs ≤ 4294967295 * 4294967295 := by rw [hqs]; exact Nat.mul_le_mul (by omega) (by omega)
          have z1 : IntKind.u64.wrap ((q : Int) * (s1 : Int)) = (qs : Int) := by
            rw [show (q : Int) * s1 = ((q * s1 : Nat) : Int) by simp, ← hqs, wrap_u64]; omega
          have z2 : IntKind.u64.wrap ((4294967296 : Int) * (r : Int)) = (rb : Int) := by rw [wrap_u64]; omega
          have z3 : IntKind.u64.wrap ((rb : Int) + (x1 : Int)) = (rx : Int) := by rw [wrap_u64]; omega
          have HQS := Lib.hid hqs
          have HRX : Hid (rx = 4294967296 * r + x1) := by show _ = _; omega
          clear hqs hrb hrx
          by_cases qc : rx < qs
          · have z4 : (qs : Int) > (rx : Int) := by omega
            have hd := HK.out.down HP1.out (.inr (by rw [← HQS.out, ← HRX.out]; exact qc))
            have HK2 := Lib.hid hd.2.1; have HT2 := Lib.hid hd.2.2; have HQ0 := Lib.hid hd.1
            have hq0 : 0 < q := hd.1
            obtain ⟨q', hq'⟩ : ∃ z, z = q - 1 := ⟨_, rfl⟩
            obtain ⟨r', hr'⟩ : ∃ z, z = r + f := ⟨_, rfl⟩
            rw [← hq', ← hr'] at HK2
            rw [← hq'] at HT2
            have v1 : IntKind.u64.wrap ((q : Int) - 1) = (q' : Int) := by rw [wrap_u64]; omega
            have v2 : IntKind.u64.wrap ((r : Int) + (f : Int)) = (r' : Int) := by rw [wrap_u64]; omega
            have hqq : q' < q := by omega
            clear hd hq' hr'
            by_cases qr : 4294967296 ≤ r'
            · have v3 : (r' : Int) ≥ 4294967296 := by omega
              have v4 : decide ((r' : Int) ≥ 4294967296) = true := decide_eq_true v3
              have HE : Hid (q' = T1) := by rw [HT1.out]; exact HK2.out.stop HP1.out (.inr ⟨qr, HT2.out⟩)
              go_wp2_with fail
              go_meet
              case rel => exact ⟨congrArg (fun z : Nat => Value.int .u64 (z : Int)) HE.out, ⟨r', rfl⟩, rfl⟩
            · have v3 : ¬ (r' : Int) ≥ 4294967296 := by omega
              have v4 : decide ((r' : Int) ≥ 4294967296) = false := decide_eq_false v3
              have hrl : r' < 4294967296 := by omega
              go_wp2_with fail
              go_roundw
              case rel => exact ⟨q', r', rfl, rfl, hrl, HK2, by trivial⟩
              case measure => simp [intOf]; omega
          · have z4 : ¬ (qs : Int) > (rx : Int) := by omega
            have z5 : decide ((qs : Int) > (rx : Int)) = false := decide_eq_false z4
            have HE : Hid (q = T1) := by rw [HT1.out]; exact HK.out.stop HP1.out (.inl ⟨by omega, by rw [← HQS.out, ← HRX.out]; omega⟩)
            go_wp2_with fail
            go_meet
            case rel => exact ⟨congrArg (fun z : Nat => Value.int .u64 (z : Int)) HE.out, ⟨r, rfl⟩, rfl⟩
    case rest =>
      obtain ⟨rfl, ⟨rz0T1, rfl⟩, rfl⟩ := hcut
      have hT1b := HT1b.out
      obtain ⟨U2, hU2⟩ : ∃ z, z = (U * 4294967296 + x1) % Y := ⟨_, rfl⟩
      have hU2Y : U2 < Y := by rw [hU2]; exact Nat.mod_lt _ (by omega)
      have HU2 := Lib.hid hU2
      obtain ⟨a1, ha1⟩ : ∃ z, z = U * 4294967296 % 18446744073709551616 := ⟨_, rfl⟩
      obtain ⟨a2, ha2⟩ : ∃ z, z = (a1 + x1) % 18446744073709551616 := ⟨_, rfl⟩
      obtain ⟨a3, ha3⟩ : ∃ z, z = T1 * Y % 18446744073709551616 := ⟨_, rfl⟩
      have k1 : IntKind.u64.wrap ((U : Int) * 4294967296) = (a1 : Int) := by rw [wrap_u64]; omega
      have k2 : IntKind.u64.wrap ((a1 : Int) + (x1 : Int)) = (a2 : Int) := by rw [wrap_u64]; omega
      have k3 : IntKind.u64.wrap ((T1 : Int) * (Y : Int)) = (a3 : Int) := by
        rw [show (T1 : Int) * Y = ((T1 * Y : Nat) : Int) by simp, ha3, wrap_u64]
        obtain ⟨t, ht⟩ : ∃ t, t = T1 * Y := ⟨_, rfl⟩
        rw [← ht]; omega
      have k4 : IntKind.u64.wrap ((a2 : Int) - (a3 : Int)) = (U2 : Int) := by
        rw [← k3, ← k2, ← k1, hU2]
        exact dig_rest hY2 (by omega) (by rw [← HYF.out]; exact HT1.out)
      obtain ⟨g1, hg1⟩ : ∃ g, g = U2 / f := ⟨_, rfl⟩
      obtain ⟨gh, hgh⟩ : ∃ g, g = g1 * f := ⟨_, rfl⟩
      obtain ⟨r1, hr1⟩ : ∃ g, g = U2 % f := ⟨_, rfl⟩
      have hgr : gh + r1 = U2 := by rw [hgh, hg1, hr1, Nat.mul_comm]; exact Nat.div_add_mod _ _
      have k5 : IntKind.u64.wrap ((U2 : Int) / (f : Int)) = (g1 : Int) := by
        have := Nat.div_le_self U2 f
        rw [show (U2 : Int) / f = ((U2 / f : Nat) : Int) by simp, ← hg1, wrap_u64]; omega
      have k6 : IntKind.u64.wrap ((g1 : Int) * (f : Int)) = (gh : Int) := by
        rw [show (g1 : Int) * f = ((g1 * f : Nat) : Int) by simp, ← hgh, wrap_u64]; omega
      have k7 : IntKind.u64.wrap ((U2 : Int) - (gh : Int)) = (r1 : Int) := by rw [wrap_u64]; omega
      have HP2 : Hid (DigP U2 x0 f s1) := ⟨by omega, by omega, by omega, by omega, by rw [HYF.out]; omega⟩
      have Hg1 : Hid (DigK U2 x0 f s1 g1 r1) := by rw [hg1, hr1]; exact HP2.out.first
      have hr1f : r1 < f := by rw [hr1]; exact Nat.mod_lt _ (by omega)
      have hr1b : r1 < 4294967296 := by omega
      obtain ⟨T0, hT0⟩ : ∃ t, t = (U2 * 4294967296 + x0) / (f * 4294967296 + s1) := ⟨_, rfl⟩
      have HT0 := Lib.hid hT0
      have hT0b : T0 < 4294967296 := by rw [hT0]; exact HP2.out.lt
      obtain ⟨RR, hRR⟩ : ∃ z, z = (U2 * 4294967296 + x0) % Y := ⟨_, rfl⟩
      obtain ⟨b1, hb1⟩ : ∃ z, z = T1 * 4294967296 := ⟨_, rfl⟩
      obtain ⟨QQ, hQQ⟩ : ∃ z, z = T1 * 4294967296 + T0 := ⟨_, rfl⟩
      have m1 : IntKind.u64.wrap ((T1 : Int) * 4294967296) = (b1 : Int) := by rw [wrap_u64]; omega
      have m2 : IntKind.u64.wrap ((b1 : Int) + (T0 : Int)) = (QQ : Int) := by rw [wrap_u64]; omega
      obtain ⟨c1, hc1⟩ : ∃ z, z = U2 * 4294967296 % 18446744073709551616 := ⟨_, rfl⟩
      obtain ⟨c2, hc2⟩ : ∃ z, z = (c1 + x0) % 18446744073709551616 := ⟨_, rfl⟩
      obtain ⟨c3, hc3⟩ : ∃ z, z = T0 * Y % 18446744073709551616 := ⟨_, rfl⟩
      have m3 : IntKind.u64.wrap ((U2 : Int) * 4294967296) = (c1 : Int) := by rw [wrap_u64]; omega
      have m4 : IntKind.u64.wrap ((c1 : Int) + (x0 : Int)) = (c2 : Int) := by rw [wrap_u64]; omega
      have m5 : IntKind.u64.wrap ((T0 : Int) * (Y : Int)) = (c3 : Int) := by
        rw [show (T0 : Int) * Y = ((T0 * Y : Nat) : Int) by simp, hc3, wrap_u64]
        obtain ⟨t, ht⟩ : ∃ t, t = T0 * Y := ⟨_, rfl⟩
        rw [← ht]; omega
      have m6 : IntKind.u64.wrap ((c2 : Int) - (c3 : Int)) = (RR : Int) := by
        rw [← m5, ← m4, ← m3, hRR]
        exact dig_rest hY2 (by omega) (by rw [← HYF.out]; exact HT0.out)
      obtain ⟨RS, hRS⟩ : ∃ z, z = RR / 2 ^ s := ⟨_, rfl⟩
      have m7 : (RR : Int) / 2 ^ s = (RS : Int) := by rw [hRS]; simp
      have HFIN : Hid ((hi * 18446744073709551616 + lo) / y = QQ ∧ (hi * 18446744073709551616 + lo) % y = RS) := by
        have h := HN.out.whole (U2 := U2) (by rw [hU2, HX1.out])
        rw [← HX1.out, ← HX0.out] at h
        refine ⟨by rw [← h.1, hQQ, HT1.out, HT0.out, HYF.out], by rw [← h.2, hRS, hRR]⟩
      clear hU2 ha1 ha2 ha3 hg1 hgh hr1 hgr hT0 hRR hb1 hQQ hc1 hc2 hc3 hRS
      go_upto_block 2 with fail
      go_cut [16, 18] from 102 to 120 (fun t s wz => s = .int .u64 T0 ∧ (∃ r : Nat, t = .int .u64 r) ∧ W = wz)
      case first =>
        go_wp2_with fail
        go_loopw [16, 18] (fun t s wr => ∃ q r : Nat, s = .int .u64 q ∧ t = .int .u64 r ∧ r < 4294967296 ∧ Hid (DigK U2 x0 f s1 q r) ∧ W = wr) (fun t s _ => (intOf s).toNat)
        case atStart => exact ⟨g1, r1, rfl, rfl, hr1b, Hg1, rfl⟩
        case round =>
          obtain ⟨q, r, rfl, rfl, hr, HK, rfl⟩ := hrel
          have hqt := HK.out.top
          by_cases qb : 4294967296 ≤ q
          · have d1 : (q : Int) ≥ 4294967296 := by omega
            have d2 : decide ((q : Int) ≥ 4294967296) = true := decide_eq_true d1
            have d3 : decide ((4294967296 : Int) ≤ q) = true := decide_eq_true d1
            have hd := HK.out.down HP2.out (.inl qb)
            have HK2 := Lib.hid hd.2.1; have HT2 := Lib.hid hd.2.2; have HQ0 := Lib.hid hd.1
            have hq0 : 0 < q := hd.1
            obtain ⟨q', hq'⟩ : ∃ z, z = q - 1 := ⟨_, rfl⟩
            obtain ⟨r', hr'⟩ : ∃ z, z = r + f := ⟨_, rfl⟩
            rw [← hq', ← hr'] at HK2
            rw [← hq'] at HT2
            have v1 : IntKind.u64.wrap ((q : Int) - 1) = (q' : Int) := by rw [wrap_u64]; omega
            have v2 : IntKind.u64.wrap ((r : Int) + (f : Int)) = (r' : Int) := by rw [wrap_u64]; omega
            have hqq : q' < q := by omega
            clear hd hq' hr'
            by_cases qr : 4294967296 ≤ r'
            · have v3 : (r' : Int) ≥ 4294967296 := by omega
              have v4 : decide ((r' : Int) ≥ 4294967296) = true := decide_eq_true v3
              have HE : Hid (q' = T0) := by rw [HT0.out]; exact HK2.out.stop HP2.out (.inr ⟨qr, HT2.out⟩)
              go_wp2_with fail
              go_meet
              case rel => exact ⟨congrArg (fun z : Nat => Value.int .u64 (z : Int)) HE.out, ⟨r', rfl⟩, rfl⟩
            · have v3 : ¬ (r' : Int) ≥ 4294967296 := by omega
              have v4 : decide ((r' : Int) ≥ 4294967296) = false := decide_eq_false v3
              have hrl : r' < 4294967296 := by omega
              go_wp2_with fail
              go_roundw
              case rel => exact ⟨q', r', rfl, rfl, hrl, HK2, by trivial⟩
              case measure => simp [intOf]; omega
          · have d1 : ¬ (q : Int) ≥ 4294967296 := by omega
            have d2 : decide ((q : Int) ≥ 4294967296) = false := decide_eq_false d1
            have d3 : decide ((4294967296 : Int) ≤ q) = false := decide_eq_false d1
            obtain ⟨qs, hqs⟩ : ∃ z, z = q * s1 := ⟨_, rfl⟩
            obtain ⟨rb, hrb⟩ : ∃ z, z = 4294967296 * r := ⟨_, rfl⟩
            obtain ⟨rx, hrx⟩ : ∃ z, z = rb + x0 := ⟨_, rfl⟩
            have hqs2 : qs ≤ 4294967295 * 4294967295 := by rw [hqs]; exact Nat.mul_le_mul (by omega) (by omega)
            have z1 : IntKind.u64.wrap ((q : Int) * (s1 : Int)) = (qs : Int) := by
              rw [show (q : Int) * s1 = ((q * s1 : Nat) : Int) by simp, ← hqs, wrap_u64]; omega
            have z2 : IntKind.u64.wrap ((4294967296 : Int) * (r : Int)) = (rb : Int) := by rw [wrap_u64]; omega
            have z3 : IntKind.u64.wrap ((rb : Int) + (x0 : Int)) = (rx : Int) := by rw [wrap_u64]; omega
            have HQS := Lib.hid hqs
            have HRX : Hid (rx = 4294967296 * r + x0) := by show _ = _; omega
            clear hqs hrb hrx
            by_cases qc : rx < qs
            · have z4 : (qs : Int) > (rx : Int) := by omega
              have hd := HK.out.down HP2.out (.inr (by rw [← HQS.out, ← HRX.out]; exact qc))
              have HK2 := Lib.hid hd.2.1; have HT2 := Lib.hid hd.2.2; have HQ0 := Lib.hid hd.1
              have hq0 : 0 < q := hd.1
              obtain ⟨q', hq'⟩ : ∃ z, z = q - 1 := ⟨_, rfl⟩
              obtain ⟨r', hr'⟩ : ∃ z, z = r + f := ⟨_, rfl⟩
              rw [← hq', ← hr'] at HK2
              rw [← hq'] at HT2
              have v1 : IntKind.u64.wrap ((q : Int) - 1) = (q' : Int) := by rw [wrap_u64]; omega
              have v2 : IntKind.u64.wrap ((r : Int) + (f : Int)) = (r' : Int) := by rw [wrap_u64]; omega
              have hqq : q' < q := by omega
              clear hd hq' hr'
              by_cases qr : 4294967296 ≤ r'
              · have v3 : (r' : Int) ≥ 4294967296 := by omega
                have v4 : decide ((r' : Int) ≥ 4294967296) = true := decide_eq_true v3
                have HE : Hid (q' = T0) := by rw [HT0.out]; exact HK2.out.stop HP2.out (.inr ⟨qr, HT2.out⟩)
                go_wp2_with fail
                go_meet
                case rel => exact ⟨congrArg (fun z : Nat => Value.int .u64 (z : Int)) HE.out, ⟨r', rfl⟩, rfl⟩
              · have v3 : ¬ (r' : Int) ≥ 4294967296 := by omega
                have v4 : decide ((r' : Int) ≥ 4294967296) = false := decide_eq_false v3
                have hrl : r' < 4294967296 := by omega
                go_wp2_with fail
                go_roundw
                case rel => exact ⟨q', r', rfl, rfl, hrl, HK2, by trivial⟩
                case measure => simp [intOf]; omega
            · have z4 : ¬ (qs : Int) > (rx : Int) := by omega
              have z5 : decide ((qs : Int) > (rx : Int)) = false := decide_eq_false z4
              have HE : Hid (q = T0) := by rw [HT0.out]; exact HK.out.stop HP2.out (.inl ⟨by omega, by rw [← HQS.out, ← HRX.out]; omega⟩)
              go_wp2_with fail
              go_meet
              case rel => exact ⟨congrArg (fun z : Nat => Value.int .u64 (z : Int)) HE.out, ⟨r, rfl⟩, rfl⟩
      case rest =>
        obtain ⟨rfl, ⟨rz2T0, rfl⟩, rfl⟩ := hcut
        clear HP1 HP2 HT1 HT0 HX1 HX0 HN HLZ
        go_wp2_with fail
        refine bodyPost_ret (v := .tuple #[.int .u64 (QQ : Int), .int .u64 (RS : Int)]) (by simp [results, Tryz.results23, go_sem]) rfl ?_
        exact ⟨by rw [HFIN.out.1, HFIN.out.2], 0, rfl⟩
end Go.Proofs.YtfkogbomijonjaaGreatDoor
namespace Gu

/-- the next state -/
def gstep (s : Nat) : Nat := (s + 11400714819323198485) % 18446744073709551616
def mix1 (z : Nat) : Nat := ((z ^^^ z / 1073741824) * 13787848793156543929) % 18446744073709551616
def mix2 (z : Nat) : Nat := ((z ^^^ z / 134217728) * 10723151780598845931) % 18446744073709551616
/-- the word of a state -/
def gword (s : Nat) : Nat := mix2 (mix1 s) ^^^ mix2 (mix1 s) / 2147483648
theorem gstep_lt (s : Nat) : gstep s < 18446744073709551616 := Nat.mod_lt _ (by decide)
theorem gword_zero : gword 0 = 0 := by decide
theorem xor_lt {a b : Nat} (ha : a < 18446744073709551616) (hb : b < 18446744073709551616) : a ^^^ b < 18446744073709551616 :=
  Nat.xor_lt_two_pow (n := 64) ha hb
theorem mix2_lt (z : Nat) : mix2 z < 18446744073709551616 := Nat.mod_lt _ (by decide)
theorem mix1_lt (z : Nat) : mix1 z < 18446744073709551616 := Nat.mod_lt _ (by decide)
theorem gword_lt (s : Nat) : gword s < 18446744073709551616 := xor_lt (mix2_lt _) (Nat.lt_of_le_of_lt (Nat.div_le_self _ _) (mix2_lt _))
/-- how many steps lie aheadG of the state 0 -/
def aheadG (s : Nat) : Nat := (s * 1018231460777725123) % 18446744073709551616
theorem aheadG_pos {s : Nat} (h : s < 18446744073709551616) (h0 : s ≠ 0) : 0 < aheadG s := by
  refine Nat.pos_of_ne_zero fun e => h0 ?_
  have h1 : (aheadG s * 7046029254386353131) % 18446744073709551616 = s := by
    unfold aheadG
    rw [Nat.mod_mul_mod, Nat.mul_assoc, show 1018231460777725123 * 7046029254386353131 = 388929809602635557 * 18446744073709551616 + 1 by decide]
    omega
  rw [e] at h1
  omega
theorem aheadG_step {s : Nat} (h : 0 < aheadG s) : aheadG (gstep s) + 1 = aheadG s := by
  unfold aheadG at *
  unfold gstep
  rw [Nat.mod_mul_mod]
  omega
/-- from a state on, the first one whose word fits -/
inductive FinG (ok : Nat → Prop) : Nat → Nat → Prop
  | stop {s : Nat} (h : ok s) : FinG ok s s
  | next {s t : Nat} (h : ¬ ok s) (r : FinG ok (gstep s) t) : FinG ok s t
theorem fin_exists (ok : Nat → Prop) (h0 : ok 0) (k : Nat) : ∀ s, s < 18446744073709551616 → aheadG s ≤ k → ∃ t, FinG ok s t := by
  induction k with
  | zero =>
    intro s hs hk
    refine ⟨s, .stop ?_⟩
    by_cases e : s = 0
    · rw [e]; exact h0
    · have := aheadG_pos hs e; omega
  | succ k ih =>
    intro s hs hk
    by_cases e : ok s
    · exact ⟨s, .stop e⟩
    · have e0 : s ≠ 0 := fun x => e (x ▸ h0)
      have h1 := aheadG_step (aheadG_pos hs e0)
      obtain ⟨t, ht⟩ := ih (gstep s) (gstep_lt s) (by omega)
      exact ⟨t, .next e ht⟩
theorem FinG.lt {ok : Nat → Prop} {s t : Nat} (h : FinG ok s t) (hs : s < 18446744073709551616) : t < 18446744073709551616 := by
  induction h with
  | stop _ => exact hs
  | next _ _ ih => exact ih (gstep_lt _)
theorem FinG.at' {ok : Nat → Prop} {s t : Nat} (h : FinG ok s t) (ho : ok s) : t = s := by
  cases h with
  | stop _ => rfl
  | next h _ => exact absurd ho h
theorem FinG.go {ok : Nat → Prop} {s t : Nat} (h : FinG ok s t) (ho : ¬ ok s) : FinG ok (gstep s) t := by
  cases h with
  | stop h => exact absurd h ho
  | next _ h => exact h
/-- the remainder of 2^64 -/
def rest64 (m : Nat) : Nat := (18446744073709551616 - m) % m
/-- the word is not among the highest ones -/
def okAt (m s : Nat) : Prop := gword s + rest64 m ≤ 18446744073709551615
theorem okAt_zero {m : Nat} (hm : 0 < m) (h : m ≤ 1099511627776) : okAt m 0 := by
  unfold okAt rest64
  rw [gword_zero]
  have := Nat.mod_lt (18446744073709551616 - m) hm
  omega
theorem stop_exists {m : Nat} (hm : 0 < m) (h : m ≤ 1099511627776) (s : Nat) : ∃ t, FinG (okAt m) (gstep s) t := fin_exists _ (okAt_zero hm h) _ _ (gstep_lt s) (Nat.le_refl _)
/-- the state behind a number below m, from the state s -/
noncomputable def stopAt (m s : Nat) : Nat := open Classical in if h : ∃ t, FinG (okAt m) (gstep s) t then Classical.choose h else 0
theorem stopAt_fin {m : Nat} (hm : 0 < m) (h : m ≤ 1099511627776) (s : Nat) : FinG (okAt m) (gstep s) (stopAt m s) := by
  have e := stop_exists hm h s
  unfold stopAt
  rw [dif_pos e]
  exact Classical.choose_spec e
theorem stopAt_lt {m : Nat} (hm : 0 < m) (h : m ≤ 1099511627776) (s : Nat) : stopAt m s < 18446744073709551616 := (stopAt_fin hm h s).lt (gstep_lt s)
/-- what is drawn at the place `last` -/
noncomputable def pick (last s : Nat) : Nat := gword (stopAt (last + 1) s) % (last + 1)
theorem pick_le (last s : Nat) : pick last s ≤ last := Nat.le_of_lt_succ (Nat.mod_lt _ (Nat.succ_pos _))
noncomputable def newAt (last s : Nat) (l : List Nat) : Nat := if pick last s ∈ l then last else pick last s
/-- the state and the numbers behind i draws, the first one at the place a -/
noncomputable def drawn (a seed : Nat) : Nat → Nat × List Nat
  | 0 => (seed, [])
  | i + 1 => (stopAt (a + i + 1) (drawn a seed i).1, newAt (a + i) (drawn a seed i).1 (drawn a seed i).2 :: (drawn a seed i).2)
theorem drawn_lt (a seed : Nat) : ∀ i, ∀ x ∈ (drawn a seed i).2, x < a + i
  | 0, x, h => by cases h
  | i + 1, x, h => by
    rcases List.mem_cons.1 h with rfl | h
    · unfold newAt
      have := pick_le (a + i) (drawn a seed i).1
      split <;> omega
    · have := drawn_lt a seed i x h; omega
theorem drawn_new (a seed i : Nat) : newAt (a + i) (drawn a seed i).1 (drawn a seed i).2 ∉ (drawn a seed i).2 := by
  unfold newAt
  split
  · intro h
    have := drawn_lt a seed i _ h; omega
  · assumption
theorem drawn_nodup (a seed : Nat) : ∀ i, (drawn a seed i).2.Nodup
  | 0 => List.nodup_nil
  | i + 1 => List.nodup_cons.2 ⟨drawn_new a seed i, drawn_nodup a seed i⟩
theorem drawn_len (a seed : Nat) : ∀ i, (drawn a seed i).2.length = i
  | 0 => rfl
  | i + 1 => by show (drawn a seed i).2.length + 1 = _; rw [drawn_len a seed i]
theorem drawn_state {a seed : Nat} (hs : seed < 18446744073709551616) : ∀ i, a + i ≤ 1099511627776 → (drawn a seed i).1 < 18446744073709551616
  | 0, _ => hs
  | i + 1, h => stopAt_lt (by omega) (by omega) _
/-- ascending lists with the same members are the same -/
theorem asc_ext : ∀ {l k : List Nat}, l.Pairwise (· < ·) → k.Pairwise (· < ·) → (∀ x, x ∈ l ↔ x ∈ k) → l = k
  | [], [], _, _, _ => rfl
  | [], y :: k, _, _, h => by have := (h y).2 (List.mem_cons_self); cases this
  | x :: l, [], _, _, h => by have := (h x).1 (List.mem_cons_self); cases this
  | x :: l, y :: k, h1, h2, h => by
    obtain ⟨a1, a2⟩ := List.pairwise_cons.1 h1
    obtain ⟨b1, b2⟩ := List.pairwise_cons.1 h2
    have e : x = y := by
      rcases List.mem_cons.1 ((h x).1 List.mem_cons_self) with e | e
      · exact e
      · rcases List.mem_cons.1 ((h y).2 List.mem_cons_self) with e' | e'
        · exact e'.symm
        · have := b1 x e; have := a1 y e'; omega
    subst e
    congr 1
    refine asc_ext a2 b2 fun z => ⟨fun hz => ?_, fun hz => ?_⟩
    · rcases List.mem_cons.1 ((h z).1 (List.mem_cons_of_mem _ hz)) with e | e
      · have := a1 z hz; omega
      · exact e
    · rcases List.mem_cons.1 ((h z).2 (List.mem_cons_of_mem _ hz)) with e | e
      · have := b1 z hz; omega
      · exact e
end Gu
namespace Go.Proofs.YtfkogbomijonjaaGreatDoor
open Go Go.RowKit Gu

theorem gstep_is {s : Nat} : IntKind.u64.wrap ((s : Int) + 11400714819323198485) = ((gstep s : Nat) : Int) := by
  rw [IntKind.wrap_u64]; unfold gstep; omega
theorem mix1_is {z : Nat} (h : z < 18446744073709551616) : IntKind.u64.wrap (bits .xor .u64 (z : Int) ((z : Int) / 1073741824) * 13787848793156543929) = ((mix1 z : Nat) : Int) := mixStep_u64 z 1073741824 13787848793156543929 h
theorem mix2_is {z : Nat} (h : z < 18446744073709551616) : IntKind.u64.wrap (bits .xor .u64 (z : Int) ((z : Int) / 134217728) * 10723151780598845931) = ((mix2 z : Nat) : Int) := mixStep_u64 z 134217728 10723151780598845931 h
theorem mix3_is {z : Nat} (h : z < 18446744073709551616) : bits .xor .u64 (z : Int) ((z : Int) / 2147483648) = ((z ^^^ z / 2147483648 : Nat) : Int) := xorShift_u64 z 2147483648 h
/-- a generator's box -/
def GB (B s : Nat) (W : World) : Prop := W.cell? ⟨B, 0, none⟩ = some (.int .u64 s) ∧ W.frozen? ⟨B, 0, none⟩ = false
theorem GB.next {B s : Nat} {W W' : World} (h : GB B s W) (hB : B < W.heap.size) (hb : Below W.heap.size W W') : GB B s W' :=
  ⟨(hb.cell (p := ⟨B, 0, none⟩) hB).trans h.1, (hb.frozen (p := ⟨B, 0, none⟩) hB).trans h.2⟩
theorem GB.set {B s : Nat} {W : World} (h : GB B s W) (t : Nat) : GB B t (W.setCell ⟨B, 0, none⟩ (.int .u64 t)) :=
  ⟨World.cell?_setCell_same _ _ _ h.1, (World.frozen?_setCell _ _ _ _).trans h.2⟩
theorem rest_is {m : Nat} (hm : 0 < m) (h : m ≤ 1099511627776) : (IntKind.u64.wrap (-(m : Int))).tmod (m : Int) = ((rest64 m : Nat) : Int) := by
  have e1 : IntKind.u64.wrap (-(m : Int)) = ((18446744073709551616 - m : Nat) : Int) := by rw [IntKind.wrap_u64]; omega
  rw [e1]
  unfold rest64
  exact (Int.ofNat_tmod _ _).symm
end Go.Proofs.YtfkogbomijonjaaGreatDoor
namespace Go.Proofs.YtfkogbomijonjaaGreatDoor
open Go Go.RowKit Go.Maps Gu

theorem bool_of_plain {P : Program} {e : TypeId} (he : P.underlying e = some .bool) {v : Value} {x : Bool} {ps : List MemPlace} (h : plainElem (H := Unit) P e v = some (.lit (.bool x), ps)) : v = .bool x := by
  unfold plainElem at h
  rw [he] at h
  cases v <;> simp_all
theorem i64_key {x : Nat} (h : x ≤ 1099511627776) : (Lit.int .i64 (x : Int)).wf = true := by
  simp [Lit.wf, IntKind.min, IntKind.max, IntKind.signed, IntKind.bits]; omega
/-- the set as the map reads -/
def DS : List Nat → DataW Unit
  | [] => .map []
  | x :: l => (DS l).put (.int .i64 x) (.lit (.bool true))
theorem DS_isMap : ∀ l, IsMap (DS l)
  | [] => isMap_empty
  | x :: l => (DS_isMap l).put _ _
theorem DS_at : ∀ (l : List Nat) (k : Nat), (DS l).atKey (.int .i64 k) (.lit (.bool false)) = .lit (.bool (decide (k ∈ l)))
  | [], k => rfl
  | x :: l, k => by
    show ((DS l).put (.int .i64 x) (.lit (.bool true))).atKey (.int .i64 k) _ = _
    by_cases h : k = x
    · subst h
      rw [atKey_put_same (DS_isMap l) (by constructor)]
      simp
    · rw [atKey_put_other (fun e => h (by injection e with _ e; omega)), DS_at l k]
      simp [h]
theorem DS_has : ∀ (l : List Nat) (k : Int), Maps.has (DS l) (.int .i64 k) = true ↔ ∃ x ∈ l, (x : Int) = k
  | [], k => by simp [DS, Maps.has]
  | x :: l, k => by
    show Maps.has ((DS l).put (.int .i64 x) (.lit (.bool true))) (.int .i64 k) = true ↔ _
    by_cases h : (x : Int) = k
    · subst h
      rw [has_put_same (DS_isMap l) (by constructor)]
      simp
    · rw [has_put_other (fun e => h (by injection e with _ e; omega)), DS_has l k]
      simp [h]
theorem keyI : Keyed Tryz.prog 3 := int_keyed Tryz.underlying3
theorem zeroB (w : World) : (zeroValue 4).run Tryz.prog w = .ok (.bool false) w := by kernel_rfl
/-- a set of numbers -/
def SetM (B n : Nat) (l : List Nat) (W : World) : Prop := W.ownsMap Tryz.prog 3 (plainElem Tryz.prog 4) B n (DS l)
/-- numbers as the cells of a row -/
def encN (l : List Nat) : List Value := l.map fun x : Nat => .int .i64 (x : Int)
theorem own_below {b B : Nat} {W w' : World} (hg : W.grownBy w' (some B)) (hB : b ≤ B) (hW : b ≤ W.heap.size) : Below b W w' :=
  (Below.refl b W).grown hg hW (fun j hj => by injection hj with hj; omega)
theorem row_base {w : World} {b b' : Nat} {e : TypeId} {size n : Nat} {v : Value} {xs : List Value} (h : w.ownsRow b e size v n xs) (hb : b' ≤ b) : w.ownsRow b' e size v n xs := by
  refine ⟨h.1, ?_⟩
  rcases h.2 with hn | ⟨g, cap, cur, hv, hg, rest⟩
  · exact .inl hn
  · exact .inr ⟨g, cap, cur, hv, Nat.le_trans hb hg, rest⟩
theorem GB.keep {B C s : Nat} {W W' : World} (h : GB B s W) (hB : B < W.heap.size) (hg : W.grownBy W' (some C)) (hne : B ≠ C) : GB B s W' :=
  ⟨hg.cell h.1 (by simpa using hne), (World.frozen?_of_block (hg.block B hB (by simpa using hne))).trans h.2⟩
end Go.Proofs.YtfkogbomijonjaaGreatDoor
namespace Go.Proofs.YtfkogbomijonjaaGreatDoor
open Go Go.RowKit Gu

/-- a list of numbers lies at a slice -/
def IsZs (W : World) (v : Value) (l : List Nat) : Prop :=
  ∃ ao c, v = .slice ao l.length c ∧ (0 < l.length → ∃ B o, ao = some ⟨B, o, none⟩ ∧ B < W.heap.size ∧ ∀ j (h : j < l.length), W.cell? ⟨B, o + j, none⟩ = some (.int .i64 (l[j] : Int)))
theorem IsZs.below {W W' : World} {v : Value} {l : List Nat} (h : IsZs W v l) (hb : Below W.heap.size W W') : IsZs W' v l := by
  obtain ⟨ao, c, hv, h⟩ := h
  refine ⟨ao, c, hv, fun hp => ?_⟩
  obtain ⟨B, o, e, hB, hc⟩ := h hp
  exact ⟨B, o, e, Nat.lt_of_lt_of_le hB hb.size, fun j hj => (hb.cell (p := ⟨B, _, none⟩) hB).trans (hc j hj)⟩
theorem IsZs.at' {W : World} {a : Option Addr} {n c : Nat} {l : List Nat} (h : IsZs W (.slice a n c) l) {j : Nat} (hj : j < l.length) : ∃ B o, a = some ⟨B, o, none⟩ ∧ W.cell? ⟨B, o + j, none⟩ = some (.int .i64 (l[j] : Int)) := by
  obtain ⟨a', c', hv, hcs⟩ := h
  injection hv with hv1 hv2 hv3
  subst hv1
  obtain ⟨B, o, e1, -, hcs2⟩ := hcs (by omega)
  exact ⟨B, o, e1, hcs2 j hj⟩
theorem IsZs.of_row {W : World} {base n : Nat} {v : Value} {l : List Nat} (h : W.ownsRow base 3 1 v n (encN l)) (hn : n = l.length) : IsZs W v l := by
  subst hn
  have hcs := fun g hg => h.cells (g := g) hg
  have hlt := h.lt
  rcases h.2 with ⟨rfl, h0⟩ | ⟨g, cap, cur, rfl, _⟩
  · exact ⟨none, 0, by rw [h0], fun hp => by omega⟩
  · refine ⟨some ⟨g, 0, none⟩, cap, rfl, fun hp => ⟨g, 0, rfl, (hlt g rfl).2, fun j hj => ?_⟩⟩
    have e0 : (encN l)[j]? = some (.int .i64 (l[j] : Int)) := by simp [encN, hj]
    have c0 := hcs g rfl _ _ e0
    rw [show (⟨g, 0, none⟩ : Addr).add j = ⟨g, 0 + j, none⟩ from Addr.add_lit ..] at c0
    exact c0
theorem below_drewM {b : Nat} {w W : World} (h : Below b w W) (n : Nat) : Below b w (W.drewN n) := ⟨h.os, h.tape, h.output, h.size, h.block⟩
/-- valid arguments of Draw -/
def DrawnP (lot n : Int) : Prop := 0 ≤ lot ∧ lot ≤ 1099511627776 ∧ 0 ≤ n ∧ n ≤ lot ∧ n ≤ 4096
end Go.Proofs.YtfkogbomijonjaaGreatDoor
