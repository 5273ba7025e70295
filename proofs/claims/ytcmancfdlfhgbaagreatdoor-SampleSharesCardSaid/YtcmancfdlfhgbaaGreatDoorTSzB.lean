/- Contracts and lemmas (several texts merged into one). -/
import Derived.Test.YtcmancfdlfhgbaaGreatDoorTSz1
import Derived.Laws.Bits64
import Derived.Laws.Bits64b
import Derived.RegionTactic
import Derived.Deep.CutBlock
import Derived.Test.YtcmancfdlfhgbaaGreatDoorTxt
import Derived.Test.YtcmancfdlfhgbaaGreatDoorTSzA
import Derived.Test.YtcmancfdlfhgbaaGreatDoorRa
import Derived.BigRegion
import Derived.Test.YtcmancfdlfhgbaaGreatDoorTSz3
namespace Go.Proofs.YtcmancfdlfhgbaaGreatDoor
open Go Go.RowKit Gu

/-- what a loop of the division keeps: q is not below the digit -/
structure DigK (u x f s q r : Nat) : Prop where
  sum : q * f + r = u
  low : (u * 4294967296 + x) / (f * 4294967296 + s) ≤ q
  top : q ≤ 4294967297
theorem div_lt_mul {a b c : Nat} (hb : 0 < b) (h : a < c * b) : a / b < c := (Nat.div_lt_iff_lt_mul hb).2 h
/-- the digit -/
structure DigP (u x f s : Nat) : Prop where
  hf : 2147483648 ≤ f
  hf2 : f < 4294967296
  hs : s < 4294967296
  hx : x < 4294967296
  hu : u < f * 4294967296 + s
theorem DigP.lt {u x f s : Nat} (h : DigP u x f s) : (u * 4294967296 + x) / (f * 4294967296 + s) < 4294967296 := by
  obtain ⟨h1, h2, h3, h4, h5⟩ := h
  have hy : 0 < f * 4294967296 + s := by omega
  obtain ⟨y, he⟩ : ∃ y, y = f * 4294967296 + s := ⟨_, rfl⟩
  rw [← he] at hy h5 ⊢
  have h6 : u * 4294967296 + x < 4294967296 * y := by omega
  exact div_lt_mul hy h6
theorem DigP.first {u x f s : Nat} (h : DigP u x f s) : DigK u x f s (u / f) (u % f) := by
  obtain ⟨h1, h2, h3, h4, h5⟩ := h
  refine ⟨by rw [Nat.mul_comm]; exact Nat.div_add_mod u f, ?_, ?_⟩
  · have e1 : (u * 4294967296 + x) / (f * 4294967296 + s) ≤ (u * 4294967296 + x) / (f * 4294967296) := Nat.div_le_div_left (Nat.le_add_right _ _) (by omega)
    have e2 : (u * 4294967296 + x) / (f * 4294967296) = u / f := by
      rw [Nat.mul_comm f, ← Nat.div_div_eq_div_mul]
      congr 1; omega
    omega
  · refine Nat.le_of_lt_succ ((Nat.div_lt_iff_lt_mul (by omega)).2 ?_)
    omega
theorem DigK.down {u x f s q r : Nat} (hp : DigP u x f s) (h : DigK u x f s q r) (hq : 4294967296 ≤ q ∨ 4294967296 * r + x < q * s) : 0 < q ∧ DigK u x f s (q - 1) (r + f) ∧ q - 1 ≤ 4294967296 := by
  have h0 := hp.lt
  obtain ⟨h1, h2, h3⟩ := h
  have hlt : (u * 4294967296 + x) / (f * 4294967296 + s) < q := by
    rcases hq with e | e
    · omega
    · have g1 := hp.hf
      refine (Nat.div_lt_iff_lt_mul (by omega)).2 ?_
      rw [Nat.mul_add, ← h1, ← Nat.mul_assoc]
      generalize q * f = a at *
      generalize q * s = b at *
      omega
  obtain ⟨j, rfl⟩ : ∃ j, q = j + 1 := ⟨q - 1, by have := Nat.lt_of_le_of_lt (Nat.zero_le _) hlt; omega⟩
  rw [Nat.add_mul, Nat.one_mul] at h1
  refine ⟨by omega, ⟨by rw [Nat.add_sub_cancel]; omega, by omega, by omega⟩, by omega⟩
theorem DigK.stop {u x f s q r : Nat} (hp : DigP u x f s) (h : DigK u x f s q r) (hq : (q < 4294967296 ∧ q * s ≤ 4294967296 * r + x) ∨ (4294967296 ≤ r ∧ q ≤ 4294967296)) : q = (u * 4294967296 + x) / (f * 4294967296 + s) := by
  obtain ⟨g1, g2, g3, g4, g5⟩ := hp
  obtain ⟨h1, h2, h3⟩ := h
  refine Nat.le_antisymm ((Nat.le_div_iff_mul_le (by omega)).2 ?_) h2
  rw [Nat.mul_add, ← h1, ← Nat.mul_assoc]
  have hqs : q * s ≤ 4294967296 * r + x := by
    rcases hq with e | e
    · exact e.2
    · have : q * s ≤ 4294967296 * 4294967296 := Nat.mul_le_mul e.2 (by omega)
      omega
  generalize q * f = a at *
  generalize q * s = b at *
  omega
/-- the rest of a digit, as words make it -/
theorem dig_rest {u x y q : Nat} (hy : y < 18446744073709551616) (hy0 : 0 < y) (hq : q = (u * 4294967296 + x) / y) :
    IntKind.u64.wrap (IntKind.u64.wrap (IntKind.u64.wrap ((u : Int) * 4294967296) + x) - IntKind.u64.wrap ((q : Int) * y)) = (((u * 4294967296 + x) % y : Nat) : Int) := by
  have h1 : (u * 4294967296 + x) % y < y := Nat.mod_lt _ hy0
  have h2 := Nat.div_add_mod (u * 4294967296 + x) y
  rw [← hq] at h2
  rw [show (q : Int) * y = ((y * q : Nat) : Int) by rw [Nat.mul_comm]; exact_mod_cast rfl]
  generalize (u * 4294967296 + x) % y = z at *
  generalize y * q = w at *
  simp only [wrap_u64]
  omega
end Go.Proofs.YtcmancfdlfhgbaaGreatDoor
namespace Go.Proofs.YtcmancfdlfhgbaaGreatDoor
open Go Go.RowKit Gu

/-- the scaled division -/
structure NormK (hi lo y s S Z Y U V : Nat) : Prop where
  p : S * Z = 18446744073709551616
  s0 : 0 < S
  z0 : 0 < Z
  eY : Y = y * S
  Y1 : 9223372036854775808 ≤ Y
  Y2 : Y < 18446744073709551616
  eU : U = hi * S + lo / Z
  UY : U < Y
  lz : lo / Z < S
  hS : hi * S < 18446744073709551616
  eV : V = lo * S % 18446744073709551616
  id' : (hi * 18446744073709551616 + lo) * S = U * 18446744073709551616 + V
set_option maxRecDepth 100000 in
theorem and_low {Y : Nat} (h : Y < 18446744073709551616) : bits BinOp.and IntKind.u64 (Y : Int) 4294967295 = ((Y % 4294967296 : Nat) : Int) := by
  have e := bits_and_u64_nat Y 4294967295 h (by decide)
  rw [show (4294967295 : Nat) = 2 ^ 32 - 1 by decide, Nat.and_two_pow_sub_one_eq_mod] at e
  exact e
theorem norm_of {hi lo y : Nat} (h1 : hi < y) (hlo : lo < 18446744073709551616) (hy : y < 9223372036854775808) :
    ∃ s z : Nat, 0 < s ∧ 0 < z ∧ z + s = 64 ∧ (64 : Int) - (Go.Lib.bitLen y : Int) = (s : Int) ∧ NormK hi lo y s (2 ^ s) (2 ^ z) (y * 2 ^ s) (hi * 2 ^ s + lo / 2 ^ z) (lo * 2 ^ s % 18446744073709551616) := by
  obtain ⟨L, e1, e2, e3⟩ := Gu.bitLen_spec (x := y) (by omega) (by omega)
  have hL : L < 63 := by
    rcases Nat.lt_or_ge L 63 with h | h
    · exact h
    · have : 2 ^ 63 ≤ 2 ^ L := Nat.pow_le_pow_right (by decide) h
      omega
  refine ⟨63 - L, L + 1, by omega, by omega, by omega, by rw [e1]; omega, ?_⟩
  have hp : 2 ^ (63 - L) * 2 ^ (L + 1) = 18446744073709551616 := by
    rw [← Nat.pow_add, show 63 - L + (L + 1) = 64 by omega]
  have hp2 : 2 ^ (63 - L) * 2 ^ L = 9223372036854775808 := by
    rw [← Nat.pow_add, show 63 - L + L = 63 by omega]
  have hS : 0 < 2 ^ (63 - L) := Nat.pow_pos (by decide)
  have hZ : 0 < 2 ^ (L + 1) := Nat.pow_pos (by decide)
  generalize 2 ^ (63 - L) = S at *
  have hY1 : S * 2 ^ L ≤ S * y := Nat.mul_le_mul_left _ e2
  have hY2 : S * y < S * 2 ^ (L + 1) := Nat.mul_lt_mul_of_pos_left e3 hS
  rw [hp2] at hY1
  rw [hp] at hY2
  generalize 2 ^ (L + 1) = Z at *
  have hlz : lo / Z < S := (Nat.div_lt_iff_lt_mul hZ).2 (by rw [hp]; exact hlo)
  have hhi : hi * S + S ≤ S * y := by
    have : (hi + 1) * S ≤ y * S := Nat.mul_le_mul_right _ h1
    rw [Nat.add_mul, Nat.one_mul, Nat.mul_comm y] at this
    exact this
  have hid : lo * S = lo / Z * 18446744073709551616 + lo % Z * S := by
    conv => lhs; rw [← Nat.div_add_mod lo Z, Nat.add_mul, Nat.mul_right_comm, Nat.mul_comm Z, Nat.mul_comm (S * Z), hp]
  have hmod : lo % Z * S < 18446744073709551616 := by
    rw [← hp, Nat.mul_comm S Z]
    exact Nat.mul_lt_mul_of_pos_right (Nat.mod_lt _ hZ) hS
  have hV : lo * S % 18446744073709551616 = lo % Z * S := by
    rw [hid, Nat.add_comm, Nat.add_mul_mod_self_right, Nat.mod_eq_of_lt hmod]
  refine ⟨hp, hS, hZ, rfl, by rw [Nat.mul_comm]; exact hY1, by rw [Nat.mul_comm]; exact hY2, rfl, by rw [Nat.mul_comm y]; omega, hlz, by rw [Nat.mul_comm S y] at hY2 hhi; omega, rfl, ?_⟩
  rw [hV, Nat.add_mul, hid, Nat.add_mul, Nat.mul_right_comm]
  omega
set_option maxRecDepth 100000 in
/-- the quotient and the rest, out of the two digits -/
theorem NormK.whole {hi lo y s S Z Y U V : Nat} (h : NormK hi lo y s S Z Y U V) {U2 : Nat} (e2 : U2 = (U * 4294967296 + V / 4294967296) % Y) :
    (U * 4294967296 + V / 4294967296) / Y * 4294967296 + (U2 * 4294967296 + V % 4294967296) / Y = (hi * 18446744073709551616 + lo) / y ∧
    (U2 * 4294967296 + V % 4294967296) % Y / S = (hi * 18446744073709551616 + lo) % y := by
  have hY : 0 < Y := by have := h.Y1; omega
  have d1 := Nat.div_add_mod (U * 4294967296 + V / 4294967296) Y
  rw [← e2] at d1
  have d2 := Nat.div_add_mod (U2 * 4294967296 + V % 4294967296) Y
  have l2 := Nat.mod_lt (U2 * 4294967296 + V % 4294967296) hY
  obtain ⟨a, ha⟩ : ∃ a, a = (U * 4294967296 + V / 4294967296) / Y := ⟨_, rfl⟩
  obtain ⟨b, hb⟩ : ∃ b, b = (U2 * 4294967296 + V % 4294967296) / Y := ⟨_, rfl⟩
  obtain ⟨r, hr⟩ : ∃ r, r = (U2 * 4294967296 + V % 4294967296) % Y := ⟨_, rfl⟩
  rw [← ha] at d1 ⊢
  rw [← hb, ← hr] at d2
  rw [← hr] at l2
  rw [← hb, ← hr]
  clear ha hb hr e2
  have hid := h.id'
  have hM : (hi * 18446744073709551616 + lo) * S = Y * (a * 4294967296 + b) + r := by
    rw [hid, Nat.mul_add, ← Nat.mul_assoc]
    obtain ⟨A, hA⟩ : ∃ A, A = Y * a := ⟨_, rfl⟩
    obtain ⟨Bb, hB⟩ : ∃ A, A = Y * b := ⟨_, rfl⟩
    rw [← hA] at d1 ⊢
    rw [← hB] at d2 ⊢
    omega
  obtain ⟨M, hM'⟩ : ∃ M, M = hi * 18446744073709551616 + lo := ⟨_, rfl⟩
  rw [← hM'] at hM ⊢
  have q1 : M * S / Y = a * 4294967296 + b := by
    rw [hM, Nat.mul_add_div hY, Nat.div_eq_of_lt l2, Nat.add_zero]
  have q2 : M * S % Y = r := by
    rw [hM, Nat.mul_add_mod, Nat.mod_eq_of_lt l2]
  rw [h.eY, Nat.mul_div_mul_right _ _ h.s0] at q1
  rw [h.eY, Nat.mul_mod_mul_right] at q2
  exact ⟨q1.symm, by rw [← q2, Nat.mul_div_cancel _ h.s0]⟩
set_option maxRecDepth 100000 in
set_option maxHeartbeats 2000000 in
/-- the quotient and the rest, where the high word is less than the divisor -/
theorem Div64_any {hi lo y : Nat} {W : World} (h1 : hi < y) (hlo : lo < 18446744073709551616) (hy : y < 9223372036854775808) :
    Calls Tryz.prog 76 #[.int .u64 hi, .int .u64 lo, .int .u64 y] W fun e w' => e = .returned (.tuple #[.int .u64 ((hi * 18446744073709551616 + lo) / y : Nat), .int .u64 ((hi * 18446744073709551616 + lo) % y : Nat)]) ∧ ∃ q, w' = W.drewN q := by
  have y0 : ((y : Int) == 0) = false := beq_eq_false_iff_ne.2 (by omega)
  have y1 : ¬ (y : Int) = 0 := by omega
  have y2 : ¬ (y : Int) ≤ (hi : Int) := by omega
  by_cases hz : hi = 0
  · subst hz
    have _e1 : IntKind.u64.wrap ((lo : Int) / y) = ((lo / y : Nat) : Int) := by
      have := Nat.div_le_self lo y
      rw [show (lo : Int) / y = ((lo / y : Nat) : Int) by simp]
      generalize lo / y = z at *
      rw [wrap_u64]; omega
    go_enter Tryz.func76, Tryz.ntmps76
    go_wp2_with fail
    go_quiet (fail)
    go_wp2_with fail
    refine bodyPost_ret (v := .tuple #[.int .u64 ((lo / y : Nat) : Int), .int .u64 ((lo % y : Nat) : Int)]) (by simp [results, Tryz.results76, go_sem]) rfl ?_
    exact ⟨by rw [Nat.zero_mul, Nat.zero_add], _, rfl⟩
  · obtain ⟨s, z, hs0, hz0', hzs, hlz, hN⟩ := norm_of h1 hlo hy
    obtain ⟨Y, eY⟩ : ∃ Y, Y = y * 2 ^ s := ⟨_, rfl⟩
    obtain ⟨U, eU⟩ : ∃ U, U = hi * 2 ^ s + lo / 2 ^ z := ⟨_, rfl⟩
    obtain ⟨V, eV⟩ : ∃ V, V = lo * 2 ^ s % 18446744073709551616 := ⟨_, rfl⟩
    rw [← eY, ← eU, ← eV] at hN
    have HN := Lib.hid hN
    have hs64 : s < 64 := by omega
    have hzl : z < 64 := by omega
    have hwz : IntKind.u64.wrap ((64 : Int) - (s : Int)) = (z : Int) := by rw [wrap_u64]; omega
    have hz0 : ((hi : Int) == 0) = false := beq_eq_false_iff_ne.2 (by omega)
    have hz1 : ¬ (hi : Int) = 0 := by omega
    have w1 : IntKind.u64.wrap ((y : Int) * 2 ^ s) = (Y : Int) := by
      rw [show (y : Int) * 2 ^ s = ((y * 2 ^ s : Nat) : Int) by simp, ← eY, wrap_u64]
      have := hN.Y2; omega
    have w2 : IntKind.u64.wrap ((hi : Int) * 2 ^ s) = ((hi * 2 ^ s : Nat) : Int) := by
      rw [show (hi : Int) * 2 ^ s = ((hi * 2 ^ s : Nat) : Int) by simp, wrap_u64]
      have := hN.hS
      generalize hi * 2 ^ s = q at *
      omega
    have w3 : IntKind.u64.wrap ((lo : Int) * 2 ^ s) = (V : Int) := by
      rw [show (lo : Int) * 2 ^ s = ((lo * 2 ^ s : Nat) : Int) by simp, wrap_u64, eV]
      generalize lo * 2 ^ s = q at *
      omega
    have w4 : (lo : Int) / 2 ^ z = ((lo / 2 ^ z : Nat) : Int) := by simp
    have w5 : bits BinOp.or IntKind.u64 ((hi * 2 ^ s : Nat) : Int) ((lo / 2 ^ z : Nat) : Int) = (U : Int) := by
      have q1 := hN.hS
      have q2 := hN.lz
      have e := bits_or_u64_nat (hi * 2 ^ s) (lo / 2 ^ z) q1 (Nat.lt_of_le_of_lt (Nat.div_le_self _ _) hlo)
      have e2 : (hi * 2 ^ s) ||| (lo / 2 ^ z) = hi * 2 ^ s + lo / 2 ^ z := by
        have := Nat.two_pow_add_eq_or_of_lt (i := s) (b := lo / 2 ^ z) q2 hi
        rw [Nat.mul_comm hi, ← this]
      rw [e2, ← eU] at e
      exact e
    obtain ⟨bl, hbl⟩ : ∃ x : Int, x = (Go.Lib.bitLen y : Int) := ⟨_, rfl⟩
    have hb64 : (64 : Int) - bl = (s : Int) := by rw [hbl]; exact hlz
    have hz64 : (64 : Int) - (s : Int) = (z : Int) := by omega
    have HLZ : Hid (∀ W', Calls Tryz.prog 113 #[.int .u64 y] W' fun e w' => e = .returned (.int .i64 (s : Int)) ∧ W' = w') := fun W' => by
      have := Tryz.bits_LeadingZeros64 (y : Int) W' (by omega) (by omega)
      rw [show ((y : Int)).toNat = y by omega, hlz] at this
      exact this.mono fun e w' ⟨a, b⟩ => ⟨a, b.symm⟩
    obtain ⟨l, hl⟩ : ∃ l, l = lo / 2 ^ z := ⟨_, rfl⟩
    obtain ⟨h, hh⟩ : ∃ h, h = hi * 2 ^ s := ⟨_, rfl⟩
    rw [← hl] at w4 w5
    rw [← hh] at w2 w5
    obtain ⟨f, hf⟩ : ∃ f, f = Y / 4294967296 := ⟨_, rfl⟩
    obtain ⟨g0, hg0⟩ : ∃ g, g = U / f := ⟨_, rfl⟩
    obtain ⟨gf, hgf⟩ : ∃ g, g = g0 * f := ⟨_, rfl⟩
    obtain ⟨r0, hr0⟩ : ∃ g, g = U % f := ⟨_, rfl⟩
    obtain ⟨s1, hs1⟩ : ∃ f, f = Y % 4294967296 := ⟨_, rfl⟩
    obtain ⟨x1, hx1⟩ : ∃ f, f = V / 4294967296 := ⟨_, rfl⟩
    obtain ⟨x0, hx0⟩ : ∃ f, f = V % 4294967296 := ⟨_, rfl⟩
    have hV : V < 18446744073709551616 := by rw [eV]; exact Nat.mod_lt _ (by decide)
    have hY1 := hN.Y1
    have hY2 := hN.Y2
    have hUY := hN.UY
    have w6 : bits BinOp.and IntKind.u64 (Y : Int) 4294967295 = (s1 : Int) := by rw [and_low hY2, hs1]
    have w7 : bits BinOp.and IntKind.u64 (V : Int) 4294967295 = (x0 : Int) := by rw [and_low hV, hx0]
    have w8 : (Y : Int) / 4294967296 = (f : Int) := by omega
    have w9 : (V : Int) / 4294967296 = (x1 : Int) := by omega
    have HP1 : Hid (DigP U x1 f s1) := ⟨by omega, by omega, by omega, by omega, by omega⟩
    have HYF : Hid (f * 4294967296 + s1 = Y) := by show _ = _; omega
    have hf1 : 2147483648 ≤ f := by omega
    have hf2 : f < 4294967296 := by omega
    have hf3 : ¬ (f : Int) = 0 := by omega
    have hs4 : s1 < 4294967296 := by omega
    have hx4 : x1 < 4294967296 := by omega
    have hx5 : x0 < 4294967296 := by omega
    have hU : U < 18446744073709551616 := by omega
    have HX1 := Lib.hid hx1; have HX0 := Lib.hid hx0
    have hgr : gf + r0 = U := by rw [hgf, hg0, hr0, Nat.mul_comm]; exact Nat.div_add_mod _ _
    have w10 : IntKind.u64.wrap ((U : Int) / (f : Int)) = (g0 : Int) := by
      have := Nat.div_le_self U f
      rw [show (U : Int) / f = ((U / f : Nat) : Int) by simp, ← hg0, wrap_u64]; omega
    have w11 : IntKind.u64.wrap ((g0 : Int) * (f : Int)) = (gf : Int) := by
      rw [show (g0 : Int) * f = ((g0 * f : Nat) : Int) by simp, ← hgf, wrap_u64]; omega
    have w12 : IntKind.u64.wrap ((U : Int) - (gf : Int)) = (r0 : Int) := by rw [wrap_u64]; omega
    have Hg0 : Hid (DigK U x1 f s1 g0 r0) := by rw [hg0, hr0]; exact HP1.out.first
    have hr0f : r0 < f := by rw [hr0]; exact Nat.mod_lt _ (by omega)
    have hr0b : r0 < 4294967296 := by omega
    obtain ⟨T1, hT1⟩ : ∃ t, t = (U * 4294967296 + x1) / (f * 4294967296 + s1) := ⟨_, rfl⟩
    have HT1 := Lib.hid hT1
    have HT1b : Hid (T1 < 4294967296) := by rw [hT1]; exact HP1.out.lt
    clear hbl hb64 hlz eY eU eV hN hl hh hf hs1 hx1 hx0 hg0 hgf hr0 hT1 hgr
    go_enter Tryz.func76, Tryz.ntmps76
    go_wp2_with fail
    refine (HLZ.out _).mono ?_
    rintro e w' ⟨rfl, rfl⟩
    go_upto_block 0 with fail
    go_cut [15, 16] from 67 to 85 (fun s t wz => s = .int .u64 T1 ∧ (∃ r : Nat, t = .int .u64 r) ∧ W = wz)
    case first =>
      go_wp2_with fail
      go_loopw [15, 16] (fun s t wr => ∃ q r : Nat, s = .int .u64 q ∧ t = .int .u64 r ∧ r < 4294967296 ∧ Hid (DigK U x1 f s1 q r) ∧ W = wr) (fun s t _ => (intOf s).toNat)
      case atStart => exact ⟨g0, r0, rfl, rfl, hr0b, Hg0, rfl⟩
      case round =>
        obtain ⟨q, r, rfl, rfl, hr, HK, rfl⟩ := hrel
        have hqt := HK.out.top
        by_cases qb : 4294967296 ≤ q
        · have d1 : (q : Int) ≥ 4294967296 := by omega
          have d2 : decide ((q : Int) ≥ 4294967296) = true := decide_eq_true d1
          have d3 : decide ((4294967296 : Int) ≤ q) = true := decide_eq_true d1
          have hd := HK.out.down HP1.out (.inl qb)
          have HK2 := Lib.hid hd.2.1; have HT2 := Lib.hid hd.2.2; have HQ0 := Lib.hid hd.1
          have hq0 : 0 < q := hd.1
          obtain ⟨q', hq'⟩ : ∃ z, z = q - 1 := ⟨_, rfl⟩
          obtain ⟨r', hr'⟩ : ∃ z, z = r + f := ⟨_, rfl⟩
          rw [← hq', ← hr'] at HK2
          rw [← hq'] at HT2
          have v1 : IntKind.u64.wrap ((q : Int) - 1) = (q' : Int) := by rw [wrap_u64]; omega
          have v2 : IntKind.u64.wrap ((r : Int) + (f : Int)) = (r' : Int) := by rw [wrap_u64]; omega
          have hqq : q' < q := by omega
          clear hd hq' hr'
          by_cases qr : 4294967296 ≤ r'
          · have v3 : (r' : Int) ≥ 4294967296 := by omega
            have v4 : decide ((r' : Int) ≥ 4294967296) = true := decide_eq_true v3
            have HE : Hid (q' = T1) := by rw [HT1.out]; exact HK2.out.stop HP1.out (.inr ⟨qr, HT2.out⟩)
            go_wp2_with fail
            go_meet
            case rel => exact ⟨congrArg (fun z : Nat => Value.int .u64 (z : Int)) HE.out, ⟨r', rfl⟩, rfl⟩
          · have v3 : ¬ (r' : Int) ≥ 4294967296 := by omega
            have v4 : decide ((r' : Int) ≥ 4294967296) = false := decide_eq_false v3
            have hrl : r' < 4294967296 := by omega
            go_wp2_with fail
            go_roundw
            case rel => exact ⟨q', r', rfl, rfl, hrl, HK2, by trivial⟩
            case measure => simp [intOf]; omega
        · have d1 : ¬ (q : Int) ≥ 4294967296 := by omega
          have d2 : decide ((q : Int) ≥ 4294967296) = false := decide_eq_false d1
          have d3 : decide ((4294967296 : Int) ≤ q) = false := decide_eq_false d1
          obtain ⟨qs, hqs⟩ : ∃ z, z = q * s1 := ⟨_, rfl⟩
          obtain ⟨rb, hrb⟩ : ∃ z, z = 4294967296 * r := ⟨_, rfl⟩
          obtain ⟨rx, hrx⟩ : ∃ z, z = rb + x1 := ⟨_, rfl⟩
          have hqs2 : qs ≤ 4294967295 * 4294967295 := by rw [hqs]; exact Nat.mul_le_mul (by omega) (by omega)
          have z1 : IntKind.u64.wrap ((q : Int) * (s1 : Int)) = (qs : Int) := by
            rw [show (q : Int) * s1 = ((q * s1 : Nat) : Int) by simp, ← hqs, wrap_u64]; omega
          have z2 : IntKind.u64.wrap ((4294967296 : Int) * (r : Int)) = (rb : Int) := by rw [wrap_u64]; omega
          have z3 : IntKind.u64.wrap ((rb : Int) + (x1 : Int)) = (rx : Int) := by rw [wrap_u64]; omega
          have HQS := Lib.hid hqs
          have HRX : Hid (rx = 4294967296 * r + x1) := by show _ = _; omega
          clear hqs hrb hrx
          by_cases qc : rx < qs
          · have z4 : (qs : Int) > (rx : Int) := by omega
            have hd := HK.out.down HP1.out (.inr (by rw [← HQS.out, ← HRX.out]; exact qc))
            have HK2 := Lib.hid hd.2.1; have HT2 := Lib.hid hd.2.2; have HQ0 := Lib.hid hd.1
            have hq0 : 0 < q := hd.1
            obtain ⟨q', hq'⟩ : ∃ z, z = q - 1 := ⟨_, rfl⟩
            obtain ⟨r', hr'⟩ : ∃ z, z = r + f := ⟨_, rfl⟩
            rw [← hq', ← hr'] at HK2
            rw [← hq'] at HT2
            have v1 : IntKind.u64.wrap ((q : Int) - 1) = (q' : Int) := by rw [wrap_u64]; omega
            have v2 : IntKind.u64.wrap ((r : Int) + (f : Int)) = (r' : Int) := by rw [wrap_u64]; omega
            have hqq : q' < q := by omega
            clear hd hq' hr'
            by_cases qr : 4294967296 ≤ r'
            · have v3 : (r' : Int) ≥ 4294967296 := by omega
              have v4 : decide ((r' : Int) ≥ 4294967296) = true := decide_eq_true v3
              have HE : Hid (q' = T1) := by rw [HT1.out]; exact HK2.out.stop HP1.out (.inr ⟨qr, HT2.out⟩)
              go_wp2_with fail
              go_meet
              case rel => exact ⟨congrArg (fun z : Nat => Value.int .u64 (z : Int)) HE.out, ⟨r', rfl⟩, rfl⟩
            · have v3 : ¬ (r' : Int) ≥ 4294967296 := by omega
              have v4 : decide ((r' : Int) ≥ 4294967296) = false := decide_eq_false v3
              have hrl : r' < 4294967296 := by omega
              go_wp2_with fail
              go_roundw
              case rel => exact ⟨q', r', rfl, rfl, hrl, HK2, by trivial⟩
              case measure => simp [intOf]; omega
          · have z4 : ¬ (qs : Int) > (rx : Int) := by omega
            have z5 : decide ((qs : Int) > (rx : Int)) = false := decide_eq_false z4
            have HE : Hid (q = T1) := by rw [HT1.out]; exact HK.out.stop HP1.out (.inl ⟨by omega, by rw [← HQS.out, ← HRX.out]; omega⟩)
            go_wp2_with fail
            go_meet
            case rel => exact ⟨congrArg (fun z : Nat => Value.int .u64 (z : Int)) HE.out, ⟨r, rfl⟩, rfl⟩
    case rest =>
      obtain ⟨rfl, ⟨rz0T1, rfl⟩, rfl⟩ := hcut
      have hT1b := HT1b.out
      obtain ⟨U2, hU2⟩ : ∃ z, z = (U * 4294967296 + x1) % Y := ⟨_, rfl⟩
      have hU2Y : U2 < Y := by rw [hU2]; exact Nat.mod_lt _ (by omega)
      have HU2 := Lib.hid hU2
      obtain ⟨a1, ha1⟩ : ∃ z, z = U * 4294967296 % 18446744073709551616 := ⟨_, rfl⟩
      obtain ⟨a2, ha2⟩ : ∃ z, z = (a1 + x1) % 18446744073709551616 := ⟨_, rfl⟩
      obtain ⟨a3, ha3⟩ : ∃ z, z = T1 * Y % 18446744073709551616 := ⟨_, rfl⟩
      have k1 : IntKind.u64.wrap ((U : Int) * 4294967296) = (a1 : Int) := by rw [wrap_u64]; omega
      have k2 : IntKind.u64.wrap ((a1 : Int) + (x1 : Int)) = (a2 : Int) := by rw [wrap_u64]; omega
      have k3 : IntKind.u64.wrap ((T1 : Int) * (Y : Int)) = (a3 : Int) := by
        rw [show (T1 : Int) * Y = ((T1 * Y : Nat) : Int) by simp, ha3, wrap_u64]
        obtain ⟨t, ht⟩ : ∃ t, t = T1 * Y := ⟨_, rfl⟩
        rw [← ht]; omega
      have k4 : IntKind.u64.wrap ((a2 : Int) - (a3 : Int)) = (U2 : Int) := by
        rw [← k3, ← k2, ← k1, hU2]
        exact dig_rest hY2 (by omega) (by rw [← HYF.out]; exact HT1.out)
      obtain ⟨g1, hg1⟩ : ∃ g, g = U2 / f := ⟨_, rfl⟩
      obtain ⟨gh, hgh⟩ : ∃ g, g = g1 * f := ⟨_, rfl⟩
      obtain ⟨r1, hr1⟩ : ∃ g, g = U2 % f := ⟨_, rfl⟩
      have hgr : gh + r1 = U2 := by rw [hgh, hg1, hr1, Nat.mul_comm]; exact Nat.div_add_mod _ _
      have k5 : IntKind.u64.wrap ((U2 : Int) / (f : Int)) = (g1 : Int) := by
        have := Nat.div_le_self U2 f
        rw [show (U2 : Int) / f = ((U2 / f : Nat) : Int) by simp, ← hg1, wrap_u64]; omega
      have k6 : IntKind.u64.wrap ((g1 : Int) * (f : Int)) = (gh : Int) := by
        rw [show (g1 : Int) * f = ((g1 * f : Nat) : Int) by simp, ← hgh, wrap_u64]; omega
      have k7 : IntKind.u64.wrap ((U2 : Int) - (gh : Int)) = (r1 : Int) := by rw [wrap_u64]; omega
      have HP2 : Hid (DigP U2 x0 f s1) := ⟨by omega, by omega, by omega, by omega, by rw [HYF.out]; omega⟩
      have Hg1 : Hid (DigK U2 x0 f s1 g1 r1) := by rw [hg1, hr1]; exact HP2.out.first
      have hr1f : r1 < f := by rw [hr1]; exact Nat.mod_lt _ (by omega)
      have hr1b : r1 < 4294967296 := by omega
      obtain ⟨T0, hT0⟩ : ∃ t, t = (U2 * 4294967296 + x0) / (f * 4294967296 + s1) := ⟨_, rfl⟩
      have HT0 := Lib.hid hT0
      have hT0b : T0 < 4294967296 := by rw [hT0]; exact HP2.out.lt
      obtain ⟨RR, hRR⟩ : ∃ z, z = (U2 * 4294967296 + x0) % Y := ⟨_, rfl⟩
      obtain ⟨b1, hb1⟩ : ∃ z, z = T1 * 4294967296 := ⟨_, rfl⟩
      obtain ⟨QQ, hQQ⟩ : ∃ z, z = T1 * 4294967296 + T0 := ⟨_, rfl⟩
      have m1 : IntKind.u64.wrap ((T1 : Int) * 4294967296) = (b1 : Int) := by rw [wrap_u64]; omega
      have m2 : IntKind.u64.wrap ((b1 : Int) + (T0 : Int)) = (QQ : Int) := by rw [wrap_u64]; omega
      obtain ⟨c1, hc1⟩ : ∃ z, z = U2 * 4294967296 % 18446744073709551616 := ⟨_, rfl⟩
      obtain ⟨c2, hc2⟩ : ∃ z, z = (c1 + x0) % 18446744073709551616 := ⟨_, rfl⟩
      obtain ⟨c3, hc3⟩ : ∃ z, z = T0 * Y % 18446744073709551616 := ⟨_, rfl⟩
      have m3 : IntKind.u64.wrap ((U2 : Int) * 4294967296) = (c1 : Int) := by rw [wrap_u64]; omega
      have m4 : IntKind.u64.wrap ((c1 : Int) + (x0 : Int)) = (c2 : Int) := by rw [wrap_u64]; omega
      have m5 : IntKind.u64.wrap ((T0 : Int) * (Y : Int)) = (c3 : Int) := by
        rw [show (T0 : Int) * Y = ((T0 * Y : Nat) : Int) by simp, hc3, wrap_u64]
        obtain ⟨t, ht⟩ : ∃ t, t = T0 * Y := ⟨_, rfl⟩
        rw [← ht]; omega
      have m6 : IntKind.u64.wrap ((c2 : Int) - (c3 : Int)) = (RR : Int) := by
        rw [← m5, ← m4, ← m3, hRR]
        exact dig_rest hY2 (by omega) (by rw [← HYF.out]; exact HT0.out)
      obtain ⟨RS, hRS⟩ : ∃ z, z = RR / 2 ^ s := ⟨_, rfl⟩
      have m7 : (RR : Int) / 2 ^ s = (RS : Int) := by rw [hRS]; simp
      have HFIN : Hid ((hi * 18446744073709551616 + lo) / y = QQ ∧ (hi * 18446744073709551616 + lo) % y = RS) := by
        have h := HN.out.whole (U2 := U2) (by rw [hU2, HX1.out])
        rw [← HX1.out, ← HX0.out] at h
        refine ⟨by rw [← h.1, hQQ, HT1.out, HT0.out, HYF.out], by rw [← h.2, hRS, hRR]⟩
      clear hU2 ha1 ha2 ha3 hg1 hgh hr1 hgr hT0 hRR hb1 hQQ hc1 hc2 hc3 hRS
      go_upto_block 2 with fail
      go_cut [16, 18] from 102 to 120 (fun t s wz => s = .int .u64 T0 ∧ (∃ r : Nat, t = .int .u64 r) ∧ W = wz)
      case first =>
        go_wp2_with fail
        go_loopw [16, 18] (fun t s wr => ∃ q r : Nat, s = .int .u64 q ∧ t = .int .u64 r ∧ r < 4294967296 ∧ Hid (DigK U2 x0 f s1 q r) ∧ W = wr) (fun t s _ => (intOf s).toNat)
        case atStart => exact ⟨g1, r1, rfl, rfl, hr1b, Hg1, rfl⟩
        case round =>
          obtain ⟨q, r, rfl, rfl, hr, HK, rfl⟩ := hrel
          have hqt := HK.out.top
          by_cases qb : 4294967296 ≤ q
          · have d1 : (q : Int) ≥ 4294967296 := by omega
            have d2 : decide ((q : Int) ≥ 4294967296) = true := decide_eq_true d1
            have d3 : decide ((4294967296 : Int) ≤ q) = true := decide_eq_true d1
            have hd := HK.out.down HP2.out (.inl qb)
            have HK2 := Lib.hid hd.2.1; have HT2 := Lib.hid hd.2.2; have HQ0 := Lib.hid hd.1
            have hq0 : 0 < q := hd.1
            obtain ⟨q', hq'⟩ : ∃ z, z = q - 1 := ⟨_, rfl⟩
            obtain ⟨r', hr'⟩ : ∃ z, z = r + f := ⟨_, rfl⟩
            rw [← hq', ← hr'] at HK2
            rw [← hq'] at HT2
            have v1 : IntKind.u64.wrap ((q : Int) - 1) = (q' : Int) := by rw [wrap_u64]; omega
            have v2 : IntKind.u64.wrap ((r : Int) + (f : Int)) = (r' : Int) := by rw [wrap_u64]; omega
            have hqq : q' < q := by omega
            clear hd hq' hr'
            by_cases qr : 4294967296 ≤ r'
            · have v3 : (r' : Int) ≥ 4294967296 := by omega
              have v4 : decide ((r' : Int) ≥ 4294967296) = true := decide_eq_true v3
              have HE : Hid (q' = T0) := by rw [HT0.out]; exact HK2.out.stop HP2.out (.inr ⟨qr, HT2.out⟩)
              go_wp2_with fail
              go_meet
              case rel => exact ⟨congrArg (fun z : Nat => Value.int .u64 (z : Int)) HE.out, ⟨r', rfl⟩, rfl⟩
            · have v3 : ¬ (r' : Int) ≥ 4294967296 := by omega
              have v4 : decide ((r' : Int) ≥ 4294967296) = false := decide_eq_false v3
              have hrl : r' < 4294967296 := by omega
              go_wp2_with fail
              go_roundw
              case rel => exact ⟨q', r', rfl, rfl, hrl, HK2, by trivial⟩
              case measure => simp [intOf]; omega
          · have d1 : ¬ (q : Int) ≥ 4294967296 := by omega
            have d2 : decide ((q : Int) ≥ 4294967296) = false := decide_eq_false d1
            have d3 : decide ((4294967296 : Int) ≤ q) = false := decide_eq_false d1
            obtain ⟨qs, hqs⟩ : ∃ z, z = q * s1 := ⟨_, rfl⟩
            obtain ⟨rb, hrb⟩ : ∃ z, z = 4294967296 * r := ⟨_, rfl⟩
            obtain ⟨rx, hrx⟩ : ∃ z, z = rb + x0 := ⟨_, rfl⟩
            have hqs2 : qs ≤ 4294967295 * 4294967295 := by rw [hqs]; exact Nat.mul_le_mul (by omega) (by omega)
            have z1 : IntKind.u64.wrap ((q : Int) * (s1 : Int)) = (qs : Int) := by
              rw [show (q : Int) * s1 = ((q * s1 : Nat) : Int) by simp, ← hqs, wrap_u64]; omega
            have z2 : IntKind.u64.wrap ((4294967296 : Int) * (r : Int)) = (rb : Int) := by rw [wrap_u64]; omega
            have z3 : IntKind.u64.wrap ((rb : Int) + (x0 : Int)) = (rx : Int) := by rw [wrap_u64]; omega
            have HQS := Lib.hid hqs
            have HRX : Hid (rx = 4294967296 * r + x0) := by show _ = _; omega
            clear hqs hrb hrx
            by_cases qc : rx < qs
            · have z4 : (qs : Int) > (rx : Int) := by omega
              have hd := HK.out.down HP2.out (.inr (by rw [← HQS.out, ← HRX.out]; exact qc))
              have HK2 := Lib.hid hd.2.1; have HT2 := Lib.hid hd.2.2; have HQ0 := Lib.hid hd.1
              have hq0 : 0 < q := hd.1
              obtain ⟨q', hq'⟩ : ∃ z, z = q - 1 := ⟨_, rfl⟩
              obtain ⟨r', hr'⟩ : ∃ z, z = r + f := ⟨_, rfl⟩
              rw [← hq', ← hr'] at HK2
              rw [← hq'] at HT2
              have v1 : IntKind.u64.wrap ((q : Int) - 1) = (q' : Int) := by rw [wrap_u64]; omega
              have v2 : IntKind.u64.wrap ((r : Int) + (f : Int)) = (r' : Int) := by rw [wrap_u64]; omega
              have hqq : q' < q := by omega
              clear hd hq' hr'
              by_cases qr : 4294967296 ≤ r'
              · have v3 : (r' : Int) ≥ 4294967296 := by omega
                have v4 : decide ((r' : Int) ≥ 4294967296) = true := decide_eq_true v3
                have HE : Hid (q' = T0) := by rw [HT0.out]; exact HK2.out.stop HP2.out (.inr ⟨qr, HT2.out⟩)
                go_wp2_with fail
                go_meet
                case rel => exact ⟨congrArg (fun z : Nat => Value.int .u64 (z : Int)) HE.out, ⟨r', rfl⟩, rfl⟩
              · have v3 : ¬ (r' : Int) ≥ 4294967296 := by omega
                have v4 : decide ((r' : Int) ≥ 4294967296) = false := decide_eq_false v3
                have hrl : r' < 4294967296 := by omega
                go_wp2_with fail
                go_roundw
                case rel => exact ⟨q', r', rfl, rfl, hrl, HK2, by trivial⟩
                case measure => simp [intOf]; omega
            · have z4 : ¬ (qs : Int) > (rx : Int) := by omega
              have z5 : decide ((qs : Int) > (rx : Int)) = false := decide_eq_false z4
              have HE : Hid (q = T0) := by rw [HT0.out]; exact HK.out.stop HP2.out (.inl ⟨by omega, by rw [← HQS.out, ← HRX.out]; omega⟩)
              go_wp2_with fail
              go_meet
              case rel => exact ⟨congrArg (fun z : Nat => Value.int .u64 (z : Int)) HE.out, ⟨r, rfl⟩, rfl⟩
      case rest =>
        obtain ⟨rfl, ⟨rz2T0, rfl⟩, rfl⟩ := hcut
        clear HP1 HP2 HT1 HT0 HX1 HX0 HN HLZ
        go_wp2_with fail
        refine bodyPost_ret (v := .tuple #[.int .u64 (QQ : Int), .int .u64 (RS : Int)]) (by simp [results, Tryz.results76, go_sem]) rfl ?_
        exact ⟨by rw [HFIN.out.1, HFIN.out.2], 0, rfl⟩
end Go.Proofs.YtcmancfdlfhgbaaGreatDoor
namespace Go.Proofs.YtcmancfdlfhgbaaGreatDoor
open Go Go.RowKit Gu

/-- the order: the greater remainder first, then the lower number -/
def RestR (r : Nat → Nat) (x y : Nat) : Prop := r y < r x ∨ (r x = r y ∧ x < y)
theorem RestR.ord (r : Nat → Nat) : OrdR (RestR r) := by
  refine ⟨fun x y z h1 h2 => ?_, fun x h => ?_, fun x y h => ?_⟩
  · unfold RestR at *; omega
  · unfold RestR at *; omega
  · unfold RestR at *; omega
def cmpW (a b : Nat) : Int := if a < b then -1 else if b < a then 1 else 0
theorem cmpW_neg {r : Nat → Nat} {x y : Nat} (h : y < x) : cmpW (r y) (r x) < 0 ↔ RestR r x y := by
  unfold cmpW RestR
  repeat' split
  all_goals omega
theorem isNaN64 (x : Nat) : Hid (∀ W, Calls Tryz.prog 115 #[.int .u64 x] W fun e w' => e = .returned (.bool false) ∧ W = w') := fun W => by
  have h : ((x : Int) != (x : Int)) = false := by simp
  go_enter Tryz.func115, Tryz.ntmps115
  go_wp2_with fail
  go_ret
  exact ⟨rfl, rfl⟩
theorem Compare64_any (a b : Nat) (W : World) : Calls Tryz.prog 79 #[.int .u64 a, .int .u64 b] W fun e w' => e = .returned (.int .i64 (cmpW a b)) ∧ W = w' := by
  have H1 := isNaN64 a
  have H2 := isNaN64 b
  by_cases h1 : a < b
  · have hc : cmpW a b = -1 := by unfold cmpW; rw [if_pos h1]
    have h2 : (a : Int) < b := by omega
    rw [hc]
    clear hc
    go_enter Tryz.func79, Tryz.ntmps79
    go_wp2_with fail
    refine (H1.out _).mono ?_
    rintro e w' ⟨rfl, rfl⟩
    go_wp2_with fail
    refine (H2.out _).mono ?_
    rintro e w' ⟨rfl, rfl⟩
    go_wp2_with fail
    go_ret
    exact ⟨rfl, rfl⟩
  · have h2 : ¬ (a : Int) < b := by omega
    by_cases h3 : b < a
    · have hc : cmpW a b = 1 := by unfold cmpW; rw [if_neg h1, if_pos h3]
      have h4 : (a : Int) > b := by omega
      rw [hc]
      clear hc
      go_enter Tryz.func79, Tryz.ntmps79
      go_wp2_with fail
      refine (H1.out _).mono ?_
      rintro e w' ⟨rfl, rfl⟩
      go_wp2_with fail
      refine (H2.out _).mono ?_
      rintro e w' ⟨rfl, rfl⟩
      go_wp2_with fail
      go_ret
      exact ⟨rfl, rfl⟩
    · have hc : cmpW a b = 0 := by unfold cmpW; rw [if_neg h1, if_neg h3]
      have h4 : ¬ (a : Int) > b := by omega
      rw [hc]
      clear hc
      go_enter Tryz.func79, Tryz.ntmps79
      go_wp2_with fail
      refine (H1.out _).mono ?_
      rintro e w' ⟨rfl, rfl⟩
      go_wp2_with fail
      refine (H2.out _).mono ?_
      rintro e w' ⟨rfl, rfl⟩
      go_wp2_with fail
      go_ret
      exact ⟨rfl, rfl⟩
/-- the remainders, in a row, and the row in a box -/
def RestQ (C g m : Nat) (r : Nat → Nat) (W : World) : Prop := (∃ cap, W.cell? ⟨C, 0, none⟩ = some (.slice (some ⟨g, 0, none⟩) m cap)) ∧ ∀ j, j < m → W.cell? ⟨g, j, none⟩ = some (.int .u64 (r j : Int))
theorem RestQ.st {C g m G : Nat} {r : Nat → Nat} {W : World} (h : RestQ C g m r W) (h1 : G ≠ C) (h2 : G ≠ g) (j : Nat) (u : Value) : RestQ C g m r (W.setCell ⟨G, j, none⟩ u) := by
  obtain ⟨⟨cap, hc⟩, hr⟩ := h
  exact ⟨⟨cap, (World.cell?_setCell_other _ _ _ _ (by intro e; injection e with e; exact h1 e)).trans hc⟩, fun i hi => (World.cell?_setCell_other _ _ _ _ (by intro e; injection e with e; exact h2 e)).trans (hr i hi)⟩
theorem less_any {Q : World → Prop} {C g m : Nat} {r : Nat → Nat} (hQ : ∀ W, Q W → RestQ C g m r W) : CmpQ Q m C (fun x y => cmpW (r y) (r x)) := by
  intro x y W' hx hy hw
  have HRQ := Lib.hid (hQ W' hw)
  obtain ⟨⟨cap, c0⟩, hr⟩ := hQ W' hw
  have c1 := hr x hx
  have c2 := hr y hy
  obtain ⟨a, ha⟩ : ∃ a, a = r x := ⟨_, rfl⟩
  obtain ⟨b, hb⟩ : ∃ a, a = r y := ⟨_, rfl⟩
  have HF : Hid (cmpW (r y) (r x) = cmpW b a) := by rw [ha, hb]; exact rfl
  rw [← ha] at c1
  rw [← hb] at c2
  have hxi : (x : Int) < m := by omega
  have hyi : (y : Int) < m := by omega
  have HCO : Hid (∀ k, Calls Tryz.prog 79 #[.int .u64 b, .int .u64 a] (W'.drewN k) fun e w' => e = .returned (.int .i64 (cmpW b a)) ∧ ∃ q, w' = W'.drewN q) := fun k => (Compare64_any b a _).mono fun e w' ⟨h1, h2⟩ => ⟨h1, k, h2.symm⟩
  clear hQ hw hr ha hb
  go_enter Tryz.func78, Tryz.ntmps78
  go_wp2_with fail
  go_quiet ((go_at_call 79; exact HCO.out _))
  go_wp2_with fail
  go_ret
  exact ⟨by rw [HF.out]; rfl, _, rfl⟩
end Go.Proofs.YtcmancfdlfhgbaaGreatDoor
namespace Go.Proofs.YtcmancfdlfhgbaaGreatDoor
open Go Go.RowKit Gu

def quoF (n t : Nat) (x : Nat → Nat) (i : Nat) : Nat := n * x i / t
def remF (n t : Nat) (x : Nat → Nat) (i : Nat) : Nat := n * x i % t
/-- the sum of the first k values -/
def sumF (f : Nat → Nat) : Nat → Nat
  | 0 => 0
  | k + 1 => sumF f k + f k
theorem sumF_le {f h : Nat → Nat} : ∀ k, (∀ i, i < k → f i ≤ h i) → sumF f k ≤ sumF h k
  | 0, _ => Nat.le_refl _
  | k + 1, e => Nat.add_le_add (sumF_le k fun i hi => e i (by omega)) (e k (by omega))
theorem sumF_congr {f h : Nat → Nat} : ∀ k, (∀ i, i < k → f i = h i) → sumF f k = sumF h k
  | 0, _ => rfl
  | k + 1, e => by show sumF f k + f k = sumF h k + h k; rw [sumF_congr k fun i hi => e i (by omega), e k (by omega)]
theorem sumF_mono (f : Nat → Nat) {k m : Nat} (h : k ≤ m) : sumF f k ≤ sumF f m := by
  induction h with
  | refl => exact Nat.le_refl _
  | step _ ih => exact Nat.le_trans ih (Nat.le_add_right _ _)
theorem sumF_add (f h : Nat → Nat) : ∀ k, sumF (fun i => f i + h i) k = sumF f k + sumF h k
  | 0 => rfl
  | k + 1 => by
    show sumF (fun i => f i + h i) k + (f k + h k) = sumF f k + f k + (sumF h k + h k)
    rw [sumF_add f h k]; omega
theorem sumF_mul (c : Nat) (f : Nat → Nat) : ∀ k, sumF (fun i => c * f i) k = c * sumF f k
  | 0 => rfl
  | k + 1 => by
    show sumF (fun i => c * f i) k + c * f k = c * (sumF f k + f k)
    rw [sumF_mul c f k, Nat.mul_add]
theorem sumF_const (c : Nat) : ∀ k, sumF (fun _ => c) k = k * c
  | 0 => by simp [sumF]
  | k + 1 => by
    show sumF (fun _ => c) k + c = (k + 1) * c
    rw [sumF_const c k, Nat.add_mul, Nat.one_mul]
/-- what the shares leave is made up by the remainders -/
theorem shares_sum {n t m : Nat} {x : Nat → Nat} (ht : t = sumF x m) : t * sumF (quoF n t x) m + sumF (remF n t x) m = n * t := by
  rw [← sumF_mul, ← sumF_add]
  rw [show sumF (fun i => t * quoF n t x i + remF n t x i) m = sumF (fun i => n * x i) m from sumF_congr m fun i _ => Nat.div_add_mod _ _]
  rw [sumF_mul, ← ht]
theorem shares_le {n t m : Nat} {x : Nat → Nat} (ht : t = sumF x m) (h0 : 0 < t) : sumF (quoF n t x) m ≤ n ∧ (n - sumF (quoF n t x) m) * t = sumF (remF n t x) m := by
  have h := shares_sum (n := n) ht
  have h1 : sumF (quoF n t x) m ≤ n := by
    have : t * sumF (quoF n t x) m ≤ n * t := by omega
    rw [Nat.mul_comm n] at this
    exact Nat.le_of_mul_le_mul_left this h0
  refine ⟨h1, ?_⟩
  rw [Nat.sub_mul, ← h, Nat.mul_comm (sumF _ _) t]
  omega
/-- fewer are left than there are strata -/
theorem left_lt {n t m : Nat} {x : Nat → Nat} (ht : t = sumF x m) (h0 : 0 < t) : n - sumF (quoF n t x) m < m := by
  obtain ⟨-, h⟩ := shares_le (n := n) ht h0
  have hm : 0 < m := by
    rcases Nat.eq_zero_or_pos m with e | e
    · subst e; rw [ht] at h0; exact absurd h0 (Nat.lt_irrefl 0)
    · exact e
  have hr : sumF (remF n t x) m ≤ m * (t - 1) := by
    have := sumF_le (f := remF n t x) (h := fun _ => t - 1) m fun i _ => by
      have : remF n t x i < t := Nat.mod_lt _ h0
      omega
    rwa [sumF_const] at this
  obtain ⟨u, hu⟩ : ∃ u, u = n - sumF (quoF n t x) m := ⟨_, rfl⟩
  rw [← hu] at h ⊢
  rcases Nat.lt_or_ge u m with c | c
  · exact c
  · have : m * t ≤ u * t := Nat.mul_le_mul_right _ c
    have e : m * (t - 1) + m = m * t := by
      conv => rhs; rw [show t = t - 1 + 1 by omega, Nat.mul_add, Nat.mul_one]
    omega
theorem quo_le {n t x : Nat} (h : n ≤ t) (h0 : 0 < t) : n * x / t ≤ x := by
  refine Nat.le_of_lt_succ ((Nat.div_lt_iff_lt_mul h0).2 ?_)
  have := Nat.mul_le_mul_right x h
  rw [Nat.succ_mul, Nat.mul_comm x]
  omega
/-- the sum over a rearrangement -/
theorem sumF_upto {f : Nat → Nat} {a m : Nat} (h : a < m) : ∀ (g : Nat → Nat), (∀ i, i < m → i ≠ a → g i = f i) → sumF g m + f a = sumF f m + g a := by
  intro g
  induction m with
  | zero => omega
  | succ m ih =>
    intro e
    show sumF g m + g m + f a = sumF f m + f m + g a
    by_cases c : a = m
    · subst c
      rw [sumF_congr a fun i hi => e i (by omega) (by omega)]; omega
    · have := ih (by omega) fun i hi hne => e i (by omega) hne
      rw [e m (by omega) (by omega)]; omega
/-- what each stratum gets: its share, and one more if its place in the order is early -/
def allotF (n t : Nat) (x τ : Nat → Nat) (left i : Nat) : Nat := quoF n t x i + if τ i < left then 1 else 0
end Go.Proofs.YtcmancfdlfhgbaaGreatDoor
namespace Go.Proofs.YtcmancfdlfhgbaaGreatDoor
open Go Go.RowKit Gu

theorem Tryz.infoU64 : (Tryz.prog.info? 47).map (fun i => (i.zero, i.size, i.bytes)) = some (some (.int .u64 0), 1, 8) := by kernel_rfl
theorem made_u64 (n : Nat) (h : n ≤ 1099511627776) : ∀ w, (Instr.makeSlice 110 (.int .i64 (n : Int)) (.int .i64 (n : Int))).run Tryz.prog w = .ok (.slice (some ⟨w.heap.size, 0, none⟩) n n) (w.alloc (.cells (madeCells #[.int .u64 0] n) 47)) := fun w => by
  have := run_make_row' (P := Tryz.prog) 110 47 (.int .u64 0) 8 Tryz.underlying110 Tryz.infoU64 rfl .i64 .i64 n (by omega) (by omega)
  exact this w
def encU (l : List Nat) : List Value := l.map fun x : Nat => .int .u64 (x : Int)
/-- the three rows and the box of a division of draws -/
structure AlS (W0 : World) (go C g2 g m : Nat) (fo fr fi : Nat → Nat) (w : World) : Prop where
  out : w.ownsRow W0.heap.size 3 1 (.slice (some ⟨go, 0, none⟩) m m) m (encN (fnL fo m))
  rst : w.ownsRow W0.heap.size 47 1 (.slice (some ⟨g2, 0, none⟩) m m) m (encU (fnL fr m))
  ord : w.ownsRow W0.heap.size 3 1 (.slice (some ⟨g, 0, none⟩) m m) m (encN (fnL fi m))
  box : w.cell? ⟨C, 0, none⟩ = some (.slice (some ⟨g2, 0, none⟩) m m)
  bc : W0.heap.size ≤ C
  blw : Below W0.heap.size W0 w
  n1 : go ≠ C
  n2 : go ≠ g2
  n3 : go ≠ g
  n4 : C ≠ g2
  n5 : C ≠ g
  n6 : g2 ≠ g
theorem encU_put (l : List Nat) (j x : Nat) : (encU l).set j (.int .u64 (x : Int)) = encU (l.set j x) := by
  unfold encU; rw [List.map_set]
section
variable {W0 : World} {go C g2 g m : Nat} {fo fr fi : Nat → Nat} {w : World}
theorem AlS.co (h : AlS W0 go C g2 g m fo fr fi w) {j : Nat} (hj : j < m) : w.cell? ⟨go, j, none⟩ = some (.int .i64 (fo j : Int)) := by
  rw [h.out.cellAt j (by omega)]; unfold encN; rw [List.getElem?_map, fnL_at fo hj]; rfl
theorem AlS.ci (h : AlS W0 go C g2 g m fo fr fi w) {j : Nat} (hj : j < m) : w.cell? ⟨g, j, none⟩ = some (.int .i64 (fi j : Int)) := by
  rw [h.ord.cellAt j (by omega)]; unfold encN; rw [List.getElem?_map, fnL_at fi hj]; rfl
theorem AlS.cr (h : AlS W0 go C g2 g m fo fr fi w) {j : Nat} (hj : j < m) : w.cell? ⟨g2, j, none⟩ = some (.int .u64 (fr j : Int)) := by
  rw [h.rst.cellAt j (by omega)]; unfold encU; rw [List.getElem?_map, fnL_at fr hj]; rfl
theorem far_row {B b g : Nat} {e : TypeId} {xs : List Value} (h : w.ownsRow B e 1 (.slice (some ⟨g, 0, none⟩) m m) m xs) (hne : g ≠ b) (j : Nat) (u : Value) : (w.setCell ⟨b, j, none⟩ u).ownsRow B e 1 (.slice (some ⟨g, 0, none⟩) m m) m xs :=
  h.kept (grownBy_setCell w b j u) (.inr (by intro e; injection e with e; exact hne e))
theorem far_box {a b : Nat} {v : Value} (h : w.cell? ⟨a, 0, none⟩ = some v) (hne : a ≠ b) (j : Nat) (u : Value) : (w.setCell ⟨b, j, none⟩ u).cell? ⟨a, 0, none⟩ = some v :=
  (World.cell?_setCell_other _ _ _ _ (by intro e; injection e with e; exact hne e.symm)).trans h
theorem AlS.base (h : AlS W0 go C g2 g m fo fr fi w) : W0.heap.size ≤ go ∧ W0.heap.size ≤ g2 ∧ W0.heap.size ≤ g :=
  ⟨(h.out.lt go rfl).1, (h.rst.lt g2 rfl).1, (h.ord.lt g rfl).1⟩
theorem AlS.so (h : AlS W0 go C g2 g m fo fr fi w) (j v : Nat) : AlS W0 go C g2 g m (upd1 fo j v) fr fi (w.setCell ⟨go, j, none⟩ (.int .i64 (v : Int))) := by
  obtain ⟨h1, h2, h3, h4, h5, h6, n1, n2, n3, n4, n5, n6⟩ := h
  exact ⟨by rw [← fnL_set, ← encN_put]; exact (h1.stored j _).1, far_row h2 n2.symm _ _, far_row h3 n3.symm _ _, far_box h4 n1.symm _ _, h5, h6.setCell (h1.lt go rfl).1 _, n1, n2, n3, n4, n5, n6⟩
theorem AlS.sr (h : AlS W0 go C g2 g m fo fr fi w) (j v : Nat) : AlS W0 go C g2 g m fo (upd1 fr j v) fi (w.setCell ⟨g2, j, none⟩ (.int .u64 (v : Int))) := by
  obtain ⟨h1, h2, h3, h4, h5, h6, n1, n2, n3, n4, n5, n6⟩ := h
  exact ⟨far_row h1 n2 _ _, by rw [← fnL_set, ← encU_put]; exact (h2.stored j _).1, far_row h3 n6.symm _ _, far_box h4 n4 _ _, h5, h6.setCell (h2.lt g2 rfl).1 _, n1, n2, n3, n4, n5, n6⟩
theorem AlS.si (h : AlS W0 go C g2 g m fo fr fi w) (j v : Nat) : AlS W0 go C g2 g m fo fr (upd1 fi j v) (w.setCell ⟨g, j, none⟩ (.int .i64 (v : Int))) := by
  obtain ⟨h1, h2, h3, h4, h5, h6, n1, n2, n3, n4, n5, n6⟩ := h
  exact ⟨far_row h1 n3 _ _, far_row h2 n6 _ _, by rw [← fnL_set, ← encN_put]; exact (h3.stored j _).1, far_box h4 n5 _ _, h5, h6.setCell (h3.lt g rfl).1 _, n1, n2, n3, n4, n5, n6⟩
theorem AlS.dr (h : AlS W0 go C g2 g m fo fr fi w) (k : Nat) : AlS W0 go C g2 g m fo fr fi (w.drewN k) := by
  obtain ⟨h1, h2, h3, h4, h5, h6, n1, n2, n3, n4, n5, n6⟩ := h
  exact ⟨h1, h2, h3, h4, h5, below_drewM h6 k, n1, n2, n3, n4, n5, n6⟩
theorem AlS.congr (h : AlS W0 go C g2 g m fo fr fi w) {fo' fr' fi' : Nat → Nat} (e1 : ∀ x, x < m → fo x = fo' x) (e2 : ∀ x, x < m → fr x = fr' x) (e3 : ∀ x, x < m → fi x = fi' x) : AlS W0 go C g2 g m fo' fr' fi' w := by
  obtain ⟨h1, h2, h3, h4, h5, h6, n1, n2, n3, n4, n5, n6⟩ := h
  exact ⟨by rw [← fnL_congr e1]; exact h1, by rw [← fnL_congr e2]; exact h2, by rw [← fnL_congr e3]; exact h3, h4, h5, h6, n1, n2, n3, n4, n5, n6⟩
end
/-- the rows beside the one that is sorted -/
structure AlQ (W0 : World) (go C g2 m : Nat) (fo fr : Nat → Nat) (w : World) : Prop where
  out : w.ownsRow W0.heap.size 3 1 (.slice (some ⟨go, 0, none⟩) m m) m (encN (fnL fo m))
  rst : w.ownsRow W0.heap.size 47 1 (.slice (some ⟨g2, 0, none⟩) m m) m (encU (fnL fr m))
  box : w.cell? ⟨C, 0, none⟩ = some (.slice (some ⟨g2, 0, none⟩) m m)
  blw : Below W0.heap.size W0 w
theorem AlQ.sq {W0 : World} {go C g2 g m : Nat} {fo fr : Nat → Nat} (h : W0.heap.size ≤ g) (n3 : go ≠ g) (n5 : C ≠ g) (n6 : g2 ≠ g) : SQ (AlQ W0 go C g2 m fo fr) g :=
  ⟨fun _ k ⟨h1, h2, h3, h4⟩ => ⟨h1, h2, h3, below_drewM h4 k⟩, fun _ _ _ ⟨h1, h2, h3, h4⟩ => ⟨far_row h1 n3 _ _, far_row h2 n6 _ _, far_box h3 n5 _ _, h4.setCell h _⟩⟩
theorem AlS.row {W0 : World} {go C g2 g m : Nat} {fo fr fi : Nat → Nat} {w : World} (h : AlS W0 go C g2 g m fo fr fi w) : RowF (AlQ W0 go C g2 m fo fr) W0.heap.size g m m fi w := ⟨⟨h.out, h.rst, h.box, h.blw⟩, h.ord⟩
theorem AlS.of_row {W0 : World} {go C g2 g m : Nat} {fo fr fi fj : Nat → Nat} {w w' : World} (h : AlS W0 go C g2 g m fo fr fi w) (h2 : RowF (AlQ W0 go C g2 m fo fr) W0.heap.size g m m fj w') : AlS W0 go C g2 g m fo fr fj w' :=
  ⟨h2.1.out, h2.1.rst, h2.2, h2.1.box, h.bc, h2.1.blw, h.n1, h.n2, h.n3, h.n4, h.n5, h.n6⟩
theorem AlQ.rq {W0 : World} {go C g2 m : Nat} {fo fr : Nat → Nat} {w : World} (h : AlQ W0 go C g2 m fo fr w) : RestQ C g2 m fr w :=
  ⟨⟨m, h.box⟩, fun j hj => by rw [h.rst.cellAt j (by omega)]; unfold encU; rw [List.getElem?_map, fnL_at fr hj]; rfl⟩
/-- the draws of the strata -/
def AlK (n t m : Nat) (x : Nat → Nat) (L : List Nat) : Prop := ∃ s τ : Nat → Nat, (∀ i, s (τ i) = i) ∧ (∀ i, τ (s i) = i) ∧ (∀ i, i < m → s i < m) ∧ (∀ i, i < m → τ i < m) ∧ SortedF (RestR (remF n t x)) 0 m s ∧ L = fnL (allotF n t x τ (n - sumF (quoF n t x) m)) m
theorem allotF_step {n t : Nat} {x s τ : Nat → Nat} (h1 : ∀ i, s (τ i) = i) (h2 : ∀ i, τ (s i) = i) (j i : Nat) : upd1 (allotF n t x τ j) (s j) (quoF n t x (s j) + 1) i = allotF n t x τ (j + 1) i := by
  unfold upd1 allotF
  by_cases e : i = s j
  · rw [if_pos e, e, h2, if_pos (Nat.lt_succ_self j)]
  · have : τ i ≠ j := fun h => e (by rw [← h, h1])
    rw [if_neg e]
    by_cases c : τ i < j
    · rw [if_pos c, if_pos (by omega)]
    · rw [if_neg c, if_neg (by omega)]
/-- a function below i, and 0 from there on -/
def cutF (f : Nat → Nat) (i : Nat) : Nat → Nat := fun j => if j < i then f j else 0
theorem cutF_step (f : Nat → Nat) (i x : Nat) : upd1 (cutF f i) i (f i) x = cutF f (i + 1) x := by
  unfold upd1 cutF
  repeat' split
  all_goals first | rfl | omega | exact congrArg f (by omega)
theorem row_of_heap {w : World} {base g m : Nat} {e : TypeId} {cur : Array Value} {xs : List Value} (hb : base ≤ g) (h : w.heap[g]? = some (.cells cur e)) (hs : cur.toList = xs) (hl : xs.length = m) (hm : m ≤ maxLen) : w.ownsRow base e 1 (.slice (some ⟨g, 0, none⟩) m m) m xs := by
  have hc : cur.size = m := by rw [← hl, ← hs]; simp
  refine ⟨by rw [hl, Nat.mul_one], .inr ⟨g, m, cur, rfl, hb, h, Nat.le_refl _, hm, by rw [hc, Nat.mul_one], ?_⟩⟩
  rw [hs, Nat.mul_one, List.take_of_length_le (by rw [hl]; exact Nat.le_refl _)]
theorem made_zero (k : IntKind) (m : Nat) : (madeCells #[.int k 0] m).toList = (fnL (fun _ => 0) m).map fun x : Nat => .int k (x : Int) := by
  unfold madeCells fnL
  simp
  intro a _
  rw [Nat.mod_one]; rfl
theorem AlS.start {W0 w : World} {C g2 g m : Nat} (hm : m ≤ 64) (h1 : w.heap[W0.heap.size]? = some (.cells (madeCells #[.int .i64 0] m) 3)) (h2 : w.heap[g2]? = some (.cells (madeCells #[.int .u64 0] m) 47)) (h3 : w.heap[g]? = some (.cells (madeCells #[.int .i64 0] m) 3))
    (h4 : w.cell? ⟨C, 0, none⟩ = some (.slice (some ⟨g2, 0, none⟩) m m)) (hb : Below W0.heap.size W0 w) (a1 : W0.heap.size < C) (a2 : W0.heap.size < g2) (a3 : W0.heap.size < g) (n4 : C ≠ g2) (n5 : C ≠ g) (n6 : g2 ≠ g) : AlS W0 W0.heap.size C g2 g m (fun _ => 0) (fun _ => 0) (fun _ => 0) w := by
  have hml : m ≤ maxLen := by unfold maxLen; omega
  exact ⟨row_of_heap (Nat.le_refl _) h1 (made_zero _ _) (by simp [fnL, encN]) hml, row_of_heap (by omega) h2 (made_zero _ _) (by simp [fnL, encU]) hml, row_of_heap (by omega) h3 (made_zero _ _) (by simp [fnL, encN]) hml, h4, by omega, hb, by omega, by omega, by omega, n4, n5, n6⟩
theorem alloc3 (w : World) (o1 o2 o3 : Obj) : (((w.alloc o1).alloc o2).alloc o3).drew.heap[w.heap.size]? = some o1 ∧ (((w.alloc o1).alloc o2).alloc o3).drew.heap[w.heap.size + 1]? = some o2 ∧ (((w.alloc o1).alloc o2).alloc o3).drew.heap[w.heap.size + 1 + 1]? = some o3 ∧ ∀ j, j < w.heap.size → (((w.alloc o1).alloc o2).alloc o3).drew.heap[j]? = w.heap[j]? := by
  have e : (((w.alloc o1).alloc o2).alloc o3).drew.heap = ((w.heap.push o1).push o2).push o3 := rfl
  rw [e]
  refine ⟨?_, ?_, ?_, fun j hj => ?_⟩
  · rw [Array.getElem?_push, if_neg (by simp; omega), Array.getElem?_push, if_neg (by simp), Array.getElem?_push, if_pos rfl]
  · rw [Array.getElem?_push, if_neg (by simp), Array.getElem?_push, if_pos (by simp)]
  · rw [Array.getElem?_push, if_pos (by simp)]
  · rw [Array.getElem?_push, Array.getElem?_push, Array.getElem?_push]
    simp; rw [if_neg (by omega), if_neg (by omega), if_neg (by omega)]
theorem box_of_heap {w : World} {C : Nat} {v : Value} {e : TypeId} (h : w.heap[C]? = some (.cells #[v] e)) : w.cell? ⟨C, 0, none⟩ = some v := by
  rw [cell_of_row w C 0 #[v] e (0, 0) h]; rfl
theorem alloc3_below {B : Nat} {W0 w : World} (h : Below B W0 w) (hB : B ≤ w.heap.size) (o1 o2 o3 : Obj) : Below B W0 (((w.alloc o1).alloc o2).alloc o3).drew :=
  Below.drew (((h.alloc hB o1).alloc (by rw [World.size_alloc]; omega) o2).alloc (by rw [World.size_alloc, World.size_alloc]; omega) o3)
set_option maxRecDepth 100000 in
set_option maxHeartbeats 2000000 in
theorem allot_walk {n t m : Nat} {x : Nat → Nat} {ao : Option Addr} {c : Nat} {W : World} (hv : IsZs W (.slice ao m c) (fnL x m)) (hm : m ≤ 64) (h0 : 0 < t) (hn : n ≤ t) (ht : t = sumF x m) (hx : ∀ i, i < m → x i ≤ 1099511627776) :
    Calls Tryz.prog 46 #[.int .i64 n, .int .i64 t,   .slice ao m c] W fun e w' => ∃ (a : Option Addr) (L : List Nat), e = .returned (.slice a m m) ∧ Hid (AlK n t m x L) ∧ Hid (w'.ownsRow W.heap.size 3 1 (.slice a m m) m (encN L)) ∧ Hid (Below W.heap.size W w') := by
  have hmk := made_int m (by omega)
  have hmk2 := made_u64 m (by omega)
  have hz : ((t : Int) == 0) = false := beq_eq_false_iff_ne.2 (by omega)
  have hz1 : ¬ (t : Int) = 0 := by omega
  obtain ⟨w1, HW1⟩ : ∃ w, w = W.alloc (.cells (madeCells #[.int .i64 0] m) 3) := ⟨_, rfl⟩
  have HW1' := Lib.hid HW1
  have HS1 : Hid (w1.heap.size = W.heap.size + 1) := by rw [HW1]; exact World.size_alloc _ _
  have HO1 : Hid (w1.heap[W.heap.size]? = some (.cells (madeCells #[.int .i64 0] m) 3)) := by rw [HW1]; exact heap_alloc_new W _
  have HB1 : Hid (Below W.heap.size W w1) := by rw [HW1]; exact (Below.refl _ W).alloc (Nat.le_refl _) _
  have HV := Lib.hid hv; have HT := Lib.hid ht; have HX := Lib.hid hx
  clear HW1 hv ht hx
  go_enter Tryz.func46, Tryz.ntmps46
  go_upto_region 2 with fail
  rw [← HW1'.out]
  go_upto_region 4 with fail
  go_cut [8, 9] from 25 to 30 (fun v8 v9 wz => ∃ C g2 g : Nat, v8 = .pointer (some ⟨C, 0, none⟩) ∧ v9 = .slice (some ⟨g, 0, none⟩) m m ∧ Hid (AlS W W.heap.size C g2 g m (fun _ => 0) (fun _ => 0) (fun _ => 0) wz))
  case first =>
    go_region
    all_goals go_wp2_with fail
    all_goals go_meet
    all_goals clear HW1' HV HT HX hmk hmk2
    all_goals have hs1 := HS1.out
    all_goals have hb3 := alloc3_below HB1.out (by omega)
    all_goals first
      | exact ⟨w1.heap.size + 1 + 1, w1.heap.size, w1.heap.size + 1, rfl, rfl, AlS.start hm (((alloc3 w1 _ _ _).2.2.2 _ (by omega)).trans HO1.out) (alloc3 w1 _ _ _).1 (alloc3 w1 _ _ _).2.1 (box_of_heap (alloc3 w1 _ _ _).2.2.1) (hb3 _ _ _) (by omega) (by omega) (by omega) (by omega) (by omega) (by omega)⟩
      | exact ⟨w1.heap.size + 1, w1.heap.size, w1.heap.size + 1 + 1, rfl, rfl, AlS.start hm (((alloc3 w1 _ _ _).2.2.2 _ (by omega)).trans HO1.out) (alloc3 w1 _ _ _).1 (alloc3 w1 _ _ _).2.2.1 (box_of_heap (alloc3 w1 _ _ _).2.1) (hb3 _ _ _) (by omega) (by omega) (by omega) (by omega) (by omega) (by omega)⟩
      | exact ⟨w1.heap.size + 1 + 1, w1.heap.size + 1, w1.heap.size, rfl, rfl, AlS.start hm (((alloc3 w1 _ _ _).2.2.2 _ (by omega)).trans HO1.out) (alloc3 w1 _ _ _).2.1 (alloc3 w1 _ _ _).1 (box_of_heap (alloc3 w1 _ _ _).2.2.1) (hb3 _ _ _) (by omega) (by omega) (by omega) (by omega) (by omega) (by omega)⟩
      | exact ⟨w1.heap.size + 1, w1.heap.size + 1 + 1, w1.heap.size, rfl, rfl, AlS.start hm (((alloc3 w1 _ _ _).2.2.2 _ (by omega)).trans HO1.out) (alloc3 w1 _ _ _).2.2.1 (alloc3 w1 _ _ _).1 (box_of_heap (alloc3 w1 _ _ _).2.1) (hb3 _ _ _) (by omega) (by omega) (by omega) (by omega) (by omega) (by omega)⟩
      | exact ⟨w1.heap.size, w1.heap.size + 1, w1.heap.size + 1 + 1, rfl, rfl, AlS.start hm (((alloc3 w1 _ _ _).2.2.2 _ (by omega)).trans HO1.out) (alloc3 w1 _ _ _).2.1 (alloc3 w1 _ _ _).2.2.1 (box_of_heap (alloc3 w1 _ _ _).1) (hb3 _ _ _) (by omega) (by omega) (by omega) (by omega) (by omega) (by omega)⟩
      | exact ⟨w1.heap.size, w1.heap.size + 1 + 1, w1.heap.size + 1, rfl, rfl, AlS.start hm (((alloc3 w1 _ _ _).2.2.2 _ (by omega)).trans HO1.out) (alloc3 w1 _ _ _).2.2.1 (alloc3 w1 _ _ _).2.1 (box_of_heap (alloc3 w1 _ _ _).1) (hb3 _ _ _) (by omega) (by omega) (by omega) (by omega) (by omega) (by omega)⟩
      | (trace_state; sorry)
  case rest =>
    obtain ⟨C, g2, g, rfl, rfl, HA⟩ := hcut
    clear HW1' HO1 HB1 HS1 hmk hmk2
    have HMU : Hid (∀ a b W', a < 18446744073709551616 → b < 18446744073709551616 → Calls Tryz.prog 75 #[.int .u64 (a : Nat), .int .u64 (b : Nat)] W' fun e w' => e = .returned (.tuple #[.int .u64 ((a * b / 18446744073709551616 : Nat) : Int), .int .u64 ((a * b % 18446744073709551616 : Nat) : Int)]) ∧ W' = w') := fun a b W' h1 h2 =>
      (Tryz.bits_Mul64 a b h1 h2 W').mono fun e w' ⟨h3, h4⟩ => ⟨h3, h4.symm⟩
    have HA0 : Hid (AlS W W.heap.size C g2 g m (cutF (quoF n t x) 0) (cutF (remF n t x) 0) (cutF id 0) wc) := HA.out.congr (fun _ _ => by simp [cutF]) (fun _ _ => by simp [cutF]) (fun _ _ => by simp [cutF])
    obtain ⟨w2, hw2⟩ : ∃ w, w = wc := ⟨_, rfl⟩
    subst hw2
    clear HA
    have htb : t ≤ 70368744177664 := by
      rw [HT.out]
      have := sumF_le (f := x) (h := fun _ => 1099511627776) m HX.out
      rw [sumF_const] at this
      omega
    have HSL := Lib.hid (shares_le (n := n) HT.out h0)
    go_wp2_with fail
    go_loopw [10, 11, 12, 13, 14, 15, 16, 34] (fun l _ _ _ _ _ _ k wr => ∃ (i lf : Nat), i ≤ m ∧ lf ≤ n ∧ k = .int .i64 i ∧ l = .int .i64 lf ∧ Hid (lf + sumF (quoF n t x) i = n) ∧ Hid (AlS W W.heap.size C g2 g m (cutF (quoF n t x) i) (cutF (remF n t x) i) (cutF id i) wr)) (fun _ _ _ _ _ _ _ k _ => m - (intOf k).toNat)
    case atStart => exact ⟨0, n, Nat.zero_le _, Nat.le_refl _, rfl, rfl, rfl, HA0⟩
    case round =>
      obtain ⟨i, lf, him, hlf, rfl, rfl, HL, HA⟩ := hrel
      by_cases q : i < m
      · have q1 : (i : Int) < m := by omega
        have hw : IntKind.i64.wrap ((i : Int) + 1) = ((i + 1 : Nat) : Int) := by rw [IntWalk.i64_in _ (by omega)]; omega
        obtain ⟨Bx, o, e1, d0⟩ := (HV.out.below HA.out.blw).at' (j := i) (by rw [fnL_len]; exact q)
        have hxl : (fnL x m)[i]'(by rw [fnL_len]; exact q) = x i := by simp [fnL]
        rw [hxl] at d0
        obtain ⟨y, hy⟩ : ∃ y, y = x i := ⟨_, rfl⟩
        have hyb : y ≤ 1099511627776 := by rw [hy]; exact HX.out i q
        rw [← hy] at d0
        subst e1
        obtain ⟨P, hP⟩ : ∃ P, P = n * y := ⟨_, rfl⟩
        obtain ⟨ph, hph⟩ : ∃ p, p = P / 18446744073709551616 := ⟨_, rfl⟩
        obtain ⟨pl, hpl⟩ : ∃ p, p = P % 18446744073709551616 := ⟨_, rfl⟩
        have hPt : P < 18446744073709551616 * t := by
          rw [hP, Nat.mul_comm]
          exact Nat.lt_of_le_of_lt (Nat.mul_le_mul_left _ hn) (Nat.mul_lt_mul_of_pos_right (by omega) h0)
        have HMU1 := Lib.hid (HMU.out n y wr (by omega) (by omega))
        rw [← hP, ← hph, ← hpl] at HMU1
        have hsum : ph * 18446744073709551616 + pl = P := by omega
        obtain ⟨sh, hsh⟩ : ∃ p, p = P / t := ⟨_, rfl⟩
        obtain ⟨rs, hrs⟩ : ∃ p, p = P % t := ⟨_, rfl⟩
        have HDV := Lib.hid (Div64_any (hi := ph) (lo := pl) (y := t) (W := wr) (by omega) (by omega) (by omega))
        rw [hsum, ← hsh, ← hrs] at HDV
        have hshq : sh = quoF n t x i := by rw [hsh, hP, hy]; rfl
        have hrsq : rs = remF n t x i := by rw [hrs, hP, hy]; rfl
        have hshy : sh ≤ y := by rw [hsh, hP]; exact quo_le hn h0
        have hrst : rs < t := by rw [hrs]; exact Nat.mod_lt _ h0
        have c1 : IntKind.u64.wrap (n : Int) = (n : Int) := by rw [wrap_u64]; omega
        have c2 : IntKind.u64.wrap (y : Int) = (y : Int) := by rw [wrap_u64]; omega
        have c3 : IntKind.u64.wrap (t : Int) = (t : Int) := by rw [wrap_u64]; omega
        have c4 : IntKind.i64.wrap (sh : Int) = (sh : Int) := IntWalk.i64_in _ (by omega)
        have hslf : sh ≤ lf := by
          have h1 := HSL.out.1
          have h2 := sumF_mono (quoF n t x) (show i + 1 ≤ m from q)
          have h3 : sumF (quoF n t x) (i + 1) = sumF (quoF n t x) i + sh := by rw [hshq]; rfl
          have h4 := HL.out
          omega
        obtain ⟨l2, hl2⟩ : ∃ z, z = lf - sh := ⟨_, rfl⟩
        have c5 : IntKind.i64.wrap ((lf : Int) - (sh : Int)) = (l2 : Int) := by rw [IntWalk.i64_in _ (by omega)]; omega
        have HL2 : Hid (l2 + sumF (quoF n t x) (i + 1) = n) := by
          have h3 : sumF (quoF n t x) (i + 1) = sumF (quoF n t x) i + sh := by rw [hshq]; rfl
          have h4 := HL.out
          show _ = _
          omega
        have hl2n : l2 ≤ n := by omega
        have HSQ := Lib.hid hshq; have HRQ := Lib.hid hrsq
        clear hy hP hph hpl hPt hsum hsh hrs hshq hrsq hxl hl2 hslf
        go_wp2_with fail
        refine HMU1.out.mono ?_
        rintro _ w3 ⟨rfl, rfl⟩
        go_wp2_with fail
        refine HDV.out.mono ?_
        rintro _ w4 ⟨rfl, nq, hnq⟩
        have HA4 : Hid (AlS W W.heap.size C g2 g m (cutF (quoF n t x) i) (cutF (remF n t x) i) (cutF id i) w4) := by rw [hnq]; exact HA.out.dr nq
        clear hnq HA d0 HMU1 HDV
        go_upto_region 11 with fail
        go_cut [] from 55 to 67 (fun wz => Hid (AlS W W.heap.size C g2 g m (cutF (quoF n t x) (i + 1)) (cutF (remF n t x) (i + 1)) (cutF id (i + 1)) wz))
        case first =>
          have hd1 := HA4.out.n1; have hd2 := HA4.out.n2; have hd3 := HA4.out.n3; have hd4 := HA4.out.n4; have hd5 := HA4.out.n5; have hd6 := HA4.out.n6
          have hd1s := hd1.symm; have hd2s := hd2.symm; have hd3s := hd3.symm; have hd4s := hd4.symm; have hd5s := hd5.symm; have hd6s := hd6.symm
          obtain ⟨z1, hz1'⟩ : ∃ z : Value, z = .int .i64 (cutF (quoF n t x) i i : Int) := ⟨_, rfl⟩
          obtain ⟨z2, hz2'⟩ : ∃ z : Value, z = .int .u64 (cutF (remF n t x) i i : Int) := ⟨_, rfl⟩
          obtain ⟨z3, hz3'⟩ : ∃ z : Value, z = .int .i64 (cutF id i i : Int) := ⟨_, rfl⟩
          have k1 : w4.cell? ⟨W.heap.size, i, none⟩ = some z1 := by rw [hz1']; exact HA4.out.co q
          have k2 : w4.cell? ⟨g2, i, none⟩ = some z2 := by rw [hz2']; exact HA4.out.cr q
          have k3 : w4.cell? ⟨g, i, none⟩ = some z3 := by rw [hz3']; exact HA4.out.ci q
          have k4 := HA4.out.box
          have k5 : w4.frozen? ⟨W.heap.size, i, none⟩ = false := HA4.out.out.frozenAt i
          have k6 : w4.frozen? ⟨g2, i, none⟩ = false := HA4.out.rst.frozenAt i
          have k7 : w4.frozen? ⟨g, i, none⟩ = false := HA4.out.ord.frozenAt i
          have k8 : w4.drew.cell? ⟨W.heap.size, i, none⟩ = some z1 := k1
          have k9 : w4.drew.cell? ⟨g2, i, none⟩ = some z2 := k2
          have k10 : w4.drew.cell? ⟨g, i, none⟩ = some z3 := k3
          have k11 : w4.drew.cell? ⟨C, 0, none⟩ = some (.slice (some ⟨g2, 0, none⟩) m m) := k4
          have k12 : w4.drew.frozen? ⟨W.heap.size, i, none⟩ = false := k5
          have k13 : w4.drew.frozen? ⟨g2, i, none⟩ = false := k6
          have k14 : w4.drew.frozen? ⟨g, i, none⟩ = false := k7
          have HST : Hid (∀ w, AlS W W.heap.size C g2 g m (upd1 (cutF (quoF n t x) i) i sh) (upd1 (cutF (remF n t x) i) i rs) (upd1 (cutF id i) i i) w → AlS W W.heap.size C g2 g m (cutF (quoF n t x) (i + 1)) (cutF (remF n t x) (i + 1)) (cutF id (i + 1)) w) := fun w h =>
            h.congr (fun z _ => by rw [HSQ.out]; exact cutF_step _ _ _) (fun z _ => by rw [HRQ.out]; exact cutF_step _ _ _) (fun z _ => cutF_step id i z)
          clear hz1' hz2' hz3' HMU HV HT HX HSL HL HL2 HSQ HRQ
          go_region
          all_goals go_wp2_with fail
          all_goals go_meet
          all_goals first
            | exact HST.out _ ((((HA4.out.so i sh).sr i rs).si i i).dr 1)
            | exact HST.out _ ((((HA4.out.so i sh).si i i).sr i rs).dr 1)
            | exact HST.out _ ((((HA4.out.sr i rs).so i sh).si i i).dr 1)
            | exact HST.out _ ((((HA4.out.sr i rs).si i i).so i sh).dr 1)
            | exact HST.out _ ((((HA4.out.si i i).so i sh).sr i rs).dr 1)
            | exact HST.out _ ((((HA4.out.si i i).sr i rs).so i sh).dr 1)
            | (trace_state; sorry)
        case rest =>
          obtain ⟨w5, hw5'⟩ : ∃ w, w = wc := ⟨_, rfl⟩
          subst hw5'
          have HA5 := hcut
          clear hcut HA4
          have k1 : w5.cell? ⟨W.heap.size, i, none⟩ = some (.int .i64 (sh : Int)) := by
            have := HA5.out.co q
            rw [show cutF (quoF n t x) (i + 1) i = sh by unfold cutF; rw [if_pos (Nat.lt_succ_self i), HSQ.out]] at this
            exact this
          go_wp2_with fail
          go_roundw
          case rel => exact ⟨i + 1, l2, q, hl2n, by go_num, rfl, HL2, HA5⟩
          case measure => simp [intOf]; omega
      · obtain rfl : i = m := by omega
        have q1 : ¬ (i : Int) < i := by omega
        have hlm : lf < i := by
          have := left_lt (n := n) HT.out h0
          have := HL.out
          omega
        have HLF : Hid (lf = n - sumF (quoF n t x) i) := by have := HL.out; show _ = _; omega
        have HA5 : Hid (AlS W W.heap.size C g2 g i (quoF n t x) (remF n t x) id wr) := HA.out.congr (fun z hz => by unfold cutF; rw [if_pos hz]) (fun z hz => by unfold cutF; rw [if_pos hz]) (fun z hz => by unfold cutF; rw [if_pos hz])
        have HSO := Lib.hid (SortStable_any (C := C) (cap := i) (R := RestR (remF n t x)) (AlQ.sq HA5.out.base.2.2 HA5.out.n3 HA5.out.n5 HA5.out.n6) (RestR.ord _) (less_any (r := remF n t x) fun w h => h.rq) (fun a b h _ => cmpW_neg h) (by omega) HA5.out.row)
        clear HA
        go_wp2_with fail
        refine HSO.out.mono ?_
        rintro _ w5 ⟨rfl, H5⟩
        obtain ⟨s, hp, hs, hr⟩ := H5.out
        obtain ⟨s', τ, p1, p2, p3, p4⟩ := id hp
        obtain rfl : s = s' := funext fun z => by rw [p4]; rfl
        have HP1 := Lib.hid p1; have HP2 := Lib.hid p2; have HSR := Lib.hid hs
        have HSM : Hid (∀ z, z < i → s z < i) := hp.lt
        have HTM : Hid (∀ z, z < i → τ z < i) := fun z hz => by
          rcases Nat.lt_or_ge (τ z) i with c | c
          · exact c
          · have e := p3 (τ z) (by omega)
            rw [p1] at e; omega
        have HA6 : Hid (AlS W W.heap.size C g2 g i (allotF n t x τ 0) (remF n t x) s w5) := (HA5.out.of_row hr).congr (fun z _ => by unfold allotF; rw [if_neg (Nat.not_lt_zero _), Nat.add_zero]) (fun _ _ => rfl) (fun _ _ => rfl)
        have hlf2 : (lf : Int) ≤ i := by omega
        have hlf3 : (0 : Int) ≤ (lf : Int) := by omega
        clear H5 hp hs hr p1 p2 p3 p4 HSO HA5
        go_wp2_with fail
        go_loopw [18, 82] (fun _ k wr => ∃ j : Nat, j ≤ lf ∧ k = .int .i64 j ∧ Hid (AlS W W.heap.size C g2 g i (allotF n t x τ j) (remF n t x) s wr)) (fun _ k _ => lf - (intOf k).toNat)
        case atStart => exact ⟨0, Nat.zero_le _, rfl, HA6⟩
        case round =>
          obtain ⟨j, hj, rfl, HA⟩ := hrel
          by_cases q : j < lf
          · have q2 : (j : Int) < lf := by omega
            have hw : IntKind.i64.wrap ((j : Int) + 1) = ((j + 1 : Nat) : Int) := by rw [IntWalk.i64_in _ (by omega)]; omega
            obtain ⟨k, hk⟩ : ∃ k, k = s j := ⟨_, rfl⟩
            have hki : k < i := by rw [hk]; exact HSM.out j (by omega)
            have hki2 : (k : Int) < i := by omega
            have c0 := HA.out.ci (j := j) (by omega)
            rw [← hk] at c0
            obtain ⟨v, hv⟩ : ∃ v, v = allotF n t x τ j k := ⟨_, rfl⟩
            have hv2 : v = quoF n t x k := by rw [hv]; unfold allotF; rw [hk, HP2.out, if_neg (Nat.lt_irrefl j), Nat.add_zero]
            have hvb : v ≤ 1099511627776 := by rw [hv2]; exact Nat.le_trans (quo_le hn h0) (HX.out k hki)
            have c1 := HA.out.co (j := k) hki
            rw [← hv] at c1
            have f1 := HA.out.out.frozenAt k
            obtain ⟨v', hv'⟩ : ∃ z, z = v + 1 := ⟨_, rfl⟩
            have hwv : IntKind.i64.wrap ((v : Int) + 1) = (v' : Int) := by rw [IntWalk.i64_in _ (by omega)]; omega
            have HN : Hid (AlS W W.heap.size C g2 g i (allotF n t x τ (j + 1)) (remF n t x) s (wr.setCell ⟨W.heap.size, k, none⟩ (.int .i64 (v' : Int)))) :=
              (HA.out.so k v').congr (fun z _ => by rw [hv', hv2, hk]; exact allotF_step HP1.out HP2.out j z) (fun _ _ => rfl) (fun _ _ => rfl)
            clear hk hv hv2 hv'
            go_wp2_with fail
            go_roundw
            case rel => exact ⟨j + 1, q, by go_num, HN⟩
            case measure => simp [intOf]; omega
          · obtain rfl : j = lf := by omega
            have q2 : ¬ (j : Int) < j := by omega
            have HK : Hid (AlK n t i x (fnL (allotF n t x τ j) i)) := ⟨s, τ, HP1.out, HP2.out, HSM.out, HTM.out, HSR.out, by rw [HLF.out]⟩
            go_wp2_with fail
            go_ret
            exact ⟨some ⟨W.heap.size, 0, none⟩, rfl, _, HK, HA.out.out, HA.out.blw⟩
end Go.Proofs.YtcmancfdlfhgbaaGreatDoor
namespace Go.Proofs.YtcmancfdlfhgbaaGreatDoor
open Go Go.RowKit Gu

/-- a list of ints lies at a slice -/
def IsIs (W : World) (v : Value) (l : List Int) : Prop :=
  ∃ ao c, v = .slice ao l.length c ∧ (0 < l.length → ∃ B o, ao = some ⟨B, o, none⟩ ∧ B < W.heap.size ∧ ∀ j (h : j < l.length), W.cell? ⟨B, o + j, none⟩ = some (.int .i64 l[j]))
theorem IsIs.below {W W' : World} {v : Value} {l : List Int} (h : IsIs W v l) (hb : Below W.heap.size W W') : IsIs W' v l := by
  obtain ⟨ao, c, hv, h⟩ := h
  refine ⟨ao, c, hv, fun hp => ?_⟩
  obtain ⟨B, o, e, hB, hc⟩ := h hp
  exact ⟨B, o, e, Nat.lt_of_lt_of_le hB hb.size, fun j hj => (hb.cell (p := ⟨B, _, none⟩) hB).trans (hc j hj)⟩
theorem IsIs.at' {W : World} {a : Option Addr} {n c : Nat} {l : List Int} (h : IsIs W (.slice a n c) l) {j : Nat} (hj : j < l.length) : ∃ B o, a = some ⟨B, o, none⟩ ∧ W.cell? ⟨B, o + j, none⟩ = some (.int .i64 l[j]) := by
  obtain ⟨a', c', hv, hcs⟩ := h
  injection hv with hv1 hv2 hv3
  subst hv1
  obtain ⟨B, o, e1, -, hcs2⟩ := hcs (by omega)
  exact ⟨B, o, e1, hcs2 j hj⟩
/-- the sizes as a function -/
def szF (l : List Int) (i : Nat) : Nat := (l[i]?.getD 0).toNat
def GoodZ (z : Int) : Prop := 0 ≤ z ∧ z ≤ 1099511627776
instance (z : Int) : Decidable (GoodZ z) := by unfold GoodZ; infer_instance
/-- valid sizes -/
def GoodS (l : List Int) : Prop := l.length ≤ 64 ∧ ∀ i (h : i < l.length), GoodZ l[i]
/-- valid arguments of Allot -/
def AllotP (n : Int) (l : List Int) : Prop := GoodS l ∧ 0 ≤ n ∧ n ≤ (sumF (szF l) l.length : Int)
def IffB (b : Bool) (P : Prop) : Prop := b = true ↔ P
theorem IffB.yes {P : Prop} (h : P) : IffB true P := ⟨fun _ => h, fun _ => rfl⟩
theorem IffB.no {P : Prop} (h : ¬ P) : IffB false P := ⟨fun h => (by cases h), fun h' => absurd h' h⟩
theorem szF_at {l : List Int} {i : Nat} (h : i < l.length) (hg : GoodZ l[i]) : (szF l i : Int) = l[i] := by
  unfold szF
  rw [List.getElem?_eq_getElem h, Option.getD_some]
  have := hg.1
  omega
theorem szF_le {l : List Int} (hg : GoodS l) : ∀ i, i < l.length → szF l i ≤ 1099511627776 := fun i h => by
  have e := szF_at h (hg.2 i h)
  have := (hg.2 i h).2
  omega
theorem IsIs.zs {W : World} {v : Value} {l : List Int} (h : IsIs W v l) (hg : GoodS l) : IsZs W v (fnL (szF l) l.length) := by
  obtain ⟨ao, c, hv, h⟩ := h
  refine ⟨ao, c, by rw [fnL_len]; exact hv, fun hp => ?_⟩
  rw [fnL_len] at hp
  obtain ⟨B, o, e, hB, hc⟩ := h hp
  refine ⟨B, o, e, hB, fun j hj => ?_⟩
  have hj' : j < l.length := by rw [fnL_len] at hj; exact hj
  rw [hc j hj', show (fnL (szF l) l.length)[j] = szF l j by simp [fnL], szF_at hj' (hg.2 j hj')]
/-- what Total answers -/
def TotE (n : Int) (l : List Int) (e : Ending) : Prop := ∃ (t : Int) (b : Bool), e = .returned (.tuple #[.int .i64 t, .bool b]) ∧ IffB b (AllotP n l) ∧ (GoodS l → t = (sumF (szF l) l.length : Int))
set_option maxRecDepth 100000 in
set_option maxHeartbeats 1000000 in
theorem Total_any {n : Int} {l : List Int} {v : Value} {W : World} (h : IsIs W v l) :
    Calls Tryz.prog 19 #[.int .i64 n, v] W fun e w' => TotE n l e ∧ W = w' := by
  have HI := Lib.hid h
  obtain ⟨ao, c, rfl, -⟩ := h
  obtain ⟨m, hm⟩ : ∃ m, m = l.length := ⟨_, rfl⟩
  rw [← hm] at HI
  rw [← hm]
  have HM := Lib.hid hm
  clear hm
  by_cases c0 : m > 64
  · have c1 : (m : Int) > 64 := by omega
    have HN : Hid (IffB false (AllotP n l)) := IffB.no (fun h => by have := h.1.1; rw [← HM.out] at this; omega)
    have HG : Hid (GoodS l → (0 : Int) = (sumF (szF l) l.length : Int)) := fun h => by have := h.1; rw [← HM.out] at this; omega
    go_enter Tryz.func19, Tryz.ntmps19
    go_wp2_with fail
    refine bodyPost_ret (v := .tuple #[.int .i64 0, .bool false]) (by simp [results, Tryz.results19, go_sem]) rfl ?_
    exact ⟨⟨0, false, rfl, HN.out, HG.out⟩, rfl⟩
  · have c1 : ¬ (m : Int) > 64 := by omega
    go_enter Tryz.func19, Tryz.ntmps19
    go_wp2_with fail
    go_loopw [6, 7] (fun s k wr => ∃ i tt : Nat, i ≤ m ∧ tt ≤ i * 1099511627776 ∧ k = .int .i64 i ∧ s = .int .i64 tt ∧ Hid (tt = sumF (szF l) i) ∧ Hid (∀ j (h : j < l.length), j < i → GoodZ l[j]) ∧ W = wr) (fun _ k _ => m - (intOf k).toNat)
    case atStart => exact ⟨0, 0, Nat.zero_le _, by omega, rfl, rfl, rfl, fun j h hj => by omega, rfl⟩
    case round =>
      obtain ⟨i, tt, him, htt, rfl, rfl, HT, HG, rfl⟩ := hrel
      by_cases q : i < m
      · have q1 : (i : Int) < m := by omega
        have hw : IntKind.i64.wrap ((i : Int) + 1) = ((i + 1 : Nat) : Int) := by rw [IntWalk.i64_in _ (by omega)]; omega
        have hil : i < l.length := by rw [← HM.out]; exact q
        obtain ⟨B, o, e1, d0⟩ := HI.out.at' hil
        obtain ⟨z, hz⟩ : ∃ z, z = l[i] := ⟨_, rfl⟩
        rw [← hz] at d0
        have HZ := Lib.hid hz
        subst e1
        clear hz
        by_cases g1 : z < 0
        · have d1 : decide (z < 0) = true := decide_eq_true g1
          have HN : Hid (IffB false (AllotP n l)) := IffB.no (fun h => by have := (h.1.2 i hil).1; rw [← HZ.out] at this; omega)
          have HG2 : Hid (GoodS l → (0 : Int) = (sumF (szF l) l.length : Int)) := fun h => by have := (h.2 i hil).1; rw [← HZ.out] at this; omega
          go_wp2_with fail
          refine bodyPost_ret (v := .tuple #[.int .i64 0, .bool false]) (by simp [results, Tryz.results19, go_sem]) rfl ?_
          exact ⟨⟨0, false, rfl, HN.out, HG2.out⟩, rfl⟩
        · have d1 : decide (z < 0) = false := decide_eq_false g1
          by_cases g2 : z > 1099511627776
          · have d2 : decide (z > 1099511627776) = true := decide_eq_true g2
            have d3 : decide (1099511627776 < z) = true := decide_eq_true g2
            have HN : Hid (IffB false (AllotP n l)) := IffB.no (fun h => by have := (h.1.2 i hil).2; rw [← HZ.out] at this; omega)
            have HG2 : Hid (GoodS l → (0 : Int) = (sumF (szF l) l.length : Int)) := fun h => by have := (h.2 i hil).2; rw [← HZ.out] at this; omega
            go_wp2_with fail
            refine bodyPost_ret (v := .tuple #[.int .i64 0, .bool false]) (by simp [results, Tryz.results19, go_sem]) rfl ?_
            exact ⟨⟨0, false, rfl, HN.out, HG2.out⟩, rfl⟩
          · have d2 : decide (z > 1099511627776) = false := decide_eq_false g2
            have d3 : decide (1099511627776 < z) = false := decide_eq_false g2
            have hgz : GoodZ l[i] := by rw [← HZ.out]; exact ⟨by omega, by omega⟩
            obtain ⟨zn, hzn⟩ : ∃ k, k = szF l i := ⟨_, rfl⟩
            have hze : z = (zn : Int) := by rw [HZ.out, hzn, szF_at hil hgz]
            have HT2 : Hid (tt + zn = sumF (szF l) (i + 1)) := by
              have := HT.out
              show _ = sumF (szF l) i + szF l i
              omega
            have HG2 : Hid (∀ j (h : j < l.length), j < i + 1 → GoodZ l[j]) := fun j h hj => by
              rcases Nat.lt_succ_iff_lt_or_eq.1 hj with c | c
              · exact HG.out j h c
              · subst c; exact hgz
            obtain ⟨t2, ht2⟩ : ∃ k, k = tt + zn := ⟨_, rfl⟩
            rw [← ht2] at HT2
            have hwt : IntKind.i64.wrap ((tt : Int) + (zn : Int)) = (t2 : Int) := by rw [IntWalk.i64_in _ (by omega)]; omega
            have ht2b : t2 ≤ (i + 1) * 1099511627776 := by omega
            clear ht2 hzn HZ hgz
            subst hze
            go_wp2_with fail
            go_roundw
            case rel => exact ⟨i + 1, t2, q, ht2b, by go_num, rfl, HT2, HG2, trivial⟩
            case measure => simp [intOf]; omega
      · obtain rfl : i = m := by omega
        have q1 : ¬ (i : Int) < i := by omega
        have HGS : Hid (GoodS l) := ⟨by rw [← HM.out]; omega, fun j h => HG.out j h (by rw [HM.out]; exact h)⟩
        have HG2 : Hid (GoodS l → (tt : Int) = (sumF (szF l) l.length : Int)) := fun _ => by rw [HT.out, HM.out]
        by_cases g1 : n ≥ 0
        · by_cases g2 : n ≤ (tt : Int)
          · have HN : Hid (IffB true (AllotP n l)) := IffB.yes ⟨HGS.out, g1, by rw [← HM.out, ← HT.out]; exact g2⟩
            have d1 : decide (n ≥ 0) = true := decide_eq_true g1
            have d3 : decide (0 ≤ n) = true := decide_eq_true g1
            have d2 : decide (n ≤ (tt : Int)) = true := decide_eq_true g2
            go_wp2_with fail
            refine bodyPost_ret (v := .tuple #[.int .i64 (tt : Int), .bool true]) (by simp [results, Tryz.results19, go_sem]) rfl ?_
            exact ⟨⟨_, true, rfl, HN.out, HG2.out⟩, rfl⟩
          · have HN : Hid (IffB false (AllotP n l)) := IffB.no (fun h => by have := h.2.2; rw [← HM.out, ← HT.out] at this; omega)
            have d1 : decide (n ≥ 0) = true := decide_eq_true g1
            have d3 : decide (0 ≤ n) = true := decide_eq_true g1
            have d2 : decide (n ≤ (tt : Int)) = false := decide_eq_false g2
            go_wp2_with fail
            refine bodyPost_ret (v := .tuple #[.int .i64 (tt : Int), .bool false]) (by simp [results, Tryz.results19, go_sem]) rfl ?_
            exact ⟨⟨_, false, rfl, HN.out, HG2.out⟩, rfl⟩
        · have HN : Hid (IffB false (AllotP n l)) := IffB.no (fun h => by have := h.2.1; omega)
          have d1 : decide (n ≥ 0) = false := decide_eq_false g1
          have d3 : decide (0 ≤ n) = false := decide_eq_false g1
          go_wp2_with fail
          refine bodyPost_ret (v := .tuple #[.int .i64 (tt : Int), .bool false]) (by simp [results, Tryz.results19, go_sem]) rfl ?_
          exact ⟨⟨_, false, rfl, HN.out, HG2.out⟩, rfl⟩
end Go.Proofs.YtcmancfdlfhgbaaGreatDoor
namespace Go.Proofs.YtcmancfdlfhgbaaGreatDoor
open Go Go.RowKit Gu

/-- what allot answers -/
def AllE (n t m : Nat) (x : Nat → Nat) (W : World) (e : Ending) (w' : World) : Prop := ∃ (a : Option Addr) (L : List Nat), e = .returned (.slice a m m) ∧ AlK n t m x L ∧ w'.ownsRow W.heap.size 3 1 (.slice a m m) m (encN L)
set_option maxRecDepth 100000 in
theorem allot_any {n t m : Nat} {x : Nat → Nat} {ao : Option Addr} {c : Nat} {W : World} (hv : IsZs W (.slice ao m c) (fnL x m)) (hm : m ≤ 64) (hn : n ≤ t) (ht : t = sumF x m) (hx : ∀ i, i < m → x i ≤ 1099511627776) :
    Calls Tryz.prog 46 #[.int .i64 n, .int .i64 t, .slice ao m c] W fun e w' => AllE n t m x W e w' ∧ Hid (Below W.heap.size W w') := by
  by_cases h0 : 0 < t
  · exact (allot_walk hv hm h0 hn ht hx).mono fun e w' ⟨a, L, h1, h2, h3, h4⟩ => ⟨⟨a, L, h1, h2.out, h3.out⟩, h4⟩
  · obtain rfl : t = 0 := by omega
    obtain rfl : n = 0 := by omega
    have hmk := made_int m (by omega)
    have HK : Hid (AlK 0 0 m x (fnL (fun _ => 0) m)) := ⟨id, id, fun _ => rfl, fun _ => rfl, fun _ h => h, fun _ h => h, fun a b _ hab _ => .inr ⟨by simp [remF], hab⟩, fnL_congr fun i _ => by simp [allotF, quoF]⟩
    have HB : Hid (Below W.heap.size W (W.alloc (.cells (madeCells #[.int .i64 0] m) 3))) := (Below.refl _ W).alloc (Nat.le_refl _) _
    have HR : Hid ((W.alloc (.cells (madeCells #[.int .i64 0] m) 3)).ownsRow W.heap.size 3 1 (.slice (some ⟨W.heap.size, 0, none⟩) m m) m (encN (fnL (fun _ => 0) m))) :=
      row_of_heap (Nat.le_refl _) (heap_alloc_new W _) (made_zero _ _) (by simp [fnL, encN]) (by unfold maxLen; omega)
    clear hv ht hx
    go_enter Tryz.func46, Tryz.ntmps46
    go_wp2_with fail
    go_ret
    exact ⟨⟨_, _, rfl, HK.out, HR.out⟩, HB⟩
/-- what Allot answers -/
def AlloE (n : Int) (l : List Int) (W : World) (e : Ending) (w' : World) : Prop :=
  (AllotP n l ∧ ∃ (a : Option Addr) (L : List Nat), e = .returned (.tuple #[.slice a l.length l.length, .int .i64 0]) ∧ AlK n.toNat (sumF (szF l) l.length) l.length (szF l) L ∧ w'.ownsRow W.heap.size 3 1 (.slice a l.length l.length) l.length (encN L)) ∨
  (¬ AllotP n l ∧ e = .returned (.tuple #[.slice none 0 0, .int .i64 2]))
set_option maxRecDepth 100000 in
set_option maxHeartbeats 1000000 in
theorem Allot_any {n : Int} {l : List Int} {v : Value} {W : World} (h : IsIs W v l) :
    Calls Tryz.prog 18 #[.int .i64 n, v] W fun e w' => AlloE n l W e w' ∧ Hid (Below W.heap.size W w') := by
  have HI := Lib.hid h
  obtain ⟨ao, c, rfl, -⟩ := h
  obtain ⟨m, hm⟩ : ∃ m, m = l.length := ⟨_, rfl⟩
  rw [← hm] at HI
  rw [← hm]
  have HM := Lib.hid hm
  clear hm
  by_cases c0 : m > 64
  · have c1 : (m : Int) > 64 := by omega
    have HN : Hid (¬ AllotP n l) := fun h => by have := h.1.1; rw [← HM.out] at this; omega
    go_enter Tryz.func18, Tryz.ntmps18
    go_wp2_with fail
    refine bodyPost_ret (v := .tuple #[.slice none 0 0, .int .i64 2]) (by simp [results, Tryz.results18, go_sem]) rfl ?_
    exact ⟨.inr ⟨HN.out, rfl⟩, Below.refl _ _⟩
  · have c1 : ¬ (m : Int) > 64 := by omega
    go_enter Tryz.func18, Tryz.ntmps18
    go_wp2_with fail
    go_loopw [6, 8, 14] (fun s _ k wr => ∃ i tt : Nat, i ≤ m ∧ tt ≤ i * 1099511627776 ∧ k = .int .i64 i ∧ s = .int .i64 tt ∧ Hid (tt = sumF (szF l) i) ∧ Hid (∀ j (h : j < l.length), j < i → GoodZ l[j]) ∧ W = wr) (fun _ _ k _ => m - (intOf k).toNat)
    case atStart => exact ⟨0, 0, Nat.zero_le _, by omega, rfl, rfl, rfl, fun j h hj => by omega, rfl⟩
    case round =>
      obtain ⟨i, tt, him, htt, rfl, rfl, HT, HG, rfl⟩ := hrel
      by_cases q : i < m
      · have q1 : (i : Int) < m := by omega
        have hw : IntKind.i64.wrap ((i : Int) + 1) = ((i + 1 : Nat) : Int) := by rw [IntWalk.i64_in _ (by omega)]; omega
        have hil : i < l.length := by rw [← HM.out]; exact q
        obtain ⟨B, o, e1, d0⟩ := HI.out.at' hil
        obtain ⟨z, hz⟩ : ∃ z, z = l[i] := ⟨_, rfl⟩
        rw [← hz] at d0
        have HZ := Lib.hid hz
        subst e1
        clear hz
        by_cases g1 : 0 ≤ z ∧ z ≤ 1099511627776
        · have HF := isFrom_is (decide_eq_true g1)
          have hgz : GoodZ l[i] := by rw [← HZ.out]; exact g1
          obtain ⟨zn, hzn⟩ : ∃ k, k = szF l i := ⟨_, rfl⟩
          have hze : z = (zn : Int) := by rw [HZ.out, hzn, szF_at hil hgz]
          have HT2 : Hid (tt + zn = sumF (szF l) (i + 1)) := by
            have := HT.out
            show _ = sumF (szF l) i + szF l i
            omega
          have HG2 : Hid (∀ j (h : j < l.length), j < i + 1 → GoodZ l[j]) := fun j h hj => by
            rcases Nat.lt_succ_iff_lt_or_eq.1 hj with c | c
            · exact HG.out j h c
            · subst c; exact hgz
          obtain ⟨t2, ht2⟩ : ∃ k, k = tt + zn := ⟨_, rfl⟩
          rw [← ht2] at HT2
          have hwt : IntKind.i64.wrap ((tt : Int) + (zn : Int)) = (t2 : Int) := by rw [IntWalk.i64_in _ (by omega)]; omega
          have ht2b : t2 ≤ (i + 1) * 1099511627776 := by omega
          clear ht2 hzn HZ hgz g1
          subst hze
          go_wp2_with fail
          refine (HF.out _).mono ?_
          rintro e w' ⟨rfl, rfl⟩
          go_wp2_with fail
          go_roundw
          case rel => exact ⟨i + 1, t2, q, ht2b, by go_num, rfl, HT2, HG2, by trivial⟩
          case measure => simp [intOf]; omega
        · have HF := isFrom_is (decide_eq_false g1)
          have HN : Hid (¬ AllotP n l) := fun h => g1 (by have := h.1.2 i hil; rw [← HZ.out] at this; exact this)
          clear g1
          go_wp2_with fail
          refine (HF.out _).mono ?_
          rintro e w' ⟨rfl, rfl⟩
          go_wp2_with fail
          refine bodyPost_ret (v := .tuple #[.slice none 0 0, .int .i64 2]) (by simp [results, Tryz.results18, go_sem]) rfl ?_
          exact ⟨.inr ⟨HN.out, rfl⟩, Below.refl _ _⟩
      · obtain rfl : i = m := by omega
        have q1 : ¬ (i : Int) < i := by omega
        have HGS : Hid (GoodS l) := ⟨by rw [← HM.out]; omega, fun j h => HG.out j h (by rw [HM.out]; exact h)⟩
        by_cases g1 : 0 ≤ n ∧ n ≤ (tt : Int)
        · have HF := isFrom_is (decide_eq_true g1)
          obtain ⟨nn, rfl⟩ : ∃ k : Nat, n = (k : Int) := ⟨n.toNat, by omega⟩
          have HP : Hid (AllotP (nn : Int) l) := ⟨HGS.out, g1.1, by rw [← HM.out, ← HT.out]; exact g1.2⟩
          have HZS : Hid (IsZs W (.slice ao i c) (fnL (szF l) i)) := by
            have := HI.out.zs HGS.out
            rwa [← HM.out] at this
          have HAL := Lib.hid (allot_any (n := nn) (t := tt) HZS.out (by omega) (by omega) HT.out fun j hj => szF_le HGS.out j (by rw [← HM.out]; exact hj))
          clear g1
          go_wp2_with fail
          refine (HF.out _).mono ?_
          rintro e w' ⟨rfl, rfl⟩
          go_wp2_with fail
          refine HAL.out.mono ?_
          rintro e w5 ⟨⟨a, L, rfl, hk, hr⟩, HB5⟩
          have HK := Lib.hid hk; have HR := Lib.hid hr
          clear hk hr HAL HF
          go_wp2_with fail
          refine bodyPost_ret (v := .tuple #[.slice a i i, .int .i64 0]) (by simp [results, Tryz.results18, go_sem]) rfl ?_
          exact ⟨.inl ⟨HP.out, a, L, by rw [← HM.out], by rw [← HM.out, ← HT.out]; exact HK.out, by rw [← HM.out]; exact HR.out⟩, HB5⟩
        · have HF := isFrom_is (decide_eq_false g1)
          have HN : Hid (¬ AllotP n l) := fun h => g1 ⟨h.2.1, by have := h.2.2; rw [← HM.out, ← HT.out] at this; exact this⟩
          clear g1
          go_wp2_with fail
          refine (HF.out _).mono ?_
          rintro e w' ⟨rfl, rfl⟩
          go_wp2_with fail
          refine bodyPost_ret (v := .tuple #[.slice none 0 0, .int .i64 2]) (by simp [results, Tryz.results18, go_sem]) rfl ?_
          exact ⟨.inr ⟨HN.out, rfl⟩, Below.refl _ _⟩
end Go.Proofs.YtcmancfdlfhgbaaGreatDoor
namespace Go.Proofs.YtcmancfdlfhgbaaGreatDoor
open Go Go.RowKit Gu

theorem sumF_sum (f : Nat → Nat) : ∀ m, sumF f m = ((List.range m).map f).sum
  | 0 => rfl
  | m + 1 => by
    rw [List.range_succ, List.map_append, List.sum_append, ← sumF_sum f m]
    simp [sumF]
theorem sumF_perm {f s τ : Nat → Nat} {m : Nat} (h1 : ∀ i, s (τ i) = i) (h2 : ∀ i, τ (s i) = i) (h3 : ∀ i, i < m → s i < m) (h4 : ∀ i, i < m → τ i < m) : sumF (fun k => f (s k)) m = sumF f m := by
  rw [sumF_sum, sumF_sum, show (fun k => f (s k)) = f ∘ s from rfl, ← List.map_map]
  refine (List.Perm.map f ?_).sum_nat
  refine (List.perm_ext_iff_of_nodup ?_ List.nodup_range).2 fun x => ?_
  · exact List.pairwise_map.2 (List.nodup_range.imp fun hab => fun h => hab (by have := congrArg τ h; rwa [h2, h2] at this))
  · rw [List.mem_map, List.mem_range]
    constructor
    · rintro ⟨y, hy, rfl⟩; exact h3 y (List.mem_range.1 hy)
    · intro hx; exact ⟨τ x, List.mem_range.2 (h4 x hx), h1 x⟩
theorem sumF_zero {f : Nat → Nat} {k m : Nat} (hk : k ≤ m) (h : ∀ i, k ≤ i → i < m → f i = 0) : sumF f m = sumF f k := by
  induction m with
  | zero => obtain rfl : k = 0 := by omega
            rfl
  | succ m ih =>
    rcases Nat.eq_or_lt_of_le hk with e | e
    · rw [e]
    · show sumF f m + f m = _
      rw [h m (by omega) (by omega), Nat.add_zero]
      exact ih (by omega) fun i h1 h2 => h i h1 (by omega)
theorem sumF_one (m left : Nat) (h : left ≤ m) : sumF (fun k => if k < left then 1 else 0) m = left := by
  rw [sumF_zero h (fun i h1 _ => if_neg (by omega)), sumF_congr (h := fun _ => 1) left (fun i hi => if_pos hi), sumF_const, Nat.mul_one]
section
variable {n t m : Nat} {x s τ : Nat → Nat} (ht : t = sumF x m) (h0 : 0 < t) (h1 : ∀ i, s (τ i) = i) (h2 : ∀ i, τ (s i) = i) (h3 : ∀ i, i < m → s i < m) (h4 : ∀ i, i < m → τ i < m)
include ht h0 h1 h2 h3 h4
/-- all draws are given away -/
theorem allot_sum : sumF (allotF n t x τ (n - sumF (quoF n t x) m)) m = n := by
  have hl := left_lt (n := n) ht h0
  have hs := shares_le (n := n) ht h0
  obtain ⟨u, hu⟩ : ∃ u, u = n - sumF (quoF n t x) m := ⟨_, rfl⟩
  rw [← hu] at hl ⊢
  have e : sumF (allotF n t x τ u) m = sumF (quoF n t x) m + sumF (fun i => if τ i < u then 1 else 0) m := sumF_add _ _ _
  have e2 := sumF_perm (f := fun i => if τ i < u then 1 else 0) h1 h2 h3 h4
  have e3 : sumF (fun k => if τ (s k) < u then 1 else 0) m = u := by
    rw [sumF_congr (h := fun k => if k < u then 1 else 0) m (fun i _ => by rw [h2])]
    exact sumF_one m u (by omega)
  rw [e, ← e2, e3]
  omega
/-- who gets one more has a remainder -/
theorem allot_rem (hs : SortedF (RestR (remF n t x)) 0 m s) {i : Nat} (hi : i < m) (h : τ i < n - sumF (quoF n t x) m) : 0 < remF n t x i := by
  have hl := left_lt (n := n) ht h0
  obtain ⟨-, hsum⟩ := shares_le (n := n) ht h0
  obtain ⟨u, hu⟩ : ∃ u, u = n - sumF (quoF n t x) m := ⟨_, rfl⟩
  rw [← hu] at hl hsum h
  rcases Nat.eq_zero_or_pos (remF n t x i) with e | e
  · exfalso
    have hz : ∀ k, τ i ≤ k → k < m → remF n t x (s k) = 0 := fun k hk hkm => by
      rcases Nat.eq_or_lt_of_le hk with c | c
      · rw [← c, h1]; exact e
      · have := hs (τ i) k (Nat.zero_le _) c hkm
        unfold RestR at this
        rw [h1, e] at this
        omega
    have e2 := sumF_perm (f := remF n t x) h1 h2 h3 h4
    rw [sumF_zero (Nat.le_of_lt (h4 i hi)) hz] at e2
    have e3 : sumF (fun k => remF n t x (s k)) (τ i) ≤ τ i * t := by
      have := sumF_le (f := fun k => remF n t x (s k)) (h := fun _ => t) (τ i) fun k _ => Nat.le_of_lt (Nat.mod_lt _ h0)
      rwa [sumF_const] at this
    have e4 : τ i * t < u * t := Nat.mul_lt_mul_of_pos_right h h0
    omega
  · exact e
/-- no stratum gets more than its size -/
theorem allot_le (hs : SortedF (RestR (remF n t x)) 0 m s) (hn : n ≤ t) {i : Nat} (hi : i < m) : allotF n t x τ (n - sumF (quoF n t x) m) i ≤ x i := by
  unfold allotF
  by_cases c : τ i < n - sumF (quoF n t x) m
  · rw [if_pos c]
    have hr := allot_rem ht h0 h1 h2 h3 h4 hs hi c
    have hd : t * quoF n t x i + remF n t x i = n * x i := Nat.div_add_mod _ _
    have hx : n * x i ≤ t * x i := Nat.mul_le_mul_right _ hn
    have : t * quoF n t x i < t * x i := by omega
    exact Nat.lt_of_mul_lt_mul_left this
  · rw [if_neg c]
    exact quo_le hn h0
end
end Go.Proofs.YtcmancfdlfhgbaaGreatDoor
namespace Go.Proofs.YtcmancfdlfhgbaaGreatDoor
open Go Go.RowKit Gu

theorem sumF_elem (f : Nat → Nat) {i m : Nat} (h : i < m) : f i ≤ sumF f m :=
  Nat.le_trans (Nat.le_add_left _ _) (sumF_mono f (show i + 1 ≤ m from h))
set_option maxRecDepth 100000 in
set_option maxHeartbeats 2000000 in
theorem sampleShares_law {n : Int} {v : Value} {l : List Int} {W : World} (hn : -9223372036854775808 ≤ n ∧ n ≤ 9223372036854775807) (hv : IsIs W v l) (he : Env W) :
    Calls Tryz.prog 7 #[.int .i64 n, v] W fun e w' => e = .returned (.bool true) ∧ Below W.heap.size W w' := by
  have HAW : Hid (∀ W', Below W.heap.size W W' → Calls Tryz.prog 9 #[] W' fun e w' => e = .returned (.bool true) ∧ Hid (Below W'.heap.size W' w')) := fun W' h => sawake_any W' (he.below h)
  have HI := Lib.hid hv
  have HTO := Lib.hid (Total_any (n := n) hv)
  have HALL := Lib.hid (Allot_any (n := n) hv)
  obtain ⟨ao, c, rfl, -⟩ := hv
  obtain ⟨m, hm⟩ : ∃ m, m = l.length := ⟨_, rfl⟩
  rw [← hm] at HTO HALL HI
  rw [← hm]
  have HM := Lib.hid hm
  clear hm he
  go_enter Tryz.func7, Tryz.ntmps7
  go_wp2_with fail
  refine HTO.out.mono ?_
  rintro _ w' ⟨⟨t, b, rfl, hb, ht⟩, rfl⟩
  have HBF := Lib.hid hb; have HT := Lib.hid ht
  clear hb ht HTO
  cases b with
  | false =>
    go_wp2_with fail
    refine (HAW.out _ (Below.refl _ _)).mono ?_
    rintro e w' ⟨rfl, hb⟩
    go_wp2_with fail
    go_ret
    exact ⟨rfl, hb.out⟩
  | true =>
    by_cases t1 : t < 1
    · have d1 : decide (t < 1) = true := decide_eq_true t1
      go_wp2_with fail
      refine (HAW.out _ (Below.refl _ _)).mono ?_
      rintro e w' ⟨rfl, hb⟩
      go_wp2_with fail
      go_ret
      exact ⟨rfl, hb.out⟩
    · have d1 : decide (t < 1) = false := decide_eq_false t1
      by_cases t2 : t > 67108864
      · have d2 : decide (t > 67108864) = true := decide_eq_true t2
        have d3 : decide (67108864 < t) = true := decide_eq_true t2
        go_wp2_with fail
        refine (HAW.out _ (Below.refl _ _)).mono ?_
        rintro e w' ⟨rfl, hb⟩
        go_wp2_with fail
        go_ret
        exact ⟨rfl, hb.out⟩
      · have d2 : decide (t > 67108864) = false := decide_eq_false t2
        have d3 : decide (67108864 < t) = false := decide_eq_false t2
        have HP : Hid (AllotP n l) := HBF.out.1 rfl
        obtain ⟨tt, htt⟩ : ∃ k, k = sumF (szF l) l.length := ⟨_, rfl⟩
        have e0 : t = (tt : Int) := by rw [htt]; exact HT.out HP.out.1
        have hn2 := HP.out.2
        rw [← htt] at hn2
        obtain ⟨nn, rfl⟩ : ∃ k : Nat, n = (k : Int) := ⟨n.toNat, by omega⟩
        have HTT := Lib.hid htt
        have hnt : nn ≤ tt := by omega
        have htt1 : 0 < tt := by omega
        have htt2 : tt ≤ 67108864 := by omega
        subst e0
        clear htt hn2 HBF HT
        go_wp2_with fail
        refine HALL.out.mono ?_
        rintro _ w2 ⟨hr, HB2⟩
        rcases hr with ⟨-, a, L, rfl, hk, hr⟩ | ⟨hno, -⟩
        · obtain ⟨s, τ, p1, p2, p3, hτ, p4, p5⟩ := hk
          rw [← HTT.out, show ((nn : Int)).toNat = nn by omega, ← HM.out] at p5
          rw [← HTT.out, show ((nn : Int)).toNat = nn by omega, ← HM.out] at p4
          rw [← HM.out] at p3 hr hτ
          rw [← HM.out] at HTT
          obtain ⟨u, hu⟩ : ∃ u, u = nn - sumF (quoF nn tt (szF l)) m := ⟨_, rfl⟩
          have HSU : Hid (sumF (allotF nn tt (szF l) τ u) m = nn) := by rw [hu]; exact allot_sum HTT.out htt1 p1 p2 p3 hτ
          have HLE : Hid (∀ i, i < m → allotF nn tt (szF l) τ u i ≤ szF l i) := fun i hi => by rw [hu]; exact allot_le HTT.out htt1 p1 p2 p3 hτ p4 hnt hi
          have HRE : Hid (∀ i, i < m → τ i < u → 0 < remF nn tt (szF l) i) := fun i hi h => allot_rem HTT.out htt1 p1 p2 p3 hτ p4 hi (by rw [← hu]; exact h)
          rw [← hu] at p5
          have HZ : Hid (IsZs w2 (.slice a m m) L) := IsZs.of_row hr (by rw [p5, fnL_len])
          have HL := Lib.hid p5
          have HI2 : Hid (IsIs w2 (.slice ao m c) l) := HI.out.below HB2.out
          have HSZ : Hid (∀ i (h : i < l.length), (szF l i : Int) = l[i] ∧ szF l i ≤ tt) := fun i h => ⟨szF_at h (HP.out.1.2 i h), by rw [HTT.out]; exact sumF_elem _ (by rw [HM.out]; exact h)⟩
          have hm64 : m ≤ 64 := by rw [HM.out]; exact HP.out.1.1
          have hnn : nn ≤ 67108864 := by omega
          have htt3 : ¬ (tt : Int) = 0 := by omega
          have hmm : ((m : Int) != (m : Int)) = false := by simp
          clear p1 p2 p3 p4 p5 hr hτ hu HALL HI HP
          rw [← HM.out]
          go_wp2_with fail
          go_loopw [9, 10, 11, 12, 47] (fun s _ _ _ k wr => ∃ i ss : Nat, i ≤ m ∧ ss ≤ nn ∧ k = .int .i64 i ∧ s = .int .i64 ss ∧ Hid (ss = sumF (allotF nn tt (szF l) τ u) i) ∧ w2 = wr) (fun _ _ _ _ k _ => m - (intOf k).toNat)
          case atStart => exact ⟨0, 0, Nat.zero_le _, Nat.zero_le _, rfl, rfl, rfl, rfl⟩
          case round =>
            obtain ⟨i, ss, him, hss, rfl, rfl, HS, rfl⟩ := hrel
            by_cases q : i < m
            · have q1 : (i : Int) < m := by omega
              have hw : IntKind.i64.wrap ((i : Int) + 1) = ((i + 1 : Nat) : Int) := by rw [IntWalk.i64_in _ (by omega)]; omega
              have hil : i < l.length := by rw [← HM.out]; exact q
              obtain ⟨B, o, e1, d0⟩ := HI2.out.at' hil
              obtain ⟨B2, o2, e2, d1'⟩ := HZ.out.at' (j := i) (by rw [HL.out, fnL_len]; exact q)
              have hLi : (L[i]'(by rw [HL.out, fnL_len]; exact q)) = allotF nn tt (szF l) τ u i := by simp [HL.out, fnL]
              obtain ⟨y, hy⟩ : ∃ y, y = szF l i := ⟨_, rfl⟩
              have hyl := (HSZ.out i hil).1
              have hyt := (HSZ.out i hil).2
              rw [← hyl, ← hy] at d0
              rw [← hy] at hyt
              obtain ⟨z, hz⟩ : ∃ z, z = allotF nn tt (szF l) τ u i := ⟨_, rfl⟩
              rw [hLi, ← hz] at d1'
              have hzy : z ≤ y := by rw [hz, hy]; exact HLE.out i q
              obtain ⟨P, hP⟩ : ∃ P, P = nn * y := ⟨_, rfl⟩
              have hPb : P ≤ 67108864 * 67108864 := by rw [hP]; exact Nat.mul_le_mul hnn (by omega)
              obtain ⟨lo, hlo⟩ : ∃ k, k = P / tt := ⟨_, rfl⟩
              obtain ⟨re, hre⟩ : ∃ k, k = P % tt := ⟨_, rfl⟩
              have hlq : lo = quoF nn tt (szF l) i := by rw [hlo, hP, hy]; rfl
              have hrq : re = remF nn tt (szF l) i := by rw [hre, hP, hy]; rfl
              have hlP : lo ≤ P := by rw [hlo]; exact Nat.div_le_self _ _
              have hzl : (z = lo) ∨ (z = lo + 1 ∧ 0 < re) := by
                rw [hz, hlq, hrq]
                unfold allotF
                by_cases c : τ i < u
                · rw [if_pos c]; exact .inr ⟨rfl, HRE.out i q c⟩
                · rw [if_neg c]; exact .inl rfl
              have w1 : IntKind.i64.wrap ((nn : Int) * (y : Int)) = (P : Int) := by
                rw [show (nn : Int) * y = ((nn * y : Nat) : Int) by simp, ← hP]; exact IntWalk.i64_in _ (by omega)
              have w3 : (P : Int) / (tt : Int) = (lo : Int) := by rw [hlo]; simp
              have w4 : (P : Int) % (tt : Int) = (re : Int) := by rw [hre]; simp
              have w3b : (P : Int).tdiv (tt : Int) = (lo : Int) := by rw [Int.tdiv_eq_ediv_of_nonneg (by omega)]; exact w3
              have w4b : (P : Int).tmod (tt : Int) = (re : Int) := by rw [Int.tmod_eq_emod_of_nonneg (by omega)]; exact w4
              have w5 : IntKind.i64.wrap (lo : Int) = (lo : Int) := IntWalk.i64_in _ (by omega)
              obtain ⟨s2, hs2⟩ : ∃ k, k = ss + z := ⟨_, rfl⟩
              have HS2 : Hid (s2 = sumF (allotF nn tt (szF l) τ u) (i + 1)) := by rw [hs2, HS.out, hz]; exact rfl
              have hs2n : s2 ≤ nn := by
                have h1 := sumF_mono (allotF nn tt (szF l) τ u) (show i + 1 ≤ m from q)
                have h2 := HS2.out
                have h3 := HSU.out
                omega
              have w6 : IntKind.i64.wrap ((ss : Int) + (z : Int)) = (s2 : Int) := by rw [IntWalk.i64_in _ (by omega)]; omega
              have w7 : ¬ (z : Int) > (y : Int) := by omega
              have w8 : decide ((z : Int) > (y : Int)) = false := decide_eq_false w7
              have w9 : decide ((y : Int) < (z : Int)) = false := decide_eq_false w7
              subst e1; subst e2
              clear hy hyl hz hP hlo hre hlq hrq hLi hs2
              rcases hzl with rfl | ⟨rfl, hre0⟩
              · have v1 : ¬ (z : Int) < (z : Int) := by omega
                have v2 : decide ((z : Int) < (z : Int)) = false := decide_eq_false v1
                have v3 : IntKind.i64.wrap ((z : Int) + 1) = (z : Int) + 1 := IntWalk.i64_in _ (by omega)
                have v4 : decide ((z : Int) > (z : Int) + 1) = false := decide_eq_false (by omega)
                have v5 : decide ((z : Int) + 1 < (z : Int)) = false := decide_eq_false (by omega)
                go_wp2_with fail
                go_roundw
                case rel => exact ⟨i + 1, s2, q, hs2n, by go_num, rfl, HS2, by trivial⟩
                case measure => simp [intOf]; omega
              · obtain ⟨z, hz⟩ : ∃ z, z = lo + 1 := ⟨_, rfl⟩
                rw [← hz] at d1' w6 w7 w8 w9 hzy
                have v1 : ¬ (z : Int) < (lo : Int) := by omega
                have v2 : decide ((z : Int) < (lo : Int)) = false := decide_eq_false v1
                have v3 : IntKind.i64.wrap ((lo : Int) + 1) = (z : Int) := by rw [IntWalk.i64_in _ (by omega)]; omega
                have v4 : decide ((z : Int) > (z : Int)) = false := decide_eq_false (by omega)
                have v4b : decide ((z : Int) < (z : Int)) = false := decide_eq_false (by omega)
                have v5 : decide ((z : Int) > (lo : Int)) = true := decide_eq_true (by omega)
                have v6 : decide ((lo : Int) < (z : Int)) = true := decide_eq_true (by omega)
                have v7 : ((re : Int) == 0) = false := beq_eq_false_iff_ne.2 (by omega)
                have v8 : ¬ (re : Int) = 0 := by omega
                clear hz
                go_wp2_with fail
                all_goals
                  go_roundw
                  case rel => exact ⟨i + 1, s2, q, hs2n, by go_num, rfl, HS2, by trivial⟩
                  case measure => simp [intOf]; omega
            · obtain rfl : i = m := by omega
              have q1 : ¬ (i : Int) < i := by omega
              have hssn : ss = nn := by rw [HS.out, HSU.out]
              have v1 : ((ss : Int) == (nn : Int)) = true := by rw [hssn]; simp
              have HA2 := Lib.hid (HAW.out _ HB2.out)
              have HSN := Lib.hid hssn
              subst hssn
              go_wp2_with fail
              refine HA2.out.mono ?_
              rintro e w5 ⟨rfl, hb⟩
              go_wp2_with fail
              go_ret
              exact ⟨rfl, HB2.out.trans (hb.out.mono HB2.out.size)⟩
        · exact absurd HP.out hno
end Go.Proofs.YtcmancfdlfhgbaaGreatDoor
