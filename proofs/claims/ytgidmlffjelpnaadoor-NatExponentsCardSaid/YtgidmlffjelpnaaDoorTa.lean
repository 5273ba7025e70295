/- The contracts of shiftLeft and shiftRight. -/
import Derived.Test.YtgidmlffjelpnaaDoorWm
namespace Go.Proofs.YtgidmlffjelpnaaDoor
open Go Go.RowKit Gu

/-- one digit shifted left, laid over a carry -/
theorem shl_digits (c d s : Nat) (hs : s < 32) (hc : c < 2 ^ s) (hd : d < 4294967296) : bits BinOp.or IntKind.u64 (c : Int) (IntKind.u64.wrap ((d : Int) * 2 ^ s)) = ((c + d * 2 ^ s : Nat) : Int) := by
  have hp : (2 : Nat) ^ s ≤ 2147483648 := Nat.le_trans (Nat.pow_le_pow_right (by decide) (show s ≤ 31 by omega)) (by decide)
  have h1 : d * 2 ^ s ≤ 4294967295 * 2147483648 := Nat.mul_le_mul (by omega) hp
  have e := bits_or_u64_nat c (d * 2 ^ s) (by omega) (by omega)
  have e2 : c ||| (d * 2 ^ s) = c + d * 2 ^ s := by
    have := Nat.two_pow_add_eq_or_of_lt (i := s) (b := c) hc d
    rw [Nat.or_comm, Nat.mul_comm d, ← this, Nat.add_comm]
  rw [e2] at e
  have e3 : IntKind.u64.wrap ((d : Int) * 2 ^ s) = ((d * 2 ^ s : Nat) : Int) := by
    rw [wrap_u64, show (d : Int) * 2 ^ s = ((d * 2 ^ s : Nat) : Int) by simp]
    omega
  rw [e3]
  exact e
/-- what the loop of shiftLeft keeps -/
def ShlRel (a s wh m : Nat) (w : World) (k X c : Nat) (wr : World) : Prop :=
  c < 2 ^ s ∧ X < 4294967296 ^ k ∧ X + 4294967296 ^ k * c = (a % 4294967296 ^ k) * 2 ^ s ∧ Buf .u32 4294967296 85 wr w.heap.size m (0 + 4294967296 ^ wh * X) ∧ Below w.heap.size w wr
theorem buf_shift {g m wh k X d : Nat} {wr : World} (h : Buf .u32 4294967296 85 wr g m (0 + 4294967296 ^ wh * X)) (hX : X < 4294967296 ^ k) (hd : d < 4294967296) :
    Buf .u32 4294967296 85 (wr.setCell ⟨g, k + wh, none⟩ (.int .u32 d)) g m (0 + 4294967296 ^ wh * (X + 4294967296 ^ k * d)) := by
  have := h.put (by decide) (show 0 + 4294967296 ^ wh * X < 4294967296 ^ (k + wh) by rw [Nat.add_comm k]; exact win_lt (Nat.pow_pos (by decide)) hX) hd
  have e : 0 + 4294967296 ^ wh * (X + 4294967296 ^ k * d) = (0 + 4294967296 ^ wh * X) + 4294967296 ^ (k + wh) * d := by
    rw [Nat.mul_add, Nat.add_comm k wh, Nat.pow_add, Nat.mul_assoc, Nat.add_assoc]
  rw [e]; exact this
theorem ShlRel.next {a s wh m : Nat} {w : World} {k X c : Nat} {wr : World} (h : ShlRel a s wh m w k X c wr) :
    ShlRel a s wh m w (k + 1) (X + 4294967296 ^ k * ((c + dg 4294967296 a k * 2 ^ s) % 4294967296)) ((c + dg 4294967296 a k * 2 ^ s) / 4294967296)
      (wr.setCell ⟨w.heap.size, k + wh, none⟩ (.int .u32 (((c + dg 4294967296 a k * 2 ^ s) % 4294967296 : Nat) : Int))) := by
  obtain ⟨h1, h2, h3, h4, h5⟩ := h
  have hda := dg_lt (B := 4294967296) (by decide) a k
  have hd : (c + dg 4294967296 a k * 2 ^ s) % 4294967296 < 4294967296 := Nat.mod_lt _ (by decide)
  exact ⟨shl_carry h1 hda, snoc_lt h2 hd, shl_round h3, buf_shift h4 h2 hd, h5.setCell (Nat.le_refl _) _⟩
set_option maxHeartbeats 1000000 in
set_option maxRecDepth 100000 in
theorem shiftLeft_any (v : Value) (a n : Nat) (w : World) (hv : D w v a) (ha : nd 4294967296 a ≤ 500000) (hn : n ≤ 16000000) :
    Calls Tryd.prog 72 #[v, .int .i64 n] w fun e w' => ∃ r, e = .returned r ∧ D w' r (a * 2 ^ n) ∧ Below w.heap.size w w' := by
  have hB : 2 ≤ 4294967296 := by decide
  obtain ⟨ao, ac, hv', hcv⟩ := hv.shape
  have hla := nd_lt hB a
  subst hv'
  clear hv
  generalize hm : nd 4294967296 a = m at *
  clear hm
  obtain ⟨wh, hwh⟩ : ∃ wh, wh = n / 32 := ⟨_, rfl⟩
  obtain ⟨s, hs⟩ : ∃ s, s = n % 32 := ⟨_, rfl⟩
  have hs32 : s < 32 := by omega
  have hwl : wh ≤ 500000 := by omega
  have q1 : (n : Int) / 32 = wh := by omega
  have q2 : (n : Int) % 32 = s := by omega
  have HNW : Hid (n = 32 * wh + s) := by show _ = _; omega
  clear hwh hs
  have hmk := made_u32 (m + wh + 1) (by omega)
  rw [show (((m + wh + 1 : Nat)) : Int) = (m : Int) + wh + 1 from by omega] at hmk
  have HL := Lib.hid hla; clear hla
  have hpos : 0 < 2 ^ s := Nat.pow_pos (by decide)
  have hp31 : (2 : Nat) ^ s ≤ 2147483648 := Nat.le_trans (Nat.pow_le_pow_right (by decide) (show s ≤ 31 by omega)) (by decide)
  go_enter Tryd.func72, Tryd.ntmps72
  go_wp2
  simp only [q2]
  go_loopw [8, 22] (fun c t wr => ∃ k X cc : Nat, k ≤ m ∧ t = .int .i64 k ∧ c = .int .u64 cc ∧ ShlRel a s wh (m + wh + 1) w k X cc wr) (fun _ t _ => m - (intOf t).toNat)
  case atStart => exact ⟨0, 0, 0, Nat.zero_le _, rfl, rfl, hpos, by simp, by simp [Nat.mod_one], by simpa using Buf.made _ _ _ _ _, (Below.refl _ _).alloc (Nat.le_refl _) _⟩
  case round =>
    obtain ⟨k, X, c, hk, rfl, rfl, hrel⟩ := hrel
    have hbel := hrel.2.2.2.2
    have hbuf := hrel.2.2.2.1
    have hc1 : c < 2 ^ s := hrel.1
    by_cases hlt : k < m
    · obtain ⟨gb, go, rfl, hca⟩ := hcv k hlt
      have hca' : wr.cell? ⟨gb, go + k, none⟩ = some (.int .u32 (dg 4294967296 a k : Nat)) := by
        rw [hbel.cell (p := ⟨gb, go + k, none⟩) (World.block_lt_of_cell? _ _ hca)]; exact hca
      have hcell := hbuf.cell (i := k + wh) (by omega)
      have hfr := hbuf.frozen (k + wh)
      have HR := Lib.hid hrel.next
      clear hrel hbuf hbel hca hcv
      have hda := dg_lt (B := 4294967296) (by decide) a k
      have hkl : (k : Int) < m := by omega
      generalize dg 4294967296 (0 + 4294967296 ^ wh * X) (k + wh) = dx at *
      generalize dg 4294967296 a k = d at *
      have HSD := Lib.hid (shl_digits c d s hs32 hc1 hda)
      generalize hte : c + d * 2 ^ s = t at *
      clear hte
      go_wp2
      rw [HSD.out]
      go_roundw
      case rel => exact ⟨k + 1, X + 4294967296 ^ k * (t % 4294967296), t / 4294967296, by omega, by go_num, by go_num, HR.out⟩
      case measure => simp [intOf]; omega
    · obtain rfl : k = m := by omega
      clear hlt hk
      have hcell := hbuf.cell (i := k + wh) (by omega)
      have hfr := hbuf.frozen (k + wh)
      obtain ⟨-, hX, hsum, -, -⟩ := hrel
      rw [Nat.mod_eq_of_lt HL.out] at hsum
      have hc4 : c < 4294967296 := by omega
      have hput := buf_shift hbuf hX hc4
      have hlt : 0 + 4294967296 ^ wh * (X + 4294967296 ^ k * c) < 4294967296 ^ (wh + (k + 1)) := win_lt (Nat.pow_pos (by decide)) (snoc_lt hX hc4)
      have hval : 0 + 4294967296 ^ wh * (X + 4294967296 ^ k * c) = a * 2 ^ n := by
        rw [hsum, HNW.out, Nat.pow_add, Nat.pow_mul, Nat.zero_add, Nat.mul_left_comm]
      rw [hval] at hput hlt
      rw [show wh + (k + 1) = k + wh + 1 from by omega] at hlt
      have hbel' := hbel.setCell (p := ⟨w.heap.size, k + wh, none⟩) (Nat.le_refl _) (.int .u32 c)
      have HP := Lib.hid hput; have HLT := Lib.hid hlt; have HBel := Lib.hid hbel'
      clear hsum hX hbuf hbel hput hlt hbel' hval hcv
      generalize dg 4294967296 (0 + 4294967296 ^ wh * X) (k + wh) = dx at *
      go_wp2_with fail
      refine (trim_buf _ _ _ (a * 2 ^ n) _ HP.out HLT.out (by omega) (by omega)).mono ?_
      rintro e w' ⟨rfl, rfl⟩
      go_wp2
      go_ret
      exact ⟨_, rfl, HP.out.isN hB HLT.out _, HBel.out⟩
/-- a word of two digits, shifted right -/
theorem shr_digits (x y s : Nat) (hs : s < 32) (hx : x < 4294967296) (hy : y < 4294967296) : bits BinOp.or IntKind.u64 (x : Int) ((y : Int) * 4294967296) / 2 ^ s % 4294967296 = (((x + 4294967296 * y) / 2 ^ s % 4294967296 : Nat) : Int) := by
  have e := bits_or_u64_nat x (y * 4294967296) (by omega) (by omega)
  have e2 : x ||| (y * 4294967296) = x + 4294967296 * y := by
    have := Nat.two_pow_add_eq_or_of_lt (i := 32) (b := x) hx y
    rw [Nat.or_comm, Nat.mul_comm y, show (4294967296 : Nat) = 2 ^ 32 from by decide, ← this, Nat.add_comm]
  rw [e2] at e
  have e3 : (y : Int) * 4294967296 = ((y * 4294967296 : Nat) : Int) := by simp
  rw [e3, e]
  generalize x + 4294967296 * y = t
  have := hs
  simp
theorem pow_n32 {n wh s : Nat} (h : n = 32 * wh + s) : 2 ^ n = 4294967296 ^ wh * 2 ^ s := by
  rw [h, Nat.pow_add, Nat.pow_mul]
theorem pow_dvd32 {s : Nat} (h : s ≤ 32) : 4294967296 = 2 ^ s * 2 ^ (32 - s) := by
  rw [← Nat.pow_add, show s + (32 - s) = 32 from by omega]
/-- what the loop of shiftRight keeps -/
def ShrRel (a n m : Nat) (w : World) (k : Nat) (wr : World) : Prop :=
  Buf .u32 4294967296 85 wr w.heap.size m (a / 2 ^ n % 4294967296 ^ k) ∧ Below w.heap.size w wr
set_option maxHeartbeats 1000000 in
set_option maxRecDepth 100000 in
theorem shiftRight_any (v : Value) (a n : Nat) (w : World) (hv : D w v a) (ha : nd 4294967296 a ≤ 1048576) (hn : n ≤ 9223372036854775807) :
    Calls Tryd.prog 73 #[v, .int .i64 n] w fun e w' => ∃ r, e = .returned r ∧ D w' r (a / 2 ^ n) ∧ Below w.heap.size w w' := by
  have hB : 2 ≤ 4294967296 := by decide
  obtain ⟨ao, ac, hv', -⟩ := hv.shape
  have hla := nd_lt hB a
  have HV := Lib.hid hv
  subst hv'
  clear hv
  generalize hm : nd 4294967296 a = m at *
  have HNA := Lib.hid hm
  clear hm
  obtain ⟨wh, hwh⟩ : ∃ wh, wh = n / 32 := ⟨_, rfl⟩
  obtain ⟨s, hs⟩ : ∃ s, s = n % 32 := ⟨_, rfl⟩
  have hs32 : s < 32 := by omega
  have hwl : wh ≤ 288230376151711743 := by omega
  have q1 : (n : Int) / 32 = wh := by omega
  have q2 : (n : Int) % 32 = s := by omega
  have HNW : Hid (n = 32 * wh + s) := by show _ = _; omega
  clear hwh hs
  have HL := Lib.hid hla; clear hla
  by_cases hge : m ≤ wh
  · have HZ : Hid (a / 2 ^ n = 0) := by
      show _ = _
      apply Nat.div_eq_of_lt
      rw [pow_n32 HNW.out]
      have h1 : 4294967296 ^ m ≤ 4294967296 ^ wh := Nat.pow_le_pow_right (by decide) hge
      have h2 : 4294967296 ^ wh ≤ 4294967296 ^ wh * 2 ^ s := Nat.le_mul_of_pos_right _ (Nat.pow_pos (by decide))
      have := HL.out
      omega
    go_enter Tryd.func73, Tryd.ntmps73
    go_wp2
    go_ret
    exact ⟨_, rfl, by rw [HZ.out]; exact IsN.zero _ _ _ _ _, Below.refl _ _⟩
  · obtain ⟨j, rfl⟩ : ∃ j, m = j + wh := ⟨m - wh, by omega⟩
    have hmk := made_u32 j (by omega)
    have hsub : ((j + wh : Nat) : Int) - wh = j := by omega
    have HD := Lib.hid (fun k => shr_digit (B := 4294967296) (a := a) (w := wh) (s := 2 ^ s) (i := k) (by decide) ⟨_, pow_dvd32 (by omega)⟩)
    rw [← pow_n32 HNW.out] at HD
    go_enter Tryd.func73, Tryd.ntmps73
    go_wp2
    simp only [q2]
    go_loopw [25] (fun t wr => ∃ k : Nat, k ≤ j ∧ t = .int .i64 k ∧ ShrRel a n j w k wr) (fun t _ => j - (intOf t).toNat)
    case atStart => exact ⟨0, Nat.zero_le _, rfl, by simpa [Nat.mod_one] using Buf.made _ _ _ _ _, (Below.refl _ _).alloc (Nat.le_refl _) _⟩
    case round =>
      obtain ⟨k, hk, rfl, hbuf, hbel⟩ := hrel
      by_cases hlt : k < j
      · have HA := Lib.hid (at_any _ a (k + wh) wr (HV.out.below hbel) (by rw [HNA.out]; omega))
        have HB' := Lib.hid (at_any _ a (k + wh + 1) wr (HV.out.below hbel) (by rw [HNA.out]; omega))
        have hcell := hbuf.cell (i := k) (by omega)
        have hfr := hbuf.frozen k
        have hda := dg_lt (B := 4294967296) (by decide) a (k + wh)
        have hdb := dg_lt (B := 4294967296) (by decide) a (k + wh + 1)
        have hW := shr_digits _ _ s hs32 hda hdb
        rw [← HD.out k] at hW
        have HN : Hid (ShrRel a n j w (k + 1) (wr.setCell ⟨w.heap.size, k, none⟩ (.int .u32 (dg 4294967296 (a / 2 ^ n) k : Nat)))) := by
          refine ⟨?_, hbel.setCell (Nat.le_refl _) _⟩
          rw [mod_succ]
          exact hbuf.put (by decide) (Nat.mod_lt _ (Nat.pow_pos (by decide))) (dg_lt (by decide) _ _)
        have HW := Lib.hid hW
        clear hbuf hbel hW
        have hkl : (k : Int) < j := by omega
        generalize dg 4294967296 (a / 2 ^ n) k = dn at *
        generalize dg 4294967296 (a / 2 ^ n % 4294967296 ^ k) k = dx at *
        generalize dg 4294967296 a (k + wh) = da at *
        generalize dg 4294967296 a (k + wh + 1) = db at *
        go_wp2_with fail
        refine HA.out.mono ?_
        rintro e w' ⟨rfl, rfl⟩
        go_wp2_with fail
        refine HB'.out.mono ?_
        rintro e w' ⟨rfl, rfl⟩
        go_wp2
        rw [HW.out]
        go_roundw
        case rel => exact ⟨k + 1, by omega, by go_num, HN.out⟩
        case measure => simp [intOf]; omega
      · obtain rfl : k = j := by omega
        have hlt2 : a / 2 ^ n < 4294967296 ^ k := by
          rw [pow_n32 HNW.out, ← Nat.div_div_eq_div_mul]
          refine Nat.lt_of_le_of_lt (Nat.div_le_self _ _) ?_
          rw [Nat.div_lt_iff_lt_mul (Nat.pow_pos (by decide)), ← Nat.pow_add]
          exact HL.out
        rw [Nat.mod_eq_of_lt hlt2] at hbuf
        have HBuf := Lib.hid hbuf; have HBel := Lib.hid hbel; have HX := Lib.hid hlt2
        clear hbuf hbel hlt hk hlt2
        go_wp2_with fail
        refine (trim_buf _ _ _ (a / 2 ^ n) _ HBuf.out HX.out (by omega) (by omega)).mono ?_
        rintro e w' ⟨rfl, rfl⟩
        go_wp2
        go_ret
        exact ⟨_, rfl, HBuf.out.isN hB HX.out _, HBel.out⟩
end Go.Proofs.YtgidmlffjelpnaaDoor
