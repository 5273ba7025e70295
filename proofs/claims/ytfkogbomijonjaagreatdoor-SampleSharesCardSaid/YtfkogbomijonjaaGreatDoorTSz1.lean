/- Contracts and lemmas (several texts merged into one). -/
import Derived.Test.YtfkogbomijonjaaGreatDoorWm
import Derived.Test.YtfkogbomijonjaaGreatDoorDa
import Derived.Laws.MathBits
import Derived.WalkMore
import Derived.Deep.LoopGhost
import Derived.Deep.RegionHeld3
import Derived.Laws.CopyOwn
import Derived.Deep.DeepMust
import Derived.Lib.ItoaNum
import Derived.Test.YtfkogbomijonjaaGreatDoorSd
import Derived.Test.YtfkogbomijonjaaGreatDoorKp
import Derived.Test.YtfkogbomijonjaaGreatDoorIc
import Derived.ArgAppend
import Derived.Test.YtfkogbomijonjaaGreatDoorNum
namespace Go.Proofs.YtfkogbomijonjaaGreatDoor
open Go Go.RowKit Gu

/-- one digit shifted left, laid over a carry -/
theorem shl_digits (c d s : Nat) (hs : s < 32) (hc : c < 2 ^ s) (hd : d < 4294967296) : bits BinOp.or IntKind.u64 (c : Int) (IntKind.u64.wrap ((d : Int) * 2 ^ s)) = ((c + d * 2 ^ s : Nat) : Int) := by
  have hp : (2 : Nat) ^ s ≤ 2147483648 := Nat.le_trans (Nat.pow_le_pow_right (by decide) (show s ≤ 31 by omega)) (by decide)
  have h1 : d * 2 ^ s ≤ 4294967295 * 2147483648 := Nat.mul_le_mul (by omega) hp
  have e := bits_or_u64_nat c (d * 2 ^ s) (by omega) (by omega)
  have e2 : c ||| (d * 2 ^ s) = c + d * 2 ^ s := by
    have := Nat.two_pow_add_eq_or_of_lt (i := s) (b := c) hc d
    rw [Nat.or_comm, Nat.mul_comm d, ← this, Nat.add_comm]
  rw [e2] at e
  have e3 : IntKind.u64.wrap ((d : Int) * 2 ^ s) = ((d * 2 ^ s : Nat) : Int) := by
    rw [wrap_u64, show (d : Int) * 2 ^ s = ((d * 2 ^ s : Nat) : Int) by simp]
    omega
  rw [e3]
  exact e
/-- what the loop of shiftLeft keeps -/
def ShlRel (a s wh m : Nat) (w : World) (k X c : Nat) (wr : World) : Prop :=
  c < 2 ^ s ∧ X < 4294967296 ^ k ∧ X + 4294967296 ^ k * c = (a % 4294967296 ^ k) * 2 ^ s ∧ Buf .u32 4294967296 75 wr w.heap.size m (0 + 4294967296 ^ wh * X) ∧ Below w.heap.size w wr
theorem buf_shift {g m wh k X d : Nat} {wr : World} (h : Buf .u32 4294967296 75 wr g m (0 + 4294967296 ^ wh * X)) (hX : X < 4294967296 ^ k) (hd : d < 4294967296) :
    Buf .u32 4294967296 75 (wr.setCell ⟨g, k + wh, none⟩ (.int .u32 d)) g m (0 + 4294967296 ^ wh * (X + 4294967296 ^ k * d)) := by
  have := h.put (by decide) (show 0 + 4294967296 ^ wh * X < 4294967296 ^ (k + wh) by rw [Nat.add_comm k]; exact win_lt (Nat.pow_pos (by decide)) hX) hd
  have e : 0 + 4294967296 ^ wh * (X + 4294967296 ^ k * d) = (0 + 4294967296 ^ wh * X) + 4294967296 ^ (k + wh) * d := by
    rw [Nat.mul_add, Nat.add_comm k wh, Nat.pow_add, Nat.mul_assoc, Nat.add_assoc]
  rw [e]; exact this
theorem ShlRel.next {a s wh m : Nat} {w : World} {k X c : Nat} {wr : World} (h : ShlRel a s wh m w k X c wr) :
    ShlRel a s wh m w (k + 1) (X + 4294967296 ^ k * ((c + dg 4294967296 a k * 2 ^ s) % 4294967296)) ((c + dg 4294967296 a k * 2 ^ s) / 4294967296)
      (wr.setCell ⟨w.heap.size, k + wh, none⟩ (.int .u32 (((c + dg 4294967296 a k * 2 ^ s) % 4294967296 : Nat) : Int))) := by
  obtain ⟨h1, h2, h3, h4, h5⟩ := h
  have hda := dg_lt (B := 4294967296) (by decide) a k
  have hd : (c + dg 4294967296 a k * 2 ^ s) % 4294967296 < 4294967296 := Nat.mod_lt _ (by decide)
  exact ⟨shl_carry h1 hda, snoc_lt h2 hd, shl_round h3, buf_shift h4 h2 hd, h5.setCell (Nat.le_refl _) _⟩
set_option maxHeartbeats 1000000 in
set_option maxRecDepth 100000 in
theorem shiftLeft_any (v : Value) (a n : Nat) (w : World) (hv : D w v a) (ha : nd 4294967296 a ≤ 500000) (hn : n ≤ 16000000) :
    Calls Tryz.prog 95 #[v, .int .i64 n] w fun e w' => ∃ r, e = .returned r ∧ D w' r (a * 2 ^ n) ∧ Below w.heap.size w w' := by
  have hB : 2 ≤ 4294967296 := by decide
  obtain ⟨ao, ac, hv', hcv⟩ := hv.shape
  have hla := nd_lt hB a
  subst hv'
  clear hv
  generalize hm : nd 4294967296 a = m at *
  clear hm
  obtain ⟨wh, hwh⟩ : ∃ wh, wh = n / 32 := ⟨_, rfl⟩
  obtain ⟨s, hs⟩ : ∃ s, s = n % 32 := ⟨_, rfl⟩
  have hs32 : s < 32 := by omega
  have hwl : wh ≤ 500000 := by omega
  have q1 : (n : Int) / 32 = wh := by omega
  have q2 : (n : Int) % 32 = s := by omega
  have HNW : Hid (n = 32 * wh + s) := by show _ = _; omega
  clear hwh hs
  have hmk := made_u32 (m + wh + 1) (by omega)
  rw [show (((m + wh + 1 : Nat)) : Int) = (m : Int) + wh + 1 from by omega] at hmk
  have HL := Lib.hid hla; clear hla
  have hpos : 0 < 2 ^ s := Nat.pow_pos (by decide)
  have hp31 : (2 : Nat) ^ s ≤ 2147483648 := Nat.le_trans (Nat.pow_le_pow_right (by decide) (show s ≤ 31 by omega)) (by decide)
  go_enter Tryz.func95, Tryz.ntmps95
  go_wp2
  simp only [q2]
  go_loopw [8, 22] (fun c t wr => ∃ k X cc : Nat, k ≤ m ∧ t = .int .i64 k ∧ c = .int .u64 cc ∧ ShlRel a s wh (m + wh + 1) w k X cc wr) (fun _ t _ => m - (intOf t).toNat)
  case atStart => exact ⟨0, 0, 0, Nat.zero_le _, rfl, rfl, hpos, by simp, by simp [Nat.mod_one], by simpa using Buf.made _ _ _ _ _, (Below.refl _ _).alloc (Nat.le_refl _) _⟩
  case round =>
    obtain ⟨k, X, c, hk, rfl, rfl, hrel⟩ := hrel
    have hbel := hrel.2.2.2.2
    have hbuf := hrel.2.2.2.1
    have hc1 : c < 2 ^ s := hrel.1
    by_cases hlt : k < m
    · obtain ⟨gb, go, rfl, hca⟩ := hcv k hlt
      have hca' : wr.cell? ⟨gb, go + k, none⟩ = some (.int .u32 (dg 4294967296 a k : Nat)) := by
        rw [hbel.cell (p := ⟨gb, go + k, none⟩) (World.block_lt_of_cell? _ _ hca)]; exact hca
      have hcell := hbuf.cell (i := k + wh) (by omega)
      have hfr := hbuf.frozen (k + wh)
      have HR := Lib.hid hrel.next
      clear hrel hbuf hbel hca hcv
      have hda := dg_lt (B := 4294967296) (by decide) a k
      have hkl : (k : Int) < m := by omega
      generalize dg 4294967296 (0 + 4294967296 ^ wh * X) (k + wh) = dx at *
      generalize dg 4294967296 a k = d at *
      have HSD := Lib.hid (shl_digits c d s hs32 hc1 hda)
      generalize hte : c + d * 2 ^ s = t at *
      clear hte
      go_wp2
      rw [HSD.out]
      go_roundw
      case rel => exact ⟨k + 1, X + 4294967296 ^ k * (t % 4294967296), t / 4294967296, by omega, by go_num, by go_num, HR.out⟩
      case measure => simp [intOf]; omega
    · obtain rfl : k = m := by omega
      clear hlt hk
      have hcell := hbuf.cell (i := k + wh) (by omega)
      have hfr := hbuf.frozen (k + wh)
      obtain ⟨-, hX, hsum, -, -⟩ := hrel
      rw [Nat.mod_eq_of_lt HL.out] at hsum
      have hc4 : c < 4294967296 := by omega
      have hput := buf_shift hbuf hX hc4
      have hlt : 0 + 4294967296 ^ wh * (X + 4294967296 ^ k * c) < 4294967296 ^ (wh + (k + 1)) := win_lt (Nat.pow_pos (by decide)) (snoc_lt hX hc4)
      have hval : 0 + 4294967296 ^ wh * (X + 4294967296 ^ k * c) = a * 2 ^ n := by
        rw [hsum, HNW.out, Nat.pow_add, Nat.pow_mul, Nat.zero_add, Nat.mul_left_comm]
      rw [hval] at hput hlt
      rw [show wh + (k + 1) = k + wh + 1 from by omega] at hlt
      have hbel' := hbel.setCell (p := ⟨w.heap.size, k + wh, none⟩) (Nat.le_refl _) (.int .u32 c)
      have HP := Lib.hid hput; have HLT := Lib.hid hlt; have HBel := Lib.hid hbel'
      clear hsum hX hbuf hbel hput hlt hbel' hval hcv
      generalize dg 4294967296 (0 + 4294967296 ^ wh * X) (k + wh) = dx at *
      go_wp2_with fail
      refine (trim_buf _ _ _ (a * 2 ^ n) _ HP.out HLT.out (by omega) (by omega)).mono ?_
      rintro e w' ⟨rfl, rfl⟩
      go_wp2
      go_ret
      exact ⟨_, rfl, HP.out.isN hB HLT.out _, HBel.out⟩
/-- a word of two digits, shifted right -/
theorem shr_digits (x y s : Nat) (hs : s < 32) (hx : x < 4294967296) (hy : y < 4294967296) : bits BinOp.or IntKind.u64 (x : Int) ((y : Int) * 4294967296) / 2 ^ s % 4294967296 = (((x + 4294967296 * y) / 2 ^ s % 4294967296 : Nat) : Int) := by
  have e := bits_or_u64_nat x (y * 4294967296) (by omega) (by omega)
  have e2 : x ||| (y * 4294967296) = x + 4294967296 * y := by
    have := Nat.two_pow_add_eq_or_of_lt (i := 32) (b := x) hx y
    rw [Nat.or_comm, Nat.mul_comm y, show (4294967296 : Nat) = 2 ^ 32 from by decide, ← this, Nat.add_comm]
  rw [e2] at e
  have e3 : (y : Int) * 4294967296 = ((y * 4294967296 : Nat) : Int) := by simp
  rw [e3, e]
  generalize x + 4294967296 * y = t
  have := hs
  simp
theorem pow_n32 {n wh s : Nat} (h : n = 32 * wh + s) : 2 ^ n = 4294967296 ^ wh * 2 ^ s := by
  rw [h, Nat.pow_add, Nat.pow_mul]
theorem pow_dvd32 {s : Nat} (h : s ≤ 32) : 4294967296 = 2 ^ s * 2 ^ (32 - s) := by
  rw [← Nat.pow_add, show s + (32 - s) = 32 from by omega]
/-- what the loop of shiftRight keeps -/
def ShrRel (a n m : Nat) (w : World) (k : Nat) (wr : World) : Prop :=
  Buf .u32 4294967296 75 wr w.heap.size m (a / 2 ^ n % 4294967296 ^ k) ∧ Below w.heap.size w wr
set_option maxHeartbeats 1000000 in
set_option maxRecDepth 100000 in
theorem shiftRight_any (v : Value) (a n : Nat) (w : World) (hv : D w v a) (ha : nd 4294967296 a ≤ 1048576) (hn : n ≤ 9223372036854775807) :
    Calls Tryz.prog 97 #[v, .int .i64 n] w fun e w' => ∃ r, e = .returned r ∧ D w' r (a / 2 ^ n) ∧ Below w.heap.size w w' := by
  have hB : 2 ≤ 4294967296 := by decide
  obtain ⟨ao, ac, hv', -⟩ := hv.shape
  have hla := nd_lt hB a
  have HV := Lib.hid hv
  subst hv'
  clear hv
  generalize hm : nd 4294967296 a = m at *
  have HNA := Lib.hid hm
  clear hm
  obtain ⟨wh, hwh⟩ : ∃ wh, wh = n / 32 := ⟨_, rfl⟩
  obtain ⟨s, hs⟩ : ∃ s, s = n % 32 := ⟨_, rfl⟩
  have hs32 : s < 32 := by omega
  have hwl : wh ≤ 288230376151711743 := by omega
  have q1 : (n : Int) / 32 = wh := by omega
  have q2 : (n : Int) % 32 = s := by omega
  have HNW : Hid (n = 32 * wh + s) := by show _ = _; omega
  clear hwh hs
  have HL := Lib.hid hla; clear hla
  by_cases hge : m ≤ wh
  · have HZ : Hid (a / 2 ^ n = 0) := by
      show _ = _
      apply Nat.div_eq_of_lt
      rw [pow_n32 HNW.out]
      have h1 : 4294967296 ^ m ≤ 4294967296 ^ wh := Nat.pow_le_pow_right (by decide) hge
      have h2 : 4294967296 ^ wh ≤ 4294967296 ^ wh * 2 ^ s := Nat.le_mul_of_pos_right _ (Nat.pow_pos (by decide))
      have := HL.out
      omega
    go_enter Tryz.func97, Tryz.ntmps97
    go_wp2
    go_ret
    exact ⟨_, rfl, by rw [HZ.out]; exact IsN.zero _ _ _ _ _, Below.refl _ _⟩
  · obtain ⟨j, rfl⟩ : ∃ j, m = j + wh := ⟨m - wh, by omega⟩
    have hmk := made_u32 j (by omega)
    have hsub : ((j + wh : Nat) : Int) - wh = j := by omega
    have HD := Lib.hid (fun k => shr_digit (B := 4294967296) (a := a) (w := wh) (s := 2 ^ s) (i := k) (by decide) ⟨_, pow_dvd32 (by omega)⟩)
    rw [← pow_n32 HNW.out] at HD
    go_enter Tryz.func97, Tryz.ntmps97
    go_wp2
    simp only [q2]
    go_loopw [25] (fun t wr => ∃ k : Nat, k ≤ j ∧ t = .int .i64 k ∧ ShrRel a n j w k wr) (fun t _ => j - (intOf t).toNat)
    case atStart => exact ⟨0, Nat.zero_le _, rfl, by simpa [Nat.mod_one] using Buf.made _ _ _ _ _, (Below.refl _ _).alloc (Nat.le_refl _) _⟩
    case round =>
      obtain ⟨k, hk, rfl, hbuf, hbel⟩ := hrel
      by_cases hlt : k < j
      · have HA := Lib.hid (at_any _ a (k + wh) wr (HV.out.below hbel) (by rw [HNA.out]; omega))
        have HB' := Lib.hid (at_any _ a (k + wh + 1) wr (HV.out.below hbel) (by rw [HNA.out]; omega))
        have hcell := hbuf.cell (i := k) (by omega)
        have hfr := hbuf.frozen k
        have hda := dg_lt (B := 4294967296) (by decide) a (k + wh)
        have hdb := dg_lt (B := 4294967296) (by decide) a (k + wh + 1)
        have hW := shr_digits _ _ s hs32 hda hdb
        rw [← HD.out k] at hW
        have HN : Hid (ShrRel a n j w (k + 1) (wr.setCell ⟨w.heap.size, k, none⟩ (.int .u32 (dg 4294967296 (a / 2 ^ n) k : Nat)))) := by
          refine ⟨?_, hbel.setCell (Nat.le_refl _) _⟩
          rw [mod_succ]
          exact hbuf.put (by decide) (Nat.mod_lt _ (Nat.pow_pos (by decide))) (dg_lt (by decide) _ _)
        have HW := Lib.hid hW
        clear hbuf hbel hW
        have hkl : (k : Int) < j := by omega
        generalize dg 4294967296 (a / 2 ^ n) k = dn at *
        generalize dg 4294967296 (a / 2 ^ n % 4294967296 ^ k) k = dx at *
        generalize dg 4294967296 a (k + wh) = da at *
        generalize dg 4294967296 a (k + wh + 1) = db at *
        go_wp2_with fail
        refine HA.out.mono ?_
        rintro e w' ⟨rfl, rfl⟩
        go_wp2_with fail
        refine HB'.out.mono ?_
        rintro e w' ⟨rfl, rfl⟩
        go_wp2
        rw [HW.out]
        go_roundw
        case rel => exact ⟨k + 1, by omega, by go_num, HN.out⟩
        case measure => simp [intOf]; omega
      · obtain rfl : k = j := by omega
        have hlt2 : a / 2 ^ n < 4294967296 ^ k := by
          rw [pow_n32 HNW.out, ← Nat.div_div_eq_div_mul]
          refine Nat.lt_of_le_of_lt (Nat.div_le_self _ _) ?_
          rw [Nat.div_lt_iff_lt_mul (Nat.pow_pos (by decide)), ← Nat.pow_add]
          exact HL.out
        rw [Nat.mod_eq_of_lt hlt2] at hbuf
        have HBuf := Lib.hid hbuf; have HBel := Lib.hid hbel; have HX := Lib.hid hlt2
        clear hbuf hbel hlt hk hlt2
        go_wp2_with fail
        refine (trim_buf _ _ _ (a / 2 ^ n) _ HBuf.out HX.out (by omega) (by omega)).mono ?_
        rintro e w' ⟨rfl, rfl⟩
        go_wp2
        go_ret
        exact ⟨_, rfl, HBuf.out.isN hB HX.out _, HBel.out⟩
end Go.Proofs.YtfkogbomijonjaaGreatDoor
namespace Go.Proofs.YtfkogbomijonjaaGreatDoor
open Go Go.RowKit Gu

/-- one digit of a row times a digit, with a carry, as the machine makes it -/
theorem sub_t (c d f : Nat) (h1 : c < 4294967296) (h2 : d < 4294967296) (h3 : f < 4294967296) :
    IntKind.u64.wrap ((c : Int) + IntKind.u64.wrap ((d : Int) * f)) = ((c + d * f : Nat) : Int) ∧ c + d * f < 18446744073709551616 := by
  have h : d * f ≤ 4294967295 * 4294967295 := Nat.mul_le_mul (by omega) (by omega)
  refine ⟨?_, by omega⟩
  simp only [wrap_u64]
  rw [show ((d : Int) * f) = ((d * f : Nat) : Int) by simp]
  generalize d * f = p at *
  omega
/-- what the loop of subtractRow keeps -/
def SubRel (g M o n L W H r f : Nat) (w : World) (k X c br : Nat) (wr : World) : Prop :=
  c < 4294967296 ∧ br ≤ 1 ∧ X < 4294967296 ^ k ∧ X + f * (r % 4294967296 ^ k) = W % 4294967296 ^ k + 4294967296 ^ k * c + 4294967296 ^ k * br ∧
  Buf .u32 4294967296 75 wr g M (L + 4294967296 ^ o * (X + 4294967296 ^ k * (W / 4294967296 ^ k + 4294967296 ^ (n - k) * H))) ∧ w.grownBy wr (some g)
theorem SubRel.next {g M o n L W H r f : Nat} {w : World} {k X c br t d br' : Nat} {wr : World} (h : SubRel g M o n L W H r f w k X c br wr) (hL : L < 4294967296 ^ o) (hk : k < n) (_hf : f < 4294967296)
    (ht : t = c + dg 4294967296 r k * f) (htl : t < 18446744073709551616) (hd : d + t % 4294967296 + br = dg 4294967296 W k + 4294967296 * br') (hd1 : d < 4294967296) (hbr : br' ≤ 1) :
    SubRel g M o n L W H r f w (k + 1) (X + 4294967296 ^ k * d) (t / 4294967296) br' (wr.setCell ⟨g, o + k, none⟩ (.int .u32 (d : Nat))) := by
  obtain ⟨h1, h2, h3, h4, h5, h6⟩ := h
  have hdw := dg_lt (B := 4294967296) (by decide) W k
  have e : t % 4294967296 + 4294967296 * (t / 4294967296) = c + dg 4294967296 r k * f := by rw [← ht]; exact Nat.mod_add_div _ _
  rw [win_split hk] at h5
  refine ⟨by omega, hbr, snoc_lt h3 hd1, subrow_round h4 e hd, ?_, grownBy_trans h6 (grownBy_setCell _ _ _ _)⟩
  rw [← win_join hk]
  exact Buf.set h5 (by decide) (win_lt hL h3) hdw hd1
set_option maxHeartbeats 1000000 in
theorem subtractRow_any (g M o n cap L W H r f : Nat) (v : Value) (w : World) (hb : Buf .u32 4294967296 75 w g M (L + 4294967296 ^ o * (W + 4294967296 ^ n * H))) (hL : L < 4294967296 ^ o) (hW : W < 4294967296 ^ n) (hM : o + n ≤ M) (hn : n ≤ 1048576)
    (hr : D w v r) (hrn : nd 4294967296 r = n) (hne : ∀ b o c l, v = .slice (some ⟨b, o, none⟩) l c → 0 < r → b ≠ g) (hf : f < 4294967296) :
    Calls Tryz.prog 104 #[.slice (some ⟨g, o, none⟩) n cap, v, .int .u32 f] w fun e w' => ∃ X c : Nat, e = .returned (.int .u32 c) ∧ c < 4294967296 ∧ X < 4294967296 ^ n ∧ X + f * r = W + 4294967296 ^ n * c ∧
      Buf .u32 4294967296 75 w' g M (L + 4294967296 ^ o * (X + 4294967296 ^ n * H)) ∧ w.grownBy w' (some g) := by
  have hB : 2 ≤ 4294967296 := by decide
  have hstart : SubRel g M o n L W H r f w 0 0 0 0 w := ⟨by decide, by decide, by simp, by simp [Nat.mod_one], by simpa using hb, grownBy_refl _ _⟩
  have hrlt : r < 4294967296 ^ n := by rw [← hrn]; exact nd_lt hB r
  have HE : Hid (∀ X c br wr, SubRel g M o n L W H r f w n X c br wr → c + br < 4294967296 ∧ X < 4294967296 ^ n ∧ X + f * r = W + 4294967296 ^ n * (c + br) ∧ Buf .u32 4294967296 75 wr g M (L + 4294967296 ^ o * (X + 4294967296 ^ n * H)) ∧ w.grownBy wr (some g)) := by
    rintro X c br wr ⟨-, -, h2, h3, h4, h5⟩
    rw [Nat.mod_eq_of_lt hW, Nat.mod_eq_of_lt hrlt] at h3
    rw [Nat.div_eq_of_lt hW, Nat.sub_self, Nat.pow_zero, Nat.one_mul, Nat.zero_add] at h4
    have e : X + f * r = W + 4294967296 ^ n * (c + br) := by rw [Nat.mul_add]; omega
    refine ⟨?_, h2, e, h4, h5⟩
    have h6 : f * r ≤ 4294967295 * 4294967296 ^ n := Nat.mul_le_mul (by omega) (by omega)
    have h7 : 4294967296 ^ n * (c + br) < 4294967296 ^ n * 4294967296 := by
      rw [Nat.mul_comm _ 4294967296]
      generalize 4294967296 ^ n * (c + br) = z at *
      generalize f * r = y at *
      generalize (4294967296 : Nat) ^ n = p at *
      omega
    exact Nat.lt_of_mul_lt_mul_left h7
  have HR := Lib.hid hr
  have HNE := Lib.hid hne
  have hr0 : 0 < n → 0 < r := by
    intro h
    rcases Nat.eq_zero_or_pos r with h' | h'
    · subst h'; rw [nd_zero] at hrn; omega
    · exact h'
  obtain ⟨ao, ac, rfl, hcv⟩ := hr.shape
  rw [hrn] at hcv HR HNE ⊢
  have HS := Lib.hid hstart
  have HL := Lib.hid hL
  clear hb hW hr hne hstart hrlt hL hrn
  go_enter Tryz.func104, Tryz.ntmps104
  go_wp2
  go_loopw [7, 8, 13] (fun c b t wr => ∃ k X cc br : Nat, k ≤ n ∧ t = .int .i64 k ∧ c = .int .u64 cc ∧ b = .int .u64 br ∧ SubRel g M o n L W H r f w k X cc br wr) (fun _ _ t _ => n - (intOf t).toNat)
  case atStart => exact ⟨0, 0, 0, 0, Nat.zero_le _, rfl, rfl, rfl, HS.out⟩
  case round =>
    obtain ⟨k, X, c, br, hk, rfl, rfl, rfl, hrel⟩ := hrel
    have hc1 := hrel.1
    have hbr := hrel.2.1
    by_cases hlt : k < n
    · have HRR := Lib.hid hrel
      obtain ⟨-, -, h2, -, h4, h5⟩ := hrel
      rw [win_split hlt] at h4
      have hcell := h4.cell (i := o + k) (by omega)
      have hfr := h4.frozen (o + k)
      rw [dg_mid (by decide) (win_lt HL.out h2) (dg_lt (by decide) _ _), if_neg (Nat.lt_irrefl _), if_pos rfl] at hcell
      obtain ⟨gb, go, rfl, hca⟩ := hcv k hlt
      have hca' : wr.cell? ⟨gb, go + k, none⟩ = some (.int .u32 (dg 4294967296 r k : Nat)) := h5.cell hca (by
        simp only [Option.some.injEq, ne_eq]
        refine HNE.out gb go ac n rfl ?_
        exact hr0 (by omega))
      clear h2 h4 h5 hca hcv
      have hdr := dg_lt (B := 4294967296) (by decide) r k
      have hdw := dg_lt (B := 4294967296) (by decide) W k
      have hkl : (k : Int) < n := by omega
      have htl := (sub_t c _ f hc1 hdr hf).2
      have HNX := Lib.hid (fun d br' e3 e4 e5 => HRR.out.next (t := c + dg 4294967296 r k * f) (d := d) (br' := br') HL.out hlt hf rfl htl e3 e4 e5)
      have hte : (c : Int) + (dg 4294967296 r k : Int) * f = ((c + dg 4294967296 r k * f : Nat) : Int) := by simp
      have HTE := Lib.hid hte
      clear hte HRR
      generalize dg 4294967296 r k = dr at *
      generalize dg 4294967296 W k = dw at *
      go_wp2
      rw [HTE.out]
      generalize c + dr * f = t at *
      rw [and_low32 _ (by omega) (by omega), show (t : Int) % 4294967296 = ((t % 4294967296 : Nat) : Int) from by omega]
      obtain ⟨d, br', e1, e2, e3, e4, e5⟩ := sub_digits dw (t % 4294967296) br hdw (Nat.mod_lt _ (by decide)) hbr
      rw [e1, e2]
      have HN := HNX.out d br' e3 e4 e5
      clear HNX HTE
      go_roundw
      case rel => exact ⟨k + 1, _, t / 4294967296, br', by omega, by go_num, by go_num, rfl, HN⟩
      case measure => simp [intOf]; omega
    · obtain rfl : k = n := by omega
      have HF := HE.out X c br wr hrel
      have hcb := HF.1
      have HF2 := Lib.hid HF.2
      clear hrel hcv hlt hk HF
      go_wp2
      go_ret
      exact ⟨X, c + br, by first | rfl | (congr 2; omega), hcb, HF2.out⟩
end Go.Proofs.YtfkogbomijonjaaGreatDoor
namespace Go.Proofs.YtfkogbomijonjaaGreatDoor
open Go Go.RowKit Gu

/-- what the loop of estimate keeps -/
def EstRel (f s high next : Nat) (g r : Nat) : Prop := g * f + r = high ∧ est 4294967296 (high * 4294967296 + next) (f * 4294967296 + s) ≤ g ∧ r < 4294967296
theorem est_or (h n : Nat) (hh : h < 4294967296) (hn : n < 4294967296) : bits BinOp.or IntKind.u64 ((h : Int) * 4294967296) n = ((h * 4294967296 + n : Nat) : Int) := or_digits h n hh hn
set_option maxHeartbeats 1000000 in
theorem estimate_any (g o n cap bb bo bc w1 w0 x f s : Nat) (w : World) (hn : 2 ≤ n) (hn2 : n ≤ 1048576)
    (c1 : w.cell? ⟨g, o + n, none⟩ = some (.int .u32 w1)) (c2 : w.cell? ⟨g, o + (n - 1), none⟩ = some (.int .u32 w0)) (c3 : w.cell? ⟨g, o + (n - 2), none⟩ = some (.int .u32 x))
    (d1 : w.cell? ⟨bb, bo + (n - 1), none⟩ = some (.int .u32 f)) (d2 : w.cell? ⟨bb, bo + (n - 2), none⟩ = some (.int .u32 s))
    (hf : 0 < f) (hf2 : f < 4294967296) (hs : s < 4294967296) (h1 : w1 ≤ f) (h0 : w0 < 4294967296) (hx : x < 4294967296) :
    Calls Tryz.prog 103 #[.slice (some ⟨g, o, none⟩) (n + 1) cap, .slice (some ⟨bb, bo, none⟩) n bc] w fun e w' => e = .returned (.int .u32 (est 4294967296 ((w1 * 4294967296 + w0) * 4294967296 + x) (f * 4294967296 + s) : Nat)) ∧ ∃ q, w' = w.drewN q := by
  have hor := est_or w1 w0 (by omega) h0
  have hhigh : w1 * 4294967296 + w0 < 18446744073709551616 := by omega
  obtain ⟨high, hh⟩ : ∃ high, high = w1 * 4294967296 + w0 := ⟨_, rfl⟩
  have HH := Lib.hid hh
  have HEQ : Hid (∀ q r, q * f + r = high → 4294967296 ≤ r → est 4294967296 (high * 4294967296 + x) (f * 4294967296 + s) ≤ q → q = est 4294967296 (high * 4294967296 + x) (f * 4294967296 + s)) :=
    fun q r h1' h2' h3' => est_stop hf (by decide) hs hh h1 h0 h1' h2' h3'
  rw [← hh] at hor hhigh ⊢
  have HOR := Lib.hid hor
  clear hor hh
  have hn1 : ((n : Int) - 1) = ((n - 1 : Nat) : Int) := by omega
  have hn3 : ((n : Int) - 2) = ((n - 2 : Nat) : Int) := by omega
  have HST : Hid (EstRel f s high x (high / f) (high % f)) := ⟨by rw [Nat.mul_comm]; exact Nat.div_add_mod _ _, est_first hf (by decide) hx, Nat.lt_trans (Nat.mod_lt _ hf) hf2⟩
  go_enter Tryz.func103, Tryz.ntmps103
  go_wp2
  go_step3
  go_wp2
  go_quiet (fail)
  go_wp2
  go_quiet (fail)
  rw [HOR.out]
  go_wp2
  have hf0 : ¬ (f : Int) = 0 := by omega
  clear c1 c2 c3 d1 d2 HOR hn1 hn3
  go_quiet (fail)
  go_wp2
  go_step3
  go_wp2
  simp only [World.drewN_drewN]
  rw [show (high : Int) / f = ((high / f : Nat) : Int) from by simp, show (high : Int) % f = ((high % f : Nat) : Int) from by simp]
  have hg0 : high / f < 18446744073709551616 := Nat.lt_of_le_of_lt (Nat.div_le_self _ _) hhigh
  have hw0 : IntKind.u64.wrap ((high / f : Nat) : Int) = ((high / f : Nat) : Int) := by
    generalize high / f = z at *
    rw [wrap_u64]; omega
  rw [hw0]
  clear hw0
  generalize high / f = g0 at *
  generalize high % f = r0 at *
  go_loopg [10, 11] g0 (fun m gs rs wr => ∃ r : Nat, gs = .int .u64 m ∧ rs = .int .u64 r ∧ EstRel f s high x m r ∧ ∃ q, wr = w.drewN q)
  case atStart => exact ⟨r0, rfl, rfl, HST.out, _, rfl⟩
  case round =>
    obtain ⟨r, rfl, rfl, ⟨e1, e2, e3⟩, q, rfl⟩ := hrel
    have E1 := Lib.hid e1; have E2 := Lib.hid e2
    have hgk : gk < 18446744073709551616 := by
      have : gk ≤ gk * f := Nat.le_mul_of_pos_right _ hf
      omega
    clear e1 e2
    have hor2 := or_digits r x e3 hx
    have HOR2 := Lib.hid hor2
    clear hor2
    have HDN : Hid (4294967296 ≤ gk ∨ r * 4294967296 + x < gk * s → est 4294967296 (high * 4294967296 + x) (f * 4294967296 + s) ≤ gk - 1 ∧ 0 < gk) := fun h => est_down (by decide) E1.out h E2.out
    have HE1 : Hid (0 < gk → (gk - 1) * f + (r + f) = high) := fun h => by
      have := E1.out
      obtain ⟨j, rfl⟩ : ∃ j, gk = j + 1 := ⟨gk - 1, by omega⟩
      rw [Nat.add_mul, Nat.one_mul] at this
      rw [Nat.add_sub_cancel]; omega
    by_cases hbig : 4294967295 < gk
    · have hbig' : (4294967295 : Int) < gk := by omega
      have hd := HDN.out (.inl (by omega))
      have HQ := Lib.hid (HE1.out hd.2)
      have HD := Lib.hid hd.1
      clear hd HDN HE1 HOR2
      by_cases hr : 4294967295 < r + f
      · have hr' : (4294967295 : Int) < r + f := by omega
        have HX := Lib.hid (HEQ.out _ _ HQ.out (by omega) HD.out)
        have hlt : gk - 1 < 4294967296 := by
          rw [HX.out]; exact Nat.lt_of_le_of_lt (Nat.min_le_left _ _) (by decide)
        go_wp2
        try rw [Exit.noGoto_ret]
        go_ret
        exact ⟨ret_int' (by rw [← HX.out]; omega), q, rfl⟩
      · have hr' : ¬ (4294967295 : Int) < r + f := by omega
        go_wp2
        go_roundg (gk - 1)
        case measure => omega
        case rel => exact ⟨r + f, by go_num, by go_num, ⟨HQ.out, HD.out, by omega⟩, q, rfl⟩
    · have hgs : gk * s ≤ 4294967295 * 4294967295 := Nat.mul_le_mul (by omega) (by omega)
      have hgs2 : gk * s < 18446744073709551616 := by omega
      have hsm : ¬ (4294967295 : Int) < gk := by omega
      have hpe : (gk : Int) * s = ((gk * s : Nat) : Int) := by simp
      by_cases hp : r * 4294967296 + x < gk * s
      · have hd := HDN.out (.inr hp)
        have HQ := Lib.hid (HE1.out hd.2)
        have HD := Lib.hid hd.1
        have hgk0 := hd.2
        clear hd HDN HE1
        have hcmp : bits BinOp.or IntKind.u64 ((r : Int) * 4294967296) x < (gk : Int) * s := by rw [HOR2.out]; omega
        clear hpe
        by_cases hr : 4294967295 < r + f
        · have hr' : (4294967295 : Int) < r + f := by omega
          have HX := Lib.hid (HEQ.out _ _ HQ.out (by omega) HD.out)
          have hlt : gk - 1 < 4294967296 := by omega
          go_wp2
          try rw [Exit.noGoto_ret]
          go_ret
          exact ⟨ret_int' (by rw [← HX.out]; omega), q, rfl⟩
        · have hr' : ¬ (4294967295 : Int) < r + f := by omega
          go_wp2
          go_roundg (gk - 1)
          case measure => omega
          case rel => exact ⟨r + f, by go_num, by go_num, ⟨HQ.out, HD.out, by omega⟩, q, rfl⟩
      · have hcmp : ¬ bits BinOp.or IntKind.u64 ((r : Int) * 4294967296) x < (gk : Int) * s := by rw [HOR2.out]; omega
        have HX := Lib.hid (est_found (B := 4294967296) (s := s) hf (by decide) E1.out (by omega) (by omega) E2.out)
        have hlt : gk < 4294967296 := by omega
        clear hpe HDN HE1
        go_wp2
        try rw [Exit.noGoto_ret]
        go_ret
        exact ⟨ret_int' (by rw [← HX.out]), q, rfl⟩
end Go.Proofs.YtfkogbomijonjaaGreatDoor
namespace Go.Proofs.YtfkogbomijonjaaGreatDoor
open Go Go.RowKit Gu

/-- the two highest digits of a number, and what is below -/
theorem top_two {B d n : Nat} (hn : 2 ≤ n) (hd : d < B ^ n) : d / B ^ (n - 2) = dg B d (n - 1) * B + dg B d (n - 2) := by
  have e1 := div_succ B d (n - 2)
  rw [show n - 2 + 1 = n - 1 from by omega] at e1
  have e2 := div_succ B d (n - 1)
  rw [show n - 1 + 1 = n from by omega, Nat.div_eq_of_lt hd, Nat.mul_zero, Nat.add_zero] at e2
  rw [e1, e2, Nat.mul_comm B]; omega
/-- the three highest digits of a window -/
theorem top_three {B W n : Nat} (hn : 2 ≤ n) : W / B ^ (n - 2) = (W / B ^ n * B + dg B W (n - 1)) * B + dg B W (n - 2) := by
  have e1 := div_succ B W (n - 2)
  rw [show n - 2 + 1 = n - 1 from by omega] at e1
  have e2 := div_succ B W (n - 1)
  rw [show n - 1 + 1 = n from by omega] at e2
  rw [e1, e2, Nat.mul_comm B (dg B W (n - 1) + B * (W / B ^ n)), Nat.mul_comm B (W / B ^ n), Nat.add_comm (dg B W (n - 1))]; omega
/-- the estimate is the quotient, or one more -/
theorem win_est {B W d n : Nat} (hB : 1 < B) (hn : 2 ≤ n) (hd : d < B ^ n) (ht : 0 < dg B d (n - 1)) (hW : W < d * B) :
    ∃ e, e = est B ((W / B ^ n * B + dg B W (n - 1)) * B + dg B W (n - 2)) (dg B d (n - 1) * B + dg B d (n - 2)) ∧ (e = W / d ∨ e = W / d + 1) := by
  have hP : 0 < B ^ (n - 2) := Nat.pow_pos (by omega)
  have hv : B ≤ dg B d (n - 1) * B + dg B d (n - 2) := by
    have : B ≤ dg B d (n - 1) * B := Nat.le_mul_of_pos_left _ ht
    omega
  have eW : W = B ^ (n - 2) * ((W / B ^ n * B + dg B W (n - 1)) * B + dg B W (n - 2)) + W % B ^ (n - 2) := by
    rw [← top_three hn]; exact (Nat.div_add_mod _ _).symm
  have ed : d = B ^ (n - 2) * (dg B d (n - 1) * B + dg B d (n - 2)) + d % B ^ (n - 2) := by
    rw [← top_two hn hd]; exact (Nat.div_add_mod _ _).symm
  have h1 := Nat.mod_lt W hP
  have h2 := Nat.mod_lt d hP
  generalize (W / B ^ n * B + dg B W (n - 1)) * B + dg B W (n - 2) = u at *
  generalize dg B d (n - 1) * B + dg B d (n - 2) = v at *
  generalize W % B ^ (n - 2) = wl at *
  generalize d % B ^ (n - 2) = dl at *
  generalize B ^ (n - 2) = P at *
  have hlt : P * u + wl < (P * v + dl) * B := by rw [← eW, ← ed]; exact hW
  have hq : W / d = (P * u + wl) / (P * v + dl) := by rw [← eW, ← ed]
  have g1 := est_ge (by omega) (by omega) h1 hlt hq
  have g2 := est_le hP hv (by omega) h2 hlt hq
  exact ⟨_, rfl, by omega⟩
theorem win_top {B W d n : Nat} (hB : 0 < B) (hn : 1 ≤ n) (hd : d < B ^ n) (hW : W < d * B) : W / B ^ n ≤ dg B d (n - 1) := by
  have e2 := div_succ B d (n - 1)
  rw [show n - 1 + 1 = n from by omega, Nat.div_eq_of_lt hd, Nat.mul_zero, Nat.add_zero] at e2
  rw [← e2]
  have h : W / B ^ n ≤ d * B / B ^ n := Nat.div_le_div_right (Nat.le_of_lt hW)
  have e3 : d * B / B ^ n = d / B ^ (n - 1) := by
    have : B ^ n = B ^ (n - 1 + 1) := by rw [show n - 1 + 1 = n from by omega]
    rw [this, Nat.pow_succ, Nat.mul_div_mul_right _ _ hB]
  rw [e3] at h
  exact h
/-- the cells of a window -/
theorem buf_win {g M o n L W H i : Nat} {T : TypeId} {w : World} (h : Buf .u32 4294967296 T w g M (L + 4294967296 ^ o * (W + 4294967296 ^ (n + 1) * H))) (hL : L < 4294967296 ^ o) (hM : o + n + 1 ≤ M) (hi : i < n + 1) :
    w.cell? ⟨g, o + i, none⟩ = some (.int .u32 (dg 4294967296 W i : Nat)) := by
  rw [h.cell (by omega), dg_up (by decide) hL, dg_low (by decide) hi]
theorem dg_topw {B W n : Nat} (hW : W < B ^ (n + 1)) : dg B W n = W / B ^ n := by
  have e := div_succ B W n
  rw [Nat.div_eq_of_lt hW, Nat.mul_zero, Nat.add_zero] at e
  exact e.symm
theorem win_shape {B L W H o n : Nat} : L + B ^ o * (W + B ^ (n + 1) * H) = L + B ^ o * (W % B ^ n + B ^ n * (W / B ^ n + B * H)) := by
  have e : W + B ^ (n + 1) * H = W % B ^ n + B ^ n * (W / B ^ n + B * H) := by
    have := Nat.mod_add_div W (B ^ n)
    rw [Nat.mul_add, Nat.pow_succ, Nat.mul_assoc]
    omega
  rw [e]
theorem buf_top {g M o n L X wn H : Nat} {T : TypeId} {w : World} (h : Buf .u32 4294967296 T w g M (L + 4294967296 ^ o * (X + 4294967296 ^ n * (wn + 4294967296 * H)))) (hL : L < 4294967296 ^ o) (hX : X < 4294967296 ^ n) (hw : wn < 4294967296) (hM : o + n + 1 ≤ M) :
    w.cell? ⟨g, o + n, none⟩ = some (.int .u32 (wn : Nat)) := by
  rw [h.cell (by omega), dg_up (by decide) hL]
  have := dg_up (B := 4294967296) (i := 0) (y := wn + 4294967296 * H) (by decide) hX
  rw [Nat.add_zero] at this
  rw [this]; simp [dg, Nat.add_mul_mod_self_left, Nat.mod_eq_of_lt hw]
set_option maxHeartbeats 2000000 in
set_option maxRecDepth 100000 in
theorem divideWindow_any (g M o n cap L W H d : Nat) (v : Value) (w : World) (hb : Buf .u32 4294967296 75 w g M (L + 4294967296 ^ o * (W + 4294967296 ^ (n + 1) * H))) (hL : L < 4294967296 ^ o) (hW : W < d * 4294967296) (hM : o + n + 1 ≤ M) (hn2 : 2 ≤ n) (hn : n ≤ 1048576) (hcap : n + 1 ≤ cap)
    (hr : D w v d) (hrn : nd 4294967296 d = n) (hne : ∀ b o c l, v = .slice (some ⟨b, o, none⟩) l c → 0 < d → b ≠ g) :
    Calls Tryz.prog 96 #[.slice (some ⟨g, o, none⟩) (n + 1) cap, v] w fun e w' => e = .returned (.int .u32 (W / d : Nat)) ∧ W / d < 4294967296 ∧
      Buf .u32 4294967296 75 w' g M (L + 4294967296 ^ o * (W % d + 4294967296 ^ n * (W / 4294967296 ^ n + 4294967296 * H))) ∧ w.grownBy w' (some g) := by
  have hB : 2 ≤ 4294967296 := by decide
  have hd0 : 0 < d := by omega
  have hdn : d < 4294967296 ^ n := by rw [← hrn]; exact nd_lt hB d
  have htop : 0 < dg 4294967296 d (n - 1) := by rw [← hrn]; exact dg_top hB hd0
  obtain ⟨E, hE, hEq⟩ := win_est (B := 4294967296) (by decide) hn2 hdn htop hW
  have hq : W / d < 4294967296 := by rw [Nat.div_lt_iff_lt_mul hd0, Nat.mul_comm]; exact hW
  have hWn : W < 4294967296 ^ (n + 1) := by
    rw [Nat.pow_succ]
    exact Nat.lt_of_lt_of_le hW (Nat.mul_le_mul_right _ (Nat.le_of_lt hdn))
  have htw := win_top (B := 4294967296) (by decide) (by omega) hdn hW
  have hdtl := dg_lt (B := 4294967296) (by decide) d (n - 1)
  have hE1 : E < 4294967296 := by rw [hE]; exact Nat.lt_of_le_of_lt (Nat.min_le_left _ _) (by decide)
  have c1 := buf_win hb hL hM (i := n) (by omega)
  rw [dg_topw hWn] at c1
  have c2 := buf_win hb hL hM (i := n - 1) (by omega)
  have c3 := buf_win hb hL hM (i := n - 2) (by omega)
  obtain ⟨ao, ac, rfl, hcv⟩ := hr.shape
  rw [hrn] at hcv hr hne ⊢
  obtain ⟨bb, bo, rfl, d1⟩ := hcv (n - 1) (by omega)
  obtain ⟨bb', bo', hbb, d2⟩ := hcv (n - 2) (by omega)
  simp only [Option.some.injEq, Addr.mk.injEq, and_true] at hbb
  obtain ⟨rfl, rfl⟩ := hbb
  have HEST := Lib.hid (fun q => estimate_any g o n cap bb bo ac _ _ _ _ _ (w.drewN q) hn2 hn c1 c2 c3 d1 d2 htop hdtl (dg_lt (by decide) _ _) htw (dg_lt (by decide) _ _) (dg_lt (by decide) _ _))
  rw [← hE] at HEST
  rw [win_shape] at hb
  have hwn : W / 4294967296 ^ n < 4294967296 := by omega
  have hWl : W % 4294967296 ^ n < 4294967296 ^ n := Nat.mod_lt _ (Nat.pow_pos (by decide))
  have HWD : Hid (W = W % 4294967296 ^ n + 4294967296 ^ n * (W / 4294967296 ^ n)) := (Nat.mod_add_div _ _).symm
  have HEQ := Lib.hid hEq
  have HDN := Lib.hid hdn
  have HNE := Lib.hid hne
  have HR := Lib.hid hr
  have HQ := Lib.hid hq
  have hnd : nd 4294967296 d = n := hrn
  have HND := Lib.hid hnd
  have HSUB := Lib.hid (fun q => subtractRow_any g M o n n L (W % 4294967296 ^ n) (W / 4294967296 ^ n + 4294967296 * H) d E (.slice (some ⟨bb, bo, none⟩) n ac) (w.drewN q).drew hb hL hWl (by omega) hn ((IsN.drewN hr q).below (Below.refl _ _).drew) hnd hne hE1)
  have HTOP := Lib.hid (fun W1 X (h : Buf .u32 4294967296 75 W1 g M (L + 4294967296 ^ o * (X + 4294967296 ^ n * (W / 4294967296 ^ n + 4294967296 * H)))) (h2 : X < 4294967296 ^ n) => buf_top h hL h2 hwn (by omega))
  have HDG := Lib.hid (fun q W1 (h : (w.drewN q).drew.grownBy W1 (some g)) => IsN.grown (IsN.below (IsN.drewN hr q) (Below.refl _ _).drew) h (fun b o c l he h0 => hne b o c l he h0))
  have HADD := Lib.hid (fun X W1 (h1 : Buf .u32 4294967296 75 W1 g M (L + 4294967296 ^ o * (X + 4294967296 ^ n * (W / 4294967296 ^ n + 4294967296 * H)))) (h2 : X < 4294967296 ^ n) (h3 : D W1 (.slice (some ⟨bb, bo, none⟩) n ac) d) => addRow_any g M o n n L X (W / 4294967296 ^ n + 4294967296 * H) d 1 (.slice (some ⟨bb, bo, none⟩) n ac) W1 h1 hL h2 (by omega) hn h3 hnd hne (by decide))
  clear hb hWl hE hEq hdn htop hW hWn htw hdtl c2 c3 d1 d2 hcv hr hne hrn hq hnd hL
  have HDP := Lib.hid hd0
  clear hd0
  generalize W / 4294967296 ^ n = wn at *
  generalize W % 4294967296 ^ n = Wl at *
  go_enter Tryz.func96, Tryz.ntmps96
  go_wp2
  go_quiet ((go_at_call 103; exact Calls.quiet_of (HEST.out _)))
  go_wp2
  have c1' : (w.drewN nq).drew.cell? ⟨g, o + n, none⟩ = some (.int .u32 (wn : Nat)) := c1
  have HS1 := Lib.hid (HSUB.out nq)
  have hi1 : (0 : Int) ≤ n := by omega
  have hi2 : (n : Int) < ((n + 1 : Nat) : Int) := by omega
  have hi3 : (n : Int) < (n : Int) + 1 := by omega
  clear HSUB c1
  go_region_held3 (fun W : World => W.cell? ⟨g, o + n, none⟩ = some (.int .u32 (wn : Nat))) (assumption) (first | (go_at_call 104; refine HS1.out.mono ?_; rintro e w' ⟨X, c, rfl, hc, hX, hsum, hbf, hgr⟩; have hc2 := HTOP.out _ _ hbf hX))
  have HG1 : Hid (w.grownBy w' (some g)) := grownBy_trans (grownBy_drewN (grownBy_drewN (grownBy_refl _ _) nq) 1) hgr
  by_cases hcw : wn < c
  · have hE0 : 0 < E := by
      rcases Nat.eq_zero_or_pos E with h | h
      · subst h
        have h1 : 4294967296 ^ n * 1 ≤ 4294967296 ^ n * c := Nat.mul_le_mul_left _ (by omega)
        omega
      · exact h
    have HA := Lib.hid (HADD.out X w' hbf hX (HDG.out nq w' hgr))
    have HB1 : Hid (∀ Y k, Y < 4294967296 ^ n → Y + 4294967296 ^ n * k = X + 1 * d → E = W / d + 1 ∧ Y = W % d) := fun Y k hY hback => window_back hX HDN.out HWD.out hsum HEQ.out HDP.out hcw hY hback
    clear hsum hbf hgr hX hc2 HADD HS1
    go_wp2_with fail
    refine HA.out.mono ?_
    rintro e w2 ⟨Y, k, rfl, hk, hY, hback, hbf2, hgr2⟩
    have HB2 := Lib.hid (HB1.out Y k hY hback)
    have HBF := Lib.hid hbf2
    have HG2 := Lib.hid (grownBy_trans HG1.out hgr2)
    clear hback hbf2 hgr2 hY
    go_wp2
    go_ret
    exact ⟨ret_int' (by have := HB2.out.1; omega), HQ.out, by rw [← HB2.out.2]; exact HBF.out, HG2.out⟩
  · have HB2 := Lib.hid (window_ok HDN.out HWD.out hsum HEQ.out HDP.out (by omega))
    have HBF := Lib.hid hbf
    clear hsum hbf hgr hX hc2 HADD HS1
    go_wp2
    go_ret
    exact ⟨ret_int' (by have := HB2.out.1; omega), HQ.out, by rw [← HB2.out.2]; exact HBF.out, HG1.out⟩
end Go.Proofs.YtfkogbomijonjaaGreatDoor
namespace Go.Proofs.YtfkogbomijonjaaGreatDoor
open Go Go.RowKit Gu

/-- a number's digits copied over a row of zeros -/
theorem copy_row {cur : List Value} {m x : Nat} (hz : ∀ i, i < m → cur[i]? = some (.int .u32 0)) (hx : x < 4294967296 ^ m) (i : Nat) (hi : i < m) :
    ((splice cur 0 ((pad 4294967296 (nd 4294967296 x) x).map fun d : Nat => Value.int .u32 (d : Int))).toArray)[i]? = some (.int .u32 (dg 4294967296 x i : Nat)) := by
  have hnd : nd 4294967296 x ≤ m := (nd_le (by decide)).2 hx
  have hl : ((pad 4294967296 (nd 4294967296 x) x).map fun d : Nat => Value.int .u32 (d : Int)).length = nd 4294967296 x := by simp [pad]
  simp only [splice, List.take_zero, List.nil_append, List.getElem?_toArray]
  by_cases h : i < nd 4294967296 x
  · rw [List.getElem?_append_left (by rw [hl]; exact h)]
    simp [pad, h]
  · rw [List.getElem?_append_right (by rw [hl]; omega), hl, List.getElem?_drop, show 0 + nd 4294967296 x + (i - nd 4294967296 x) = i from by omega, hz i hi]
    rw [dg_high (by decide) (nd_lt (by decide) x) (by omega)]
    rfl
theorem lz_pow {t : Nat} (h0 : 0 < t) (h : t < 4294967296) : Go.Lib.bitLen t ≤ 32 ∧ 0 < Go.Lib.bitLen t ∧ t * 2 ^ (32 - Go.Lib.bitLen t) < 4294967296 := by
  have h1 : Go.Lib.bitLen t ≤ 32 := Go.Lib.bitLen_le t 32 (by decide) (by simpa using h)
  have h2 : t < 2 ^ Go.Lib.bitLen t := (Go.Lib.bitLenAux_bounds 64 t (by omega) (by omega)).2.2
  refine ⟨h1, ?_, ?_⟩
  · rcases Nat.eq_zero_or_pos (Go.Lib.bitLen t) with h' | h'
    · rw [h'] at h2; simp at h2; omega
    · exact h'
  · have h3 : t * 2 ^ (32 - Go.Lib.bitLen t) < 2 ^ Go.Lib.bitLen t * 2 ^ (32 - Go.Lib.bitLen t) := Nat.mul_lt_mul_of_pos_right h2 (Nat.pow_pos (by decide))
    rw [← Nat.pow_add, show Go.Lib.bitLen t + (32 - Go.Lib.bitLen t) = 32 from by omega] at h3
    simpa using h3
/-- the divisor, shifted, has as many digits -/
theorem shl_nd {b s n : Nat} (hn : nd 4294967296 b = n) (hn2 : 2 ≤ n) (hs : dg 4294967296 b (n - 1) * 2 ^ s < 4294967296) (hs32 : s ≤ 32) : nd 4294967296 (b * 2 ^ s) = n := by
  have hB : 2 ≤ 4294967296 := by decide
  have hp : 0 < 2 ^ s := Nat.pow_pos (by decide)
  have h1 := nd_lt hB b
  rw [hn] at h1
  have hle : nd 4294967296 b ≤ nd 4294967296 (b * 2 ^ s) := nd_mono hB (Nat.le_mul_of_pos_right _ hp)
  have hge : nd 4294967296 (b * 2 ^ s) ≤ n := by
    apply (nd_le hB).2
    have e1 := div_succ 4294967296 b (n - 1)
    rw [show n - 1 + 1 = n from by omega, Nat.div_eq_of_lt h1, Nat.mul_zero, Nat.add_zero] at e1
    rw [← e1] at hs
    have e2 : b < (b / 4294967296 ^ (n - 1) + 1) * 4294967296 ^ (n - 1) := by
      have := Nat.lt_div_mul_add (Nat.pow_pos (n := n - 1) (by decide : 0 < 4294967296)) (a := b)
      rw [Nat.add_mul, Nat.one_mul]; exact this
    have e3 : b * 2 ^ s < ((b / 4294967296 ^ (n - 1) + 1) * 4294967296 ^ (n - 1)) * 2 ^ s := Nat.mul_lt_mul_of_pos_right e2 hp
    have e4 : (b / 4294967296 ^ (n - 1) + 1) * 2 ^ s ≤ 4294967296 := by
      have e6 := pow_dvd32 hs32
      have e7 : b / 4294967296 ^ (n - 1) * 2 ^ s < 2 ^ (32 - s) * 2 ^ s := by rw [Nat.mul_comm (2 ^ (32 - s)), ← e6]; exact hs
      have e8 := Nat.lt_of_mul_lt_mul_right e7
      have e9 : (b / 4294967296 ^ (n - 1) + 1) * 2 ^ s ≤ 2 ^ (32 - s) * 2 ^ s := Nat.mul_le_mul_right _ e8
      rw [Nat.mul_comm (2 ^ (32 - s)), ← e6] at e9
      exact e9
    have e5 : ((b / 4294967296 ^ (n - 1) + 1) * 4294967296 ^ (n - 1)) * 2 ^ s ≤ 4294967296 ^ n := by
      rw [Nat.mul_right_comm]
      refine Nat.le_trans (Nat.mul_le_mul_right _ e4) ?_
      rw [Nat.mul_comm, ← Nat.pow_succ]
      exact Nat.pow_le_pow_right (by decide) (by omega)
    omega
  omega
theorem Buf.grown {k : IntKind} {B : Nat} {T : TypeId} {w w' : World} {g gq m x : Nat} (h : Buf k B T w gq m x) (hb : w.grownBy w' (some g)) (hne : gq ≠ g) : Buf k B T w' gq m x :=
  World.rowIs.of_block h (hb.block gq (Buf.lt h) (by simp only [ne_eq, Option.some.injEq]; intro e; exact hne e))
/-- the arithmetic of one round -/
theorem long_digit {B x d k : Nat} (hd : 0 < d) : (x / B ^ k) % d = (dg B x k + B * ((x / B ^ (k + 1)) % d)) % d ∧ (x / B ^ k) / d = (dg B x k + B * ((x / B ^ (k + 1)) % d)) / d + B * ((x / B ^ (k + 1)) / d) := by
  have e1 := div_succ B x k
  have e2 := Nat.div_add_mod (x / B ^ (k + 1)) d
  generalize x / B ^ (k + 1) = y at *
  have e3 : x / B ^ k = dg B x k + B * (y % d) + d * (B * (y / d)) := by
    rw [e1]
    have : B * y = B * (d * (y / d)) + B * (y % d) := by rw [← Nat.mul_add, e2]
    rw [this, Nat.mul_left_comm]; omega
  rw [e3]
  exact ⟨Nat.add_mul_mod_self_left _ _ _, Nat.add_mul_div_left _ _ hd⟩
theorem long_lt {B x d k : Nat} (hB : 0 < B) (hd : 0 < d) : dg B x k + B * ((x / B ^ (k + 1)) % d) < d * B := by
  have h1 := dg_lt hB x k
  have h2 := Nat.mod_lt (x / B ^ (k + 1)) hd
  have h3 : B * ((x / B ^ (k + 1)) % d) + B ≤ B * d := by rw [← Nat.mul_succ]; exact Nat.mul_le_mul_left _ h2
  rw [Nat.mul_comm d]; omega
theorem long_shape {B x R n H k : Nat} : x % B ^ (k + 1) + B ^ (k + 1) * (R + B ^ n * H) = x % B ^ k + B ^ k * ((dg B x k + B * R) + B ^ (n + 1) * H) := by
  rw [mod_succ, Nat.pow_succ, Nat.mul_assoc, Nat.mul_add B, Nat.mul_add (B ^ k), Nat.mul_add (B ^ k), Nat.mul_add (B ^ k), Nat.pow_succ, Nat.mul_comm (B ^ n) B, Nat.mul_assoc B]
  omega
/-- what the loop of divideLong keeps: k digits of the quotient are still to come -/
def LongRel (x d n m : Nat) (g gq : Nat) (w : World) (k : Nat) (wr : World) : Prop :=
  ∃ H, Buf .u32 4294967296 75 wr g (m + n) (x % 4294967296 ^ k + 4294967296 ^ k * ((x / 4294967296 ^ k) % d + 4294967296 ^ n * H)) ∧
    Buf .u32 4294967296 75 wr gq m (0 + 4294967296 ^ k * ((x / 4294967296 ^ k) / d)) ∧ Below w.heap.size w wr
/-- what stands when the loop has ended -/
structure LongEnd (g gq n m q r : Nat) (w1 W : World) : Prop where
  bq : Buf .u32 4294967296 75 W gq m q
  br : ∀ i, i < n → W.cell? ⟨g, i, none⟩ = some (.int .u32 (dg 4294967296 r i : Nat))
  bel : Below w1.heap.size w1 W
  lt : g < W.heap.size
theorem LongEnd.next {g gq n m q r : Nat} {w1 W W' : World} (h : LongEnd g gq n m q r w1 W) (hb : Below W.heap.size W W') : LongEnd g gq n m q r w1 W' :=
  ⟨Gu.Buf.below h.bq hb (Gu.Buf.lt h.bq), fun i hi => (hb.cell (p := ⟨g, i, none⟩) h.lt).trans (h.br i hi), h.bel.trans (hb.mono h.bel.size), Nat.lt_of_lt_of_le h.lt hb.size⟩
theorem LongEnd.rest {g gq n m q r : Nat} {w1 W : World} (h : LongEnd g gq n m q r w1 W) (hr : r < 4294967296 ^ n) (cap : Nat) : D W (.slice (some ⟨g, 0, none⟩) (nd 4294967296 r) cap) r := by
  rcases Nat.eq_zero_or_pos r with h0 | h0
  · subst h0; rw [nd_zero]; exact IsN.zero _ _ _ _ _
  · exact .inr ⟨h0, g, 0, cap, rfl, fun i hi => by rw [Nat.zero_add]; exact h.br i (Nat.lt_of_lt_of_le hi ((nd_le (by decide)).2 hr))⟩
set_option maxHeartbeats 2000000 in
set_option maxRecDepth 100000 in
theorem divideLong_any (v u : Value) (a b : Nat) (w : World) (hv : D w v a) (hu : D w u b) (hab : b ≤ a) (hb2 : 2 ≤ nd 4294967296 b) (ha : nd 4294967296 a ≤ 400000) :
    Calls Tryz.prog 80 #[v, u] w fun e w' => ∃ q r, e = .returned (.tuple #[q, r]) ∧ D w' q (a / b) ∧ D w' r (a % b) ∧ Below w.heap.size w w' := by
  have hB : 2 ≤ 4294967296 := by decide
  have hnm := nd_mono hB hab
  have hb0 : 0 < b := by
    rcases Nat.eq_zero_or_pos b with h | h
    · subst h; rw [nd_zero] at hb2; omega
    · exact h
  have htop := dg_top hB hb0
  have htl := dg_lt (B := 4294967296) (by decide) b (nd 4294967296 b - 1)
  obtain ⟨l1, l2, l3⟩ := lz_pow htop htl
  obtain ⟨s, hs⟩ : ∃ s, s = 32 - Go.Lib.bitLen (dg 4294967296 b (nd 4294967296 b - 1)) := ⟨_, rfl⟩
  have hlz : (32 : Int) - (Go.Lib.bitLen (dg 4294967296 b (nd 4294967296 b - 1)) : Int) = s := by omega
  rw [← hs] at l3
  have hs31 : s ≤ 31 := by omega
  have hdn := shl_nd rfl hb2 l3 (by omega)
  have HLZ := Lib.hid (fun w => (Tryz.bits_LeadingZeros32 (dg 4294967296 b (nd 4294967296 b - 1) : Nat) w (by omega) (by omega)).mono (fun _ _ h => And.intro h.1 h.2.symm))
  rw [Int.toNat_natCast, hlz] at HLZ
  have HSB := Lib.hid (shiftLeft_any u b s w hu (by omega) (by omega))
  have HSA := Lib.hid (fun W (h : D W v a) => shiftLeft_any v a s W h (by omega) (by omega))
  have HV := Lib.hid hv
  obtain ⟨bo, bc, rfl, hcu⟩ := hu.shape
  obtain ⟨gb, go, rfl, hcb⟩ := hcu (nd 4294967296 b - 1) (by omega)
  obtain ⟨ao, ac, rfl, -⟩ := hv.shape
  have HDN := Lib.hid hdn
  clear hv hu hcu hab hs l1 l2 l3 hlz hdn
  have HND : Hid (nd 4294967296 a = nd 4294967296 a) := rfl
  generalize hna : nd 4294967296 a = la at *
  generalize hnb : nd 4294967296 b = n at *
  have HNA := Lib.hid hna; have HNB := Lib.hid hnb
  clear hna hnb HND
  generalize dg 4294967296 b (n - 1) = t at *
  have hmk1 := made_u32 (la + 1) (by omega)
  rw [show (((la + 1 : Nat)) : Int) = (la : Int) + 1 from by omega] at hmk1
  have hmk2 := made_u32 (la - n + 1) (by omega)
  rw [show (((la - n + 1 : Nat)) : Int) = (la : Int) - n + 1 from by omega] at hmk2
  go_enter Tryz.func80, Tryz.ntmps80
  go_wp2_with fail
  refine (HLZ.out _).mono ?_
  rintro e w' ⟨rfl, rfl⟩
  go_wp2_with fail
  refine HSB.out.mono ?_
  rintro e w1 ⟨dv, rfl, hd, hbel⟩
  have hz1 := hbel.size
  have HV1 := Lib.hid (HV.out.below (hbel.alloc hbel.size (.cells (madeCells #[.int .u32 0] (la + 1)) 75)))
  have hdb : ∀ bb o c l, dv = .slice (some ⟨bb, o, none⟩) l c → 0 < b * 2 ^ s → bb ≠ w1.heap.size := by
    intro bb o c l he h0
    rcases hd with ⟨h, _⟩ | ⟨_, b', o', c', he', hc'⟩
    · omega
    · rw [he'] at he
      simp only [Value.slice.injEq, Option.some.injEq, Addr.mk.injEq, and_true] at he
      obtain ⟨⟨rfl, rfl⟩, _, _⟩ := he
      have := World.block_lt_of_cell? _ _ (hc' 0 (nd_pos hB h0))
      exact Nat.ne_of_lt this
  have HDB := Lib.hid hdb
  clear hdb
  obtain ⟨d0, dc, rfl, -⟩ := hd.shape
  rw [HDN.out] at hd HDB ⊢
  have HD1 := Lib.hid hd
  have HB1 := Lib.hid hbel
  clear hd hbel hcb
  go_wp2_with fail
  refine (HSA.out _ HV1.out).mono ?_
  rintro e w2 ⟨av, rfl, hav, hbel⟩
  obtain ⟨a0, acc, rfl, -⟩ := hav.shape
  have hxl : a * 2 ^ s < 4294967296 ^ (la + 1) := by
    have h1 := nd_lt hB a
    rw [HNA.out] at h1
    rw [Nat.pow_succ]
    exact Nat.mul_lt_mul_of_lt_of_le h1 (Nat.le_trans (Nat.pow_le_pow_right (by decide) (show s ≤ 32 by omega)) (by decide)) (by decide)
  have hrow : Buf .u32 4294967296 75 w2 w1.heap.size (la + 1) 0 := (Buf.made .u32 4294967296 75 w1 (la + 1)).below hbel (by simp)
  obtain ⟨cur, hcur, hcsz, hcz⟩ := hrow
  have hcur' : w2.heap[w1.heap.size]? = some (.cells cur.toList.toArray 75 (0, 0)) := by rw [Array.toArray_toList]; exact hcur
  have HB12 := Lib.hid (((Below.refl w1.heap.size w1).alloc (Nat.le_refl _) (.cells (madeCells #[.int .u32 0] (la + 1)) 75)).trans (hbel.mono (by simp)))
  have HXL := Lib.hid hxl
  have HCPY := Lib.hid (fun i hi => copy_row (cur := cur.toList) (m := la + 1) (x := a * 2 ^ s) (fun i hi => by rw [Array.getElem?_toList, hcz i hi]; simp only [dg_zero]; rfl) hxl i hi)
  have HAV := Lib.hid hav
  have hnx : nd 4294967296 (a * 2 ^ s) ≤ la + 1 := (nd_le hB).2 hxl
  have hcl : cur.toList.length = la + 1 := by rw [Array.length_toList]; exact hcsz
  have hz2 := hbel.size
  simp only [World.size_alloc] at hz2
  clear hav hbel hxl hcur hcz hcsz HV1 HSA HLZ HV
  obtain ⟨CS, hCS⟩ : ∃ CS, CS = (pad 4294967296 (nd 4294967296 (a * 2 ^ s)) (a * 2 ^ s)).map fun d : Nat => Value.int .u32 (d : Int) := ⟨_, rfl⟩
  have hCSl : CS.length = nd 4294967296 (a * 2 ^ s) := by rw [hCS]; simp [pad]
  have HCS := Lib.hid hCS
  rw [← hCS] at HCPY
  have H1C : Hid (∀ v ∈ CS, v.oneCell' = true) := by rw [HCS.out]; exact newsU32 _ _
  have HSRC : Hid (0 < CS.length → ∃ ad, a0 = some ad ∧ ∀ j v, CS[j]? = some v → w2.cell? (ad.add j) = some v) := by
    intro h0
    rcases HAV.out with ⟨h1, -⟩ | ⟨h1, gb, go, cc, he, hc⟩
    · rw [hCSl, h1, nd_zero] at h0; omega
    · simp only [Value.slice.injEq] at he
      refine ⟨_, he.1, fun j v hj => ?_⟩
      have hjl : j < nd 4294967296 (a * 2 ^ s) := by
        rw [← hCSl]; exact (List.getElem?_eq_some_iff.1 hj).1
      have := hc j hjl
      rw [Addr.add_lit, this]
      rw [HCS.out] at hj
      simp [pad, hjl] at hj
      rw [← hj]
  have HNL := Lib.hid hCSl
  clear hCS hCSl
  generalize nd 4294967296 (a * 2 ^ s) = nx at *
  have hsz1 : (Tryz.prog.info? 75).map (·.size) = some 1 := by kernel_rfl
  go_wp2_with ((with_reducible show wpList _ _ _ _ _ _); go_must (refine wpList_copy_splice rfl (.tmp 29) (.tmp 32) 30 31 rfl 75 Tryz.underlying30 hsz1 (some ⟨w1.heap.size, 0, none⟩) a0 (la + 1) (la + 1) nx acc (by rfl) (by rfl) w1.heap.size 0 cur.toList 75 hcur' CS ?c0 ?c1 ?c2 H1C.out w1.heap.size w2 (Below.refl _ _) ?c3 ?_))
  case c0 => rw [HNL.out]; exact (Nat.min_eq_left hnx).symm
  case c1 => intro h0; first | exact ⟨rfl, HSRC.out h0⟩ | exact HSRC.out h0
  case c2 => rw [HNL.out, hcl]; omega
  case c3 => exact Nat.le_refl _
  intro w3 hrow3 hb3
  have HROW : Hid (Buf .u32 4294967296 75 w3 w1.heap.size (la + 1) (a * 2 ^ s)) := by
    refine ⟨_, hrow3.out, ?_, HCPY.out⟩
    rw [List.size_toArray, length_splice _ _ _ (by rw [HNL.out, hcl]; omega), hcl]
  have hz3 := hb3.size
  have hb13 := HB12.out.trans hb3
  have HB3 := Lib.hid hb13
  have hz13 := hb13.size
  clear hb13
  clear hrow3 hb3 hcl hcur' HCPY HNL HSRC HCS H1C HB12 hsz1
  have HBA : Hid (b * 2 ^ s ≠ 0) := Nat.ne_of_gt (Nat.mul_pos hb0 (Nat.pow_pos (by decide)))
  have HLN := Lib.hid (nd_lt hB b)
  have HPW : Hid (4294967296 ^ (n - 1) ≤ b) := by show _ ≤ _; rw [← HNB.out]; exact nd_pow_le hB hb0
  have HDP : Hid (0 < b * 2 ^ s) := Nat.pos_of_ne_zero HBA.out
  obtain ⟨m, hm⟩ : ∃ m, m = la - n + 1 := ⟨_, rfl⟩
  have hmi : (la : Int) - n + 1 = m := by omega
  have hla : la + 1 = m + n := by omega
  have HQ0 : Hid (a * 2 ^ s / 4294967296 ^ m < b * 2 ^ s) := by
    show _ < _
    rw [Nat.div_lt_iff_lt_mul (Nat.pow_pos (by decide)), Nat.mul_right_comm]
    refine Nat.mul_lt_mul_of_pos_right ?_ (Nat.pow_pos (by decide))
    have h1 := nd_lt hB a
    rw [HNA.out] at h1
    refine Nat.lt_of_lt_of_le h1 (Nat.le_trans ?_ (Nat.mul_le_mul_right _ HPW.out))
    rw [← Nat.pow_add]
    exact Nat.pow_le_pow_right (by decide) (by omega)
  have HMI := Lib.hid hmi
  have HMM := Lib.hid hm
  have HROW2 := HROW.out
  rw [hla] at HROW2
  have HR3 := Lib.hid HROW2
  clear HROW2 HROW hmi hm
  go_wp2
  rw [HMI.out, ← HMM.out]
  have hw3a : Below w3.heap.size w3 (w3.alloc (.cells (madeCells #[.int .u32 0] m) 75)) := (Below.refl _ _).alloc (Nat.le_refl _) _
  have HST : Hid (LongRel (a * 2 ^ s) (b * 2 ^ s) n m w1.heap.size w3.heap.size w1 m (w3.alloc (.cells (madeCells #[.int .u32 0] m) 75))) := by
    refine ⟨0, ?_, ?_, HB3.out.trans (hw3a.mono hz13)⟩
    · rw [Nat.mul_zero, Nat.add_zero, Nat.mod_eq_of_lt HQ0.out, Nat.mod_add_div]
      exact HR3.out.below hw3a (by omega)
    · rw [Nat.div_eq_of_lt HQ0.out, Nat.mul_zero]
      exact Buf.made _ _ _ _ _
  rw [show ((la - n : Nat) : Int) + 1 = m from by have := HMM.out; omega]
  have hgq : w1.heap.size < w3.heap.size := by omega
  have HLA := Lib.hid hla
  have hml : m ≤ 400001 := by omega
  clear hla hw3a HB3 HR3 HMI HMM hmk1 hmk2 hz13 hz2 hz3 hz1 hnx HSB HXL HAV
  obtain ⟨x, hx⟩ : ∃ x, x = a * 2 ^ s := ⟨_, rfl⟩
  obtain ⟨d, hd⟩ : ∃ d, d = b * 2 ^ s := ⟨_, rfl⟩
  have HX := Lib.hid hx; have HDE := Lib.hid hd
  rw [← hx, ← hd] at HST HQ0
  rw [← hd] at HD1 HDB HDN HDP
  clear hx hd
  go_loopw [42] (fun t wr => ∃ j k : Nat, Hid (j + k = m) ∧ t = .int .i64 j ∧ LongRel x d n m w1.heap.size w3.heap.size w1 k wr) (fun t _ => m - (intOf t).toNat)
  case atStart => exact ⟨0, m, by show _ = _; omega, rfl, HST.out⟩
  case round =>
    obtain ⟨j, k, HJK, rfl, H, hbuf, hq, hbel⟩ := hrel
    cases k with
    | zero =>
      have hjm : j = m := by have := HJK.out; omega
      rw [Nat.pow_zero, Nat.div_one, Nat.mod_one, Nat.zero_add, Nat.one_mul] at hbuf
      rw [Nat.pow_zero, Nat.div_one, Nat.zero_add, Nat.one_mul] at hq
      have HQL : Hid (x / d < 4294967296 ^ m) := by
        show _ < _
        rw [Nat.div_lt_iff_lt_mul HDP.out, Nat.mul_comm]
        exact (Nat.div_lt_iff_lt_mul (Nat.pow_pos (by decide))).1 HQ0.out
      have HRL : Hid (x % d < 4294967296 ^ n) := by
        have := nd_lt hB d
        rw [HDN.out] at this
        exact Nat.lt_trans (Nat.mod_lt _ HDP.out) this
      have hend : LongEnd w1.heap.size w3.heap.size n m (x / d) (x % d) w1 wr := ⟨hq, fun i hi => by rw [Gu.Buf.cell hbuf (by omega), dg_low (by decide) hi], hbel, Gu.Buf.lt hbuf⟩
      clear hbuf hq hbel
      subst hjm
      have HT1 := Lib.hid (fun W (h : LongEnd w1.heap.size w3.heap.size n j (x / d) (x % d) w1 W) => trim_buf w3.heap.size j j (x / d) W h.bq HQL.out (by omega) (Nat.le_refl _))
      have HT2 := Lib.hid (fun W (h : LongEnd w1.heap.size w3.heap.size n j (x / d) (x % d) w1 W) => trim_any w1.heap.size n (la + 1) (x % d) W h.br HRL.out (by omega) (by omega))
      have HSR := Lib.hid (fun W (h : LongEnd w1.heap.size w3.heap.size n j (x / d) (x % d) w1 W) => (shiftRight_any (.slice (some ⟨w1.heap.size, 0, none⟩) (nd 4294967296 (x % d)) (nd 4294967296 (x % d))) (x % d) s W (h.rest HRL.out _) (by have := (nd_le hB).2 HRL.out; omega) (by omega)).mono fun e w' ⟨r, he, hr, hb⟩ =>
        (show ∃ ro rl rc, e = Ending.returned (.slice ro rl rc) ∧ D w' (.slice ro rl rc) (x % d / 2 ^ s) ∧ LongEnd w1.heap.size w3.heap.size n j (x / d) (x % d) w1 w' from by
          obtain ⟨ro, rc, rfl, -⟩ := hr.shape
          exact ⟨ro, _, rc, he, hr, h.next hb⟩))
      have hsx : nd 4294967296 (x / d) ≤ j := (nd_le hB).2 HQL.out
      have hend2 := hend.next (Below.refl wr.heap.size wr).drew
      clear hend
      have HXD : Hid (x / d = a / b ∧ x % d / 2 ^ s = a % b) := by
        have hp : 0 < 2 ^ s := Nat.pow_pos (by decide)
        refine ⟨?_, ?_⟩
        · rw [HX.out, HDE.out, Nat.mul_div_mul_right _ _ hp]
        · rw [HX.out, HDE.out, Nat.mul_mod_mul_right, Nat.mul_div_cancel _ hp]
      obtain ⟨rr, hrr⟩ : ∃ rr, rr = x % d / 2 ^ s := ⟨_, rfl⟩
      rw [← hrr] at HSR HXD
      clear hrr
      have hi1 : (0 : Int) ≤ n := by omega
      have hi2 : (n : Int) ≤ (la : Int) + 1 := by omega
      have hi3 : (n : Int) ≤ ((la + 1 : Nat) : Int) := by omega
      have hi4 : n ≤ la + 1 := by omega
      go_wp2_with fail
      go_region_held3 (fun W : World => LongEnd w1.heap.size w3.heap.size n j (x / d) (x % d) w1 W) (assumption) (first
        | (go_at_call 97; refine (HSR.out _ ?h).mono ?_; (case h => assumption); rintro e w' ⟨ro, rl, rc, rfl, hr, hs'⟩)
        | (go_at_call 55; with_reducible refine (HT1.out _ ?h).mono ?_; (case h => assumption); rintro e w' ⟨rfl, rfl⟩)
        | (go_at_call 55; with_reducible refine (HT2.out _ ?h).mono ?_; (case h => assumption); rintro e w' ⟨rfl, rfl⟩))
      all_goals go_wp2
      all_goals go_ret2
      all_goals exact ⟨_, _, rfl, by rw [← HXD.out.1]; exact hs'.bq.isN hB HQL.out _, by rw [← HXD.out.2]; exact hr, HB1.out.trans (hs'.bel.mono HB1.out.size)⟩
    | succ k =>
      have hjm : j < m := by have := HJK.out; omega
      have hjm2 : (j : Int) < m := by omega
      have e1 : (m : Int) - 1 - j = k := by have := HJK.out; omega
      rw [long_shape] at hbuf
      have HW := Lib.hid (divideWindow_any w1.heap.size (m + n) k n (n + 1) (x % 4294967296 ^ k) (dg 4294967296 x k + 4294967296 * ((x / 4294967296 ^ (k + 1)) % d)) H d (.slice d0 n dc) wr hbuf (Nat.mod_lt _ (Nat.pow_pos (by decide))) (long_lt (by decide) HDP.out) (by have := HJK.out; omega) hb2 (by omega) (Nat.le_refl _) (HD1.out.below hbel) HDN.out HDB.out)
      clear hbuf
      have hkm : k < m := by have := HJK.out; omega
      have hkl : k + n ≤ la := by have := HLA.out; omega
      have hcell := hq.cell (i := k) hkm
      have hfr := hq.frozen k
      have HQ := Lib.hid hq; have HBEL := Lib.hid hbel
      clear hq hbel
      have hwlt := long_lt (B := 4294967296) (x := x) (k := k) (by decide) HDP.out
      obtain ⟨LD1, LD2⟩ := long_digit (B := 4294967296) (x := x) (k := k) HDP.out
      have hL1 := Lib.hid LD1; have hL2 := Lib.hid LD2
      clear LD1 LD2
      obtain ⟨W, hWe⟩ : ∃ W, W = dg 4294967296 x k + 4294967296 * ((x / 4294967296 ^ (k + 1)) % d) := ⟨_, rfl⟩
      rw [← hWe] at HW hL1 hL2
      have HLQ := Lib.hid (fun (h : W / d < 4294967296) => h)
      clear hwlt hWe
      generalize dg 4294967296 (0 + 4294967296 ^ (k + 1) * ((x / 4294967296 ^ (k + 1)) / d)) k = dq at *
      go_wp2_with fail
      rw [show k + n + 1 - k = n + 1 from by omega]
      refine HW.out.mono ?_
      rintro e w' ⟨rfl, hql, hbf, hgr⟩
      have hq2 := Buf.grown HQ.out hgr (by omega)
      have hcell2 := Gu.Buf.cell hq2 (i := k) hkm
      have hfr2 := Gu.Buf.frozen hq2 k
      have HNEW : Hid (LongRel x d n m w1.heap.size w3.heap.size w1 k (w'.setCell ⟨w3.heap.size, k, none⟩ (.int .u32 (W / d : Nat)))) := by
        refine ⟨W / 4294967296 ^ n + 4294967296 * H, ?_, ?_, ?_⟩
        · rw [hL1.out]
          exact World.rowIs.of_block hbf (Below.heap_setCell _ _ _ _ (by simp only [ne_eq]; omega))
        · rw [hL2.out]
          have e : 0 + 4294967296 ^ (k + 1) * ((x / 4294967296 ^ (k + 1)) / d) = 0 + 4294967296 ^ k * (0 + 4294967296 * ((x / 4294967296 ^ (k + 1)) / d)) := by rw [Nat.pow_succ, Nat.mul_assoc, Nat.zero_add, Nat.zero_add, Nat.zero_add]
          rw [e] at hq2
          exact Buf.set hq2 (by decide) (Nat.pow_pos (by decide)) (by decide) hql
        · have hsz := HBEL.out.size
          exact (HBEL.out.grown hgr (by omega) (fun j hj => by simp only [Option.some.injEq] at hj; omega)).setCell (by show w1.heap.size ≤ w3.heap.size; omega) _
      clear hbf hgr hq2 HQ HBEL HW hL1 hL2
      generalize dg 4294967296 (0 + 4294967296 ^ (k + 1) * ((x / 4294967296 ^ (k + 1)) / d)) k = dq2 at *
      generalize W / d = qd at *
      go_wp2
      go_roundw
      case rel => exact ⟨j + 1, k, by have := HJK.out; show _ = _; omega, by go_num, HNEW.out⟩
      case measure => simp [intOf]; omega
set_option maxHeartbeats 800000 in
theorem divide_long (N : Nat) (hN : N ≤ 400000) : DivOK (4294967296 ^ N) := by
  intro v u a b w hv hu hb ha hbN
  have hB : 2 ≤ 4294967296 := by decide
  have hna : nd 4294967296 a ≤ N := (nd_le hB).2 ha
  have hnb : nd 4294967296 b ≤ N := (nd_le hB).2 hbN
  have hnb0 := nd_pos hB hb
  clear ha hbN
  have HC := Lib.hid (compare_any v u a b w hv hu (by omega) (by omega))
  by_cases hlt : a < b
  · have HCl := Lib.hid (fun q => clone_any v a (w.drewN q) (IsN.drewN hv q) (by omega))
    have HE : Hid (a / b = 0 ∧ a % b = a) := ⟨Nat.div_eq_of_lt hlt, Nat.mod_eq_of_lt hlt⟩
    rw [cmpN_lt (by omega)] at HC
    obtain ⟨ao, ac, rfl, -⟩ := hv.shape
    obtain ⟨bo, bc, rfl, -⟩ := hu.shape
    clear hv hu hna hnb hb hlt hnb0
    go_enter Tryz.func65, Tryz.ntmps65
    go_wp2_with fail
    refine HC.out.mono ?_
    rintro e w' ⟨rfl, q, rfl⟩
    go_wp2_with fail
    refine (HCl.out q).mono ?_
    rintro e w' ⟨r, rfl, hr, hbel⟩
    go_wp2
    go_ret2
    exact ⟨.slice none 0 0, r, rfl, by rw [HE.out.1]; exact IsN.zero _ _ _ _ _, by rw [HE.out.2]; exact hr, (below_drewN (Below.refl _ _) q).trans hbel⟩
  · have hcmp : ¬ cmpN a b < 0 := by
      unfold cmpN; rw [if_neg (by omega)]; split <;> omega
    by_cases h1 : nd 4294967296 b = 1
    · have hb1 : b < 4294967296 := by
        have := nd_lt hB b
        rw [h1] at this; simpa using this
      have HD := Lib.hid (fun q => divideByDigit_any v a b (w.drewN q) (IsN.drewN hv q) (by omega) hb hb1)
      rcases hu with ⟨h0, _⟩ | ⟨_, bb, bo, bc, rfl, hcu⟩
      · omega
      have hcell : w.cell? ⟨bb, bo, none⟩ = some (.int .u32 (b : Nat)) := by
        have := hcu 0 (by omega)
        rw [Nat.add_zero] at this
        rw [this]; simp [dg, Nat.mod_eq_of_lt hb1]
      rw [h1] at HC ⊢
      have hmod := Nat.mod_lt a hb
      generalize cmpN a b = cc at *
      have HDG := Lib.hid (fun w => digitsOf_any (a % b) w (by omega))
      generalize hmm : a % b = mm at *
      have HMM := Lib.hid hmm; clear hmm
      obtain ⟨ao, ac, rfl, -⟩ := hv.shape
      clear hv hna hnb hlt hcu h1
      go_enter Tryz.func65, Tryz.ntmps65
      go_wp2_with fail
      refine HC.out.mono ?_
      rintro e w' ⟨rfl, q, rfl⟩
      go_wp2_with fail
      refine (HD.out q).mono ?_
      rintro e w' ⟨r, rfl, hr, hbel⟩
      go_wp2_with fail
      refine (HDG.out _).mono ?_
      rintro e w2 ⟨r2, rfl, hr2, hbel2⟩
      go_wp2
      go_ret2
      exact ⟨r, r2, rfl, hr.below hbel2, hr2, ((below_drewN (Below.refl _ _) q).trans hbel).trans (hbel2.mono hbel.size)⟩
    · have HD := Lib.hid (fun q => divideLong_any v u a b (w.drewN q) (IsN.drewN hv q) (IsN.drewN hu q) (by omega) (by omega) (by omega))
      have hne : (((nd 4294967296 b : Nat) : Int) == 1) = false := by simp; omega
      generalize cmpN a b = cc at *
      obtain ⟨ao, ac, rfl, -⟩ := hv.shape
      obtain ⟨bo, bc, rfl, -⟩ := hu.shape
      clear hv hu hna hnb hlt
      go_enter Tryz.func65, Tryz.ntmps65
      go_wp2_with fail
      refine HC.out.mono ?_
      rintro e w' ⟨rfl, q, rfl⟩
      go_wp2_with fail
      refine (HD.out q).mono ?_
      rintro e w' ⟨qv, r, rfl, hq, hr, hbel⟩
      go_wp2
      go_ret2
      exact ⟨qv, r, rfl, hq, hr, (below_drewN (Below.refl _ _) q).trans hbel⟩
end Go.Proofs.YtfkogbomijonjaaGreatDoor
namespace Go.Proofs.YtfkogbomijonjaaGreatDoor
open Go Go.RowKit Gu

/-- any digit of a buffer is stored anew -/
theorem Buf.at {k : IntKind} {B : Nat} {T : TypeId} {w : World} {g m V : Nat} (h : Buf k B T w g m V) (hB : 0 < B) (j : Nat) {d : Nat} (hd : d < B) :
    Buf k B T (w.setCell ⟨g, j, none⟩ (.int k d)) g m (V % B ^ j + B ^ j * (d + B * (V / B ^ (j + 1)))) := by
  have e : V = V % B ^ j + B ^ j * (dg B V j + B * (V / B ^ (j + 1))) := by
    rw [← div_succ]; exact (Nat.mod_add_div _ _).symm
  rw [e] at h
  exact Buf.set h hB (Nat.mod_lt _ (Nat.pow_pos hB)) (dg_lt hB _ _) hd
/-- .. and what the number is then -/
theorem at_val {B V j d : Nat} : V % B ^ j + B ^ j * (d + B * (V / B ^ (j + 1))) + B ^ j * dg B V j = V + B ^ j * d := by
  have e : V = V % B ^ j + B ^ j * (dg B V j + B * (V / B ^ (j + 1))) := by
    rw [← div_succ]; exact (Nat.mod_add_div _ _).symm
  have e2 : B ^ j * (d + B * (V / B ^ (j + 1))) = B ^ j * d + B ^ j * (B * (V / B ^ (j + 1))) := Nat.mul_add _ _ _
  have e3 : B ^ j * (dg B V j + B * (V / B ^ (j + 1))) = B ^ j * dg B V j + B ^ j * (B * (V / B ^ (j + 1))) := Nat.mul_add _ _ _
  omega
/-- one round of the inner loop -/
theorem mulr_round {B V c i k P a b d q : Nat} (h : V + B ^ (i + k) * c = P + B ^ i * (a * (b % B ^ k))) (hd : d + B * q = c + dg B V (i + k) + a * dg B b k) :
    (V % B ^ (i + k) + B ^ (i + k) * (d + B * (V / B ^ (i + k + 1)))) + B ^ (i + (k + 1)) * q = P + B ^ i * (a * (b % B ^ (k + 1))) := by
  have e := at_val (B := B) (V := V) (j := i + k) (d := d)
  have e1 : B ^ (i + k) * (d + B * q) = B ^ (i + k) * (c + dg B V (i + k) + a * dg B b k) := by rw [hd]
  rw [mod_succ]
  have e2 : B ^ i * (a * (b % B ^ k + B ^ k * dg B b k)) = B ^ i * (a * (b % B ^ k)) + B ^ (i + k) * (a * dg B b k) := by
    rw [Nat.mul_add a, Nat.mul_add (B ^ i), Nat.pow_add, Nat.mul_assoc (B ^ i), Nat.mul_left_comm a]
  have e3 : B ^ (i + (k + 1)) * q = B ^ (i + k) * (B * q) := by rw [← Nat.add_assoc, Nat.pow_succ, Nat.mul_assoc]
  rw [e2, e3]
  rw [Nat.mul_add, Nat.mul_add, Nat.mul_add] at e1
  omega
/-- what the outer loop keeps -/
def MulRel (a b m : Nat) (w : World) (i : Nat) (wr : World) : Prop :=
  Buf .i64 65536 3 wr w.heap.size m ((a % 65536 ^ i) * b) ∧ Below w.heap.size w wr
/-- what the inner loop keeps -/
def RowIn (a b da m : Nat) (w : World) (i k c : Nat) (wr : World) : Prop :=
  c < 65536 ∧ ∃ V, V + 65536 ^ (i + k) * c = (a % 65536 ^ i) * b + 65536 ^ i * (da * (b % 65536 ^ k)) ∧ Buf .i64 65536 3 wr w.heap.size m V ∧ Below w.heap.size w wr
theorem RowIn.next {a b da m : Nat} {w : World} {i k c q : Nat} {wr : World} {V : Nat} (h1 : V + 65536 ^ (i + k) * c = (a % 65536 ^ i) * b + 65536 ^ i * (da * (b % 65536 ^ k))) (h2 : Buf .i64 65536 3 wr w.heap.size m V) (h3 : Below w.heap.size w wr)
    (hc : c < 65536) (ha : da < 65536) (n : Nat) (ht : q = c + dg 65536 V (i + k) + da * dg 65536 b k) : RowIn a b da m w i (k + 1) (q / 65536) ((wr.drewN n).setCell ⟨w.heap.size, i + k, none⟩ (.int .i64 (q % 65536 : Nat))) := by
  have hv := dg_lt (B := 65536) (by decide) V (i + k)
  have hb := dg_lt (B := 65536) (by decide) b k
  have hm : da * dg 65536 b k ≤ 65535 * 65535 := Nat.mul_le_mul (by omega) (by omega)
  refine ⟨by omega, _, mulr_round h1 (show q % 65536 + 65536 * (q / 65536) = _ by rw [Nat.mod_add_div]; exact ht), Buf.at (w := wr.drewN n) h2 (by decide) _ (Nat.mod_lt _ (by decide)), (below_drewN h3 n).setCell (Nat.le_refl _) _⟩
/-- where the inner loop ends, and that it stays inside the row -/
theorem row_in {a b da m : Nat} {w : World} {i k c : Nat} {wr : World} (h : RowIn a b da m w i k c wr) {lb : Nat} (hb : b < 65536 ^ lb) (hda : da < 65536) (hk : lb ≤ k) (hc : 0 < c) : k = lb := by
  obtain ⟨-, V, hV, -, -⟩ := h
  rcases Nat.lt_or_ge lb k with h1 | h1
  · exfalso
    have h2 : 65536 ^ (i + k) ≤ 65536 ^ (i + k) * c := Nat.le_mul_of_pos_right _ hc
    have h3 : (a % 65536 ^ i) * b ≤ 65536 ^ i * b := Nat.mul_le_mul_right _ (Nat.le_of_lt (Nat.mod_lt _ (Nat.pow_pos (by decide))))
    have h4 : 65536 ^ i * (da * (b % 65536 ^ k)) ≤ 65536 ^ i * (65535 * b) := Nat.mul_le_mul_left _ (Nat.mul_le_mul (by omega) (Nat.mod_le _ _))
    have h5 : 65536 ^ i * (65536 * b) < 65536 ^ i * (65536 * 65536 ^ lb) := Nat.mul_lt_mul_of_pos_left (Nat.mul_lt_mul_of_pos_left hb (by decide)) (Nat.pow_pos (by decide))
    have h6 : 65536 ^ i * (65536 * 65536 ^ lb) ≤ 65536 ^ (i + k) := by
      rw [Nat.mul_comm 65536, ← Nat.pow_succ, ← Nat.pow_add]
      exact Nat.pow_le_pow_right (by decide) (by omega)
    have h7 : 65536 ^ i * (65536 * b) = 65536 ^ i * b + 65536 ^ i * (65535 * b) := by
      rw [← Nat.mul_add]; congr 1; omega
    omega
  · omega
theorem RowIn.done {a b m : Nat} {w : World} {i k : Nat} {wr : World} {lb : Nat} (h : RowIn a b (dg 65536 a i) m w i k 0 wr) (hb : b < 65536 ^ lb) (hk : lb ≤ k) : MulRel a b m w (i + 1) wr := by
  obtain ⟨-, V, hV, h1, h2⟩ := h
  have hbk : b % 65536 ^ k = b := Nat.mod_eq_of_lt (Nat.lt_of_lt_of_le hb (Nat.pow_le_pow_right (by decide) hk))
  rw [hbk, Nat.mul_zero, Nat.add_zero] at hV
  refine ⟨?_, h2⟩
  rw [mod_succ, Nat.add_mul, Nat.mul_assoc, ← hV]
  exact h1
end Go.Proofs.YtfkogbomijonjaaGreatDoor
namespace Go.Proofs.YtfkogbomijonjaaGreatDoor
open Go Go.RowKit Gu

set_option maxHeartbeats 400000 in
theorem NMul_any (v u : Value) (a b : Nat) (w : World) (hv : D w v a) (hu : D w u b) (ha : nd 4294967296 a ≤ 500000) (hb : nd 4294967296 b ≤ 500000) :
    Calls Tryz.prog 49 #[.agg #[v], .agg #[u]] w fun e w' => ∃ r, e = .returned (.tuple #[.agg #[r], .int .i64 (fitE (a * b))]) ∧ D w' r (fitN (a * b)) ∧ Below w.heap.size w w' := by
  have hnd := nd_mul ha hb
  have b3 : ∀ o1 o2 o3, Below w.heap.size w (((w.alloc o1).alloc o2).alloc o3) := fun o1 o2 o3 => (((Below.refl _ _).alloc (Nat.le_refl _) _).alloc (by simp) _).alloc (by simp; omega) _
  have HS := Lib.hid (fun o1 o2 o3 => product_any v u a b (((w.alloc o1).alloc o2).alloc o3) (hv.below (b3 o1 o2 o3)) (hu.below (b3 o1 o2 o3)) (by omega) (by omega))
  have HB3 := Lib.hid b3
  obtain ⟨ao, ac, rfl, -⟩ := hv.shape
  obtain ⟨bo, bc, rfl, -⟩ := hu.shape
  clear hv hu b3
  go_enter Tryz.func49, Tryz.ntmps49
  go_wp2_with fail
  refine (HS.out _ _ _).mono ?_
  rintro e w1 ⟨r, rfl, hr, hbel⟩
  have HF := Lib.hid (fitting_any r (a * b) w1 hr (by omega))
  clear hr
  obtain ⟨hc, hf⟩ := bcell hbel
  have HB1 := Lib.hid hbel
  have hz := hbel.size
  simp only [World.size_alloc] at hz
  clear hbel
  go_wp2_with fail
  refine HF.out.mono ?_
  rintro e w2 ⟨r2, rfl, hr2, hbel2⟩
  obtain ⟨hc2, hf2⟩ := bcell hbel2
  obtain ⟨ro, rc, rfl, -⟩ := hr2.shape
  have HB2 := Lib.hid hbel2
  have HR2 := Lib.hid hr2
  have hz2 := hbel2.size
  clear hbel2 hr2
  have hcell : w2.cell? ⟨w.heap.size + 1 + 1, 0, none⟩ = some (.slice none 0 0) := by
    rw [hc2 _ _ (by omega), hc _ _ (by simp)]
    exact World.cell?_alloc_at _ _ _ _ (by simp)
  have hfr : w2.frozen? ⟨w.heap.size + 1 + 1, 0, none⟩ = false := by
    rw [hf2 _ _ (by omega), hf _ _ (by simp)]
    exact World.frozen?_alloc_at _ _ _ _ (by simp)
  have HCE := Lib.hid hcell
  clear hc hf hc2 hf2
  go_wp2
  refine bodyPost_ret (v := .tuple #[.agg #[.slice ro (nd 4294967296 (fitN (a * b))) rc], .int .i64 (fitE (a * b))]) (by simp [results, Tryz.results49, go_sem, hcell]) rfl ⟨_, rfl, HR2.out.setCell HCE.out (by intro d h; cases h) _, ?_⟩
  exact (((HB3.out _ _ _).trans (HB1.out.mono (by simp; omega))).trans (HB2.out.mono (by omega))).setCell (by show w.heap.size ≤ w.heap.size + 1 + 1; omega) _
theorem nd_rmul {a b m k : Nat} (ha : nd 65536 a ≤ m) (hb : nd 65536 b ≤ k) : nd 65536 (a * b) ≤ m + k := by
  have h1 := (nd_le (by decide : 2 ≤ 65536)).1 ha
  have h2 := (nd_le (by decide : 2 ≤ 65536)).1 hb
  apply (nd_le (by decide : 2 ≤ 65536)).2
  rw [Nat.pow_add]
  exact Nat.mul_lt_mul_of_lt_of_le h1 (Nat.le_of_lt h2) (Nat.pow_pos (by decide))
end Go.Proofs.YtfkogbomijonjaaGreatDoor
namespace Go.Proofs.YtfkogbomijonjaaGreatDoor
open Go Go.RowKit Gu

/-- a box of one value -/
structure Nx (B : Nat) (v : Value) (W : World) : Prop where
  c0 : W.cell? ⟨B, 0, none⟩ = some v
  f0 : W.frozen? ⟨B, 0, none⟩ = false
  lt : B < W.heap.size
theorem Nx.next {B : Nat} {v : Value} {W W' : World} (h : Nx B v W) (hb : Below W.heap.size W W') : Nx B v W' :=
  ⟨(hb.cell (p := ⟨B, 0, none⟩) h.lt).trans h.c0, (hb.frozen (p := ⟨B, 0, none⟩) h.lt).trans h.f0, Nat.lt_of_lt_of_le h.lt hb.size⟩
theorem Nx.new (W : World) (v : Value) (T : TypeId) : Nx W.heap.size v (W.alloc (.cells #[v] T)) :=
  ⟨World.cell?_alloc_at _ _ _ _ rfl, World.frozen?_alloc_at _ _ _ _ rfl, by simp⟩
theorem alloc1_below (W : World) (o : Obj) : Below W.heap.size W (W.alloc o) := (Below.refl _ _).alloc (Nat.le_refl _) _
theorem fitN_of {n : Nat} (h : nd 2 n ≤ 16384) : fitN n = n := if_pos h
set_option maxHeartbeats 1000000 in
theorem times_any (v : Value) (a n : Nat) (w : World) (hv : D w v a) (hn : n ≤ 9223372036854775807) (hd : nd 4294967296 a ≤ 400000) (hf : nd 2 (a * n) ≤ 16384) :
    Calls Tryz.prog 31 #[.agg #[v], .int .i64 n] w fun e w' => ∃ r, e = .returned (.agg #[r]) ∧ D w' r (a * n) ∧ Below w.heap.size w w' := by
  obtain ⟨w0, HW⟩ : ∃ w0, w0 = (w.alloc (.cells #[v] 55)).alloc (.cells #[.slice none 0 0] 55) := ⟨_, rfl⟩
  have hb : Below w.heap.size w w0 := by rw [HW]; exact (alloc1_below _ _).alloc (by simp) _
  have n1 : Nx w.heap.size v w0 := by rw [HW]; exact (Nx.new w v _).next (alloc1_below _ _)
  have n2 : Nx (w.heap.size + 1) (.slice none 0 0) w0 := by
    have := Nx.new (w.alloc (.cells #[v] 55)) (.slice none 0 0) 55
    rw [World.size_alloc, ← HW] at this
    exact this
  have HNW := Lib.hid (New_any n w0 hn)
  have HD := Lib.hid (hv.below hb)
  have HF := Lib.hid (fitN_of hf)
  obtain ⟨ao, ac, rfl, -⟩ := hv.shape
  have H1 := Lib.hid n1; have H2 := Lib.hid n2; have HB := Lib.hid hb; have HW' := Lib.hid HW
  have hdn : nd 4294967296 n ≤ 400000 := Nat.le_trans ((nd_le (by decide)).2 (show n < 4294967296 ^ 2 by omega)) (by decide)
  clear hb n1 n2 HW hv hf
  go_enter Tryz.func31, Tryz.ntmps31
  go_upto_region 1 with fail
  rw [← HW'.out]
  go_wp2_with fail
  refine HNW.out.mono ?_
  rintro e w1 ⟨u, rfl, hu, hb⟩
  obtain ⟨w2, HW2⟩ : ∃ w2, w2 = w1.alloc (.cells #[u] 55) := ⟨_, rfl⟩
  have b2 : Below w1.heap.size w1 w2 := by rw [HW2]; exact alloc1_below _ _
  have b12 := hb.trans (b2.mono hb.size)
  have n3 : Nx w1.heap.size u w2 := by rw [HW2]; exact Nx.new w1 u _
  have HM := Lib.hid (NMul_any _ u a n w2 (HD.out.below b12) (hu.below b2) (by omega) (by omega))
  have H12 := Lib.hid (H1.out.next b12); have H22 := Lib.hid (H2.out.next b12); have H32 := Lib.hid n3
  have HB2 := Lib.hid (HB.out.trans (b12.mono HB.out.size))
  obtain ⟨bo, bc, rfl, -⟩ := hu.shape
  have HW2' := Lib.hid HW2
  clear hb b2 b12 n3 HW2 hu
  go_upto_region 2 with fail
  rw [← HW2'.out]
  have k1 := H12.out.c0; have k3 := H32.out.c0
  go_wp2_with fail
  refine HM.out.mono ?_
  rintro e w3 ⟨r, rfl, hr, hb⟩
  rw [HF.out] at hr
  obtain ⟨ro, rc, rfl, -⟩ := hr.shape
  obtain ⟨w4, HW4⟩ : ∃ w4, w4 = w3.alloc (.cells #[.slice ro (nd 4294967296 (a * n)) rc] 55) := ⟨_, rfl⟩
  have b4 : Below w3.heap.size w3 w4 := by rw [HW4]; exact alloc1_below _ _
  have b34 := hb.trans (b4.mono hb.size)
  have n4 : Nx w3.heap.size (.slice ro (nd 4294967296 (a * n)) rc) w4 := by rw [HW4]; exact Nx.new w3 _ _
  have H24 := Lib.hid (H22.out.next b34)
  have HB4 := Lib.hid (HB2.out.trans (b34.mono HB2.out.size))
  have HR4 := Lib.hid (hr.below b4)
  have H44 := Lib.hid n4
  have HW4' := Lib.hid HW4
  clear hb b4 b34 n4 HW4 hr k1 k3
  go_upto_region 3 with fail
  rw [← HW4'.out]
  have k1 := H24.out.c0; have k2 := H24.out.f0; have k3 := H44.out.c0
  have k4 := World.cell?_setCell_same w4 ⟨w.heap.size + 1, 0, none⟩ (.slice ro (nd 4294967296 (a * n)) rc) k1
  go_wp2_with fail
  refine bodyPost_ret (v := .agg #[.slice ro (nd 4294967296 (a * n)) rc]) (by simp [results, Tryz.results31, go_sem, k4]) rfl ?_
  exact ⟨_, rfl, HR4.out.setCell k1 (by intro d h; cases h) _, HB4.out.setCell (p := ⟨w.heap.size + 1, 0, none⟩) (by show w.heap.size ≤ w.heap.size + 1; omega) _⟩
end Go.Proofs.YtfkogbomijonjaaGreatDoor
namespace Go.Proofs.YtfkogbomijonjaaGreatDoor
open Go Go.RowKit Gu

/-- a row of one-cell values of the call's own; no cell of its room is an int -/
def OwnZ (w : World) (base : Nat) (e : TypeId) (v : Value) (xs : List Value) : Prop :=
  ∃ g cap cur, v = .slice (some ⟨g, 0, none⟩) xs.length cap ∧ base ≤ g ∧ w.heap[g]? = some (.cells cur e (0, 0)) ∧ xs.length ≤ cap ∧ cap ≤ maxLen ∧ cur.size = cap ∧ cur.toList.take xs.length = xs ∧ ∀ u ∈ cur.toList, ∀ k d, u ≠ .int k d
theorem OwnZ.one (w : World) {base : Nat} (hb : base ≤ w.heap.size) (e : TypeId) {u : Value} (hu : ∀ k d, u ≠ .int k d) : OwnZ (w.alloc (.cells #[u] e)) base e (.slice (some ⟨w.heap.size, 0, none⟩) 1 1) [u] :=
  ⟨w.heap.size, 1, #[u], rfl, hb, heap_alloc_new w _, Nat.le_refl _, by decide, rfl, rfl, by simpa using hu⟩
theorem OwnZ.next {w w' : World} {base : Nat} {e : TypeId} {v : Value} {xs : List Value} (h : OwnZ w base e v xs) (hb : Below w.heap.size w w') : OwnZ w' base e v xs := by
  obtain ⟨g, cap, cur, h1, h2, h3, h4⟩ := h
  exact ⟨g, cap, cur, h1, h2, (hb.block g (Array.getElem?_eq_some_iff.1 h3).1).trans h3, h4⟩
theorem OwnZ.shape {w : World} {base : Nat} {e : TypeId} {v : Value} {xs : List Value} (h : OwnZ w base e v xs) : ∃ g cap, v = .slice (some ⟨g, 0, none⟩) xs.length cap := by
  obtain ⟨g, cap, cur, h1, _⟩ := h
  exact ⟨g, cap, h1⟩
theorem OwnZ.cell {w : World} {base g n cap : Nat} {e : TypeId} {xs : List Value} (h : OwnZ w base e (.slice (some ⟨g, 0, none⟩) n cap) xs) {i : Nat} (hi : i < xs.length) : w.cell? ⟨g, i, none⟩ = some xs[i] := by
  obtain ⟨g', cap', cur, h1, h2, h3, h4, h5, h6, h7, h8⟩ := h
  injection h1 with e1 e2 e3
  injection e1 with e1
  injection e1 with e1
  subst e1
  have : cur[i]? = some xs[i] := by
    have h9 : (cur.toList.take xs.length)[i]? = xs[i]? := by rw [h7]
    rw [List.getElem?_take_of_lt hi, List.getElem?_eq_getElem hi] at h9
    simpa using h9
  simp [World.cell?, h3, this]
theorem OwnZ.apart {w : World} {base g n cap : Nat} {e : TypeId} {xs : List Value} (h : OwnZ w base e (.slice (some ⟨g, 0, none⟩) n cap) xs) {b o : Nat} {k : IntKind} {d : Int} (hc : w.cell? ⟨b, o, none⟩ = some (.int k d)) : b ≠ g := by
  obtain ⟨g', cap', cur, h1, h2, h3, h4, h5, h6, h7, h8⟩ := h
  injection h1 with e1 e2 e3
  injection e1 with e1
  injection e1 with e1
  subst e1
  intro e
  subst e
  simp [World.cell?, h3] at hc
  exact h8 _ (Array.mem_toList_iff.2 (Array.mem_of_getElem? hc)) k d rfl
theorem OwnZ.far {w : World} {base g n cap B : Nat} {e : TypeId} {xs : List Value} (h : OwnZ w base e (.slice (some ⟨g, 0, none⟩) n cap) xs) (hne : B ≠ g) (u : Value) : OwnZ (w.setCell ⟨B, 0, none⟩ u) base e (.slice (some ⟨g, 0, none⟩) n cap) xs := by
  obtain ⟨g', cap', cur, h1, h2, h3, h4⟩ := h
  have h1' := h1
  injection h1 with e1 e2 e3
  injection e1 with e1
  injection e1 with e1
  subst e1
  exact ⟨g, cap', cur, h1', h2, (Below.heap_setCell _ _ _ g (Ne.symm hne)).trans h3, h4⟩
/-- the row's growth keeps every number -/
theorem D.keep {w w' : World} {base g n cap : Nat} {e : TypeId} {xs : List Value} (h : OwnZ w base e (.slice (some ⟨g, 0, none⟩) n cap) xs) (hg : w.grownBy w' (some g)) {u : Value} {a : Nat} (hd : D w u a) : D w' u a := by
  refine IsN.grown hd hg fun b o c l hv hn => ?_
  rcases hd with ⟨h0, _⟩ | ⟨h0, b', o', cap', hv', hc⟩
  · omega
  · rw [hv] at hv'
    injection hv' with e1 e2 e3
    injection e1 with e1
    injection e1 with e1 e4
    subst e1; subst e4
    have hnd : 0 < nd 4294967296 a := by
      rcases Nat.eq_zero_or_pos (nd 4294967296 a) with h | h
      · have := nd_lt (by decide : 2 ≤ 4294967296) a
        rw [h] at this
        simp at this
        omega
      · exact h
    exact h.apart (hc 0 hnd)
theorem Nx.keep {w w' : World} {base g n cap : Nat} {e : TypeId} {xs : List Value} (_h : OwnZ w base e (.slice (some ⟨g, 0, none⟩) n cap) xs) (hg : w.grownBy w' (some g)) {B : Nat} {v : Value} (hb : Nx B v w) (hne : B ≠ g) : Nx B v w' :=
  ⟨hg.cell hb.c0 (by simpa using hne), (World.frozen?_of_block (hg.block B hb.lt (by simpa using hne))).trans hb.f0, Nat.lt_of_lt_of_le hb.lt hg.size⟩
theorem zeroCells_slice (n : Nat) : ∀ u ∈ (Builtin.zeroCells #[.slice none 0 0] n).toList, ∀ k d, u ≠ .int k d := by
  intro u hu k d
  simp only [Builtin.zeroCells, Array.toList_map, List.mem_map] at hu
  obtain ⟨i, _, rfl⟩ := hu
  have : i % (#[Value.slice none 0 0] : Array Value).size = 0 := by simp [Nat.mod_one]
  rw [this]
  simp
/-- an append of one element to such a row -/
theorem wp_append_z {w : World} {o : Oper} {a : Go.Act} {K : Go.Act → World → Prop} {Q : Exit → Go.Act → World → Prop} (s x : Operand) (t : TypeId)
    (ho : o.op = .call { callee := .builtin .append, args := #[s, x], argTypes := #[t, t] }) {base : Nat} {e : TypeId} {i : TypeInfo} (ht : Tryz.prog.underlying t = some (.slice e)) (hi : Tryz.prog.info? e = some i) (hz : i.zero = some (.agg #[.slice none 0 0])) (hsz : i.size = 1) (hby : i.bytes ≤ 1000)
    {v u : Value} {xs : List Value} (hs : a.eval s = v) (hown : OwnZ w base e v xs) {ad : Addr} {c : Nat} (hx : a.eval x = .slice (some ad) 1 c) (hu : w.cell? ad = some u) (h1 : u.oneCell' = true) (hq : ∀ k d, u ≠ .int k d) (hlen : xs.length ≤ 1000000) (hb : base ≤ w.heap.size)
    (h : ∀ v' w5, OwnZ w5 base e v' (xs ++ [u]) → (∃ g n cap g' n' cap', v = .slice (some ⟨g, 0, none⟩) n cap ∧ v' = .slice (some ⟨g', 0, none⟩) n' cap' ∧ (g' = g ∨ g' = w.heap.size) ∧ w.grownBy w5 (some g)) → K (a.put o.dst v') w5) : o.wp Tryz.prog a w K Q := by
  have hnews : ∀ j y, [u][j]? = some y → w.cell? (ad.add j) = some y := by
    intro j y hj
    have : j = 0 := by
      have := (List.getElem?_eq_some_iff.1 hj).1
      simp at this; exact this
    subst this
    simp at hj
    subst hj
    rw [show ad.add 0 = ad by simp [Addr.add]]
    exact hu
  obtain ⟨g, cap, cur, rfl, hg, hh, hc, hm, hcs, htk, hno⟩ := hown
  have hcell : ∀ j y, cur.toList[j]? = some y → w.cell? ⟨g, j, none⟩ = some y := fun j y hj => by
    simp [World.cell?, hh]
    simpa using hj
  by_cases hr : xs.length + 1 ≤ cap
  · have hrun := run_append_room_cells (P := Tryz.prog) w t o.type e i ht hi g 0 xs.length cap ad 1 c [u] (by rw [hsz]; rfl) hnews (by simpa using h1) hr (fun j hj => by
        have : j = 0 := by simpa using hj
        subst this
        rw [hsz, Nat.zero_add, Nat.mul_one, Nat.add_zero]
        have hlt : xs.length < cur.toList.length := by simp [hcs]; omega
        rw [hcell xs.length _ (List.getElem?_eq_getElem hlt)]
        rfl) (fun j hj => by simp [World.frozen?, hh])
    rw [hsz, Nat.mul_one, Nat.zero_add] at hrun
    unfold Oper.wp execOp
    simp only [ho, resolve, invoke, builtin, Sem.run_bind, Sem.run_pure, Result.andThen_ok, List.map_toArray, List.map_cons, List.map_nil, hs, hx, hrun]
    refine h _ _ ?_ ⟨g, _, _, g, _, _, rfl, rfl, .inl rfl, ?_⟩
    · refine ⟨g, cap, cur.setIfInBounds xs.length u, by simp, hg, ?_, by simpa using hr, hm, by simpa using hcs, ?_, ?_⟩
      · show (w.setCell ⟨g, xs.length, none⟩ u).heap[g]? = _
        simp [World.setCell, Array.getElem?_modify, hh]
      · have hlt : xs.length < cur.toList.length := by simp [hcs]; omega
        rw [Array.toList_setIfInBounds, List.length_append, List.length_singleton, List.take_add_one, List.getElem?_set_self hlt, List.take_set_of_le (Nat.le_refl _), htk]
        rfl
      · intro y hy
        rw [Array.toList_setIfInBounds] at hy
        rcases List.mem_or_eq_of_mem_set hy with hy | rfl
        · exact hno y hy
        · exact hq
    · exact grownBy_setCell w g xs.length u
  · have hrun := run_append_grow (P := Tryz.prog) w t o.type e i _ ht hi hz ⟨g, 0, none⟩ xs.length cap xs (by rw [hsz, Nat.mul_one]) (fun j y hj => by
        rw [Addr.add_lit, Nat.zero_add]
        refine hcell j y ?_
        have hlt := (List.getElem?_eq_some_iff.1 hj).1
        have hj' : (cur.toList.take xs.length)[j]? = some y := by rw [htk]; exact hj
        rw [List.getElem?_take_of_lt hlt] at hj'
        exact hj') ad 1 c [u] (by rw [hsz]; rfl) hnews (by omega) (by omega) (growslice_fits (by omega) (Nat.le_trans (Nat.mul_le_mul (show xs.length + 1 ≤ 1000001 by omega) hby) (by decide)))
    unfold Oper.wp execOp
    simp only [ho, resolve, invoke, builtin, Sem.run_bind, Sem.run_pure, Result.andThen_ok, List.map_toArray, List.map_cons, List.map_nil, hs, hx, hrun]
    have hge := grownCap_ge w (xs.length + 1) cap e
    have hle := grownCap_le_maxLen w (xs.length + 1) cap e (by simp only [maxLen]; omega)
    refine h _ _ ?_ ⟨g, _, _, _, _, _, rfl, rfl, .inr rfl, ⟨rfl, rfl, rfl, by simp, fun k hk _ => heap_alloc_old w.drew _ hk⟩⟩
    refine ⟨w.heap.size, _, _, by rw [List.length_append, List.length_singleton], hb, heap_alloc_new w.drew _, by rw [List.length_append, List.length_singleton]; exact hge, hle, ?_, ?_, ?_⟩
    · simp only [Array.size_append, List.size_toArray, size_zeroCells, List.length_singleton, Value.cells]
      simp
      omega
    · simp only [Array.toList_append]
      exact List.take_left
    · intro y hy
      simp only [Array.toList_append, List.mem_append] at hy
      rcases hy with (hy | hy) | hy
      · exact hno y (List.mem_of_mem_take (i := xs.length) (by rw [htk]; exact hy))
      · have : y = u := by simpa using hy
        subst this
        exact hq
      · exact zeroCells_slice _ y hy
end Go.Proofs.YtfkogbomijonjaaGreatDoor
namespace Go.Proofs.YtfkogbomijonjaaGreatDoor
open Go Go.RowKit Gu

def divE (b : Nat) : Int := if b = 0 then 11 else 0
def modN (a b : Nat) : Nat := if b = 0 then 0 else a % b
set_option maxHeartbeats 1000000 in
theorem NDivMod_any (v u : Value) (a b : Nat) (w : World) (hv : D w v a) (hu : D w u b) (ha : nd 4294967296 a ≤ 400000) (hb : nd 4294967296 b ≤ 400000) :
    Calls Tryz.prog 46 #[.agg #[v], .agg #[u]] w fun e w' => ∃ q r, e = .returned (.tuple #[.agg #[q], .agg #[r], .int .i64 (divE b)]) ∧ D w' q (a / b) ∧ D w' r (modN a b) ∧ Below w.heap.size w w' := by
  by_cases h0 : b = 0
  · subst h0
    have HZ := Lib.hid (fun W (h : D W u 0) => isZero_any u 0 W h)
    rw [show decide ((0 : Nat) = 0) = true from rfl] at HZ
    have b2 : ∀ o1 o2 o3 o4, Below w.heap.size w ((((w.alloc o1).alloc o2).alloc o3).alloc o4) := fun o1 o2 o3 o4 => ((((Below.refl _ _).alloc (Nat.le_refl _) _).alloc (by simp) _).alloc (by simp; omega) _).alloc (by simp; omega) _
    have HU := Lib.hid (fun o1 o2 o3 o4 => hu.below (b2 o1 o2 o3 o4))
    have HB2 := Lib.hid b2
    obtain ⟨ao, ac, rfl, -⟩ := hv.shape
    obtain ⟨bo, bc, rfl, -⟩ := hu.shape
    clear hv hu b2
    go_enter Tryz.func46, Tryz.ntmps46
    go_wp2_with fail
    refine (HZ.out _ (HU.out _ _ _ _)).mono ?_
    rintro e w1 ⟨rfl, rfl⟩
    go_wp2
    refine bodyPost_ret (v := .tuple #[.agg #[.slice none 0 0], .agg #[.slice none 0 0], .int .i64 11]) (by simp [results, Tryz.results46, go_sem]) rfl ⟨.slice none 0 0, .slice none 0 0, rfl, by rw [Nat.div_zero]; exact IsN.zero _ _ _ _ _, by rw [show modN a 0 = 0 from if_pos rfl]; exact IsN.zero _ _ _ _ _, HB2.out _ _ _ _⟩
  · have HZ := Lib.hid (fun W (h : D W u b) => isZero_any u b W h)
    rw [show decide (b = 0) = false from by simp [h0]] at HZ
    have HE : Hid (divE b = 0 ∧ modN a b = a % b) := ⟨if_neg h0, if_neg h0⟩
    have HD := Lib.hid (fun W (h1 : D W v a) (h2 : D W u b) => divide_long (max (nd 4294967296 a) (nd 4294967296 b)) (by omega) v u a b W h1 h2 (by omega) ((nd_le (by decide)).1 (Nat.le_max_left _ _)) ((nd_le (by decide)).1 (Nat.le_max_right _ _)))
    have b2 : ∀ o1 o2 o3 o4, Below w.heap.size w ((((w.alloc o1).alloc o2).alloc o3).alloc o4) := fun o1 o2 o3 o4 => ((((Below.refl _ _).alloc (Nat.le_refl _) _).alloc (by simp) _).alloc (by simp; omega) _).alloc (by simp; omega) _
    have HV := Lib.hid (fun o1 o2 o3 o4 => hv.below (b2 o1 o2 o3 o4))
    have HU := Lib.hid (fun o1 o2 o3 o4 => hu.below (b2 o1 o2 o3 o4))
    have HB2 := Lib.hid b2
    obtain ⟨ao, ac, rfl, -⟩ := hv.shape
    obtain ⟨bo, bc, rfl, -⟩ := hu.shape
    clear hv hu b2
    go_enter Tryz.func46, Tryz.ntmps46
    go_wp2_with fail
    refine (HZ.out _ (HU.out _ _ _ _)).mono ?_
    rintro e w1 ⟨rfl, rfl⟩
    go_wp2_with fail
    refine (HD.out _ (HV.out _ _ _ _) (HU.out _ _ _ _)).mono ?_
    rintro e w2 ⟨qv, rv, rfl, hq, hr, hbel⟩
    obtain ⟨qo, qc, rfl, -⟩ := hq.shape
    obtain ⟨ro, rc, rfl, -⟩ := hr.shape
    have hcell : ∀ k, (k = w.heap.size + 1 + 1 ∨ k = w.heap.size + 1 + 1 + 1) → w2.cell? ⟨k, 0, none⟩ = some (.slice none 0 0) ∧ w2.frozen? ⟨k, 0, none⟩ = false := by
      intro k hk
      have hl : k < ((((w.alloc (.cells #[.slice ao (nd 4294967296 a) ac] 55)).alloc (.cells #[.slice bo (nd 4294967296 b) bc] 55)).alloc (.cells #[.slice none 0 0] 55)).alloc (.cells #[.slice none 0 0] 55)).heap.size := by simp; omega
      refine ⟨(hbel.cell (p := ⟨k, 0, none⟩) hl).trans ?_, (hbel.frozen (p := ⟨k, 0, none⟩) hl).trans ?_⟩
      · rcases hk with rfl | rfl
        · exact (World.cell?_alloc_past _ _ _ (by simp)).trans (World.cell?_alloc_at _ _ _ _ (by simp))
        · exact World.cell?_alloc_at _ _ _ _ (by simp)
      · rcases hk with rfl | rfl
        · refine (((Below.refl _ _).alloc (Nat.le_refl _) _).frozen (p := ⟨w.heap.size + 1 + 1, 0, none⟩) (by simp)).trans (World.frozen?_alloc_at _ _ _ _ (by simp))
        · exact World.frozen?_alloc_at _ _ _ _ (by simp)
    obtain ⟨c1, f1⟩ := hcell _ (.inl rfl)
    obtain ⟨c2, f2⟩ := hcell _ (.inr rfl)
    have hne : (⟨w.heap.size + 1 + 1, 0, none⟩ : Addr) ≠ ⟨w.heap.size + 1 + 1 + 1, 0, none⟩ := by intro e; injection e with e1; omega
    have q0 : ∀ u u', ((w2.setCell ⟨w.heap.size + 1 + 1, 0, none⟩ u).setCell ⟨w.heap.size + 1 + 1 + 1, 0, none⟩ u').cell? ⟨w.heap.size + 1 + 1, 0, none⟩ = some u := fun u u' => (World.cell?_setCell_other _ _ _ _ (fun e => hne e.symm)).trans (World.cell?_setCell_same _ _ _ c1)
    have d2 : ∀ u, (w2.setCell ⟨w.heap.size + 1 + 1, 0, none⟩ u).cell? ⟨w.heap.size + 1 + 1 + 1, 0, none⟩ = some (.slice none 0 0) := fun u => (World.cell?_setCell_other _ _ _ _ hne).trans c2
    have q1 : ∀ u u', ((w2.setCell ⟨w.heap.size + 1 + 1, 0, none⟩ u).setCell ⟨w.heap.size + 1 + 1 + 1, 0, none⟩ u').cell? ⟨w.heap.size + 1 + 1 + 1, 0, none⟩ = some u' := fun u u' => World.cell?_setCell_same _ _ _ (d2 u)
    have Q0 := Lib.hid q0; have Q1 := Lib.hid q1
    have HQ : Hid (∀ u u', D ((w2.setCell ⟨w.heap.size + 1 + 1, 0, none⟩ u).setCell ⟨w.heap.size + 1 + 1 + 1, 0, none⟩ u') (.slice qo (nd 4294967296 (a / b)) qc) (a / b)) := fun u u' => (hq.setCell c1 (by intro d h; cases h) u).setCell (d2 u) (by intro d h; cases h) u'
    have HR : Hid (∀ u u', D ((w2.setCell ⟨w.heap.size + 1 + 1, 0, none⟩ u).setCell ⟨w.heap.size + 1 + 1 + 1, 0, none⟩ u') (.slice ro (nd 4294967296 (a % b)) rc) (a % b)) := fun u u' => (hr.setCell c1 (by intro d h; cases h) u).setCell (d2 u) (by intro d h; cases h) u'
    have HB := Lib.hid (fun u u' => ((((HB2.out _ _ _ _).trans (hbel.mono (HB2.out _ _ _ _).size)).setCell (p := ⟨w.heap.size + 1 + 1, 0, none⟩) (by show w.heap.size ≤ w.heap.size + 1 + 1; omega) u).setCell (p := ⟨w.heap.size + 1 + 1 + 1, 0, none⟩) (by show w.heap.size ≤ w.heap.size + 1 + 1 + 1; omega) u'))
    clear hq hr hbel hcell q0 q1
    go_wp2
    have q0 := Q0.out; have q1 := Q1.out
    refine bodyPost_ret (v := .tuple #[.agg #[.slice qo (nd 4294967296 (a / b)) qc], .agg #[.slice ro (nd 4294967296 (a % b)) rc], .int .i64 0]) (by simp [results, Tryz.results46, go_sem, q0, q1]) rfl ⟨_, _, by rw [HE.out.1], HQ.out _ _, by rw [HE.out.2]; exact HR.out _ _, HB.out _ _⟩
end Go.Proofs.YtfkogbomijonjaaGreatDoor
namespace Gu

/-- the number of subsets with k elements of a set with n elements -/
def pascalN : Nat → Nat → Nat
  | _, 0 => 1
  | 0, _ + 1 => 0
  | n + 1, k + 1 => pascalN n k + pascalN n (k + 1)
theorem pascalN_zero (n : Nat) : pascalN n 0 = 1 := by cases n <;> rfl
theorem pascalN_succ (n k : Nat) : pascalN (n + 1) (k + 1) = pascalN n k + pascalN n (k + 1) := rfl
theorem pascalN_gt : ∀ {n k : Nat}, n < k → pascalN n k = 0
  | 0, k + 1, _ => rfl
  | n + 1, k + 1, h => by rw [pascalN_succ, pascalN_gt (by omega), pascalN_gt (by omega)]
  | _, 0, h => by omega
theorem pascalN_self : ∀ n : Nat, pascalN n n = 1
  | 0 => rfl
  | n + 1 => by rw [pascalN_succ, pascalN_self n, pascalN_gt (by omega)]
/-- the next coefficient of a row -/
theorem pascalN_next : ∀ n k : Nat, k ≤ n → pascalN n (k + 1) * (k + 1) = pascalN n k * (n - k)
  | 0, 0, _ => rfl
  | n + 1, 0, _ => by
    have h := pascalN_next n 0 (Nat.zero_le _)
    rw [pascalN_zero] at h ⊢
    rw [pascalN_succ, pascalN_zero]
    omega
  | n + 1, k + 1, h => by
    rcases Nat.eq_or_lt_of_le h with h1 | h1
    · have : k = n := by omega
      subst this
      rw [pascalN_gt (by omega)]
      simp
    · have e1 := pascalN_next n k (by omega)
      have e2 := pascalN_next n (k + 1) (by omega)
      have e3 : n + 1 - (k + 1) = (n - (k + 1)) + 1 := by omega
      have e4 : pascalN n (k + 1) * (k + 1 + 1) = pascalN n (k + 1) * (k + 1) + pascalN n (k + 1) := Nat.mul_succ _ _
      have e5 : pascalN n (k + 1) * ((n - (k + 1)) + 1) = pascalN n (k + 1) * (n - (k + 1)) + pascalN n (k + 1) := Nat.mul_succ _ _
      have e6 : n - k = (n - (k + 1)) + 1 := by omega
      rw [e6] at e1
      rw [pascalN_succ n (k + 1), pascalN_succ n k, e3, Nat.add_mul, Nat.add_mul, e2, e4, e5, e1]
      omega
theorem pascalN_div {n k : Nat} (h : k ≤ n) : pascalN n k * (n - k) / (k + 1) = pascalN n (k + 1) := by
  rw [← pascalN_next n k h, Nat.mul_div_cancel _ (by omega)]
theorem pascalN_le : ∀ n k : Nat, pascalN n k ≤ 2 ^ n
  | n, 0 => by rw [pascalN_zero]; exact Nat.pow_pos (by decide)
  | 0, k + 1 => by rw [pascalN_gt (by omega)]; omega
  | n + 1, k + 1 => by
    have h1 := pascalN_le n k
    have h2 := pascalN_le n (k + 1)
    rw [pascalN_succ, Nat.pow_succ]; omega
theorem pascalN_symm : ∀ n k : Nat, k ≤ n → pascalN n k = pascalN n (n - k)
  | 0, 0, _ => rfl
  | n + 1, 0, _ => by rw [pascalN_zero, Nat.sub_zero, pascalN_self]
  | n + 1, k + 1, h => by
    rcases Nat.eq_or_lt_of_le h with h1 | h1
    · have : k = n := by omega
      subst this
      rw [pascalN_self, Nat.sub_self, pascalN_zero]
    · rw [pascalN_succ, show n + 1 - (k + 1) = (n - (k + 1)) + 1 from by omega, pascalN_succ, pascalN_symm n k (by omega), pascalN_symm n (k + 1) (by omega), show n - (k + 1) + 1 = n - k from by omega]
      omega
theorem pascalN_min {n k : Nat} (h : k ≤ n) : pascalN n (min k (n - k)) = pascalN n k := by
  rcases Nat.le_total k (n - k) with h1 | h1
  · rw [Nat.min_eq_left h1]
  · rw [Nat.min_eq_right h1, ← pascalN_symm n k h]
end Gu
namespace Go.Proofs.YtfkogbomijonjaaGreatDoor
open Go Go.RowKit Gu

theorem pow_nd {x a m : Nat} (h : x < 2 ^ a) (ha : a ≤ 32 * m) : nd 4294967296 x ≤ m := by
  apply (nd_le (by decide)).2
  rw [show (4294967296 : Nat) = 2 ^ 32 from by decide, ← Nat.pow_mul]
  exact Nat.lt_of_lt_of_le h (Nat.pow_le_pow_right (by decide) ha)
theorem pascalN_nd {n k : Nat} (hn : n ≤ 4096) : nd 4294967296 (pascalN n k) ≤ 129 ∧ nd 2 (pascalN n k) ≤ 4097 := by
  have h := pascalN_le n k
  have h2 : pascalN n k < 2 ^ (n + 1) := by rw [Nat.pow_succ]; have := Nat.pow_pos (n := n) (show 0 < 2 by decide); omega
  have h3 : nd 2 (pascalN n k) ≤ n + 1 := (nd_le (by decide)).2 h2
  refine ⟨?_, by omega⟩
  exact pow_nd h2 (by omega)
def binE (n k : Int) : Int := if n < 0 ∨ 4096 < n ∨ k < 0 then 2 else 0
def binN (n k : Int) : Nat := if n < 0 ∨ 4096 < n ∨ k < 0 then 0 else pascalN n.toNat k.toNat
/-- what the loop of Binomial keeps -/
def BinRel (n i : Nat) (w0 : World) (rv : Value) (wr : World) : Prop := D wr rv (pascalN n i) ∧ Below w0.heap.size w0 wr
set_option maxHeartbeats 1000000 in
set_option maxRecDepth 100000 in
theorem Binomial_pos (n k : Nat) (w : World) (hn : n ≤ 4096) (hk : k ≤ n) :
    Calls Tryz.prog 48 #[.int .i64 n, .int .i64 k] w fun e w' => ∃ r, e = .returned (.tuple #[.agg #[r], .int .i64 0]) ∧ D w' r (pascalN n k) ∧ Below w.heap.size w w' := by
  have HDO := Lib.hid (fun (x : Nat) w (h : x < 2 ^ 64) => digitsOf_any x w h)
  obtain ⟨m, hm⟩ : ∃ m, m = min k (n - k) := ⟨_, rfl⟩
  have HM : Hid (pascalN n m = pascalN n k) := by show _ = _; rw [hm]; exact pascalN_min hk
  have hmn : m ≤ n := by omega
  have hmi : min (k : Int) ((n : Int) - k) = m := by omega
  have h1 : ¬ ((n : Int) < 0) := by omega
  have h2 : ¬ ((4096 : Int) < n) := by omega
  have h3 : ¬ ((k : Int) < 0) := by omega
  have h4 : ¬ ((n : Int) < k) := by omega
  clear hm
  go_enter Tryz.func48, Tryz.ntmps48
  go_wp2_with fail
  refine (HDO.out 1 _ (by decide)).mono ?_
  rintro e w1 ⟨v, rfl, hv, hb⟩
  obtain ⟨vo, vc, rfl, -⟩ := hv.shape
  have HST : Hid (BinRel n 0 (w.alloc (.cells #[.slice none 0 0] 55)) (.slice vo (nd 4294967296 1) vc) w1) := ⟨by rw [pascalN_zero]; exact hv, hb⟩
  have HB0 : Hid (Below w.heap.size w (w.alloc (.cells #[.slice none 0 0] 55))) := (Below.refl _ _).alloc (Nat.le_refl _) _
  clear hv hb
  go_wp2
  go_loopw [6, 29] (fun rv t wr => ∃ i : Nat, i ≤ m ∧ t = .int .i64 i ∧ BinRel n i (w.alloc (.cells #[.slice none 0 0] 55)) rv wr) (fun _ t _ => m - (intOf t).toNat)
  case atStart => exact ⟨0, Nat.zero_le _, rfl, HST.out⟩
  case round =>
    obtain ⟨i, hi, rfl, hrel⟩ := hrel
    have HR := Lib.hid hrel
    obtain ⟨r0, rc, rfl, -⟩ := hrel.1.shape
    clear hrel
    have hci := pascalN_nd (n := n) (k := i) hn
    have hnd := Lib.hid hci.1
    by_cases hlt : i < m
    · have him : (i : Int) < m := by omega
      have hni : (n : Int) - i = ((n - i : Nat) : Int) := by omega
      have HNI := Lib.hid hni
      have HD1 := Lib.hid (HDO.out (n - i) wr (by omega))
      have HP := Lib.hid (fun v W (h1 : D W (.slice r0 (nd 4294967296 (pascalN n i)) rc) (pascalN n i)) (h2 : D W v (n - i)) => product_any _ v _ _ W h1 h2 (by omega) (by have h3 := (nd_le (B := 4294967296) (n := n - i) (k := 1) (by decide)).2 (by omega); omega))
      have HQ := Lib.hid (fun v W (h1 : D W v (pascalN n i * (n - i))) => divideByDigit_any v _ (i + 1) W h1 (by have h3 := nd_mul (a := pascalN n i) (b := n - i) (m := 129) (k := 1) hci.1 ((nd_le (by decide)).2 (by omega)); omega) (by omega) (by omega))
      rw [pascalN_div (by omega)] at HQ
      clear hni
      go_wp2_with fail
      rw [HNI.out]
      refine HD1.out.mono ?_
      rintro e w2 ⟨dv, rfl, hd, hb2⟩
      obtain ⟨d0, dc, rfl, -⟩ := hd.shape
      have HP2 := Lib.hid (HP.out _ _ (HR.out.1.below hb2) hd)
      have HB2 := Lib.hid (HR.out.2.trans (hb2.mono HR.out.2.size))
      clear hd hb2 HP HD1
      go_wp2_with fail
      refine HP2.out.mono ?_
      rintro e w3 ⟨pv, rfl, hp, hb3⟩
      obtain ⟨p0, pc, rfl, -⟩ := hp.shape
      have HQ2 := Lib.hid (HQ.out _ _ hp)
      have HB3 := Lib.hid (HB2.out.trans (hb3.mono HB2.out.size))
      clear hp hb3 HP2 HQ HB2
      go_wp2_with fail
      refine HQ2.out.mono ?_
      rintro e w4 ⟨qv, rfl, hq, hb4⟩
      obtain ⟨q0, qc, rfl, -⟩ := hq.shape
      have HN : Hid (BinRel n (i + 1) (w.alloc (.cells #[.slice none 0 0] 55)) (.slice q0 (nd 4294967296 (pascalN n (i + 1))) qc) w4) := ⟨hq, HB3.out.trans (hb4.mono HB3.out.size)⟩
      clear hq hb4 HQ2 HB3 HR
      go_wp2
      go_roundw
      case rel => exact ⟨i + 1, by omega, by go_num, HN.out⟩
      case measure => simp [intOf]; omega
    · obtain rfl : i = m := by omega
      have HF := Lib.hid (fitting_any (.slice r0 (nd 4294967296 (pascalN n i)) rc) (pascalN n i) wr HR.out.1 (by omega))
      have hfe : fitE (pascalN n i) = 0 ∧ fitN (pascalN n i) = pascalN n i := ⟨if_pos (by omega), if_pos (by omega)⟩
      rw [hfe.1, hfe.2] at HF
      clear hfe hlt hci
      obtain ⟨c, hc⟩ : ∃ c, c = pascalN n i := ⟨_, rfl⟩
      have HC := Lib.hid hc
      rw [← hc] at HF ⊢
      clear hc
      go_wp2_with fail
      refine HF.out.mono ?_
      rintro e w2 ⟨fv, rfl, hfv, hb2⟩
      obtain ⟨f0, fc, rfl, -⟩ := hfv.shape
      have hbb := HR.out.2.trans (hb2.mono HR.out.2.size)
      have hcell : w2.cell? ⟨w.heap.size, 0, none⟩ = some (.slice none 0 0) := (hbb.cell (p := ⟨w.heap.size, 0, none⟩) (by simp)).trans (World.cell?_alloc_at _ _ _ _ rfl)
      have hfr : w2.frozen? ⟨w.heap.size, 0, none⟩ = false := (hbb.frozen (p := ⟨w.heap.size, 0, none⟩) (by simp)).trans (World.frozen?_alloc_at _ _ _ _ rfl)
      have HV := Lib.hid hfv
      have HCE := Lib.hid hcell
      have HBE := Lib.hid (HB0.out.trans (hbb.mono HB0.out.size))
      clear hfv hb2 hbb
      go_wp2
      refine bodyPost_ret (v := .tuple #[.agg #[.slice f0 (nd 4294967296 c) fc], .int .i64 0]) (by simp [results, Tryz.results48, go_sem, hcell]) rfl ⟨_, rfl, by rw [← HM.out, ← HC.out]; exact HV.out.setCell HCE.out (by intro d h; cases h) _, HBE.out.setCell (Nat.le_refl _) _⟩
set_option maxHeartbeats 1000000 in
theorem Binomial_any (n k : Int) (w : World) (hn : n ≤ 9223372036854775807) (hk : k ≤ 9223372036854775807) :
    Calls Tryz.prog 48 #[.int .i64 n, .int .i64 k] w fun e w' => ∃ r, e = .returned (.tuple #[.agg #[r], .int .i64 (binE n k)]) ∧ D w' r (binN n k) ∧ Below w.heap.size w w' := by
  by_cases hbad : n < 0 ∨ 4096 < n ∨ k < 0
  · rw [show binE n k = 2 from if_pos hbad, show binN n k = 0 from if_pos hbad]
    have hb : ∀ o, Below w.heap.size w (w.alloc o) := fun o => (Below.refl _ _).alloc (Nat.le_refl _) _
    have HB := Lib.hid hb
    clear hb
    by_cases h1 : n < 0
    · clear hbad
      go_enter Tryz.func48, Tryz.ntmps48
      go_wp2
      refine bodyPost_ret (v := .tuple #[.agg #[.slice none 0 0], .int .i64 2]) (by simp [results, Tryz.results48, go_sem]) rfl ⟨_, rfl, IsN.zero _ _ _ _ _, HB.out _⟩
    · by_cases h2 : 4096 < n
      · clear hbad
        go_enter Tryz.func48, Tryz.ntmps48
        go_wp2
        refine bodyPost_ret (v := .tuple #[.agg #[.slice none 0 0], .int .i64 2]) (by simp [results, Tryz.results48, go_sem]) rfl ⟨_, rfl, IsN.zero _ _ _ _ _, HB.out _⟩
      · have h3 : k < 0 := by omega
        clear hbad
        go_enter Tryz.func48, Tryz.ntmps48
        go_wp2
        refine bodyPost_ret (v := .tuple #[.agg #[.slice none 0 0], .int .i64 2]) (by simp [results, Tryz.results48, go_sem]) rfl ⟨_, rfl, IsN.zero _ _ _ _ _, HB.out _⟩
  · rw [show binE n k = 0 from if_neg hbad, show binN n k = pascalN n.toNat k.toNat from if_neg hbad]
    obtain ⟨m, rfl⟩ : ∃ m : Nat, n = m := ⟨n.toNat, by omega⟩
    obtain ⟨j, rfl⟩ : ∃ j : Nat, k = j := ⟨k.toNat, by omega⟩
    rw [Int.toNat_natCast, Int.toNat_natCast]
    by_cases hgt : m < j
    · have HZ : Hid (pascalN m j = 0) := pascalN_gt hgt
      have hb : ∀ o, Below w.heap.size w (w.alloc o) := fun o => (Below.refl _ _).alloc (Nat.le_refl _) _
      have HB := Lib.hid hb
      have h1 : ¬ ((m : Int) < 0) := by omega
      have h2 : ¬ ((4096 : Int) < m) := by omega
      have h3 : ¬ ((j : Int) < 0) := by omega
      have h4 : (m : Int) < j := by omega
      clear hb hbad
      go_enter Tryz.func48, Tryz.ntmps48
      go_wp2
      refine bodyPost_ret (v := .tuple #[.agg #[.slice none 0 0], .int .i64 0]) (by simp [results, Tryz.results48, go_sem]) rfl ⟨_, rfl, by rw [HZ.out]; exact IsN.zero _ _ _ _ _, HB.out _⟩
    · exact Binomial_pos m j w (by omega) (by omega)
end Go.Proofs.YtfkogbomijonjaaGreatDoor
namespace Go.Proofs.YtfkogbomijonjaaGreatDoor
open Go Go.RowKit Gu

theorem infoNat : (Tryz.prog.info? 55).map (fun i => (i.zero, i.size, i.bytes)) = some (some (.agg #[.slice none 0 0]), 1, 24) := by kernel_rfl
/-- a row of numbers -/
def NRow (W : World) (v : Value) (m : Nat) (f : Nat → Nat) : Prop := ∃ base xs, xs.length = m ∧ OwnZ W base 55 v xs ∧ ∀ i (h : i < xs.length), D W xs[i] (f i)
theorem NRow.below {W W' : World} {v : Value} {m : Nat} {f : Nat → Nat} (h : NRow W v m f) (hb : Below W.heap.size W W') : NRow W' v m f := by
  obtain ⟨base, xs, h1, h2, h3⟩ := h
  exact ⟨base, xs, h1, h2.next hb, fun i hi => (h3 i hi).below hb⟩
/-- what the loop of subsets keeps -/
structure Sub (w : World) (n Bc j g cap : Nat) (W : World) : Prop where
  bel : Below w.heap.size w W
  row : ∃ xs : List Value, xs.length = j + 1 ∧ OwnZ W w.heap.size 55 (.slice (some ⟨g, 0, none⟩) (j + 1) cap) xs ∧ ∀ i (h : i < xs.length), D W xs[i] (pascalN n i)
  box : ∃ u, Nx Bc u W ∧ D W u (pascalN n j)
  ne : Bc ≠ g
  ge : w.heap.size ≤ Bc
/-- more than any number of samples -/
def big : Nat := 2 ^ 2048 * 4096
theorem big_pow : ∀ K : Nat, K = 2060 → 2 ^ K ≤ big := fun _ e => by subst e; unfold big; decide +kernel
theorem bits_of {x : Nat} (h : x ≤ big) : nd 2 x ≤ 16384 ∧ nd 4294967296 x ≤ 400000 := by
  unfold big at h
  have h4 : (2 : Nat) ^ 2048 * 4096 < 2 ^ 2061 := by decide +kernel
  have h5 : (2 : Nat) ^ 2061 ≤ 4294967296 ^ 100 := by decide +kernel
  exact ⟨Nat.le_trans ((nd_le (by decide)).2 (Nat.lt_of_le_of_lt h h4)) (by decide), Nat.le_trans ((nd_le (by decide)).2 (Nat.lt_of_lt_of_le (Nat.lt_of_le_of_lt h h4) h5)) (by decide)⟩
theorem le_big {x k : Nat} (h : x ≤ 2 ^ k) (hk : k ≤ 2060) : x ≤ big := by
  obtain ⟨K, hK⟩ : ∃ K : Nat, K = 2060 := ⟨_, rfl⟩
  exact Nat.le_trans h (Nat.le_trans (Nat.pow_le_pow_right (by decide) (by rw [hK]; exact hk)) (big_pow K hK))
theorem D.bits {n k : Nat} (hn : n ≤ 2048) (m : Nat) (hm : m ≤ 2048) : nd 4294967296 (pascalN n k) ≤ 400000 ∧ nd 2 (pascalN n k * m) ≤ 16384 ∧ nd 4294967296 (pascalN n k * m) ≤ 400000 := by
  have h1 : pascalN n k ≤ big := le_big (pascalN_le n k) (by omega)
  have h2 : pascalN n k * m ≤ 2 ^ (n + 11) := by
    rw [Nat.pow_add]; exact Nat.mul_le_mul (pascalN_le n k) (Nat.le_trans hm (by decide))
  have h3 : pascalN n k * m ≤ big := le_big h2 (by omega)
  exact ⟨(bits_of h1).2, bits_of h3⟩
theorem wpList_append_z {w : World} {ops : Array Oper} {rest : List Oper} {o : Oper} {a : Go.Act} {Q : Exit → Go.Act → World → Prop} (hgd : o.guard = none) (s x : Operand) (t : TypeId)
    (ho : o.op = .call { callee := .builtin .append, args := #[s, x], argTypes := #[t, t] }) {base : Nat} {e : TypeId} {i : TypeInfo} (ht : Tryz.prog.underlying t = some (.slice e)) (hi : Tryz.prog.info? e = some i) (hz : i.zero = some (.agg #[.slice none 0 0])) (hsz : i.size = 1) (hby : i.bytes ≤ 1000)
    {v u : Value} {xs : List Value} (hs : a.eval s = v) (hown : OwnZ w base e v xs) {ad : Addr} {c : Nat} (hx : a.eval x = .slice (some ad) 1 c) (hu : w.cell? ad = some u) (h1 : u.oneCell' = true) (hq : ∀ k d, u ≠ .int k d) (hlen : xs.length ≤ 1000000) (hb : base ≤ w.heap.size)
    (h : ∀ v' w5, OwnZ w5 base e v' (xs ++ [u]) → (∃ g n cap g' n' cap', v = .slice (some ⟨g, 0, none⟩) n cap ∧ v' = .slice (some ⟨g', 0, none⟩) n' cap' ∧ (g' = g ∨ g' = w.heap.size) ∧ w.grownBy w5 (some g)) → wpList Tryz.prog ops Q rest (a.put o.dst v') w5) : wpList Tryz.prog ops Q (o :: rest) a w :=
  wpList_plain hgd fun _ hK => wp_append_z s x t ho ht hi hz hsz hby hs hown hx hu h1 hq hlen hb fun v' w5 h1 h2 => hK _ _ (h v' w5 h1 h2)
theorem Sub.next {w : World} {n Bc j g cap : Nat} {W W' : World} (h : Sub w n Bc j g cap W) (hb : Below W.heap.size W W') : Sub w n Bc j g cap W' := by
  obtain ⟨h1, ⟨xs, x1, x2, x3⟩, ⟨u, u1, u2⟩, h4, h5⟩ := h
  exact ⟨h1.trans (hb.mono h1.size), ⟨xs, x1, x2.next hb, fun i hi => (x3 i hi).below hb⟩, ⟨u, u1.next hb, u2.below hb⟩, h4, h5⟩
/-- one round of the loop of subsets: the box is set, the row grows -/
theorem Sub.step {w : World} {n Bc j g cap : Nat} {W W2 W3 : World} {q v' : Value} {xs : List Value} {T : TypeId} (h : Sub w n Bc j g cap W) (hxs : xs.length = j + 1) (hrow : OwnZ W w.heap.size 55 (.slice (some ⟨g, 0, none⟩) (j + 1) cap) xs) (hD : ∀ i (h : i < xs.length), D W xs[i] (pascalN n i)) (hq : D W q (pascalN n (j + 1)))
    (h2 : W2 = (W.setCell ⟨Bc, 0, none⟩ q).alloc (.cells #[q] T)) (hown : OwnZ W3 w.heap.size 55 v' (xs ++ [q])) {g' n' cap' : Nat} (hv : v' = .slice (some ⟨g', 0, none⟩) n' cap') (hg' : g' = g ∨ g' = W2.heap.size) (hgr : W2.grownBy W3 (some g)) : n' = j + 1 + 1 ∧ Sub w n Bc (j + 1) g' cap' W3 := by
  obtain ⟨u, hu, -⟩ := h.box
  have hne := h.ne
  have hnx : ∀ d : Int, u ≠ .int .u32 d := by
    intro d e
    subst e
    obtain ⟨u', hu', hd'⟩ := h.box
    have := hu.c0.symm.trans hu'.c0
    injection this with this
    subst this
    rcases hd' with ⟨_, _, _, e⟩ | ⟨_, _, _, _, e, _⟩ <;> cases e
  have hset : ∀ {y : Value} {a : Nat}, D W y a → D W2 y a := fun {y a} hd => by rw [h2]; exact (hd.setCell hu.c0 hnx q).below (alloc1_below _ _)
  have hrow2 : OwnZ W2 w.heap.size 55 (.slice (some ⟨g, 0, none⟩) (j + 1) cap) xs := by rw [h2]; exact (hrow.far hne q).next (alloc1_below _ _)
  have hbx2 : Nx Bc q W2 := by
    rw [h2]
    refine Nx.next ⟨World.cell?_setCell_same _ _ _ hu.c0, (World.frozen?_setCell _ _ _ _).trans hu.f0, by rw [World.size_setCell]; exact hu.lt⟩ (alloc1_below _ _)
  have hb2 : Below w.heap.size w W2 := by rw [h2]; exact (h.bel.setCell (p := ⟨Bc, 0, none⟩) h.ge q).alloc (by rw [World.size_setCell]; exact h.bel.size) _
  have hk : ∀ {y : Value} {a : Nat}, D W y a → D W3 y a := fun {y a} hd => D.keep hrow2 hgr (hset hd)
  have hgb : w.heap.size ≤ g := by
    obtain ⟨g1, c1, cur, e1, e2, _⟩ := hrow
    injection e1 with e1
    injection e1 with e1
    injection e1 with e1
    subst e1; exact e2
  subst hv
  have hn' : n' = (xs ++ [q]).length := by
    obtain ⟨g1, c1, cur, e1, _⟩ := hown
    injection e1
  rw [List.length_append, List.length_singleton, hxs] at hn'
  subst hn'
  refine ⟨rfl, hb2.grown hgr hb2.size (fun k hk => by cases hk; exact hgb), ⟨xs ++ [q], by rw [List.length_append, List.length_singleton, hxs], hown, fun i hi => ?_⟩, ⟨q, Nx.keep hrow2 hgr hbx2 hne, hk hq⟩, ?_, h.ge⟩
  · by_cases hlt : i < xs.length
    · rw [List.getElem_append_left hlt]
      exact hk (hD i hlt)
    · have : i = j + 1 := by rw [List.length_append, List.length_singleton] at hi; omega
      subst this
      rw [List.getElem_append_right (by omega)]
      simp only [hxs, Nat.sub_self, List.getElem_cons_zero]
      exact hk hq
  · rcases hg' with rfl | rfl
    · exact hne
    · exact Nat.ne_of_lt hbx2.lt
set_option maxRecDepth 100000 in
set_option maxHeartbeats 4000000 in
theorem subsets_any (n : Nat) (w : World) (hn : n ≤ 2048) :
    Calls Tryz.prog 27 #[.int .i64 n] w fun e w' => ∃ v, e = .returned v ∧ Hid (NRow w' v (n + 1) (pascalN n)) ∧ Below w.heap.size w w' := by
  obtain ⟨i0, hi0, hz0, hz1, hz2⟩ := info_parts infoNat
  have HNW := Lib.hid (New_any 1 w (by decide))
  go_enter Tryz.func27, Tryz.ntmps27
  go_wp2_with fail
  refine HNW.out.mono ?_
  rintro e w1 ⟨u, rfl, hu, hb⟩
  obtain ⟨w2, HW2⟩ : ∃ w2, w2 = w1.alloc (.cells #[u] 55) := ⟨_, rfl⟩
  have b2 : Below w1.heap.size w1 w2 := by rw [HW2]; exact alloc1_below _ _
  have b12 := hb.trans (b2.mono hb.size)
  have n2 : Nx w1.heap.size u w2 := by rw [HW2]; exact Nx.new w1 u _
  have HU2 := Lib.hid (hu.below b2)
  obtain ⟨uo, uc, rfl, -⟩ := hu.shape
  have hs2 : w1.heap.size < w2.heap.size := by rw [HW2]; simp
  have HW2' := Lib.hid HW2
  have HSB : Hid (Sub w n w1.heap.size 0 w2.heap.size 1 (w2.alloc (.cells #[.slice uo (nd 4294967296 1) uc] 55))) := by
    refine ⟨b12.alloc b12.size _, ⟨[.slice uo (nd 4294967296 1) uc], rfl, OwnZ.one w2 b12.size _ (by intro k d h; cases h), fun i hi => ?_⟩, ⟨_, n2.next (alloc1_below _ _), ?_⟩, Nat.ne_of_lt hs2, hb.size⟩
    · have : i = 0 := by simpa using hi
      subst this
      rw [pascalN_zero]
      exact HU2.out.below (alloc1_below _ _)
    · rw [pascalN_zero]
      exact HU2.out.below (alloc1_below _ _)
  have k0 := n2.c0
  clear hb b2 b12 n2 hu HW2 hs2
  go_upto_region 2 with fail
  rw [← HW2'.out]
  go_wp2_with fail
  clear k0
  go_loopw [5, 6, 7, 8, 16] (fun s5 _ _ _ i wr => ∃ j g cap : Nat, j ≤ n ∧ i = .int .i64 j ∧ s5 = .slice (some ⟨g, 0, none⟩) (j + 1) cap ∧ Hid (Sub w n w1.heap.size j g cap wr)) (fun _ _ _ _ i _ => n - (intOf i).toNat)
  case atStart => exact ⟨0, _, _, by omega, rfl, rfl, HSB⟩
  case round =>
    obtain ⟨j, g, cap, hj, rfl, rfl, HS⟩ := hrel
    by_cases hlt : j < n
    · have hj2 : (j : Int) < n := by omega
      have hj1 : IntKind.i64.wrap ((j : Int) + 1) = j + 1 := IntWalk.i64_in _ (by omega)
      have hnj : IntKind.i64.wrap ((n : Int) - j) = n - j := IntWalk.i64_in _ (by omega)
      have HNW2 : Hid (Calls Tryz.prog 45 #[.int .i64 ((j : Int) + 1)] wr fun e w' => ∃ v, e = .returned (.tuple #[.agg #[v], .int .i64 0]) ∧ D w' v (j + 1) ∧ Below wr.heap.size wr w') := by
        have := New_any (j + 1) wr (by omega)
        rwa [show ((j + 1 : Nat) : Int) = (j : Int) + 1 by omega] at this
      go_wp2_with fail
      refine HNW2.out.mono ?_
      rintro e w4 ⟨x, rfl, hx, hb⟩
      obtain ⟨w5, HW5⟩ : ∃ w5, w5 = w4.alloc (.cells #[x] 55) := ⟨_, rfl⟩
      have b5 : Below w4.heap.size w4 w5 := by rw [HW5]; exact alloc1_below _ _
      have b45 := hb.trans (b5.mono hb.size)
      have HS5 := Lib.hid (HS.out.next b45)
      have HX5 := Lib.hid (hx.below b5)
      have n5 : Nx w4.heap.size x w5 := by rw [HW5]; exact Nx.new w4 x _
      obtain ⟨xo, xc, rfl, -⟩ := hx.shape
      obtain ⟨u, hbx, hu⟩ := HS5.out.box
      obtain ⟨d1, d2, d3⟩ := D.bits (k := j) hn (n - j) (by omega)
      have HT : Hid (∀ W', Below w5.heap.size w5 W' → Calls Tryz.prog 31 #[.agg #[u], .int .i64 ((n : Int) - j)] W' fun e w' => ∃ r, e = .returned (.agg #[r]) ∧ Hid (D w' r (pascalN n j * (n - j))) ∧ Below w5.heap.size w5 w') := fun W' h => by
        have := times_any u (pascalN n j) (n - j) W' (hu.below h) (by omega) d1 d2
        rw [show ((n - j : Nat) : Int) = (n : Int) - j by omega] at this
        exact this.mono fun e w' ⟨r, h1, h2, h3⟩ => ⟨r, h1, h2, h.trans (h3.mono h.size)⟩
      have HDM : Hid (∀ W' r, Below w5.heap.size w5 W' → D W' r (pascalN n j * (n - j)) → Calls Tryz.prog 46 #[.agg #[r], .agg #[.slice xo (nd 4294967296 (j + 1)) xc]] W' fun e w' => ∃ q rr, e = .returned (.tuple #[.agg #[q], .agg #[rr], .int .i64 0]) ∧ Hid (D w' q (pascalN n (j + 1))) ∧ Below w5.heap.size w5 w') := fun W' r h hr => by
        have := NDivMod_any r (.slice xo (nd 4294967296 (j + 1)) xc) (pascalN n j * (n - j)) (j + 1) W' hr (HX5.out.below h) d3 (Nat.le_trans ((nd_le (by decide)).2 (show j + 1 < 4294967296 ^ 1 by omega)) (by decide))
        rw [show divE (j + 1) = 0 from if_neg (by omega), pascalN_div (by omega)] at this
        exact this.mono fun e w' ⟨q, rr, h1, h2, _, h3⟩ => ⟨q, rr, h1, h2, h.trans (h3.mono h.size)⟩
      have HCE : Hid (∀ W', Below w5.heap.size w5 W' → W'.cell? ⟨w1.heap.size, 0, none⟩ = some u ∧ W'.cell? ⟨w4.heap.size, 0, none⟩ = some (.slice xo (nd 4294967296 (j + 1)) xc) ∧ W'.frozen? ⟨w1.heap.size, 0, none⟩ = false) := fun W' h => ⟨(hbx.next h).c0, (n5.next h).c0, (hbx.next h).f0⟩
      obtain ⟨uo, uc, hue, -⟩ := hu.shape
      subst hue
      have HW5' := Lib.hid HW5
      clear hb b5 b45 HW5 n5 hbx hu hx d1 d2 d3
      go_upto_region 7 with fail
      rw [← HW5'.out]
      have hs : Below w5.heap.size w5 w5 := Below.refl _ _
      have hs2 := hs.drew
      have hc0 := HCE.out _ hs
      have hc1 := HCE.out _ hs2
      go_region_with (first | (go_at_call 31; with_reducible refine (HT.out _ ?h).mono ?_; (case h => assumption); rintro e w' ⟨r, rfl, hr, hs1'⟩; have hc1' := HCE.out _ hs1'; obtain ⟨ro, rc, hre, -⟩ := hr.out.shape; subst hre) | (go_at_call 46; with_reducible refine (HDM.out _ _ ?h ?h2).mono ?_; (case h => assumption); (case h2 => exact hr.out); rintro e w' ⟨q, rr, rfl, hq, hs2'⟩; have hc2' := HCE.out _ hs2'; obtain ⟨qo, qc, hqe, -⟩ := hq.out.shape; subst hqe) | fail)
      all_goals
        have HSW := Lib.hid (HS5.out.next hs2')
        have k1 := World.cell?_setCell_same _ ⟨w1.heap.size, 0, none⟩ (.slice qo (nd 4294967296 (pascalN n (j + 1))) qc) hc2'.1
        obtain ⟨xs, x1, x2, x3⟩ := HSW.out.row
        have HX1 := Lib.hid x1; have HX2 := Lib.hid x2; have HX3 := Lib.hid x3
        clear x1 x2 x3
        go_wp2_with (at_builtin; refine wpList_append_z (v := .slice (some ⟨g, 0, none⟩) (j + 1) cap) (xs := xs) (u := .slice qo (nd 4294967296 (pascalN n (j + 1))) qc) (base := w.heap.size) rfl _ _ 43 rfl Tryz.underlying43 hi0 hz0 hz1 ?c0 rfl ?c1 rfl ?c2 rfl ?c3 ?c4 ?c5 ?_)
        case c0 => rw [hz2]; decide
        case c1 => exact (HX2.out.far HSW.out.ne _).next (alloc1_below _ _)
        case c2 => exact World.cell?_alloc_at _ _ _ _ (World.size_setCell _ _ _).symm
        case c3 => intro k d h; cases h
        case c4 => rw [HX1.out]; omega
        case c5 => exact Nat.le_trans HSW.out.bel.size (by simp)
        intro v' w9 hown g' n' cap' e1 hg' hgr
        have hst := Sub.step HSW.out HX1.out HX2.out HX3.out hq.out rfl hown e1 (by simpa using hg') hgr
        subst e1
        obtain ⟨rfl, hS⟩ := hst
        have HS9 := Lib.hid hS
        clear hg' hgr hown hS k1
        go_wp2_with fail
        go_roundw
        case rel => exact ⟨j + 1, g', cap', by omega, by go_num, rfl, HS9⟩
        case measure => simp [intOf]; omega
    · have hjn : j = n := by omega
      have hlt' : ¬ ((j : Int) < n) := by omega
      subst hjn
      go_wp2_with fail
      go_ret
      obtain ⟨xs, x1, x2, x3⟩ := HS.out.row
      exact ⟨_, rfl, ⟨w.heap.size, xs, x1, x2, x3⟩, HS.out.bel⟩
end Go.Proofs.YtfkogbomijonjaaGreatDoor
namespace Go.Proofs.YtfkogbomijonjaaGreatDoor
open Go Go.RowKit Gu

set_option maxHeartbeats 1000000 in
theorem sat_any {W : World} {v : Value} {m : Nat} {f : Nat → Nat} (h : NRow W v m f) (k : Nat) (_hk : k ≤ 9223372036854775807) :
    Calls Tryz.prog 53 #[v, .int .i64 k] W fun e w' => ∃ r, e = .returned (.agg #[r]) ∧ D w' r (if k < m then f k else 0) ∧ Below W.heap.size W w' := by
  obtain ⟨base, xs, hm, hown, hD⟩ := h
  obtain ⟨g, cap, rfl⟩ := hown.shape
  obtain ⟨w0, HW⟩ : ∃ w0, w0 = W.alloc (.cells #[.slice none 0 0] 55) := ⟨_, rfl⟩
  have hb : Below W.heap.size W w0 := by rw [HW]; exact alloc1_below _ _
  have n1 : Nx W.heap.size (.slice none 0 0) w0 := by rw [HW]; exact Nx.new W _ _
  have hown0 := hown.next hb
  rw [hm] at hown0 ⊢
  have k1 := n1.c0; have k2 := n1.f0
  have HB := Lib.hid hb; have HW' := Lib.hid HW; have H1 := Lib.hid n1
  by_cases hlt : k < m
  · have hlt2 : (k : Int) < m := by omega
    have hkx : k < xs.length := by omega
    have d0 := OwnZ.cell hown0 hkx
    have HD := Lib.hid ((hD k hkx).below hb)
    obtain ⟨x, hx⟩ : ∃ x, x = xs[k] := ⟨_, rfl⟩
    rw [← hx] at d0 HD
    obtain ⟨xo, xc, rfl, -⟩ := HD.out.shape
    have HE : Hid ((if k < m then f k else 0) = f k) := if_pos hlt
    have k3 := World.cell?_setCell_same w0 ⟨W.heap.size, 0, none⟩ (.slice xo (nd 4294967296 (f k)) xc) k1
    clear hx hb n1 hown hown0 HW hD
    go_enter Tryz.func53, Tryz.ntmps53
    go_upto_region 1 with fail
    rw [← HW'.out]
    go_wp2_with fail
    refine bodyPost_ret (v := .agg #[.slice xo (nd 4294967296 (f k)) xc]) (by simp [results, Tryz.results53, go_sem, k3]) rfl ?_
    exact ⟨_, rfl, by first | exact HD.out.setCell H1.out.c0 (by intro d h; cases h) _ | (rw [HE.out]; exact HD.out.setCell H1.out.c0 (by intro d h; cases h) _), HB.out.setCell (p := ⟨W.heap.size, 0, none⟩) (Nat.le_refl _) _⟩
  · have hlt2 : ¬ ((k : Int) < m) := by omega
    have HE : Hid ((if k < m then f k else 0) = 0) := if_neg hlt
    have k3 := World.cell?_setCell_same w0 ⟨W.heap.size, 0, none⟩ (.slice none 0 0) k1
    clear hb n1 hown hown0 HW hD
    go_enter Tryz.func53, Tryz.ntmps53
    go_upto_region 1 with fail
    rw [← HW'.out]
    go_wp2_with fail
    refine bodyPost_ret (v := .agg #[.slice none 0 0]) (by simp [results, Tryz.results53, go_sem, k3]) rfl ?_
    exact ⟨_, rfl, by first | exact IsN.zero _ _ _ _ _ | (rw [HE.out]; exact IsN.zero _ _ _ _ _), by first | exact HB.out.setCell (p := ⟨W.heap.size, 0, none⟩) (Nat.le_refl _) _ | exact HB.out⟩
/-- a box of three values -/
structure Sx (B : Nat) (lot : Nat) (vb vg : Value) (W : World) : Prop where
  c0 : W.cell? ⟨B, 0, none⟩ = some (.int .i64 lot)
  c1 : W.cell? ⟨B, 1, none⟩ = some vb
  c2 : W.cell? ⟨B, 2, none⟩ = some vg
  lt : B < W.heap.size
theorem Sx.next {B lot : Nat} {vb vg : Value} {W W' : World} (h : Sx B lot vb vg W) (hb : Below W.heap.size W W') : Sx B lot vb vg W' :=
  ⟨(hb.cell (p := ⟨B, 0, none⟩) h.lt).trans h.c0, (hb.cell (p := ⟨B, 1, none⟩) h.lt).trans h.c1, (hb.cell (p := ⟨B, 2, none⟩) h.lt).trans h.c2, Nat.lt_of_lt_of_le h.lt hb.size⟩
theorem Sx.new (W : World) (lot : Nat) (vb vg : Value) (T : TypeId) : Sx W.heap.size lot vb vg (W.alloc (.cells #[.int .i64 lot, vb, vg] T)) :=
  ⟨World.cell?_alloc_at _ _ _ _ rfl, World.cell?_alloc_at _ _ _ _ rfl, World.cell?_alloc_at _ _ _ _ rfl, by simp⟩
set_option maxHeartbeats 1000000 in
/-- the number of samples of n pieces -/
theorem all_any (lot k : Nat) (vb vg : Value) (W : World) (hl : lot ≤ 2048) (hk : k ≤ 4096) :
    Calls Tryz.prog 30 #[.agg #[.int .i64 lot, vb, vg], .int .i64 k] W fun e w' => ∃ r, e = .returned (.agg #[r]) ∧ D w' r (binN lot k) ∧ Below W.heap.size W w' := by
  obtain ⟨w0, HW⟩ : ∃ w0, w0 = (W.alloc (.cells #[.int .i64 lot, vb, vg] 45)).alloc (.cells #[.slice none 0 0] 55) := ⟨_, rfl⟩
  have hb : Below W.heap.size W w0 := by rw [HW]; exact (alloc1_below _ _).alloc (by simp) _
  have s1 : Sx W.heap.size lot vb vg w0 := by rw [HW]; exact (Sx.new W lot vb vg _).next (alloc1_below _ _)
  have n2 : Nx (W.heap.size + 1) (.slice none 0 0) w0 := by
    have := Nx.new (W.alloc (.cells #[.int .i64 lot, vb, vg] 45)) (.slice none 0 0) 55
    rw [World.size_alloc, ← HW] at this
    exact this
  have HBN := Lib.hid (Binomial_any lot k w0 (by omega) (by omega))
  have k0 := s1.c0
  have H2 := Lib.hid n2; have HB := Lib.hid hb; have HW' := Lib.hid HW
  clear hb s1 n2 HW
  generalize binN lot k = N at HBN ⊢
  generalize binE lot k = E at HBN
  go_enter Tryz.func30, Tryz.ntmps30
  go_upto_region 1 with fail
  rw [← HW'.out]
  go_wp2_with fail
  refine HBN.out.mono ?_
  rintro e w1 ⟨r, rfl, hr, hb⟩
  obtain ⟨ro, rc, rfl, -⟩ := hr.shape
  obtain ⟨w2, HW2⟩ : ∃ w2, w2 = w1.alloc (.cells #[.slice ro (nd 4294967296 N) rc] 55) := ⟨_, rfl⟩
  have b2 : Below w1.heap.size w1 w2 := by rw [HW2]; exact alloc1_below _ _
  have b12 := hb.trans (b2.mono hb.size)
  have n3 : Nx w1.heap.size (.slice ro (nd 4294967296 N) rc) w2 := by rw [HW2]; exact Nx.new w1 _ _
  have H22 := Lib.hid (H2.out.next b12)
  have HB2 := Lib.hid (HB.out.trans (b12.mono HB.out.size))
  have HR := Lib.hid (hr.below b2)
  have HW2' := Lib.hid HW2
  have k1 := H22.out.c0; have k2 := H22.out.f0; have k3 := n3.c0
  have k4 := World.cell?_setCell_same w2 ⟨W.heap.size + 1, 0, none⟩ (.slice ro (nd 4294967296 N) rc) k1
  clear hb b2 b12 n3 HW2 hr k0
  go_upto_region 2 with fail
  rw [← HW2'.out]
  go_wp2_with fail
  refine bodyPost_ret (v := .agg #[.slice ro (nd 4294967296 N) rc]) (by simp [results, Tryz.results30, go_sem, k4]) rfl ?_
  exact ⟨_, rfl, HR.out.setCell k1 (by intro d h; cases h) _, HB2.out.setCell (p := ⟨W.heap.size + 1, 0, none⟩) (by show W.heap.size ≤ W.heap.size + 1; omega) _⟩
end Go.Proofs.YtfkogbomijonjaaGreatDoor
namespace Go.Proofs.YtfkogbomijonjaaGreatDoor
open Go Go.RowKit Gu

set_option maxHeartbeats 1000000 in
theorem acc_any {B : Nat} {s x : Value} {S X : Nat} {W : World} (hB : Nx B s W) (hs : D W s S) (hx : D W x X) (h1 : nd 4294967296 S ≤ 400000) (h2 : nd 4294967296 X ≤ 400000) (hf : nd 2 (S + X) ≤ 16384) :
    Calls Tryz.prog 50 #[.agg #[x], .pointer (some ⟨B, 0, none⟩)] W fun e w' => ∃ ro rl rc, e = .returned (.agg #[.slice ro rl rc]) ∧ D w' (.slice ro rl rc) (S + X) ∧ Nx B (.slice ro rl rc) w' ∧ W.grownBy w' (some B) ∧ ∀ u n, D W u n → D w' u n := by
  obtain ⟨w0, HW⟩ : ∃ w0, w0 = (W.alloc (.cells #[x] 55)).alloc (.cells #[.slice none 0 0] 55) := ⟨_, rfl⟩
  have hb : Below W.heap.size W w0 := by rw [HW]; exact (alloc1_below _ _).alloc (by simp) _
  have n1 : Nx W.heap.size x w0 := by rw [HW]; exact (Nx.new W x _).next (alloc1_below _ _)
  have n2 : Nx (W.heap.size + 1) (.slice none 0 0) w0 := by
    have := Nx.new (W.alloc (.cells #[x] 55)) (.slice none 0 0) 55
    rw [World.size_alloc, ← HW] at this
    exact this
  have hlt := hB.lt
  have n3 := hB.next hb
  have HAD := Lib.hid (Add_any s x S X w0 (hs.below hb) (hx.below hb) (by omega) (by omega))
  have HF := Lib.hid (fitN_of hf)
  obtain ⟨so, sc, rfl, -⟩ := hs.shape
  obtain ⟨xo, xc, rfl, -⟩ := hx.shape
  have k0 := n1.c0; have k1 := n3.c0
  have H2 := Lib.hid n2; have H3 := Lib.hid n3; have HB := Lib.hid hb; have HW' := Lib.hid HW
  clear hb n1 n2 n3 HW hs hx hB hf
  go_enter Tryz.func50, Tryz.ntmps50
  go_upto_region 1 with fail
  rw [← HW'.out]
  have k2 := H3.out.f0
  go_wp2_with fail
  refine HAD.out.mono ?_
  rintro e w1 ⟨r, rfl, hr, hb⟩
  rw [HF.out] at hr
  obtain ⟨ro, rc, rfl, -⟩ := hr.shape
  have hbw : Below W.heap.size W w1 := HB.out.trans (hb.mono HB.out.size)
  have b1 := H3.out.next hb
  have b2 := H2.out.next hb
  have hne : B ≠ W.heap.size + 1 := by omega
  have e1 : ∀ u, (w1.setCell ⟨B, 0, none⟩ u).cell? ⟨W.heap.size + 1, 0, none⟩ = some (.slice none 0 0) := fun u => (World.cell?_setCell_other _ _ _ _ (by intro e; injection e with e; exact hne e)).trans b2.c0
  have e2 : ∀ u, (w1.setCell ⟨B, 0, none⟩ u).cell? ⟨B, 0, none⟩ = some u := fun u => World.cell?_setCell_same _ _ _ b1.c0
  have e3 : ∀ u, ((w1.setCell ⟨B, 0, none⟩ u).setCell ⟨W.heap.size + 1, 0, none⟩ u).cell? ⟨W.heap.size + 1, 0, none⟩ = some u := fun u => World.cell?_setCell_same _ _ _ (e1 u)
  have e4 : ∀ u, ((w1.setCell ⟨B, 0, none⟩ u).setCell ⟨W.heap.size + 1, 0, none⟩ u).cell? ⟨B, 0, none⟩ = some u := fun u => (World.cell?_setCell_other _ _ _ _ (by intro e; injection e with e; exact hne e.symm)).trans (e2 u)
  have HD3 : Hid (∀ u, D ((w1.setCell ⟨B, 0, none⟩ u).setCell ⟨W.heap.size + 1, 0, none⟩ u) (.slice ro (nd 4294967296 (S + X)) rc) (S + X)) := fun u => (hr.setCell b1.c0 (by intro d h; cases h) u).setCell (e1 u) (by intro d h; cases h) u
  have HN3 : Hid (∀ u, Nx B u ((w1.setCell ⟨B, 0, none⟩ u).setCell ⟨W.heap.size + 1, 0, none⟩ u)) := fun u => ⟨e4 u, (World.frozen?_setCell _ _ _ _).trans ((World.frozen?_setCell _ _ _ _).trans b1.f0), by rw [World.size_setCell, World.size_setCell]; exact b1.lt⟩
  have HG3 : Hid (∀ u, W.grownBy ((w1.setCell ⟨B, 0, none⟩ u).setCell ⟨W.heap.size + 1, 0, none⟩ u) (some B)) := fun u => ⟨hbw.os, hbw.tape, hbw.output, by rw [World.size_setCell, World.size_setCell]; exact hbw.size, fun k hk hn => (Below.heap_setCell _ _ _ k (by show k ≠ W.heap.size + 1; omega)).trans ((Below.heap_setCell _ _ _ k (by intro e; exact hn (by rw [e]))).trans (hbw.block k hk))⟩
  have HK3 : Hid (∀ u y m, D W y m → D ((w1.setCell ⟨B, 0, none⟩ u).setCell ⟨W.heap.size + 1, 0, none⟩ u) y m) := fun u y m h => ((h.below hbw).setCell b1.c0 (by intro d h; cases h) u).setCell (e1 u) (by intro d h; cases h) u
  have j0 := b1.c0; have j1 := b1.f0; have j2 := b2.f0
  have E1 := e1 (.slice ro (nd 4294967296 (S + X)) rc); have E2 := e2 (.slice ro (nd 4294967296 (S + X)) rc); have E3 := e3 (.slice ro (nd 4294967296 (S + X)) rc)
  clear hb hbw b1 b2 hr k0 k1 k2 e1 e2 e3 e4
  go_wp2_with fail
  refine bodyPost_ret (v := .agg #[.slice ro (nd 4294967296 (S + X)) rc]) (by simp [results, Tryz.results50, go_sem, E3]) rfl ?_
  exact ⟨_, _, _, rfl, HD3.out _, HN3.out _, HG3.out _, HK3.out _⟩
theorem NRow.grown {W W' : World} {v : Value} {m : Nat} {f : Nat → Nat} (h : NRow W v m f) {B : Nat} {T : TypeId} {cs : Array Value} (hT : T ≠ 55) (hB : W.heap[B]? = some (.cells cs T (0, 0))) (hno : ∀ (i : Nat) (d : Int), cs[i]? ≠ some (.int .u32 d)) (hg : W.grownBy W' (some B)) : NRow W' v m f := by
  obtain ⟨base, xs, h1, h2, h3⟩ := h
  refine ⟨base, xs, h1, ?_, fun k hk => IsN.grown (h3 k hk) hg fun b o c l hv hn => ?_⟩
  · obtain ⟨g, cap, cur, e1, e2, e3, e4⟩ := h2
    refine ⟨g, cap, cur, e1, e2, (hg.block g (Array.getElem?_eq_some_iff.1 e3).1 fun e => ?_).trans e3, e4⟩
    injection e with e
    subst e
    rw [hB] at e3
    injection e3 with e3
    injection e3 with _ e5 _
    exact hT e5
  · intro e
    subst e
    rcases h3 k hk with ⟨h0, _⟩ | ⟨h0, b', o', cap', hv', hc⟩
    · omega
    · rw [hv] at hv'
      injection hv' with e1 e2 e3
      injection e1 with e1
      injection e1 with e1 e4
      subst e1; subst e4
      have hnd : 0 < nd 4294967296 (f k) := by
        rcases Nat.eq_zero_or_pos (nd 4294967296 (f k)) with h | h
        · have := nd_lt (by decide : 2 ≤ 4294967296) (f k)
          rw [h] at this
          simp at this
          omega
        · exact h
      have := hc 0 hnd
      simp [World.cell?, hB] at this
      exact hno _ _ this
set_option maxHeartbeats 1000000 in
theorem samplesOf_any (lot bad : Nat) (W : World) (hl : lot ≤ 2048) (hb : bad ≤ lot) :
    Calls Tryz.prog 13 #[.int .i64 lot, .int .i64 bad] W fun e w' => ∃ vb vg, e = .returned (.agg #[.int .i64 lot, vb, vg]) ∧ Hid (NRow w' vb (bad + 1) (pascalN bad)) ∧ Hid (NRow w' vg (lot - bad + 1) (pascalN (lot - bad))) ∧ Below W.heap.size W w' := by
  obtain ⟨w0, HW⟩ : ∃ w0, w0 = W.alloc (.cells #[.int .i64 0, .slice none 0 0, .slice none 0 0] 45) := ⟨_, rfl⟩
  have hb0 : Below W.heap.size W w0 := by rw [HW]; exact alloc1_below _ _
  have HBX : Hid (∀ W', Below w0.heap.size w0 W' → W'.heap[W.heap.size]? = some (.cells #[.int .i64 0, .slice none 0 0, .slice none 0 0] 45 (0, 0))) := fun W' h => (h.block _ (by rw [HW]; simp)).trans (by rw [HW]; exact heap_alloc_new W _)
  have HS1 := Lib.hid (subsets_any bad w0 (by omega))
  have HS2 : Hid (∀ W', Calls Tryz.prog 27 #[.int .i64 ((lot : Int) - bad)] W' fun e w' => ∃ v, e = .returned v ∧ Hid (NRow w' v (lot - bad + 1) (pascalN (lot - bad))) ∧ Below W'.heap.size W' w') := fun W' => by
    have := subsets_any (lot - bad) W' (by omega)
    rwa [show ((lot - bad : Nat) : Int) = (lot : Int) - bad by omega] at this
  have hw : IntKind.i64.wrap ((lot : Int) - bad) = lot - bad := IntWalk.i64_in _ (by omega)
  have HB := Lib.hid hb0; have HW' := Lib.hid HW
  clear hb0 HW
  go_enter Tryz.func13, Tryz.ntmps13
  go_upto_region 1 with fail
  rw [← HW'.out]
  go_wp2_with fail
  refine HS1.out.mono ?_
  rintro e w1 ⟨vb, rfl, hvb, h01⟩
  go_wp2_with fail
  refine (HS2.out w1).mono ?_
  rintro e w2 ⟨vg, rfl, hvg, h12⟩
  have h02 := h01.trans (h12.mono h01.size)
  have HVB := Lib.hid (hvb.out.below h12)
  have hx := HBX.out w2 h02
  have HBW := Lib.hid (HB.out.trans (h02.mono HB.out.size))
  have c0 : w2.cell? ⟨W.heap.size, 0, none⟩ = some (.int .i64 0) := by simp [World.cell?, hx]
  have c1 : w2.cell? ⟨W.heap.size, 1, none⟩ = some (.slice none 0 0) := by simp [World.cell?, hx]
  have c2 : w2.cell? ⟨W.heap.size, 2, none⟩ = some (.slice none 0 0) := by simp [World.cell?, hx]
  have f0 : w2.frozen? ⟨W.heap.size, 0, none⟩ = false := by simp [World.frozen?, hx]
  have f1 : w2.frozen? ⟨W.heap.size, 1, none⟩ = false := by simp [World.frozen?, hx]
  have f2 : w2.frozen? ⟨W.heap.size, 2, none⟩ = false := by simp [World.frozen?, hx]
  have hgr : ∀ u0 u1 u2, w2.grownBy (((w2.setCell ⟨W.heap.size, 0, none⟩ u0).setCell ⟨W.heap.size, 1, none⟩ u1).setCell ⟨W.heap.size, 2, none⟩ u2) (some W.heap.size) := fun u0 u1 u2 => grownBy_trans (grownBy_trans (grownBy_setCell _ _ _ _) (grownBy_setCell _ _ _ _)) (grownBy_setCell _ _ _ _)
  have hno : ∀ (i : Nat) (d : Int), (#[Value.int .i64 0, .slice none 0 0, .slice none 0 0] : Array Value)[i]? ≠ some (.int .u32 d) := by
    intro i d h
    have hi := (Array.getElem?_eq_some_iff.1 h).1
    have : i = 0 ∨ i = 1 ∨ i = 2 := by simp at hi; omega
    rcases this with rfl | rfl | rfl <;> simp at h
  have HVB3 : Hid (∀ u0 u1 u2, NRow (((w2.setCell ⟨W.heap.size, 0, none⟩ u0).setCell ⟨W.heap.size, 1, none⟩ u1).setCell ⟨W.heap.size, 2, none⟩ u2) vb (bad + 1) (pascalN bad)) := fun u0 u1 u2 => HVB.out.grown (by decide) hx hno (hgr u0 u1 u2)
  have HVG3 : Hid (∀ u0 u1 u2, NRow (((w2.setCell ⟨W.heap.size, 0, none⟩ u0).setCell ⟨W.heap.size, 1, none⟩ u1).setCell ⟨W.heap.size, 2, none⟩ u2) vg (lot - bad + 1) (pascalN (lot - bad))) := fun u0 u1 u2 => hvg.out.grown (by decide) hx hno (hgr u0 u1 u2)
  have HB3 : Hid (∀ u0 u1 u2, Below W.heap.size W (((w2.setCell ⟨W.heap.size, 0, none⟩ u0).setCell ⟨W.heap.size, 1, none⟩ u1).setCell ⟨W.heap.size, 2, none⟩ u2)) := fun u0 u1 u2 => ((HBW.out.setCell (p := ⟨W.heap.size, 0, none⟩) (Nat.le_refl _) u0).setCell (p := ⟨W.heap.size, 1, none⟩) (Nat.le_refl _) u1).setCell (p := ⟨W.heap.size, 2, none⟩) (Nat.le_refl _) u2
  obtain ⟨gb, capb, rfl⟩ : ∃ g c, vb = .slice (some ⟨g, 0, none⟩) (bad + 1) c := by
    obtain ⟨_, xs, h1, h2, _⟩ := HVB.out
    obtain ⟨g, c, h3⟩ := h2.shape
    exact ⟨g, c, by rw [← h1]; exact h3⟩
  obtain ⟨gg, capg, rfl⟩ : ∃ g c, vg = .slice (some ⟨g, 0, none⟩) (lot - bad + 1) c := by
    obtain ⟨_, xs, h1, h2, _⟩ := hvg.out
    obtain ⟨g, c, h3⟩ := h2.shape
    exact ⟨g, c, by rw [← h1]; exact h3⟩
  have three : ∀ u0 u1 u2, (((w2.setCell ⟨W.heap.size, 0, none⟩ u0).setCell ⟨W.heap.size, 1, none⟩ u1).setCell ⟨W.heap.size, 2, none⟩ u2).cell? ⟨W.heap.size, 0, none⟩ = some u0 ∧ (((w2.setCell ⟨W.heap.size, 0, none⟩ u0).setCell ⟨W.heap.size, 1, none⟩ u1).setCell ⟨W.heap.size, 2, none⟩ u2).cell? ⟨W.heap.size, 1, none⟩ = some u1 ∧ (((w2.setCell ⟨W.heap.size, 0, none⟩ u0).setCell ⟨W.heap.size, 1, none⟩ u1).setCell ⟨W.heap.size, 2, none⟩ u2).cell? ⟨W.heap.size, 2, none⟩ = some u2 := by
    intro u0 u1 u2
    have o : ∀ i j : Nat, i ≠ j → (⟨W.heap.size, i, none⟩ : Addr) ≠ ⟨W.heap.size, j, none⟩ := fun i j h e => h (by injection e)
    refine ⟨?_, ?_, ?_⟩
    · exact (World.cell?_setCell_other _ _ _ _ (o _ _ (by decide))).trans ((World.cell?_setCell_other _ _ _ _ (o _ _ (by decide))).trans (World.cell?_setCell_same _ _ _ c0))
    · exact (World.cell?_setCell_other _ _ _ _ (o _ _ (by decide))).trans (World.cell?_setCell_same _ _ _ ((World.cell?_setCell_other _ _ _ _ (o _ _ (by decide))).trans c1))
    · exact World.cell?_setCell_same _ _ _ ((World.cell?_setCell_other _ _ _ _ (o _ _ (by decide))).trans ((World.cell?_setCell_other _ _ _ _ (o _ _ (by decide))).trans c2))
  obtain ⟨r0, r1, r2⟩ := three (.int .i64 lot) (.slice (some ⟨gb, 0, none⟩) (bad + 1) capb) (.slice (some ⟨gg, 0, none⟩) (lot - bad + 1) capg)
  clear hx h01 h12 h02 hgr hno hvb hvg three
  go_wp2_with fail
  refine bodyPost_ret (v := .agg #[.int .i64 lot, .slice (some ⟨gb, 0, none⟩) (bad + 1) capb, .slice (some ⟨gg, 0, none⟩) (lot - bad + 1) capg]) (by simp [results, Tryz.results13, go_sem, r0, r1, r2]) rfl ?_
  exact ⟨_, _, rfl, HVB3.out _ _ _, HVG3.out _ _ _, HB3.out _ _ _⟩
end Go.Proofs.YtfkogbomijonjaaGreatDoor
namespace Go.Proofs.YtfkogbomijonjaaGreatDoor
open Go Go.RowKit Gu

theorem isFrom_any (lo x hi : Int) (W : World) : Calls Tryz.prog 11 #[.int .i64 lo, .int .i64 x, .int .i64 hi] W fun e w' => e = .returned (.bool (decide (lo ≤ x ∧ x ≤ hi))) ∧ W = w' := by
  by_cases h1 : lo ≤ x
  · by_cases h2 : x ≤ hi
    · rw [decide_eq_true (And.intro h1 h2)]
      go_enter Tryz.func11, Tryz.ntmps11
      go_wp2_with fail
      go_ret
      exact ⟨rfl, rfl⟩
    · rw [decide_eq_false (fun h => h2 h.2)]
      go_enter Tryz.func11, Tryz.ntmps11
      go_wp2_with fail
      go_ret
      exact ⟨rfl, rfl⟩
  · rw [decide_eq_false (fun h => h1 h.1)]
    go_enter Tryz.func11, Tryz.ntmps11
    go_wp2_with fail
    go_ret
    exact ⟨rfl, rfl⟩
theorem isRisk_any (x : Int) (W : World) : Calls Tryz.prog 15 #[.int .i64 x] W fun e w' => e = .returned (.bool (decide (0 ≤ x ∧ x ≤ 1000000))) ∧ W = w' := by
  have HF := Lib.hid (isFrom_any 0 x 1000000 W)
  generalize decide (0 ≤ x ∧ x ≤ 1000000) = b at HF ⊢
  go_enter Tryz.func15, Tryz.ntmps15
  go_wp2_with fail
  refine HF.out.mono ?_
  rintro e w' ⟨rfl, rfl⟩
  go_wp2_with fail
  go_ret
  exact ⟨rfl, rfl⟩
end Go.Proofs.YtfkogbomijonjaaGreatDoor
