/- The contract of divideByDigit. -/
import Derived.Test.YtfkogbomijonjaaGreatDoorWh
namespace Go.Proofs.YtfkogbomijonjaaGreatDoor
open Go Go.RowKit Gu

theorem or_digits (r d : Nat) (hr : r < 4294967296) (hd : d < 4294967296) : bits BinOp.or IntKind.u64 ((r : Int) * 4294967296) d = ((r * 4294967296 + d : Nat) : Int) := by
  have e := bits_or_u64_nat (r * 4294967296) d (by omega) (by omega)
  have e2 : (r * 4294967296) ||| d = r * 4294967296 + d := by
    have := Nat.two_pow_add_eq_or_of_lt (i := 32) (b := d) hd r
    rw [Nat.mul_comm (2 ^ 32) r] at this
    exact this.symm
  rw [e2] at e
  rw [← e]
  rfl
/-- what the loop of divideByDigit keeps: the quotient's digits from k on, and the rest -/
def DivRel (a b la : Nat) (w : World) (k Q r : Nat) (wr : World) : Prop :=
  a / 4294967296 ^ k = Q * b + r ∧ r < b ∧ Buf .u32 4294967296 75 wr w.heap.size la (0 + 4294967296 ^ k * Q) ∧ Below w.heap.size w wr
theorem DivRel.next {a b la : Nat} {w : World} {k Q r : Nat} {wr : World} (h : DivRel a b la w (k + 1) Q r wr) :
    DivRel a b la w k (4294967296 * Q + (r * 4294967296 + dg 4294967296 a k) / b) ((r * 4294967296 + dg 4294967296 a k) % b) (wr.setCell ⟨w.heap.size, k, none⟩ (.int .u32 (((r * 4294967296 + dg 4294967296 a k) / b : Nat) : Int))) := by
  obtain ⟨h1, h2, h3, h4⟩ := h
  have hb : 0 < b := by omega
  have hda := dg_lt (B := 4294967296) (by decide) a k
  have hq := divdig_lt h2 hda
  refine ⟨divdig_round hb h1 h2, Nat.mod_lt _ hb, ?_, h4.setCell (Nat.le_refl _) _⟩
  have e : 0 + 4294967296 ^ (k + 1) * Q = 0 + 4294967296 ^ k * (0 + 4294967296 * Q) := by rw [Nat.pow_succ, Nat.mul_assoc, Nat.zero_add, Nat.zero_add, Nat.zero_add]
  rw [e] at h3
  have := Buf.set h3 (by decide) (Nat.pow_pos (by decide)) (by decide) hq
  rw [Nat.add_comm (4294967296 * Q)]
  exact this
set_option maxHeartbeats 1000000 in
theorem divideByDigit_fresh (v : Value) (a b : Nat) (w : World) (hv : D w v a) (ha : nd 4294967296 a ≤ 1048576) (hb : 0 < b) (hb2 : b < 4294967296) :
    Calls Tryz.prog 37 #[v, .int .u32 b] w fun e w' => ∃ r, e = .returned (.tuple #[r, .int .u32 (a % b : Nat)]) ∧ D w' r (a / b) ∧ Below w.heap.size w w' ∧ r = .slice (some ⟨w.heap.size, 0, none⟩) (nd 4294967296 (a / b)) (nd 4294967296 (a / b)) := by
  have hB : 2 ≤ 4294967296 := by decide
  obtain ⟨ao, ac, hv', hcv⟩ := hv.shape
  have hla := nd_lt hB a
  subst hv'
  clear hv
  generalize hma : nd 4294967296 a = la at *
  clear hma
  have HL := Lib.hid hla; clear hla
  have hmk := made_u32 la (by omega)
  go_enter Tryz.func37, Tryz.ntmps37
  go_wp2
  go_loopw [7, 8] (fun r t wr => ∃ k Q rr : Nat, k ≤ la ∧ t = .int .i64 ((k : Int) - 1) ∧ r = .int .u64 rr ∧ DivRel a b la w k Q rr wr) (fun _ t _ => (intOf t + 1).toNat)
  case atStart => exact ⟨la, 0, 0, Nat.le_refl _, rfl, rfl, by rw [Nat.div_eq_of_lt HL.out]; simp, hb, by simpa using Buf.made _ _ _ _ _, (Below.refl _ _).alloc (Nat.le_refl _) _⟩
  case round =>
    obtain ⟨k, Q, r, hk, rfl, rfl, hrel⟩ := hrel
    cases k with
    | succ k =>
      rw [show ((k + 1 : Nat) : Int) - 1 = k from by omega]
      have HN := Lib.hid hrel.next
      obtain ⟨-, hr, hbuf, hbel⟩ := hrel
      obtain ⟨gb, go, rfl, hca⟩ := hcv k (by omega)
      have hca' : wr.cell? ⟨gb, go + k, none⟩ = some (.int .u32 (dg 4294967296 a k : Nat)) := by
        rw [hbel.cell (p := ⟨gb, go + k, none⟩) (World.block_lt_of_cell? _ _ hca)]; exact hca
      have hcell := hbuf.cell (i := k) (by omega)
      have hfr := hbuf.frozen k
      clear hcv hca hbuf hbel
      have hkl : (k : Int) < la := by omega
      have hda := dg_lt (B := 4294967296) (by decide) a k
      have hor := or_digits r _ (by omega : r < 4294967296) hda
      have hq := divdig_lt hr hda
      generalize dg 4294967296 a k = d at *
      generalize dg 4294967296 (0 + 4294967296 ^ (k + 1) * Q) k = dx at *
      have hrb : r * 4294967296 + d < 18446744073709551616 := by omega
      generalize ht : r * 4294967296 + d = t at *
      clear ht
      have hw : IntKind.u64.wrap ((t : Int) / b) % 4294967296 = ((t / b : Nat) : Int) := by
        rw [show (t : Int) / b = ((t / b : Nat) : Int) from by simp, wrap_u64]
        generalize t / b = q at *
        omega
      have HW := Lib.hid hw
      clear hw
      go_wp2
      rw [HW.out]
      go_roundw
      case rel => exact ⟨k, _, t % b, by omega, by go_num, by go_num, HN.out⟩
      case measure => simp [intOf]
    | zero =>
      rw [show ((0 : Nat) : Int) - 1 = -1 from rfl]
      obtain ⟨h1, hr, hbuf, hbel⟩ := hrel
      rw [Nat.pow_zero, Nat.div_one] at h1
      rw [Nat.pow_zero, Nat.one_mul, Nat.zero_add] at hbuf
      have hq : a / b = Q := by rw [h1, Nat.add_comm, Nat.add_mul_div_right _ _ hb, Nat.div_eq_of_lt hr, Nat.zero_add]
      have hm : a % b = r := by rw [h1, Nat.add_comm, Nat.add_mul_mod_self_right, Nat.mod_eq_of_lt hr]
      have hlt : Q < 4294967296 ^ la := by rw [← hq]; exact Nat.lt_of_le_of_lt (Nat.div_le_self _ _) HL.out
      have HBuf := Lib.hid hbuf; have HBel := Lib.hid hbel; have HX := Lib.hid hlt; have HQ := Lib.hid hq; have HM := Lib.hid hm
      clear h1 hbuf hbel hlt hq hm hcv
      go_wp2_with fail
      refine (trim_buf _ _ _ Q _ HBuf.out HX.out (by omega) (by omega)).mono ?_
      rintro e w' ⟨rfl, rfl⟩
      go_wp2
      go_ret2
      exact ⟨.slice (some ⟨w.heap.size, 0, none⟩) (nd 4294967296 Q) (nd 4294967296 Q), by rw [HM.out]; rfl, HQ.out ▸ HBuf.out.isN hB HX.out _, HBel.out, by rw [HQ.out]⟩
theorem divideByDigit_any (v : Value) (a b : Nat) (w : World) (hv : D w v a) (ha : nd 4294967296 a ≤ 1048576) (hb : 0 < b) (hb2 : b < 4294967296) :
    Calls Tryz.prog 37 #[v, .int .u32 b] w fun e w' => ∃ r, e = .returned (.tuple #[r, .int .u32 (a % b : Nat)]) ∧ D w' r (a / b) ∧ Below w.heap.size w w' :=
  (divideByDigit_fresh v a b w hv ha hb hb2).mono fun _ _ ⟨r, h1, h2, h3, _⟩ => ⟨r, h1, h2, h3⟩
end Go.Proofs.YtfkogbomijonjaaGreatDoor
