/- Contracts and lemmas (several texts merged into one). -/
import Derived.Test.YthafnhjnlfpifaaDoorBKdp1
import Derived.Deep.RegionWith
import Derived.Deep.LoopGhost
import Derived.Laws.MathBits
import Derived.WalkMore
import Derived.Deep.RegionHeld3
namespace Go.Proofs.YthafnhjnlfpifaaDoor
open Go Go.RowKit Gu

/-- addRow, as product calls it: the buffer holds a number of k + lb digits -/
theorem addRow_prd (g M k lb N b f : Nat) (v : Value) (w : World) (hb : Buf .u32 4294967296 54 w g M N) (hN : N < 4294967296 ^ (k + lb)) (hM : k + lb ≤ M) (hn : lb ≤ 1048576)
    (hr : D w v b) (hrn : nd 4294967296 b = lb) (hne : ∀ bb o c l, v = .slice (some ⟨bb, o, none⟩) l c → 0 < b → bb ≠ g) (hf : f < 4294967296) :
    Calls Tryd.prog 58 #[.slice (some ⟨g, k, none⟩) lb lb, v, .int .u32 f] w fun e w' => ∃ Y c : Nat, e = .returned (.int .u32 c) ∧ c < 4294967296 ∧ Y < 4294967296 ^ (k + lb) ∧ Y + 4294967296 ^ (k + lb) * c = N + 4294967296 ^ k * (f * b) ∧
      Buf .u32 4294967296 54 w' g M Y ∧ w.grownBy w' (some g) := by
  have e : N = N % 4294967296 ^ k + 4294967296 ^ k * (N / 4294967296 ^ k + 4294967296 ^ lb * 0) := by
    rw [Nat.mul_zero, Nat.add_zero, Nat.mod_add_div]
  have hW : N / 4294967296 ^ k < 4294967296 ^ lb := by
    rw [Nat.div_lt_iff_lt_mul (Nat.pow_pos (by decide)), ← Nat.pow_add, Nat.add_comm]; exact hN
  rw [e] at hb
  have hL : N % 4294967296 ^ k < 4294967296 ^ k := Nat.mod_lt _ (Nat.pow_pos (by decide))
  refine (addRow_any g M k lb lb _ _ 0 b f v w hb hL hW hM hn hr hrn hne hf).mono ?_
  rintro e' w' ⟨X, c, rfl, h1, h2, h3, h4, h5⟩
  refine ⟨N % 4294967296 ^ k + 4294967296 ^ k * X, c, rfl, h1, win_lt hL h2, ?_, by simpa using h4, h5⟩
  have e2 : 4294967296 ^ k * (X + 4294967296 ^ lb * c) = 4294967296 ^ k * (N / 4294967296 ^ k) + 4294967296 ^ k * (f * b) := by rw [h3, Nat.mul_add]
  have e3 := Nat.mod_add_div N (4294967296 ^ k)
  rw [Nat.mul_add, ← Nat.mul_assoc, ← Nat.pow_add] at e2
  omega
/-- what the loop of product keeps: the product of the lowest digits of a -/
def PrdRel (a b la lb : Nat) (w : World) (k : Nat) (wr : World) : Prop :=
  Buf .u32 4294967296 54 wr w.heap.size (la + lb) ((a % 4294967296 ^ k) * b) ∧ Below w.heap.size w wr
set_option maxHeartbeats 400000 in
set_option maxRecDepth 100000 in
theorem product_pos (v u : Value) (a b : Nat) (w : World) (hv : D w v a) (hu : D w u b) (hb0 : 0 < b) (ha : nd 4294967296 a ≤ 524288) (hb : nd 4294967296 b ≤ 524288) :
    Calls Tryd.prog 30 #[v, u] w fun e w' => ∃ r, e = .returned r ∧ D w' r (a * b) ∧ Below w.heap.size w w' := by
  have hB : 2 ≤ 4294967296 := by decide
  obtain ⟨ao, ac, hv', hcv⟩ := hv.shape
  obtain ⟨bo, bc, hu', -⟩ := hu.shape
  have HU := Lib.hid hu
  have hla := nd_lt hB a
  have hlbb := nd_lt hB b
  subst hv'; subst hu'
  have hub : ∀ bb o c l, Value.slice bo (nd 4294967296 b) bc = .slice (some ⟨bb, o, none⟩) l c → 0 < b → bb ≠ w.heap.size := by
    intro bb o c l he h0
    rcases hu with ⟨h, _⟩ | ⟨_, b', o', c', he', hc'⟩
    · omega
    · rw [he'] at he
      simp only [Value.slice.injEq, Option.some.injEq, Addr.mk.injEq, and_true] at he
      obtain ⟨⟨rfl, rfl⟩, _, _⟩ := he
      have := World.block_lt_of_cell? _ _ (hc' 0 (nd_pos hB h0))
      exact Nat.ne_of_lt this
  have HUB := Lib.hid hub
  clear hv hu hub
  have hlb := nd_pos hB hb0
  clear hb0
  generalize hma : nd 4294967296 a = la at *
  generalize hmb : nd 4294967296 b = lb at *
  have HMB := Lib.hid hmb
  clear hma hmb
  have HLA := Lib.hid hla; have HLB := Lib.hid hlbb; clear hla hlbb
  have hmk := made_u32 (la + lb) (by omega)
  rw [show (((la + lb : Nat)) : Int) = (la : Int) + lb from by omega] at hmk
  go_enter Tryd.func30, Tryd.ntmps30
  go_wp2
  go_loopw [16] (fun t wr => ∃ k : Nat, k ≤ la ∧ t = .int .i64 k ∧ PrdRel a b la lb w k wr) (fun t _ => la - (intOf t).toNat)
  case atStart => exact ⟨0, Nat.zero_le _, rfl, by simpa [Nat.mod_one] using Buf.made _ _ _ _ _, (Below.refl _ _).alloc (Nat.le_refl _) _⟩
  case round =>
    obtain ⟨k, hk, rfl, hrel⟩ := hrel
    by_cases hlt : k < la
    · obtain ⟨hbuf, hbel⟩ := hrel
      obtain ⟨gb, go, rfl, hca⟩ := hcv k hlt
      have hca' : wr.cell? ⟨gb, go + k, none⟩ = some (.int .u32 (dg 4294967296 a k : Nat)) := by
        rw [hbel.cell (p := ⟨gb, go + k, none⟩) (World.block_lt_of_cell? _ _ hca)]; exact hca
      clear hcv hca
      have hkl : (k : Int) < la := by omega
      have hda := dg_lt (B := 4294967296) (by decide) a k
      have HB1 := Lib.hid hbuf; have HB2 := Lib.hid hbel
      clear hbuf hbel
      generalize hdd : dg 4294967296 a k = d at *
      have HDD := Lib.hid hdd; clear hdd
      go_wp2
      have HEND : Hid (∀ Y c : Nat, ∀ w', c < 4294967296 → Y < 4294967296 ^ (k + lb) → Y + 4294967296 ^ (k + lb) * c = (a % 4294967296 ^ k) * b + 4294967296 ^ k * (d * b) → Buf .u32 4294967296 54 w' w.heap.size (la + lb) Y → wr.drew.grownBy w' (some w.heap.size) →
          PrdRel a b la lb w (k + 1) (w'.setCell ⟨w.heap.size, k + lb, none⟩ (.int .u32 (c : Nat)))) := by
        intro Y c w' hc hY hsum hbf hgr
        have e : (a % 4294967296 ^ (k + 1)) * b = Y + 4294967296 ^ (k + lb) * c := by
          rw [mod_succ, HDD.out, Nat.add_mul, Nat.mul_assoc]; exact hsum.symm
        refine ⟨by rw [e]; exact hbf.put (by decide) hY hc, ?_⟩
        have hsz := HB1.out.lt
        exact (HB2.out.drew.grown hgr (Nat.le_of_lt hsz) (fun j hj => by simp only [Option.some.injEq] at hj; omega)).setCell (Nat.le_refl _) _
      have hkb : (k : Int) ≤ (k : Int) + lb := by omega
      have hkb2 : (k : Int) + lb ≤ ((la + lb : Nat) : Int) := by omega
      have hne0 : ¬ lb = 0 := by omega
      have hT : ((k : Int) + (lb : Int)).toNat - k = lb := by omega
      have hT2 : ((k : Int) + (lb : Int)).toNat = k + lb := by omega
      have hN : (a % 4294967296 ^ k) * b < 4294967296 ^ (k + lb) := by
        rw [Nat.pow_add]
        exact Nat.mul_lt_mul_of_lt_of_le (Nat.mod_lt _ (Nat.pow_pos (by decide))) (Nat.le_of_lt HLB.out) (Nat.pow_pos (by decide))
      have HC1 := Lib.hid (addRow_prd w.heap.size (la + lb) k lb ((a % 4294967296 ^ k) * b) b d (.slice bo lb bc) wr.drew (World.rowIs.drew HB1.out) hN (by omega) (by omega) (HU.out.below HB2.out.drew) HMB.out HUB.out hda)
      clear hN
      go_region_with (go_at_call 58; refine HC1.out.mono ?_; rintro e w' ⟨Y, c, rfl, hc, hY, hsum, hbf, hgr⟩; have hc2 := hbf.cell (i := k + lb) (by omega); have hf2 := hbf.frozen (k + lb))
      have HE := Lib.hid (HEND.out Y c w' hc hY hsum hbf hgr)
      clear hsum hbf hgr HC1 HEND hY
      go_wp2
      go_roundw
      case rel => exact ⟨k + 1, by omega, by go_num, HE.out⟩
      case measure => simp [intOf]; omega
    · obtain rfl : k = la := by omega
      obtain ⟨hbuf, hbel⟩ := hrel
      rw [Nat.mod_eq_of_lt HLA.out] at hbuf
      have hlt2 : a * b < 4294967296 ^ (k + lb) := by
        rw [Nat.pow_add]
        exact Nat.mul_lt_mul_of_lt_of_le HLA.out (Nat.le_of_lt HLB.out) (Nat.pow_pos (by decide))
      have HX := Lib.hid hlt2
      have HBuf := Lib.hid hbuf
      have HBel := Lib.hid hbel
      clear hlt2 hbuf hbel hcv hlt hk
      go_wp2_with fail
      refine (trim_buf _ _ _ (a * b) _ HBuf.out HX.out (by omega) (by omega)).mono ?_
      rintro e w' ⟨rfl, rfl⟩
      go_wp2
      go_ret
      exact ⟨_, rfl, HBuf.out.isN hB HX.out _, HBel.out⟩

set_option maxHeartbeats 1000000 in
set_option maxRecDepth 100000 in
theorem product_b0 (v : Value) (bo : Option Addr) (bc a : Nat) (w : World) (hv : D w v a) (ha : nd 4294967296 a ≤ 524288) :
    Calls Tryd.prog 30 #[v, .slice bo 0 bc] w fun e w' => ∃ r, e = .returned r ∧ D w' r 0 ∧ Below w.heap.size w w' := by
  obtain ⟨ao, ac, hv', hcv⟩ := hv.shape
  subst hv'
  clear hv
  generalize hma : nd 4294967296 a = la at *
  clear hma
  have hmk := made_u32 la (by omega)
  go_enter Tryd.func30, Tryd.ntmps30
  go_wp2
  go_loopw [16] (fun t wr => ∃ k : Nat, k ≤ la ∧ t = .int .i64 k ∧ Buf .u32 4294967296 54 wr w.heap.size la 0 ∧ Below w.heap.size w wr) (fun t _ => la - (intOf t).toNat)
  case atStart => exact ⟨0, Nat.zero_le _, rfl, Buf.made _ _ _ _ _, (Below.refl _ _).alloc (Nat.le_refl _) _⟩
  case round =>
    obtain ⟨k, hk, rfl, hbuf, hbel⟩ := hrel
    by_cases hlt : k < la
    · obtain ⟨gb, go, rfl, hca⟩ := hcv k hlt
      have hca' : wr.cell? ⟨gb, go + k, none⟩ = some (.int .u32 (dg 4294967296 a k : Nat)) := by
        rw [hbel.cell (p := ⟨gb, go + k, none⟩) (World.block_lt_of_cell? _ _ hca)]; exact hca
      clear hcv hca
      have hkl : (k : Int) < la := by omega
      have hda := dg_lt (B := 4294967296) (by decide) a k
      have HB1 := Lib.hid hbuf; have HB2 := Lib.hid hbel
      clear hbuf hbel
      generalize dg 4294967296 a k = d at *
      have HC1 := Lib.hid (addRow_prd w.heap.size la 0 0 0 0 d (.slice bo 0 bc) wr.drew (World.rowIs.drew HB1.out) (by decide) (by omega) (by omega) (IsN.zero _ _ _ _ _) (nd_zero _) (fun _ _ _ _ _ h => absurd h (by decide)) hda)
      go_wp2
      go_region_with (go_at_call 58; refine HC1.out.mono ?_; rintro e w' ⟨Y, c, rfl, hc, hY, hsum, hbf, hgr⟩; have hc2 := hbf.cell (i := k) (by omega); have hf2 := hbf.frozen k)
      have HE : Hid (Buf .u32 4294967296 54 (w'.setCell ⟨w.heap.size, k, none⟩ (.int .u32 (c : Nat))) w.heap.size la 0 ∧ Below w.heap.size w (w'.setCell ⟨w.heap.size, k, none⟩ (.int .u32 (c : Nat)))) := by
        have hY0 : Y = 0 := by simpa using hY
        subst hY0
        have hc0 : c = 0 := by simpa using hsum
        subst hc0
        have hsz := HB1.out.lt
        refine ⟨?_, (HB2.out.drew.grown hgr (Nat.le_of_lt hsz) (fun j hj => by simp only [Option.some.injEq] at hj; omega)).setCell (Nat.le_refl _) _⟩
        have := hbf.put (j := k) (d := 0) (by decide) (Nat.pow_pos (by decide)) (by decide)
        simpa using this
      clear hsum hbf hgr HC1 hY
      go_wp2
      go_roundw
      case rel => exact ⟨k + 1, by omega, by go_num, HE.out⟩
      case measure => simp [intOf]; omega
    · obtain rfl : k = la := by omega
      have HBuf := Lib.hid hbuf
      have HBel := Lib.hid hbel
      clear hbuf hbel hcv hlt hk
      go_wp2_with fail
      refine (trim_buf _ _ _ 0 _ HBuf.out (Nat.pow_pos (by decide)) (by omega) (by omega)).mono ?_
      rintro e w' ⟨rfl, rfl⟩
      go_wp2
      go_ret
      exact ⟨_, rfl, HBuf.out.isN (by decide) (Nat.pow_pos (by decide)) _, HBel.out⟩
theorem product_any (v u : Value) (a b : Nat) (w : World) (hv : D w v a) (hu : D w u b) (ha : nd 4294967296 a ≤ 524288) (hb : nd 4294967296 b ≤ 524288) :
    Calls Tryd.prog 30 #[v, u] w fun e w' => ∃ r, e = .returned r ∧ D w' r (a * b) ∧ Below w.heap.size w w' := by
  rcases Nat.eq_zero_or_pos b with h | h
  · subst h
    rcases hu with ⟨_, ao, cap, rfl⟩ | ⟨h, _⟩
    · exact product_b0 v ao cap a w hv ha
    · omega
  · exact product_pos v u a b w hv hu h ha hb
end Go.Proofs.YthafnhjnlfpifaaDoor
namespace Go.Proofs.YthafnhjnlfpifaaDoor
open Go Go.RowKit Gu

theorem or_digits (r d : Nat) (hr : r < 4294967296) (hd : d < 4294967296) : bits BinOp.or IntKind.u64 ((r : Int) * 4294967296) d = ((r * 4294967296 + d : Nat) : Int) := by
  have e := bits_or_u64_nat (r * 4294967296) d (by omega) (by omega)
  have e2 : (r * 4294967296) ||| d = r * 4294967296 + d := by
    have := Nat.two_pow_add_eq_or_of_lt (i := 32) (b := d) hd r
    rw [Nat.mul_comm (2 ^ 32) r] at this
    exact this.symm
  rw [e2] at e
  rw [← e]
  rfl
/-- what the loop of divideByDigit keeps: the quotient's digits from k on, and the rest -/
def DivRel (a b la : Nat) (w : World) (k Q r : Nat) (wr : World) : Prop :=
  a / 4294967296 ^ k = Q * b + r ∧ r < b ∧ Buf .u32 4294967296 54 wr w.heap.size la (0 + 4294967296 ^ k * Q) ∧ Below w.heap.size w wr
theorem DivRel.next {a b la : Nat} {w : World} {k Q r : Nat} {wr : World} (h : DivRel a b la w (k + 1) Q r wr) :
    DivRel a b la w k (4294967296 * Q + (r * 4294967296 + dg 4294967296 a k) / b) ((r * 4294967296 + dg 4294967296 a k) % b) (wr.setCell ⟨w.heap.size, k, none⟩ (.int .u32 (((r * 4294967296 + dg 4294967296 a k) / b : Nat) : Int))) := by
  obtain ⟨h1, h2, h3, h4⟩ := h
  have hb : 0 < b := by omega
  have hda := dg_lt (B := 4294967296) (by decide) a k
  have hq := divdig_lt h2 hda
  refine ⟨divdig_round hb h1 h2, Nat.mod_lt _ hb, ?_, h4.setCell (Nat.le_refl _) _⟩
  have e : 0 + 4294967296 ^ (k + 1) * Q = 0 + 4294967296 ^ k * (0 + 4294967296 * Q) := by rw [Nat.pow_succ, Nat.mul_assoc, Nat.zero_add, Nat.zero_add, Nat.zero_add]
  rw [e] at h3
  have := Buf.set h3 (by decide) (Nat.pow_pos (by decide)) (by decide) hq
  rw [Nat.add_comm (4294967296 * Q)]
  exact this
set_option maxHeartbeats 1000000 in
theorem divideByDigit_fresh (v : Value) (a b : Nat) (w : World) (hv : D w v a) (ha : nd 4294967296 a ≤ 1048576) (hb : 0 < b) (hb2 : b < 4294967296) :
    Calls Tryd.prog 23 #[v, .int .u32 b] w fun e w' => ∃ r, e = .returned (.tuple #[r, .int .u32 (a % b : Nat)]) ∧ D w' r (a / b) ∧ Below w.heap.size w w' ∧ r = .slice (some ⟨w.heap.size, 0, none⟩) (nd 4294967296 (a / b)) (nd 4294967296 (a / b)) := by
  have hB : 2 ≤ 4294967296 := by decide
  obtain ⟨ao, ac, hv', hcv⟩ := hv.shape
  have hla := nd_lt hB a
  subst hv'
  clear hv
  generalize hma : nd 4294967296 a = la at *
  clear hma
  have HL := Lib.hid hla; clear hla
  have hmk := made_u32 la (by omega)
  go_enter Tryd.func23, Tryd.ntmps23
  go_wp2
  go_loopw [7, 8] (fun r t wr => ∃ k Q rr : Nat, k ≤ la ∧ t = .int .i64 ((k : Int) - 1) ∧ r = .int .u64 rr ∧ DivRel a b la w k Q rr wr) (fun _ t _ => (intOf t + 1).toNat)
  case atStart => exact ⟨la, 0, 0, Nat.le_refl _, rfl, rfl, by rw [Nat.div_eq_of_lt HL.out]; simp, hb, by simpa using Buf.made _ _ _ _ _, (Below.refl _ _).alloc (Nat.le_refl _) _⟩
  case round =>
    obtain ⟨k, Q, r, hk, rfl, rfl, hrel⟩ := hrel
    cases k with
    | succ k =>
      rw [show ((k + 1 : Nat) : Int) - 1 = k from by omega]
      have HN := Lib.hid hrel.next
      obtain ⟨-, hr, hbuf, hbel⟩ := hrel
      obtain ⟨gb, go, rfl, hca⟩ := hcv k (by omega)
      have hca' : wr.cell? ⟨gb, go + k, none⟩ = some (.int .u32 (dg 4294967296 a k : Nat)) := by
        rw [hbel.cell (p := ⟨gb, go + k, none⟩) (World.block_lt_of_cell? _ _ hca)]; exact hca
      have hcell := hbuf.cell (i := k) (by omega)
      have hfr := hbuf.frozen k
      clear hcv hca hbuf hbel
      have hkl : (k : Int) < la := by omega
      have hda := dg_lt (B := 4294967296) (by decide) a k
      have hor := or_digits r _ (by omega : r < 4294967296) hda
      have hq := divdig_lt hr hda
      generalize dg 4294967296 a k = d at *
      generalize dg 4294967296 (0 + 4294967296 ^ (k + 1) * Q) k = dx at *
      have hrb : r * 4294967296 + d < 18446744073709551616 := by omega
      generalize ht : r * 4294967296 + d = t at *
      clear ht
      have hw : IntKind.u64.wrap ((t : Int) / b) % 4294967296 = ((t / b : Nat) : Int) := by
        rw [show (t : Int) / b = ((t / b : Nat) : Int) from by simp, wrap_u64]
        generalize t / b = q at *
        omega
      have HW := Lib.hid hw
      clear hw
      go_wp2
      rw [HW.out]
      go_roundw
      case rel => exact ⟨k, _, t % b, by omega, by go_num, by go_num, HN.out⟩
      case measure => simp [intOf]
    | zero =>
      rw [show ((0 : Nat) : Int) - 1 = -1 from rfl]
      obtain ⟨h1, hr, hbuf, hbel⟩ := hrel
      rw [Nat.pow_zero, Nat.div_one] at h1
      rw [Nat.pow_zero, Nat.one_mul, Nat.zero_add] at hbuf
      have hq : a / b = Q := by rw [h1, Nat.add_comm, Nat.add_mul_div_right _ _ hb, Nat.div_eq_of_lt hr, Nat.zero_add]
      have hm : a % b = r := by rw [h1, Nat.add_comm, Nat.add_mul_mod_self_right, Nat.mod_eq_of_lt hr]
      have hlt : Q < 4294967296 ^ la := by rw [← hq]; exact Nat.lt_of_le_of_lt (Nat.div_le_self _ _) HL.out
      have HBuf := Lib.hid hbuf; have HBel := Lib.hid hbel; have HX := Lib.hid hlt; have HQ := Lib.hid hq; have HM := Lib.hid hm
      clear h1 hbuf hbel hlt hq hm hcv
      go_wp2_with fail
      refine (trim_buf _ _ _ Q _ HBuf.out HX.out (by omega) (by omega)).mono ?_
      rintro e w' ⟨rfl, rfl⟩
      go_wp2
      go_ret2
      exact ⟨.slice (some ⟨w.heap.size, 0, none⟩) (nd 4294967296 Q) (nd 4294967296 Q), by rw [HM.out]; rfl, HQ.out ▸ HBuf.out.isN hB HX.out _, HBel.out, by rw [HQ.out]⟩
theorem divideByDigit_any (v : Value) (a b : Nat) (w : World) (hv : D w v a) (ha : nd 4294967296 a ≤ 1048576) (hb : 0 < b) (hb2 : b < 4294967296) :
    Calls Tryd.prog 23 #[v, .int .u32 b] w fun e w' => ∃ r, e = .returned (.tuple #[r, .int .u32 (a % b : Nat)]) ∧ D w' r (a / b) ∧ Below w.heap.size w w' :=
  (divideByDigit_fresh v a b w hv ha hb hb2).mono fun _ _ ⟨r, h1, h2, h3, _⟩ => ⟨r, h1, h2, h3⟩
end Go.Proofs.YthafnhjnlfpifaaDoor
namespace Go.Proofs.YthafnhjnlfpifaaDoor
open Go Go.RowKit Gu

theorem trim_nil (w : World) : Calls Tryd.prog 50 #[.slice none 0 0] w fun e w' => (∃ r, e = .returned r ∧ D w' r 0) ∧ w = w' := by
  go_enter Tryd.func50, Tryd.ntmps50
  go_wp2
  refine wp_loop_rounds 1 ?_; rw [rounds_succ]
  go_wp2
  go_ret
  exact ⟨⟨_, rfl, IsN.zero _ _ _ _ _⟩, rfl⟩
theorem newsU32 (n m : Nat) : ∀ u ∈ (pad 4294967296 m n).map (fun d : Nat => Value.int .u32 (d : Int)), u.oneCell' = true := by
  intro u hu
  obtain ⟨d, _, rfl⟩ := List.mem_map.1 hu
  rfl
theorem eqlNil (w : World) (a : Option Addr) (n c n' c' : Nat) : (binOp .eql 24 (.slice a n c) (.slice none n' c')).run Tryd.prog w = .ok (.bool a.isNone) w := Lib.run_eql_slice_nil w _ _ a n c n' c' Tryd.underlying24
theorem sclone_nil (n c : Nat) (w : World) : Calls Tryd.prog 64 #[.slice none n c] w fun e w' => e = .returned (.slice none 0 0) ∧ w = w' := by
  have q := eqlNil
  go_enter Tryd.func64, Tryd.ntmps64
  go_wp2
  go_ret
  exact ⟨rfl, rfl⟩
set_option maxHeartbeats 400000 in
set_option maxRecDepth 100000 in
theorem sclone_some (b o m cap a : Nat) (w : World) (hc : ∀ i, i < m → w.cell? ⟨b, o + i, none⟩ = some (.int .u32 (dg 4294967296 a i : Nat))) (hm : m ≤ 1048576) :
    Calls Tryd.prog 64 #[.slice (some ⟨b, o, none⟩) m cap] w fun e w' => ∃ v', e = .returned v' ∧ Own .u32 4294967296 54 w' w.heap.size v' m a ∧ v' ≠ .slice none 0 0 ∧ Below w.heap.size w w' := by
  obtain ⟨i0, hi, hz0, hz1, hz2⟩ := info_parts Tryd.infoU32
  have q := eqlNil
  have HC := Lib.hid hc; clear hc
  go_enter Tryd.func64, Tryd.ntmps64
  go_wp2_with (at_builtin; refine wpList_append_own _ rfl _ _ 24 rfl w.heap.size 54 i0 (.int .u32 0) 1 4 Tryd.underlying24 hi hz0 hz1 hz2 rfl (by decide) _ _ _ rfl (World.ownsRow_made w #[] 0 (Nat.le_refl _) (Nat.zero_le _) rfl) ⟨b, o, none⟩ m cap ((pad 4294967296 m a).map fun d : Nat => Value.int .u32 (d : Int)) rfl ?qc1 ?qc2 ?qc3 ?qc4 ?qc5 ?qc6 ?_)
  case qc1 => simp [pad]
  case qc2 =>
    intro j u hj
    have hjm : j < m := by
      have := (List.getElem?_eq_some_iff.1 hj).1
      simpa [pad] using this
    rw [Addr.add_lit]
    refine Lib.cell?_alloc_some _ ?_
    rw [HC.out j hjm]
    rw [← hj]
    simp [pad, hjm]
  case qc3 => exact newsU32 a m
  case qc4 => unfold maxLen; omega
  case qc5 => omega
  case qc6 => simp
  intro v' w1 hown hgrow hnil
  go_wp2
  go_ret
  refine ⟨v', rfl, by unfold Own; simpa using hown, ?_, ?_⟩
  · exact hnil
  · exact ((Below.refl _ w).alloc (Nat.le_refl _) _).grown hgrow (by simp) (by intro k hk; simp [Value.ownBlock] at hk; omega)
set_option maxHeartbeats 400000 in
set_option maxRecDepth 100000 in
theorem sclone_zero (ad : Addr) (cap : Nat) (w : World) :
    Calls Tryd.prog 64 #[.slice (some ad) 0 cap] w fun e w' => ∃ v', e = .returned v' ∧ Own .u32 4294967296 54 w' w.heap.size v' 0 0 ∧ v' ≠ .slice none 0 0 ∧ Below w.heap.size w w' := by
  obtain ⟨i0, hi, hz0, hz1, hz2⟩ := info_parts Tryd.infoU32
  have q := eqlNil
  go_enter Tryd.func64, Tryd.ntmps64
  go_wp2_with (at_builtin; refine wpList_append_own _ rfl _ _ 24 rfl w.heap.size 54 i0 (.int .u32 0) 1 4 Tryd.underlying24 hi hz0 hz1 hz2 rfl (by decide) _ _ _ rfl (World.ownsRow_made w #[] 0 (Nat.le_refl _) (Nat.zero_le _) rfl) ad 0 cap [] rfl rfl (by intro j u hj; simp at hj) (by intro u hu; cases hu) (by unfold maxLen; omega) (by omega) (by simp) ?_)
  intro v' w1 hown hgrow hnil
  go_wp2
  go_ret
  refine ⟨v', rfl, by unfold Own; simpa [pad] using hown, ?_, ?_⟩
  · exact hnil
  · exact ((Below.refl _ w).alloc (Nat.le_refl _) _).grown hgrow (by simp) (by intro k hk; simp [Value.ownBlock] at hk; omega)
set_option maxHeartbeats 400000 in
theorem clone_any (v : Value) (a : Nat) (w : World) (hv : D w v a) (ha : nd 4294967296 a ≤ 1048576) :
    Calls Tryd.prog 40 #[v] w fun e w' => ∃ r, e = .returned r ∧ D w' r a ∧ Below w.heap.size w w' := by
  have hB : 2 ≤ 4294967296 := by decide
  have fin : ∀ (m : Nat) (v' : Value) (w' : World), a < 4294967296 ^ m → m ≤ 1048576 → Own .u32 4294967296 54 w' w.heap.size v' m a → v' ≠ .slice none 0 0 → Calls Tryd.prog 50 #[v'] w' fun e w2 => (∃ r, e = .returned r ∧ D w2 r a) ∧ w' = w2 := by
    intro m v' w' hlt hm hown hne
    rcases hown.shape with ⟨h, _⟩ | ⟨g, cap, rfl, _, _, hcap, _, hc⟩
    · exact absurd h hne
    · refine (trim_any g m cap a w' hc hlt (by omega) hcap).mono ?_
      rintro e w2 ⟨rfl, rfl⟩
      refine ⟨⟨_, rfl, ?_⟩, rfl⟩
      rcases Nat.eq_zero_or_pos a with h0 | h0
      · subst h0; rw [nd_zero]; exact IsN.zero _ _ _ _ _
      · exact .inr ⟨h0, g, 0, _, rfl, fun i hi => by rw [Nat.zero_add]; exact hc i (Nat.lt_of_lt_of_le hi ((nd_le hB).2 hlt))⟩
  have FIN := Lib.hid fin; clear fin
  rcases hv with ⟨h0, ao, cap, rfl⟩ | ⟨h0, b, o, cap, rfl, hc⟩
  · subst h0
    cases ao with
    | none =>
      go_enter Tryd.func40, Tryd.ntmps40
      go_wp2_with fail
      refine (sclone_nil _ _ _).mono ?_
      rintro e w' ⟨rfl, rfl⟩
      go_wp2_with fail
      refine (trim_nil _).mono ?_
      rintro e w' ⟨⟨r, rfl, hr⟩, rfl⟩
      go_wp2
      go_ret
      exact ⟨r, rfl, hr, Below.refl _ _⟩
    | some ad =>
      go_enter Tryd.func40, Tryd.ntmps40
      go_wp2_with fail
      refine (sclone_zero _ _ _).mono ?_
      rintro e w' ⟨v', rfl, hown, hne, hbel⟩
      go_wp2_with fail
      refine (FIN.out 0 _ _ (by simp) (by omega) hown hne).mono ?_
      rintro e w2 ⟨⟨r, rfl, hr⟩, rfl⟩
      go_wp2
      go_ret
      exact ⟨r, rfl, hr, hbel⟩
  · have HL := Lib.hid (nd_lt hB a)
    have HC := Lib.hid hc; clear hc
    generalize hm : nd 4294967296 a = m at *
    clear hm
    go_enter Tryd.func40, Tryd.ntmps40
    go_wp2_with fail
    refine (sclone_some _ _ _ _ a _ HC.out (by omega)).mono ?_
    rintro e w' ⟨v', rfl, hown, hne, hbel⟩
    go_wp2_with fail
    refine (FIN.out m _ _ HL.out (by omega) hown hne).mono ?_
    rintro e w2 ⟨⟨r, rfl, hr⟩, rfl⟩
    go_wp2
    go_ret
    exact ⟨r, rfl, hr, hbel⟩
end Go.Proofs.YthafnhjnlfpifaaDoor
namespace Go.Proofs.YthafnhjnlfpifaaDoor
open Go Go.RowKit Gu

theorem IsN.drewN {k : IntKind} {B : Nat} {w : World} {v : Value} {n : Nat} (h : IsN k B w v n) (q : Nat) : IsN k B (w.drewN q) v n := h.below (below_drewN (Below.refl _ _) q)
/-- what divide does, for numbers below N -/
def DivOK (N : Nat) : Prop := ∀ (v u : Value) (a b : Nat) (w : World), D w v a → D w u b → 0 < b → a < N → b < N →
  Calls Tryd.prog 33 #[v, u] w fun e w' => ∃ q r, e = .returned (.tuple #[q, r]) ∧ D w' q (a / b) ∧ D w' r (a % b) ∧ Below w.heap.size w w'
theorem nd_one {n : Nat} (h0 : 0 < n) (h : n < 4294967296) : nd 4294967296 n = 1 := nd_of (by decide) (by simpa using h) (fun _ => by simp [dg, Nat.mod_eq_of_lt h]; omega)
set_option maxHeartbeats 400000 in
theorem divide_small : DivOK 4294967296 := by
  intro v u a b w hv hu hb ha hbN
  have hB : 2 ≤ 4294967296 := by decide
  have hna : nd 4294967296 a ≤ 1 := (nd_le hB).2 (by simpa using ha)
  have hnb := nd_one hb hbN
  have HC := Lib.hid (compare_any v u a b w hv hu (by omega) (by omega))
  by_cases hlt : a < b
  · have HCl := Lib.hid (fun q => clone_any v a (w.drewN q) (IsN.drewN hv q) (by omega))
    have HE : Hid (a / b = 0 ∧ a % b = a) := ⟨Nat.div_eq_of_lt hlt, Nat.mod_eq_of_lt hlt⟩
    rw [cmpN_lt (by omega)] at HC
    obtain ⟨ao, ac, rfl, -⟩ := hv.shape
    obtain ⟨bo, bc, rfl, -⟩ := hu.shape
    clear hv hu hna hnb hb ha hbN hlt
    go_enter Tryd.func33, Tryd.ntmps33
    go_wp2_with fail
    refine HC.out.mono ?_
    rintro e w' ⟨rfl, q, rfl⟩
    go_wp2_with fail
    refine (HCl.out q).mono ?_
    rintro e w' ⟨r, rfl, hr, hbel⟩
    go_wp2
    go_ret2
    exact ⟨.slice none 0 0, r, rfl, by rw [HE.out.1]; exact IsN.zero _ _ _ _ _, by rw [HE.out.2]; exact hr, (below_drewN (Below.refl _ _) q).trans hbel⟩
  · have HD := Lib.hid (fun q => divideByDigit_any v a b (w.drewN q) (IsN.drewN hv q) (by omega) hb hbN)
    rcases hu with ⟨h0, _⟩ | ⟨_, bb, bo, bc, rfl, hcu⟩
    · omega
    have hcell : w.cell? ⟨bb, bo, none⟩ = some (.int .u32 (b : Nat)) := by
      have := hcu 0 (by omega)
      rw [Nat.add_zero] at this
      rw [this]; simp [dg, Nat.mod_eq_of_lt hbN]
    rw [hnb] at HC ⊢
    have hcmp : ¬ cmpN a b < 0 := by
      unfold cmpN; rw [if_neg (by omega)]; split <;> omega
    have hmod := Nat.mod_lt a hb
    generalize cmpN a b = cc at *
    have HDG := Lib.hid (fun w => digitsOf_any (a % b) w (by omega))
    generalize hmm : a % b = mm at *
    have HMM := Lib.hid hmm; clear hmm
    obtain ⟨ao, ac, rfl, -⟩ := hv.shape
    clear hv hna hnb ha hlt hcu
    go_enter Tryd.func33, Tryd.ntmps33
    go_wp2_with fail
    refine HC.out.mono ?_
    rintro e w' ⟨rfl, q, rfl⟩
    go_wp2_with fail
    refine (HD.out q).mono ?_
    rintro e w' ⟨r, rfl, hr, hbel⟩
    go_wp2_with fail
    refine (HDG.out _).mono ?_
    rintro e w2 ⟨r2, rfl, hr2, hbel2⟩
    go_wp2
    go_ret2
    exact ⟨r, r2, rfl, hr.below hbel2, hr2, ((below_drewN (Below.refl _ _) q).trans hbel).trans (hbel2.mono hbel.size)⟩
theorem remainder_any {N : Nat} (HN : DivOK N) (v u : Value) (a b : Nat) (w : World) (hv : D w v a) (hu : D w u b) (hb : 0 < b) (ha : a < N) (hbN : b < N) :
    Calls Tryd.prog 63 #[v, u] w fun e w' => ∃ r, e = .returned r ∧ D w' r (a % b) ∧ Below w.heap.size w w' := by
  have HD := Lib.hid (HN v u a b w hv hu hb ha hbN)
  obtain ⟨ao, ac, rfl, -⟩ := hv.shape
  obtain ⟨bo, bc, rfl, -⟩ := hu.shape
  clear hv hu HN hb ha hbN
  go_enter Tryd.func63, Tryd.ntmps63
  go_wp2_with fail
  refine HD.out.mono ?_
  rintro e w' ⟨q, r, rfl, hq, hr, hbel⟩
  go_wp2
  go_ret
  exact ⟨r, rfl, hr, hbel⟩
theorem quotient_any {N : Nat} (HN : DivOK N) (v u : Value) (a b : Nat) (w : World) (hv : D w v a) (hu : D w u b) (hb : 0 < b) (ha : a < N) (hbN : b < N) :
    Calls Tryd.prog 38 #[v, u] w fun e w' => ∃ r, e = .returned r ∧ D w' r (a / b) ∧ Below w.heap.size w w' := by
  have HD := Lib.hid (HN v u a b w hv hu hb ha hbN)
  obtain ⟨ao, ac, rfl, -⟩ := hv.shape
  obtain ⟨bo, bc, rfl, -⟩ := hu.shape
  clear hv hu HN hb ha hbN
  go_enter Tryd.func38, Tryd.ntmps38
  go_wp2_with fail
  refine HD.out.mono ?_
  rintro e w' ⟨q, r, rfl, hq, hr, hbel⟩
  go_wp2
  go_ret
  exact ⟨q, rfl, hq, hbel⟩
/-- what the loop of gcd keeps -/
def GcdRel (N g : Nat) (w : World) (x y : Value) (a b : Nat) (wr : World) : Prop := D wr x a ∧ D wr y b ∧ a < N ∧ b < N ∧ Nat.gcd a b = g ∧ Below w.heap.size w wr
set_option maxHeartbeats 400000 in
theorem gcd_any {N : Nat} (HN : DivOK N) (v u : Value) (a b : Nat) (w : World) (hv : D w v a) (hu : D w u b) (ha : a < N) (hb : b < N) :
    Calls Tryd.prog 39 #[v, u] w fun e w' => ∃ r, e = .returned r ∧ D w' r (Nat.gcd a b) ∧ Below w.heap.size w w' := by
  have hstart : GcdRel N (Nat.gcd a b) w v u a b w := ⟨hv, hu, ha, hb, rfl, Below.refl _ _⟩
  have HS := Lib.hid hstart
  have HNN := Lib.hid HN
  clear hstart hv hu ha hb HN
  go_enter Tryd.func39, Tryd.ntmps39
  go_wp2
  go_loopg [0, 1] b (fun n x y wr => ∃ a', GcdRel N (Nat.gcd a b) w x y a' n wr)
  case atStart => exact ⟨a, HS.out⟩
  case round =>
    obtain ⟨a', hx, hy, ha, hb, hg, hbel⟩ := hrel
    have HX := Lib.hid hx; have HY := Lib.hid hy; have HG := Lib.hid hg; have HB := Lib.hid hbel
    have HZ := Lib.hid (isZero_any _ _ _ hy)
    clear hx hy hg hbel
    by_cases h0 : gk = 0
    · subst h0
      rw [show decide ((0 : Nat) = 0) = true from rfl] at HZ
      go_wp2_with (go_at_call 22; refine HZ.out.mono ?_; rintro e w' ⟨rfl, rfl⟩)
      go_ret
      exact ⟨_, rfl, by rw [← HG.out, Nat.gcd_zero_right]; exact HX.out, HB.out⟩
    · rw [show decide (gk = 0) = false from by simp [h0]] at HZ
      have HR := Lib.hid (remainder_any HNN.out _ _ a' gk wr HX.out HY.out (by omega) ha hb)
      go_wp2_with (go_at_call 22; refine HZ.out.mono ?_; rintro e w' ⟨rfl, rfl⟩)
      refine HR.out.mono ?_
      rintro e w' ⟨r, rfl, hr, hbel2⟩
      have HE : Hid (GcdRel N (Nat.gcd a b) w _ r gk (a' % gk) w') := ⟨HY.out.below hbel2, hr, hb, Nat.lt_trans (Nat.mod_lt _ (by omega)) hb, by rw [← HG.out, Nat.gcd_comm gk, ← Nat.gcd_rec, Nat.gcd_comm], HB.out.trans (hbel2.mono HB.out.size)⟩
      have hm : a' % gk < gk := Nat.mod_lt _ (by omega)
      clear hr hbel2
      generalize a' % gk = mm at *
      go_wp2
      go_roundg mm
      case measure => exact hm
      case rel => exact ⟨gk, HE.out⟩
end Go.Proofs.YthafnhjnlfpifaaDoor
namespace Go.Proofs.YthafnhjnlfpifaaDoor
open Go Go.RowKit Gu

theorem bcell {W w1 : World} (hb : Below W.heap.size W w1) : (∀ b o, b < W.heap.size → w1.cell? ⟨b, o, none⟩ = W.cell? ⟨b, o, none⟩) ∧ (∀ b o, b < W.heap.size → w1.frozen? ⟨b, o, none⟩ = W.frozen? ⟨b, o, none⟩) :=
  ⟨fun b o h => hb.cell (p := ⟨b, o, none⟩) h, fun b o h => hb.frozen (p := ⟨b, o, none⟩) h⟩
theorem New_any (n : Nat) (w : World) (hn : n ≤ 9223372036854775807) :
    Calls Tryd.prog 46 #[.int .i64 n] w fun e w' => ∃ v, e = .returned (.tuple #[.agg #[v], .int .i64 0]) ∧ D w' v n ∧ Below w.heap.size w w' := by
  have HD := Lib.hid (fun w => digitsOf_any n w (by omega))
  go_enter Tryd.func46, Tryd.ntmps46
  go_wp2_with fail
  refine (HD.out _).mono ?_
  rintro e w' ⟨v, rfl, hv, hbel⟩
  obtain ⟨hc, hf⟩ := bcell hbel
  obtain ⟨ao, cap, rfl, -⟩ := hv.shape
  have HV := Lib.hid hv; have HB := Lib.hid hbel
  have hz := hbel.size
  simp only [World.size_alloc] at hz
  clear hv hbel
  go_wp2
  refine bodyPost_ret (v := .tuple #[.agg #[.slice ao (nd 4294967296 n) cap], .int .i64 0]) (by simp [results, Tryd.results46, go_sem, hc]) rfl ⟨_, rfl, HV.out.setCell ((hc _ _ (by simp)).trans (World.cell?_alloc_at _ _ _ _ rfl)) (by intro d h; cases h) _, ?_⟩
  exact (((Below.refl _ _).alloc (Nat.le_refl _) _).trans (HB.out.mono (by simp))).setCell (Nat.le_refl _) _
end Go.Proofs.YthafnhjnlfpifaaDoor
namespace Go.Proofs.YthafnhjnlfpifaaDoor
open Go Go.RowKit Gu

/-- the error, and the number, of a result that may not fit -/
def fitE (n : Nat) : Int := if nd 2 n ≤ 16384 then 0 else 3
def fitN (n : Nat) : Nat := if nd 2 n ≤ 16384 then n else 0
theorem nd_two_le {n k : Nat} (h : nd 4294967296 n ≤ k) : nd 2 n ≤ 32 * k := by
  have h1 := (nd_le (by decide : 2 ≤ 4294967296)).1 h
  apply (nd_le (by decide : 2 ≤ 2)).2
  rw [Nat.pow_mul]
  exact h1
theorem fitting_any (v : Value) (n : Nat) (w : World) (hv : D w v n) (hn : nd 4294967296 n ≤ 1048576) :
    Calls Tryd.prog 28 #[v] w fun e w' => ∃ r, e = .returned (.tuple #[.agg #[r], .int .i64 (fitE n)]) ∧ D w' r (fitN n) ∧ Below w.heap.size w w' := by
  have h2 := nd_two_le hn
  have HBL := Lib.hid (fun o => bitLen_any v n (w.alloc o) (hv.below ((Below.refl _ _).alloc (Nat.le_refl _) _)) hn)
  have HV := Lib.hid (fun o => hv.below ((Below.refl _ w).alloc (Nat.le_refl _) o))
  obtain ⟨ao, cap, rfl, -⟩ := hv.shape
  by_cases hf : nd 2 n ≤ 16384
  · have HE : Hid (fitE n = 0 ∧ fitN n = n) := ⟨if_pos hf, if_pos hf⟩
    clear hv hn
    generalize nd 2 n = bl at *
    go_enter Tryd.func28, Tryd.ntmps28
    go_wp2_with fail
    refine (HBL.out _).mono ?_
    rintro e w' ⟨rfl, rfl⟩
    go_wp2
    refine bodyPost_ret (v := .tuple #[.agg #[.slice ao (nd 4294967296 n) cap], .int .i64 0]) (by simp [results, Tryd.results28, go_sem]) rfl ⟨_, by rw [HE.out.1], ?_, ?_⟩
    · rw [HE.out.2]; exact HV.out _
    · exact ((Below.refl _ _).alloc (Nat.le_refl _) _)
  · have HE : Hid (fitE n = 3 ∧ fitN n = 0) := ⟨if_neg hf, if_neg hf⟩
    clear hv hn
    generalize nd 2 n = bl at *
    go_enter Tryd.func28, Tryd.ntmps28
    go_wp2_with fail
    refine (HBL.out _).mono ?_
    rintro e w' ⟨rfl, rfl⟩
    go_wp2
    refine bodyPost_ret (v := .tuple #[.agg #[.slice none 0 0], .int .i64 3]) (by simp [results, Tryd.results28, go_sem]) rfl ⟨_, by rw [HE.out.1], ?_, ?_⟩
    · rw [HE.out.2]; exact IsN.zero _ _ _ _ _
    · exact ((Below.refl _ _).alloc (Nat.le_refl _) _)
theorem nd_add {a b m : Nat} (ha : nd 4294967296 a ≤ m) (hb : nd 4294967296 b ≤ m) : nd 4294967296 (a + b) ≤ m + 1 := by
  have h1 := (nd_le (by decide : 2 ≤ 4294967296)).1 ha
  have h2 := (nd_le (by decide : 2 ≤ 4294967296)).1 hb
  apply (nd_le (by decide : 2 ≤ 4294967296)).2
  rw [Nat.pow_succ]
  generalize (4294967296 : Nat) ^ m = p at *
  omega
theorem nd_mul {a b m k : Nat} (ha : nd 4294967296 a ≤ m) (hb : nd 4294967296 b ≤ k) : nd 4294967296 (a * b) ≤ m + k := by
  have h1 := (nd_le (by decide : 2 ≤ 4294967296)).1 ha
  have h2 := (nd_le (by decide : 2 ≤ 4294967296)).1 hb
  apply (nd_le (by decide : 2 ≤ 4294967296)).2
  rw [Nat.pow_add]
  exact Nat.mul_lt_mul_of_lt_of_le h1 (Nat.le_of_lt h2) (Nat.pow_pos (by decide))
set_option maxHeartbeats 400000 in
theorem Add_any (v u : Value) (a b : Nat) (w : World) (hv : D w v a) (hu : D w u b) (ha : nd 4294967296 a ≤ 500000) (hb : nd 4294967296 b ≤ 500000) :
    Calls Tryd.prog 7 #[.agg #[v], .agg #[u]] w fun e w' => ∃ r, e = .returned (.tuple #[.agg #[r], .int .i64 (fitE (a + b))]) ∧ D w' r (fitN (a + b)) ∧ Below w.heap.size w w' := by
  have hnd := nd_add ha hb
  have b3 : ∀ o1 o2 o3, Below w.heap.size w (((w.alloc o1).alloc o2).alloc o3) := fun o1 o2 o3 => (((Below.refl _ _).alloc (Nat.le_refl _) _).alloc (by simp) _).alloc (by simp; omega) _
  have HS := Lib.hid (fun o1 o2 o3 => sum_any v u a b (((w.alloc o1).alloc o2).alloc o3) (hv.below (b3 o1 o2 o3)) (hu.below (b3 o1 o2 o3)) (by omega) (by omega))
  have HB3 := Lib.hid b3
  obtain ⟨ao, ac, rfl, -⟩ := hv.shape
  obtain ⟨bo, bc, rfl, -⟩ := hu.shape
  clear hv hu b3
  go_enter Tryd.func7, Tryd.ntmps7
  go_wp2_with fail
  refine (HS.out _ _ _).mono ?_
  rintro e w1 ⟨r, rfl, hr, hbel⟩
  have HF := Lib.hid (fitting_any r (a + b) w1 hr (by omega))
  clear hr
  obtain ⟨hc, hf⟩ := bcell hbel
  have HB1 := Lib.hid hbel
  have hz := hbel.size
  simp only [World.size_alloc] at hz
  clear hbel
  go_wp2_with fail
  refine HF.out.mono ?_
  rintro e w2 ⟨r2, rfl, hr2, hbel2⟩
  obtain ⟨hc2, hf2⟩ := bcell hbel2
  obtain ⟨ro, rc, rfl, -⟩ := hr2.shape
  have HB2 := Lib.hid hbel2
  have HR2 := Lib.hid hr2
  have hz2 := hbel2.size
  clear hbel2 hr2
  have hcell : w2.cell? ⟨w.heap.size + 1 + 1, 0, none⟩ = some (.slice none 0 0) := by
    rw [hc2 _ _ (by omega), hc _ _ (by simp)]
    exact World.cell?_alloc_at _ _ _ _ (by simp)
  have hfr : w2.frozen? ⟨w.heap.size + 1 + 1, 0, none⟩ = false := by
    rw [hf2 _ _ (by omega), hf _ _ (by simp)]
    exact World.frozen?_alloc_at _ _ _ _ (by simp)
  have HCE := Lib.hid hcell
  clear hc hf hc2 hf2
  go_wp2
  refine bodyPost_ret (v := .tuple #[.agg #[.slice ro (nd 4294967296 (fitN (a + b))) rc], .int .i64 (fitE (a + b))]) (by simp [results, Tryd.results7, go_sem, hcell]) rfl ⟨_, rfl, HR2.out.setCell HCE.out (by intro d h; cases h) _, ?_⟩
  exact (((HB3.out _ _ _).trans (HB1.out.mono (by simp; omega))).trans (HB2.out.mono (by omega))).setCell (by show w.heap.size ≤ w.heap.size + 1 + 1; omega) _
end Go.Proofs.YthafnhjnlfpifaaDoor
namespace Go.Proofs.YthafnhjnlfpifaaDoor
open Go Go.RowKit Gu

/-- one digit shifted left, laid over a carry -/
theorem shl_digits (c d s : Nat) (hs : s < 32) (hc : c < 2 ^ s) (hd : d < 4294967296) : bits BinOp.or IntKind.u64 (c : Int) (IntKind.u64.wrap ((d : Int) * 2 ^ s)) = ((c + d * 2 ^ s : Nat) : Int) := by
  have hp : (2 : Nat) ^ s ≤ 2147483648 := Nat.le_trans (Nat.pow_le_pow_right (by decide) (show s ≤ 31 by omega)) (by decide)
  have h1 : d * 2 ^ s ≤ 4294967295 * 2147483648 := Nat.mul_le_mul (by omega) hp
  have e := bits_or_u64_nat c (d * 2 ^ s) (by omega) (by omega)
  have e2 : c ||| (d * 2 ^ s) = c + d * 2 ^ s := by
    have := Nat.two_pow_add_eq_or_of_lt (i := s) (b := c) hc d
    rw [Nat.or_comm, Nat.mul_comm d, ← this, Nat.add_comm]
  rw [e2] at e
  have e3 : IntKind.u64.wrap ((d : Int) * 2 ^ s) = ((d * 2 ^ s : Nat) : Int) := by
    rw [wrap_u64, show (d : Int) * 2 ^ s = ((d * 2 ^ s : Nat) : Int) by simp]
    omega
  rw [e3]
  exact e
/-- what the loop of shiftLeft keeps -/
def ShlRel (a s wh m : Nat) (w : World) (k X c : Nat) (wr : World) : Prop :=
  c < 2 ^ s ∧ X < 4294967296 ^ k ∧ X + 4294967296 ^ k * c = (a % 4294967296 ^ k) * 2 ^ s ∧ Buf .u32 4294967296 54 wr w.heap.size m (0 + 4294967296 ^ wh * X) ∧ Below w.heap.size w wr
theorem buf_shift {g m wh k X d : Nat} {wr : World} (h : Buf .u32 4294967296 54 wr g m (0 + 4294967296 ^ wh * X)) (hX : X < 4294967296 ^ k) (hd : d < 4294967296) :
    Buf .u32 4294967296 54 (wr.setCell ⟨g, k + wh, none⟩ (.int .u32 d)) g m (0 + 4294967296 ^ wh * (X + 4294967296 ^ k * d)) := by
  have := h.put (by decide) (show 0 + 4294967296 ^ wh * X < 4294967296 ^ (k + wh) by rw [Nat.add_comm k]; exact win_lt (Nat.pow_pos (by decide)) hX) hd
  have e : 0 + 4294967296 ^ wh * (X + 4294967296 ^ k * d) = (0 + 4294967296 ^ wh * X) + 4294967296 ^ (k + wh) * d := by
    rw [Nat.mul_add, Nat.add_comm k wh, Nat.pow_add, Nat.mul_assoc, Nat.add_assoc]
  rw [e]; exact this
theorem ShlRel.next {a s wh m : Nat} {w : World} {k X c : Nat} {wr : World} (h : ShlRel a s wh m w k X c wr) :
    ShlRel a s wh m w (k + 1) (X + 4294967296 ^ k * ((c + dg 4294967296 a k * 2 ^ s) % 4294967296)) ((c + dg 4294967296 a k * 2 ^ s) / 4294967296)
      (wr.setCell ⟨w.heap.size, k + wh, none⟩ (.int .u32 (((c + dg 4294967296 a k * 2 ^ s) % 4294967296 : Nat) : Int))) := by
  obtain ⟨h1, h2, h3, h4, h5⟩ := h
  have hda := dg_lt (B := 4294967296) (by decide) a k
  have hd : (c + dg 4294967296 a k * 2 ^ s) % 4294967296 < 4294967296 := Nat.mod_lt _ (by decide)
  exact ⟨shl_carry h1 hda, snoc_lt h2 hd, shl_round h3, buf_shift h4 h2 hd, h5.setCell (Nat.le_refl _) _⟩
set_option maxHeartbeats 1000000 in
set_option maxRecDepth 100000 in
theorem shiftLeft_any (v : Value) (a n : Nat) (w : World) (hv : D w v a) (ha : nd 4294967296 a ≤ 500000) (hn : n ≤ 16000000) :
    Calls Tryd.prog 35 #[v, .int .i64 n] w fun e w' => ∃ r, e = .returned r ∧ D w' r (a * 2 ^ n) ∧ Below w.heap.size w w' := by
  have hB : 2 ≤ 4294967296 := by decide
  obtain ⟨ao, ac, hv', hcv⟩ := hv.shape
  have hla := nd_lt hB a
  subst hv'
  clear hv
  generalize hm : nd 4294967296 a = m at *
  clear hm
  obtain ⟨wh, hwh⟩ : ∃ wh, wh = n / 32 := ⟨_, rfl⟩
  obtain ⟨s, hs⟩ : ∃ s, s = n % 32 := ⟨_, rfl⟩
  have hs32 : s < 32 := by omega
  have hwl : wh ≤ 500000 := by omega
  have q1 : (n : Int) / 32 = wh := by omega
  have q2 : (n : Int) % 32 = s := by omega
  have HNW : Hid (n = 32 * wh + s) := by show _ = _; omega
  clear hwh hs
  have hmk := made_u32 (m + wh + 1) (by omega)
  rw [show (((m + wh + 1 : Nat)) : Int) = (m : Int) + wh + 1 from by omega] at hmk
  have HL := Lib.hid hla; clear hla
  have hpos : 0 < 2 ^ s := Nat.pow_pos (by decide)
  have hp31 : (2 : Nat) ^ s ≤ 2147483648 := Nat.le_trans (Nat.pow_le_pow_right (by decide) (show s ≤ 31 by omega)) (by decide)
  go_enter Tryd.func35, Tryd.ntmps35
  go_wp2
  simp only [q2]
  go_loopw [8, 22] (fun c t wr => ∃ k X cc : Nat, k ≤ m ∧ t = .int .i64 k ∧ c = .int .u64 cc ∧ ShlRel a s wh (m + wh + 1) w k X cc wr) (fun _ t _ => m - (intOf t).toNat)
  case atStart => exact ⟨0, 0, 0, Nat.zero_le _, rfl, rfl, hpos, by simp, by simp [Nat.mod_one], by simpa using Buf.made _ _ _ _ _, (Below.refl _ _).alloc (Nat.le_refl _) _⟩
  case round =>
    obtain ⟨k, X, c, hk, rfl, rfl, hrel⟩ := hrel
    have hbel := hrel.2.2.2.2
    have hbuf := hrel.2.2.2.1
    have hc1 : c < 2 ^ s := hrel.1
    by_cases hlt : k < m
    · obtain ⟨gb, go, rfl, hca⟩ := hcv k hlt
      have hca' : wr.cell? ⟨gb, go + k, none⟩ = some (.int .u32 (dg 4294967296 a k : Nat)) := by
        rw [hbel.cell (p := ⟨gb, go + k, none⟩) (World.block_lt_of_cell? _ _ hca)]; exact hca
      have hcell := hbuf.cell (i := k + wh) (by omega)
      have hfr := hbuf.frozen (k + wh)
      have HR := Lib.hid hrel.next
      clear hrel hbuf hbel hca hcv
      have hda := dg_lt (B := 4294967296) (by decide) a k
      have hkl : (k : Int) < m := by omega
      generalize dg 4294967296 (0 + 4294967296 ^ wh * X) (k + wh) = dx at *
      generalize dg 4294967296 a k = d at *
      have HSD := Lib.hid (shl_digits c d s hs32 hc1 hda)
      generalize hte : c + d * 2 ^ s = t at *
      clear hte
      go_wp2
      rw [HSD.out]
      go_roundw
      case rel => exact ⟨k + 1, X + 4294967296 ^ k * (t % 4294967296), t / 4294967296, by omega, by go_num, by go_num, HR.out⟩
      case measure => simp [intOf]; omega
    · obtain rfl : k = m := by omega
      clear hlt hk
      have hcell := hbuf.cell (i := k + wh) (by omega)
      have hfr := hbuf.frozen (k + wh)
      obtain ⟨-, hX, hsum, -, -⟩ := hrel
      rw [Nat.mod_eq_of_lt HL.out] at hsum
      have hc4 : c < 4294967296 := by omega
      have hput := buf_shift hbuf hX hc4
      have hlt : 0 + 4294967296 ^ wh * (X + 4294967296 ^ k * c) < 4294967296 ^ (wh + (k + 1)) := win_lt (Nat.pow_pos (by decide)) (snoc_lt hX hc4)
      have hval : 0 + 4294967296 ^ wh * (X + 4294967296 ^ k * c) = a * 2 ^ n := by
        rw [hsum, HNW.out, Nat.pow_add, Nat.pow_mul, Nat.zero_add, Nat.mul_left_comm]
      rw [hval] at hput hlt
      rw [show wh + (k + 1) = k + wh + 1 from by omega] at hlt
      have hbel' := hbel.setCell (p := ⟨w.heap.size, k + wh, none⟩) (Nat.le_refl _) (.int .u32 c)
      have HP := Lib.hid hput; have HLT := Lib.hid hlt; have HBel := Lib.hid hbel'
      clear hsum hX hbuf hbel hput hlt hbel' hval hcv
      generalize dg 4294967296 (0 + 4294967296 ^ wh * X) (k + wh) = dx at *
      go_wp2_with fail
      refine (trim_buf _ _ _ (a * 2 ^ n) _ HP.out HLT.out (by omega) (by omega)).mono ?_
      rintro e w' ⟨rfl, rfl⟩
      go_wp2
      go_ret
      exact ⟨_, rfl, HP.out.isN hB HLT.out _, HBel.out⟩
/-- a word of two digits, shifted right -/
theorem shr_digits (x y s : Nat) (hs : s < 32) (hx : x < 4294967296) (hy : y < 4294967296) : bits BinOp.or IntKind.u64 (x : Int) ((y : Int) * 4294967296) / 2 ^ s % 4294967296 = (((x + 4294967296 * y) / 2 ^ s % 4294967296 : Nat) : Int) := by
  have e := bits_or_u64_nat x (y * 4294967296) (by omega) (by omega)
  have e2 : x ||| (y * 4294967296) = x + 4294967296 * y := by
    have := Nat.two_pow_add_eq_or_of_lt (i := 32) (b := x) hx y
    rw [Nat.or_comm, Nat.mul_comm y, show (4294967296 : Nat) = 2 ^ 32 from by decide, ← this, Nat.add_comm]
  rw [e2] at e
  have e3 : (y : Int) * 4294967296 = ((y * 4294967296 : Nat) : Int) := by simp
  rw [e3, e]
  generalize x + 4294967296 * y = t
  have := hs
  simp
theorem pow_n32 {n wh s : Nat} (h : n = 32 * wh + s) : 2 ^ n = 4294967296 ^ wh * 2 ^ s := by
  rw [h, Nat.pow_add, Nat.pow_mul]
theorem pow_dvd32 {s : Nat} (h : s ≤ 32) : 4294967296 = 2 ^ s * 2 ^ (32 - s) := by
  rw [← Nat.pow_add, show s + (32 - s) = 32 from by omega]
/-- what the loop of shiftRight keeps -/
def ShrRel (a n m : Nat) (w : World) (k : Nat) (wr : World) : Prop :=
  Buf .u32 4294967296 54 wr w.heap.size m (a / 2 ^ n % 4294967296 ^ k) ∧ Below w.heap.size w wr
set_option maxHeartbeats 1000000 in
set_option maxRecDepth 100000 in
theorem shiftRight_any (v : Value) (a n : Nat) (w : World) (hv : D w v a) (ha : nd 4294967296 a ≤ 1048576) (hn : n ≤ 9223372036854775807) :
    Calls Tryd.prog 36 #[v, .int .i64 n] w fun e w' => ∃ r, e = .returned r ∧ D w' r (a / 2 ^ n) ∧ Below w.heap.size w w' := by
  have hB : 2 ≤ 4294967296 := by decide
  obtain ⟨ao, ac, hv', -⟩ := hv.shape
  have hla := nd_lt hB a
  have HV := Lib.hid hv
  subst hv'
  clear hv
  generalize hm : nd 4294967296 a = m at *
  have HNA := Lib.hid hm
  clear hm
  obtain ⟨wh, hwh⟩ : ∃ wh, wh = n / 32 := ⟨_, rfl⟩
  obtain ⟨s, hs⟩ : ∃ s, s = n % 32 := ⟨_, rfl⟩
  have hs32 : s < 32 := by omega
  have hwl : wh ≤ 288230376151711743 := by omega
  have q1 : (n : Int) / 32 = wh := by omega
  have q2 : (n : Int) % 32 = s := by omega
  have HNW : Hid (n = 32 * wh + s) := by show _ = _; omega
  clear hwh hs
  have HL := Lib.hid hla; clear hla
  by_cases hge : m ≤ wh
  · have HZ : Hid (a / 2 ^ n = 0) := by
      show _ = _
      apply Nat.div_eq_of_lt
      rw [pow_n32 HNW.out]
      have h1 : 4294967296 ^ m ≤ 4294967296 ^ wh := Nat.pow_le_pow_right (by decide) hge
      have h2 : 4294967296 ^ wh ≤ 4294967296 ^ wh * 2 ^ s := Nat.le_mul_of_pos_right _ (Nat.pow_pos (by decide))
      have := HL.out
      omega
    go_enter Tryd.func36, Tryd.ntmps36
    go_wp2
    go_ret
    exact ⟨_, rfl, by rw [HZ.out]; exact IsN.zero _ _ _ _ _, Below.refl _ _⟩
  · obtain ⟨j, rfl⟩ : ∃ j, m = j + wh := ⟨m - wh, by omega⟩
    have hmk := made_u32 j (by omega)
    have hsub : ((j + wh : Nat) : Int) - wh = j := by omega
    have HD := Lib.hid (fun k => shr_digit (B := 4294967296) (a := a) (w := wh) (s := 2 ^ s) (i := k) (by decide) ⟨_, pow_dvd32 (by omega)⟩)
    rw [← pow_n32 HNW.out] at HD
    go_enter Tryd.func36, Tryd.ntmps36
    go_wp2
    simp only [q2]
    go_loopw [25] (fun t wr => ∃ k : Nat, k ≤ j ∧ t = .int .i64 k ∧ ShrRel a n j w k wr) (fun t _ => j - (intOf t).toNat)
    case atStart => exact ⟨0, Nat.zero_le _, rfl, by simpa [Nat.mod_one] using Buf.made _ _ _ _ _, (Below.refl _ _).alloc (Nat.le_refl _) _⟩
    case round =>
      obtain ⟨k, hk, rfl, hbuf, hbel⟩ := hrel
      by_cases hlt : k < j
      · have HA := Lib.hid (at_any _ a (k + wh) wr (HV.out.below hbel) (by rw [HNA.out]; omega))
        have HB' := Lib.hid (at_any _ a (k + wh + 1) wr (HV.out.below hbel) (by rw [HNA.out]; omega))
        have hcell := hbuf.cell (i := k) (by omega)
        have hfr := hbuf.frozen k
        have hda := dg_lt (B := 4294967296) (by decide) a (k + wh)
        have hdb := dg_lt (B := 4294967296) (by decide) a (k + wh + 1)
        have hW := shr_digits _ _ s hs32 hda hdb
        rw [← HD.out k] at hW
        have HN : Hid (ShrRel a n j w (k + 1) (wr.setCell ⟨w.heap.size, k, none⟩ (.int .u32 (dg 4294967296 (a / 2 ^ n) k : Nat)))) := by
          refine ⟨?_, hbel.setCell (Nat.le_refl _) _⟩
          rw [mod_succ]
          exact hbuf.put (by decide) (Nat.mod_lt _ (Nat.pow_pos (by decide))) (dg_lt (by decide) _ _)
        have HW := Lib.hid hW
        clear hbuf hbel hW
        have hkl : (k : Int) < j := by omega
        generalize dg 4294967296 (a / 2 ^ n) k = dn at *
        generalize dg 4294967296 (a / 2 ^ n % 4294967296 ^ k) k = dx at *
        generalize dg 4294967296 a (k + wh) = da at *
        generalize dg 4294967296 a (k + wh + 1) = db at *
        go_wp2_with fail
        refine HA.out.mono ?_
        rintro e w' ⟨rfl, rfl⟩
        go_wp2_with fail
        refine HB'.out.mono ?_
        rintro e w' ⟨rfl, rfl⟩
        go_wp2
        rw [HW.out]
        go_roundw
        case rel => exact ⟨k + 1, by omega, by go_num, HN.out⟩
        case measure => simp [intOf]; omega
      · obtain rfl : k = j := by omega
        have hlt2 : a / 2 ^ n < 4294967296 ^ k := by
          rw [pow_n32 HNW.out, ← Nat.div_div_eq_div_mul]
          refine Nat.lt_of_le_of_lt (Nat.div_le_self _ _) ?_
          rw [Nat.div_lt_iff_lt_mul (Nat.pow_pos (by decide)), ← Nat.pow_add]
          exact HL.out
        rw [Nat.mod_eq_of_lt hlt2] at hbuf
        have HBuf := Lib.hid hbuf; have HBel := Lib.hid hbel; have HX := Lib.hid hlt2
        clear hbuf hbel hlt hk hlt2
        go_wp2_with fail
        refine (trim_buf _ _ _ (a / 2 ^ n) _ HBuf.out HX.out (by omega) (by omega)).mono ?_
        rintro e w' ⟨rfl, rfl⟩
        go_wp2
        go_ret
        exact ⟨_, rfl, HBuf.out.isN hB HX.out _, HBel.out⟩
end Go.Proofs.YthafnhjnlfpifaaDoor
namespace Go.Proofs.YthafnhjnlfpifaaDoor
open Go Go.RowKit Gu

theorem made_u32' (n : Nat) (h : n ≤ 1099511627776) : ∀ w, (Instr.makeSlice 23 (.int .i64 (n : Int)) (.int .i64 (n : Int))).run Tryd.prog w = .ok (.slice (some ⟨w.heap.size, 0, none⟩) n n) (w.alloc (.cells (madeCells #[.int .u32 0] n) 54)) := made_u32 n h
/-- one digit of a difference, as the machine makes it -/
theorem sub_digits (da db c : Nat) (h1 : da < 4294967296) (h2 : db < 4294967296) (h3 : c ≤ 1) : ∃ d br : Nat, IntKind.u64.wrap (IntKind.u64.wrap ((da : Int) - db) - c) % 4294967296 = (d : Int) ∧
    IntKind.u64.wrap (IntKind.u64.wrap ((da : Int) - db) - c) / 9223372036854775808 = (br : Int) ∧ d + db + c = da + 4294967296 * br ∧ d < 4294967296 ∧ br ≤ 1 := by
  simp only [wrap_u64]
  by_cases h : db + c ≤ da
  · exact ⟨da - db - c, 0, by omega, by omega, by omega, by omega, by omega⟩
  · exact ⟨da + 4294967296 - db - c, 1, by omega, by omega, by omega, by omega, by omega⟩
/-- what the loop of difference keeps -/
def DifRel (a b m : Nat) (w : World) (k X br : Nat) (wr : World) : Prop :=
  br ≤ 1 ∧ X < 4294967296 ^ k ∧ X + b % 4294967296 ^ k = a % 4294967296 ^ k + 4294967296 ^ k * br ∧ Buf .u32 4294967296 54 wr w.heap.size m X ∧ Below w.heap.size w wr
theorem DifRel.next {a b m : Nat} {w : World} {k X br d br' : Nat} {wr : World} (h : DifRel a b m w k X br wr) (hd : d + dg 4294967296 b k + br = dg 4294967296 a k + 4294967296 * br') (h1 : d < 4294967296) (h2 : br' ≤ 1) (q : Nat) :
    DifRel a b m w (k + 1) (X + 4294967296 ^ k * d) br' ((wr.drewN q).setCell ⟨w.heap.size, k, none⟩ (.int .u32 (d : Nat))) := by
  obtain ⟨g1, g2, g3, g4, g5⟩ := h
  exact ⟨h2, snoc_lt g2 h1, sub_round g3 hd, Buf.put (w := wr.drewN q) g4 (by decide) g2 h1, (below_drewN g5 q).setCell (Nat.le_refl _) _⟩
set_option maxHeartbeats 800000 in
theorem difference_any (v u : Value) (a b : Nat) (w : World) (hv : D w v a) (hu : D w u b) (ha : nd 4294967296 a ≤ 1048576) (hb : nd 4294967296 b ≤ 1048576) (hle : b ≤ a) :
    Calls Tryd.prog 32 #[v, u] w fun e w' => ∃ r, e = .returned r ∧ D w' r (a - b) ∧ Below w.heap.size w w' := by
  have hB : 2 ≤ 4294967296 := by decide
  obtain ⟨ao, ac, hv', hcv⟩ := hv.shape
  obtain ⟨bo, bc, hu', -⟩ := hu.shape
  have HU := Lib.hid hu
  have hla := nd_lt hB a
  have HAB := Lib.hid hle
  subst hv'; subst hu'
  clear hv hu hle
  generalize hm : nd 4294967296 a = m at *
  clear hm
  have hmk := made_u32 m (by omega)
  have HL := Lib.hid hla; clear hla
  go_enter Tryd.func32, Tryd.ntmps32
  go_wp2
  go_loopw [6, 14] (fun c t wr => ∃ k X cc : Nat, k ≤ m ∧ t = .int .i64 k ∧ c = .int .u64 cc ∧ DifRel a b m w k X cc wr) (fun _ t _ => m - (intOf t).toNat)
  case atStart => exact ⟨0, 0, 0, Nat.zero_le _, rfl, rfl, by omega, by simp, by simp [Nat.mod_one], Buf.made _ _ _ _ _, (Below.refl _ _).alloc (Nat.le_refl _) _⟩
  case round =>
    obtain ⟨k, X, c, hk, rfl, rfl, hrel⟩ := hrel
    have hbel := hrel.2.2.2.2
    have hbuf := hrel.2.2.2.1
    have hc1 : c ≤ 1 := hrel.1
    by_cases hlt : k < m
    · have hB' := Lib.hid (fun q => at_any _ b k (wr.drewN q) (HU.out.below (below_drewN hbel q)) (by omega))
      obtain ⟨gb, go, rfl, hca⟩ := hcv k hlt
      have hca' : wr.cell? ⟨gb, go + k, none⟩ = some (.int .u32 (dg 4294967296 a k : Nat)) := by
        rw [hbel.cell (p := ⟨gb, go + k, none⟩) (World.block_lt_of_cell? _ _ hca)]; exact hca
      have hcell := hbuf.cell (i := k) (by omega)
      have hfr := hbuf.frozen k
      have HR := Lib.hid hrel
      clear hrel hbuf hbel hca hcv
      have hda := dg_lt (B := 4294967296) (by decide) a k
      have hdb := dg_lt (B := 4294967296) (by decide) b k
      have hkl : (k : Int) < m := by omega
      generalize dg 4294967296 X k = dx at *
      go_wp2
      go_quiet ((go_at_call 57; exact Calls.quiet_of_same ((hB'.out _).mono fun _ _ ⟨h, h'⟩ => ⟨h, h'.symm⟩)))
      go_wp2
      obtain ⟨d, br, e1, e2, e3, e4, e5⟩ := sub_digits _ _ c hda hdb hc1
      rw [e1, e2]
      have HN := HR.out.next e3 e4 e5 nq
      go_roundw
      case rel => exact ⟨k + 1, _, br, by omega, by go_num, rfl, HN⟩
      case measure => simp [intOf]; omega
    · obtain rfl : k = m := by omega
      obtain ⟨-, hX, hsum, -, -⟩ := hrel
      have hb1 : b < 4294967296 ^ k := Nat.lt_of_le_of_lt HAB.out HL.out
      rw [Nat.mod_eq_of_lt HL.out, Nat.mod_eq_of_lt hb1] at hsum
      have hc0 : c = 0 := by
        rcases Nat.lt_or_ge c 1 with h | h
        · omega
        · have : c = 1 := by omega
          subst this
          have := HAB.out; omega
      subst hc0
      have hx : X = a - b := by omega
      have HX := Lib.hid hX
      have HXE := Lib.hid hx
      have HBuf := Lib.hid hbuf
      have HBel := Lib.hid hbel
      clear hsum hb1 hx hX hbuf hbel hcv hlt hk
      go_wp2_with fail
      refine (trim_buf _ _ _ X _ HBuf.out HX.out (by omega) (by omega)).mono ?_
      rintro e w' ⟨rfl, rfl⟩
      go_wp2
      go_ret
      exact ⟨_, rfl, HXE.out ▸ HBuf.out.isN hB HX.out _, HBel.out⟩
end Go.Proofs.YthafnhjnlfpifaaDoor
namespace Go.Proofs.YthafnhjnlfpifaaDoor
open Go Go.RowKit Gu

/-- one digit of a row times a digit, with a carry, as the machine makes it -/
theorem sub_t (c d f : Nat) (h1 : c < 4294967296) (h2 : d < 4294967296) (h3 : f < 4294967296) :
    IntKind.u64.wrap ((c : Int) + IntKind.u64.wrap ((d : Int) * f)) = ((c + d * f : Nat) : Int) ∧ c + d * f < 18446744073709551616 := by
  have h : d * f ≤ 4294967295 * 4294967295 := Nat.mul_le_mul (by omega) (by omega)
  refine ⟨?_, by omega⟩
  simp only [wrap_u64]
  rw [show ((d : Int) * f) = ((d * f : Nat) : Int) by simp]
  generalize d * f = p at *
  omega
/-- what the loop of subtractRow keeps -/
def SubRel (g M o n L W H r f : Nat) (w : World) (k X c br : Nat) (wr : World) : Prop :=
  c < 4294967296 ∧ br ≤ 1 ∧ X < 4294967296 ^ k ∧ X + f * (r % 4294967296 ^ k) = W % 4294967296 ^ k + 4294967296 ^ k * c + 4294967296 ^ k * br ∧
  Buf .u32 4294967296 54 wr g M (L + 4294967296 ^ o * (X + 4294967296 ^ k * (W / 4294967296 ^ k + 4294967296 ^ (n - k) * H))) ∧ w.grownBy wr (some g)
theorem SubRel.next {g M o n L W H r f : Nat} {w : World} {k X c br t d br' : Nat} {wr : World} (h : SubRel g M o n L W H r f w k X c br wr) (hL : L < 4294967296 ^ o) (hk : k < n) (_hf : f < 4294967296)
    (ht : t = c + dg 4294967296 r k * f) (htl : t < 18446744073709551616) (hd : d + t % 4294967296 + br = dg 4294967296 W k + 4294967296 * br') (hd1 : d < 4294967296) (hbr : br' ≤ 1) :
    SubRel g M o n L W H r f w (k + 1) (X + 4294967296 ^ k * d) (t / 4294967296) br' (wr.setCell ⟨g, o + k, none⟩ (.int .u32 (d : Nat))) := by
  obtain ⟨h1, h2, h3, h4, h5, h6⟩ := h
  have hdw := dg_lt (B := 4294967296) (by decide) W k
  have e : t % 4294967296 + 4294967296 * (t / 4294967296) = c + dg 4294967296 r k * f := by rw [← ht]; exact Nat.mod_add_div _ _
  rw [win_split hk] at h5
  refine ⟨by omega, hbr, snoc_lt h3 hd1, subrow_round h4 e hd, ?_, grownBy_trans h6 (grownBy_setCell _ _ _ _)⟩
  rw [← win_join hk]
  exact Buf.set h5 (by decide) (win_lt hL h3) hdw hd1
set_option maxHeartbeats 1000000 in
theorem subtractRow_any (g M o n cap L W H r f : Nat) (v : Value) (w : World) (hb : Buf .u32 4294967296 54 w g M (L + 4294967296 ^ o * (W + 4294967296 ^ n * H))) (hL : L < 4294967296 ^ o) (hW : W < 4294967296 ^ n) (hM : o + n ≤ M) (hn : n ≤ 1048576)
    (hr : D w v r) (hrn : nd 4294967296 r = n) (hne : ∀ b o c l, v = .slice (some ⟨b, o, none⟩) l c → 0 < r → b ≠ g) (hf : f < 4294967296) :
    Calls Tryd.prog 88 #[.slice (some ⟨g, o, none⟩) n cap, v, .int .u32 f] w fun e w' => ∃ X c : Nat, e = .returned (.int .u32 c) ∧ c < 4294967296 ∧ X < 4294967296 ^ n ∧ X + f * r = W + 4294967296 ^ n * c ∧
      Buf .u32 4294967296 54 w' g M (L + 4294967296 ^ o * (X + 4294967296 ^ n * H)) ∧ w.grownBy w' (some g) := by
  have hB : 2 ≤ 4294967296 := by decide
  have hstart : SubRel g M o n L W H r f w 0 0 0 0 w := ⟨by decide, by decide, by simp, by simp [Nat.mod_one], by simpa using hb, grownBy_refl _ _⟩
  have hrlt : r < 4294967296 ^ n := by rw [← hrn]; exact nd_lt hB r
  have HE : Hid (∀ X c br wr, SubRel g M o n L W H r f w n X c br wr → c + br < 4294967296 ∧ X < 4294967296 ^ n ∧ X + f * r = W + 4294967296 ^ n * (c + br) ∧ Buf .u32 4294967296 54 wr g M (L + 4294967296 ^ o * (X + 4294967296 ^ n * H)) ∧ w.grownBy wr (some g)) := by
    rintro X c br wr ⟨-, -, h2, h3, h4, h5⟩
    rw [Nat.mod_eq_of_lt hW, Nat.mod_eq_of_lt hrlt] at h3
    rw [Nat.div_eq_of_lt hW, Nat.sub_self, Nat.pow_zero, Nat.one_mul, Nat.zero_add] at h4
    have e : X + f * r = W + 4294967296 ^ n * (c + br) := by rw [Nat.mul_add]; omega
    refine ⟨?_, h2, e, h4, h5⟩
    have h6 : f * r ≤ 4294967295 * 4294967296 ^ n := Nat.mul_le_mul (by omega) (by omega)
    have h7 : 4294967296 ^ n * (c + br) < 4294967296 ^ n * 4294967296 := by
      rw [Nat.mul_comm _ 4294967296]
      generalize 4294967296 ^ n * (c + br) = z at *
      generalize f * r = y at *
      generalize (4294967296 : Nat) ^ n = p at *
      omega
    exact Nat.lt_of_mul_lt_mul_left h7
  have HR := Lib.hid hr
  have HNE := Lib.hid hne
  have hr0 : 0 < n → 0 < r := by
    intro h
    rcases Nat.eq_zero_or_pos r with h' | h'
    · subst h'; rw [nd_zero] at hrn; omega
    · exact h'
  obtain ⟨ao, ac, rfl, hcv⟩ := hr.shape
  rw [hrn] at hcv HR HNE ⊢
  have HS := Lib.hid hstart
  have HL := Lib.hid hL
  clear hb hW hr hne hstart hrlt hL hrn
  go_enter Tryd.func88, Tryd.ntmps88
  go_wp2
  go_loopw [7, 8, 13] (fun c b t wr => ∃ k X cc br : Nat, k ≤ n ∧ t = .int .i64 k ∧ c = .int .u64 cc ∧ b = .int .u64 br ∧ SubRel g M o n L W H r f w k X cc br wr) (fun _ _ t _ => n - (intOf t).toNat)
  case atStart => exact ⟨0, 0, 0, 0, Nat.zero_le _, rfl, rfl, rfl, HS.out⟩
  case round =>
    obtain ⟨k, X, c, br, hk, rfl, rfl, rfl, hrel⟩ := hrel
    have hc1 := hrel.1
    have hbr := hrel.2.1
    by_cases hlt : k < n
    · have HRR := Lib.hid hrel
      obtain ⟨-, -, h2, -, h4, h5⟩ := hrel
      rw [win_split hlt] at h4
      have hcell := h4.cell (i := o + k) (by omega)
      have hfr := h4.frozen (o + k)
      rw [dg_mid (by decide) (win_lt HL.out h2) (dg_lt (by decide) _ _), if_neg (Nat.lt_irrefl _), if_pos rfl] at hcell
      obtain ⟨gb, go, rfl, hca⟩ := hcv k hlt
      have hca' : wr.cell? ⟨gb, go + k, none⟩ = some (.int .u32 (dg 4294967296 r k : Nat)) := h5.cell hca (by
        simp only [Option.some.injEq, ne_eq]
        refine HNE.out gb go ac n rfl ?_
        exact hr0 (by omega))
      clear h2 h4 h5 hca hcv
      have hdr := dg_lt (B := 4294967296) (by decide) r k
      have hdw := dg_lt (B := 4294967296) (by decide) W k
      have hkl : (k : Int) < n := by omega
      have htl := (sub_t c _ f hc1 hdr hf).2
      have HNX := Lib.hid (fun d br' e3 e4 e5 => HRR.out.next (t := c + dg 4294967296 r k * f) (d := d) (br' := br') HL.out hlt hf rfl htl e3 e4 e5)
      have hte : (c : Int) + (dg 4294967296 r k : Int) * f = ((c + dg 4294967296 r k * f : Nat) : Int) := by simp
      have HTE := Lib.hid hte
      clear hte HRR
      generalize dg 4294967296 r k = dr at *
      generalize dg 4294967296 W k = dw at *
      go_wp2
      rw [HTE.out]
      generalize c + dr * f = t at *
      rw [and_low32 _ (by omega) (by omega), show (t : Int) % 4294967296 = ((t % 4294967296 : Nat) : Int) from by omega]
      obtain ⟨d, br', e1, e2, e3, e4, e5⟩ := sub_digits dw (t % 4294967296) br hdw (Nat.mod_lt _ (by decide)) hbr
      rw [e1, e2]
      have HN := HNX.out d br' e3 e4 e5
      clear HNX HTE
      go_roundw
      case rel => exact ⟨k + 1, _, t / 4294967296, br', by omega, by go_num, by go_num, rfl, HN⟩
      case measure => simp [intOf]; omega
    · obtain rfl : k = n := by omega
      have HF := HE.out X c br wr hrel
      have hcb := HF.1
      have HF2 := Lib.hid HF.2
      clear hrel hcv hlt hk HF
      go_wp2
      go_ret
      exact ⟨X, c + br, by first | rfl | (congr 2; omega), hcb, HF2.out⟩
end Go.Proofs.YthafnhjnlfpifaaDoor
namespace Go.Proofs.YthafnhjnlfpifaaDoor
open Go Go.RowKit Gu

/-- what the loop of estimate keeps -/
def EstRel (f s high next : Nat) (g r : Nat) : Prop := g * f + r = high ∧ est 4294967296 (high * 4294967296 + next) (f * 4294967296 + s) ≤ g ∧ r < 4294967296
theorem est_or (h n : Nat) (hh : h < 4294967296) (hn : n < 4294967296) : bits BinOp.or IntKind.u64 ((h : Int) * 4294967296) n = ((h * 4294967296 + n : Nat) : Int) := or_digits h n hh hn
set_option maxHeartbeats 1000000 in
theorem estimate_any (g o n cap bb bo bc w1 w0 x f s : Nat) (w : World) (hn : 2 ≤ n) (hn2 : n ≤ 1048576)
    (c1 : w.cell? ⟨g, o + n, none⟩ = some (.int .u32 w1)) (c2 : w.cell? ⟨g, o + (n - 1), none⟩ = some (.int .u32 w0)) (c3 : w.cell? ⟨g, o + (n - 2), none⟩ = some (.int .u32 x))
    (d1 : w.cell? ⟨bb, bo + (n - 1), none⟩ = some (.int .u32 f)) (d2 : w.cell? ⟨bb, bo + (n - 2), none⟩ = some (.int .u32 s))
    (hf : 0 < f) (hf2 : f < 4294967296) (hs : s < 4294967296) (h1 : w1 ≤ f) (h0 : w0 < 4294967296) (hx : x < 4294967296) :
    Calls Tryd.prog 87 #[.slice (some ⟨g, o, none⟩) (n + 1) cap, .slice (some ⟨bb, bo, none⟩) n bc] w fun e w' => e = .returned (.int .u32 (est 4294967296 ((w1 * 4294967296 + w0) * 4294967296 + x) (f * 4294967296 + s) : Nat)) ∧ ∃ q, w' = w.drewN q := by
  have hor := est_or w1 w0 (by omega) h0
  have hhigh : w1 * 4294967296 + w0 < 18446744073709551616 := by omega
  obtain ⟨high, hh⟩ : ∃ high, high = w1 * 4294967296 + w0 := ⟨_, rfl⟩
  have HH := Lib.hid hh
  have HEQ : Hid (∀ q r, q * f + r = high → 4294967296 ≤ r → est 4294967296 (high * 4294967296 + x) (f * 4294967296 + s) ≤ q → q = est 4294967296 (high * 4294967296 + x) (f * 4294967296 + s)) :=
    fun q r h1' h2' h3' => est_stop hf (by decide) hs hh h1 h0 h1' h2' h3'
  rw [← hh] at hor hhigh ⊢
  have HOR := Lib.hid hor
  clear hor hh
  have hn1 : ((n : Int) - 1) = ((n - 1 : Nat) : Int) := by omega
  have hn3 : ((n : Int) - 2) = ((n - 2 : Nat) : Int) := by omega
  have HST : Hid (EstRel f s high x (high / f) (high % f)) := ⟨by rw [Nat.mul_comm]; exact Nat.div_add_mod _ _, est_first hf (by decide) hx, Nat.lt_trans (Nat.mod_lt _ hf) hf2⟩
  go_enter Tryd.func87, Tryd.ntmps87
  go_wp2
  go_step3
  go_wp2
  go_quiet (fail)
  go_wp2
  go_quiet (fail)
  rw [HOR.out]
  go_wp2
  have hf0 : ¬ (f : Int) = 0 := by omega
  clear c1 c2 c3 d1 d2 HOR hn1 hn3
  go_quiet (fail)
  go_wp2
  go_step3
  go_wp2
  simp only [World.drewN_drewN]
  rw [show (high : Int) / f = ((high / f : Nat) : Int) from by simp, show (high : Int) % f = ((high % f : Nat) : Int) from by simp]
  have hg0 : high / f < 18446744073709551616 := Nat.lt_of_le_of_lt (Nat.div_le_self _ _) hhigh
  have hw0 : IntKind.u64.wrap ((high / f : Nat) : Int) = ((high / f : Nat) : Int) := by
    generalize high / f = z at *
    rw [wrap_u64]; omega
  rw [hw0]
  clear hw0
  generalize high / f = g0 at *
  generalize high % f = r0 at *
  go_loopg [10, 11] g0 (fun m gs rs wr => ∃ r : Nat, gs = .int .u64 m ∧ rs = .int .u64 r ∧ EstRel f s high x m r ∧ ∃ q, wr = w.drewN q)
  case atStart => exact ⟨r0, rfl, rfl, HST.out, _, rfl⟩
  case round =>
    obtain ⟨r, rfl, rfl, ⟨e1, e2, e3⟩, q, rfl⟩ := hrel
    have E1 := Lib.hid e1; have E2 := Lib.hid e2
    have hgk : gk < 18446744073709551616 := by
      have : gk ≤ gk * f := Nat.le_mul_of_pos_right _ hf
      omega
    clear e1 e2
    have hor2 := or_digits r x e3 hx
    have HOR2 := Lib.hid hor2
    clear hor2
    have HDN : Hid (4294967296 ≤ gk ∨ r * 4294967296 + x < gk * s → est 4294967296 (high * 4294967296 + x) (f * 4294967296 + s) ≤ gk - 1 ∧ 0 < gk) := fun h => est_down (by decide) E1.out h E2.out
    have HE1 : Hid (0 < gk → (gk - 1) * f + (r + f) = high) := fun h => by
      have := E1.out
      obtain ⟨j, rfl⟩ : ∃ j, gk = j + 1 := ⟨gk - 1, by omega⟩
      rw [Nat.add_mul, Nat.one_mul] at this
      rw [Nat.add_sub_cancel]; omega
    by_cases hbig : 4294967295 < gk
    · have hbig' : (4294967295 : Int) < gk := by omega
      have hd := HDN.out (.inl (by omega))
      have HQ := Lib.hid (HE1.out hd.2)
      have HD := Lib.hid hd.1
      clear hd HDN HE1 HOR2
      by_cases hr : 4294967295 < r + f
      · have hr' : (4294967295 : Int) < r + f := by omega
        have HX := Lib.hid (HEQ.out _ _ HQ.out (by omega) HD.out)
        have hlt : gk - 1 < 4294967296 := by
          rw [HX.out]; exact Nat.lt_of_le_of_lt (Nat.min_le_left _ _) (by decide)
        go_wp2
        try rw [Exit.noGoto_ret]
        go_ret
        exact ⟨ret_int' (by rw [← HX.out]; omega), q, rfl⟩
      · have hr' : ¬ (4294967295 : Int) < r + f := by omega
        go_wp2
        go_roundg (gk - 1)
        case measure => omega
        case rel => exact ⟨r + f, by go_num, by go_num, ⟨HQ.out, HD.out, by omega⟩, q, rfl⟩
    · have hgs : gk * s ≤ 4294967295 * 4294967295 := Nat.mul_le_mul (by omega) (by omega)
      have hgs2 : gk * s < 18446744073709551616 := by omega
      have hsm : ¬ (4294967295 : Int) < gk := by omega
      have hpe : (gk : Int) * s = ((gk * s : Nat) : Int) := by simp
      by_cases hp : r * 4294967296 + x < gk * s
      · have hd := HDN.out (.inr hp)
        have HQ := Lib.hid (HE1.out hd.2)
        have HD := Lib.hid hd.1
        have hgk0 := hd.2
        clear hd HDN HE1
        have hcmp : bits BinOp.or IntKind.u64 ((r : Int) * 4294967296) x < (gk : Int) * s := by rw [HOR2.out]; omega
        clear hpe
        by_cases hr : 4294967295 < r + f
        · have hr' : (4294967295 : Int) < r + f := by omega
          have HX := Lib.hid (HEQ.out _ _ HQ.out (by omega) HD.out)
          have hlt : gk - 1 < 4294967296 := by omega
          go_wp2
          try rw [Exit.noGoto_ret]
          go_ret
          exact ⟨ret_int' (by rw [← HX.out]; omega), q, rfl⟩
        · have hr' : ¬ (4294967295 : Int) < r + f := by omega
          go_wp2
          go_roundg (gk - 1)
          case measure => omega
          case rel => exact ⟨r + f, by go_num, by go_num, ⟨HQ.out, HD.out, by omega⟩, q, rfl⟩
      · have hcmp : ¬ bits BinOp.or IntKind.u64 ((r : Int) * 4294967296) x < (gk : Int) * s := by rw [HOR2.out]; omega
        have HX := Lib.hid (est_found (B := 4294967296) (s := s) hf (by decide) E1.out (by omega) (by omega) E2.out)
        have hlt : gk < 4294967296 := by omega
        clear hpe HDN HE1
        go_wp2
        try rw [Exit.noGoto_ret]
        go_ret
        exact ⟨ret_int' (by rw [← HX.out]), q, rfl⟩
end Go.Proofs.YthafnhjnlfpifaaDoor
namespace Go.Proofs.YthafnhjnlfpifaaDoor
open Go Go.RowKit Gu

/-- the two highest digits of a number, and what is below -/
theorem top_two {B d n : Nat} (hn : 2 ≤ n) (hd : d < B ^ n) : d / B ^ (n - 2) = dg B d (n - 1) * B + dg B d (n - 2) := by
  have e1 := div_succ B d (n - 2)
  rw [show n - 2 + 1 = n - 1 from by omega] at e1
  have e2 := div_succ B d (n - 1)
  rw [show n - 1 + 1 = n from by omega, Nat.div_eq_of_lt hd, Nat.mul_zero, Nat.add_zero] at e2
  rw [e1, e2, Nat.mul_comm B]; omega
/-- the three highest digits of a window -/
theorem top_three {B W n : Nat} (hn : 2 ≤ n) : W / B ^ (n - 2) = (W / B ^ n * B + dg B W (n - 1)) * B + dg B W (n - 2) := by
  have e1 := div_succ B W (n - 2)
  rw [show n - 2 + 1 = n - 1 from by omega] at e1
  have e2 := div_succ B W (n - 1)
  rw [show n - 1 + 1 = n from by omega] at e2
  rw [e1, e2, Nat.mul_comm B (dg B W (n - 1) + B * (W / B ^ n)), Nat.mul_comm B (W / B ^ n), Nat.add_comm (dg B W (n - 1))]; omega
/-- the estimate is the quotient, or one more -/
theorem win_est {B W d n : Nat} (hB : 1 < B) (hn : 2 ≤ n) (hd : d < B ^ n) (ht : 0 < dg B d (n - 1)) (hW : W < d * B) :
    ∃ e, e = est B ((W / B ^ n * B + dg B W (n - 1)) * B + dg B W (n - 2)) (dg B d (n - 1) * B + dg B d (n - 2)) ∧ (e = W / d ∨ e = W / d + 1) := by
  have hP : 0 < B ^ (n - 2) := Nat.pow_pos (by omega)
  have hv : B ≤ dg B d (n - 1) * B + dg B d (n - 2) := by
    have : B ≤ dg B d (n - 1) * B := Nat.le_mul_of_pos_left _ ht
    omega
  have eW : W = B ^ (n - 2) * ((W / B ^ n * B + dg B W (n - 1)) * B + dg B W (n - 2)) + W % B ^ (n - 2) := by
    rw [← top_three hn]; exact (Nat.div_add_mod _ _).symm
  have ed : d = B ^ (n - 2) * (dg B d (n - 1) * B + dg B d (n - 2)) + d % B ^ (n - 2) := by
    rw [← top_two hn hd]; exact (Nat.div_add_mod _ _).symm
  have h1 := Nat.mod_lt W hP
  have h2 := Nat.mod_lt d hP
  generalize (W / B ^ n * B + dg B W (n - 1)) * B + dg B W (n - 2) = u at *
  generalize dg B d (n - 1) * B + dg B d (n - 2) = v at *
  generalize W % B ^ (n - 2) = wl at *
  generalize d % B ^ (n - 2) = dl at *
  generalize B ^ (n - 2) = P at *
  have hlt : P * u + wl < (P * v + dl) * B := by rw [← eW, ← ed]; exact hW
  have hq : W / d = (P * u + wl) / (P * v + dl) := by rw [← eW, ← ed]
  have g1 := est_ge (by omega) (by omega) h1 hlt hq
  have g2 := est_le hP hv (by omega) h2 hlt hq
  exact ⟨_, rfl, by omega⟩
theorem win_top {B W d n : Nat} (hB : 0 < B) (hn : 1 ≤ n) (hd : d < B ^ n) (hW : W < d * B) : W / B ^ n ≤ dg B d (n - 1) := by
  have e2 := div_succ B d (n - 1)
  rw [show n - 1 + 1 = n from by omega, Nat.div_eq_of_lt hd, Nat.mul_zero, Nat.add_zero] at e2
  rw [← e2]
  have h : W / B ^ n ≤ d * B / B ^ n := Nat.div_le_div_right (Nat.le_of_lt hW)
  have e3 : d * B / B ^ n = d / B ^ (n - 1) := by
    have : B ^ n = B ^ (n - 1 + 1) := by rw [show n - 1 + 1 = n from by omega]
    rw [this, Nat.pow_succ, Nat.mul_div_mul_right _ _ hB]
  rw [e3] at h
  exact h
/-- the cells of a window -/
theorem buf_win {g M o n L W H i : Nat} {T : TypeId} {w : World} (h : Buf .u32 4294967296 T w g M (L + 4294967296 ^ o * (W + 4294967296 ^ (n + 1) * H))) (hL : L < 4294967296 ^ o) (hM : o + n + 1 ≤ M) (hi : i < n + 1) :
    w.cell? ⟨g, o + i, none⟩ = some (.int .u32 (dg 4294967296 W i : Nat)) := by
  rw [h.cell (by omega), dg_up (by decide) hL, dg_low (by decide) hi]
theorem dg_topw {B W n : Nat} (hW : W < B ^ (n + 1)) : dg B W n = W / B ^ n := by
  have e := div_succ B W n
  rw [Nat.div_eq_of_lt hW, Nat.mul_zero, Nat.add_zero] at e
  exact e.symm
theorem win_shape {B L W H o n : Nat} : L + B ^ o * (W + B ^ (n + 1) * H) = L + B ^ o * (W % B ^ n + B ^ n * (W / B ^ n + B * H)) := by
  have e : W + B ^ (n + 1) * H = W % B ^ n + B ^ n * (W / B ^ n + B * H) := by
    have := Nat.mod_add_div W (B ^ n)
    rw [Nat.mul_add, Nat.pow_succ, Nat.mul_assoc]
    omega
  rw [e]
theorem buf_top {g M o n L X wn H : Nat} {T : TypeId} {w : World} (h : Buf .u32 4294967296 T w g M (L + 4294967296 ^ o * (X + 4294967296 ^ n * (wn + 4294967296 * H)))) (hL : L < 4294967296 ^ o) (hX : X < 4294967296 ^ n) (hw : wn < 4294967296) (hM : o + n + 1 ≤ M) :
    w.cell? ⟨g, o + n, none⟩ = some (.int .u32 (wn : Nat)) := by
  rw [h.cell (by omega), dg_up (by decide) hL]
  have := dg_up (B := 4294967296) (i := 0) (y := wn + 4294967296 * H) (by decide) hX
  rw [Nat.add_zero] at this
  rw [this]; simp [dg, Nat.add_mul_mod_self_left, Nat.mod_eq_of_lt hw]
set_option maxHeartbeats 2000000 in
set_option maxRecDepth 100000 in
theorem divideWindow_any (g M o n cap L W H d : Nat) (v : Value) (w : World) (hb : Buf .u32 4294967296 54 w g M (L + 4294967296 ^ o * (W + 4294967296 ^ (n + 1) * H))) (hL : L < 4294967296 ^ o) (hW : W < d * 4294967296) (hM : o + n + 1 ≤ M) (hn2 : 2 ≤ n) (hn : n ≤ 1048576) (hcap : n + 1 ≤ cap)
    (hr : D w v d) (hrn : nd 4294967296 d = n) (hne : ∀ b o c l, v = .slice (some ⟨b, o, none⟩) l c → 0 < d → b ≠ g) :
    Calls Tryd.prog 80 #[.slice (some ⟨g, o, none⟩) (n + 1) cap, v] w fun e w' => e = .returned (.int .u32 (W / d : Nat)) ∧ W / d < 4294967296 ∧
      Buf .u32 4294967296 54 w' g M (L + 4294967296 ^ o * (W % d + 4294967296 ^ n * (W / 4294967296 ^ n + 4294967296 * H))) ∧ w.grownBy w' (some g) := by
  have hB : 2 ≤ 4294967296 := by decide
  have hd0 : 0 < d := by omega
  have hdn : d < 4294967296 ^ n := by rw [← hrn]; exact nd_lt hB d
  have htop : 0 < dg 4294967296 d (n - 1) := by rw [← hrn]; exact dg_top hB hd0
  obtain ⟨E, hE, hEq⟩ := win_est (B := 4294967296) (by decide) hn2 hdn htop hW
  have hq : W / d < 4294967296 := by rw [Nat.div_lt_iff_lt_mul hd0, Nat.mul_comm]; exact hW
  have hWn : W < 4294967296 ^ (n + 1) := by
    rw [Nat.pow_succ]
    exact Nat.lt_of_lt_of_le hW (Nat.mul_le_mul_right _ (Nat.le_of_lt hdn))
  have htw := win_top (B := 4294967296) (by decide) (by omega) hdn hW
  have hdtl := dg_lt (B := 4294967296) (by decide) d (n - 1)
  have hE1 : E < 4294967296 := by rw [hE]; exact Nat.lt_of_le_of_lt (Nat.min_le_left _ _) (by decide)
  have c1 := buf_win hb hL hM (i := n) (by omega)
  rw [dg_topw hWn] at c1
  have c2 := buf_win hb hL hM (i := n - 1) (by omega)
  have c3 := buf_win hb hL hM (i := n - 2) (by omega)
  obtain ⟨ao, ac, rfl, hcv⟩ := hr.shape
  rw [hrn] at hcv hr hne ⊢
  obtain ⟨bb, bo, rfl, d1⟩ := hcv (n - 1) (by omega)
  obtain ⟨bb', bo', hbb, d2⟩ := hcv (n - 2) (by omega)
  simp only [Option.some.injEq, Addr.mk.injEq, and_true] at hbb
  obtain ⟨rfl, rfl⟩ := hbb
  have HEST := Lib.hid (fun q => estimate_any g o n cap bb bo ac _ _ _ _ _ (w.drewN q) hn2 hn c1 c2 c3 d1 d2 htop hdtl (dg_lt (by decide) _ _) htw (dg_lt (by decide) _ _) (dg_lt (by decide) _ _))
  rw [← hE] at HEST
  rw [win_shape] at hb
  have hwn : W / 4294967296 ^ n < 4294967296 := by omega
  have hWl : W % 4294967296 ^ n < 4294967296 ^ n := Nat.mod_lt _ (Nat.pow_pos (by decide))
  have HWD : Hid (W = W % 4294967296 ^ n + 4294967296 ^ n * (W / 4294967296 ^ n)) := (Nat.mod_add_div _ _).symm
  have HEQ := Lib.hid hEq
  have HDN := Lib.hid hdn
  have HNE := Lib.hid hne
  have HR := Lib.hid hr
  have HQ := Lib.hid hq
  have hnd : nd 4294967296 d = n := hrn
  have HND := Lib.hid hnd
  have HSUB := Lib.hid (fun q => subtractRow_any g M o n n L (W % 4294967296 ^ n) (W / 4294967296 ^ n + 4294967296 * H) d E (.slice (some ⟨bb, bo, none⟩) n ac) (w.drewN q).drew hb hL hWl (by omega) hn ((IsN.drewN hr q).below (Below.refl _ _).drew) hnd hne hE1)
  have HTOP := Lib.hid (fun W1 X (h : Buf .u32 4294967296 54 W1 g M (L + 4294967296 ^ o * (X + 4294967296 ^ n * (W / 4294967296 ^ n + 4294967296 * H)))) (h2 : X < 4294967296 ^ n) => buf_top h hL h2 hwn (by omega))
  have HDG := Lib.hid (fun q W1 (h : (w.drewN q).drew.grownBy W1 (some g)) => IsN.grown (IsN.below (IsN.drewN hr q) (Below.refl _ _).drew) h (fun b o c l he h0 => hne b o c l he h0))
  have HADD := Lib.hid (fun X W1 (h1 : Buf .u32 4294967296 54 W1 g M (L + 4294967296 ^ o * (X + 4294967296 ^ n * (W / 4294967296 ^ n + 4294967296 * H)))) (h2 : X < 4294967296 ^ n) (h3 : D W1 (.slice (some ⟨bb, bo, none⟩) n ac) d) => addRow_any g M o n n L X (W / 4294967296 ^ n + 4294967296 * H) d 1 (.slice (some ⟨bb, bo, none⟩) n ac) W1 h1 hL h2 (by omega) hn h3 hnd hne (by decide))
  clear hb hWl hE hEq hdn htop hW hWn htw hdtl c2 c3 d1 d2 hcv hr hne hrn hq hnd hL
  have HDP := Lib.hid hd0
  clear hd0
  generalize W / 4294967296 ^ n = wn at *
  generalize W % 4294967296 ^ n = Wl at *
  go_enter Tryd.func80, Tryd.ntmps80
  go_wp2
  go_quiet ((go_at_call 87; exact Calls.quiet_of (HEST.out _)))
  go_wp2
  have c1' : (w.drewN nq).drew.cell? ⟨g, o + n, none⟩ = some (.int .u32 (wn : Nat)) := c1
  have HS1 := Lib.hid (HSUB.out nq)
  have hi1 : (0 : Int) ≤ n := by omega
  have hi2 : (n : Int) < ((n + 1 : Nat) : Int) := by omega
  have hi3 : (n : Int) < (n : Int) + 1 := by omega
  clear HSUB c1
  go_region_held3 (fun W : World => W.cell? ⟨g, o + n, none⟩ = some (.int .u32 (wn : Nat))) (assumption) (first | (go_at_call 88; refine HS1.out.mono ?_; rintro e w' ⟨X, c, rfl, hc, hX, hsum, hbf, hgr⟩; have hc2 := HTOP.out _ _ hbf hX))
  have HG1 : Hid (w.grownBy w' (some g)) := grownBy_trans (grownBy_drewN (grownBy_drewN (grownBy_refl _ _) nq) 1) hgr
  by_cases hcw : wn < c
  · have hE0 : 0 < E := by
      rcases Nat.eq_zero_or_pos E with h | h
      · subst h
        have h1 : 4294967296 ^ n * 1 ≤ 4294967296 ^ n * c := Nat.mul_le_mul_left _ (by omega)
        omega
      · exact h
    have HA := Lib.hid (HADD.out X w' hbf hX (HDG.out nq w' hgr))
    have HB1 : Hid (∀ Y k, Y < 4294967296 ^ n → Y + 4294967296 ^ n * k = X + 1 * d → E = W / d + 1 ∧ Y = W % d) := fun Y k hY hback => window_back hX HDN.out HWD.out hsum HEQ.out HDP.out hcw hY hback
    clear hsum hbf hgr hX hc2 HADD HS1
    go_wp2_with fail
    refine HA.out.mono ?_
    rintro e w2 ⟨Y, k, rfl, hk, hY, hback, hbf2, hgr2⟩
    have HB2 := Lib.hid (HB1.out Y k hY hback)
    have HBF := Lib.hid hbf2
    have HG2 := Lib.hid (grownBy_trans HG1.out hgr2)
    clear hback hbf2 hgr2 hY
    go_wp2
    go_ret
    exact ⟨ret_int' (by have := HB2.out.1; omega), HQ.out, by rw [← HB2.out.2]; exact HBF.out, HG2.out⟩
  · have HB2 := Lib.hid (window_ok HDN.out HWD.out hsum HEQ.out HDP.out (by omega))
    have HBF := Lib.hid hbf
    clear hsum hbf hgr hX hc2 HADD HS1
    go_wp2
    go_ret
    exact ⟨ret_int' (by have := HB2.out.1; omega), HQ.out, by rw [← HB2.out.2]; exact HBF.out, HG1.out⟩
end Go.Proofs.YthafnhjnlfpifaaDoor
