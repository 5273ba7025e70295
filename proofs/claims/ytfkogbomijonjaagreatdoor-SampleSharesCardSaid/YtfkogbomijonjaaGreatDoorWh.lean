/- The contract of product. -/
import Derived.Test.YtfkogbomijonjaaGreatDoorWg
import Derived.Deep.RegionWith
namespace Go.Proofs.YtfkogbomijonjaaGreatDoor
open Go Go.RowKit Gu

/-- addRow, as product calls it: the buffer holds a number of k + lb digits -/
theorem addRow_prd (g M k lb N b f : Nat) (v : Value) (w : World) (hb : Buf .u32 4294967296 75 w g M N) (hN : N < 4294967296 ^ (k + lb)) (hM : k + lb ≤ M) (hn : lb ≤ 1048576)
    (hr : D w v b) (hrn : nd 4294967296 b = lb) (hne : ∀ bb o c l, v = .slice (some ⟨bb, o, none⟩) l c → 0 < b → bb ≠ g) (hf : f < 4294967296) :
    Calls Tryz.prog 82 #[.slice (some ⟨g, k, none⟩) lb lb, v, .int .u32 f] w fun e w' => ∃ Y c : Nat, e = .returned (.int .u32 c) ∧ c < 4294967296 ∧ Y < 4294967296 ^ (k + lb) ∧ Y + 4294967296 ^ (k + lb) * c = N + 4294967296 ^ k * (f * b) ∧
      Buf .u32 4294967296 75 w' g M Y ∧ w.grownBy w' (some g) := by
  have e : N = N % 4294967296 ^ k + 4294967296 ^ k * (N / 4294967296 ^ k + 4294967296 ^ lb * 0) := by
    rw [Nat.mul_zero, Nat.add_zero, Nat.mod_add_div]
  have hW : N / 4294967296 ^ k < 4294967296 ^ lb := by
    rw [Nat.div_lt_iff_lt_mul (Nat.pow_pos (by decide)), ← Nat.pow_add, Nat.add_comm]; exact hN
  rw [e] at hb
  have hL : N % 4294967296 ^ k < 4294967296 ^ k := Nat.mod_lt _ (Nat.pow_pos (by decide))
  refine (addRow_any g M k lb lb _ _ 0 b f v w hb hL hW hM hn hr hrn hne hf).mono ?_
  rintro e' w' ⟨X, c, rfl, h1, h2, h3, h4, h5⟩
  refine ⟨N % 4294967296 ^ k + 4294967296 ^ k * X, c, rfl, h1, win_lt hL h2, ?_, by simpa using h4, h5⟩
  have e2 : 4294967296 ^ k * (X + 4294967296 ^ lb * c) = 4294967296 ^ k * (N / 4294967296 ^ k) + 4294967296 ^ k * (f * b) := by rw [h3, Nat.mul_add]
  have e3 := Nat.mod_add_div N (4294967296 ^ k)
  rw [Nat.mul_add, ← Nat.mul_assoc, ← Nat.pow_add] at e2
  omega
/-- what the loop of product keeps: the product of the lowest digits of a -/
def PrdRel (a b la lb : Nat) (w : World) (k : Nat) (wr : World) : Prop :=
  Buf .u32 4294967296 75 wr w.heap.size (la + lb) ((a % 4294967296 ^ k) * b) ∧ Below w.heap.size w wr
set_option maxHeartbeats 400000 in
set_option maxRecDepth 100000 in
theorem product_pos (v u : Value) (a b : Nat) (w : World) (hv : D w v a) (hu : D w u b) (hb0 : 0 < b) (ha : nd 4294967296 a ≤ 524288) (hb : nd 4294967296 b ≤ 524288) :
    Calls Tryz.prog 68 #[v, u] w fun e w' => ∃ r, e = .returned r ∧ D w' r (a * b) ∧ Below w.heap.size w w' := by
  have hB : 2 ≤ 4294967296 := by decide
  obtain ⟨ao, ac, hv', hcv⟩ := hv.shape
  obtain ⟨bo, bc, hu', -⟩ := hu.shape
  have HU := Lib.hid hu
  have hla := nd_lt hB a
  have hlbb := nd_lt hB b
  subst hv'; subst hu'
  have hub : ∀ bb o c l, Value.slice bo (nd 4294967296 b) bc = .slice (some ⟨bb, o, none⟩) l c → 0 < b → bb ≠ w.heap.size := by
    intro bb o c l he h0
    rcases hu with ⟨h, _⟩ | ⟨_, b', o', c', he', hc'⟩
    · omega
    · rw [he'] at he
      simp only [Value.slice.injEq, Option.some.injEq, Addr.mk.injEq, and_true] at he
      obtain ⟨⟨rfl, rfl⟩, _, _⟩ := he
      have := World.block_lt_of_cell? _ _ (hc' 0 (nd_pos hB h0))
      exact Nat.ne_of_lt this
  have HUB := Lib.hid hub
  clear hv hu hub
  have hlb := nd_pos hB hb0
  clear hb0
  generalize hma : nd 4294967296 a = la at *
  generalize hmb : nd 4294967296 b = lb at *
  have HMB := Lib.hid hmb
  clear hma hmb
  have HLA := Lib.hid hla; have HLB := Lib.hid hlbb; clear hla hlbb
  have hmk := made_u32 (la + lb) (by omega)
  rw [show (((la + lb : Nat)) : Int) = (la : Int) + lb from by omega] at hmk
  go_enter Tryz.func68, Tryz.ntmps68
  go_wp2
  go_loopw [16] (fun t wr => ∃ k : Nat, k ≤ la ∧ t = .int .i64 k ∧ PrdRel a b la lb w k wr) (fun t _ => la - (intOf t).toNat)
  case atStart => exact ⟨0, Nat.zero_le _, rfl, by simpa [Nat.mod_one] using Buf.made _ _ _ _ _, (Below.refl _ _).alloc (Nat.le_refl _) _⟩
  case round =>
    obtain ⟨k, hk, rfl, hrel⟩ := hrel
    by_cases hlt : k < la
    · obtain ⟨hbuf, hbel⟩ := hrel
      obtain ⟨gb, go, rfl, hca⟩ := hcv k hlt
      have hca' : wr.cell? ⟨gb, go + k, none⟩ = some (.int .u32 (dg 4294967296 a k : Nat)) := by
        rw [hbel.cell (p := ⟨gb, go + k, none⟩) (World.block_lt_of_cell? _ _ hca)]; exact hca
      clear hcv hca
      have hkl : (k : Int) < la := by omega
      have hda := dg_lt (B := 4294967296) (by decide) a k
      have HB1 := Lib.hid hbuf; have HB2 := Lib.hid hbel
      clear hbuf hbel
      generalize hdd : dg 4294967296 a k = d at *
      have HDD := Lib.hid hdd; clear hdd
      go_wp2
      have HEND : Hid (∀ Y c : Nat, ∀ w', c < 4294967296 → Y < 4294967296 ^ (k + lb) → Y + 4294967296 ^ (k + lb) * c = (a % 4294967296 ^ k) * b + 4294967296 ^ k * (d * b) → Buf .u32 4294967296 75 w' w.heap.size (la + lb) Y → wr.drew.grownBy w' (some w.heap.size) →
          PrdRel a b la lb w (k + 1) (w'.setCell ⟨w.heap.size, k + lb, none⟩ (.int .u32 (c : Nat)))) := by
        intro Y c w' hc hY hsum hbf hgr
        have e : (a % 4294967296 ^ (k + 1)) * b = Y + 4294967296 ^ (k + lb) * c := by
          rw [mod_succ, HDD.out, Nat.add_mul, Nat.mul_assoc]; exact hsum.symm
        refine ⟨by rw [e]; exact hbf.put (by decide) hY hc, ?_⟩
        have hsz := HB1.out.lt
        exact (HB2.out.drew.grown hgr (Nat.le_of_lt hsz) (fun j hj => by simp only [Option.some.injEq] at hj; omega)).setCell (Nat.le_refl _) _
      have hkb : (k : Int) ≤ (k : Int) + lb := by omega
      have hkb2 : (k : Int) + lb ≤ ((la + lb : Nat) : Int) := by omega
      have hne0 : ¬ lb = 0 := by omega
      have hT : ((k : Int) + (lb : Int)).toNat - k = lb := by omega
      have hT2 : ((k : Int) + (lb : Int)).toNat = k + lb := by omega
      have hN : (a % 4294967296 ^ k) * b < 4294967296 ^ (k + lb) := by
        rw [Nat.pow_add]
        exact Nat.mul_lt_mul_of_lt_of_le (Nat.mod_lt _ (Nat.pow_pos (by decide))) (Nat.le_of_lt HLB.out) (Nat.pow_pos (by decide))
      have HC1 := Lib.hid (addRow_prd w.heap.size (la + lb) k lb ((a % 4294967296 ^ k) * b) b d (.slice bo lb bc) wr.drew (World.rowIs.drew HB1.out) hN (by omega) (by omega) (HU.out.below HB2.out.drew) HMB.out HUB.out hda)
      clear hN
      go_region_with (go_at_call 82; refine HC1.out.mono ?_; rintro e w' ⟨Y, c, rfl, hc, hY, hsum, hbf, hgr⟩; have hc2 := hbf.cell (i := k + lb) (by omega); have hf2 := hbf.frozen (k + lb))
      have HE := Lib.hid (HEND.out Y c w' hc hY hsum hbf hgr)
      clear hsum hbf hgr HC1 HEND hY
      go_wp2
      go_roundw
      case rel => exact ⟨k + 1, by omega, by go_num, HE.out⟩
      case measure => simp [intOf]; omega
    · obtain rfl : k = la := by omega
      obtain ⟨hbuf, hbel⟩ := hrel
      rw [Nat.mod_eq_of_lt HLA.out] at hbuf
      have hlt2 : a * b < 4294967296 ^ (k + lb) := by
        rw [Nat.pow_add]
        exact Nat.mul_lt_mul_of_lt_of_le HLA.out (Nat.le_of_lt HLB.out) (Nat.pow_pos (by decide))
      have HX := Lib.hid hlt2
      have HBuf := Lib.hid hbuf
      have HBel := Lib.hid hbel
      clear hlt2 hbuf hbel hcv hlt hk
      go_wp2_with fail
      refine (trim_buf _ _ _ (a * b) _ HBuf.out HX.out (by omega) (by omega)).mono ?_
      rintro e w' ⟨rfl, rfl⟩
      go_wp2
      go_ret
      exact ⟨_, rfl, HBuf.out.isN hB HX.out _, HBel.out⟩

set_option maxHeartbeats 1000000 in
set_option maxRecDepth 100000 in
theorem product_b0 (v : Value) (bo : Option Addr) (bc a : Nat) (w : World) (hv : D w v a) (ha : nd 4294967296 a ≤ 524288) :
    Calls Tryz.prog 68 #[v, .slice bo 0 bc] w fun e w' => ∃ r, e = .returned r ∧ D w' r 0 ∧ Below w.heap.size w w' := by
  obtain ⟨ao, ac, hv', hcv⟩ := hv.shape
  subst hv'
  clear hv
  generalize hma : nd 4294967296 a = la at *
  clear hma
  have hmk := made_u32 la (by omega)
  go_enter Tryz.func68, Tryz.ntmps68
  go_wp2
  go_loopw [16] (fun t wr => ∃ k : Nat, k ≤ la ∧ t = .int .i64 k ∧ Buf .u32 4294967296 75 wr w.heap.size la 0 ∧ Below w.heap.size w wr) (fun t _ => la - (intOf t).toNat)
  case atStart => exact ⟨0, Nat.zero_le _, rfl, Buf.made _ _ _ _ _, (Below.refl _ _).alloc (Nat.le_refl _) _⟩
  case round =>
    obtain ⟨k, hk, rfl, hbuf, hbel⟩ := hrel
    by_cases hlt : k < la
    · obtain ⟨gb, go, rfl, hca⟩ := hcv k hlt
      have hca' : wr.cell? ⟨gb, go + k, none⟩ = some (.int .u32 (dg 4294967296 a k : Nat)) := by
        rw [hbel.cell (p := ⟨gb, go + k, none⟩) (World.block_lt_of_cell? _ _ hca)]; exact hca
      clear hcv hca
      have hkl : (k : Int) < la := by omega
      have hda := dg_lt (B := 4294967296) (by decide) a k
      have HB1 := Lib.hid hbuf; have HB2 := Lib.hid hbel
      clear hbuf hbel
      generalize dg 4294967296 a k = d at *
      have HC1 := Lib.hid (addRow_prd w.heap.size la 0 0 0 0 d (.slice bo 0 bc) wr.drew (World.rowIs.drew HB1.out) (by decide) (by omega) (by omega) (IsN.zero _ _ _ _ _) (nd_zero _) (fun _ _ _ _ _ h => absurd h (by decide)) hda)
      go_wp2
      go_region_with (go_at_call 82; refine HC1.out.mono ?_; rintro e w' ⟨Y, c, rfl, hc, hY, hsum, hbf, hgr⟩; have hc2 := hbf.cell (i := k) (by omega); have hf2 := hbf.frozen k)
      have HE : Hid (Buf .u32 4294967296 75 (w'.setCell ⟨w.heap.size, k, none⟩ (.int .u32 (c : Nat))) w.heap.size la 0 ∧ Below w.heap.size w (w'.setCell ⟨w.heap.size, k, none⟩ (.int .u32 (c : Nat)))) := by
        have hY0 : Y = 0 := by simpa using hY
        subst hY0
        have hc0 : c = 0 := by simpa using hsum
        subst hc0
        have hsz := HB1.out.lt
        refine ⟨?_, (HB2.out.drew.grown hgr (Nat.le_of_lt hsz) (fun j hj => by simp only [Option.some.injEq] at hj; omega)).setCell (Nat.le_refl _) _⟩
        have := hbf.put (j := k) (d := 0) (by decide) (Nat.pow_pos (by decide)) (by decide)
        simpa using this
      clear hsum hbf hgr HC1 hY
      go_wp2
      go_roundw
      case rel => exact ⟨k + 1, by omega, by go_num, HE.out⟩
      case measure => simp [intOf]; omega
    · obtain rfl : k = la := by omega
      have HBuf := Lib.hid hbuf
      have HBel := Lib.hid hbel
      clear hbuf hbel hcv hlt hk
      go_wp2_with fail
      refine (trim_buf _ _ _ 0 _ HBuf.out (Nat.pow_pos (by decide)) (by omega) (by omega)).mono ?_
      rintro e w' ⟨rfl, rfl⟩
      go_wp2
      go_ret
      exact ⟨_, rfl, HBuf.out.isN (by decide) (Nat.pow_pos (by decide)) _, HBel.out⟩
theorem product_any (v u : Value) (a b : Nat) (w : World) (hv : D w v a) (hu : D w u b) (ha : nd 4294967296 a ≤ 524288) (hb : nd 4294967296 b ≤ 524288) :
    Calls Tryz.prog 68 #[v, u] w fun e w' => ∃ r, e = .returned r ∧ D w' r (a * b) ∧ Below w.heap.size w w' := by
  rcases Nat.eq_zero_or_pos b with h | h
  · subst h
    rcases hu with ⟨_, ao, cap, rfl⟩ | ⟨h, _⟩
    · exact product_b0 v ao cap a w hv ha
    · omega
  · exact product_pos v u a b w hv hu h ha hb
end Go.Proofs.YtfkogbomijonjaaGreatDoor
