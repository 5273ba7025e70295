/- The contracts of sum and difference. -/
import Derived.Test.YtfkogbomijonjaaGreatDoorWd
namespace Go.Proofs.YtfkogbomijonjaaGreatDoor
open Go Go.RowKit Gu

theorem wrap_u64 (x : Int) : IntKind.u64.wrap x = x % 18446744073709551616 := IntKind.wrap_u64 x

theorem Tryz.infoU32 : (Tryz.prog.info? 75).map (fun i => (i.zero, i.size, i.bytes)) = some (some (.int .u32 0), 1, 4) := by kernel_rfl
theorem made_u32 (n : Nat) (h : n ≤ 1099511627776) : ∀ w, (Instr.makeSlice 30 (.int .i64 (n : Int)) (.int .i64 (n : Int))).run Tryz.prog w = .ok (.slice (some ⟨w.heap.size, 0, none⟩) n n) (w.alloc (.cells (madeCells #[.int .u32 0] n) 75)) := fun w => by
  have := run_make_row' (P := Tryz.prog) 30 75 (.int .u32 0) 4 Tryz.underlying30 Tryz.infoU32 rfl .i64 .i64 n (by omega) (by omega)
  exact this w

theorem trim_buf (g m cap x : Nat) (w : World) (h : Buf .u32 4294967296 75 w g m x) (hx : x < 4294967296 ^ m) (hm : m ≤ 4611686018427387904) (hcap : m ≤ cap) :
    Calls Tryz.prog 55 #[.slice (some ⟨g, 0, none⟩) m cap] w fun e w' => e = .returned (.slice (some ⟨g, 0, none⟩) (nd 4294967296 x) (nd 4294967296 x)) ∧ w = w' :=
  trim_any g m cap x w (fun _ hi => h.cell hi) hx hm hcap
/-- what the loop of sum keeps: the buffer's number, the carry -/
def SumRel (a b m : Nat) (w : World) (k X c : Nat) (wr : World) : Prop :=
  c ≤ 1 ∧ X < 4294967296 ^ k ∧ X + 4294967296 ^ k * c = a % 4294967296 ^ k + b % 4294967296 ^ k ∧ Buf .u32 4294967296 75 wr w.heap.size (m + 1) X ∧ Below w.heap.size w wr
theorem SumRel.next {a b m : Nat} {w : World} {k X c : Nat} {wr : World} (h : SumRel a b m w k X c wr) (_hk : k ≤ m) :
    SumRel a b m w (k + 1) (X + 4294967296 ^ k * ((c + dg 4294967296 a k + dg 4294967296 b k) % 4294967296)) ((c + dg 4294967296 a k + dg 4294967296 b k) / 4294967296)
      (wr.setCell ⟨w.heap.size, k, none⟩ (.int .u32 (((c + dg 4294967296 a k + dg 4294967296 b k) % 4294967296 : Nat) : Int))) := by
  obtain ⟨h1, h2, h3, h4, h5⟩ := h
  have da := dg_lt (B := 4294967296) (by decide) a k
  have db := dg_lt (B := 4294967296) (by decide) b k
  have hd : (c + dg 4294967296 a k + dg 4294967296 b k) % 4294967296 < 4294967296 := Nat.mod_lt _ (by decide)
  exact ⟨by omega, snoc_lt h2 hd, sum_round h3, h4.put (by decide) h2 hd, h5.setCell (Nat.le_refl _) _⟩
set_option maxHeartbeats 800000 in
theorem sum_any (v u : Value) (a b : Nat) (w : World) (hv : D w v a) (hu : D w u b) (ha : nd 4294967296 a ≤ 1048576) (hb : nd 4294967296 b ≤ 1048576) :
    Calls Tryz.prog 70 #[v, u] w fun e w' => ∃ r, e = .returned r ∧ D w' r (a + b) ∧ Below w.heap.size w w' := by
  have hB : 2 ≤ 4294967296 := by decide
  obtain ⟨ao, ac, hv', -⟩ := hv.shape
  obtain ⟨bo, bc, hu', -⟩ := hu.shape
  have HV := Lib.hid hv; have HU := Lib.hid hu
  subst hv'; subst hu'
  obtain ⟨m, hm⟩ : ∃ m, m = max (nd 4294967296 a) (nd 4294967296 b) := ⟨_, rfl⟩
  have hmk := made_u32 (m + 1) (by omega)
  rw [show (((m + 1 : Nat)) : Int) = (m : Int) + 1 from by omega] at hmk
  have hmx : max ((nd 4294967296 a : Nat) : Int) ((nd 4294967296 b : Nat) : Int) = m := by omega
  have hml : m ≤ 1048576 := by omega
  have HM := Lib.hid hm
  clear hv hu hm
  go_enter Tryz.func70, Tryz.ntmps70
  go_wp2
  go_loopw [7, 18] (fun c t wr => ∃ k X cc : Nat, k ≤ m ∧ t = .int .i64 k ∧ c = .int .u64 cc ∧ SumRel a b m w k X cc wr) (fun _ t _ => m - (intOf t).toNat)
  case atStart => exact ⟨0, 0, 0, Nat.zero_le _, rfl, rfl, by omega, by simp, by simp [Nat.mod_one], Buf.made _ _ _ _ _, (Below.refl _ _).alloc (Nat.le_refl _) _⟩
  case round =>
    obtain ⟨k, X, c, hk, rfl, rfl, hrel⟩ := hrel
    have hbel := hrel.2.2.2.2
    have hbuf := hrel.2.2.2.1
    have hc1 : c ≤ 1 := hrel.1
    by_cases hlt : k < m
    · have hA := Lib.hid (at_any _ a k wr (HV.out.below hbel) (by omega))
      have hB' := Lib.hid (at_any _ b k wr (HU.out.below hbel) (by omega))
      have HN := Lib.hid (hrel.next hk)
      have hcell := hbuf.cell (i := k) (by omega)
      have hfr := hbuf.frozen k
      clear hrel hbuf hbel
      have hda := dg_lt (B := 4294967296) (by decide) a k
      have hdb := dg_lt (B := 4294967296) (by decide) b k
      generalize dg 4294967296 a k = da at *
      generalize dg 4294967296 b k = db at *
      generalize dg 4294967296 X k = dx at *
      have HE : Hid ((((c + da + db) % 4294967296 : Nat) : Int) = (c + (da + db) : Int) % 4294967296) := by show _ = _; omega
      have HE2 : Hid ((((c + da + db) / 4294967296 : Nat) : Int) = (c + (da + db) : Int) / 4294967296) := by show _ = _; omega
      go_wp2_with fail
      refine hA.out.mono ?_
      rintro e w' ⟨rfl, rfl⟩
      go_wp2_with fail
      refine hB'.out.mono ?_
      rintro e w' ⟨rfl, rfl⟩
      go_wp2
      go_roundw
      case rel =>
        exact ⟨k + 1, X + 4294967296 ^ k * ((c + da + db) % 4294967296), (c + da + db) / 4294967296, by omega, by go_num, congrArg (Value.int .u64) HE2.out.symm, by rw [← HE.out]; exact HN.out⟩
      case measure => simp [intOf]; omega
    · obtain rfl : k = m := by omega
      clear hlt hk
      have hcell := hbuf.cell (i := k) (by omega)
      have hfr := hbuf.frozen k
      obtain ⟨-, hX, hsum, -, -⟩ := hrel
      have ha' : a % 4294967296 ^ k = a := Nat.mod_eq_of_lt ((nd_le hB).1 (by have := HM.out; omega))
      have hb' : b % 4294967296 ^ k = b := Nat.mod_eq_of_lt ((nd_le hB).1 (by have := HM.out; omega))
      rw [ha', hb'] at hsum
      have hput := hbuf.put (by decide) hX (show c < 4294967296 by omega)
      have hlt := snoc_lt hX (show c < 4294967296 by omega)
      rw [hsum] at hput hlt
      have hbel' := hbel.setCell (p := ⟨w.heap.size, k, none⟩) (Nat.le_refl _) (.int .u32 c)
      have HP := Lib.hid hput; have HL := Lib.hid hlt; have HBel := Lib.hid hbel'
      clear hsum ha' hb' hX hbuf hbel hput hlt hbel'
      go_wp2_with fail
      refine (trim_buf _ _ _ (a + b) _ HP.out HL.out (by omega) (by omega)).mono ?_
      rintro e w' ⟨rfl, rfl⟩
      go_wp2
      go_ret
      exact ⟨_, rfl, HP.out.isN hB HL.out _, HBel.out⟩
end Go.Proofs.YtfkogbomijonjaaGreatDoor
