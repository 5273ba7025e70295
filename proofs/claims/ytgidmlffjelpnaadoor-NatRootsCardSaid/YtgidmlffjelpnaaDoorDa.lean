/- The contract of difference. -/
import Derived.Test.YtgidmlffjelpnaaDoorWe
namespace Go.Proofs.YtgidmlffjelpnaaDoor
open Go Go.RowKit Gu

theorem made_u32' (n : Nat) (h : n ≤ 1099511627776) : ∀ w, (Instr.makeSlice 23 (.int .i64 (n : Int)) (.int .i64 (n : Int))).run Tryd.prog w = .ok (.slice (some ⟨w.heap.size, 0, none⟩) n n) (w.alloc (.cells (madeCells #[.int .u32 0] n) 85)) := made_u32 n h
/-- one digit of a difference, as the machine makes it -/
theorem sub_digits (da db c : Nat) (h1 : da < 4294967296) (h2 : db < 4294967296) (h3 : c ≤ 1) : ∃ d br : Nat, IntKind.u64.wrap (IntKind.u64.wrap ((da : Int) - db) - c) % 4294967296 = (d : Int) ∧
    IntKind.u64.wrap (IntKind.u64.wrap ((da : Int) - db) - c) / 9223372036854775808 = (br : Int) ∧ d + db + c = da + 4294967296 * br ∧ d < 4294967296 ∧ br ≤ 1 := by
  simp only [wrap_u64]
  by_cases h : db + c ≤ da
  · exact ⟨da - db - c, 0, by omega, by omega, by omega, by omega, by omega⟩
  · exact ⟨da + 4294967296 - db - c, 1, by omega, by omega, by omega, by omega, by omega⟩
/-- what the loop of difference keeps -/
def DifRel (a b m : Nat) (w : World) (k X br : Nat) (wr : World) : Prop :=
  br ≤ 1 ∧ X < 4294967296 ^ k ∧ X + b % 4294967296 ^ k = a % 4294967296 ^ k + 4294967296 ^ k * br ∧ Buf .u32 4294967296 85 wr w.heap.size m X ∧ Below w.heap.size w wr
theorem DifRel.next {a b m : Nat} {w : World} {k X br d br' : Nat} {wr : World} (h : DifRel a b m w k X br wr) (hd : d + dg 4294967296 b k + br = dg 4294967296 a k + 4294967296 * br') (h1 : d < 4294967296) (h2 : br' ≤ 1) (q : Nat) :
    DifRel a b m w (k + 1) (X + 4294967296 ^ k * d) br' ((wr.drewN q).setCell ⟨w.heap.size, k, none⟩ (.int .u32 (d : Nat))) := by
  obtain ⟨g1, g2, g3, g4, g5⟩ := h
  exact ⟨h2, snoc_lt g2 h1, sub_round g3 hd, Buf.put (w := wr.drewN q) g4 (by decide) g2 h1, (below_drewN g5 q).setCell (Nat.le_refl _) _⟩
set_option maxHeartbeats 800000 in
theorem difference_any (v u : Value) (a b : Nat) (w : World) (hv : D w v a) (hu : D w u b) (ha : nd 4294967296 a ≤ 1048576) (hb : nd 4294967296 b ≤ 1048576) (hle : b ≤ a) :
    Calls Tryd.prog 62 #[v, u] w fun e w' => ∃ r, e = .returned r ∧ D w' r (a - b) ∧ Below w.heap.size w w' := by
  have hB : 2 ≤ 4294967296 := by decide
  obtain ⟨ao, ac, hv', hcv⟩ := hv.shape
  obtain ⟨bo, bc, hu', -⟩ := hu.shape
  have HU := Lib.hid hu
  have hla := nd_lt hB a
  have HAB := Lib.hid hle
  subst hv'; subst hu'
  clear hv hu hle
  generalize hm : nd 4294967296 a = m at *
  clear hm
  have hmk := made_u32 m (by omega)
  have HL := Lib.hid hla; clear hla
  go_enter Tryd.func62, Tryd.ntmps62
  go_wp2
  go_loopw [6, 14] (fun c t wr => ∃ k X cc : Nat, k ≤ m ∧ t = .int .i64 k ∧ c = .int .u64 cc ∧ DifRel a b m w k X cc wr) (fun _ t _ => m - (intOf t).toNat)
  case atStart => exact ⟨0, 0, 0, Nat.zero_le _, rfl, rfl, by omega, by simp, by simp [Nat.mod_one], Buf.made _ _ _ _ _, (Below.refl _ _).alloc (Nat.le_refl _) _⟩
  case round =>
    obtain ⟨k, X, c, hk, rfl, rfl, hrel⟩ := hrel
    have hbel := hrel.2.2.2.2
    have hbuf := hrel.2.2.2.1
    have hc1 : c ≤ 1 := hrel.1
    by_cases hlt : k < m
    · have hB' := Lib.hid (fun q => at_any _ b k (wr.drewN q) (HU.out.below (below_drewN hbel q)) (by omega))
      obtain ⟨gb, go, rfl, hca⟩ := hcv k hlt
      have hca' : wr.cell? ⟨gb, go + k, none⟩ = some (.int .u32 (dg 4294967296 a k : Nat)) := by
        rw [hbel.cell (p := ⟨gb, go + k, none⟩) (World.block_lt_of_cell? _ _ hca)]; exact hca
      have hcell := hbuf.cell (i := k) (by omega)
      have hfr := hbuf.frozen k
      have HR := Lib.hid hrel
      clear hrel hbuf hbel hca hcv
      have hda := dg_lt (B := 4294967296) (by decide) a k
      have hdb := dg_lt (B := 4294967296) (by decide) b k
      have hkl : (k : Int) < m := by omega
      generalize dg 4294967296 X k = dx at *
      go_wp2
      go_quiet ((go_at_call 87; exact Calls.quiet_of_same ((hB'.out _).mono fun _ _ ⟨h, h'⟩ => ⟨h, h'.symm⟩)))
      go_wp2
      obtain ⟨d, br, e1, e2, e3, e4, e5⟩ := sub_digits _ _ c hda hdb hc1
      rw [e1, e2]
      have HN := HR.out.next e3 e4 e5 nq
      go_roundw
      case rel => exact ⟨k + 1, _, br, by omega, by go_num, rfl, HN⟩
      case measure => simp [intOf]; omega
    · obtain rfl : k = m := by omega
      obtain ⟨-, hX, hsum, -, -⟩ := hrel
      have hb1 : b < 4294967296 ^ k := Nat.lt_of_le_of_lt HAB.out HL.out
      rw [Nat.mod_eq_of_lt HL.out, Nat.mod_eq_of_lt hb1] at hsum
      have hc0 : c = 0 := by
        rcases Nat.lt_or_ge c 1 with h | h
        · omega
        · have : c = 1 := by omega
          subst this
          have := HAB.out; omega
      subst hc0
      have hx : X = a - b := by omega
      have HX := Lib.hid hX
      have HXE := Lib.hid hx
      have HBuf := Lib.hid hbuf
      have HBel := Lib.hid hbel
      clear hsum hb1 hx hX hbuf hbel hcv hlt hk
      go_wp2_with fail
      refine (trim_buf _ _ _ X _ HBuf.out HX.out (by omega) (by omega)).mono ?_
      rintro e w' ⟨rfl, rfl⟩
      go_wp2
      go_ret
      exact ⟨_, rfl, HXE.out ▸ HBuf.out.isN hB HX.out _, HBel.out⟩
end Go.Proofs.YtgidmlffjelpnaaDoor
