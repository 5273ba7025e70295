/- The contract of difference. -/
import Derived.Test.YtfkogbomijonjaaGreatDoorWe
namespace Go.Proofs.YtfkogbomijonjaaGreatDoor
open Go Go.RowKit Gu

theorem made_u32' (n : Nat) (h : n ≤ 1099511627776) : ∀ w, (Instr.makeSlice 30 (.int .i64 (n : Int)) (.int .i64 (n : Int))).run Tryz.prog w = .ok (.slice (some ⟨w.heap.size, 0, none⟩) n n) (w.alloc (.cells (madeCells #[.int .u32 0] n) 75)) := made_u32 n h
/-- one digit of a difference, as the machine makes it -/
theorem sub_digits (da db c : Nat) (h1 : da < 4294967296) (h2 : db < 4294967296) (h3 : c ≤ 1) : ∃ d br : Nat, IntKind.u64.wrap (IntKind.u64.wrap ((da : Int) - db) - c) % 4294967296 = (d : Int) ∧
    IntKind.u64.wrap (IntKind.u64.wrap ((da : Int) - db) - c) / 9223372036854775808 = (br : Int) ∧ d + db + c = da + 4294967296 * br ∧ d < 4294967296 ∧ br ≤ 1 := by
  simp only [wrap_u64]
  by_cases h : db + c ≤ da
  · exact ⟨da - db - c, 0, by omega, by omega, by omega, by omega, by omega⟩
  · exact ⟨da + 4294967296 - db - c, 1, by omega, by omega, by omega, by omega, by omega⟩
/-- what the loop of difference keeps -/
def DifRel (a b m : Nat) (w : World) (k X br : Nat) (wr : World) : Prop :=
  br ≤ 1 ∧ X < 4294967296 ^ k ∧ X + b % 4294967296 ^ k = a % 4294967296 ^ k + 4294967296 ^ k * br ∧ Buf .u32 4294967296 75 wr w.heap.size m X ∧ Below w.heap.size w wr
theorem DifRel.next {a b m : Nat} {w : World} {k X br d br' : Nat} {wr : World} (h : DifRel a b m w k X br wr) (hd : d + dg 4294967296 b k + br = dg 4294967296 a k + 4294967296 * br') (h1 : d < 4294967296) (h2 : br' ≤ 1) (q : Nat) :
    DifRel a b m w (k + 1) (X + 4294967296 ^ k * d) br' ((wr.drewN q).setCell ⟨w.heap.size, k, none⟩ (.int .u32 (d : Nat))) := by
  obtain ⟨g1, g2, g3, g4, g5⟩ := h
  exact ⟨h2, snoc_lt g2 h1, sub_round g3 hd, Buf.put (w := wr.drewN q) g4 (by decide) g2 h1, (below_drewN g5 q).setCell (Nat.le_refl _) _⟩
end Go.Proofs.YtfkogbomijonjaaGreatDoor
