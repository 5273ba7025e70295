/- The contracts of the document's own functions on numbers: Trim, Small. -/
import Derived.Test.YtfkogbomijonjaaGreatDoorWu
namespace Go.Proofs.YtfkogbomijonjaaGreatDoor
open Go Go.RowKit Gu

abbrev R (w : World) (v : Value) (n : Nat) : Prop := IsN .i64 65536 w v n
theorem Tryz.infoInt : (Tryz.prog.info? 3).map (fun i => (i.zero, i.size, i.bytes)) = some (some (.int .i64 0), 1, 8) := by kernel_rfl
theorem made_int (n : Nat) (h : n ≤ 1099511627776) : ∀ w, (Instr.makeSlice 22 (.int .i64 (n : Int)) (.int .i64 (n : Int))).run Tryz.prog w = .ok (.slice (some ⟨w.heap.size, 0, none⟩) n n) (w.alloc (.cells (madeCells #[.int .i64 0] n) 3)) := fun w => by
  have := run_make_row' (P := Tryz.prog) 22 3 (.int .i64 0) 8 Tryz.underlying22 Tryz.infoInt rfl .i64 .i64 n (by omega) (by omega)
  exact this w
/-- what the loop of Small keeps -/
def SmlRel (a b la : Nat) (w : World) (k Q r : Nat) (wr : World) : Prop :=
  a / 65536 ^ k = Q * b + r ∧ r < b ∧ Buf .i64 65536 3 wr w.heap.size la (0 + 65536 ^ k * Q) ∧ Below w.heap.size w wr
theorem SmlRel.next {a b la : Nat} {w : World} {k Q r : Nat} {wr : World} (h : SmlRel a b la w (k + 1) Q r wr) :
    SmlRel a b la w k (65536 * Q + (r * 65536 + dg 65536 a k) / b) ((r * 65536 + dg 65536 a k) % b) (wr.setCell ⟨w.heap.size, k, none⟩ (.int .i64 (((r * 65536 + dg 65536 a k) / b : Nat) : Int))) := by
  obtain ⟨h1, h2, h3, h4⟩ := h
  have hb : 0 < b := by omega
  have hda := dg_lt (B := 65536) (by decide) a k
  have hq := divdig_lt h2 hda
  refine ⟨divdig_round hb h1 h2, Nat.mod_lt _ hb, ?_, h4.setCell (Nat.le_refl _) _⟩
  have e : 0 + 65536 ^ (k + 1) * Q = 0 + 65536 ^ k * (0 + 65536 * Q) := by rw [Nat.pow_succ, Nat.mul_assoc, Nat.zero_add, Nat.zero_add, Nat.zero_add]
  rw [e] at h3
  have := Buf.set h3 (by decide) (Nat.pow_pos (by decide)) (by decide) hq
  rw [Nat.add_comm (65536 * Q)]
  exact this
end Go.Proofs.YtfkogbomijonjaaGreatDoor
