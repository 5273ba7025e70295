/- The iterator over a map without pieces; Equal, where the first map is unusable. -/
import Derived.RangeFuncWrites
import Derived.RangeFuncKeeps
import Derived.RangeFuncBound
import Derived.RangeFuncLeaves
import Derived.Shelf.Abstract
import Derived.WalkKit
import Derived.OwnWalkIn
import Derived.TacticsInMore
import Derived.RegionIn
import Derived.Stop.RegionWithIn
import Derived.Shelf.RegionOpen
import Derived.Test.YtahgfggcpmnnaaaYs
namespace Go.Proofs.Ytahgfggcpmnnaaa
open Go Go.RowKit Go.Shelf Gs

attribute [local go_sem] Oper.semAt_some

/-- what a round is handed, of a run -/
def encR (r : R) : Array Value := #[.agg #[.int .i64 r.lo, .int .i64 r.hi, .int .i64 r.tag]]
/-- the value that within answers, with its three boxes from B on -/
def seqV (B : Nat) : Value := .func (.func 72) #[] #[.pointer (some ⟨B, 0, none⟩), .pointer (some ⟨B + 1, 0, none⟩), .pointer (some ⟨B + 1 + 1, 0, none⟩)]
/-- the world behind within -/
def seqW (W : World) (p : Option Addr) (lo hi : Int) : World := ((W.alloc (.cells #[.pointer p] 25)).alloc (.cells #[.int .i64 lo] 3)).alloc (.cells #[.int .i64 hi] 3)
theorem within_any (p : Option Addr) (lo hi : Int) (W : World) : Calls Try.prog 47 #[.pointer p, .int .i64 lo, .int .i64 hi] W fun e w' => e = .returned (seqV W.heap.size) ∧ w' = seqW W p lo hi := by
  go_enter Try.func47, Try.ntmps47
  go_wp2_with fail
  go_ret
  exact ⟨rfl, rfl⟩
theorem all_any (p : Option Addr) (size : Int) (W : World) : Calls Try.prog 58 #[.agg #[.pointer p, .int .i64 size]] W fun e w' => e = .returned (seqV (W.heap.size + 1)) ∧ w' = seqW (W.alloc (.cells #[.pointer p, .int .i64 size] 27)) p 0 size := by
  have HWI : Hid (∀ W', Calls Try.prog 47 #[.pointer p, .int .i64 0, .int .i64 size] W' fun e w' => e = .returned (seqV W'.heap.size) ∧ w' = seqW W' p 0 size) := fun W' => within_any p 0 size W'
  go_enter Try.func58, Try.ntmps58
  go_wp2_with fail
  refine (HWI.out _).mono ?_
  rintro e w1 ⟨rfl, rfl⟩
  unfold seqV
  go_wp2_with fail
  go_ret
  exact ⟨by simp [seqV], rfl⟩
theorem visit_nil (F : Fence) (hv : F.fn 73) (hro : F.round = none) (n : Nat) (g : Value) (lo hi : Int) (W : World) :
    CallsIn F n Try.prog 73 #[.pointer none, .int .i64 lo, .int .i64 hi, g] W fun e W' => e = .returned (.bool true) ∧ W = W' := by
  refine callsIn_of_wp Try.func73 rfl hv ?_ hro
  simp only [Try.ntmps73, List.size_toArray, List.length_cons, List.length_nil, Nat.reduceAdd, Nat.reduceSub, Array.replicate_succ, Array.replicate_zero, List.push_toArray, List.append_toArray, List.nil_append, List.cons_append]
  gi_wp2
  go_ret
  exact ⟨rfl, rfl⟩
theorem seq_cells (W : World) (p : Option Addr) (lo hi : Int) : (seqW W p lo hi).cell? ⟨W.heap.size, 0, none⟩ = some (.pointer p) ∧ (seqW W p lo hi).cell? ⟨W.heap.size + 1, 0, none⟩ = some (.int .i64 lo) ∧ (seqW W p lo hi).cell? ⟨W.heap.size + 1 + 1, 0, none⟩ = some (.int .i64 hi) ∧ (seqW W p lo hi).heap.size = W.heap.size + 1 + 1 + 1 ∧ Below W.heap.size W (seqW W p lo hi) := by
  obtain ⟨w1, h1⟩ : ∃ w1, w1 = W.alloc (.cells #[.pointer p] 25) := ⟨_, rfl⟩
  obtain ⟨w2, h2⟩ : ∃ w2, w2 = w1.alloc (.cells #[.int .i64 lo] 3) := ⟨_, rfl⟩
  have e1 : w1.heap.size = W.heap.size + 1 := by rw [h1]; simp
  have e2 : w2.heap.size = W.heap.size + 1 + 1 := by rw [h2, World.size_alloc, e1]
  have b1 : Below W.heap.size W w1 := by rw [h1]; exact (Below.refl _ _).alloc (Nat.le_refl _) _
  have b2 : Below w1.heap.size w1 w2 := by rw [h2]; exact (Below.refl _ _).alloc (Nat.le_refl _) _
  have b3 : ∀ o, Below w2.heap.size w2 (w2.alloc o) := fun o => (Below.refl _ _).alloc (Nat.le_refl _) _
  have c1 : w1.cell? ⟨W.heap.size, 0, none⟩ = some (.pointer p) := by rw [h1]; exact World.cell?_alloc_at _ _ _ _ rfl
  have c2 : w2.cell? ⟨W.heap.size + 1, 0, none⟩ = some (.int .i64 lo) := by rw [h2]; exact World.cell?_alloc_at _ _ _ _ e1.symm
  unfold seqW
  rw [← h1, ← h2]
  exact ⟨((b3 _).cell (p := ⟨W.heap.size, 0, none⟩) (by rw [e2]; show W.heap.size < _; omega)).trans ((b2.cell (p := ⟨W.heap.size, 0, none⟩) (by rw [e1]; show W.heap.size < _; omega)).trans c1), ((b3 _).cell (p := ⟨W.heap.size + 1, 0, none⟩) (by rw [e2]; show W.heap.size + 1 < _; omega)).trans c2, World.cell?_alloc_at _ _ _ _ e2.symm, by rw [World.size_alloc, e2], b1.trans ((b2.trans ((b3 _).mono b2.size)).mono b1.size)⟩
set_option maxHeartbeats 1000000 in
theorem seq_nil (F : Fence) (n : Nat) (h1 : F.fn 72) (hd : F.depth = none) (h2 : F.fn 73) (hro : F.round = none) (B n₀ : Nat) (lo hi : Int) (w : World)
    (hB : B + 1 + 1 < w.heap.size) (c0 : w.cell? ⟨B, 0, none⟩ = some (.pointer none)) (c1 : w.cell? ⟨B + 1, 0, none⟩ = some (.int .i64 lo)) (c2 : w.cell? ⟨B + 1 + 1, 0, none⟩ = some (.int .i64 hi)) :
    SeqStopsK F n Try.prog 72 #[.pointer (some ⟨B, 0, none⟩), .pointer (some ⟨B + 1, 0, none⟩), .pointer (some ⟨B + 1 + 1, 0, none⟩)] encR (Below n₀) (fun ys => ys = []) (fun _ => False) 0 w := fun l J Jx W hW _ _ _ h0 => by
  have hdd : ∀ k : Nat, (F.depth.isSome = true → 1 ≤ k) := fun k h => by rw [hd] at h; cases h
  have hp := visit_nil F h2 hro (n - 1) (.func (.yield l) #[] #[]) lo hi W
  have k0 : W.cell? ⟨B, 0, none⟩ = some (.pointer none) := (hW.cell (p := ⟨B, 0, none⟩) (by show B < _; omega)).trans c0
  have k1 : W.cell? ⟨B + 1, 0, none⟩ = some (.int .i64 lo) := (hW.cell (p := ⟨B + 1, 0, none⟩) (by show B + 1 < _; omega)).trans c1
  have k2 : W.cell? ⟨B + 1 + 1, 0, none⟩ = some (.int .i64 hi) := (hW.cell (p := ⟨B + 1 + 1, 0, none⟩) (by show B + 1 + 1 < _; omega)).trans c2
  clear c0 c1 c2 hW
  refine callsIn_of_wp Try.func72 rfl h1 ?_ hro
  simp only [Try.ntmps72, List.size_toArray, List.length_cons, List.length_nil, Nat.reduceAdd, Nat.reduceSub, Array.replicate_succ, Array.replicate_zero, List.push_toArray, List.append_toArray, List.nil_append, List.cons_append]
  gi_wp2_with ((try refine ⟨hdd _, ?_⟩); gi_at_call 73; refine hp.mono ?_; clear hp; rintro e W1 ⟨rfl, rfl⟩)
  go_end0
  exact ⟨⟨_, rfl⟩, .inl ⟨_, rfl, h0⟩⟩
end Go.Proofs.Ytahgfggcpmnnaaa
