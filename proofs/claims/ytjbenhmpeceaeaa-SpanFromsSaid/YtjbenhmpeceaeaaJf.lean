/- A list of runs, out of a law's data. -/
import Derived.Test.YtjbenhmpeceaeaaJa
import Derived.Test.YtjbenhmpeceaeaaZg
namespace Go.Proofs.Ytjbenhmpeceaeaa
open Go Go.ChangeShapes Go.WideShapes Go.ChangeAt Go.RowKit Go.Deep Gs

theorem three_run : Try.prog.cellsOf 64 = 3 := by kernel_rfl
section
variable {H : Type} {enc : TypeId × Value → H} {W : World} {base : Nat} {sp : Nat → Bool} {held : Bool}
theorem run_cells {fuel : Nat} {cs : List Value} {x : DataW H × List MemPlace} (h : DataW.trod enc Try.prog W base sp held fuel 64 cs = some x) :
    ∃ a : R, cs[0]? = some (.int .i64 a.lo) ∧ cs[1]? = some (.int .i64 a.hi) ∧ cs[2]? = some (.int .i64 a.tag) ∧ cs.length = 3 := by
  obtain ⟨xs, n, _, _, hl, hx, hg⟩ := DataW.trod_struct Try.underlying64 h
  have hx : xs.length = 3 := hx
  obtain ⟨b0, e0⟩ := fld_int (i := 0) (by omega) (hg 0 _ rfl)
  obtain ⟨b1, e1⟩ := fld_int (i := 1) (by omega) (hg 1 _ rfl)
  obtain ⟨b2, e2⟩ := fld_int (i := 2) (by omega) (hg 2 _ rfl)
  exact ⟨⟨b0, b1, b2⟩, e0, e1, e2, by rw [hl, three_run]⟩
/-- a list of changes -/
theorem runs_of {v : Value} {d : DataW H} {p : List MemPlace} (h : DataW.Trod enc Try.prog W 0 (fun _ => true) true 31 v d p) (hv : ∃ a n c, v = .slice a n c) : ∃ l, IsRo W v l ∧ (v = .slice none 0 0 ∨ ∃ a m c, v = .slice (some a) m c) := by
  obtain ⟨a0, len0, cap0, rfl⟩ := hv
  obtain ⟨fuel, hf⟩ := h
  rcases open_slice Try.underlying31 hf with ⟨hcs, _⟩ | ⟨a, len, cap, m, n, D, Pl, hcs, _, hl, _, hm, _, hi⟩
  · simp [Value.cells] at hcs
    obtain ⟨rfl, rfl, rfl⟩ := hcs
    exact ⟨[], ⟨none, 0, rfl, Nat.le_refl _, fun h => absurd h (by simp)⟩, .inl rfl⟩
  · simp [Value.cells] at hcs
    obtain ⟨rfl, rfl, rfl⟩ := hcs
    simp only [if_true] at hm
    have hex : ∀ i, i < len0 → ∃ x : R, ∀ j, j < 3 → W.cell? ((a.add (i * 3)).add j) = [Value.int .i64 x.lo, .int .i64 x.hi, .int .i64 x.tag][j]? := fun i hlt => by
      obtain ⟨cs', hc, ht⟩ := hi i (by omega)
      rw [three_run] at hc
      obtain ⟨_, hln, hat⟩ := World.cells?_some hc
      obtain ⟨x, e0, e1, e2, _⟩ := run_cells ht
      refine ⟨x, fun j hj => ?_⟩
      rw [hat j hj]
      have : j = 0 ∨ j = 1 ∨ j = 2 := by omega
      rcases this with rfl | rfl | rfl
      · exact e0
      · exact e1
      · exact e2
    obtain ⟨g, hg⟩ : ∃ g : Nat → R, ∀ i, i < len0 → ∀ j, j < 3 → W.cell? ((a.add (i * 3)).add j) = [Value.int .i64 (g i).lo, .int .i64 (g i).hi, .int .i64 (g i).tag][j]? :=
      ⟨fun i => if h : i < len0 then (hex i h).choose else ⟨0, 0, 0⟩, fun i h => by simp only [dif_pos h]; exact (hex i h).choose_spec⟩
    refine ⟨(List.range len0).map g, ⟨some a, cap0, by simp, by simp; omega, fun hp => ?_⟩, .inr ⟨_, _, _, rfl⟩⟩
    have hp : 0 < len0 := by simpa using hp
    obtain ⟨b, o, s⟩ := a
    have h00 := hg 0 hp 0 (by decide)
    obtain rfl : s = none := by
      cases s with
      | none => rfl
      | some _ =>
        exfalso
        unfold World.cell? Addr.add at h00
        simp only [if_true] at h00
        split at h00 <;> simp at h00
    refine ⟨b, o, rfl, ?_, fun j hj => ?_⟩
    · have h1 : W.cell? ⟨b, o, none⟩ = some (.int .i64 (g 0).lo) := by simpa [Addr.add] using h00
      exact World.block_lt_of_cell? _ _ h1
    · have hj : j < len0 := by simpa using hj
      have k : ∀ i, i < 3 → W.cell? ⟨b, o + j * 3 + i, none⟩ = [Value.int .i64 (g j).lo, .int .i64 (g j).hi, .int .i64 (g j).tag][i]? := fun i hi => by
        have := hg j hj i hi
        rwa [addz, addz] at this
      have e : ((List.range len0).map g)[j]'(by simpa using hj) = g j := by simp
      refine ⟨?_, ?_, ?_⟩
      · rw [e]; exact k 0 (by decide)
      · rw [e]; exact k 1 (by decide)
      · rw [e]; exact k 2 (by decide)
end
end Go.Proofs.Ytjbenhmpeceaeaa
