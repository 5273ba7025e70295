/- Lists of ints, as they come in. -/
import Derived.Test.YtfkogbomijonjaaGreatDoorCAd
import Derived.Test.YtfkogbomijonjaaGreatDoorTSz3
import Derived.OpenShut
import Derived.Deep.Slices
namespace Go.Proofs.YtfkogbomijonjaaGreatDoor
open Go Go.ChangeShapes Go.WideShapes Go.ChangeAt Go.RowKit Go.Deep Gu

theorem addz' (b o k : Nat) : (⟨b, o, none⟩ : Addr).add k = ⟨b, o + k, none⟩ := by
  unfold Addr.add
  split <;> simp_all
theorem one_int' : Tryz.prog.cellsOf 3 = 1 := by kernel_rfl
theorem ints_of {H : Type} {enc : TypeId × Value → H} {W : World} {v : Value} {d : DataW H} {p : List MemPlace} (h : DataW.Trod enc Tryz.prog W 0 (fun _ => true) true 22 v d p) (hv : ∃ a n c, v = .slice a n c) : ∃ l, IsIs W v l := by
  obtain ⟨a0, len0, cap0, rfl⟩ := hv
  obtain ⟨fuel, hf⟩ := h
  rcases open_slice Tryz.underlying22 hf with ⟨hcs, _⟩ | ⟨a, len, cap, m, n, D, Pl, hcs, _, hl, _, hm, _, hi⟩
  · simp [Value.cells] at hcs
    obtain ⟨rfl, rfl, rfl⟩ := hcs
    exact ⟨[], none, 0, rfl, fun h => absurd h (by simp)⟩
  · simp [Value.cells] at hcs
    obtain ⟨rfl, rfl, rfl⟩ := hcs
    simp only [if_true] at hm
    have hex : ∀ i, i < len0 → ∃ x : Int, W.cell? (a.add i) = some (.int .i64 x) := fun i hlt => by
      obtain ⟨cs', hc, ht⟩ := hi i (by omega)
      rw [one_int', Nat.mul_one] at hc
      obtain ⟨_, hln, hat⟩ := World.cells?_some hc
      obtain ⟨x, e, _⟩ := DataW.trod_int Tryz.underlying3 ht
      refine ⟨x, ?_⟩
      have h0 := hat 0 (by decide)
      rw [e] at h0
      have ha : (a.add i).add 0 = a.add i := by
        obtain ⟨b, o, s⟩ := a
        unfold Addr.add
        split <;> simp_all
      rw [ha] at h0
      exact h0
    obtain ⟨g, hg⟩ : ∃ g : Nat → Int, ∀ i, i < len0 → W.cell? (a.add i) = some (.int .i64 (g i)) :=
      ⟨fun i => if h : i < len0 then (hex i h).choose else 0, fun i h => by simp only [dif_pos h]; exact (hex i h).choose_spec⟩
    refine ⟨(List.range len0).map g, some a, cap0, by simp, fun hp => ?_⟩
    have hp : 0 < len0 := by simpa using hp
    obtain ⟨b, o, s⟩ := a
    have h00 := hg 0 hp
    obtain rfl : s = none := by
      cases s with
      | none => rfl
      | some _ =>
        exfalso
        unfold World.cell? Addr.add at h00
        simp only [if_true] at h00
        split at h00 <;> simp at h00
    obtain ⟨ob, ho, _⟩ := cells_of_cell h00
    rw [addz'] at ho
    refine ⟨b, o, rfl, (Array.getElem?_eq_some_iff.1 ho).1, fun j hj => ?_⟩
    have hj2 : j < len0 := by simpa using hj
    have := hg j hj2
    rw [addz'] at this
    rw [this]
    simp
end Go.Proofs.YtfkogbomijonjaaGreatDoor
