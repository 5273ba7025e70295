/- A slice of 16-bit digits that a law is given, out of its datum. -/
import Derived.Test.YtgidmlffjelpnaaDoorEn
import Derived.Test.YtgidmlffjelpnaaDoorRh
import Derived.Carry
namespace Go.Proofs.YtgidmlffjelpnaaDoor
open Go Go.ChangeShapes Go.WideShapes Go.ChangeAt Go.RowKit Gu

theorem laidOut' : laidOutB Tryd.prog = true := by kernel_rfl
theorem u16_of_wf {n : Int} (h : (Lit.int .u16 n).wf = true) : 0 ≤ n ∧ n ≤ 65535 := by
  simpa [Lit.wf, IntKind.min, IntKind.max, IntKind.signed, IntKind.bits] using h
theorem raw_of {H : Type} {enc : TypeId × Value → H} {W : World} {d : DataW H} {p : List MemPlace} {a0 : Option Addr} {len cap : Nat}
    (h : DataW.Trod enc Tryd.prog W 0 (fun _ => true) true 35 (.slice a0 len cap) d p) : ∃ xs, IsRaw W (.slice a0 len cap) xs ∧ xs.length ≤ maxLen := by
  obtain ⟨fuel, hf⟩ := h
  have c16 : Tryd.prog.cellsOf 73 = 1 := by kernel_rfl
  rcases open_ints Tryd.underlying35 Tryd.underlying73 c16 hf with ⟨hcs, hx⟩ | ⟨a, len', cap', zs, hcs, _, hl, hm, hz, hx, hcell, hwz⟩
  · simp [Value.cells] at hcs
    obtain ⟨rfl, rfl, rfl⟩ := hcs
    exact ⟨[], ⟨Dig.nil _, .inl ⟨rfl, _, _, rfl⟩⟩, by simp⟩
  · simp [Value.cells] at hcs
    obtain ⟨rfl, rfl, rfl⟩ := hcs
    simp only [if_true] at hz
    rcases Nat.eq_zero_or_pos len with h0 | h0
    · subst h0
      exact ⟨[], ⟨Dig.nil _, .inl ⟨rfl, _, _, rfl⟩⟩, by simp⟩
    · obtain ⟨b, o, s⟩ := a
      obtain rfl : s = none := by
        have h1 := hcell 0 (by omega)
        cases s with
        | none => rfl
        | some _ =>
          exfalso
          unfold World.cell? Addr.add at h1
          simp only [if_true] at h1
          split at h1 <;> simp at h1
      have hl' : ((zs.take len).map Int.toNat).length = len := by rw [List.length_map, List.length_take]; omega
      have hget : ∀ i (h : i < ((zs.take len).map Int.toNat).length), ∃ hi : i < zs.length, ((zs.take len).map Int.toNat)[i] = zs[i].toNat := fun i h => ⟨by omega, by simp⟩
      refine ⟨(zs.take len).map Int.toNat, ⟨fun i hi => ?_, .inr ⟨b, o, cap, by rw [hl'], fun i hi => ?_⟩⟩, by omega⟩
      · obtain ⟨hi2, e⟩ := hget i hi
        have := u16_of_wf (hwz _ (List.getElem_mem hi2))
        rw [e]; omega
      · obtain ⟨hi2, e⟩ := hget i hi
        have := u16_of_wf (hwz _ (List.getElem_mem hi2))
        have h1 := hcell i hi2
        rw [add_plain] at h1
        rw [h1, e, List.getD, List.getElem?_eq_getElem hi2, Option.getD_some, Int.toNat_of_nonneg this.1]
end Go.Proofs.YtgidmlffjelpnaaDoor
