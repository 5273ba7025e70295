/- The law's compare of a map with the document's. -/
import Derived.Test.YtahgfggcpmnnaabQf
import Derived.Test.YtahgfggcpmnnaabZk
namespace Go.Proofs.Ytahgfggcpmnnaab
open Go Go.RowKit Gs

theorem Runs_full {f : Int → Int} {size : Int} {W : World} {p : Option Addr} {L : List R} (h : IsM f size W p) (hL : Gs.Can f 0 L size) :
    L.length ≤ 4096 ∧ Calls Try.prog 17 #[.agg #[.pointer p, .int .i64 size], .int .i64 0, .int .i64 size, .int .i64 1048576] W fun e w' => ∃ v, e = .returned (.tuple #[v, .int .i64 0]) ∧ Hid (IsRs W.heap.size w' v L) ∧ Below W.heap.size W w' := by
  have hs := h.lo
  obtain ⟨L', h4, h5, h6⟩ := Runs_any (most := 1048576) h (Int.le_refl 0) (by omega) (Int.le_refl size)
  have e := Gs.Can.same h4 hL
  subst e
  have e2 := Gs.Can.same (clip_can h4 (Int.le_refl 0) (by omega) (Int.le_refl size)) h4
  refine ⟨h5, h6.mono ?_⟩
  rintro e w' ⟨v, he, hr, hb⟩
  rw [e2] at hr
  have e1 : L'.take (1048576 : Int).toNat = L' := List.take_of_length_le (Nat.le_trans h5 (by decide))
  rw [e1] at hr
  exact ⟨v, he, IsRs.of_row hr.out, hb⟩
theorem Len_same {f : Int → Int} {size : Int} {W : World} {p : Option Addr} {L : List R} (h : IsM f size W p) (hL : Gs.Can f 0 L size) : Calls Try.prog 25 #[.agg #[.pointer p, .int .i64 size]] W fun e w' => e = .returned (.int .i64 L.length) ∧ Below W.heap.size W w' := by
  obtain ⟨L', h1, _, h2⟩ := Len_any (s := size) h.tr
  have e := Gs.Can.same h1 hL
  subst e
  exact h2
end Go.Proofs.Ytahgfggcpmnnaab
