/- The document's New and Alike. -/
import Derived.Test.YtahgfggcpmnnaabQc
import Derived.Test.YtahgfggcpmnnaabZc
namespace Go.Proofs.Ytahgfggcpmnnaab
open Go Go.RowKit Gs

/-- what ref.New answers -/
def RNP (size : Int) (B : Nat) (s : Int) (v : Value) (e : Int) (W : World) : Prop :=
  (e = 0 ∧ s = size ∧ 1 ≤ size ∧ size ≤ 1099511627776 ∧ IsRs B W v [⟨0, size, 0⟩]) ∨ (e = 2 ∧ s = 0 ∧ v = .slice none 0 0 ∧ (size < 1 ∨ 1099511627776 < size))
set_option maxHeartbeats 1000000 in
/-- ref.Alike, of two lists that are the same -/
theorem RAlike_same {B1 B2 : Nat} {W : World} {u v : Value} {L : List R} (h1 : IsRs B1 W u L) (h2 : IsRs B2 W v L) (hlen : L.length ≤ 100000) : Calls Try.prog 26 #[u, v] W fun e w' => e = .returned (.bool true) ∧ Hid (Below W.heap.size W w') := by
  have HU := Lib.hid h1; have HV := Lib.hid h2
  obtain ⟨a, c, rfl, -⟩ := h1
  obtain ⟨a', c', rfl, -⟩ := h2
  obtain ⟨n, hn⟩ : ∃ n, n = L.length := ⟨_, rfl⟩
  rw [← hn] at HU HV ⊢
  have hnb : n ≤ 100000 := by omega
  have HN := Lib.hid hn
  clear hn hlen
  go_enter Try.func26, Try.ntmps26
  go_wp2_with fail
  go_loopw [5] (fun iv wr => ∃ j : Nat, j ≤ n ∧ iv = .int .i64 j ∧ Hid (Below W.heap.size W wr)) (fun i _ => n - (intOf i).toNat)
  case atStart => exact ⟨0, by omega, rfl, Below.refl _ _⟩
  case round =>
    obtain ⟨j, hj, rfl, HB⟩ := hrel
    by_cases hlt : j < n
    · have hj2 : (j : Int) < n := by omega
      have hj0 : (0 : Int) ≤ (j : Int) := by omega
      have hjl : j < L.length := by rw [← HN.out]; exact hlt
      obtain ⟨b, d, hv, hcs⟩ := HU.out.below HB.out
      injection hv with hv1 hv2 hv3
      clear hv2 hv3
      subst hv1
      obtain ⟨G, e1, -, hcs2⟩ := hcs (by omega)
      clear hcs
      subst e1
      obtain ⟨c0, c1, c2⟩ := hcs2 j hjl
      clear hcs2
      obtain ⟨b', d', hv, hcs⟩ := HV.out.below HB.out
      injection hv with hv1 hv2 hv3
      clear hv2 hv3
      subst hv1
      obtain ⟨G', e1, -, hcs2⟩ := hcs (by omega)
      clear hcs
      subst e1
      obtain ⟨d0, d1, d2⟩ := hcs2 j hjl
      clear hcs2
      generalize L[j] = x at *
      obtain ⟨xa, xb, xc⟩ := x
      simp only at c0 c1 c2 d0 d1 d2
      go_wp2_with fail
      go_quiet (fail)
      rename_i nq
      have HBn : Hid (Below W.heap.size W (World.drewN wr nq)) := below_drewN HB.out nq
      clear c0 c1 c2 d0 d1 d2
      generalize hw : World.drewN _ nq = w2 at HBn ⊢
      clear hw
      go_wp2_with fail
      go_roundw
      case rel => exact ⟨j + 1, by omega, by go_num, HBn.out⟩
      case measure => simp [intOf]; omega
    · have hj2 : ¬ (j : Int) < n := by omega
      go_wp2_with fail
      go_ret
      exact ⟨rfl, HB.out⟩
end Go.Proofs.Ytahgfggcpmnnaab
