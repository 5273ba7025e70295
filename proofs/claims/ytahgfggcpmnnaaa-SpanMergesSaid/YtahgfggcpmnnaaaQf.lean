/- The document's New and Alike. -/
import Derived.Test.YtahgfggcpmnnaaaQc
import Derived.Test.YtahgfggcpmnnaaaZc
namespace Go.Proofs.Ytahgfggcpmnnaaa
open Go Go.RowKit Gs

/-- what ref.New answers -/
def RNP (size : Int) (B : Nat) (s : Int) (v : Value) (e : Int) (W : World) : Prop :=
  (e = 0 ∧ s = size ∧ 1 ≤ size ∧ size ≤ 1099511627776 ∧ IsRs B W v [⟨0, size, 0⟩]) ∨ (e = 2 ∧ s = 0 ∧ v = .slice none 0 0 ∧ (size < 1 ∨ 1099511627776 < size))
set_option maxHeartbeats 1000000 in
/-- ref.New: the map with one run, or ErrArg -/
theorem RNew_any (size : Int) (W : World) : Calls Try.prog 14 #[.int .i64 size] W fun e w' => ∃ s v e2, e = .returned (.tuple #[.agg #[.int .i64 s, v], .int .i64 e2]) ∧ Hid (RNP size W.heap.size s v e2 w') ∧ Below W.heap.size W w' := by
  obtain ⟨w0, HW⟩ : ∃ w0, w0 = W.alloc (.cells #[.int .i64 0, .slice none 0 0] 33) := ⟨_, rfl⟩
  have hr : M2 W.heap.size (.int .i64 0) (.slice none 0 0) w0 := by rw [HW]; exact M2.new _ _ _ _
  have hb : Below W.heap.size W w0 := by rw [HW]; exact (Below.refl _ _).alloc (Nat.le_refl _) _
  have HR := Lib.hid hr; have HB := Lib.hid hb; have HW' := Lib.hid HW
  have d0 := HR.out.c0; have d1 := HR.out.c1; have d2 := HR.out.f0; have d3 := HR.out.f1
  by_cases h1 : size < 1
  · obtain ⟨u0, u1⟩ : _ ∧ _ := ⟨(HR.out.put (.int .i64 0) (.slice none 0 0)).c0, (HR.out.put (.int .i64 0) (.slice none 0 0)).c1⟩
    clear hr hb HW
    go_enter Try.func14, Try.ntmps14
    go_upto_region 1 with fail
    rw [← HW'.out]
    go_wp2_with fail
    refine bodyPost_ret (v := .tuple #[.agg #[.int .i64 0, .slice none 0 0], .int .i64 2]) (by simp [results, Try.results14, go_sem, u0, u1]) rfl ?_
    have HBF := below_put HB.out (B := W.heap.size) (Nat.le_refl _) (.int .i64 0) (.slice none 0 0)
    have HRN : ∀ W', RNP size W.heap.size 0 (.slice none 0 0) 2 W' := fun W' => Or.inr ⟨rfl, rfl, rfl, .inl h1⟩
    first
    | exact ⟨0, _, 2, rfl, HRN _, HB.out⟩
    | exact ⟨0, _, 2, rfl, HRN _, HBF⟩
  · by_cases h2 : size > 1099511627776
    · obtain ⟨u0, u1⟩ : _ ∧ _ := ⟨(HR.out.put (.int .i64 0) (.slice none 0 0)).c0, (HR.out.put (.int .i64 0) (.slice none 0 0)).c1⟩
      clear hr hb HW
      go_enter Try.func14, Try.ntmps14
      go_upto_region 1 with fail
      rw [← HW'.out]
      go_wp2_with fail
      refine bodyPost_ret (v := .tuple #[.agg #[.int .i64 0, .slice none 0 0], .int .i64 2]) (by simp [results, Try.results14, go_sem, u0, u1]) rfl ?_
      have HBF := below_put HB.out (B := W.heap.size) (Nat.le_refl _) (.int .i64 0) (.slice none 0 0)
      have HRN : ∀ W', RNP size W.heap.size 0 (.slice none 0 0) 2 W' := fun W' => Or.inr ⟨rfl, rfl, rfl, .inr h2⟩
      first
      | exact ⟨0, _, 2, rfl, HRN _, HB.out⟩
      | exact ⟨0, _, 2, rfl, HRN _, HBF⟩
    · clear hr hb HW HR HB HW' d0 d1 d2 d3
      obtain ⟨w1, HW1⟩ : ∃ w1, w1 = W.alloc (.cells #[.int .i64 size, .slice (some ⟨W.heap.size + 1, 0, none⟩) 1 1] 33) := ⟨_, rfl⟩
      obtain ⟨w2, HW2⟩ : ∃ w2, w2 = w1.alloc (.cells #[.int .i64 0, .int .i64 size, .int .i64 0] 64) := ⟨_, rfl⟩
      have b1 : Below W.heap.size W w1 := by rw [HW1]; exact (Below.refl _ _).alloc (Nat.le_refl _) _
      have b2 : Below w1.heap.size w1 w2 := by rw [HW2]; exact (Below.refl _ _).alloc (Nat.le_refl _) _
      have s1 : w1.heap.size = W.heap.size + 1 := by rw [HW1]; simp
      have hm : M2 W.heap.size (.int .i64 size) (.slice (some ⟨W.heap.size + 1, 0, none⟩) 1 1) w2 := by
        have : M2 W.heap.size (.int .i64 size) (.slice (some ⟨W.heap.size + 1, 0, none⟩) 1 1) w1 := by rw [HW1]; exact M2.new _ _ _ _
        exact this.next b2
      have hrb : Rb w2 w1.heap.size ⟨0, size, 0⟩ := by rw [HW2]; exact Rb.new w1 ⟨0, size, 0⟩
      rw [s1] at hrb
      have hrs : IsRs W.heap.size w2 (.slice (some ⟨W.heap.size + 1, 0, none⟩) 1 1) [⟨0, size, 0⟩] := by
        obtain ⟨c0, c1, c2⟩ := hrb.cells
        refine ⟨_, 1, rfl, fun _ => ⟨W.heap.size + 1, rfl, ⟨by omega, hrb.lt⟩, fun j hj => ?_⟩⟩
        obtain rfl : j = 0 := by simp at hj; exact hj
        exact ⟨c0, c1, c2⟩
      have HRN : Hid (RNP size W.heap.size size (.slice (some ⟨W.heap.size + 1, 0, none⟩) 1 1) 0 w2) := Or.inl ⟨rfl, rfl, by omega, by omega, hrs⟩
      have HB2 := Lib.hid (b1.trans (b2.mono b1.size))
      have u0 := hm.c0; have u1 := hm.c1
      rw [HW1] at HW2
      have HW2' := Lib.hid HW2
      clear HW1 HW2 b1 b2 s1 hm hrb hrs
      go_enter Try.func14, Try.ntmps14
      go_wp2_with fail
      rw [← HW2'.out]
      refine bodyPost_ret (v := .tuple #[.agg #[.int .i64 size, .slice (some ⟨W.heap.size + 1, 0, none⟩) 1 1], .int .i64 0]) (by simp [results, Try.results14, go_sem, u0, u1]) rfl ?_
      exact ⟨size, _, 0, rfl, HRN.out, HB2.out⟩
set_option maxHeartbeats 1000000 in
/-- ref.Alike, of two lists that are the same -/
theorem RAlike_same {B1 B2 : Nat} {W : World} {u v : Value} {L : List R} (h1 : IsRs B1 W u L) (h2 : IsRs B2 W v L) (hlen : L.length ≤ 100000) : Calls Try.prog 26 #[u, v] W fun e w' => e = .returned (.bool true) ∧ Hid (Below W.heap.size W w') := by
  have HU := Lib.hid h1; have HV := Lib.hid h2
  obtain ⟨a, c, rfl, -⟩ := h1
  obtain ⟨a', c', rfl, -⟩ := h2
  obtain ⟨n, hn⟩ : ∃ n, n = L.length := ⟨_, rfl⟩
  rw [← hn] at HU HV ⊢
  have hnb : n ≤ 100000 := by omega
  have HN := Lib.hid hn
  clear hn hlen
  go_enter Try.func26, Try.ntmps26
  go_wp2_with fail
  go_loopw [5] (fun iv wr => ∃ j : Nat, j ≤ n ∧ iv = .int .i64 j ∧ Hid (Below W.heap.size W wr)) (fun i _ => n - (intOf i).toNat)
  case atStart => exact ⟨0, by omega, rfl, Below.refl _ _⟩
  case round =>
    obtain ⟨j, hj, rfl, HB⟩ := hrel
    by_cases hlt : j < n
    · have hj2 : (j : Int) < n := by omega
      have hj0 : (0 : Int) ≤ (j : Int) := by omega
      have hjl : j < L.length := by rw [← HN.out]; exact hlt
      obtain ⟨b, d, hv, hcs⟩ := HU.out.below HB.out
      injection hv with hv1 hv2 hv3
      clear hv2 hv3
      subst hv1
      obtain ⟨G, e1, -, hcs2⟩ := hcs (by omega)
      clear hcs
      subst e1
      obtain ⟨c0, c1, c2⟩ := hcs2 j hjl
      clear hcs2
      obtain ⟨b', d', hv, hcs⟩ := HV.out.below HB.out
      injection hv with hv1 hv2 hv3
      clear hv2 hv3
      subst hv1
      obtain ⟨G', e1, -, hcs2⟩ := hcs (by omega)
      clear hcs
      subst e1
      obtain ⟨d0, d1, d2⟩ := hcs2 j hjl
      clear hcs2
      generalize L[j] = x at *
      obtain ⟨xa, xb, xc⟩ := x
      simp only at c0 c1 c2 d0 d1 d2
      go_wp2_with fail
      go_quiet (fail)
      rename_i nq
      have HBn : Hid (Below W.heap.size W (World.drewN wr nq)) := below_drewN HB.out nq
      clear c0 c1 c2 d0 d1 d2
      generalize hw : World.drewN _ nq = w2 at HBn ⊢
      clear hw
      go_wp2_with fail
      go_roundw
      case rel => exact ⟨j + 1, by omega, by go_num, HBn.out⟩
      case measure => simp [intOf]; omega
    · have hj2 : ¬ (j : Int) < n := by omega
      go_wp2_with fail
      go_ret
      exact ⟨rfl, HB.out⟩
end Go.Proofs.Ytahgfggcpmnnaaa
