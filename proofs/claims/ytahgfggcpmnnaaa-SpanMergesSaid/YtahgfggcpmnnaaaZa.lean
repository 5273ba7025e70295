/- The contract of Find. -/
import Derived.Test.YtahgfggcpmnnaaaYz
namespace Go.Proofs.Ytahgfggcpmnnaaa
open Go Go.RowKit Gs

/-- what Find answers -/
def FindOf (f : Int → Int) (size tag k : Int) (L : List R) (x : Int) (is : Bool) : Prop :=
  (is = true ∧ isT tag = true ∧ 0 ≤ k ∧ k < cnt tag L ∧ 0 ≤ x ∧ x < size ∧ f x = tag ∧ cb x tag L = k) ∨ (is = false ∧ x = 0 ∧ (isT tag = false ∨ k < 0 ∨ cnt tag L ≤ k))
set_option maxHeartbeats 1000000 in
theorem Find_any {f : Int → Int} {size tag k : Int} {W : World} {p : Option Addr} (h : IsM f size W p) :
    ∃ L, Gs.Can f 0 L size ∧ Calls Try.prog 24 #[.agg #[.pointer p, .int .i64 size], .int .i64 tag, .int .i64 k] W fun e w' => ∃ x is, e = .returned (.tuple #[.int .i64 x, .bool is]) ∧ Hid (FindOf f size tag k L x is) ∧ Below W.heap.size W w' := by
  obtain ⟨b, rfl⟩ := h.some
  obtain ⟨t, t1, t2, t3⟩ := h.tr
  refine ⟨t.L, t2, ?_⟩
  have hcx := h.ctx
  obtain ⟨w0, HW⟩ : ∃ w0, w0 = W.alloc (.cells #[.pointer (some ⟨b, 0, none⟩), .int .i64 size] 27) := ⟨_, rfl⟩
  have hq : Mq W (some ⟨b, 0, none⟩) size w0 := by rw [HW]; exact Mq.new _ _ _ _
  have HTG := Lib.hid (isTag_any tag w0)
  have HQ := Lib.hid hq
  have HW' := Lib.hid HW
  by_cases g1 : isT tag = true
  · obtain ⟨e1, e2⟩ : 0 ≤ tag ∧ tag < 16 := of_decide_eq_true g1
    obtain ⟨j, rfl⟩ : ∃ j : Nat, tag = j := ⟨tag.toNat, by omega⟩
    have hj : j < 16 := by omega
    have HCN := Lib.hid (count_any t (.pointer (some ⟨b, 0, none⟩)) w0 j hj (IsT.below hq.bel t1))
    have HG1 := Lib.hid g1
    rw [g1] at HTG
    by_cases g2 : k < 0
    · have HF : Hid (FindOf f size j k t.L 0 false) := .inr ⟨rfl, rfl, .inr (.inl g2)⟩
      clear h t1 t2 t3 hcx hq HW g1
      go_enter Try.func24, Try.ntmps24
      go_wp2_with fail
      rw [← HW'.out]
      refine HTG.out.mono ?_
      rintro e w1 ⟨rfl, rfl⟩
      go_wp2_with fail
      refine bodyPost_ret (v := .tuple #[.int .i64 0, .bool false]) (by simp [results, Try.results24, go_sem]) rfl ?_
      exact ⟨0, false, rfl, HF, HQ.out.bel⟩
    · by_cases g3 : k < cnt j t.L
      · have HFI : Hid (Calls Try.prog 54 #[.pointer (some ⟨b, 0, none⟩), .int .i64 j, .int .i64 k] w0 fun e w' => ∃ x, e = .returned (.int .i64 x) ∧ Hid (0 ≤ x ∧ x < size ∧ f x = j ∧ cb x j t.L = k) ∧ Below w0.heap.size w0 w') := find_any f j hj t 0 size k _ w0 (IsT.below hq.bel t1) t2 hcx (by omega) g3
        have HF : Hid (∀ x, (0 ≤ x ∧ x < size ∧ f x = j ∧ cb x j t.L = k) → FindOf f size j k t.L x true) := fun x hx => .inl ⟨rfl, HG1.out, by omega, g3, hx.1, hx.2.1, hx.2.2.1, hx.2.2.2⟩
        have g4 : ¬ k ≥ cnt j t.L := by omega
        clear h t1 t2 t3 hcx hq HW g1 g3
        generalize cnt j t.L = CN at *
        have k0 := HQ.out.c0; have k1 := HQ.out.c1
        go_enter Try.func24, Try.ntmps24
        go_wp2_with fail
        rw [← HW'.out]
        refine HTG.out.mono ?_
        rintro e w1 ⟨rfl, rfl⟩
        go_wp2_with fail
        refine HCN.out.mono ?_
        rintro e w1 ⟨rfl, rfl⟩
        go_wp2_with fail
        refine HFI.out.mono ?_
        rintro e w2 ⟨x, rfl, HX, hb⟩
        have HB := Lib.hid (HQ.out.bel.trans (hb.mono HQ.out.bel.size))
        clear hb k0 k1
        go_wp2_with fail
        refine bodyPost_ret (v := .tuple #[.int .i64 x, .bool true]) (by simp [results, Try.results24, go_sem]) rfl ?_
        exact ⟨x, true, rfl, HF.out x HX.out, HB.out⟩
      · have HF : Hid (FindOf f size j k t.L 0 false) := .inr ⟨rfl, rfl, .inr (.inr (by omega))⟩
        have g4 : k ≥ cnt j t.L := by omega
        clear h t1 t2 t3 hcx hq HW g1 g3
        generalize cnt j t.L = CN at *
        have k0 := HQ.out.c0; have k1 := HQ.out.c1
        go_enter Try.func24, Try.ntmps24
        go_wp2_with fail
        rw [← HW'.out]
        refine HTG.out.mono ?_
        rintro e w1 ⟨rfl, rfl⟩
        go_wp2_with fail
        refine HCN.out.mono ?_
        rintro e w1 ⟨rfl, rfl⟩
        go_wp2_with fail
        refine bodyPost_ret (v := .tuple #[.int .i64 0, .bool false]) (by simp [results, Try.results24, go_sem]) rfl ?_
        exact ⟨0, false, rfl, HF, HQ.out.bel⟩
  · have HF : Hid (FindOf f size tag k t.L 0 false) := .inr ⟨rfl, rfl, .inl (Bool.eq_false_iff.2 g1)⟩
    rw [Bool.eq_false_iff.2 g1] at HTG
    clear h t1 t2 t3 hcx hq HW g1
    go_enter Try.func24, Try.ntmps24
    go_wp2_with fail
    rw [← HW'.out]
    refine HTG.out.mono ?_
    rintro e w1 ⟨rfl, rfl⟩
    go_wp2_with fail
    refine bodyPost_ret (v := .tuple #[.int .i64 0, .bool false]) (by simp [results, Try.results24, go_sem]) rfl ?_
    exact ⟨0, false, rfl, HF, HQ.out.bel⟩
end Go.Proofs.Ytahgfggcpmnnaaa
