/- What every function answers of a map that is unusable. -/
import Derived.Test.YtahgfggcpmnnaaaZc
namespace Go.Proofs.Ytahgfggcpmnnaaa
open Go Go.RowKit Gs

theorem Get_un (size x : Int) (W : World) : Calls Try.prog 18 #[.agg #[.pointer none, .int .i64 size], .int .i64 x] W fun e w' => e = .returned (.tuple #[.int .i64 0, .int .i64 1]) ∧ Below W.heap.size W w' := by
  have HUS := Lib.hid (fun W' => isUsable_none size W')
  have HB : Hid (∀ o, Below W.heap.size W (W.alloc o)) := fun o => (Below.refl _ _).alloc (Nat.le_refl _) _
  go_enter Try.func18, Try.ntmps18
  go_wp2_with fail
  refine (HUS.out _).mono ?_
  rintro e w1 ⟨rfl, hb⟩
  have HB1 := Lib.hid ((HB.out _).trans (hb.mono (HB.out _).size))
  clear hb
  go_wp2_with fail
  refine bodyPost_ret (v := .tuple #[.int .i64 0, .int .i64 1]) (by simp [results, Try.results18, go_sem]) rfl ?_
  exact ⟨rfl, HB1.out⟩
theorem Count_un (size lo hi tag : Int) (W : World) : Calls Try.prog 22 #[.agg #[.pointer none, .int .i64 size], .int .i64 lo, .int .i64 hi, .int .i64 tag] W fun e w' => e = .returned (.tuple #[.int .i64 0, .int .i64 1]) ∧ Below W.heap.size W w' := by
  have HCK := Lib.hid (fun a n c W' => check_none size lo hi a n c W')
  obtain ⟨w0, HW⟩ : ∃ w0, w0 = (W.alloc (.cells #[.pointer none, .int .i64 size] 27)).alloc (.cells #[.int .i64 tag] 3) := ⟨_, rfl⟩
  have HB : Hid (Below W.heap.size W w0) := by rw [HW]; exact ((Below.refl _ _).alloc (Nat.le_refl _) _).alloc (by simp) _
  have HW' := Lib.hid HW
  clear HW
  go_enter Try.func22, Try.ntmps22
  go_wp2_with fail
  rw [← HW'.out]
  refine (HCK.out _ _ _ _).mono ?_
  rintro e w1 ⟨rfl, hb⟩
  have HB1 := Lib.hid (HB.out.trans (hb.mono HB.out.size))
  clear hb
  go_wp2_with fail
  refine bodyPost_ret (v := .tuple #[.int .i64 0, .int .i64 1]) (by simp [results, Try.results22, go_sem]) rfl ?_
  exact ⟨rfl, HB1.out⟩
theorem Set_un (size lo hi tag : Int) (W : World) : Calls Try.prog 38 #[.agg #[.pointer none, .int .i64 size], .int .i64 lo, .int .i64 hi, .int .i64 tag] W fun e w' => e = .returned (.tuple #[.agg #[.pointer none, .int .i64 0], .int .i64 1]) ∧ Below W.heap.size W w' := by
  have HCK := Lib.hid (fun a n c W' => check_none size lo hi a n c W')
  obtain ⟨w0, HW, hm, hr, hc, hlt, hb⟩ := boxes3 W none size 27 #[.int .i64 tag] 3
  have HR := Lib.hid hr; have HB := Lib.hid hb; have HW' := Lib.hid HW
  clear hm hr hb HW hc hlt
  go_enter Try.func38, Try.ntmps38
  go_wp2_with fail
  rw [← HW'.out]
  refine (HCK.out _ _ _ _).mono ?_
  rintro e w1 ⟨rfl, hb⟩
  have HR1 := Lib.hid (HR.out.next hb)
  have HB1 := Lib.hid (HB.out.trans (hb.mono HB.out.size))
  have d0 := HR1.out.c0; have d1 := HR1.out.c1; have d2 := HR1.out.f0; have d3 := HR1.out.f1
  obtain ⟨u0, u1⟩ : _ ∧ _ := ⟨(HR1.out.put none 0).c0, (HR1.out.put none 0).c1⟩
  clear hb
  go_wp2_with fail
  refine bodyPost_ret (v := .tuple #[.agg #[.pointer none, .int .i64 0], .int .i64 1]) (by simp [results, Try.results38, go_sem, u0, u1]) rfl ?_
  have HBF := below_put HB1.out (B := W.heap.size + 1) (by omega) (.pointer none) (.int .i64 0)
  exact ⟨rfl, by first | exact HB1.out | exact HBF⟩
theorem Swap_un (size lo hi fr tag : Int) (W : World) : Calls Try.prog 39 #[.agg #[.pointer none, .int .i64 size], .int .i64 lo, .int .i64 hi, .int .i64 fr, .int .i64 tag] W fun e w' => e = .returned (.tuple #[.agg #[.pointer none, .int .i64 0], .int .i64 0, .int .i64 1]) ∧ Below W.heap.size W w' := by
  have HCK := Lib.hid (fun a n c W' => check_none size lo hi a n c W')
  obtain ⟨w0, HW, hm, hr, hc, hlt, hb⟩ := boxes3 W none size 27 #[.int .i64 fr, .int .i64 tag] 3
  have HR := Lib.hid hr; have HB := Lib.hid hb; have HW' := Lib.hid HW
  clear hm hr hb HW hc hlt
  go_enter Try.func39, Try.ntmps39
  go_wp2_with fail
  rw [← HW'.out]
  refine (HCK.out _ _ _ _).mono ?_
  rintro e w1 ⟨rfl, hb⟩
  have HR1 := Lib.hid (HR.out.next hb)
  have HB1 := Lib.hid (HB.out.trans (hb.mono HB.out.size))
  have d0 := HR1.out.c0; have d1 := HR1.out.c1; have d2 := HR1.out.f0; have d3 := HR1.out.f1
  obtain ⟨u0, u1⟩ : _ ∧ _ := ⟨(HR1.out.put none 0).c0, (HR1.out.put none 0).c1⟩
  clear hb
  go_wp2_with fail
  refine bodyPost_ret (v := .tuple #[.agg #[.pointer none, .int .i64 0], .int .i64 0, .int .i64 1]) (by simp [results, Try.results39, go_sem, u0, u1]) rfl ?_
  have HBF := below_put HB1.out (B := W.heap.size + 1) (by omega) (.pointer none) (.int .i64 0)
  exact ⟨rfl, by first | exact HB1.out | exact HBF⟩
theorem Find_un (size tag k : Int) (W : World) : Calls Try.prog 24 #[.agg #[.pointer none, .int .i64 size], .int .i64 tag, .int .i64 k] W fun e w' => e = .returned (.tuple #[.int .i64 0, .bool false]) ∧ Below W.heap.size W w' := by
  obtain ⟨w0, HW⟩ : ∃ w0, w0 = W.alloc (.cells #[.pointer none, .int .i64 size] 27) := ⟨_, rfl⟩
  have hq : Mq W none size w0 := by rw [HW]; exact Mq.new _ _ _ _
  have HTG := Lib.hid (isTag_any tag w0)
  have HQ := Lib.hid hq
  have HW' := Lib.hid HW
  by_cases g1 : isT tag = true
  · obtain ⟨e1, e2⟩ : 0 ≤ tag ∧ tag < 16 := of_decide_eq_true g1
    obtain ⟨j, rfl⟩ : ∃ j : Nat, tag = j := ⟨tag.toNat, by omega⟩
    have hj : j < 16 := by omega
    have HCN : Hid (Calls Try.prog 53 #[.pointer none, .int .i64 j] w0 fun e w' => e = .returned (.int .i64 0) ∧ w0 = w') := count_any .nil (.pointer none) w0 j hj rfl
    rw [g1] at HTG
    clear hq HW g1
    by_cases g2 : k < 0
    · go_enter Try.func24, Try.ntmps24
      go_wp2_with fail
      rw [← HW'.out]
      refine HTG.out.mono ?_
      rintro e w1 ⟨rfl, rfl⟩
      go_wp2_with fail
      refine bodyPost_ret (v := .tuple #[.int .i64 0, .bool false]) (by simp [results, Try.results24, go_sem]) rfl ?_
      exact ⟨rfl, HQ.out.bel⟩
    · have g4 : k ≥ 0 := by omega
      have k0 := HQ.out.c0; have k1 := HQ.out.c1
      go_enter Try.func24, Try.ntmps24
      go_wp2_with fail
      rw [← HW'.out]
      refine HTG.out.mono ?_
      rintro e w1 ⟨rfl, rfl⟩
      go_wp2_with fail
      refine HCN.out.mono ?_
      rintro e w1 ⟨rfl, rfl⟩
      go_wp2_with fail
      refine bodyPost_ret (v := .tuple #[.int .i64 0, .bool false]) (by simp [results, Try.results24, go_sem]) rfl ?_
      exact ⟨rfl, HQ.out.bel⟩
  · rw [Bool.eq_false_iff.2 g1] at HTG
    clear hq HW g1
    go_enter Try.func24, Try.ntmps24
    go_wp2_with fail
    rw [← HW'.out]
    refine HTG.out.mono ?_
    rintro e w1 ⟨rfl, rfl⟩
    go_wp2_with fail
    refine bodyPost_ret (v := .tuple #[.int .i64 0, .bool false]) (by simp [results, Try.results24, go_sem]) rfl ?_
    exact ⟨rfl, HQ.out.bel⟩
theorem Len_un (size : Int) (W : World) : Calls Try.prog 41 #[.agg #[.pointer none, .int .i64 size]] W fun e w' => e = .returned (.int .i64 0) ∧ Below W.heap.size W w' := by
  have HB : Hid (∀ o, Below W.heap.size W (W.alloc o)) := fun o => (Below.refl _ _).alloc (Nat.le_refl _) _
  have HLN : Hid (∀ o, Calls Try.prog 71 #[.pointer none] (W.alloc o) fun e w' => e = .returned (.int .i64 0) ∧ W.alloc o = w') := fun o => len_any .nil (.pointer none) _ rfl
  go_enter Try.func41, Try.ntmps41
  go_wp2_with fail
  refine (HLN.out _).mono ?_
  rintro e w1 ⟨rfl, rfl⟩
  go_wp2_with fail
  go_ret
  exact ⟨rfl, HB.out _⟩
theorem Apply_un (size : Int) (a : Option Addr) (n c : Nat) (W : World) : Calls Try.prog 34 #[.agg #[.pointer none, .int .i64 size], .slice a n c] W fun e w' => e = .returned (.tuple #[.agg #[.pointer none, .int .i64 0], .int .i64 1]) ∧ Below W.heap.size W w' := by
  have HUS := Lib.hid (fun W' => isUsable_none size W')
  obtain ⟨w0, HW, hm, hr, hb⟩ := boxes2 W none size 27
  have HR := Lib.hid hr; have HB := Lib.hid hb; have HW' := Lib.hid HW
  clear hm hr hb HW
  go_enter Try.func34, Try.ntmps34
  go_wp2_with fail
  rw [← HW'.out]
  refine (HUS.out _).mono ?_
  rintro e w1 ⟨rfl, hb⟩
  have HR1 := Lib.hid (HR.out.next hb)
  have HB1 := Lib.hid (HB.out.trans (hb.mono HB.out.size))
  have d0 := HR1.out.c0; have d1 := HR1.out.c1; have d2 := HR1.out.f0; have d3 := HR1.out.f1
  obtain ⟨u0, u1⟩ : _ ∧ _ := ⟨(HR1.out.put none 0).c0, (HR1.out.put none 0).c1⟩
  clear hb
  go_wp2_with fail
  refine bodyPost_ret (v := .tuple #[.agg #[.pointer none, .int .i64 0], .int .i64 1]) (by simp [results, Try.results34, go_sem, u0, u1]) rfl ?_
  have HBF := below_put HB1.out (B := W.heap.size + 1) (by omega) (.pointer none) (.int .i64 0)
  exact ⟨rfl, by first | exact HB1.out | exact HBF⟩
end Go.Proofs.Ytahgfggcpmnnaaa
