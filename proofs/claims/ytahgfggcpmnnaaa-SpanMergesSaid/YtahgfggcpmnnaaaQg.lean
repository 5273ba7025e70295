/- The document's Swap, where it refuses; the function behind it, as the program's contract names it. -/
import Derived.Test.YtahgfggcpmnnaaaQc
import Derived.Test.YtahgfggcpmnnaaaYy
namespace Go.Proofs.Ytahgfggcpmnnaaa
open Go Go.RowKit Gs

theorem gS_swr (f : Int → Int) (lo hi : Int) (fr tt : Nat) : gS f lo hi fr tt false = swr f lo hi fr tt := by
  funext x
  show (if lo ≤ x ∧ x < hi ∧ (false = true ∨ f x = fr) then (tt : Int) else f x) = if lo ≤ x ∧ x < hi then (if f x = fr then (tt : Int) else f x) else f x
  by_cases h : lo ≤ x ∧ x < hi
  · by_cases h2 : f x = fr
    · rw [if_pos ⟨h.1, h.2, .inr h2⟩, if_pos h, if_pos h2]
    · rw [if_neg (fun h' => h'.2.2.elim (fun h => by cases h) h2), if_pos h, if_neg h2]
  · rw [if_neg (fun h' => h ⟨h'.1, h'.2.1⟩), if_neg h]
set_option maxHeartbeats 1000000 in
theorem RSwap_un (size lo hi fr tt : Int) (any : Bool) (a : Option Addr) (n c : Nat) (W : World) (hn : ¬ 0 < n) : Calls Try.prog 43 #[.agg #[.int .i64 size, .slice a n c], .int .i64 lo, .int .i64 hi, .int .i64 fr, .int .i64 tt, .bool any] W fun e w' => e = .returned (.tuple #[.agg #[.int .i64 0, .slice none 0 0], .int .i64 0, .int .i64 1]) ∧ Below W.heap.size W w' := by
  obtain ⟨w0, HW, hm, hr, hb⟩ := boxesR W size (.slice a n c) 33
  have HUS : Hid (∀ W', Calls Try.prog 42 #[.agg #[.int .i64 size, .slice a n c]] W' fun e w' => e = .returned (.bool false) ∧ Below W'.heap.size W' w') := fun W' => by have := RUsable_any size a n c W'; rwa [decide_eq_false hn] at this
  have HM := Lib.hid hm; have HR := Lib.hid hr; have HB := Lib.hid hb; have HW' := Lib.hid HW
  have k0 := HM.out.c0; have k1 := HM.out.c1
  clear HW hm hr hb hn
  go_enter Try.func43, Try.ntmps43
  go_upto_region 1 with fail
  rw [← HW'.out]
  go_wp2_with fail
  refine (HUS.out _).mono ?_
  rintro e wHUS ⟨rfl, hb⟩
  have HM := Lib.hid (HM.out.next hb); have HR := Lib.hid (HR.out.next hb)
  have HB := Lib.hid (HB.out.trans (hb.mono HB.out.size))
  clear hb k0 k1
  have k0 := HM.out.c0; have k1 := HM.out.c1
  have d0 := HR.out.c0; have d1 := HR.out.c1; have d2 := HR.out.f0; have d3 := HR.out.f1
  obtain ⟨u0, u1⟩ : _ ∧ _ := ⟨(HR.out.put (.int .i64 0) (.slice none 0 0)).c0, (HR.out.put (.int .i64 0) (.slice none 0 0)).c1⟩
  go_wp2_with fail
  refine bodyPost_ret (v := .tuple #[.agg #[.int .i64 0, .slice none 0 0], .int .i64 0, .int .i64 1]) (by simp [results, Try.results43, go_sem, u0, u1]) rfl ?_
  have HBF := below_put HB.out (B := W.heap.size + 1) (by omega) (.int .i64 0) (.slice none 0 0)
  exact ⟨rfl, by first | exact HB.out | exact HBF⟩
set_option maxHeartbeats 1000000 in
theorem RSwap_range (size lo hi fr tt : Int) (any : Bool) (a : Option Addr) (n c : Nat) (W : World) (hn : 0 < n) (hv : ¬ (0 ≤ lo ∧ lo ≤ hi ∧ hi ≤ size)) : Calls Try.prog 43 #[.agg #[.int .i64 size, .slice a n c], .int .i64 lo, .int .i64 hi, .int .i64 fr, .int .i64 tt, .bool any] W fun e w' => e = .returned (.tuple #[.agg #[.int .i64 0, .slice none 0 0], .int .i64 0, .int .i64 3]) ∧ Below W.heap.size W w' := by
  obtain ⟨w0, HW, hm, hr, hb⟩ := boxesR W size (.slice a n c) 33
  have HUS : Hid (∀ W', Calls Try.prog 42 #[.agg #[.int .i64 size, .slice a n c]] W' fun e w' => e = .returned (.bool true) ∧ Below W'.heap.size W' w') := fun W' => by have := RUsable_any size a n c W'; rwa [decide_eq_true hn] at this
  have HVA : Hid (∀ W', Calls Try.prog 48 #[.agg #[.int .i64 size, .slice a n c], .int .i64 lo, .int .i64 hi] W' fun e w' => e = .returned (.bool false) ∧ Below W'.heap.size W' w') := fun W' => by have := Rvalid_any size lo hi (.slice a n c) W'; rwa [decide_eq_false (p := 0 ≤ lo ∧ lo ≤ hi ∧ hi ≤ size) hv] at this
  have HM := Lib.hid hm; have HR := Lib.hid hr; have HB := Lib.hid hb; have HW' := Lib.hid HW
  have k0 := HM.out.c0; have k1 := HM.out.c1
  clear HW hm hr hb hn hv
  go_enter Try.func43, Try.ntmps43
  go_upto_region 1 with fail
  rw [← HW'.out]
  go_wp2_with fail
  refine (HUS.out _).mono ?_
  rintro e wHUS ⟨rfl, hb⟩
  have HM := Lib.hid (HM.out.next hb); have HR := Lib.hid (HR.out.next hb)
  have HB := Lib.hid (HB.out.trans (hb.mono HB.out.size))
  clear hb k0 k1
  have k0 := HM.out.c0; have k1 := HM.out.c1
  go_wp2_with fail
  refine (HVA.out _).mono ?_
  rintro e wHVA ⟨rfl, hb⟩
  have HM := Lib.hid (HM.out.next hb); have HR := Lib.hid (HR.out.next hb)
  have HB := Lib.hid (HB.out.trans (hb.mono HB.out.size))
  clear hb k0 k1
  have k0 := HM.out.c0; have k1 := HM.out.c1
  have d0 := HR.out.c0; have d1 := HR.out.c1; have d2 := HR.out.f0; have d3 := HR.out.f1
  obtain ⟨u0, u1⟩ : _ ∧ _ := ⟨(HR.out.put (.int .i64 0) (.slice none 0 0)).c0, (HR.out.put (.int .i64 0) (.slice none 0 0)).c1⟩
  go_wp2_with fail
  refine bodyPost_ret (v := .tuple #[.agg #[.int .i64 0, .slice none 0 0], .int .i64 0, .int .i64 3]) (by simp [results, Try.results43, go_sem, u0, u1]) rfl ?_
  have HBF := below_put HB.out (B := W.heap.size + 1) (by omega) (.int .i64 0) (.slice none 0 0)
  exact ⟨rfl, by first | exact HB.out | exact HBF⟩
-- tags
set_option maxHeartbeats 1000000 in
theorem RSwap_to (size lo hi fr tt : Int) (a : Option Addr) (n c : Nat) (W : World) (hn : 0 < n) (hv : 0 ≤ lo ∧ lo ≤ hi ∧ hi ≤ size) (ht : isT tt = false) : Calls Try.prog 43 #[.agg #[.int .i64 size, .slice a n c], .int .i64 lo, .int .i64 hi, .int .i64 fr, .int .i64 tt, .bool true] W fun e w' => e = .returned (.tuple #[.agg #[.int .i64 0, .slice none 0 0], .int .i64 0, .int .i64 2]) ∧ Below W.heap.size W w' := by
  obtain ⟨w0, HW, hm, hr, hb⟩ := boxesR W size (.slice a n c) 33
  have HUS : Hid (∀ W', Calls Try.prog 42 #[.agg #[.int .i64 size, .slice a n c]] W' fun e w' => e = .returned (.bool true) ∧ Below W'.heap.size W' w') := fun W' => by have := RUsable_any size a n c W'; rwa [decide_eq_true hn] at this
  have HVA : Hid (∀ W', Calls Try.prog 48 #[.agg #[.int .i64 size, .slice a n c], .int .i64 lo, .int .i64 hi] W' fun e w' => e = .returned (.bool true) ∧ Below W'.heap.size W' w') := fun W' => by have := Rvalid_any size lo hi (.slice a n c) W'; rwa [decide_eq_true (p := 0 ≤ lo ∧ lo ≤ hi ∧ hi ≤ size) hv] at this
  have HTT : Hid (∀ W', Calls Try.prog 51 #[.int .i64 tt] W' fun e w' => e = .returned (.bool false) ∧ W' = w') := fun W' => by have := RTag_any tt W'; rwa [ht] at this
  have HM := Lib.hid hm; have HR := Lib.hid hr; have HB := Lib.hid hb; have HW' := Lib.hid HW
  have k0 := HM.out.c0; have k1 := HM.out.c1
  clear HW hm hr hb hn hv ht
  go_enter Try.func43, Try.ntmps43
  go_upto_region 1 with fail
  rw [← HW'.out]
  go_wp2_with fail
  refine (HUS.out _).mono ?_
  rintro e wHUS ⟨rfl, hb⟩
  have HM := Lib.hid (HM.out.next hb); have HR := Lib.hid (HR.out.next hb)
  have HB := Lib.hid (HB.out.trans (hb.mono HB.out.size))
  clear hb k0 k1
  have k0 := HM.out.c0; have k1 := HM.out.c1
  go_wp2_with fail
  refine (HVA.out _).mono ?_
  rintro e wHVA ⟨rfl, hb⟩
  have HM := Lib.hid (HM.out.next hb); have HR := Lib.hid (HR.out.next hb)
  have HB := Lib.hid (HB.out.trans (hb.mono HB.out.size))
  clear hb k0 k1
  have k0 := HM.out.c0; have k1 := HM.out.c1
  go_wp2_with fail
  refine (HTT.out _).mono ?_
  rintro e w9 ⟨rfl, rfl⟩
  have d0 := HR.out.c0; have d1 := HR.out.c1; have d2 := HR.out.f0; have d3 := HR.out.f1
  obtain ⟨u0, u1⟩ : _ ∧ _ := ⟨(HR.out.put (.int .i64 0) (.slice none 0 0)).c0, (HR.out.put (.int .i64 0) (.slice none 0 0)).c1⟩
  go_wp2_with fail
  refine bodyPost_ret (v := .tuple #[.agg #[.int .i64 0, .slice none 0 0], .int .i64 0, .int .i64 2]) (by simp [results, Try.results43, go_sem, u0, u1]) rfl ?_
  have HBF := below_put HB.out (B := W.heap.size + 1) (by omega) (.int .i64 0) (.slice none 0 0)
  exact ⟨rfl, by first | exact HB.out | exact HBF⟩
set_option maxHeartbeats 1000000 in
theorem RSwap_fr (size lo hi fr tt : Int) (a : Option Addr) (n c : Nat) (W : World) (hn : 0 < n) (hv : 0 ≤ lo ∧ lo ≤ hi ∧ hi ≤ size) (hf : isT fr = false) : Calls Try.prog 43 #[.agg #[.int .i64 size, .slice a n c], .int .i64 lo, .int .i64 hi, .int .i64 fr, .int .i64 tt, .bool false] W fun e w' => e = .returned (.tuple #[.agg #[.int .i64 0, .slice none 0 0], .int .i64 0, .int .i64 2]) ∧ Below W.heap.size W w' := by
  obtain ⟨w0, HW, hm, hr, hb⟩ := boxesR W size (.slice a n c) 33
  have HUS : Hid (∀ W', Calls Try.prog 42 #[.agg #[.int .i64 size, .slice a n c]] W' fun e w' => e = .returned (.bool true) ∧ Below W'.heap.size W' w') := fun W' => by have := RUsable_any size a n c W'; rwa [decide_eq_true hn] at this
  have HVA : Hid (∀ W', Calls Try.prog 48 #[.agg #[.int .i64 size, .slice a n c], .int .i64 lo, .int .i64 hi] W' fun e w' => e = .returned (.bool true) ∧ Below W'.heap.size W' w') := fun W' => by have := Rvalid_any size lo hi (.slice a n c) W'; rwa [decide_eq_true (p := 0 ≤ lo ∧ lo ≤ hi ∧ hi ≤ size) hv] at this
  have HTF : Hid (∀ W', Calls Try.prog 51 #[.int .i64 fr] W' fun e w' => e = .returned (.bool false) ∧ W' = w') := fun W' => by have := RTag_any fr W'; rwa [hf] at this
  have HM := Lib.hid hm; have HR := Lib.hid hr; have HB := Lib.hid hb; have HW' := Lib.hid HW
  have k0 := HM.out.c0; have k1 := HM.out.c1
  clear HW hm hr hb hn hv hf
  go_enter Try.func43, Try.ntmps43
  go_upto_region 1 with fail
  rw [← HW'.out]
  go_wp2_with fail
  refine (HUS.out _).mono ?_
  rintro e wHUS ⟨rfl, hb⟩
  have HM := Lib.hid (HM.out.next hb); have HR := Lib.hid (HR.out.next hb)
  have HB := Lib.hid (HB.out.trans (hb.mono HB.out.size))
  clear hb k0 k1
  have k0 := HM.out.c0; have k1 := HM.out.c1
  go_wp2_with fail
  refine (HVA.out _).mono ?_
  rintro e wHVA ⟨rfl, hb⟩
  have HM := Lib.hid (HM.out.next hb); have HR := Lib.hid (HR.out.next hb)
  have HB := Lib.hid (HB.out.trans (hb.mono HB.out.size))
  clear hb k0 k1
  have k0 := HM.out.c0; have k1 := HM.out.c1
  go_wp2_with fail
  refine (HTF.out _).mono ?_
  rintro e w9 ⟨rfl, rfl⟩
  have d0 := HR.out.c0; have d1 := HR.out.c1; have d2 := HR.out.f0; have d3 := HR.out.f1
  obtain ⟨u0, u1⟩ : _ ∧ _ := ⟨(HR.out.put (.int .i64 0) (.slice none 0 0)).c0, (HR.out.put (.int .i64 0) (.slice none 0 0)).c1⟩
  go_wp2_with fail
  refine bodyPost_ret (v := .tuple #[.agg #[.int .i64 0, .slice none 0 0], .int .i64 0, .int .i64 2]) (by simp [results, Try.results43, go_sem, u0, u1]) rfl ?_
  have HBF := below_put HB.out (B := W.heap.size + 1) (by omega) (.int .i64 0) (.slice none 0 0)
  exact ⟨rfl, by first | exact HB.out | exact HBF⟩
set_option maxHeartbeats 1000000 in
theorem RSwap_frto (size lo hi fr tt : Int) (a : Option Addr) (n c : Nat) (W : World) (hn : 0 < n) (hv : 0 ≤ lo ∧ lo ≤ hi ∧ hi ≤ size) (hf : isT fr = true) (ht : isT tt = false) : Calls Try.prog 43 #[.agg #[.int .i64 size, .slice a n c], .int .i64 lo, .int .i64 hi, .int .i64 fr, .int .i64 tt, .bool false] W fun e w' => e = .returned (.tuple #[.agg #[.int .i64 0, .slice none 0 0], .int .i64 0, .int .i64 2]) ∧ Below W.heap.size W w' := by
  obtain ⟨w0, HW, hm, hr, hb⟩ := boxesR W size (.slice a n c) 33
  have HUS : Hid (∀ W', Calls Try.prog 42 #[.agg #[.int .i64 size, .slice a n c]] W' fun e w' => e = .returned (.bool true) ∧ Below W'.heap.size W' w') := fun W' => by have := RUsable_any size a n c W'; rwa [decide_eq_true hn] at this
  have HVA : Hid (∀ W', Calls Try.prog 48 #[.agg #[.int .i64 size, .slice a n c], .int .i64 lo, .int .i64 hi] W' fun e w' => e = .returned (.bool true) ∧ Below W'.heap.size W' w') := fun W' => by have := Rvalid_any size lo hi (.slice a n c) W'; rwa [decide_eq_true (p := 0 ≤ lo ∧ lo ≤ hi ∧ hi ≤ size) hv] at this
  have HTF : Hid (∀ W', Calls Try.prog 51 #[.int .i64 fr] W' fun e w' => e = .returned (.bool true) ∧ W' = w') := fun W' => by have := RTag_any fr W'; rwa [hf] at this
  have HTT : Hid (∀ W', Calls Try.prog 51 #[.int .i64 tt] W' fun e w' => e = .returned (.bool false) ∧ W' = w') := fun W' => by have := RTag_any tt W'; rwa [ht] at this
  have HM := Lib.hid hm; have HR := Lib.hid hr; have HB := Lib.hid hb; have HW' := Lib.hid HW
  have k0 := HM.out.c0; have k1 := HM.out.c1
  clear HW hm hr hb hn hv hf ht
  go_enter Try.func43, Try.ntmps43
  go_upto_region 1 with fail
  rw [← HW'.out]
  go_wp2_with fail
  refine (HUS.out _).mono ?_
  rintro e wHUS ⟨rfl, hb⟩
  have HM := Lib.hid (HM.out.next hb); have HR := Lib.hid (HR.out.next hb)
  have HB := Lib.hid (HB.out.trans (hb.mono HB.out.size))
  clear hb k0 k1
  have k0 := HM.out.c0; have k1 := HM.out.c1
  go_wp2_with fail
  refine (HVA.out _).mono ?_
  rintro e wHVA ⟨rfl, hb⟩
  have HM := Lib.hid (HM.out.next hb); have HR := Lib.hid (HR.out.next hb)
  have HB := Lib.hid (HB.out.trans (hb.mono HB.out.size))
  clear hb k0 k1
  have k0 := HM.out.c0; have k1 := HM.out.c1
  go_wp2_with fail
  refine (HTF.out _).mono ?_
  rintro e w9 ⟨rfl, rfl⟩
  go_wp2_with fail
  refine (HTT.out _).mono ?_
  rintro e w9 ⟨rfl, rfl⟩
  have d0 := HR.out.c0; have d1 := HR.out.c1; have d2 := HR.out.f0; have d3 := HR.out.f1
  obtain ⟨u0, u1⟩ : _ ∧ _ := ⟨(HR.out.put (.int .i64 0) (.slice none 0 0)).c0, (HR.out.put (.int .i64 0) (.slice none 0 0)).c1⟩
  go_wp2_with fail
  refine bodyPost_ret (v := .tuple #[.agg #[.int .i64 0, .slice none 0 0], .int .i64 0, .int .i64 2]) (by simp [results, Try.results43, go_sem, u0, u1]) rfl ?_
  have HBF := below_put HB.out (B := W.heap.size + 1) (by omega) (.int .i64 0) (.slice none 0 0)
  exact ⟨rfl, by first | exact HB.out | exact HBF⟩
end Go.Proofs.Ytahgfggcpmnnaaa
