/- The contracts of New and what it calls: of a map of one run. -/
import Derived.Test.YtahgfggcpmnnaaaYx
namespace Go.Proofs.Ytahgfggcpmnnaaa
open Go Go.RowKit Gs

theorem build_empty (a : Option Addr) (c : Nat) (W : World) : Calls Try.prog 56 #[.slice a 0 c] W fun e w' => e = .returned (.pointer none) ∧ W = w' := by
  go_enter Try.func56, Try.ntmps56
  go_wp2_with fail
  go_ret
  exact ⟨rfl, rfl⟩
set_option maxHeartbeats 1000000 in
theorem build_one (B : Nat) (size : Int) (W : World) (h1 : 1 ≤ size) (h2 : size ≤ 1099511627776) (hB : B < W.heap.size) (c0 : W.cell? ⟨B, 0, none⟩ = some (.int .i64 0)) (c1 : W.cell? ⟨B, 1, none⟩ = some (.int .i64 size)) (c2 : W.cell? ⟨B, 2, none⟩ = some (.int .i64 0)) :
    Calls Try.prog 56 #[.slice (some ⟨B, 0, none⟩) 1 1] W fun e w' => ∃ g, e = .returned (.pointer (some ⟨g, 0, none⟩)) ∧ Hid (IsT w' (.node .nil ⟨0, size, 0⟩ .nil) (.pointer (some ⟨g, 0, none⟩))) ∧ Below W.heap.size W w' := by
  have HBE := Lib.hid (fun a c W' => build_empty a c W')
  have HNN : Hid (∀ W', Below W.heap.size W W' → Calls Try.prog 74 #[.pointer none, .agg #[.int .i64 0, .int .i64 size, .int .i64 0], .pointer none] W' fun e w' => ∃ g, e = .returned (.pointer (some ⟨g, 0, none⟩)) ∧ Hid (IsT w' (.node .nil ⟨0, size, 0⟩ .nil) (.pointer (some ⟨g, 0, none⟩))) ∧ Below W.heap.size W w') := fun W' h =>
    (newNode_any .nil .nil 0 size 0 _ _ W' rfl rfl ⟨by simp [T.L], fun r hr => by
      simp only [T.L, List.nil_append, List.mem_singleton] at hr
      subst hr
      exact ⟨Int.le_refl 0, by show (0 : Int) < size; omega, h2, Int.le_refl 0, by show (0 : Int) < 16; omega⟩⟩).mono fun e w' ⟨g, he, ht, hB⟩ => ⟨g, he, ht, h.trans (hB.mono h.size)⟩
  have HALL : Hid (∀ W', Below W.heap.size W W' → W'.cell? ⟨B, 0, none⟩ = some (.int .i64 0) ∧ W'.cell? ⟨B, 1, none⟩ = some (.int .i64 size) ∧ W'.cell? ⟨B, 2, none⟩ = some (.int .i64 0)) := fun W' h => ⟨(h.cell (p := ⟨B, 0, none⟩) hB).trans c0, (h.cell (p := ⟨B, 1, none⟩) hB).trans c1, (h.cell (p := ⟨B, 2, none⟩) hB).trans c2⟩
  clear c0 c1 c2 h1 h2
  have hw1 : IntKind.i64.wrap ((0 : Int) + 1) = 1 := IntWalk.i64_in _ (by omega)
  have hw2 : IntKind.i64.wrap (1 : Int) = 1 := IntWalk.i64_in _ (by omega)
  have hs : Below W.heap.size W W := Below.refl _ _
  have hs2 := hs.drew
  have hcl := HALL.out _ hs2
  have hc0 := HALL.out _ hs
  go_enter Try.func56, Try.ntmps56
  go_wp2_with fail
  go_region_held3 (fun W' : World => W'.cell? ⟨B, 0, none⟩ = some (.int .i64 0) ∧ W'.cell? ⟨B, 1, none⟩ = some (.int .i64 size) ∧ W'.cell? ⟨B, 2, none⟩ = some (.int .i64 0)) (first | assumption | fail) (first
    | (go_at_call 56; with_reducible refine (HBE.out _ _ _).mono ?_; rintro e w' ⟨rfl, rfl⟩)
    | (go_at_call 74; with_reducible refine (HNN.out _ ?h).mono ?_; (case h => assumption); rintro e w' ⟨g, rfl, hgt, hs'⟩; have hc' := HALL.out _ hs') | fail)
  all_goals
    have HBF := Lib.hid hs'
    clear hs hs2 hcl hc0 hs' hc'
    go_wp2_with fail
    go_ret
    exact ⟨g, rfl, hgt, HBF.out⟩
set_option maxHeartbeats 1000000 in
theorem areRuns_one (B c : Nat) (size : Int) (W : World) (h1 : 1 ≤ size) (hB : B < W.heap.size) (c0 : W.cell? ⟨B, 0, none⟩ = some (.int .i64 0)) (c1 : W.cell? ⟨B, 1, none⟩ = some (.int .i64 size)) (c2 : W.cell? ⟨B, 2, none⟩ = some (.int .i64 0)) :
    Calls Try.prog 55 #[.int .i64 size, .slice (some ⟨B, 0, none⟩) 1 c] W fun e w' => e = .returned (.bool true) ∧ Below W.heap.size W w' := by
  have HTG : Hid (∀ W', Calls Try.prog 52 #[.int .i64 0] W' fun e w' => e = .returned (.bool true) ∧ W' = w') := fun W' => isTag_any 0 W'
  have HALL : Hid (∀ W', Below W.heap.size W W' → W'.cell? ⟨B, 0, none⟩ = some (.int .i64 0) ∧ W'.cell? ⟨B, 1, none⟩ = some (.int .i64 size) ∧ W'.cell? ⟨B, 2, none⟩ = some (.int .i64 0)) := fun W' h => ⟨(h.cell (p := ⟨B, 0, none⟩) hB).trans c0, (h.cell (p := ⟨B, 1, none⟩) hB).trans c1, (h.cell (p := ⟨B, 2, none⟩) hB).trans c2⟩
  clear c0 c1 c2
  have hle : ¬ size ≤ 0 := by omega
  have hm1 : ((0 : Int) == -1) = false := by decide
  go_enter Try.func55, Try.ntmps55
  go_wp2_with fail
  go_loopw [5, 6, 11] (fun s5 s6 s11 wr => ∃ j : Nat, j ≤ 1 ∧ s11 = .int .i64 j ∧ s5 = .int .i64 (if j = 0 then 0 else size) ∧ s6 = .int .i64 (if j = 0 then -1 else 0) ∧ Hid (Below W.heap.size W wr)) (fun _ _ i _ => 1 - (intOf i).toNat)
  case atStart => exact ⟨0, by omega, rfl, rfl, rfl, Below.refl _ _⟩
  case round =>
    obtain ⟨j, hj, rfl, rfl, rfl, HB⟩ := hrel
    have h01 : j = 0 ∨ j = 1 := by omega
    rcases h01 with rfl | rfl
    · obtain ⟨k0, k1, k2⟩ := HALL.out wr HB.out
      have hq : Bq wr 0 size 0 (wr.alloc (.cells #[.int .i64 0, .int .i64 size, .int .i64 0] 64)) := Bq.new _ _ _ _ _
      obtain ⟨w1, HW1⟩ : ∃ w1, w1 = wr.alloc (.cells #[.int .i64 0, .int .i64 size, .int .i64 0] 64) := ⟨_, rfl⟩
      rw [← HW1] at hq
      have HB1 : Hid (Below W.heap.size W w1) := HB.out.trans (hq.bel.mono HB.out.size)
      have q0 := hq.c0; have q1 := hq.c1; have q2 := hq.c2
      have HW := Lib.hid HW1
      clear HW1 hq
      go_wp2_with fail
      rw [← HW.out]
      refine (HTG.out _).mono ?_
      rintro e w2 ⟨rfl, rfl⟩
      go_wp2_with fail
      go_quiet (fail)
      go_wp2_with fail
      go_roundw
      case rel => exact ⟨1, by omega, by go_num, rfl, rfl, below_drewN HB1.out _⟩
      case measure => simp [intOf]
    · go_wp2_with fail
      go_ret
      exact ⟨rfl, HB.out⟩
set_option maxHeartbeats 1000000 in
theorem From_one (B : Nat) (size : Int) (W : World) (h1 : 1 ≤ size) (h2 : size ≤ 1099511627776) (hB : B < W.heap.size) (c0 : W.cell? ⟨B, 0, none⟩ = some (.int .i64 0)) (c1 : W.cell? ⟨B, 1, none⟩ = some (.int .i64 size)) (c2 : W.cell? ⟨B, 2, none⟩ = some (.int .i64 0)) :
    Calls Try.prog 27 #[.int .i64 size, .slice (some ⟨B, 0, none⟩) 1 1] W fun e w' => ∃ q, e = .returned (.tuple #[.agg #[.pointer q, .int .i64 size], .int .i64 0]) ∧ Hid (IsM (fun _ => 0) size w' q) ∧ Below W.heap.size W w' := by
  have HALL : Hid (∀ W', Below W.heap.size W W' → W'.cell? ⟨B, 0, none⟩ = some (.int .i64 0) ∧ W'.cell? ⟨B, 1, none⟩ = some (.int .i64 size) ∧ W'.cell? ⟨B, 2, none⟩ = some (.int .i64 0)) := fun W' h => ⟨(h.cell (p := ⟨B, 0, none⟩) hB).trans c0, (h.cell (p := ⟨B, 1, none⟩) hB).trans c1, (h.cell (p := ⟨B, 2, none⟩) hB).trans c2⟩
  obtain ⟨w0, HW⟩ : ∃ w0, w0 = W.alloc (.cells #[.pointer none, .int .i64 0] 27) := ⟨_, rfl⟩
  have hm : Mb W.heap.size none 0 w0 := by rw [HW]; exact Mb.new _ _ _ _
  have hb0 : Below W.heap.size W w0 := by rw [HW]; exact (Below.refl _ _).alloc (Nat.le_refl _) _
  have HAR : Hid (Calls Try.prog 55 #[.int .i64 size, .slice (some ⟨B, 0, none⟩) 1 1] w0 fun e w' => e = .returned (.bool true) ∧ Below w0.heap.size w0 w') := by
    obtain ⟨k0, k1, k2⟩ := HALL.out w0 hb0
    exact areRuns_one B 1 size w0 h1 (Nat.lt_of_lt_of_le hB hb0.size) k0 k1 k2
  have HBO : Hid (∀ W', Below W.heap.size W W' → Calls Try.prog 56 #[.slice (some ⟨B, 0, none⟩) 1 1] W' fun e w' => ∃ g, e = .returned (.pointer (some ⟨g, 0, none⟩)) ∧ Hid (IsT w' (.node .nil ⟨0, size, 0⟩ .nil) (.pointer (some ⟨g, 0, none⟩))) ∧ Below W'.heap.size W' w') := fun W' hb => by
    obtain ⟨k0, k1, k2⟩ := HALL.out W' hb
    exact build_one B size W' h1 h2 (Nat.lt_of_lt_of_le hB hb.size) k0 k1 k2
  have HIM : Hid (∀ w' q, IsT w' (.node .nil ⟨0, size, 0⟩ .nil) (.pointer q) → IsM (fun _ => 0) size w' q) := fun w' q h =>
    ⟨h1, ⟨Int.le_refl 0, h2, fun _ _ _ => ⟨Int.le_refl 0, by show (0 : Int) < 16; omega⟩⟩, .node .nil ⟨0, size, 0⟩ .nil, h, Gs.Can.one (f := fun _ => 0) (r := ⟨0, size, 0⟩) (by show (0 : Int) < size; omega) (fun _ _ _ => rfl), by simp [T.sz]⟩
  have HM := Lib.hid hm; have HB := Lib.hid hb0; have HW' := Lib.hid HW
  have q1 : ¬ size < 1 := by omega
  have q2 : ¬ size > 1099511627776 := by omega
  clear c0 c1 c2 hm hb0 HW h1 h2
  go_enter Try.func27, Try.ntmps27
  go_wp2_with fail
  rw [← HW'.out]
  refine HAR.out.mono ?_
  rintro e w1 ⟨rfl, hb⟩
  have HM1 := Lib.hid (HM.out.next hb)
  have HB1 := Lib.hid (HB.out.trans (hb.mono HB.out.size))
  clear hb
  go_wp2_with fail
  refine (HBO.out _ HB1.out).mono ?_
  rintro e w2 ⟨g, rfl, HT, hb⟩
  have HM2 := Lib.hid (HM1.out.next hb)
  have HB2 := Lib.hid (HB1.out.trans (hb.mono HB1.out.size))
  have d0 := HM2.out.c0; have d1 := HM2.out.c1; have d2 := HM2.out.f0; have d3 := HM2.out.f1
  obtain ⟨u0, u1⟩ : _ ∧ _ := ⟨(HM2.out.put (some ⟨g, 0, none⟩) size).c0, (HM2.out.put (some ⟨g, 0, none⟩) size).c1⟩
  clear hb
  go_wp2_with fail
  refine bodyPost_ret (v := .tuple #[.agg #[.pointer (some ⟨g, 0, none⟩), .int .i64 size], .int .i64 0]) (by simp [results, Try.results27, go_sem, u0, u1]) rfl ?_
  have hi := HIM.out w2 _ HT.out
  exact ⟨_, rfl, ⟨hi.lo, hi.ctx, HM2.out.tr hi.tr _ _⟩, below_put HB2.out (B := W.heap.size) (Nat.le_refl _) (.pointer (some ⟨g, 0, none⟩)) (.int .i64 size)⟩
theorem From_bad (a : Option Addr) (n c : Nat) (size : Int) (W : World) (h : size < 1 ∨ size > 1099511627776) :
    Calls Try.prog 27 #[.int .i64 size, .slice a n c] W fun e w' => e = .returned (.tuple #[.agg #[.pointer none, .int .i64 0], .int .i64 2]) ∧ Below W.heap.size W w' := by
  have HB : Hid (Below W.heap.size W (W.alloc (.cells #[.pointer none, .int .i64 0] 27))) := (Below.refl _ _).alloc (Nat.le_refl _) _
  by_cases h1 : size < 1
  · clear h
    go_enter Try.func27, Try.ntmps27
    go_wp2_with fail
    refine bodyPost_ret (v := .tuple #[.agg #[.pointer none, .int .i64 0], .int .i64 2]) (by simp [results, Try.results27, go_sem]) rfl ?_
    exact ⟨rfl, HB.out⟩
  · have h2 : size > 1099511627776 := by omega
    clear h
    go_enter Try.func27, Try.ntmps27
    go_wp2_with fail
    refine bodyPost_ret (v := .tuple #[.agg #[.pointer none, .int .i64 0], .int .i64 2]) (by simp [results, Try.results27, go_sem]) rfl ?_
    exact ⟨rfl, HB.out⟩
set_option maxHeartbeats 1000000 in
/-- New: a map, all of whose pieces have the tag 0, or ErrArg -/
theorem New_any (size : Int) (W : World) : Calls Try.prog 13 #[.int .i64 size] W fun e w' => ∃ q s e2, e = .returned (.tuple #[.agg #[.pointer q, .int .i64 s], .int .i64 e2]) ∧ Hid ((e2 = 0 ∧ s = size ∧ IsM (fun _ => 0) size w' q) ∨ (e2 = 2 ∧ q = none ∧ s = 0 ∧ (size < 1 ∨ 1099511627776 < size))) ∧ Below W.heap.size W w' := by
  obtain ⟨w0, HW⟩ : ∃ w0, w0 = (W.alloc (.cells #[.pointer none, .int .i64 0] 27)).alloc (.cells #[.int .i64 0, .int .i64 size, .int .i64 0] 64) := ⟨_, rfl⟩
  have hm1 := Mb.new W none 0 27
  have hm : Mb W.heap.size none 0 w0 := by rw [HW]; exact hm1.next ((Below.refl _ _).alloc (Nat.le_refl _) _)
  have hb0 : Below W.heap.size W w0 := by rw [HW]; exact ((Below.refl _ _).alloc (Nat.le_refl _) _).alloc (by simp) _
  have hlt : W.heap.size + 1 < w0.heap.size := by rw [HW]; simp
  have c0 : w0.cell? ⟨W.heap.size + 1, 0, none⟩ = some (.int .i64 0) := by rw [HW]; exact World.cell?_alloc_at _ _ _ _ (by simp)
  have c1 : w0.cell? ⟨W.heap.size + 1, 1, none⟩ = some (.int .i64 size) := by rw [HW]; exact World.cell?_alloc_at _ _ _ _ (by simp)
  have c2 : w0.cell? ⟨W.heap.size + 1, 2, none⟩ = some (.int .i64 0) := by rw [HW]; exact World.cell?_alloc_at _ _ _ _ (by simp)
  have HFR : Hid (Calls Try.prog 27 #[.int .i64 size, .slice (some ⟨W.heap.size + 1, 0, none⟩) 1 1] w0 fun e w' => ∃ q s e2, e = .returned (.tuple #[.agg #[.pointer q, .int .i64 s], .int .i64 e2]) ∧ Hid ((e2 = 0 ∧ s = size ∧ IsM (fun _ => 0) size w' q) ∨ (e2 = 2 ∧ q = none ∧ s = 0 ∧ (size < 1 ∨ 1099511627776 < size))) ∧ Below w0.heap.size w0 w') := by
    by_cases h : size < 1 ∨ size > 1099511627776
    · refine (From_bad _ 1 1 size w0 h).mono ?_
      rintro e w' ⟨rfl, hB⟩
      exact ⟨none, 0, 2, rfl, .inr ⟨rfl, rfl, rfl, h⟩, hB⟩
    · refine (From_one (W.heap.size + 1) size w0 (by omega) (by omega) hlt c0 c1 c2).mono ?_
      rintro e w' ⟨q, rfl, hq, hB⟩
      exact ⟨q, size, 0, rfl, .inl ⟨rfl, rfl, hq.out⟩, hB⟩
  have HM := Lib.hid hm; have HB := Lib.hid hb0; have HW' := Lib.hid HW
  clear hm1 hm hb0 hlt c0 c1 c2 HW
  go_enter Try.func13, Try.ntmps13
  go_wp2_with fail
  rw [← HW'.out]
  refine HFR.out.mono ?_
  rintro e w1 ⟨q, s, e2, rfl, HQ, hb⟩
  have HM1 := Lib.hid (HM.out.next hb)
  have HB1 := Lib.hid (HB.out.trans (hb.mono HB.out.size))
  have d0 := HM1.out.c0; have d1 := HM1.out.c1; have d2 := HM1.out.f0; have d3 := HM1.out.f1
  obtain ⟨u0, u1⟩ : _ ∧ _ := ⟨(HM1.out.put q s).c0, (HM1.out.put q s).c1⟩
  clear hb
  go_wp2_with fail
  refine bodyPost_ret (v := .tuple #[.agg #[.pointer q, .int .i64 s], .int .i64 e2]) (by simp [results, Try.results13, go_sem, u0, u1]) rfl ?_
  refine ⟨q, s, e2, rfl, ?_, below_put HB1.out (B := W.heap.size) (Nat.le_refl _) (.pointer q) (.int .i64 s)⟩
  rcases HQ.out with ⟨h1, h2, h3⟩ | h
  · exact .inl ⟨h1, h2, h3.lo, h3.ctx, HM1.out.tr h3.tr _ _⟩
  · exact .inr h
end Go.Proofs.Ytahgfggcpmnnaaa
