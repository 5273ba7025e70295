/- The contract of built; what a law's walk knows of its map and query. -/
import Derived.Test.YtngjpmlfdipkiabZd
namespace Go.Proofs.Ytngjpmlfdipkiab
open Go Go.RowKit Gs

set_option maxHeartbeats 1000000 in
theorem built_any {size : Int} {W : World} {v : Value} {l : List Act} (hl : IsAs W v l) :
    Calls Try.prog 10 #[.int .i64 size, v] W fun e w' => ∃ q s ok, e = .returned (.tuple #[.agg #[.pointer q, .int .i64 s], .bool ok]) ∧ Hid (ok = true → l.length ≤ 60 ∧ s = size ∧ ∃ f, IsM f size w' q ∧ Mo size (fun _ => 0) l f) ∧ Hid (ok = false → l.length ≤ 60 → size < 1 ∨ 1099511627776 < size) ∧ Below W.heap.size W w' := by
  have hl0 := hl
  obtain ⟨ao, c, rfl, hcs⟩ := hl
  obtain ⟨w0, HW⟩ : ∃ w0, w0 = W.alloc (.cells #[.pointer none, .int .i64 0] 27) := ⟨_, rfl⟩
  have hm : Mb W.heap.size none 0 w0 := by rw [HW]; exact Mb.new _ _ _ _
  have hb0 : Below W.heap.size W w0 := by rw [HW]; exact (Below.refl _ _).alloc (Nat.le_refl _) _
  have HN := Lib.hid (New_any size w0)
  have HL := Lib.hid hl0
  have HM := Lib.hid hm; have HB := Lib.hid hb0; have HW' := Lib.hid HW
  clear hl0 hcs hm hb0 HW
  obtain ⟨n, hnn⟩ : ∃ n, n = l.length := ⟨_, rfl⟩
  have HLN := Lib.hid hnn
  rw [← hnn] at HL ⊢
  clear hnn
  go_enter Try.func10, Try.ntmps10
  go_wp2_with fail
  rw [← HW'.out]
  refine HN.out.mono ?_
  rintro e w1 ⟨q, s, e2, rfl, HQ, hb⟩
  have HM1 := Lib.hid (HM.out.next hb)
  have HB1 := Lib.hid (HB.out.trans (hb.mono HB.out.size))
  clear hb
  obtain ⟨w2, HW2⟩ : ∃ w2, w2 = w1.alloc (.cells #[.pointer q, .int .i64 s] 27) := ⟨_, rfl⟩
  have hm2 : Mb w1.heap.size q s w2 := by rw [HW2]; exact Mb.new _ _ _ _
  have hb2 : Below w1.heap.size w1 w2 := by rw [HW2]; exact (Below.refl _ _).alloc (Nat.le_refl _) _
  have HM2 := Lib.hid (HM1.out.next hb2)
  have HN2 := Lib.hid hm2
  have HB2 := Lib.hid (HB1.out.trans (hb2.mono HB1.out.size))
  have HW2' := Lib.hid HW2
  have d0 := HM2.out.c0; have d1 := HM2.out.c1; have d2 := HM2.out.f0; have d3 := HM2.out.f1
  have k0 := HN2.out.c0; have k1 := HN2.out.c1
  rcases HQ.out with ⟨rfl, rfl, hq⟩ | ⟨rfl, rfl, rfl, hbad⟩
  · have HI2 := Lib.hid (hq.below hb2)
    clear hq hm2 hb2 HW2
    by_cases hf : n ≤ 60
    · have HFW : Hid (∀ W', Calls Try.prog 22 #[.slice ao n c] W' fun e w' => e = .returned (.bool true) ∧ W' = w') := fun W' => by
        have := few_any ao n c W'
        rwa [decide_eq_true hf] at this
      have HMO : Hid (Calls Try.prog 23 #[.agg #[.pointer q, .int .i64 s], .slice ao n c] w2 fun e w' => ∃ q f', e = .returned (.agg #[.pointer q, .int .i64 s]) ∧ Hid (IsM f' s w' q) ∧ Hid (Mo s (fun _ => 0) l f') ∧ Below w2.heap.size w2 w') := by
        have h1 := HL.out.below HB2.out
        have h2 := HLN.out
        exact more_any HI2.out h1 (by omega)
      go_upto_region 2 with fail
      rw [← HW2'.out]
      go_wp2_with fail
      refine (HFW.out _).mono ?_
      rintro e w3 ⟨rfl, rfl⟩
      go_wp2_with fail
      refine HMO.out.mono ?_
      rintro e w4 ⟨q2, f', rfl, HI4, HMf, hb⟩
      have HM4 := Lib.hid (HM2.out.next hb)
      have HB4 := Lib.hid (HB2.out.trans (hb.mono HB2.out.size))
      clear hb d0 d1 d2 d3 k0 k1
      have d0 := HM4.out.c0; have d1 := HM4.out.c1; have d2 := HM4.out.f0; have d3 := HM4.out.f1
      obtain ⟨u0, u1⟩ : _ ∧ _ := ⟨(HM4.out.put q2 s).c0, (HM4.out.put q2 s).c1⟩
      go_wp2_with fail
      refine bodyPost_ret (v := .tuple #[.agg #[.pointer q2, .int .i64 s], .bool true]) (by simp [results, Try.results10, go_sem, u0, u1]) rfl ?_
      have HI9 : Hid (IsM f' s ((w4.setCell ⟨W.heap.size, 0, none⟩ (.pointer q2)).setCell ⟨W.heap.size, 1, none⟩ (.int .i64 s)) q2) := ⟨HI4.out.lo, HI4.out.ctx, HM4.out.tr HI4.out.tr _ _⟩
      exact ⟨q2, s, true, rfl, fun _ => ⟨hf, rfl, f', HI9, HMf⟩, (fun h => by cases h), below_put HB4.out (B := W.heap.size) (Nat.le_refl _) (.pointer q2) (.int .i64 s)⟩
    · have HFW : Hid (∀ W', Calls Try.prog 22 #[.slice ao n c] W' fun e w' => e = .returned (.bool false) ∧ W' = w') := fun W' => by
        have := few_any ao n c W'
        rwa [decide_eq_false hf] at this
      obtain ⟨u0, u1⟩ : _ ∧ _ := ⟨(HM2.out.put q s).c0, (HM2.out.put q s).c1⟩
      go_upto_region 2 with fail
      rw [← HW2'.out]
      go_wp2_with fail
      refine (HFW.out _).mono ?_
      rintro e w3 ⟨rfl, rfl⟩
      go_wp2_with fail
      refine bodyPost_ret (v := .tuple #[.agg #[.pointer q, .int .i64 s], .bool false]) (by simp [results, Try.results10, go_sem, u0, u1]) rfl ?_
      exact ⟨q, s, false, rfl, (fun h => by cases h), fun _ h => absurd h hf, below_put HB2.out (B := W.heap.size) (Nat.le_refl _) (.pointer q) (.int .i64 s)⟩
  · have HBAD := Lib.hid hbad
    obtain ⟨u0, u1⟩ : _ ∧ _ := ⟨(HM2.out.put none 0).c0, (HM2.out.put none 0).c1⟩
    clear hbad hm2 hb2 HW2
    go_upto_region 2 with fail
    rw [← HW2'.out]
    go_wp2_with fail
    refine bodyPost_ret (v := .tuple #[.agg #[.pointer none, .int .i64 0], .bool false]) (by simp [results, Try.results10, go_sem, u0, u1, d0, d1]) rfl ?_
    exact ⟨none, 0, false, rfl, (fun h => by cases h), fun _ _ => HBAD.out, by first | exact HB2.out | exact below_put HB2.out (B := W.heap.size) (Nat.le_refl _) (.pointer none) (.int .i64 0)⟩
end Go.Proofs.Ytngjpmlfdipkiab
