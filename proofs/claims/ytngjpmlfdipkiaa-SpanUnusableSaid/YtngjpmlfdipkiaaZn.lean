/- The law SpanUnusable: its walk. -/
import Derived.Test.YtngjpmlfdipkiaaZk
import Derived.Test.YtngjpmlfdipkiaaZm
import Derived.Test.YtngjpmlfdipkiaaYy
namespace Go.Proofs.Ytngjpmlfdipkiaa
open Go Go.RowKit Gs

set_option maxRecDepth 100000 in
set_option maxHeartbeats 4000000 in
theorem spanUnusable_walk (qa ql qh qm qt qk : Int) (a : Option Addr) (n c : Nat) (W : World) :
    Calls Try.prog 9 #[.agg #[.int .i64 qa, .int .i64 ql, .int .i64 qh, .int .i64 qm, .int .i64 qt, .int .i64 qk], .slice a n c] W fun e w' => e = .returned (.bool true) ∧ Below W.heap.size W w' := by
  obtain ⟨wq, HWQ⟩ : ∃ w0, w0 = W.alloc (.cells #[.int .i64 qa, .int .i64 ql, .int .i64 qh, .int .i64 qm, .int .i64 qt, .int .i64 qk] 45) := ⟨_, rfl⟩
  have eq0 : wq.heap.size = W.heap.size + 1 := by rw [HWQ]; simp
  have c0 : wq.cell? ⟨W.heap.size, 0, none⟩ = some (.int .i64 qa) := by rw [HWQ]; exact World.cell?_alloc_at _ _ _ _ rfl
  have c1 : wq.cell? ⟨W.heap.size, 1, none⟩ = some (.int .i64 ql) := by rw [HWQ]; exact World.cell?_alloc_at _ _ _ _ rfl
  have c2 : wq.cell? ⟨W.heap.size, 2, none⟩ = some (.int .i64 qh) := by rw [HWQ]; exact World.cell?_alloc_at _ _ _ _ rfl
  have c3 : wq.cell? ⟨W.heap.size, 3, none⟩ = some (.int .i64 qm) := by rw [HWQ]; exact World.cell?_alloc_at _ _ _ _ rfl
  have c4 : wq.cell? ⟨W.heap.size, 4, none⟩ = some (.int .i64 qt) := by rw [HWQ]; exact World.cell?_alloc_at _ _ _ _ rfl
  have c5 : wq.cell? ⟨W.heap.size, 5, none⟩ = some (.int .i64 qk) := by rw [HWQ]; exact World.cell?_alloc_at _ _ _ _ rfl
  have bq : Below W.heap.size W wq := by rw [HWQ]; exact (Below.refl _ _).alloc (Nat.le_refl _) _
  obtain ⟨w0, HW⟩ : ∃ w0, w0 = wq.alloc (.cells #[.pointer none, .int .i64 0] 27) := ⟨_, rfl⟩
  have b0 : Below wq.heap.size wq w0 := by rw [HW]; exact (Below.refl _ _).alloc (Nat.le_refl _) _
  have mn : Mb wq.heap.size none 0 w0 := by rw [HW]; exact Mb.new _ _ _ _
  rw [eq0] at mn
  have hlt : W.heap.size < wq.heap.size := by omega
  have HQ : Hid (∀ W', Below w0.heap.size w0 W' → (W'.cell? ⟨W.heap.size, 0, none⟩ = some (.int .i64 qa) ∧ W'.cell? ⟨W.heap.size, 1, none⟩ = some (.int .i64 ql) ∧ W'.cell? ⟨W.heap.size, 2, none⟩ = some (.int .i64 qh) ∧ W'.cell? ⟨W.heap.size, 3, none⟩ = some (.int .i64 qm) ∧ W'.cell? ⟨W.heap.size, 4, none⟩ = some (.int .i64 qt) ∧ W'.cell? ⟨W.heap.size, 5, none⟩ = some (.int .i64 qk))) := fun W' h =>
    have h' := b0.trans (h.mono b0.size)
    ⟨(h'.cell (p := ⟨W.heap.size, 0, none⟩) hlt).trans c0, (h'.cell (p := ⟨W.heap.size, 1, none⟩) hlt).trans c1, (h'.cell (p := ⟨W.heap.size, 2, none⟩) hlt).trans c2, (h'.cell (p := ⟨W.heap.size, 3, none⟩) hlt).trans c3, (h'.cell (p := ⟨W.heap.size, 4, none⟩) hlt).trans c4, (h'.cell (p := ⟨W.heap.size, 5, none⟩) hlt).trans c5⟩
  have HB0 := Lib.hid (bq.trans (b0.mono bq.size))
  have HMN := Lib.hid mn
  have HN := Lib.hid (New_any 1 w0)
  rw [HWQ] at HW
  have HW' := Lib.hid HW
  clear c0 c1 c2 c3 c4 c5 bq b0 mn hlt eq0 HW HWQ
  go_enter Try.func9, Try.ntmps9
  go_wp2_with fail
  rw [← HW'.out]
  refine HN.out.mono ?_
  rintro e w1 ⟨q, s, e2, rfl, HQN, hb⟩
  have HB1 := Lib.hid hb
  clear hb
  rcases HQN.out with ⟨rfl, rfl, hq⟩ | ⟨_, _, _, h⟩
  rotate_left
  · omega
  obtain ⟨b, rfl⟩ := hq.some
  clear hq
  obtain ⟨w2, HW2⟩ : ∃ w2, w2 = w1.alloc (.cells #[.pointer (some ⟨b, 0, none⟩), .int .i64 1] 27) := ⟨_, rfl⟩
  have b2 : Below w1.heap.size w1 w2 := by rw [HW2]; exact (Below.refl _ _).alloc (Nat.le_refl _) _
  have m2 : Mb w1.heap.size (some ⟨b, 0, none⟩) 1 w2 := by rw [HW2]; exact Mb.new _ _ _ _
  have HB2 := Lib.hid (HB1.out.trans (b2.mono HB1.out.size))
  have HM2 := Lib.hid m2
  have HALL : Hid (∀ W', Below w2.heap.size w2 W' → (W'.cell? ⟨W.heap.size, 0, none⟩ = some (.int .i64 qa) ∧ W'.cell? ⟨W.heap.size, 1, none⟩ = some (.int .i64 ql) ∧ W'.cell? ⟨W.heap.size, 2, none⟩ = some (.int .i64 qh) ∧ W'.cell? ⟨W.heap.size, 3, none⟩ = some (.int .i64 qm) ∧ W'.cell? ⟨W.heap.size, 4, none⟩ = some (.int .i64 qt) ∧ W'.cell? ⟨W.heap.size, 5, none⟩ = some (.int .i64 qk)) ∧ (W'.cell? ⟨W.heap.size + 1, 0, none⟩ = some (.pointer none) ∧ W'.cell? ⟨W.heap.size + 1, 1, none⟩ = some (.int .i64 0)) ∧ (W'.cell? ⟨w1.heap.size, 0, none⟩ = some (.pointer (some ⟨b, 0, none⟩)) ∧ W'.cell? ⟨w1.heap.size, 1, none⟩ = some (.int .i64 1))) := fun W' h =>
    have h' := HB2.out.trans (h.mono HB2.out.size)
    ⟨HQ.out W' h', ⟨(HMN.out.next h').c0, (HMN.out.next h').c1⟩, ⟨(HM2.out.next h).c0, (HM2.out.next h).c1⟩⟩
  have HBW : Hid (∀ W', Below w2.heap.size w2 W' → Below W.heap.size W W') := fun W' h => HB0.out.trans ((HB2.out.trans (h.mono HB2.out.size)).mono HB0.out.size)
  have HG1 : Hid (∀ W', Below w2.heap.size w2 W' → Calls Try.prog 18 #[.agg #[.pointer none, .int .i64 0], .int .i64 qa] W' fun e w' => e = .returned (.tuple #[.int .i64 0, .int .i64 1]) ∧ Below w2.heap.size w2 w') := fun W' h => (Get_un 0 qa W').mono fun e w' ⟨he, hB⟩ => ⟨he, h.trans (hB.mono h.size)⟩
  have HG2 : Hid (∀ W', Below w2.heap.size w2 W' → Calls Try.prog 38 #[.agg #[.pointer none, .int .i64 0], .int .i64 ql, .int .i64 qh, .int .i64 qt] W' fun e w' => e = .returned (.tuple #[.agg #[.pointer none, .int .i64 0], .int .i64 1]) ∧ Below w2.heap.size w2 w') := fun W' h => (Set_un 0 ql qh qt W').mono fun e w' ⟨he, hB⟩ => ⟨he, h.trans (hB.mono h.size)⟩
  have HG3 : Hid (∀ W', Below w2.heap.size w2 W' → Calls Try.prog 39 #[.agg #[.pointer none, .int .i64 0], .int .i64 ql, .int .i64 qh, .int .i64 qt, .int .i64 qk] W' fun e w' => e = .returned (.tuple #[.agg #[.pointer none, .int .i64 0], .int .i64 0, .int .i64 1]) ∧ Below w2.heap.size w2 w') := fun W' h => (Swap_un 0 ql qh qt qk W').mono fun e w' ⟨he, hB⟩ => ⟨he, h.trans (hB.mono h.size)⟩
  have HG4 : Hid (∀ W', Below w2.heap.size w2 W' → Calls Try.prog 20 #[.agg #[.pointer none, .int .i64 0], .int .i64 ql, .int .i64 qh, .int .i64 qm] W' fun e w' => e = .returned (.tuple #[.slice none 0 0, .int .i64 1]) ∧ Below w2.heap.size w2 w') := fun W' h => (Runs_un 0 ql qh qm W').mono fun e w' ⟨he, hB⟩ => ⟨he, h.trans (hB.mono h.size)⟩
  have HG5 : Hid (∀ W', Below w2.heap.size w2 W' → Calls Try.prog 22 #[.agg #[.pointer none, .int .i64 0], .int .i64 ql, .int .i64 qh, .int .i64 qt] W' fun e w' => e = .returned (.tuple #[.int .i64 0, .int .i64 1]) ∧ Below w2.heap.size w2 w') := fun W' h => (Count_un 0 ql qh qt W').mono fun e w' ⟨he, hB⟩ => ⟨he, h.trans (hB.mono h.size)⟩
  have HG6 : Hid (∀ W', Below w2.heap.size w2 W' → Calls Try.prog 29 #[.agg #[.pointer none, .int .i64 0], .agg #[.pointer (some ⟨b, 0, none⟩), .int .i64 1]] W' fun e w' => e = .returned (.tuple #[.slice none 0 0, .int .i64 1]) ∧ Below w2.heap.size w2 w') := fun W' h => (Diff_un (none, 0) (some b, 1) W' (.inl rfl)).mono fun e w' ⟨he, hB⟩ => ⟨he, h.trans (hB.mono h.size)⟩
  have HG7 : Hid (∀ W', Below w2.heap.size w2 W' → Calls Try.prog 29 #[.agg #[.pointer (some ⟨b, 0, none⟩), .int .i64 1], .agg #[.pointer none, .int .i64 0]] W' fun e w' => e = .returned (.tuple #[.slice none 0 0, .int .i64 1]) ∧ Below w2.heap.size w2 w') := fun W' h => (Diff_un (some b, 1) (none, 0) W' (.inr rfl)).mono fun e w' ⟨he, hB⟩ => ⟨he, h.trans (hB.mono h.size)⟩
  have HG8 : Hid (∀ W', Below w2.heap.size w2 W' → Calls Try.prog 34 #[.agg #[.pointer none, .int .i64 0], .slice a n c] W' fun e w' => e = .returned (.tuple #[.agg #[.pointer none, .int .i64 0], .int .i64 1]) ∧ Below w2.heap.size w2 w') := fun W' h => (Apply_un 0 a n c W').mono fun e w' ⟨he, hB⟩ => ⟨he, h.trans (hB.mono h.size)⟩
  have HG9 : Hid (∀ W', Below w2.heap.size w2 W' → Calls Try.prog 36 #[.agg #[.pointer none, .int .i64 0], .agg #[.pointer (some ⟨b, 0, none⟩), .int .i64 1], .agg #[.pointer (some ⟨b, 0, none⟩), .int .i64 1]] W' fun e w' => e = .returned (.tuple #[.agg #[.pointer none, .int .i64 0], .slice none 0 0, .int .i64 1]) ∧ Below w2.heap.size w2 w') := fun W' h => (Merge_un (none, 0) (some b, 1) (some b, 1) W' (.inl rfl)).mono fun e w' ⟨he, hB⟩ => ⟨he, h.trans (hB.mono h.size)⟩
  have HG10 : Hid (∀ W', Below w2.heap.size w2 W' → Calls Try.prog 36 #[.agg #[.pointer (some ⟨b, 0, none⟩), .int .i64 1], .agg #[.pointer none, .int .i64 0], .agg #[.pointer (some ⟨b, 0, none⟩), .int .i64 1]] W' fun e w' => e = .returned (.tuple #[.agg #[.pointer none, .int .i64 0], .slice none 0 0, .int .i64 1]) ∧ Below w2.heap.size w2 w') := fun W' h => (Merge_un (some b, 1) (none, 0) (some b, 1) W' (.inr (.inl rfl))).mono fun e w' ⟨he, hB⟩ => ⟨he, h.trans (hB.mono h.size)⟩
  have HG11 : Hid (∀ W', Below w2.heap.size w2 W' → Calls Try.prog 36 #[.agg #[.pointer (some ⟨b, 0, none⟩), .int .i64 1], .agg #[.pointer (some ⟨b, 0, none⟩), .int .i64 1], .agg #[.pointer none, .int .i64 0]] W' fun e w' => e = .returned (.tuple #[.agg #[.pointer none, .int .i64 0], .slice none 0 0, .int .i64 1]) ∧ Below w2.heap.size w2 w') := fun W' h => (Merge_un (some b, 1) (some b, 1) (none, 0) W' (.inr (.inr rfl))).mono fun e w' ⟨he, hB⟩ => ⟨he, h.trans (hB.mono h.size)⟩
  have HG12 : Hid (∀ W', Below w2.heap.size w2 W' → Calls Try.prog 24 #[.agg #[.pointer none, .int .i64 0], .int .i64 qt, .int .i64 qk] W' fun e w' => e = .returned (.tuple #[.int .i64 0, .bool false]) ∧ Below w2.heap.size w2 w') := fun W' h => (Find_un 0 qt qk W').mono fun e w' ⟨he, hB⟩ => ⟨he, h.trans (hB.mono h.size)⟩
  have HL1 : Hid (∀ W', Below w2.heap.size w2 W' → Calls Try.prog 40 #[.agg #[.pointer none, .int .i64 0]] W' fun e w' => e = .returned (.int .i64 0) ∧ Below w2.heap.size w2 w') := fun W' h => (Size_any none 0 W').mono fun e w' ⟨he, hB⟩ => ⟨he, h.trans (hB.mono h.size)⟩
  have HL2 : Hid (∀ W', Below w2.heap.size w2 W' → Calls Try.prog 41 #[.agg #[.pointer none, .int .i64 0]] W' fun e w' => e = .returned (.int .i64 0) ∧ Below w2.heap.size w2 w') := fun W' h => (Len_un 0 W').mono fun e w' ⟨he, hB⟩ => ⟨he, h.trans (hB.mono h.size)⟩
  have HL3 : Hid (∀ W', Below w2.heap.size w2 W' → Calls Try.prog 32 #[.agg #[.pointer none, .int .i64 0], .agg #[.pointer none, .int .i64 0]] W' fun e w' => e = .returned (.bool true) ∧ Below w2.heap.size w2 w') := fun W' h => (Equal_un none 0 W').mono fun e w' ⟨he, hB⟩ => ⟨he, h.trans (hB.mono h.size)⟩
  have HL4 : Hid (∀ W', Below w2.heap.size w2 W' → Calls Try.prog 32 #[.agg #[.pointer none, .int .i64 0], .agg #[.pointer (some ⟨b, 0, none⟩), .int .i64 1]] W' fun e w' => e = .returned (.bool false) ∧ Below w2.heap.size w2 w') := fun W' h => (Equal_ne none (some ⟨b, 0, none⟩) 0 1 W' (by decide)).mono fun e w' ⟨he, hB⟩ => ⟨he, h.trans (hB.mono h.size)⟩
  have HL5 : Hid (∀ W', Below w2.heap.size w2 W' → Calls Try.prog 32 #[.agg #[.pointer (some ⟨b, 0, none⟩), .int .i64 1], .agg #[.pointer none, .int .i64 0]] W' fun e w' => e = .returned (.bool false) ∧ Below w2.heap.size w2 w') := fun W' h => (Equal_ne (some ⟨b, 0, none⟩) none 1 0 W' (by decide)).mono fun e w' ⟨he, hB⟩ => ⟨he, h.trans (hB.mono h.size)⟩
  have HL6 : Hid (∀ W', Below w2.heap.size w2 W' → Calls Try.prog 12 #[] W' fun e w' => e = .returned (.bool true) ∧ Below w2.heap.size w2 w') := fun W' h => (awake_any W').mono fun e w' ⟨he, hB⟩ => ⟨he, h.trans (hB.mono h.size)⟩
  have HBw : Hid (Below w2.heap.size w2 w2) := Below.refl _ _
  have HW2' := Lib.hid HW2
  clear b2 m2 HW2
  obtain ⟨⟨k0, k1, k2, k3, k4, k5⟩, ⟨k6, k7⟩, ⟨k8, k9⟩⟩ := HALL.out w2 HBw.out
  go_upto_region 3 with fail
  rw [← HW2'.out]
  -- region 3
  go_wp2_with fail
  refine (HG1.out _ HBw.out).mono ?_
  rintro e x3 ⟨rfl, hb⟩
  have HBw := Lib.hid hb
  clear hb k0 k1 k2 k3 k4 k5 k6 k7 k8 k9
  obtain ⟨⟨k0, k1, k2, k3, k4, k5⟩, ⟨k6, k7⟩, ⟨k8, k9⟩⟩ := HALL.out x3 HBw.out
  -- region 4
  go_wp2_with fail
  refine (HG2.out _ HBw.out).mono ?_
  rintro e x4 ⟨rfl, hb⟩
  have HBw := Lib.hid hb
  clear hb k0 k1 k2 k3 k4 k5 k6 k7 k8 k9
  obtain ⟨y4, HY⟩ : ∃ y, y = x4.alloc (.cells #[.pointer none, .int .i64 0] 27) := ⟨_, rfl⟩
  have HBw : Hid (Below w2.heap.size w2 y4) := by rw [HY]; exact HBw.out.alloc HBw.out.size _
  have HYH := Lib.hid HY
  clear HY
  go_upto_region 5 with fail
  rw [← HYH.out]
  obtain ⟨⟨k0, k1, k2, k3, k4, k5⟩, ⟨k6, k7⟩, ⟨k8, k9⟩⟩ := HALL.out y4 HBw.out
  -- region 5
  go_wp2_with fail
  refine (HG3.out _ HBw.out).mono ?_
  rintro e x5 ⟨rfl, hb⟩
  have HBw := Lib.hid hb
  clear hb k0 k1 k2 k3 k4 k5 k6 k7 k8 k9
  obtain ⟨y5, HY⟩ : ∃ y, y = x5.alloc (.cells #[.pointer none, .int .i64 0] 27) := ⟨_, rfl⟩
  have HBw : Hid (Below w2.heap.size w2 y5) := by rw [HY]; exact HBw.out.alloc HBw.out.size _
  have HYH := Lib.hid HY
  clear HY
  go_upto_region 6 with fail
  rw [← HYH.out]
  obtain ⟨⟨k0, k1, k2, k3, k4, k5⟩, ⟨k6, k7⟩, ⟨k8, k9⟩⟩ := HALL.out y5 HBw.out
  -- region 6
  go_wp2_with fail
  refine (HG4.out _ HBw.out).mono ?_
  rintro e x6 ⟨rfl, hb⟩
  have HBw := Lib.hid hb
  clear hb k0 k1 k2 k3 k4 k5 k6 k7 k8 k9
  obtain ⟨⟨k0, k1, k2, k3, k4, k5⟩, ⟨k6, k7⟩, ⟨k8, k9⟩⟩ := HALL.out x6 HBw.out
  -- region 7
  go_wp2_with fail
  refine (HG5.out _ HBw.out).mono ?_
  rintro e x7 ⟨rfl, hb⟩
  have HBw := Lib.hid hb
  clear hb k0 k1 k2 k3 k4 k5 k6 k7 k8 k9
  obtain ⟨⟨k0, k1, k2, k3, k4, k5⟩, ⟨k6, k7⟩, ⟨k8, k9⟩⟩ := HALL.out x7 HBw.out
  -- region 8
  go_wp2_with fail
  refine (HG6.out _ HBw.out).mono ?_
  rintro e x8 ⟨rfl, hb⟩
  have HBw := Lib.hid hb
  clear hb k0 k1 k2 k3 k4 k5 k6 k7 k8 k9
  obtain ⟨⟨k0, k1, k2, k3, k4, k5⟩, ⟨k6, k7⟩, ⟨k8, k9⟩⟩ := HALL.out x8 HBw.out
  -- region 9
  go_wp2_with fail
  refine (HG7.out _ HBw.out).mono ?_
  rintro e x9 ⟨rfl, hb⟩
  have HBw := Lib.hid hb
  clear hb k0 k1 k2 k3 k4 k5 k6 k7 k8 k9
  obtain ⟨⟨k0, k1, k2, k3, k4, k5⟩, ⟨k6, k7⟩, ⟨k8, k9⟩⟩ := HALL.out x9 HBw.out
  -- region 10
  go_wp2_with fail
  refine (HG8.out _ HBw.out).mono ?_
  rintro e x10 ⟨rfl, hb⟩
  have HBw := Lib.hid hb
  clear hb k0 k1 k2 k3 k4 k5 k6 k7 k8 k9
  obtain ⟨y10, HY⟩ : ∃ y, y = x10.alloc (.cells #[.pointer none, .int .i64 0] 27) := ⟨_, rfl⟩
  have HBw : Hid (Below w2.heap.size w2 y10) := by rw [HY]; exact HBw.out.alloc HBw.out.size _
  have HYH := Lib.hid HY
  clear HY
  go_upto_region 11 with fail
  rw [← HYH.out]
  obtain ⟨⟨k0, k1, k2, k3, k4, k5⟩, ⟨k6, k7⟩, ⟨k8, k9⟩⟩ := HALL.out y10 HBw.out
  -- region 11
  go_wp2_with fail
  refine (HG9.out _ HBw.out).mono ?_
  rintro e x11 ⟨rfl, hb⟩
  have HBw := Lib.hid hb
  clear hb k0 k1 k2 k3 k4 k5 k6 k7 k8 k9
  obtain ⟨y11, HY⟩ : ∃ y, y = x11.alloc (.cells #[.pointer none, .int .i64 0] 27) := ⟨_, rfl⟩
  have HBw : Hid (Below w2.heap.size w2 y11) := by rw [HY]; exact HBw.out.alloc HBw.out.size _
  have HYH := Lib.hid HY
  clear HY
  go_upto_region 12 with fail
  rw [← HYH.out]
  obtain ⟨⟨k0, k1, k2, k3, k4, k5⟩, ⟨k6, k7⟩, ⟨k8, k9⟩⟩ := HALL.out y11 HBw.out
  -- region 12
  go_wp2_with fail
  refine (HG10.out _ HBw.out).mono ?_
  rintro e x12 ⟨rfl, hb⟩
  have HBw := Lib.hid hb
  clear hb k0 k1 k2 k3 k4 k5 k6 k7 k8 k9
  obtain ⟨y12, HY⟩ : ∃ y, y = x12.alloc (.cells #[.pointer none, .int .i64 0] 27) := ⟨_, rfl⟩
  have HBw : Hid (Below w2.heap.size w2 y12) := by rw [HY]; exact HBw.out.alloc HBw.out.size _
  have HYH := Lib.hid HY
  clear HY
  go_upto_region 13 with fail
  rw [← HYH.out]
  obtain ⟨⟨k0, k1, k2, k3, k4, k5⟩, ⟨k6, k7⟩, ⟨k8, k9⟩⟩ := HALL.out y12 HBw.out
  -- region 13
  go_wp2_with fail
  refine (HG11.out _ HBw.out).mono ?_
  rintro e x13 ⟨rfl, hb⟩
  have HBw := Lib.hid hb
  clear hb k0 k1 k2 k3 k4 k5 k6 k7 k8 k9
  obtain ⟨y13, HY⟩ : ∃ y, y = x13.alloc (.cells #[.pointer none, .int .i64 0] 27) := ⟨_, rfl⟩
  have HBw : Hid (Below w2.heap.size w2 y13) := by rw [HY]; exact HBw.out.alloc HBw.out.size _
  have HYH := Lib.hid HY
  clear HY
  go_upto_region 14 with fail
  rw [← HYH.out]
  obtain ⟨⟨k0, k1, k2, k3, k4, k5⟩, ⟨k6, k7⟩, ⟨k8, k9⟩⟩ := HALL.out y13 HBw.out
  -- region 14
  go_wp2_with fail
  refine (HG12.out _ HBw.out).mono ?_
  rintro e x14 ⟨rfl, hb⟩
  have HBw := Lib.hid hb
  clear hb k0 k1 k2 k3 k4 k5 k6 k7 k8 k9
  obtain ⟨⟨k0, k1, k2, k3, k4, k5⟩, ⟨k6, k7⟩, ⟨k8, k9⟩⟩ := HALL.out x14 HBw.out
  -- the list of the errors
  obtain ⟨z, HZ⟩ : ∃ z, z = x14.alloc (.cells #[.int .i64 1, .int .i64 1, .int .i64 1, .int .i64 1, .int .i64 1, .int .i64 1, .int .i64 1, .int .i64 1, .int .i64 1, .int .i64 1, .int .i64 1] 28) := ⟨_, rfl⟩
  have HBz : Hid (Below w2.heap.size w2 z) := by rw [HZ]; exact HBw.out.alloc HBw.out.size _
  have HCZ : Hid (∀ j : Nat, j < 11 → z.cell? ⟨x14.heap.size, j, none⟩ = some (.int .i64 1)) := fun j hj => by
    have : j = 0 ∨ j = 1 ∨ j = 2 ∨ j = 3 ∨ j = 4 ∨ j = 5 ∨ j = 6 ∨ j = 7 ∨ j = 8 ∨ j = 9 ∨ j = 10 := by omega
    rw [HZ]
    rcases this with rfl | rfl | rfl | rfl | rfl | rfl | rfl | rfl | rfl | rfl | rfl <;> exact World.cell?_alloc_at _ _ _ _ rfl
  have HZH := Lib.hid HZ
  clear k0 k1 k2 k3 k4 k5 k6 k7 k8 k9 HZ
  go_upto_region 16 with fail
  rw [← HZH.out]
  go_wp2_with fail
  go_loopw [162] (fun i wr => ∃ j : Nat, j ≤ 11 ∧ i = .int .i64 j ∧ z = wr) (fun i _ => 11 - (intOf i).toNat)
  case atStart => exact ⟨0, by omega, rfl, rfl⟩
  case round =>
    obtain ⟨j, hj, rfl, rfl⟩ := hrel
    by_cases hlt : j < 11
    · have hlt2 : (j : Int) < 11 := by omega
      have hcell := HCZ.out j hlt
      go_wp2_with fail
      go_roundw
      case rel => exact ⟨j + 1, by omega, by go_num, by first | rfl | trivial⟩
      case measure => simp [intOf]; omega
    · have hlt2 : ¬ (j : Int) < 11 := by omega
      obtain ⟨⟨k0, k1, k2, k3, k4, k5⟩, ⟨k6, k7⟩, ⟨k8, k9⟩⟩ := HALL.out z HBz.out
      have HBw := HBz
      go_wp2_with fail
      refine (HL1.out _ HBw.out).mono ?_
      rintro e u0 ⟨rfl, hb⟩
      have HBw := Lib.hid hb
      clear hb k0 k1 k2 k3 k4 k5 k6 k7 k8 k9
      obtain ⟨⟨k0, k1, k2, k3, k4, k5⟩, ⟨k6, k7⟩, ⟨k8, k9⟩⟩ := HALL.out u0 HBw.out
      go_wp2_with fail
      refine (HL2.out _ HBw.out).mono ?_
      rintro e u1 ⟨rfl, hb⟩
      have HBw := Lib.hid hb
      clear hb k0 k1 k2 k3 k4 k5 k6 k7 k8 k9
      obtain ⟨⟨k0, k1, k2, k3, k4, k5⟩, ⟨k6, k7⟩, ⟨k8, k9⟩⟩ := HALL.out u1 HBw.out
      go_wp2_with fail
      refine (HL3.out _ HBw.out).mono ?_
      rintro e u2 ⟨rfl, hb⟩
      have HBw := Lib.hid hb
      clear hb k0 k1 k2 k3 k4 k5 k6 k7 k8 k9
      obtain ⟨⟨k0, k1, k2, k3, k4, k5⟩, ⟨k6, k7⟩, ⟨k8, k9⟩⟩ := HALL.out u2 HBw.out
      go_wp2_with fail
      refine (HL4.out _ HBw.out).mono ?_
      rintro e u3 ⟨rfl, hb⟩
      have HBw := Lib.hid hb
      clear hb k0 k1 k2 k3 k4 k5 k6 k7 k8 k9
      obtain ⟨⟨k0, k1, k2, k3, k4, k5⟩, ⟨k6, k7⟩, ⟨k8, k9⟩⟩ := HALL.out u3 HBw.out
      go_wp2_with fail
      refine (HL5.out _ HBw.out).mono ?_
      rintro e u4 ⟨rfl, hb⟩
      have HBw := Lib.hid hb
      clear hb k0 k1 k2 k3 k4 k5 k6 k7 k8 k9
      obtain ⟨⟨k0, k1, k2, k3, k4, k5⟩, ⟨k6, k7⟩, ⟨k8, k9⟩⟩ := HALL.out u4 HBw.out
      go_wp2_with fail
      refine (HL6.out _ HBw.out).mono ?_
      rintro e u5 ⟨rfl, hb⟩
      have HBw := Lib.hid hb
      clear hb k0 k1 k2 k3 k4 k5 k6 k7 k8 k9
      obtain ⟨⟨k0, k1, k2, k3, k4, k5⟩, ⟨k6, k7⟩, ⟨k8, k9⟩⟩ := HALL.out u5 HBw.out
      go_wp2_with fail
      go_ret
      exact ⟨rfl, HBW.out _ HBw.out⟩
end Go.Proofs.Ytngjpmlfdipkiaa
