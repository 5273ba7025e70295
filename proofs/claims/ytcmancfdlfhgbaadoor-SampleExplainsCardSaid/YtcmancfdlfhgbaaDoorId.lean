/- Boxes of a natural number; the contract of times. -/
import Derived.Test.YtcmancfdlfhgbaaDoorIc
import Derived.Test.YtcmancfdlfhgbaaDoorLd
namespace Go.Proofs.YtcmancfdlfhgbaaDoor
open Go Go.RowKit Gu

/-- a box of one value -/
structure Nx (B : Nat) (v : Value) (W : World) : Prop where
  c0 : W.cell? ⟨B, 0, none⟩ = some v
  f0 : W.frozen? ⟨B, 0, none⟩ = false
  lt : B < W.heap.size
theorem Nx.next {B : Nat} {v : Value} {W W' : World} (h : Nx B v W) (hb : Below W.heap.size W W') : Nx B v W' :=
  ⟨(hb.cell (p := ⟨B, 0, none⟩) h.lt).trans h.c0, (hb.frozen (p := ⟨B, 0, none⟩) h.lt).trans h.f0, Nat.lt_of_lt_of_le h.lt hb.size⟩
theorem Nx.new (W : World) (v : Value) (T : TypeId) : Nx W.heap.size v (W.alloc (.cells #[v] T)) :=
  ⟨World.cell?_alloc_at _ _ _ _ rfl, World.frozen?_alloc_at _ _ _ _ rfl, by simp⟩
theorem alloc1_below (W : World) (o : Obj) : Below W.heap.size W (W.alloc o) := (Below.refl _ _).alloc (Nat.le_refl _) _
theorem fitN_of {n : Nat} (h : nd 2 n ≤ 16384) : fitN n = n := if_pos h
set_option maxHeartbeats 1000000 in
theorem times_any (v : Value) (a n : Nat) (w : World) (hv : D w v a) (hn : n ≤ 9223372036854775807) (hd : nd 4294967296 a ≤ 400000) (hf : nd 2 (a * n) ≤ 16384) :
    Calls Tryd.prog 39 #[.agg #[v], .int .i64 n] w fun e w' => ∃ r, e = .returned (.agg #[r]) ∧ D w' r (a * n) ∧ Below w.heap.size w w' := by
  obtain ⟨w0, HW⟩ : ∃ w0, w0 = (w.alloc (.cells #[v] 55)).alloc (.cells #[.slice none 0 0] 55) := ⟨_, rfl⟩
  have hb : Below w.heap.size w w0 := by rw [HW]; exact (alloc1_below _ _).alloc (by simp) _
  have n1 : Nx w.heap.size v w0 := by rw [HW]; exact (Nx.new w v _).next (alloc1_below _ _)
  have n2 : Nx (w.heap.size + 1) (.slice none 0 0) w0 := by
    have := Nx.new (w.alloc (.cells #[v] 55)) (.slice none 0 0) 55
    rw [World.size_alloc, ← HW] at this
    exact this
  have HNW := Lib.hid (New_any n w0 hn)
  have HD := Lib.hid (hv.below hb)
  have HF := Lib.hid (fitN_of hf)
  obtain ⟨ao, ac, rfl, -⟩ := hv.shape
  have H1 := Lib.hid n1; have H2 := Lib.hid n2; have HB := Lib.hid hb; have HW' := Lib.hid HW
  have hdn : nd 4294967296 n ≤ 400000 := Nat.le_trans ((nd_le (by decide)).2 (show n < 4294967296 ^ 2 by omega)) (by decide)
  clear hb n1 n2 HW hv hf
  go_enter Tryd.func39, Tryd.ntmps39
  go_upto_region 1 with fail
  rw [← HW'.out]
  go_wp2_with fail
  refine HNW.out.mono ?_
  rintro e w1 ⟨u, rfl, hu, hb⟩
  obtain ⟨w2, HW2⟩ : ∃ w2, w2 = w1.alloc (.cells #[u] 55) := ⟨_, rfl⟩
  have b2 : Below w1.heap.size w1 w2 := by rw [HW2]; exact alloc1_below _ _
  have b12 := hb.trans (b2.mono hb.size)
  have n3 : Nx w1.heap.size u w2 := by rw [HW2]; exact Nx.new w1 u _
  have HM := Lib.hid (NMul_any _ u a n w2 (HD.out.below b12) (hu.below b2) (by omega) (by omega))
  have H12 := Lib.hid (H1.out.next b12); have H22 := Lib.hid (H2.out.next b12); have H32 := Lib.hid n3
  have HB2 := Lib.hid (HB.out.trans (b12.mono HB.out.size))
  obtain ⟨bo, bc, rfl, -⟩ := hu.shape
  have HW2' := Lib.hid HW2
  clear hb b2 b12 n3 HW2 hu
  go_upto_region 2 with fail
  rw [← HW2'.out]
  have k1 := H12.out.c0; have k3 := H32.out.c0
  go_wp2_with fail
  refine HM.out.mono ?_
  rintro e w3 ⟨r, rfl, hr, hb⟩
  rw [HF.out] at hr
  obtain ⟨ro, rc, rfl, -⟩ := hr.shape
  obtain ⟨w4, HW4⟩ : ∃ w4, w4 = w3.alloc (.cells #[.slice ro (nd 4294967296 (a * n)) rc] 55) := ⟨_, rfl⟩
  have b4 : Below w3.heap.size w3 w4 := by rw [HW4]; exact alloc1_below _ _
  have b34 := hb.trans (b4.mono hb.size)
  have n4 : Nx w3.heap.size (.slice ro (nd 4294967296 (a * n)) rc) w4 := by rw [HW4]; exact Nx.new w3 _ _
  have H24 := Lib.hid (H22.out.next b34)
  have HB4 := Lib.hid (HB2.out.trans (b34.mono HB2.out.size))
  have HR4 := Lib.hid (hr.below b4)
  have H44 := Lib.hid n4
  have HW4' := Lib.hid HW4
  clear hb b4 b34 n4 HW4 hr k1 k3
  go_upto_region 3 with fail
  rw [← HW4'.out]
  have k1 := H24.out.c0; have k2 := H24.out.f0; have k3 := H44.out.c0
  have k4 := World.cell?_setCell_same w4 ⟨w.heap.size + 1, 0, none⟩ (.slice ro (nd 4294967296 (a * n)) rc) k1
  go_wp2_with fail
  refine bodyPost_ret (v := .agg #[.slice ro (nd 4294967296 (a * n)) rc]) (by simp [results, Tryd.results39, go_sem, k4]) rfl ?_
  exact ⟨_, rfl, HR4.out.setCell k1 (by intro d h; cases h) _, HB4.out.setCell (p := ⟨w.heap.size + 1, 0, none⟩) (by show w.heap.size ≤ w.heap.size + 1; omega) _⟩
end Go.Proofs.YtcmancfdlfhgbaaDoor
