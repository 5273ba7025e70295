/- The contracts of terms and String of a fraction. -/
import Derived.Test.YtfkogbomijonjaaGreatDoorWs
namespace Go.Proofs.YtfkogbomijonjaaGreatDoor
open Go Go.RowKit Gu

/-- terms of a fraction whose denominator is not 0 -/
theorem terms_pos (v u : Value) (a b : Nat) (w : World) (hv : D w v a) (hu : D w u b) (hb : 0 < b) :
    Calls Tryz.prog 19 #[.agg #[v, u]] w fun e w' => e = .returned (.tuple #[v, u]) ∧ Below w.heap.size w w' := by
  have HZ := Lib.hid (fun o => isZero_any u b (w.alloc o) (hu.below ((Below.refl _ _).alloc (Nat.le_refl _) _)))
  rw [show decide (b = 0) = false from by simp; omega] at HZ
  obtain ⟨ao, ac, rfl, -⟩ := hv.shape
  obtain ⟨bo, bc, rfl, -⟩ := hu.shape
  clear hv hu
  go_enter Tryz.func19, Tryz.ntmps19
  go_wp2_with fail
  refine (HZ.out _).mono ?_
  rintro e w1 ⟨rfl, rfl⟩
  go_wp2
  go_quiet (fail)
  go_wp2
  go_ret2
  exact ⟨rfl, below_drewN ((Below.refl _ _).alloc (Nat.le_refl _) _) _⟩
theorem dec_bound {n m : Nat} (h : nd 4294967296 n ≤ m) (hm : 0 < m) : (Lib.decDigits n).length ≤ 10 * m := by
  apply dec_len_le (by omega)
  refine Nat.lt_of_lt_of_le ((nd_le (by decide)).1 h) ?_
  rw [Nat.pow_mul]
  exact Nat.pow_le_pow_left (by decide) _
theorem slash (la lb : List UInt8) : (⟨la.toArray⟩ ++ ⟨#[47]⟩ ++ ⟨lb.toArray⟩ : ByteArray) = ⟨(la ++ 47 :: lb).toArray⟩ := by
  apply ByteArray.ext
  simp [ByteArray.data_append]
theorem ret_str {a b : ByteArray} (h : a = b) : Ending.returned (.string a) = .returned (.string b) := by rw [h]
set_option maxHeartbeats 400000 in
/-- String of a fraction whose denominator is greater than 1 -/
theorem FracString_two (v u : Value) (a b : Nat) (w : World) (hv : D w v a) (hu : D w u b) (hb : 1 < b) (ha : nd 4294967296 a ≤ 100000) (hb2 : nd 4294967296 b ≤ 100000) (he : Env w) :
    Calls Tryz.prog 10 #[.agg #[v, u]] w fun e w' => e = .returned (.string ⟨(Lib.decDigits a ++ 47 :: Lib.decDigits b).toArray⟩) ∧ Below w.heap.size w w' := by
  have b1 : ∀ o, Below w.heap.size w (w.alloc o) := fun o => (Below.refl _ _).alloc (Nat.le_refl _) _
  have HT := Lib.hid (fun o => terms_pos v u a b (w.alloc o) (hv.below (b1 o)) (hu.below (b1 o)) (by omega))
  have HO := Lib.hid (fun o w' (h : Below (w.alloc o).heap.size (w.alloc o) w') => isOne_any u b w' ((hu.below (b1 o)).below h))
  rw [show decide (b = 1) = false from by simp; omega] at HO
  have HSA := Lib.hid (fun o w' (h : Below (w.alloc o).heap.size (w.alloc o) w') => String_any v a w' ((hv.below (b1 o)).below h) ha ((he.below (b1 o)).below h))
  have HSB := Lib.hid (fun o w' (h : Below (w.alloc o).heap.size (w.alloc o) w') => String_any u b w' ((hu.below (b1 o)).below h) hb2 ((he.below (b1 o)).below h))
  have HB1 := Lib.hid b1
  obtain ⟨Sa, hSa⟩ : ∃ Sa : ByteArray, Sa = ⟨(Lib.decDigits a).toArray⟩ := ⟨_, rfl⟩
  obtain ⟨Sb, hSb⟩ : ∃ Sb : ByteArray, Sb = ⟨(Lib.decDigits b).toArray⟩ := ⟨_, rfl⟩
  rw [← hSa] at HSA; rw [← hSb] at HSB
  have hla : Sa.size ≤ 1000000 := by rw [hSa, ← len_data]; exact dec_bound ha (by decide)
  have hlb : Sb.size ≤ 1000000 := by rw [hSb, ← len_data]; exact dec_bound hb2 (by decide)
  have HA := Lib.hid hSa; have HB := Lib.hid hSb
  obtain ⟨ao, ac, rfl, -⟩ := hv.shape
  obtain ⟨bo, bc, rfl, -⟩ := hu.shape
  clear hv hu b1 he hSa hSb
  go_enter Tryz.func10, Tryz.ntmps10
  go_wp2_with fail
  refine (HT.out _).mono ?_
  rintro e w1 ⟨rfl, hb1⟩
  have HB2 := Lib.hid hb1; clear hb1
  go_wp2_with fail
  refine (HO.out _ _ HB2.out).mono ?_
  rintro e w2 ⟨rfl, rfl⟩
  go_wp2_with fail
  refine (HSA.out _ _ HB2.out).mono ?_
  rintro e w2 ⟨rfl, hb2⟩
  have HB3 := Lib.hid (HB2.out.trans (hb2.mono HB2.out.size)); clear hb2
  go_wp2_with fail
  refine (HSB.out _ _ HB3.out).mono ?_
  rintro e w3 ⟨rfl, hb3⟩
  have HB4 := Lib.hid ((HB1.out _).trans ((HB3.out.trans (hb3.mono HB3.out.size)).mono (by simp))); clear hb3
  go_wp2
  go_ret
  exact ⟨ret_str (by rw [HA.out, HB.out]; exact slash _ _), HB4.out⟩
end Go.Proofs.YtfkogbomijonjaaGreatDoor
