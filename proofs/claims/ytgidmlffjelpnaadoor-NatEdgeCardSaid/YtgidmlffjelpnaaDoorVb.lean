/- The contracts of Lsh and Rsh of natural numbers. -/
import Derived.Test.YtgidmlffjelpnaaDoorTa
import Derived.Test.YtgidmlffjelpnaaDoorKp
namespace Go.Proofs.YtgidmlffjelpnaaDoor
open Go Go.RowKit Gu

theorem nd_two_up {a m : Nat} (ha : nd 2 a ≤ m) : nd 4294967296 a ≤ m := by
  have h1 := (nd_le (by decide : 2 ≤ 2)).1 ha
  exact (nd_le (by decide : 2 ≤ 4294967296)).2 (Nat.lt_of_lt_of_le h1 (Nat.pow_le_pow_left (by decide) _))
set_option maxHeartbeats 1000000 in
theorem Lsh_neg (v : Value) (a : Nat) (n : Int) (w : World) (hv : D w v a) (hn : n < 0) :
    Calls Tryd.prog 39 #[.agg #[v], .int .i64 n] w fun e w' => e = .returned (.tuple #[.agg #[.slice none 0 0], .int .i64 2]) ∧ Below w.heap.size w w' := by
  have b2 : ∀ o1 o2, Below w.heap.size w ((w.alloc o1).alloc o2) := fun o1 o2 => ((Below.refl _ _).alloc (Nat.le_refl _) _).alloc (by simp) _
  have HB2 := Lib.hid b2
  obtain ⟨ao, ac, rfl, -⟩ := hv.shape
  clear hv b2
  go_enter Tryd.func39, Tryd.ntmps39
  go_wp2
  refine bodyPost_ret (v := .tuple #[.agg #[.slice none 0 0], .int .i64 2]) (by simp [results, Tryd.results39, go_sem]) rfl ⟨rfl, HB2.out _ _⟩
def lshE (a n : Nat) : Int := if a = 0 then 0 else if n + nd 2 a ≤ 16384 then 0 else 3
def lshN (a n : Nat) : Nat := if n + nd 2 a ≤ 16384 then a * 2 ^ n else 0
set_option maxHeartbeats 1000000 in
theorem Lsh_any (v : Value) (a n : Nat) (w : World) (hv : D w v a) (ha : nd 2 a ≤ 16384) (hn : n ≤ 9223372036854775807) :
    Calls Tryd.prog 39 #[.agg #[v], .int .i64 n] w fun e w' => ∃ r, e = .returned (.tuple #[.agg #[r], .int .i64 (lshE a n)]) ∧ D w' r (lshN a n) ∧ Below w.heap.size w w' := by
  have ha32 : nd 4294967296 a ≤ 16384 := by
    exact nd_two_up ha
  have b2 : ∀ o1 o2, Below w.heap.size w ((w.alloc o1).alloc o2) := fun o1 o2 => ((Below.refl _ _).alloc (Nat.le_refl _) _).alloc (by simp) _
  have HZ := Lib.hid (fun o1 o2 => isZero_any v a ((w.alloc o1).alloc o2) (hv.below (b2 o1 o2)))
  have HBL := Lib.hid (fun o1 o2 => bitLen_any v a ((w.alloc o1).alloc o2) (hv.below (b2 o1 o2)) (by omega))
  have hn0 : ¬ ((n : Int) < 0) := by omega
  by_cases h0 : a = 0
  · have HE : Hid (lshE a n = 0 ∧ lshN a n = 0) := ⟨if_pos h0, by unfold lshN; split <;> simp [h0]⟩
    rw [show decide (a = 0) = true from by simp [h0]] at HZ
    have HB2 := Lib.hid b2
    obtain ⟨ao, ac, rfl, -⟩ := hv.shape
    clear hv b2 h0 HBL ha ha32
    generalize nd 4294967296 a = la at *
    go_enter Tryd.func39, Tryd.ntmps39
    go_wp2_with fail
    refine (HZ.out _ _).mono ?_
    rintro e w1 ⟨rfl, rfl⟩
    go_wp2
    refine bodyPost_ret (v := .tuple #[.agg #[.slice none 0 0], .int .i64 0]) (by simp [results, Tryd.results39, go_sem]) rfl ⟨_, by rw [HE.out.1], by rw [HE.out.2]; exact IsN.zero _ _ _ _ _, HB2.out _ _⟩
  · rw [show decide (a = 0) = false from by simp [h0]] at HZ
    have HB2 := Lib.hid b2
    by_cases hf : n + nd 2 a ≤ 16384
    · have HE : Hid (lshE a n = 0 ∧ lshN a n = a * 2 ^ n) := ⟨by unfold lshE; rw [if_neg h0, if_pos hf], if_pos hf⟩
      have HS := Lib.hid (fun o1 o2 => shiftLeft_any v a n ((w.alloc o1).alloc o2) (hv.below (b2 o1 o2)) (by omega) (by omega))
      have hcmp : ¬ ((16384 : Int) - ((nd 2 a : Nat) : Int) < n) := by omega
      obtain ⟨ao, ac, rfl, -⟩ := hv.shape
      clear hv b2
      obtain ⟨q, hq⟩ : ∃ q, q = a * 2 ^ n := ⟨_, rfl⟩
      have HQ := Lib.hid hq
      rw [← hq] at HS
      clear hq h0
      generalize nd 2 a = bl at *
      go_enter Tryd.func39, Tryd.ntmps39
      go_wp2_with fail
      refine (HZ.out _ _).mono ?_
      rintro e w1 ⟨rfl, rfl⟩
      go_wp2_with fail
      refine (HBL.out _ _).mono ?_
      rintro e w1 ⟨rfl, rfl⟩
      go_wp2_with fail
      refine (HS.out _ _).mono ?_
      rintro e w2 ⟨rv, rfl, hr, hbel⟩
      obtain ⟨ro, rc, rfl, -⟩ := hr.shape
      have hcell : w2.cell? ⟨w.heap.size + 1, 0, none⟩ = some (.slice none 0 0) := (hbel.cell (p := ⟨w.heap.size + 1, 0, none⟩) (by simp)).trans (World.cell?_alloc_at _ _ _ _ (by simp))
      have hfr : w2.frozen? ⟨w.heap.size + 1, 0, none⟩ = false := (hbel.frozen (p := ⟨w.heap.size + 1, 0, none⟩) (by simp)).trans (World.frozen?_alloc_at _ _ _ _ (by simp))
      have HR := Lib.hid hr
      have HCE := Lib.hid hcell
      have HBE := Lib.hid ((HB2.out _ _).trans (hbel.mono (HB2.out _ _).size))
      clear hr hbel
      go_wp2
      refine bodyPost_ret (v := .tuple #[.agg #[.slice ro (nd 4294967296 q) rc], .int .i64 0]) (by simp [results, Tryd.results39, go_sem, hcell]) rfl ⟨_, by rw [HE.out.1], by rw [HE.out.2, ← HQ.out]; exact HR.out.setCell HCE.out (by intro d h; cases h) _, HBE.out.setCell (by show w.heap.size ≤ w.heap.size + 1; omega) _⟩
    · have HE : Hid (lshE a n = 3 ∧ lshN a n = 0) := ⟨by unfold lshE; rw [if_neg h0, if_neg hf], if_neg hf⟩
      have hcmp : (16384 : Int) - ((nd 2 a : Nat) : Int) < n := by omega
      obtain ⟨ao, ac, rfl, -⟩ := hv.shape
      clear hv b2 h0
      generalize nd 2 a = bl at *
      go_enter Tryd.func39, Tryd.ntmps39
      go_wp2_with fail
      refine (HZ.out _ _).mono ?_
      rintro e w1 ⟨rfl, rfl⟩
      go_wp2_with fail
      refine (HBL.out _ _).mono ?_
      rintro e w1 ⟨rfl, rfl⟩
      go_wp2
      refine bodyPost_ret (v := .tuple #[.agg #[.slice none 0 0], .int .i64 3]) (by simp [results, Tryd.results39, go_sem]) rfl ⟨_, by rw [HE.out.1], by rw [HE.out.2]; exact IsN.zero _ _ _ _ _, HB2.out _ _⟩
end Go.Proofs.YtgidmlffjelpnaaDoor
