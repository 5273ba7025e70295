/- The contracts of fitting, Add, lowest, NewFrac, terms. -/
import Derived.Test.YtfkogbomijonjaaGreatDoorWl
namespace Go.Proofs.YtfkogbomijonjaaGreatDoor
open Go Go.RowKit Gu

/-- the error, and the number, of a result that may not fit -/
def fitE (n : Nat) : Int := if nd 2 n ≤ 16384 then 0 else 3
def fitN (n : Nat) : Nat := if nd 2 n ≤ 16384 then n else 0
theorem nd_two_le {n k : Nat} (h : nd 4294967296 n ≤ k) : nd 2 n ≤ 32 * k := by
  have h1 := (nd_le (by decide : 2 ≤ 4294967296)).1 h
  apply (nd_le (by decide : 2 ≤ 2)).2
  rw [Nat.pow_mul]
  exact h1
theorem fitting_any (v : Value) (n : Nat) (w : World) (hv : D w v n) (hn : nd 4294967296 n ≤ 1048576) :
    Calls Tryz.prog 69 #[v] w fun e w' => ∃ r, e = .returned (.tuple #[.agg #[r], .int .i64 (fitE n)]) ∧ D w' r (fitN n) ∧ Below w.heap.size w w' := by
  have h2 := nd_two_le hn
  have HBL := Lib.hid (fun o => bitLen_any v n (w.alloc o) (hv.below ((Below.refl _ _).alloc (Nat.le_refl _) _)) hn)
  have HV := Lib.hid (fun o => hv.below ((Below.refl _ w).alloc (Nat.le_refl _) o))
  obtain ⟨ao, cap, rfl, -⟩ := hv.shape
  by_cases hf : nd 2 n ≤ 16384
  · have HE : Hid (fitE n = 0 ∧ fitN n = n) := ⟨if_pos hf, if_pos hf⟩
    clear hv hn
    generalize nd 2 n = bl at *
    go_enter Tryz.func69, Tryz.ntmps69
    go_wp2_with fail
    refine (HBL.out _).mono ?_
    rintro e w' ⟨rfl, rfl⟩
    go_wp2
    refine bodyPost_ret (v := .tuple #[.agg #[.slice ao (nd 4294967296 n) cap], .int .i64 0]) (by simp [results, Tryz.results69, go_sem]) rfl ⟨_, by rw [HE.out.1], ?_, ?_⟩
    · rw [HE.out.2]; exact HV.out _
    · exact ((Below.refl _ _).alloc (Nat.le_refl _) _)
  · have HE : Hid (fitE n = 3 ∧ fitN n = 0) := ⟨if_neg hf, if_neg hf⟩
    clear hv hn
    generalize nd 2 n = bl at *
    go_enter Tryz.func69, Tryz.ntmps69
    go_wp2_with fail
    refine (HBL.out _).mono ?_
    rintro e w' ⟨rfl, rfl⟩
    go_wp2
    refine bodyPost_ret (v := .tuple #[.agg #[.slice none 0 0], .int .i64 3]) (by simp [results, Tryz.results69, go_sem]) rfl ⟨_, by rw [HE.out.1], ?_, ?_⟩
    · rw [HE.out.2]; exact IsN.zero _ _ _ _ _
    · exact ((Below.refl _ _).alloc (Nat.le_refl _) _)
theorem nd_add {a b m : Nat} (ha : nd 4294967296 a ≤ m) (hb : nd 4294967296 b ≤ m) : nd 4294967296 (a + b) ≤ m + 1 := by
  have h1 := (nd_le (by decide : 2 ≤ 4294967296)).1 ha
  have h2 := (nd_le (by decide : 2 ≤ 4294967296)).1 hb
  apply (nd_le (by decide : 2 ≤ 4294967296)).2
  rw [Nat.pow_succ]
  generalize (4294967296 : Nat) ^ m = p at *
  omega
theorem nd_mul {a b m k : Nat} (ha : nd 4294967296 a ≤ m) (hb : nd 4294967296 b ≤ k) : nd 4294967296 (a * b) ≤ m + k := by
  have h1 := (nd_le (by decide : 2 ≤ 4294967296)).1 ha
  have h2 := (nd_le (by decide : 2 ≤ 4294967296)).1 hb
  apply (nd_le (by decide : 2 ≤ 4294967296)).2
  rw [Nat.pow_add]
  exact Nat.mul_lt_mul_of_lt_of_le h1 (Nat.le_of_lt h2) (Nat.pow_pos (by decide))
set_option maxHeartbeats 400000 in
theorem Add_any (v u : Value) (a b : Nat) (w : World) (hv : D w v a) (hu : D w u b) (ha : nd 4294967296 a ≤ 500000) (hb : nd 4294967296 b ≤ 500000) :
    Calls Tryz.prog 51 #[.agg #[v], .agg #[u]] w fun e w' => ∃ r, e = .returned (.tuple #[.agg #[r], .int .i64 (fitE (a + b))]) ∧ D w' r (fitN (a + b)) ∧ Below w.heap.size w w' := by
  have hnd := nd_add ha hb
  have b3 : ∀ o1 o2 o3, Below w.heap.size w (((w.alloc o1).alloc o2).alloc o3) := fun o1 o2 o3 => (((Below.refl _ _).alloc (Nat.le_refl _) _).alloc (by simp) _).alloc (by simp; omega) _
  have HS := Lib.hid (fun o1 o2 o3 => sum_any v u a b (((w.alloc o1).alloc o2).alloc o3) (hv.below (b3 o1 o2 o3)) (hu.below (b3 o1 o2 o3)) (by omega) (by omega))
  have HB3 := Lib.hid b3
  obtain ⟨ao, ac, rfl, -⟩ := hv.shape
  obtain ⟨bo, bc, rfl, -⟩ := hu.shape
  clear hv hu b3
  go_enter Tryz.func51, Tryz.ntmps51
  go_wp2_with fail
  refine (HS.out _ _ _).mono ?_
  rintro e w1 ⟨r, rfl, hr, hbel⟩
  have HF := Lib.hid (fitting_any r (a + b) w1 hr (by omega))
  clear hr
  obtain ⟨hc, hf⟩ := bcell hbel
  have HB1 := Lib.hid hbel
  have hz := hbel.size
  simp only [World.size_alloc] at hz
  clear hbel
  go_wp2_with fail
  refine HF.out.mono ?_
  rintro e w2 ⟨r2, rfl, hr2, hbel2⟩
  obtain ⟨hc2, hf2⟩ := bcell hbel2
  obtain ⟨ro, rc, rfl, -⟩ := hr2.shape
  have HB2 := Lib.hid hbel2
  have HR2 := Lib.hid hr2
  have hz2 := hbel2.size
  clear hbel2 hr2
  have hcell : w2.cell? ⟨w.heap.size + 1 + 1, 0, none⟩ = some (.slice none 0 0) := by
    rw [hc2 _ _ (by omega), hc _ _ (by simp)]
    exact World.cell?_alloc_at _ _ _ _ (by simp)
  have hfr : w2.frozen? ⟨w.heap.size + 1 + 1, 0, none⟩ = false := by
    rw [hf2 _ _ (by omega), hf _ _ (by simp)]
    exact World.frozen?_alloc_at _ _ _ _ (by simp)
  have HCE := Lib.hid hcell
  clear hc hf hc2 hf2
  go_wp2
  refine bodyPost_ret (v := .tuple #[.agg #[.slice ro (nd 4294967296 (fitN (a + b))) rc], .int .i64 (fitE (a + b))]) (by simp [results, Tryz.results51, go_sem, hcell]) rfl ⟨_, rfl, HR2.out.setCell HCE.out (by intro d h; cases h) _, ?_⟩
  exact (((HB3.out _ _ _).trans (HB1.out.mono (by simp; omega))).trans (HB2.out.mono (by omega))).setCell (by show w.heap.size ≤ w.heap.size + 1 + 1; omega) _
end Go.Proofs.YtfkogbomijonjaaGreatDoor
