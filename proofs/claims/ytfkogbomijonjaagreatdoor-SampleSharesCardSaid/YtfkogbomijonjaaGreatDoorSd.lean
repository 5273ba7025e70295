/- The contracts of Sub and Cmp of natural numbers, and of the laws' helpers fit, two. -/
import Derived.Test.YtfkogbomijonjaaGreatDoorSc
import Derived.Test.YtfkogbomijonjaaGreatDoorDa
namespace Go.Proofs.YtfkogbomijonjaaGreatDoor
open Go Go.RowKit Gu

theorem NCmp_any (v u : Value) (a b : Nat) (w : World) (hv : D w v a) (hu : D w u b) (ha : nd 4294967296 a ≤ 1048576) (hb : nd 4294967296 b ≤ 1048576) :
    Calls Tryz.prog 34 #[.agg #[v], .agg #[u]] w fun e w' => e = .returned (.int .i64 (cmpN a b)) ∧ Below w.heap.size w w' := by
  have b2 : ∀ o1 o2, Below w.heap.size w ((w.alloc o1).alloc o2) := fun o1 o2 => ((Below.refl _ _).alloc (Nat.le_refl _) _).alloc (by simp) _
  have HC := Lib.hid (fun o1 o2 => compare_any v u a b ((w.alloc o1).alloc o2) (hv.below (b2 o1 o2)) (hu.below (b2 o1 o2)) ha hb)
  have HB2 := Lib.hid b2
  obtain ⟨ao, ac, rfl, -⟩ := hv.shape
  obtain ⟨bo, bc, rfl, -⟩ := hu.shape
  clear hv hu b2
  go_enter Tryz.func34, Tryz.ntmps34
  go_wp2_with fail
  refine (HC.out _ _).mono ?_
  rintro e w1 ⟨rfl, q, rfl⟩
  go_wp2
  go_ret
  exact ⟨rfl, below_drewN (HB2.out _ _) q⟩
theorem third_cell {w w2 : World} {o1 o2 : Obj} {T : TypeId} {q : Nat} (hb : Below ((((w.alloc o1).alloc o2).alloc (.cells #[.slice none 0 0] T)).drewN q).heap.size ((((w.alloc o1).alloc o2).alloc (.cells #[.slice none 0 0] T)).drewN q) w2) :
    w2.cell? ⟨w.heap.size + 1 + 1, 0, none⟩ = some (.slice none 0 0) ∧ w2.frozen? ⟨w.heap.size + 1 + 1, 0, none⟩ = false := by
  have h1 := below_drewN (Below.refl (((w.alloc o1).alloc o2).alloc (.cells #[.slice none 0 0] T)).heap.size (((w.alloc o1).alloc o2).alloc (.cells #[.slice none 0 0] T))) q
  have hlt : w.heap.size + 1 + 1 < (((w.alloc o1).alloc o2).alloc (.cells #[.slice none 0 0] T)).heap.size := by simp
  exact ⟨(hb.cell (p := ⟨w.heap.size + 1 + 1, 0, none⟩) (Nat.lt_of_lt_of_le hlt h1.size)).trans ((h1.cell (p := ⟨w.heap.size + 1 + 1, 0, none⟩) hlt).trans (World.cell?_alloc_at _ _ _ _ (by simp))),
    (hb.frozen (p := ⟨w.heap.size + 1 + 1, 0, none⟩) (Nat.lt_of_lt_of_le hlt h1.size)).trans ((h1.frozen (p := ⟨w.heap.size + 1 + 1, 0, none⟩) hlt).trans (World.frozen?_alloc_at _ _ _ _ (by simp)))⟩
def subE (a b : Nat) : Int := if a < b then 10 else 0
theorem pair_cells {w w2 : World} {T : TypeId} (hb : Below ((w.alloc (.cells #[.slice none 0 0] T)).alloc (.cells #[.slice none 0 0] T)).heap.size ((w.alloc (.cells #[.slice none 0 0] T)).alloc (.cells #[.slice none 0 0] T)) w2) :
    (w2.cell? ⟨w.heap.size, 0, none⟩ = some (.slice none 0 0) ∧ w2.frozen? ⟨w.heap.size, 0, none⟩ = false) ∧ (w2.cell? ⟨w.heap.size + 1, 0, none⟩ = some (.slice none 0 0) ∧ w2.frozen? ⟨w.heap.size + 1, 0, none⟩ = false) := by
  have h0 : Below (w.alloc (.cells #[.slice none 0 0] T)).heap.size (w.alloc (.cells #[.slice none 0 0] T)) ((w.alloc (.cells #[.slice none 0 0] T)).alloc (.cells #[.slice none 0 0] T)) := (Below.refl _ _).alloc (Nat.le_refl _) _
  have l1 : w.heap.size < (w.alloc (.cells #[.slice none 0 0] T)).heap.size := by simp
  have l2 : w.heap.size < ((w.alloc (.cells #[.slice none 0 0] T)).alloc (.cells #[.slice none 0 0] T)).heap.size := by simp; omega
  have l3 : w.heap.size + 1 < ((w.alloc (.cells #[.slice none 0 0] T)).alloc (.cells #[.slice none 0 0] T)).heap.size := by simp
  exact ⟨⟨(hb.cell (p := ⟨w.heap.size, 0, none⟩) l2).trans ((h0.cell (p := ⟨w.heap.size, 0, none⟩) l1).trans (World.cell?_alloc_at _ _ _ _ rfl)), (hb.frozen (p := ⟨w.heap.size, 0, none⟩) l2).trans ((h0.frozen (p := ⟨w.heap.size, 0, none⟩) l1).trans (World.frozen?_alloc_at _ _ _ _ rfl))⟩,
    ⟨(hb.cell (p := ⟨w.heap.size + 1, 0, none⟩) l3).trans (World.cell?_alloc_at _ _ _ _ (by simp)), (hb.frozen (p := ⟨w.heap.size + 1, 0, none⟩) l3).trans (World.frozen?_alloc_at _ _ _ _ (by simp))⟩⟩
end Go.Proofs.YtfkogbomijonjaaGreatDoor
