/- The helpers of the laws: is, told; New of a negative number. -/
import Derived.Test.YtgidmlffjelpnaaDoorRd
namespace Go.Proofs.YtgidmlffjelpnaaDoor
open Go Go.RowKit Gu

set_option maxHeartbeats 1000000 in
theorem is_any (v a : Value) (n : Nat) (w : World) (hv : D w v n) (ha : R w a n) (hn : nd 4294967296 n ≤ 100000) (hn2 : nd 65536 n ≤ 1000000) (he : Env w) :
    Calls Tryd.prog 31 #[.agg #[v], a] w fun e w' => e = .returned (.bool true) ∧ Below w.heap.size w w' := by
  have b1 : ∀ o, Below w.heap.size w (w.alloc o) := fun o => (Below.refl _ _).alloc (Nat.le_refl _) _
  have HS := Lib.hid (fun o => String_any v n (w.alloc o) (hv.below (b1 o)) hn (he.below (b1 o)))
  have HT := Lib.hid (fun w1 (h : R w1 a n) => Text_any a n w1 h hn2)
  have HA := Lib.hid (fun o => ha.below (b1 o))
  have HB1 := Lib.hid b1
  obtain ⟨ao, ac, rfl, -⟩ := hv.shape
  obtain ⟨bo, bc, rfl, -⟩ := ha.shape
  obtain ⟨S, hS⟩ : ∃ S : ByteArray, S = ⟨(Lib.decDigits n).toArray⟩ := ⟨_, rfl⟩
  rw [← hS] at HS HT
  clear hv ha b1 hS he
  go_enter Tryd.func31, Tryd.ntmps31
  go_wp2_with fail
  refine (HS.out _).mono ?_
  rintro e w1 ⟨rfl, hb⟩
  have HR := Lib.hid ((HA.out _).below hb)
  have HB := Lib.hid ((HB1.out _).trans (hb.mono (HB1.out _).size))
  clear hb
  go_wp2_with fail
  refine (HT.out _ HR.out).mono ?_
  rintro e w2 ⟨rfl, hb⟩
  have HBB := Lib.hid (HB.out.trans (hb.mono HB.out.size))
  clear hb
  go_wp2
  go_ret
  exact ⟨by simp, HBB.out⟩
set_option maxHeartbeats 1000000 in
theorem told_is (v a : Value) (n : Nat) (w : World) (hv : D w v n) (ha : R w a n) (hn : nd 4294967296 n ≤ 100000) (hn2 : nd 65536 n ≤ 1000000) (he : Env w) :
    Calls Tryd.prog 14 #[.agg #[v], .int .i64 0, a, .int .i64 0] w fun e w' => e = .returned (.bool true) ∧ Below w.heap.size w w' := by
  have b1 : ∀ o, Below w.heap.size w (w.alloc o) := fun o => (Below.refl _ _).alloc (Nat.le_refl _) _
  have HI := Lib.hid (fun o => is_any v a n (w.alloc o) (hv.below (b1 o)) (ha.below (b1 o)) hn hn2 (he.below (b1 o)))
  have HB1 := Lib.hid b1
  obtain ⟨ao, ac, rfl, -⟩ := hv.shape
  obtain ⟨bo, bc, rfl, -⟩ := ha.shape
  clear hv ha b1 he
  go_enter Tryd.func14, Tryd.ntmps14
  go_wp2_with fail
  refine (HI.out _).mono ?_
  rintro e w1 ⟨rfl, hb⟩
  have HB := Lib.hid ((HB1.out _).trans (hb.mono (HB1.out _).size))
  clear hb
  go_wp2
  go_ret
  exact ⟨by simp, HB.out⟩
set_option maxHeartbeats 1000000 in
theorem told_err (a : Value) (f : Int) (w : World) (hf : f ≠ 0) (_h1 : 0 ≤ f) (_h2 : f ≤ 100) (he : Env w) :
    Calls Tryd.prog 14 #[.agg #[.slice none 0 0], .int .i64 f, a, .int .i64 f] w fun e w' => e = .returned (.bool true) ∧ Below w.heap.size w w' := by
  have b1 : ∀ o, Below w.heap.size w (w.alloc o) := fun o => (Below.refl _ _).alloc (Nat.le_refl _) _
  have HS := Lib.hid (fun o => String_any (.slice none 0 0) 0 (w.alloc o) (IsN.zero _ _ _ _ _) (by rw [nd_zero]; omega) (he.below (b1 o)))
  have HB1 := Lib.hid b1
  rw [show Lib.decDigits 0 = [48] from decDigits_small (by decide)] at HS
  clear b1 he
  go_enter Tryd.func14, Tryd.ntmps14
  go_wp2_with fail
  refine (HS.out _).mono ?_
  rintro e w1 ⟨rfl, hb⟩
  have HB := Lib.hid ((HB1.out _).trans (hb.mono (HB1.out _).size))
  clear hb
  go_wp2
  go_ret
  exact ⟨by first | rfl | decide, HB.out⟩
theorem New_neg (n : Int) (w : World) (hn : n < 0) :
    Calls Tryd.prog 38 #[.int .i64 n] w fun e w' => e = .returned (.tuple #[.agg #[.slice none 0 0], .int .i64 2]) ∧ Below w.heap.size w w' := by
  go_enter Tryd.func38, Tryd.ntmps38
  go_wp2
  refine bodyPost_ret (v := .tuple #[.agg #[.slice none 0 0], .int .i64 2]) (by simp [results, Tryd.results38, go_sem]) rfl ⟨rfl, ?_⟩
  exact (Below.refl _ _).alloc (Nat.le_refl _) _
end Go.Proofs.YtgidmlffjelpnaaDoor
