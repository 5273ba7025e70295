/- A map that is usable; the contracts of cut, with and Set. -/
import Derived.Test.YtahgfggcpmnnaaaYs
namespace Go.Proofs.Ytahgfggcpmnnaaa
open Go Go.RowKit Gs

/-- a usable map of the function f from pieces to tags -/
structure IsM (f : Int → Int) (size : Int) (W : World) (p : Option Addr) : Prop where
  lo : 1 ≤ size
  ctx : Ctx f 0 size
  tr : Tr f 0 size 4096 W p
theorem IsM.hi {f : Int → Int} {size : Int} {W : World} {p : Option Addr} (h : IsM f size W p) : size ≤ 1099511627776 := h.ctx.2.1
theorem IsM.below {f : Int → Int} {size : Int} {W W' : World} {p : Option Addr} (h : IsM f size W p) (hb : Below W.heap.size W W') : IsM f size W' p := ⟨h.lo, h.ctx, h.tr.below hb⟩
theorem IsM.some {f : Int → Int} {size : Int} {W : World} {p : Option Addr} (h : IsM f size W p) : ∃ b, p = some ⟨b, 0, none⟩ := by
  rcases h.tr.last with ⟨_, e⟩ | ⟨b, _, _, e, _⟩
  · have := h.lo; omega
  · exact ⟨b, e⟩
/-- what an update answers: the errno of check; a map that is full; or the map -/
def Upd (_f g : Int → Int) (size er : Int) (q : Option Addr) (s e : Int) (W : World) : Prop :=
  (er ≠ 0 ∧ e = er ∧ q = none ∧ s = 0) ∨ (er = 0 ∧ e = 5 ∧ q = none ∧ s = 0 ∧ ∃ L, Gs.Can g 0 L size ∧ 4096 < L.length) ∨ (er = 0 ∧ e = 0 ∧ s = size ∧ IsM g size W q)
theorem Upd.below {f g : Int → Int} {size er s e : Int} {q : Option Addr} {W W' : World} (h : Upd f g size er q s e W) (hb : Below W.heap.size W W') : Upd f g size er q s e W' := by
  rcases h with h | h | ⟨h1, h2, h3, h4⟩
  · exact .inl h
  · exact .inr (.inl h)
  · exact .inr (.inr ⟨h1, h2, h3, h4.below hb⟩)
theorem Tr.of_eq {f : Int → Int} {a b a' b' : Int} {n : Nat} {W : World} {p : Option Addr} (h : Tr f a b n W p) (e1 : a = a') (e2 : b = b') : Tr f a' b' n W p := by
  subst e1; subst e2; exact h
set_option maxHeartbeats 1000000 in
theorem cut_any {f : Int → Int} {size lo hi : Int} {n : Nat} {W : World} {p : Option Addr} (h : Tr f 0 size n W p) (hx : Ctx f 0 size) (hn : n ≤ 50000) (h1 : 0 ≤ lo) (h2 : lo ≤ hi) (h3 : hi ≤ size) :
    Calls Try.prog 66 #[.agg #[.pointer p, .int .i64 size], .int .i64 lo, .int .i64 hi] W fun e w' => ∃ x y z, e = .returned (.tuple #[.pointer x, .pointer y, .pointer z]) ∧ Hid (Tr f 0 lo n w' x) ∧ Hid (Tr f lo hi n w' y) ∧ Hid (Tr f hi size n w' z) ∧ Below W.heap.size W w' := by
  obtain ⟨w0, HW⟩ : ∃ w0, w0 = W.alloc (.cells #[.pointer p, .int .i64 size] 27) := ⟨_, rfl⟩
  have hq : Mq W p size w0 := by rw [HW]; exact Mq.new _ _ _ _
  have HQ := Lib.hid hq
  have HW' := Lib.hid HW
  have HS1 : Hid (Calls Try.prog 75 #[.pointer p, .int .i64 lo] w0 fun e w' => ∃ x y, e = .returned (.tuple #[.pointer x, .pointer y]) ∧ Hid (Tr f 0 lo n w' x) ∧ Hid (Tr f lo size n w' y) ∧ Below w0.heap.size w0 w') := (h.below hq.bel).split hx hn h1 (by omega)
  have HS2 : Hid (∀ y W', Tr f lo size n W' y → Calls Try.prog 75 #[.pointer y, .int .i64 hi] W' fun e w' => ∃ x z, e = .returned (.tuple #[.pointer x, .pointer z]) ∧ Hid (Tr f lo hi n w' x) ∧ Hid (Tr f hi size n w' z) ∧ Below W'.heap.size W' w') := fun y W' hy => hy.split (hx.sub h1 (Int.le_refl _)) hn h2 h3
  have c0 := hq.c0; have c1 := hq.c1
  clear h hx hn h1 h2 h3 hq HW
  go_enter Try.func66, Try.ntmps66
  go_wp2_with fail
  rw [← HW'.out]
  refine HS1.out.mono ?_
  rintro e w1 ⟨x, y, rfl, HX, HY, hb⟩
  have HB := Lib.hid hb
  clear hb
  go_wp2_with fail
  refine (HS2.out y _ HY.out).mono ?_
  rintro e w2 ⟨y2, z, rfl, HY2, HZ, hb⟩
  have HB2 := Lib.hid hb
  clear hb
  go_wp2_with fail
  refine bodyPost_ret (v := .tuple #[.pointer x, .pointer y2, .pointer z]) (by simp [results, Try.results66, go_sem]) rfl ?_
  exact ⟨x, y2, z, rfl, HX.out.below HB2.out, HY2, HZ, HQ.out.bel.trans ((HB.out.trans (HB2.out.mono HB.out.size)).mono HQ.out.bel.size)⟩
theorem box_two (W : World) (X : Nat) (Ty : TypeId) (hX : X = W.heap.size) : (W.alloc (.cells #[.pointer none, .int .i64 0] Ty)).cell? ⟨X, 0, none⟩ = some (.pointer none) ∧ (W.alloc (.cells #[.pointer none, .int .i64 0] Ty)).cell? ⟨X, 1, none⟩ = some (.int .i64 0) := by
  subst hX
  exact ⟨World.cell?_alloc_at _ _ _ _ rfl, World.cell?_alloc_at _ _ _ _ rfl⟩
end Go.Proofs.Ytahgfggcpmnnaaa
