/- The contract of Set. -/
import Derived.Test.YtahgfggcpmnnaaaYv
namespace Go.Proofs.Ytahgfggcpmnnaaa
open Go Go.RowKit Gs

/-- the pieces of a range have a tag -/
def put (f : Int → Int) (lo hi : Int) (t : Int) (x : Int) : Int := if lo ≤ x ∧ x < hi then t else f x
theorem put_ctx {f : Int → Int} {a b lo hi t : Int} (h : Ctx f a b) (h0 : 0 ≤ t) (h1 : t < 16) : Ctx (put f lo hi t) a b := by
  refine ⟨h.1, h.2.1, fun p p1 p2 => ?_⟩
  have := h.2.2 p p1 p2
  simp only [put]
  split <;> omega
theorem errOf_zero {size lo hi : Int} {ts : List Int} (h : errOf size lo hi ts = 0) : 0 ≤ lo ∧ lo ≤ hi ∧ hi ≤ size ∧ ∀ t ∈ ts, 0 ≤ t ∧ t < 16 := by
  unfold errOf at h
  split at h
  · omega
  · split at h
    · rename_i h1 h2
      refine ⟨by omega, by omega, by omega, fun t ht => ?_⟩
      have := List.all_eq_true.1 h2 t ht
      exact of_decide_eq_true this
    · omega
/-- the boxes of a call: the map, the result, and a list of tags -/
theorem boxes3 (W : World) (p : Option Addr) (size : Int) (Ty : TypeId) (vs : Array Value) (Tv : TypeId) : ∃ w0, w0 = ((W.alloc (.cells #[.pointer p, .int .i64 size] Ty)).alloc (.cells #[.pointer none, .int .i64 0] Ty)).alloc (.cells vs Tv) ∧ Mb W.heap.size p size w0 ∧ Mb (W.heap.size + 1) none 0 w0 ∧ (∀ i v, vs[i]? = some v → w0.cell? ⟨W.heap.size + 1 + 1, i, none⟩ = some v) ∧ W.heap.size + 1 + 1 < w0.heap.size ∧ Below W.heap.size W w0 := by
  obtain ⟨w1, hw, hm, hr, hb⟩ := boxes2 W p size Ty
  have e : w1.heap.size = W.heap.size + 1 + 1 := by rw [hw]; simp
  rw [← hw]
  have hb1 : Below w1.heap.size w1 (w1.alloc (.cells vs Tv)) := (Below.refl _ _).alloc (Nat.le_refl _) _
  refine ⟨_, rfl, hm.next hb1, hr.next hb1, fun i v hv => ?_, by simp [e], hb.trans (hb1.mono hb.size)⟩
  exact (World.cell?_alloc_at _ _ _ _ e.symm).trans hv
set_option maxHeartbeats 1000000 in
/-- an update that check refuses -/
theorem Set_err {f : Int → Int} {size lo hi tag : Int} {W : World} {p : Option Addr} (h : IsM f size W p) (her : errOf size lo hi [tag] ≠ 0) :
    Calls Try.prog 38 #[.agg #[.pointer p, .int .i64 size], .int .i64 lo, .int .i64 hi, .int .i64 tag] W fun e w' => e = .returned (.tuple #[.agg #[.pointer none, .int .i64 0], .int .i64 (errOf size lo hi [tag])]) ∧ Below W.heap.size W w' := by
  obtain ⟨b, rfl⟩ := h.some
  obtain ⟨w0, HW, hm, hr, hc, hlt, hb⟩ := boxes3 W (some ⟨b, 0, none⟩) size 27 #[.int .i64 tag] 3
  have HCK : Hid (Calls Try.prog 46 #[.agg #[.pointer (some ⟨b, 0, none⟩), .int .i64 size], .int .i64 lo, .int .i64 hi, .slice (some ⟨W.heap.size + 1 + 1, 0, none⟩) 1 1] w0 fun e w' => e = .returned (.int .i64 (errOf size lo hi [tag])) ∧ Below w0.heap.size w0 w') :=
    check_any b (W.heap.size + 1 + 1) 1 size lo hi [tag] w0 hlt (fun i hi => by
      have : i = 0 := by simp at hi; exact hi
      subst this
      exact hc 0 _ rfl) (by simp)
  have HR := Lib.hid hr; have HB := Lib.hid hb; have HW' := Lib.hid HW
  have hne : (errOf size lo hi [tag] == 0) = false := beq_eq_false_iff_ne.2 her
  clear hm hr hb HW hc hlt h her
  generalize errOf size lo hi [tag] = er at *
  go_enter Try.func38, Try.ntmps38
  go_wp2_with fail
  rw [← HW'.out]
  refine HCK.out.mono ?_
  rintro e w1 ⟨rfl, hb⟩
  have HR1 := Lib.hid (HR.out.next hb)
  have HB1 := Lib.hid (HB.out.trans (hb.mono HB.out.size))
  have d0 := HR1.out.c0; have d1 := HR1.out.c1; have d2 := HR1.out.f0; have d3 := HR1.out.f1
  obtain ⟨u0, u1⟩ : _ ∧ _ := ⟨(HR1.out.put none 0).c0, (HR1.out.put none 0).c1⟩
  clear hb
  go_wp2_with fail
  refine bodyPost_ret (v := .tuple #[.agg #[.pointer none, .int .i64 0], .int .i64 er]) (by simp [results, Try.results38, go_sem, u0, u1]) rfl ?_
  have HBF := below_put HB1.out (B := W.heap.size + 1) (by omega) (.pointer none) (.int .i64 0)
  exact ⟨rfl, by first | exact HB1.out | exact HBF⟩
end Go.Proofs.Ytahgfggcpmnnaaa
