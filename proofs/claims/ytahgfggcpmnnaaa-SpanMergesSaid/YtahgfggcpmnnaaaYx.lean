/- The contract of Set, where check lets the update by. -/
import Derived.Test.YtahgfggcpmnnaaaYw
namespace Go.Proofs.Ytahgfggcpmnnaaa
open Go Go.RowKit Gs

theorem Upd.same {f g : Int → Int} {size : Int} {W : World} {p : Option Addr} (h : IsM g size W p) : Upd f g size 0 p size 0 W := .inr (.inr ⟨rfl, rfl, rfl, h⟩)
theorem IsM.congr {f g : Int → Int} {size : Int} {W : World} {p : Option Addr} (h : IsM f size W p) (e : ∀ x, f x = g x) : IsM g size W p :=
  ⟨h.lo, ⟨h.ctx.1, h.ctx.2.1, fun x x1 x2 => by rw [← e x]; exact h.ctx.2.2 x x1 x2⟩, h.tr.congr fun x _ _ => e x⟩
set_option maxHeartbeats 1000000 in
theorem Set_none {f : Int → Int} {size lo tag : Int} {W : World} {p : Option Addr} (h : IsM f size W p) (her : errOf size lo lo [tag] = 0) :
    Calls Try.prog 38 #[.agg #[.pointer p, .int .i64 size], .int .i64 lo, .int .i64 lo, .int .i64 tag] W fun e w' => e = .returned (.tuple #[.agg #[.pointer p, .int .i64 size], .int .i64 0]) ∧ Below W.heap.size W w' := by
  obtain ⟨b, rfl⟩ := h.some
  obtain ⟨w0, HW, hm, hr, hc, hlt, hb⟩ := boxes3 W (some ⟨b, 0, none⟩) size 27 #[.int .i64 tag] 3
  have HCK : Hid (Calls Try.prog 46 #[.agg #[.pointer (some ⟨b, 0, none⟩), .int .i64 size], .int .i64 lo, .int .i64 lo, .slice (some ⟨W.heap.size + 1 + 1, 0, none⟩) 1 1] w0 fun e w' => e = .returned (.int .i64 (errOf size lo lo [tag])) ∧ Below w0.heap.size w0 w') :=
    check_any b (W.heap.size + 1 + 1) 1 size lo lo [tag] w0 hlt (fun i hi => by
      have : i = 0 := by simp at hi; exact hi
      subst this
      exact hc 0 _ rfl) (by simp)
  rw [her] at HCK
  have HM := Lib.hid hm; have HR := Lib.hid hr; have HB := Lib.hid hb; have HW' := Lib.hid HW
  clear hm hr hb HW hc hlt h her
  go_enter Try.func38, Try.ntmps38
  go_wp2_with fail
  rw [← HW'.out]
  refine HCK.out.mono ?_
  rintro e w1 ⟨rfl, hb⟩
  have HR1 := Lib.hid (HR.out.next hb)
  have HM1 := HM.out.next hb
  have HB1 := Lib.hid (HB.out.trans (hb.mono HB.out.size))
  have k0 := HM1.c0; have k1 := HM1.c1
  have d0 := HR1.out.c0; have d1 := HR1.out.c1; have d2 := HR1.out.f0; have d3 := HR1.out.f1
  obtain ⟨u0, u1⟩ : _ ∧ _ := ⟨(HR1.out.put (some ⟨b, 0, none⟩) size).c0, (HR1.out.put (some ⟨b, 0, none⟩) size).c1⟩
  clear hb HM1
  go_wp2_with fail
  refine bodyPost_ret (v := .tuple #[.agg #[.pointer (some ⟨b, 0, none⟩), .int .i64 size], .int .i64 0]) (by simp [results, Try.results38, go_sem, u0, u1]) rfl ?_
  exact ⟨rfl, below_put HB1.out (B := W.heap.size + 1) (by omega) (.pointer (some ⟨b, 0, none⟩)) (.int .i64 size)⟩
set_option maxHeartbeats 2000000 in
theorem Set_ok {f : Int → Int} {size lo hi tag : Int} {W : World} {p : Option Addr} (h : IsM f size W p) (her : errOf size lo hi [tag] = 0) (hne : lo ≠ hi) :
    Calls Try.prog 38 #[.agg #[.pointer p, .int .i64 size], .int .i64 lo, .int .i64 hi, .int .i64 tag] W fun e w' => ∃ q s e2, e = .returned (.tuple #[.agg #[.pointer q, .int .i64 s], .int .i64 e2]) ∧ Hid (Upd f (put f lo hi tag) size 0 q s e2 w') ∧ Below W.heap.size W w' := by
  obtain ⟨r1, r2, r3, r4⟩ := errOf_zero her
  obtain ⟨r5, r6⟩ := r4 tag (by simp)
  have hlo := h.lo
  have hhi := h.hi
  have htr := h.tr
  have hcx := h.ctx
  have hpx : Ctx (put f lo hi tag) 0 size := put_ctx hcx r5 r6
  obtain ⟨b, rfl⟩ := h.some
  obtain ⟨w0, HW, hm, hr, hc, hlt, hb⟩ := boxes3 W (some ⟨b, 0, none⟩) size 27 #[.int .i64 tag] 3
  have HCK : Hid (Calls Try.prog 46 #[.agg #[.pointer (some ⟨b, 0, none⟩), .int .i64 size], .int .i64 lo, .int .i64 hi, .slice (some ⟨W.heap.size + 1 + 1, 0, none⟩) 1 1] w0 fun e w' => e = .returned (.int .i64 (errOf size lo hi [tag])) ∧ Below w0.heap.size w0 w') :=
    check_any b (W.heap.size + 1 + 1) 1 size lo hi [tag] w0 hlt (fun i hi => by
      have : i = 0 := by simp at hi; exact hi
      subst this
      exact hc 0 _ rfl) (by simp)
  rw [her] at HCK
  have HCT : Hid (∀ W', Below W.heap.size W W' → Calls Try.prog 66 #[.agg #[.pointer (some ⟨b, 0, none⟩), .int .i64 size], .int .i64 lo, .int .i64 hi] W' fun e w' => ∃ x y z, e = .returned (.tuple #[.pointer x, .pointer y, .pointer z]) ∧ Hid (Tr f 0 lo 4096 w' x) ∧ Hid (Tr f lo hi 4096 w' y) ∧ Hid (Tr f hi size 4096 w' z) ∧ Below W'.heap.size W' w') := fun W' hb => cut_any (htr.below hb) hcx (by omega) r1 r2 r3
  have HGL : Hid (∀ x z W', Tr f 0 lo 4096 W' x → Tr f hi size 4096 W' z → Calls Try.prog 68 #[.pointer x, .agg #[.int .i64 lo, .int .i64 hi, .int .i64 tag], .pointer z] W' fun e w' => ∃ g, e = .returned (.pointer (some ⟨g, 0, none⟩)) ∧ Hid (Tr (put f lo hi tag) 0 size 8193 w' (some ⟨g, 0, none⟩)) ∧ Below W'.heap.size W' w') := fun x z W' hx hz =>
    Tr.glue (n := 4096) (m := 4096) (hx.congr fun y y1 y2 => by simp only [put]; rw [if_neg (by omega)]) (hz.congr fun y y1 y2 => by simp only [put]; rw [if_neg (by omega)]) hpx (by omega) (by omega) (fun y y1 y2 => by simp only [put]; rw [if_pos ⟨y1, y2⟩])
  have HWI : Hid (∀ g W', Tr (put f lo hi tag) 0 size 8193 W' (some ⟨g, 0, none⟩) → Calls Try.prog 67 #[.agg #[.pointer (some ⟨b, 0, none⟩), .int .i64 size], .pointer (some ⟨g, 0, none⟩)] W' fun e w' => ∃ q s e2, e = .returned (.tuple #[.agg #[.pointer q, .int .i64 s], .int .i64 e2]) ∧ Hid (Upd f (put f lo hi tag) size 0 q s e2 w') ∧ Below W'.heap.size W' w') := fun g W' hg => with_any hg hpx hlo (by omega)
  have HM := Lib.hid hm; have HR := Lib.hid hr; have HB := Lib.hid hb; have HW' := Lib.hid HW
  have hlb : (lo == hi) = false := beq_eq_false_iff_ne.2 hne
  clear hm hr hb HW hc hlt h her hne r1 r2 r3 r4 r5 r6 hlo hhi htr hcx hpx
  go_enter Try.func38, Try.ntmps38
  go_wp2_with fail
  rw [← HW'.out]
  refine HCK.out.mono ?_
  rintro e w1 ⟨rfl, hb⟩
  have HR1 := Lib.hid (HR.out.next hb)
  have HM1 := Lib.hid (HM.out.next hb)
  have HB1 := Lib.hid (HB.out.trans (hb.mono HB.out.size))
  have k0 := HM1.out.c0; have k1 := HM1.out.c1
  clear hb
  go_wp2_with fail
  refine (HCT.out _ HB1.out).mono ?_
  rintro e w2 ⟨x, y, z, rfl, HX, HY, HZ, hb⟩
  have HR2 := Lib.hid (HR1.out.next hb)
  have HM2 := Lib.hid (HM1.out.next hb)
  have HB2 := Lib.hid (HB1.out.trans (hb.mono HB1.out.size))
  clear hb k0 k1
  have HRR : Hid (∀ W', Below w2.heap.size w2 W' → Mb (W.heap.size + 1) none 0 W') := fun W' h => HR2.out.next h
  have HALL : Hid (∀ W', Below w2.heap.size w2 W' → W'.cell? ⟨W.heap.size, 0, none⟩ = some (.pointer (some ⟨b, 0, none⟩)) ∧ W'.cell? ⟨W.heap.size, 1, none⟩ = some (.int .i64 size)) := fun W' h => ⟨(HM2.out.next h).c0, (HM2.out.next h).c1⟩
  have HST : Hid (∀ W' u v, Below w2.heap.size w2 W' → ((W'.setCell ⟨W.heap.size + 1, 0, none⟩ u).setCell ⟨W.heap.size + 1, 1, none⟩ v).cell? ⟨W.heap.size, 0, none⟩ = some (.pointer (some ⟨b, 0, none⟩)) ∧ ((W'.setCell ⟨W.heap.size + 1, 0, none⟩ u).setCell ⟨W.heap.size + 1, 1, none⟩ v).cell? ⟨W.heap.size, 1, none⟩ = some (.int .i64 size)) := fun W' u v h => ⟨((HM2.out.next h).other (by omega) u v).c0, ((HM2.out.next h).other (by omega) u v).c1⟩
  have HGL2 : Hid (∀ W', Below w2.heap.size w2 W' → Calls Try.prog 68 #[.pointer x, .agg #[.int .i64 lo, .int .i64 hi, .int .i64 tag], .pointer z] W' fun e w' => ∃ g, e = .returned (.pointer (some ⟨g, 0, none⟩)) ∧ Hid (Tr (put f lo hi tag) 0 size 8193 w' (some ⟨g, 0, none⟩)) ∧ Below w2.heap.size w2 w') := fun W' h => (HGL.out x z W' (HX.out.below h) (HZ.out.below h)).mono fun e w' ⟨g, he, ht, hB⟩ => ⟨g, he, ht, h.trans (hB.mono h.size)⟩
  have HWI2 : Hid (∀ g W', Below w2.heap.size w2 W' → Hid (Tr (put f lo hi tag) 0 size 8193 W' (some ⟨g, 0, none⟩)) → Calls Try.prog 67 #[.agg #[.pointer (some ⟨b, 0, none⟩), .int .i64 size], .pointer (some ⟨g, 0, none⟩)] W' fun e w' => ∃ q s e2, e = .returned (.tuple #[.agg #[.pointer q, .int .i64 s], .int .i64 e2]) ∧ Hid (Upd f (put f lo hi tag) size 0 q s e2 w') ∧ Below w2.heap.size w2 w') := fun g W' h ht => (HWI.out g W' ht.out).mono fun e w' ⟨q, s, e2, he, hu, hB⟩ => ⟨q, s, e2, he, hu, h.trans (hB.mono h.size)⟩
  have hs : Below w2.heap.size w2 w2 := Below.refl _ _
  have hs2 := hs.drew
  have hcl := HALL.out _ hs2
  have hc0 := HALL.out _ hs
  go_wp2_with fail
  go_region_held3 (fun W' : World => W'.cell? ⟨W.heap.size, 0, none⟩ = some (.pointer (some ⟨b, 0, none⟩)) ∧ W'.cell? ⟨W.heap.size, 1, none⟩ = some (.int .i64 size)) (first | assumption | (with_reducible exact HST.out _ _ _ (by assumption)) | fail) (first
    | (go_at_call 68; with_reducible refine (HGL2.out _ ?h).mono ?_; (case h => assumption); rintro e w' ⟨g, rfl, hgt, hs1'⟩; have hc1' := HALL.out _ hs1')
    | (go_at_call 67; with_reducible refine (HWI2.out _ _ ?h ?r).mono ?_; (case h => assumption); (case r => assumption); rintro e w' ⟨q, s, e2, rfl, hu, hs2'⟩; have hc2' := HALL.out _ hs2'; have hr' := HRR.out _ hs2'; have r0 := hr'.c0; have r1 := hr'.c1; have r2 := hr'.f0; have r3 := hr'.f1; have hp' := hr'.put q s; have v0 := hp'.c0; have v1 := hp'.c1) | fail)
  all_goals
    have HBF := Lib.hid (below_put (HB2.out.trans (hs2'.mono HB2.out.size)) (B := W.heap.size + 1) (by omega) (.pointer q) (.int .i64 s))
    have HUF := Lib.hid (hr'.upd hu.out (.pointer q) (.int .i64 s))
    clear hs hs2 hcl hc0 hs1' hc1' hs2' hc2' r0 r1 r2 r3 hp' hr' hu
    go_wp2_with fail
    refine bodyPost_ret (v := .tuple #[.agg #[.pointer q, .int .i64 s], .int .i64 e2]) (by simp [results, Try.results38, go_sem, v0, v1]) rfl ?_
    exact ⟨q, s, e2, rfl, HUF.out, HBF.out⟩
/-- Set, of a usable map -/
theorem Set_any {f : Int → Int} {size lo hi tag : Int} {W : World} {p : Option Addr} (h : IsM f size W p) :
    Calls Try.prog 38 #[.agg #[.pointer p, .int .i64 size], .int .i64 lo, .int .i64 hi, .int .i64 tag] W fun e w' => ∃ q s e2, e = .returned (.tuple #[.agg #[.pointer q, .int .i64 s], .int .i64 e2]) ∧ Hid (Upd f (put f lo hi tag) size (errOf size lo hi [tag]) q s e2 w') ∧ Below W.heap.size W w' := by
  by_cases her : errOf size lo hi [tag] = 0
  · by_cases hne : lo = hi
    · subst hne
      refine (Set_none h her).mono ?_
      rintro e w' ⟨rfl, hB⟩
      refine ⟨p, size, 0, rfl, ?_, hB⟩
      rw [her]
      exact Upd.same ((h.below hB).congr fun x => by simp only [put]; rw [if_neg (by omega)])
    · have := Set_ok h her hne
      rw [her]
      exact this
  · refine (Set_err h her).mono ?_
    rintro e w' ⟨rfl, hB⟩
    exact ⟨none, 0, _, rfl, .inl ⟨her, rfl, rfl, rfl⟩, hB⟩
end Go.Proofs.Ytahgfggcpmnnaaa
