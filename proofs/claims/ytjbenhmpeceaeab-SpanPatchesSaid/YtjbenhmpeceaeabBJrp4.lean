/- Contracts and lemmas (several texts merged into one). -/
import Derived.Test.YtjbenhmpeceaeabBJrp3
import Derived.Deep.CutRange
import Derived.Deep.Cut
import Derived.BigQuiet
import Derived.RangeFuncWrites
import Derived.RangeFuncKeeps
import Derived.RangeFuncBound
import Derived.RangeFuncLeaves
import Derived.Shelf.Abstract
import Derived.WalkKit
import Derived.OwnWalkIn
import Derived.TacticsInMore
import Derived.RegionIn
import Derived.Stop.RegionWithIn
import Derived.Shelf.RegionOpen
import Derived.RangeFuncBox
import Derived.RangeFuncNested
import Derived.BigRegionIn
import Derived.Sort.CutIn
import Derived.Test.YtjbenhmpeceaeabBJrp1
namespace Go.Proofs.Ytjbenhmpeceaeab
open Go Go.RowKit Gs

theorem Upd.same {f g : Int → Int} {size : Int} {W : World} {p : Option Addr} (h : IsM g size W p) : Upd f g size 0 p size 0 W := .inr (.inr ⟨rfl, rfl, rfl, h⟩)
theorem IsM.congr {f g : Int → Int} {size : Int} {W : World} {p : Option Addr} (h : IsM f size W p) (e : ∀ x, f x = g x) : IsM g size W p :=
  ⟨h.lo, ⟨h.ctx.1, h.ctx.2.1, fun x x1 x2 => by rw [← e x]; exact h.ctx.2.2 x x1 x2⟩, h.tr.congr fun x _ _ => e x⟩
set_option maxHeartbeats 1000000 in
theorem Set_none {f : Int → Int} {size lo tag : Int} {W : World} {p : Option Addr} (h : IsM f size W p) (her : errOf size lo lo [tag] = 0) :
    Calls Try.prog 14 #[.agg #[.pointer p, .int .i64 size], .int .i64 lo, .int .i64 lo, .int .i64 tag] W fun e w' => e = .returned (.tuple #[.agg #[.pointer p, .int .i64 size], .int .i64 0]) ∧ Below W.heap.size W w' := by
  obtain ⟨b, rfl⟩ := h.some
  obtain ⟨w0, HW, hm, hr, hc, hlt, hb⟩ := boxes3 W (some ⟨b, 0, none⟩) size 27 #[.int .i64 tag] 3
  have HCK : Hid (Calls Try.prog 31 #[.agg #[.pointer (some ⟨b, 0, none⟩), .int .i64 size], .int .i64 lo, .int .i64 lo, .slice (some ⟨W.heap.size + 1 + 1, 0, none⟩) 1 1] w0 fun e w' => e = .returned (.int .i64 (errOf size lo lo [tag])) ∧ Below w0.heap.size w0 w') :=
    check_any b (W.heap.size + 1 + 1) 1 size lo lo [tag] w0 hlt (fun i hi => by
      have : i = 0 := by simp at hi; exact hi
      subst this
      exact hc 0 _ rfl) (by simp)
  rw [her] at HCK
  have HM := Lib.hid hm; have HR := Lib.hid hr; have HB := Lib.hid hb; have HW' := Lib.hid HW
  clear hm hr hb HW hc hlt h her
  go_enter Try.func14, Try.ntmps14
  go_wp2_with fail
  rw [← HW'.out]
  refine HCK.out.mono ?_
  rintro e w1 ⟨rfl, hb⟩
  have HR1 := Lib.hid (HR.out.next hb)
  have HM1 := HM.out.next hb
  have HB1 := Lib.hid (HB.out.trans (hb.mono HB.out.size))
  have k0 := HM1.c0; have k1 := HM1.c1
  have d0 := HR1.out.c0; have d1 := HR1.out.c1; have d2 := HR1.out.f0; have d3 := HR1.out.f1
  obtain ⟨u0, u1⟩ : _ ∧ _ := ⟨(HR1.out.put (some ⟨b, 0, none⟩) size).c0, (HR1.out.put (some ⟨b, 0, none⟩) size).c1⟩
  clear hb HM1
  go_wp2_with fail
  refine bodyPost_ret (v := .tuple #[.agg #[.pointer (some ⟨b, 0, none⟩), .int .i64 size], .int .i64 0]) (by simp [results, Try.results14, go_sem, u0, u1]) rfl ?_
  exact ⟨rfl, below_put HB1.out (B := W.heap.size + 1) (by omega) (.pointer (some ⟨b, 0, none⟩)) (.int .i64 size)⟩
set_option maxHeartbeats 2000000 in
theorem Set_ok {f : Int → Int} {size lo hi tag : Int} {W : World} {p : Option Addr} (h : IsM f size W p) (her : errOf size lo hi [tag] = 0) (hne : lo ≠ hi) :
    Calls Try.prog 14 #[.agg #[.pointer p, .int .i64 size], .int .i64 lo, .int .i64 hi, .int .i64 tag] W fun e w' => ∃ q s e2, e = .returned (.tuple #[.agg #[.pointer q, .int .i64 s], .int .i64 e2]) ∧ Hid (Upd f (put f lo hi tag) size 0 q s e2 w') ∧ Below W.heap.size W w' := by
  obtain ⟨r1, r2, r3, r4⟩ := errOf_zero her
  obtain ⟨r5, r6⟩ := r4 tag (by simp)
  have hlo := h.lo
  have hhi := h.hi
  have htr := h.tr
  have hcx := h.ctx
  have hpx : Ctx (put f lo hi tag) 0 size := put_ctx hcx r5 r6
  obtain ⟨b, rfl⟩ := h.some
  obtain ⟨w0, HW, hm, hr, hc, hlt, hb⟩ := boxes3 W (some ⟨b, 0, none⟩) size 27 #[.int .i64 tag] 3
  have HCK : Hid (Calls Try.prog 31 #[.agg #[.pointer (some ⟨b, 0, none⟩), .int .i64 size], .int .i64 lo, .int .i64 hi, .slice (some ⟨W.heap.size + 1 + 1, 0, none⟩) 1 1] w0 fun e w' => e = .returned (.int .i64 (errOf size lo hi [tag])) ∧ Below w0.heap.size w0 w') :=
    check_any b (W.heap.size + 1 + 1) 1 size lo hi [tag] w0 hlt (fun i hi => by
      have : i = 0 := by simp at hi; exact hi
      subst this
      exact hc 0 _ rfl) (by simp)
  rw [her] at HCK
  have HCT : Hid (∀ W', Below W.heap.size W W' → Calls Try.prog 32 #[.agg #[.pointer (some ⟨b, 0, none⟩), .int .i64 size], .int .i64 lo, .int .i64 hi] W' fun e w' => ∃ x y z, e = .returned (.tuple #[.pointer x, .pointer y, .pointer z]) ∧ Hid (Tr f 0 lo 4096 w' x) ∧ Hid (Tr f lo hi 4096 w' y) ∧ Hid (Tr f hi size 4096 w' z) ∧ Below W'.heap.size W' w') := fun W' hb => cut_any (htr.below hb) hcx (by omega) r1 r2 r3
  have HGL : Hid (∀ x z W', Tr f 0 lo 4096 W' x → Tr f hi size 4096 W' z → Calls Try.prog 37 #[.pointer x, .agg #[.int .i64 lo, .int .i64 hi, .int .i64 tag], .pointer z] W' fun e w' => ∃ g, e = .returned (.pointer (some ⟨g, 0, none⟩)) ∧ Hid (Tr (put f lo hi tag) 0 size 8193 w' (some ⟨g, 0, none⟩)) ∧ Below W'.heap.size W' w') := fun x z W' hx hz =>
    Tr.glue (n := 4096) (m := 4096) (hx.congr fun y y1 y2 => by simp only [put]; rw [if_neg (by omega)]) (hz.congr fun y y1 y2 => by simp only [put]; rw [if_neg (by omega)]) hpx (by omega) (by omega) (fun y y1 y2 => by simp only [put]; rw [if_pos ⟨y1, y2⟩])
  have HWI : Hid (∀ g W', Tr (put f lo hi tag) 0 size 8193 W' (some ⟨g, 0, none⟩) → Calls Try.prog 33 #[.agg #[.pointer (some ⟨b, 0, none⟩), .int .i64 size], .pointer (some ⟨g, 0, none⟩)] W' fun e w' => ∃ q s e2, e = .returned (.tuple #[.agg #[.pointer q, .int .i64 s], .int .i64 e2]) ∧ Hid (Upd f (put f lo hi tag) size 0 q s e2 w') ∧ Below W'.heap.size W' w') := fun g W' hg => with_any hg hpx hlo (by omega)
  have HM := Lib.hid hm; have HR := Lib.hid hr; have HB := Lib.hid hb; have HW' := Lib.hid HW
  have hlb : (lo == hi) = false := beq_eq_false_iff_ne.2 hne
  clear hm hr hb HW hc hlt h her hne r1 r2 r3 r4 r5 r6 hlo hhi htr hcx hpx
  go_enter Try.func14, Try.ntmps14
  go_wp2_with fail
  rw [← HW'.out]
  refine HCK.out.mono ?_
  rintro e w1 ⟨rfl, hb⟩
  have HR1 := Lib.hid (HR.out.next hb)
  have HM1 := Lib.hid (HM.out.next hb)
  have HB1 := Lib.hid (HB.out.trans (hb.mono HB.out.size))
  have k0 := HM1.out.c0; have k1 := HM1.out.c1
  clear hb
  go_wp2_with fail
  refine (HCT.out _ HB1.out).mono ?_
  rintro e w2 ⟨x, y, z, rfl, HX, HY, HZ, hb⟩
  have HR2 := Lib.hid (HR1.out.next hb)
  have HM2 := Lib.hid (HM1.out.next hb)
  have HB2 := Lib.hid (HB1.out.trans (hb.mono HB1.out.size))
  clear hb k0 k1
  have HRR : Hid (∀ W', Below w2.heap.size w2 W' → Mb (W.heap.size + 1) none 0 W') := fun W' h => HR2.out.next h
  have HALL : Hid (∀ W', Below w2.heap.size w2 W' → W'.cell? ⟨W.heap.size, 0, none⟩ = some (.pointer (some ⟨b, 0, none⟩)) ∧ W'.cell? ⟨W.heap.size, 1, none⟩ = some (.int .i64 size)) := fun W' h => ⟨(HM2.out.next h).c0, (HM2.out.next h).c1⟩
  have HST : Hid (∀ W' u v, Below w2.heap.size w2 W' → ((W'.setCell ⟨W.heap.size + 1, 0, none⟩ u).setCell ⟨W.heap.size + 1, 1, none⟩ v).cell? ⟨W.heap.size, 0, none⟩ = some (.pointer (some ⟨b, 0, none⟩)) ∧ ((W'.setCell ⟨W.heap.size + 1, 0, none⟩ u).setCell ⟨W.heap.size + 1, 1, none⟩ v).cell? ⟨W.heap.size, 1, none⟩ = some (.int .i64 size)) := fun W' u v h => ⟨((HM2.out.next h).other (by omega) u v).c0, ((HM2.out.next h).other (by omega) u v).c1⟩
  have HGL2 : Hid (∀ W', Below w2.heap.size w2 W' → Calls Try.prog 37 #[.pointer x, .agg #[.int .i64 lo, .int .i64 hi, .int .i64 tag], .pointer z] W' fun e w' => ∃ g, e = .returned (.pointer (some ⟨g, 0, none⟩)) ∧ Hid (Tr (put f lo hi tag) 0 size 8193 w' (some ⟨g, 0, none⟩)) ∧ Below w2.heap.size w2 w') := fun W' h => (HGL.out x z W' (HX.out.below h) (HZ.out.below h)).mono fun e w' ⟨g, he, ht, hB⟩ => ⟨g, he, ht, h.trans (hB.mono h.size)⟩
  have HWI2 : Hid (∀ g W', Below w2.heap.size w2 W' → Hid (Tr (put f lo hi tag) 0 size 8193 W' (some ⟨g, 0, none⟩)) → Calls Try.prog 33 #[.agg #[.pointer (some ⟨b, 0, none⟩), .int .i64 size], .pointer (some ⟨g, 0, none⟩)] W' fun e w' => ∃ q s e2, e = .returned (.tuple #[.agg #[.pointer q, .int .i64 s], .int .i64 e2]) ∧ Hid (Upd f (put f lo hi tag) size 0 q s e2 w') ∧ Below w2.heap.size w2 w') := fun g W' h ht => (HWI.out g W' ht.out).mono fun e w' ⟨q, s, e2, he, hu, hB⟩ => ⟨q, s, e2, he, hu, h.trans (hB.mono h.size)⟩
  have hs : Below w2.heap.size w2 w2 := Below.refl _ _
  have hs2 := hs.drew
  have hcl := HALL.out _ hs2
  have hc0 := HALL.out _ hs
  go_wp2_with fail
  go_region_held3 (fun W' : World => W'.cell? ⟨W.heap.size, 0, none⟩ = some (.pointer (some ⟨b, 0, none⟩)) ∧ W'.cell? ⟨W.heap.size, 1, none⟩ = some (.int .i64 size)) (first | assumption | (with_reducible exact HST.out _ _ _ (by assumption)) | fail) (first
    | (go_at_call 37; with_reducible refine (HGL2.out _ ?h).mono ?_; (case h => assumption); rintro e w' ⟨g, rfl, hgt, hs1'⟩; have hc1' := HALL.out _ hs1')
    | (go_at_call 33; with_reducible refine (HWI2.out _ _ ?h ?r).mono ?_; (case h => assumption); (case r => assumption); rintro e w' ⟨q, s, e2, rfl, hu, hs2'⟩; have hc2' := HALL.out _ hs2'; have hr' := HRR.out _ hs2'; have r0 := hr'.c0; have r1 := hr'.c1; have r2 := hr'.f0; have r3 := hr'.f1; have hp' := hr'.put q s; have v0 := hp'.c0; have v1 := hp'.c1) | fail)
  all_goals
    have HBF := Lib.hid (below_put (HB2.out.trans (hs2'.mono HB2.out.size)) (B := W.heap.size + 1) (by omega) (.pointer q) (.int .i64 s))
    have HUF := Lib.hid (hr'.upd hu.out (.pointer q) (.int .i64 s))
    clear hs hs2 hcl hc0 hs1' hc1' hs2' hc2' r0 r1 r2 r3 hp' hr' hu
    go_wp2_with fail
    refine bodyPost_ret (v := .tuple #[.agg #[.pointer q, .int .i64 s], .int .i64 e2]) (by simp [results, Try.results14, go_sem, v0, v1]) rfl ?_
    exact ⟨q, s, e2, rfl, HUF.out, HBF.out⟩
/-- Set, of a usable map -/
theorem Set_any {f : Int → Int} {size lo hi tag : Int} {W : World} {p : Option Addr} (h : IsM f size W p) :
    Calls Try.prog 14 #[.agg #[.pointer p, .int .i64 size], .int .i64 lo, .int .i64 hi, .int .i64 tag] W fun e w' => ∃ q s e2, e = .returned (.tuple #[.agg #[.pointer q, .int .i64 s], .int .i64 e2]) ∧ Hid (Upd f (put f lo hi tag) size (errOf size lo hi [tag]) q s e2 w') ∧ Below W.heap.size W w' := by
  by_cases her : errOf size lo hi [tag] = 0
  · by_cases hne : lo = hi
    · subst hne
      refine (Set_none h her).mono ?_
      rintro e w' ⟨rfl, hB⟩
      refine ⟨p, size, 0, rfl, ?_, hB⟩
      rw [her]
      exact Upd.same ((h.below hB).congr fun x => by simp only [put]; rw [if_neg (by omega)])
    · have := Set_ok h her hne
      rw [her]
      exact this
  · refine (Set_err h her).mono ?_
    rintro e w' ⟨rfl, hB⟩
    exact ⟨none, 0, _, rfl, .inl ⟨her, rfl, rfl, rfl⟩, hB⟩
end Go.Proofs.Ytjbenhmpeceaeab
namespace Go.Proofs.Ytjbenhmpeceaeab
open Go Go.RowKit Gs

theorem build_empty (a : Option Addr) (c : Nat) (W : World) : Calls Try.prog 48 #[.slice a 0 c] W fun e w' => e = .returned (.pointer none) ∧ W = w' := by
  go_enter Try.func48, Try.ntmps48
  go_wp2_with fail
  go_ret
  exact ⟨rfl, rfl⟩
set_option maxHeartbeats 1000000 in
theorem build_one (B : Nat) (size : Int) (W : World) (h1 : 1 ≤ size) (h2 : size ≤ 1099511627776) (hB : B < W.heap.size) (c0 : W.cell? ⟨B, 0, none⟩ = some (.int .i64 0)) (c1 : W.cell? ⟨B, 1, none⟩ = some (.int .i64 size)) (c2 : W.cell? ⟨B, 2, none⟩ = some (.int .i64 0)) :
    Calls Try.prog 48 #[.slice (some ⟨B, 0, none⟩) 1 1] W fun e w' => ∃ g, e = .returned (.pointer (some ⟨g, 0, none⟩)) ∧ Hid (IsT w' (.node .nil ⟨0, size, 0⟩ .nil) (.pointer (some ⟨g, 0, none⟩))) ∧ Below W.heap.size W w' := by
  have HBE := Lib.hid (fun a c W' => build_empty a c W')
  have HNN : Hid (∀ W', Below W.heap.size W W' → Calls Try.prog 57 #[.pointer none, .agg #[.int .i64 0, .int .i64 size, .int .i64 0], .pointer none] W' fun e w' => ∃ g, e = .returned (.pointer (some ⟨g, 0, none⟩)) ∧ Hid (IsT w' (.node .nil ⟨0, size, 0⟩ .nil) (.pointer (some ⟨g, 0, none⟩))) ∧ Below W.heap.size W w') := fun W' h =>
    (newNode_any .nil .nil 0 size 0 _ _ W' rfl rfl ⟨by simp [T.L], fun r hr => by
      simp only [T.L, List.nil_append, List.mem_singleton] at hr
      subst hr
      exact ⟨Int.le_refl 0, by show (0 : Int) < size; omega, h2, Int.le_refl 0, by show (0 : Int) < 16; omega⟩⟩).mono fun e w' ⟨g, he, ht, hB⟩ => ⟨g, he, ht, h.trans (hB.mono h.size)⟩
  have HALL : Hid (∀ W', Below W.heap.size W W' → W'.cell? ⟨B, 0, none⟩ = some (.int .i64 0) ∧ W'.cell? ⟨B, 1, none⟩ = some (.int .i64 size) ∧ W'.cell? ⟨B, 2, none⟩ = some (.int .i64 0)) := fun W' h => ⟨(h.cell (p := ⟨B, 0, none⟩) hB).trans c0, (h.cell (p := ⟨B, 1, none⟩) hB).trans c1, (h.cell (p := ⟨B, 2, none⟩) hB).trans c2⟩
  clear c0 c1 c2 h1 h2
  have hw1 : IntKind.i64.wrap ((0 : Int) + 1) = 1 := IntWalk.i64_in _ (by omega)
  have hw2 : IntKind.i64.wrap (1 : Int) = 1 := IntWalk.i64_in _ (by omega)
  have hs : Below W.heap.size W W := Below.refl _ _
  have hs2 := hs.drew
  have hcl := HALL.out _ hs2
  have hc0 := HALL.out _ hs
  go_enter Try.func48, Try.ntmps48
  go_wp2_with fail
  go_region_held3 (fun W' : World => W'.cell? ⟨B, 0, none⟩ = some (.int .i64 0) ∧ W'.cell? ⟨B, 1, none⟩ = some (.int .i64 size) ∧ W'.cell? ⟨B, 2, none⟩ = some (.int .i64 0)) (first | assumption | fail) (first
    | (go_at_call 48; with_reducible refine (HBE.out _ _ _).mono ?_; rintro e w' ⟨rfl, rfl⟩)
    | (go_at_call 57; with_reducible refine (HNN.out _ ?h).mono ?_; (case h => assumption); rintro e w' ⟨g, rfl, hgt, hs'⟩; have hc' := HALL.out _ hs') | fail)
  all_goals
    have HBF := Lib.hid hs'
    clear hs hs2 hcl hc0 hs' hc'
    go_wp2_with fail
    go_ret
    exact ⟨g, rfl, hgt, HBF.out⟩
set_option maxHeartbeats 1000000 in
theorem areRuns_one (B c : Nat) (size : Int) (W : World) (h1 : 1 ≤ size) (hB : B < W.heap.size) (c0 : W.cell? ⟨B, 0, none⟩ = some (.int .i64 0)) (c1 : W.cell? ⟨B, 1, none⟩ = some (.int .i64 size)) (c2 : W.cell? ⟨B, 2, none⟩ = some (.int .i64 0)) :
    Calls Try.prog 58 #[.int .i64 size, .slice (some ⟨B, 0, none⟩) 1 c] W fun e w' => e = .returned (.bool true) ∧ Below W.heap.size W w' := by
  have HTG : Hid (∀ W', Calls Try.prog 40 #[.int .i64 0] W' fun e w' => e = .returned (.bool true) ∧ W' = w') := fun W' => isTag_any 0 W'
  have HALL : Hid (∀ W', Below W.heap.size W W' → W'.cell? ⟨B, 0, none⟩ = some (.int .i64 0) ∧ W'.cell? ⟨B, 1, none⟩ = some (.int .i64 size) ∧ W'.cell? ⟨B, 2, none⟩ = some (.int .i64 0)) := fun W' h => ⟨(h.cell (p := ⟨B, 0, none⟩) hB).trans c0, (h.cell (p := ⟨B, 1, none⟩) hB).trans c1, (h.cell (p := ⟨B, 2, none⟩) hB).trans c2⟩
  clear c0 c1 c2
  have hle : ¬ size ≤ 0 := by omega
  have hm1 : ((0 : Int) == -1) = false := by decide
  go_enter Try.func58, Try.ntmps58
  go_wp2_with fail
  go_loopw [5, 6, 11] (fun s5 s6 s11 wr => ∃ j : Nat, j ≤ 1 ∧ s11 = .int .i64 j ∧ s5 = .int .i64 (if j = 0 then 0 else size) ∧ s6 = .int .i64 (if j = 0 then -1 else 0) ∧ Hid (Below W.heap.size W wr)) (fun _ _ i _ => 1 - (intOf i).toNat)
  case atStart => exact ⟨0, by omega, rfl, rfl, rfl, Below.refl _ _⟩
  case round =>
    obtain ⟨j, hj, rfl, rfl, rfl, HB⟩ := hrel
    have h01 : j = 0 ∨ j = 1 := by omega
    rcases h01 with rfl | rfl
    · obtain ⟨k0, k1, k2⟩ := HALL.out wr HB.out
      have hq : Bq wr 0 size 0 (wr.alloc (.cells #[.int .i64 0, .int .i64 size, .int .i64 0] 46)) := Bq.new _ _ _ _ _
      obtain ⟨w1, HW1⟩ : ∃ w1, w1 = wr.alloc (.cells #[.int .i64 0, .int .i64 size, .int .i64 0] 46) := ⟨_, rfl⟩
      rw [← HW1] at hq
      have HB1 : Hid (Below W.heap.size W w1) := HB.out.trans (hq.bel.mono HB.out.size)
      have q0 := hq.c0; have q1 := hq.c1; have q2 := hq.c2
      have HW := Lib.hid HW1
      clear HW1 hq
      go_wp2_with fail
      rw [← HW.out]
      refine (HTG.out _).mono ?_
      rintro e w2 ⟨rfl, rfl⟩
      go_wp2_with fail
      go_quiet (fail)
      go_wp2_with fail
      go_roundw
      case rel => exact ⟨1, by omega, by go_num, rfl, rfl, below_drewN HB1.out _⟩
      case measure => simp [intOf]
    · go_wp2_with fail
      go_ret
      exact ⟨rfl, HB.out⟩
set_option maxHeartbeats 1000000 in
theorem From_one (B : Nat) (size : Int) (W : World) (h1 : 1 ≤ size) (h2 : size ≤ 1099511627776) (hB : B < W.heap.size) (c0 : W.cell? ⟨B, 0, none⟩ = some (.int .i64 0)) (c1 : W.cell? ⟨B, 1, none⟩ = some (.int .i64 size)) (c2 : W.cell? ⟨B, 2, none⟩ = some (.int .i64 0)) :
    Calls Try.prog 50 #[.int .i64 size, .slice (some ⟨B, 0, none⟩) 1 1] W fun e w' => ∃ q, e = .returned (.tuple #[.agg #[.pointer q, .int .i64 size], .int .i64 0]) ∧ Hid (IsM (fun _ => 0) size w' q) ∧ Below W.heap.size W w' := by
  have HALL : Hid (∀ W', Below W.heap.size W W' → W'.cell? ⟨B, 0, none⟩ = some (.int .i64 0) ∧ W'.cell? ⟨B, 1, none⟩ = some (.int .i64 size) ∧ W'.cell? ⟨B, 2, none⟩ = some (.int .i64 0)) := fun W' h => ⟨(h.cell (p := ⟨B, 0, none⟩) hB).trans c0, (h.cell (p := ⟨B, 1, none⟩) hB).trans c1, (h.cell (p := ⟨B, 2, none⟩) hB).trans c2⟩
  obtain ⟨w0, HW⟩ : ∃ w0, w0 = W.alloc (.cells #[.pointer none, .int .i64 0] 27) := ⟨_, rfl⟩
  have hm : Mb W.heap.size none 0 w0 := by rw [HW]; exact Mb.new _ _ _ _
  have hb0 : Below W.heap.size W w0 := by rw [HW]; exact (Below.refl _ _).alloc (Nat.le_refl _) _
  have HAR : Hid (Calls Try.prog 58 #[.int .i64 size, .slice (some ⟨B, 0, none⟩) 1 1] w0 fun e w' => e = .returned (.bool true) ∧ Below w0.heap.size w0 w') := by
    obtain ⟨k0, k1, k2⟩ := HALL.out w0 hb0
    exact areRuns_one B 1 size w0 h1 (Nat.lt_of_lt_of_le hB hb0.size) k0 k1 k2
  have HBO : Hid (∀ W', Below W.heap.size W W' → Calls Try.prog 48 #[.slice (some ⟨B, 0, none⟩) 1 1] W' fun e w' => ∃ g, e = .returned (.pointer (some ⟨g, 0, none⟩)) ∧ Hid (IsT w' (.node .nil ⟨0, size, 0⟩ .nil) (.pointer (some ⟨g, 0, none⟩))) ∧ Below W'.heap.size W' w') := fun W' hb => by
    obtain ⟨k0, k1, k2⟩ := HALL.out W' hb
    exact build_one B size W' h1 h2 (Nat.lt_of_lt_of_le hB hb.size) k0 k1 k2
  have HIM : Hid (∀ w' q, IsT w' (.node .nil ⟨0, size, 0⟩ .nil) (.pointer q) → IsM (fun _ => 0) size w' q) := fun w' q h =>
    ⟨h1, ⟨Int.le_refl 0, h2, fun _ _ _ => ⟨Int.le_refl 0, by show (0 : Int) < 16; omega⟩⟩, .node .nil ⟨0, size, 0⟩ .nil, h, Gs.Can.one (f := fun _ => 0) (r := ⟨0, size, 0⟩) (by show (0 : Int) < size; omega) (fun _ _ _ => rfl), by simp [T.sz]⟩
  have HM := Lib.hid hm; have HB := Lib.hid hb0; have HW' := Lib.hid HW
  have q1 : ¬ size < 1 := by omega
  have q2 : ¬ size > 1099511627776 := by omega
  clear c0 c1 c2 hm hb0 HW h1 h2
  go_enter Try.func50, Try.ntmps50
  go_wp2_with fail
  rw [← HW'.out]
  refine HAR.out.mono ?_
  rintro e w1 ⟨rfl, hb⟩
  have HM1 := Lib.hid (HM.out.next hb)
  have HB1 := Lib.hid (HB.out.trans (hb.mono HB.out.size))
  clear hb
  go_wp2_with fail
  refine (HBO.out _ HB1.out).mono ?_
  rintro e w2 ⟨g, rfl, HT, hb⟩
  have HM2 := Lib.hid (HM1.out.next hb)
  have HB2 := Lib.hid (HB1.out.trans (hb.mono HB1.out.size))
  have d0 := HM2.out.c0; have d1 := HM2.out.c1; have d2 := HM2.out.f0; have d3 := HM2.out.f1
  obtain ⟨u0, u1⟩ : _ ∧ _ := ⟨(HM2.out.put (some ⟨g, 0, none⟩) size).c0, (HM2.out.put (some ⟨g, 0, none⟩) size).c1⟩
  clear hb
  go_wp2_with fail
  refine bodyPost_ret (v := .tuple #[.agg #[.pointer (some ⟨g, 0, none⟩), .int .i64 size], .int .i64 0]) (by simp [results, Try.results50, go_sem, u0, u1]) rfl ?_
  have hi := HIM.out w2 _ HT.out
  exact ⟨_, rfl, ⟨hi.lo, hi.ctx, HM2.out.tr hi.tr _ _⟩, below_put HB2.out (B := W.heap.size) (Nat.le_refl _) (.pointer (some ⟨g, 0, none⟩)) (.int .i64 size)⟩
theorem From_bad (a : Option Addr) (n c : Nat) (size : Int) (W : World) (h : size < 1 ∨ size > 1099511627776) :
    Calls Try.prog 50 #[.int .i64 size, .slice a n c] W fun e w' => e = .returned (.tuple #[.agg #[.pointer none, .int .i64 0], .int .i64 2]) ∧ Below W.heap.size W w' := by
  have HB : Hid (Below W.heap.size W (W.alloc (.cells #[.pointer none, .int .i64 0] 27))) := (Below.refl _ _).alloc (Nat.le_refl _) _
  by_cases h1 : size < 1
  · clear h
    go_enter Try.func50, Try.ntmps50
    go_wp2_with fail
    refine bodyPost_ret (v := .tuple #[.agg #[.pointer none, .int .i64 0], .int .i64 2]) (by simp [results, Try.results50, go_sem]) rfl ?_
    exact ⟨rfl, HB.out⟩
  · have h2 : size > 1099511627776 := by omega
    clear h
    go_enter Try.func50, Try.ntmps50
    go_wp2_with fail
    refine bodyPost_ret (v := .tuple #[.agg #[.pointer none, .int .i64 0], .int .i64 2]) (by simp [results, Try.results50, go_sem]) rfl ?_
    exact ⟨rfl, HB.out⟩
set_option maxHeartbeats 1000000 in
/-- New: a map, all of whose pieces have the tag 0, or ErrArg -/
theorem New_any (size : Int) (W : World) : Calls Try.prog 28 #[.int .i64 size] W fun e w' => ∃ q s e2, e = .returned (.tuple #[.agg #[.pointer q, .int .i64 s], .int .i64 e2]) ∧ Hid ((e2 = 0 ∧ s = size ∧ IsM (fun _ => 0) size w' q) ∨ (e2 = 2 ∧ q = none ∧ s = 0 ∧ (size < 1 ∨ 1099511627776 < size))) ∧ Below W.heap.size W w' := by
  obtain ⟨w0, HW⟩ : ∃ w0, w0 = (W.alloc (.cells #[.pointer none, .int .i64 0] 27)).alloc (.cells #[.int .i64 0, .int .i64 size, .int .i64 0] 46) := ⟨_, rfl⟩
  have hm1 := Mb.new W none 0 27
  have hm : Mb W.heap.size none 0 w0 := by rw [HW]; exact hm1.next ((Below.refl _ _).alloc (Nat.le_refl _) _)
  have hb0 : Below W.heap.size W w0 := by rw [HW]; exact ((Below.refl _ _).alloc (Nat.le_refl _) _).alloc (by simp) _
  have hlt : W.heap.size + 1 < w0.heap.size := by rw [HW]; simp
  have c0 : w0.cell? ⟨W.heap.size + 1, 0, none⟩ = some (.int .i64 0) := by rw [HW]; exact World.cell?_alloc_at _ _ _ _ (by simp)
  have c1 : w0.cell? ⟨W.heap.size + 1, 1, none⟩ = some (.int .i64 size) := by rw [HW]; exact World.cell?_alloc_at _ _ _ _ (by simp)
  have c2 : w0.cell? ⟨W.heap.size + 1, 2, none⟩ = some (.int .i64 0) := by rw [HW]; exact World.cell?_alloc_at _ _ _ _ (by simp)
  have HFR : Hid (Calls Try.prog 50 #[.int .i64 size, .slice (some ⟨W.heap.size + 1, 0, none⟩) 1 1] w0 fun e w' => ∃ q s e2, e = .returned (.tuple #[.agg #[.pointer q, .int .i64 s], .int .i64 e2]) ∧ Hid ((e2 = 0 ∧ s = size ∧ IsM (fun _ => 0) size w' q) ∨ (e2 = 2 ∧ q = none ∧ s = 0 ∧ (size < 1 ∨ 1099511627776 < size))) ∧ Below w0.heap.size w0 w') := by
    by_cases h : size < 1 ∨ size > 1099511627776
    · refine (From_bad _ 1 1 size w0 h).mono ?_
      rintro e w' ⟨rfl, hB⟩
      exact ⟨none, 0, 2, rfl, .inr ⟨rfl, rfl, rfl, h⟩, hB⟩
    · refine (From_one (W.heap.size + 1) size w0 (by omega) (by omega) hlt c0 c1 c2).mono ?_
      rintro e w' ⟨q, rfl, hq, hB⟩
      exact ⟨q, size, 0, rfl, .inl ⟨rfl, rfl, hq.out⟩, hB⟩
  have HM := Lib.hid hm; have HB := Lib.hid hb0; have HW' := Lib.hid HW
  clear hm1 hm hb0 hlt c0 c1 c2 HW
  go_enter Try.func28, Try.ntmps28
  go_wp2_with fail
  rw [← HW'.out]
  refine HFR.out.mono ?_
  rintro e w1 ⟨q, s, e2, rfl, HQ, hb⟩
  have HM1 := Lib.hid (HM.out.next hb)
  have HB1 := Lib.hid (HB.out.trans (hb.mono HB.out.size))
  have d0 := HM1.out.c0; have d1 := HM1.out.c1; have d2 := HM1.out.f0; have d3 := HM1.out.f1
  obtain ⟨u0, u1⟩ : _ ∧ _ := ⟨(HM1.out.put q s).c0, (HM1.out.put q s).c1⟩
  clear hb
  go_wp2_with fail
  refine bodyPost_ret (v := .tuple #[.agg #[.pointer q, .int .i64 s], .int .i64 e2]) (by simp [results, Try.results28, go_sem, u0, u1]) rfl ?_
  refine ⟨q, s, e2, rfl, ?_, below_put HB1.out (B := W.heap.size) (Nat.le_refl _) (.pointer q) (.int .i64 s)⟩
  rcases HQ.out with ⟨h1, h2, h3⟩ | h
  · exact .inl ⟨h1, h2, h3.lo, h3.ctx, HM1.out.tr h3.tr _ _⟩
  · exact .inr h
end Go.Proofs.Ytjbenhmpeceaeab
namespace Go.Proofs.Ytjbenhmpeceaeab
open Go Go.RowKit Gs

theorem Size_any (p : Option Addr) (size : Int) (W : World) : Calls Try.prog 15 #[.agg #[.pointer p, .int .i64 size]] W fun e w' => e = .returned (.int .i64 size) ∧ Below W.heap.size W w' := by
  have HB : Hid (∀ o, Below W.heap.size W (W.alloc o)) := fun o => (Below.refl _ _).alloc (Nat.le_refl _) _
  go_enter Try.func15, Try.ntmps15
  go_wp2_with fail
  go_ret
  exact ⟨rfl, HB.out _⟩
theorem Len_any {f : Int → Int} {size s : Int} {n : Nat} {W : World} {p : Option Addr} (h : Tr f 0 size n W p) : ∃ L, Gs.Can f 0 L size ∧ L.length ≤ n ∧ Calls Try.prog 25 #[.agg #[.pointer p, .int .i64 s]] W fun e w' => e = .returned (.int .i64 L.length) ∧ Below W.heap.size W w' := by
  obtain ⟨t, t1, t2, t3⟩ := h
  refine ⟨t.L, t2, by rw [← T.sz_eq]; exact t3, ?_⟩
  have HB : Hid (∀ o, Below W.heap.size W (W.alloc o)) := fun o => (Below.refl _ _).alloc (Nat.le_refl _) _
  have HLN : Hid (∀ o, Calls Try.prog 49 #[.pointer p] (W.alloc o) fun e w' => e = .returned (.int .i64 t.sz) ∧ W.alloc o = w') := fun o => len_any t _ _ (IsT.below ((Below.refl _ _).alloc (Nat.le_refl _) _) t1)
  have HE : Hid (t.sz = t.L.length) := t.sz_eq
  clear t1 t2 t3
  generalize t.L.length = n2 at *
  generalize t.sz = n1 at *
  go_enter Try.func25, Try.ntmps25
  go_wp2_with fail
  refine (HLN.out _).mono ?_
  rintro e w1 ⟨rfl, rfl⟩
  go_wp2_with fail
  go_ret
  exact ⟨by rw [← HE.out]; rfl, HB.out _⟩
theorem few_any (a : Option Addr) (n c : Nat) (W : World) : Calls Try.prog 22 #[.slice a n c] W fun e w' => e = .returned (.bool (decide (n ≤ 60))) ∧ W = w' := by
  by_cases h : n ≤ 60
  · have h1 : (n : Int) ≤ 60 := by omega
    have HE : Hid (decide (n ≤ 60) = true) := decide_eq_true h
    clear h
    generalize decide (n ≤ 60) = d at *
    go_enter Try.func22, Try.ntmps22
    go_wp2_with fail
    go_ret
    exact ⟨by rw [HE.out]; rfl, rfl⟩
  · have h1 : ¬ (n : Int) ≤ 60 := by omega
    have HE : Hid (decide (n ≤ 60) = false) := decide_eq_false h
    clear h
    generalize decide (n ≤ 60) = d at *
    go_enter Try.func22, Try.ntmps22
    go_wp2_with fail
    go_ret
    exact ⟨by rw [HE.out]; rfl, rfl⟩
/-- the map of awake -/
def fA : Int → Int := put (fun _ => 0) 2 5 1
def LA : List R := [⟨0, 2, 0⟩, ⟨2, 5, 1⟩, ⟨5, 10, 0⟩]
theorem can_A : Gs.Can fA 0 LA 10 := by
  refine ⟨⟨rfl, by decide, fun p h1 h2 => ?_, rfl, by decide, fun p h1 h2 => ?_, rfl, by decide, fun p h1 h2 => ?_, rfl⟩, by decide, by decide, trivial⟩
  · have h2 : p < 2 := h2
    show (if 2 ≤ p ∧ p < 5 then (1 : Int) else 0) = 0
    rw [if_neg (by omega)]
  · have h1 : 2 ≤ p := h1
    have h2 : p < 5 := h2
    show (if 2 ≤ p ∧ p < 5 then (1 : Int) else 0) = 1
    rw [if_pos ⟨h1, h2⟩]
  · have h1 : 5 ≤ p := h1
    show (if 2 ≤ p ∧ p < 5 then (1 : Int) else 0) = 0
    rw [if_neg (by omega)]
theorem find_A {x : Int} (h0 : 0 ≤ x) (h1 : x < 10) (hf : fA x = 1) (hc : cb x 1 LA = 2) : x = 4 := by
  have : x = 0 ∨ x = 1 ∨ x = 2 ∨ x = 3 ∨ x = 4 ∨ x = 5 ∨ x = 6 ∨ x = 7 ∨ x = 8 ∨ x = 9 := by omega
  rcases this with rfl | rfl | rfl | rfl | rfl | rfl | rfl | rfl | rfl | rfl <;> first | rfl | (revert hf hc; decide)
set_option maxHeartbeats 2000000 in
theorem awake_any (W : World) : Calls Try.prog 11 #[] W fun e w' => e = .returned (.bool true) ∧ Below W.heap.size W w' := by
  have HN := Lib.hid (New_any 10 W)
  go_enter Try.func11, Try.ntmps11
  go_wp2_with fail
  refine HN.out.mono ?_
  rintro e w1 ⟨q, s, e2, rfl, HQ, hb⟩
  have HB1 := Lib.hid hb
  clear hb
  rcases HQ.out with ⟨rfl, rfl, hq⟩ | ⟨_, _, _, h⟩
  · have HI := Lib.hid hq
    clear hq
    obtain ⟨w2, HW2⟩ : ∃ w2, w2 = w1.alloc (.cells #[.pointer q, .int .i64 10] 27) := ⟨_, rfl⟩
    have hb2 : Below w1.heap.size w1 w2 := by rw [HW2]; exact (Below.refl _ _).alloc (Nat.le_refl _) _
    have HB2 := Lib.hid (HB1.out.trans (hb2.mono HB1.out.size))
    have HS := Lib.hid (Set_any (lo := 2) (hi := 5) (tag := 1) (HI.out.below hb2))
    have HW := Lib.hid HW2
    clear hb2 HW2
    go_wp2_with fail
    rw [← HW.out]
    refine HS.out.mono ?_
    rintro e w3 ⟨q2, s2, e3, rfl, HU, hb⟩
    have HB3 := Lib.hid (HB2.out.trans (hb.mono HB2.out.size))
    clear hb HW
    rcases HU.out with ⟨h, _⟩ | ⟨_, _, _, _, L, hL, hlen⟩ | ⟨_, rfl, rfl, hq⟩
    · exact absurd (by decide) h
    · have := Gs.Can.same hL can_A
      subst this
      exact absurd hlen (by decide)
    · obtain ⟨w4, HW4⟩ : ∃ w4, w4 = w3.alloc (.cells #[.pointer q2, .int .i64 10] 27) := ⟨_, rfl⟩
      have hm4 : Mb w3.heap.size q2 10 w4 := by rw [HW4]; exact Mb.new _ _ _ _
      have hb4 : Below w3.heap.size w3 w4 := by rw [HW4]; exact (Below.refl _ _).alloc (Nat.le_refl _) _
      have HB4 := Lib.hid (HB3.out.trans (hb4.mono HB3.out.size))
      have HI4 := Lib.hid (hq.below hb4)
      have HM4 := Lib.hid hm4
      have HW := Lib.hid HW4
      obtain ⟨L, hL, hcount⟩ := Count_ok (k := 1) (lo := 0) (hi := 4) HI4.out (by decide) (by decide) (by decide) (by decide)
      have e := Gs.Can.same hL can_A
      subst e
      have HC : Hid (Calls Try.prog 16 #[.agg #[.pointer q2, .int .i64 10], .int .i64 0, .int .i64 4, .int .i64 1] w4 fun e w' => e = .returned (.tuple #[.int .i64 2, .int .i64 0]) ∧ Below w4.heap.size w4 w') := hcount
      clear hL hcount hq hm4 hb4 HW4
      go_wp2_with fail
      rw [← HW.out]
      refine HC.out.mono ?_
      rintro e w5 ⟨rfl, hb⟩
      have HB5 := Lib.hid (HB4.out.trans (hb.mono HB4.out.size))
      have HI5 := Lib.hid (HI4.out.below hb)
      have HM5 := Lib.hid (HM4.out.next hb)
      obtain ⟨L, hL, hfind⟩ := Find_any (tag := 1) (k := 2) HI5.out
      have e := Gs.Can.same hL can_A
      subst e
      have HF := Lib.hid hfind
      have k0 := HM5.out.c0; have k1 := HM5.out.c1
      clear hb hL hfind
      go_wp2_with fail
      refine HF.out.mono ?_
      rintro e w6 ⟨x, is, rfl, HX, hb⟩
      have HB6 := Lib.hid (HB5.out.trans (hb.mono HB5.out.size))
      have HI6 := Lib.hid (HI5.out.below hb)
      have HM6 := Lib.hid (HM5.out.next hb)
      obtain ⟨L, hL, _, hlen⟩ := Len_any (s := 10) HI6.out.tr
      have e := Gs.Can.same hL can_A
      subst e
      have HL : Hid (Calls Try.prog 25 #[.agg #[.pointer q2, .int .i64 10]] w6 fun e w' => e = .returned (.int .i64 3) ∧ Below w6.heap.size w6 w') := hlen
      clear hb hL hlen k0 k1
      have k0 := HM6.out.c0; have k1 := HM6.out.c1
      rcases HX.out with ⟨rfl, _, _, _, h1, h2, h3, h4⟩ | ⟨_, _, h⟩
      · obtain rfl := find_A h1 h2 h3 h4
        clear h1 h2 h3 h4
        go_wp2_with fail
        refine HL.out.mono ?_
        rintro e w7 ⟨rfl, hb⟩
        have HB7 := Lib.hid (HB6.out.trans (hb.mono HB6.out.size))
        clear hb k0 k1
        go_wp2_with fail
        go_ret
        exact ⟨rfl, HB7.out⟩
      · exfalso
        rcases h with h | h | h
        · exact absurd h (by decide)
        · exact absurd h (by decide)
        · exact absurd h (by decide)
  · omega
end Go.Proofs.Ytjbenhmpeceaeab
namespace Go.Proofs.Ytjbenhmpeceaeab
open Go Go.RowKit Gs

theorem Get_un (size x : Int) (W : World) : Calls Try.prog 12 #[.agg #[.pointer none, .int .i64 size], .int .i64 x] W fun e w' => e = .returned (.tuple #[.int .i64 0, .int .i64 1]) ∧ Below W.heap.size W w' := by
  have HUS := Lib.hid (fun W' => isUsable_none size W')
  have HB : Hid (∀ o, Below W.heap.size W (W.alloc o)) := fun o => (Below.refl _ _).alloc (Nat.le_refl _) _
  go_enter Try.func12, Try.ntmps12
  go_wp2_with fail
  refine (HUS.out _).mono ?_
  rintro e w1 ⟨rfl, hb⟩
  have HB1 := Lib.hid ((HB.out _).trans (hb.mono (HB.out _).size))
  clear hb
  go_wp2_with fail
  refine bodyPost_ret (v := .tuple #[.int .i64 0, .int .i64 1]) (by simp [results, Try.results12, go_sem]) rfl ?_
  exact ⟨rfl, HB1.out⟩
theorem Count_un (size lo hi tag : Int) (W : World) : Calls Try.prog 16 #[.agg #[.pointer none, .int .i64 size], .int .i64 lo, .int .i64 hi, .int .i64 tag] W fun e w' => e = .returned (.tuple #[.int .i64 0, .int .i64 1]) ∧ Below W.heap.size W w' := by
  have HCK := Lib.hid (fun a n c W' => check_none size lo hi a n c W')
  obtain ⟨w0, HW⟩ : ∃ w0, w0 = (W.alloc (.cells #[.pointer none, .int .i64 size] 27)).alloc (.cells #[.int .i64 tag] 3) := ⟨_, rfl⟩
  have HB : Hid (Below W.heap.size W w0) := by rw [HW]; exact ((Below.refl _ _).alloc (Nat.le_refl _) _).alloc (by simp) _
  have HW' := Lib.hid HW
  clear HW
  go_enter Try.func16, Try.ntmps16
  go_wp2_with fail
  rw [← HW'.out]
  refine (HCK.out _ _ _ _).mono ?_
  rintro e w1 ⟨rfl, hb⟩
  have HB1 := Lib.hid (HB.out.trans (hb.mono HB.out.size))
  clear hb
  go_wp2_with fail
  refine bodyPost_ret (v := .tuple #[.int .i64 0, .int .i64 1]) (by simp [results, Try.results16, go_sem]) rfl ?_
  exact ⟨rfl, HB1.out⟩
theorem Set_un (size lo hi tag : Int) (W : World) : Calls Try.prog 14 #[.agg #[.pointer none, .int .i64 size], .int .i64 lo, .int .i64 hi, .int .i64 tag] W fun e w' => e = .returned (.tuple #[.agg #[.pointer none, .int .i64 0], .int .i64 1]) ∧ Below W.heap.size W w' := by
  have HCK := Lib.hid (fun a n c W' => check_none size lo hi a n c W')
  obtain ⟨w0, HW, hm, hr, hc, hlt, hb⟩ := boxes3 W none size 27 #[.int .i64 tag] 3
  have HR := Lib.hid hr; have HB := Lib.hid hb; have HW' := Lib.hid HW
  clear hm hr hb HW hc hlt
  go_enter Try.func14, Try.ntmps14
  go_wp2_with fail
  rw [← HW'.out]
  refine (HCK.out _ _ _ _).mono ?_
  rintro e w1 ⟨rfl, hb⟩
  have HR1 := Lib.hid (HR.out.next hb)
  have HB1 := Lib.hid (HB.out.trans (hb.mono HB.out.size))
  have d0 := HR1.out.c0; have d1 := HR1.out.c1; have d2 := HR1.out.f0; have d3 := HR1.out.f1
  obtain ⟨u0, u1⟩ : _ ∧ _ := ⟨(HR1.out.put none 0).c0, (HR1.out.put none 0).c1⟩
  clear hb
  go_wp2_with fail
  refine bodyPost_ret (v := .tuple #[.agg #[.pointer none, .int .i64 0], .int .i64 1]) (by simp [results, Try.results14, go_sem, u0, u1]) rfl ?_
  have HBF := below_put HB1.out (B := W.heap.size + 1) (by omega) (.pointer none) (.int .i64 0)
  exact ⟨rfl, by first | exact HB1.out | exact HBF⟩
theorem Swap_un (size lo hi fr tag : Int) (W : World) : Calls Try.prog 13 #[.agg #[.pointer none, .int .i64 size], .int .i64 lo, .int .i64 hi, .int .i64 fr, .int .i64 tag] W fun e w' => e = .returned (.tuple #[.agg #[.pointer none, .int .i64 0], .int .i64 0, .int .i64 1]) ∧ Below W.heap.size W w' := by
  have HCK := Lib.hid (fun a n c W' => check_none size lo hi a n c W')
  obtain ⟨w0, HW, hm, hr, hc, hlt, hb⟩ := boxes3 W none size 27 #[.int .i64 fr, .int .i64 tag] 3
  have HR := Lib.hid hr; have HB := Lib.hid hb; have HW' := Lib.hid HW
  clear hm hr hb HW hc hlt
  go_enter Try.func13, Try.ntmps13
  go_wp2_with fail
  rw [← HW'.out]
  refine (HCK.out _ _ _ _).mono ?_
  rintro e w1 ⟨rfl, hb⟩
  have HR1 := Lib.hid (HR.out.next hb)
  have HB1 := Lib.hid (HB.out.trans (hb.mono HB.out.size))
  have d0 := HR1.out.c0; have d1 := HR1.out.c1; have d2 := HR1.out.f0; have d3 := HR1.out.f1
  obtain ⟨u0, u1⟩ : _ ∧ _ := ⟨(HR1.out.put none 0).c0, (HR1.out.put none 0).c1⟩
  clear hb
  go_wp2_with fail
  refine bodyPost_ret (v := .tuple #[.agg #[.pointer none, .int .i64 0], .int .i64 0, .int .i64 1]) (by simp [results, Try.results13, go_sem, u0, u1]) rfl ?_
  have HBF := below_put HB1.out (B := W.heap.size + 1) (by omega) (.pointer none) (.int .i64 0)
  exact ⟨rfl, by first | exact HB1.out | exact HBF⟩
theorem Find_un (size tag k : Int) (W : World) : Calls Try.prog 18 #[.agg #[.pointer none, .int .i64 size], .int .i64 tag, .int .i64 k] W fun e w' => e = .returned (.tuple #[.int .i64 0, .bool false]) ∧ Below W.heap.size W w' := by
  obtain ⟨w0, HW⟩ : ∃ w0, w0 = W.alloc (.cells #[.pointer none, .int .i64 size] 27) := ⟨_, rfl⟩
  have hq : Mq W none size w0 := by rw [HW]; exact Mq.new _ _ _ _
  have HTG := Lib.hid (isTag_any tag w0)
  have HQ := Lib.hid hq
  have HW' := Lib.hid HW
  by_cases g1 : isT tag = true
  · obtain ⟨e1, e2⟩ : 0 ≤ tag ∧ tag < 16 := of_decide_eq_true g1
    obtain ⟨j, rfl⟩ : ∃ j : Nat, tag = j := ⟨tag.toNat, by omega⟩
    have hj : j < 16 := by omega
    have HCN : Hid (Calls Try.prog 36 #[.pointer none, .int .i64 j] w0 fun e w' => e = .returned (.int .i64 0) ∧ w0 = w') := count_any .nil (.pointer none) w0 j hj rfl
    rw [g1] at HTG
    clear hq HW g1
    by_cases g2 : k < 0
    · go_enter Try.func18, Try.ntmps18
      go_wp2_with fail
      rw [← HW'.out]
      refine HTG.out.mono ?_
      rintro e w1 ⟨rfl, rfl⟩
      go_wp2_with fail
      refine bodyPost_ret (v := .tuple #[.int .i64 0, .bool false]) (by simp [results, Try.results18, go_sem]) rfl ?_
      exact ⟨rfl, HQ.out.bel⟩
    · have g4 : k ≥ 0 := by omega
      have k0 := HQ.out.c0; have k1 := HQ.out.c1
      go_enter Try.func18, Try.ntmps18
      go_wp2_with fail
      rw [← HW'.out]
      refine HTG.out.mono ?_
      rintro e w1 ⟨rfl, rfl⟩
      go_wp2_with fail
      refine HCN.out.mono ?_
      rintro e w1 ⟨rfl, rfl⟩
      go_wp2_with fail
      refine bodyPost_ret (v := .tuple #[.int .i64 0, .bool false]) (by simp [results, Try.results18, go_sem]) rfl ?_
      exact ⟨rfl, HQ.out.bel⟩
  · rw [Bool.eq_false_iff.2 g1] at HTG
    clear hq HW g1
    go_enter Try.func18, Try.ntmps18
    go_wp2_with fail
    rw [← HW'.out]
    refine HTG.out.mono ?_
    rintro e w1 ⟨rfl, rfl⟩
    go_wp2_with fail
    refine bodyPost_ret (v := .tuple #[.int .i64 0, .bool false]) (by simp [results, Try.results18, go_sem]) rfl ?_
    exact ⟨rfl, HQ.out.bel⟩
theorem Len_un (size : Int) (W : World) : Calls Try.prog 25 #[.agg #[.pointer none, .int .i64 size]] W fun e w' => e = .returned (.int .i64 0) ∧ Below W.heap.size W w' := by
  have HB : Hid (∀ o, Below W.heap.size W (W.alloc o)) := fun o => (Below.refl _ _).alloc (Nat.le_refl _) _
  have HLN : Hid (∀ o, Calls Try.prog 49 #[.pointer none] (W.alloc o) fun e w' => e = .returned (.int .i64 0) ∧ W.alloc o = w') := fun o => len_any .nil (.pointer none) _ rfl
  go_enter Try.func25, Try.ntmps25
  go_wp2_with fail
  refine (HLN.out _).mono ?_
  rintro e w1 ⟨rfl, rfl⟩
  go_wp2_with fail
  go_ret
  exact ⟨rfl, HB.out _⟩
theorem Apply_un (size : Int) (a : Option Addr) (n c : Nat) (W : World) : Calls Try.prog 20 #[.agg #[.pointer none, .int .i64 size], .slice a n c] W fun e w' => e = .returned (.tuple #[.agg #[.pointer none, .int .i64 0], .int .i64 1]) ∧ Below W.heap.size W w' := by
  have HUS := Lib.hid (fun W' => isUsable_none size W')
  obtain ⟨w0, HW, hm, hr, hb⟩ := boxes2 W none size 27
  have HR := Lib.hid hr; have HB := Lib.hid hb; have HW' := Lib.hid HW
  clear hm hr hb HW
  go_enter Try.func20, Try.ntmps20
  go_wp2_with fail
  rw [← HW'.out]
  refine (HUS.out _).mono ?_
  rintro e w1 ⟨rfl, hb⟩
  have HR1 := Lib.hid (HR.out.next hb)
  have HB1 := Lib.hid (HB.out.trans (hb.mono HB.out.size))
  have d0 := HR1.out.c0; have d1 := HR1.out.c1; have d2 := HR1.out.f0; have d3 := HR1.out.f1
  obtain ⟨u0, u1⟩ : _ ∧ _ := ⟨(HR1.out.put none 0).c0, (HR1.out.put none 0).c1⟩
  clear hb
  go_wp2_with fail
  refine bodyPost_ret (v := .tuple #[.agg #[.pointer none, .int .i64 0], .int .i64 1]) (by simp [results, Try.results20, go_sem, u0, u1]) rfl ?_
  have HBF := below_put HB1.out (B := W.heap.size + 1) (by omega) (.pointer none) (.int .i64 0)
  exact ⟨rfl, by first | exact HB1.out | exact HBF⟩
end Go.Proofs.Ytjbenhmpeceaeab
namespace Go.Proofs.Ytjbenhmpeceaeab
open Go Go.RowKit Gs

/-- a map as a value: the block of its root, and its size -/
abbrev MV := Option Nat × Int
def MV.p (m : MV) : Option Addr := m.1.map fun b => ⟨b, 0, none⟩
def MV.v (m : MV) : Value := .agg #[.pointer m.p, .int .i64 m.2]
/-- one of the maps is unusable -/
theorem checkSizes_bad (B c : Nat) (ms : List MV) (W : World) (hB : B < W.heap.size) (hc : ∀ j (h : j < ms.length), W.cell? ⟨B, j * 2, none⟩ = some (.pointer ms[j].p) ∧ W.cell? ⟨B, j * 2 + 1, none⟩ = some (.int .i64 ms[j].2)) (hn : ms.length ≤ 4) (hbad : ∃ m ∈ ms, m.1 = none) :
    Calls Try.prog 42 #[.slice (some ⟨B, 0, none⟩) ms.length c] W fun e w' => e = .returned (.int .i64 1) ∧ Below W.heap.size W w' := by
  have HUS := Lib.hid (fun b size W' => isUsable_any b size W')
  have HUN := Lib.hid (fun size W' => isUsable_none size W')
  have HC : Hid (∀ W' j (h : j < ms.length), Below W.heap.size W W' → W'.cell? ⟨B, j * 2, none⟩ = some (.pointer ms[j].p) ∧ W'.cell? ⟨B, j * 2 + 1, none⟩ = some (.int .i64 ms[j].2)) := fun W' j h hb => ⟨(hb.cell (p := ⟨B, j * 2, none⟩) hB).trans (hc j h).1, (hb.cell (p := ⟨B, j * 2 + 1, none⟩) hB).trans (hc j h).2⟩
  have HBAD := Lib.hid hbad
  have HA : Hid (∀ (W' : World) o, Below W'.heap.size W' (W'.alloc o)) := fun W' o => (Below.refl _ _).alloc (Nat.le_refl _) _
  clear hc hbad
  obtain ⟨n, hnn⟩ : ∃ n, n = ms.length := ⟨_, rfl⟩
  have HN := Lib.hid hnn
  rw [← hnn] at hn ⊢
  clear hnn
  go_enter Try.func42, Try.ntmps42
  go_wp2_with fail
  go_loopw [9] (fun i wr => ∃ j : Nat, j ≤ n ∧ i = .int .i64 j ∧ Hid (∀ k (h : k < ms.length), k < j → ms[k].1 ≠ none) ∧ Hid (Below W.heap.size W wr)) (fun i _ => n - (intOf i).toNat)
  case atStart => exact ⟨0, by omega, rfl, fun k _ h => absurd h (by omega), Below.refl _ _⟩
  case round =>
    obtain ⟨j, hj, rfl, HK, HB⟩ := hrel
    by_cases hlt : j < n
    · have hj2 : (j : Int) < n := by omega
      have hjn : j < ms.length := by rw [← HN.out]; exact hlt
      obtain ⟨hc0, hc1⟩ := HC.out wr j hjn HB.out
      rcases hm : ms[j] with ⟨mp, s⟩
      rw [hm] at hc0 hc1
      cases mp with
      | none =>
        have hc0 : wr.cell? ⟨B, j * 2, none⟩ = some (.pointer none) := hc0
        simp only at hc1
        clear hm HK
        go_wp2_with fail
        refine (HUN.out _ _).mono ?_
        rintro e w3 ⟨rfl, hb⟩
        have HB3 := Lib.hid (HB.out.trans ((((HA.out _ _).trans (hb.mono (HA.out _ _).size)).mono HB.out.size)))
        clear hb
        go_wp2_with fail
        go_ret
        exact ⟨rfl, HB3.out⟩
      | some b =>
        have hc0 : wr.cell? ⟨B, j * 2, none⟩ = some (.pointer (some ⟨b, 0, none⟩)) := hc0
        simp only at hc1
        have HK2 : Hid (∀ k (h : k < ms.length), k < j + 1 → ms[k].1 ≠ none) := fun k h hk => by
          by_cases e : k = j
          · subst e; rw [hm]; exact fun h => by cases h
          · exact HK.out k h (by omega)
        clear hm HK
        go_wp2_with fail
        refine (HUS.out _ _ _).mono ?_
        rintro e w3 ⟨rfl, hb⟩
        have HB3 := Lib.hid (HB.out.trans ((((HA.out _ _).trans (hb.mono (HA.out _ _).size)).mono HB.out.size)))
        clear hb
        go_wp2_with fail
        go_roundw
        case rel => exact ⟨j + 1, by omega, by go_num, HK2, HB3⟩
        case measure => simp [intOf]; omega
    · exfalso
      obtain ⟨m, hm, he⟩ := HBAD.out
      obtain ⟨k, hk, rfl⟩ := List.getElem_of_mem hm
      exact HK.out k hk (by have := HN.out; omega) he
/-- the boxes of Diff's two maps, and their list -/
theorem two_maps (W : World) (x y : MV) (Ty Tl : TypeId) : ∃ w0, w0 = ((W.alloc (.cells #[.pointer x.p, .int .i64 x.2] Ty)).alloc (.cells #[.pointer y.p, .int .i64 y.2] Ty)).alloc (.cells #[.pointer x.p, .int .i64 x.2, .pointer y.p, .int .i64 y.2] Tl) ∧ Mb W.heap.size x.p x.2 w0 ∧ Mb (W.heap.size + 1) y.p y.2 w0 ∧ (∀ i v, #[Value.pointer x.p, .int .i64 x.2, .pointer y.p, .int .i64 y.2][i]? = some v → w0.cell? ⟨W.heap.size + 1 + 1, i, none⟩ = some v) ∧ W.heap.size + 1 + 1 < w0.heap.size ∧ Below W.heap.size W w0 := by
  have h1 := Mb.new W x.p x.2 Ty
  have h2 := Mb.new (W.alloc (.cells #[.pointer x.p, .int .i64 x.2] Ty)) y.p y.2 Ty
  rw [show (W.alloc (.cells #[.pointer x.p, .int .i64 x.2] Ty)).heap.size = W.heap.size + 1 by simp] at h2
  refine ⟨_, rfl, (h1.next ((Below.refl _ _).alloc (Nat.le_refl _) _)).next ((Below.refl _ _).alloc (Nat.le_refl _) _), h2.next ((Below.refl _ _).alloc (Nat.le_refl _) _), fun i v hv => (World.cell?_alloc_at _ _ _ _ (by simp)).trans hv, by simp, (((Below.refl _ _).alloc (Nat.le_refl _) _).alloc (by simp) _).alloc (by simp; omega) _⟩
theorem Diff_un (x y : MV) (W : World) (h : x.1 = none ∨ y.1 = none) :
    Calls Try.prog 19 #[x.v, y.v] W fun e w' => e = .returned (.tuple #[.slice none 0 0, .int .i64 1]) ∧ Below W.heap.size W w' := by
  obtain ⟨w0, HW, hm, hr, hc, hlt, hb⟩ := two_maps W x y 27 27
  have HCK : Hid (Calls Try.prog 42 #[.slice (some ⟨W.heap.size + 1 + 1, 0, none⟩) 2 2] w0 fun e w' => e = .returned (.int .i64 1) ∧ Below w0.heap.size w0 w') :=
    checkSizes_bad (W.heap.size + 1 + 1) 2 [x, y] w0 hlt (fun j hj => by
      have : j = 0 ∨ j = 1 := by simp at hj; omega
      rcases this with rfl | rfl
      · exact ⟨hc 0 _ rfl, hc 1 _ rfl⟩
      · exact ⟨hc 2 _ rfl, hc 3 _ rfl⟩) (by simp) (by rcases h with h | h <;> simp [h])
  have HB := Lib.hid hb; have HW' := Lib.hid HW
  clear hm hr hc hlt hb HW h
  unfold MV.v
  obtain ⟨xp, hxp⟩ : ∃ xp, xp = x.p := ⟨_, rfl⟩
  obtain ⟨yp, hyp⟩ : ∃ yp, yp = y.p := ⟨_, rfl⟩
  rw [← hxp, ← hyp] at HW' ⊢
  clear hxp hyp
  go_enter Try.func19, Try.ntmps19
  go_wp2_with fail
  rw [← HW'.out]
  refine HCK.out.mono ?_
  rintro e w1 ⟨rfl, hb⟩
  have HB1 := Lib.hid (HB.out.trans (hb.mono HB.out.size))
  clear hb
  go_wp2_with fail
  refine bodyPost_ret (v := .tuple #[.slice none 0 0, .int .i64 1]) (by simp [results, Try.results19, go_sem]) rfl ?_
  exact ⟨rfl, HB1.out⟩
theorem Runs_un (size lo hi most : Int) (W : World) : Calls Try.prog 17 #[.agg #[.pointer none, .int .i64 size], .int .i64 lo, .int .i64 hi, .int .i64 most] W fun e w' => e = .returned (.tuple #[.slice none 0 0, .int .i64 1]) ∧ Below W.heap.size W w' := by
  have HCK := Lib.hid (fun a n c W' => check_none size lo hi a n c W')
  have HB : Hid (∀ o o2, Below W.heap.size W ((W.alloc o).alloc o2)) := fun o o2 => ((Below.refl _ _).alloc (Nat.le_refl _) _).alloc (by simp) _
  go_enter Try.func17, Try.ntmps17
  go_wp2_with fail
  refine (HCK.out _ _ _ _).mono ?_
  rintro e w1 ⟨rfl, hb⟩
  have HB1 := Lib.hid ((HB.out _ _).trans (hb.mono (HB.out _ _).size))
  clear hb
  go_wp2_with fail
  refine bodyPost_ret (v := .tuple #[.slice none 0 0, .int .i64 1]) (by simp [results, Try.results17, go_sem]) rfl ?_
  exact ⟨rfl, HB1.out⟩
/-- the boxes of Merge's three maps, its result's, and the list of the maps -/
theorem three_maps (W : World) (x y z : MV) (Ty Tl : TypeId) : ∃ w0, w0 = ((((W.alloc (.cells #[.pointer x.p, .int .i64 x.2] Ty)).alloc (.cells #[.pointer y.p, .int .i64 y.2] Ty)).alloc (.cells #[.pointer z.p, .int .i64 z.2] Ty)).alloc (.cells #[.pointer none, .int .i64 0] Ty)).alloc (.cells #[.pointer x.p, .int .i64 x.2, .pointer y.p, .int .i64 y.2, .pointer z.p, .int .i64 z.2] Tl) ∧ Mb W.heap.size x.p x.2 w0 ∧ Mb (W.heap.size + 1) y.p y.2 w0 ∧ Mb (W.heap.size + 1 + 1) z.p z.2 w0 ∧ Mb (W.heap.size + 1 + 1 + 1) none 0 w0 ∧ (∀ i v, #[Value.pointer x.p, .int .i64 x.2, .pointer y.p, .int .i64 y.2, .pointer z.p, .int .i64 z.2][i]? = some v → w0.cell? ⟨W.heap.size + 1 + 1 + 1 + 1, i, none⟩ = some v) ∧ W.heap.size + 1 + 1 + 1 + 1 < w0.heap.size ∧ Below W.heap.size W w0 := by
  obtain ⟨w1, h1⟩ : ∃ w1, w1 = W.alloc (.cells #[.pointer x.p, .int .i64 x.2] Ty) := ⟨_, rfl⟩
  obtain ⟨w2, h2⟩ : ∃ w2, w2 = w1.alloc (.cells #[.pointer y.p, .int .i64 y.2] Ty) := ⟨_, rfl⟩
  obtain ⟨w3, h3⟩ : ∃ w3, w3 = w2.alloc (.cells #[.pointer z.p, .int .i64 z.2] Ty) := ⟨_, rfl⟩
  obtain ⟨w4, h4⟩ : ∃ w4, w4 = w3.alloc (.cells #[.pointer none, .int .i64 0] Ty) := ⟨_, rfl⟩
  have e1 : w1.heap.size = W.heap.size + 1 := by rw [h1]; simp
  have e2 : w2.heap.size = W.heap.size + 1 + 1 := by rw [h2, World.size_alloc, e1]
  have e3 : w3.heap.size = W.heap.size + 1 + 1 + 1 := by rw [h3, World.size_alloc, e2]
  have e4 : w4.heap.size = W.heap.size + 1 + 1 + 1 + 1 := by rw [h4, World.size_alloc, e3]
  have m1 : Mb W.heap.size x.p x.2 w1 := by rw [h1]; exact Mb.new _ _ _ _
  have m2 : Mb (W.heap.size + 1) y.p y.2 w2 := by rw [← e1, h2]; exact Mb.new _ _ _ _
  have m3 : Mb (W.heap.size + 1 + 1) z.p z.2 w3 := by rw [← e2, h3]; exact Mb.new _ _ _ _
  have m4 : Mb (W.heap.size + 1 + 1 + 1) none 0 w4 := by rw [← e3, h4]; exact Mb.new _ _ _ _
  have b1 : Below W.heap.size W w1 := by rw [h1]; exact (Below.refl _ _).alloc (Nat.le_refl _) _
  have b2 : Below w1.heap.size w1 w2 := by rw [h2]; exact (Below.refl _ _).alloc (Nat.le_refl _) _
  have b3 : Below w2.heap.size w2 w3 := by rw [h3]; exact (Below.refl _ _).alloc (Nat.le_refl _) _
  have b4 : Below w3.heap.size w3 w4 := by rw [h4]; exact (Below.refl _ _).alloc (Nat.le_refl _) _
  have b5 : ∀ o, Below w4.heap.size w4 (w4.alloc o) := fun o => (Below.refl _ _).alloc (Nat.le_refl _) _
  rw [← h1, ← h2, ← h3, ← h4]
  exact ⟨_, rfl, (((m1.next b2).next b3).next b4).next (b5 _), ((m2.next b3).next b4).next (b5 _), (m3.next b4).next (b5 _), m4.next (b5 _), fun i v hv => (World.cell?_alloc_at _ _ _ _ e4.symm).trans hv, by simp [e4], b1.trans ((b2.trans ((b3.trans ((b4.trans ((b5 _).mono b4.size)).mono b3.size)).mono b2.size)).mono b1.size)⟩
theorem Merge_un (x y z : MV) (W : World) (h : x.1 = none ∨ y.1 = none ∨ z.1 = none) :
    Calls Try.prog 24 #[x.v, y.v, z.v] W fun e w' => e = .returned (.tuple #[.agg #[.pointer none, .int .i64 0], .slice none 0 0, .int .i64 1]) ∧ Below W.heap.size W w' := by
  obtain ⟨w0, HW, -, -, -, hr, hc, hlt, hb⟩ := three_maps W x y z 27 27
  have HCK : Hid (Calls Try.prog 42 #[.slice (some ⟨W.heap.size + 1 + 1 + 1 + 1, 0, none⟩) 3 3] w0 fun e w' => e = .returned (.int .i64 1) ∧ Below w0.heap.size w0 w') :=
    checkSizes_bad (W.heap.size + 1 + 1 + 1 + 1) 3 [x, y, z] w0 hlt (fun j hj => by
      have : j = 0 ∨ j = 1 ∨ j = 2 := by simp at hj; omega
      rcases this with rfl | rfl | rfl
      · exact ⟨hc 0 _ rfl, hc 1 _ rfl⟩
      · exact ⟨hc 2 _ rfl, hc 3 _ rfl⟩
      · exact ⟨hc 4 _ rfl, hc 5 _ rfl⟩) (by simp) (by rcases h with h | h | h <;> simp [h])
  have HR := Lib.hid hr; have HB := Lib.hid hb; have HW' := Lib.hid HW
  clear hr hc hlt hb HW h
  unfold MV.v
  obtain ⟨xp, hxp⟩ : ∃ xp, xp = x.p := ⟨_, rfl⟩
  obtain ⟨yp, hyp⟩ : ∃ yp, yp = y.p := ⟨_, rfl⟩
  obtain ⟨zp, hzp⟩ : ∃ zp, zp = z.p := ⟨_, rfl⟩
  rw [← hxp, ← hyp, ← hzp] at HW' ⊢
  clear hxp hyp hzp
  go_enter Try.func24, Try.ntmps24
  go_wp2_with fail
  rw [← HW'.out]
  refine HCK.out.mono ?_
  rintro e w1 ⟨rfl, hb⟩
  have HR1 := Lib.hid (HR.out.next hb)
  have HB1 := Lib.hid (HB.out.trans (hb.mono HB.out.size))
  have d0 := HR1.out.c0; have d1 := HR1.out.c1; have d2 := HR1.out.f0; have d3 := HR1.out.f1
  obtain ⟨u0, u1⟩ : _ ∧ _ := ⟨(HR1.out.put none 0).c0, (HR1.out.put none 0).c1⟩
  clear hb
  go_wp2_with fail
  refine bodyPost_ret (v := .tuple #[.agg #[.pointer none, .int .i64 0], .slice none 0 0, .int .i64 1]) (by simp [results, Try.results24, go_sem, u0, u1]) rfl ?_
  have HBF := below_put HB1.out (B := W.heap.size + 1 + 1 + 1) (by omega) (.pointer none) (.int .i64 0)
  exact ⟨rfl, by first | exact HB1.out | exact HBF⟩
end Go.Proofs.Ytjbenhmpeceaeab
namespace Go.Proofs.Ytjbenhmpeceaeab
open Go Go.RowKit Gs

/-- none of the maps is unusable: E tells whether they have one size -/
theorem checkSizes_ok (B c : Nat) (ms : List MV) (s E : Int) (W : World) (hB : B < W.heap.size) (hc : ∀ j (h : j < ms.length), W.cell? ⟨B, j * 2, none⟩ = some (.pointer ms[j].p) ∧ W.cell? ⟨B, j * 2 + 1, none⟩ = some (.int .i64 ms[j].2)) (hn : ms.length ≤ 4)
    (hu : ∀ m ∈ ms, m.1 ≠ none) (h0 : 0 < ms.length) (hs : W.cell? ⟨B, 1, none⟩ = some (.int .i64 s)) (he : (∀ m ∈ ms, m.2 = s) → E = 0) (he2 : (∃ m ∈ ms, m.2 ≠ s) → E = 2) :
    Calls Try.prog 42 #[.slice (some ⟨B, 0, none⟩) ms.length c] W fun e w' => e = .returned (.int .i64 E) ∧ Below W.heap.size W w' := by
  have HUS := Lib.hid (fun b size W' => isUsable_any b size W')
  have HC : Hid (∀ W' j (h : j < ms.length), Below W.heap.size W W' → W'.cell? ⟨B, j * 2, none⟩ = some (.pointer ms[j].p) ∧ W'.cell? ⟨B, j * 2 + 1, none⟩ = some (.int .i64 ms[j].2)) := fun W' j h hb => ⟨(hb.cell (p := ⟨B, j * 2, none⟩) hB).trans (hc j h).1, (hb.cell (p := ⟨B, j * 2 + 1, none⟩) hB).trans (hc j h).2⟩
  have HS : Hid (∀ W', Below W.heap.size W W' → W'.cell? ⟨B, 1, none⟩ = some (.int .i64 s)) := fun W' hb => (hb.cell (p := ⟨B, 1, none⟩) hB).trans hs
  have HU := Lib.hid hu; have HE := Lib.hid he; have HE2 := Lib.hid he2
  have HA : Hid (∀ (W' : World) o, Below W'.heap.size W' (W'.alloc o)) := fun W' o => (Below.refl _ _).alloc (Nat.le_refl _) _
  have HNEW : Hid (∀ (W' : World) x y t, (W'.alloc (.cells #[x, y] t)).cell? ⟨W'.heap.size, 1, none⟩ = some y) := fun W' x y t => World.cell?_alloc_at _ _ _ _ rfl
  clear hc hu he he2 hs
  obtain ⟨n, hnn⟩ : ∃ n, n = ms.length := ⟨_, rfl⟩
  have HN := Lib.hid hnn
  rw [← hnn] at hn h0 ⊢
  clear hnn
  go_enter Try.func42, Try.ntmps42
  go_wp2_with fail
  go_loopw [9] (fun i wr => ∃ j : Nat, j ≤ n ∧ i = .int .i64 j ∧ Hid (Below W.heap.size W wr)) (fun i _ => n - (intOf i).toNat)
  case atStart => exact ⟨0, by omega, rfl, Below.refl _ _⟩
  case round =>
    obtain ⟨j, hj, rfl, HB⟩ := hrel
    by_cases hlt : j < n
    · have hj2 : (j : Int) < n := by omega
      have hjn : j < ms.length := by rw [← HN.out]; exact hlt
      obtain ⟨hc0, hc1⟩ := HC.out wr j hjn HB.out
      have hnn := HU.out ms[j] (List.getElem_mem hjn)
      rcases hm : ms[j] with ⟨mp, z⟩
      rw [hm] at hc0 hc1 hnn
      cases mp with
      | none => exact absurd rfl hnn
      | some b =>
        have hc0 : wr.cell? ⟨B, j * 2, none⟩ = some (.pointer (some ⟨b, 0, none⟩)) := hc0
        simp only at hc1
        clear hm hnn
        go_wp2_with fail
        refine (HUS.out _ _ _).mono ?_
        rintro e w3 ⟨rfl, hb⟩
        have HB3 := Lib.hid (HB.out.trans ((((HA.out _ _).trans (hb.mono (HA.out _ _).size)).mono HB.out.size)))
        clear hb
        go_wp2_with fail
        go_roundw
        case rel => exact ⟨j + 1, by omega, by go_num, HB3⟩
        case measure => simp [intOf]; omega
    · have hjn : j = n := by omega
      subst hjn
      have hlt' : ¬ ((j : Int) < j) := by omega
      go_wp2_with fail
      go_loopw [19] (fun i wr => ∃ k : Nat, k ≤ j ∧ i = .int .i64 k ∧ Hid (∀ i (h : i < ms.length), i < k → ms[i].2 = s) ∧ Hid (Below W.heap.size W wr)) (fun i _ => j - (intOf i).toNat)
      case atStart => exact ⟨0, by omega, rfl, fun k _ h => absurd h (by omega), HB.out⟩
      case round =>
        clear HB
        obtain ⟨k, hk, rfl, HK, HB⟩ := hrel
        by_cases hlt2 : k < j
        · have hk2 : (k : Int) < j := by omega
          have hkn : k < ms.length := by rw [← HN.out]; exact hlt2
          obtain ⟨hc0, hc1⟩ := HC.out wr k hkn HB.out
          have HEQ := Lib.hid (HE2.out)
          have HMM := Lib.hid (List.getElem_mem hkn)
          rcases hm : ms[k] with ⟨mp, z⟩
          have HM := Lib.hid hm
          rw [hm] at hc0 hc1
          obtain ⟨pp, hpp⟩ : ∃ pp, pp = MV.p (mp, z) := ⟨_, rfl⟩
          rw [← hpp] at hc0
          simp only at hc1
          clear hm hpp
          obtain ⟨w9, HW9⟩ : ∃ w9, w9 = wr.alloc (.cells #[.pointer pp, .int .i64 z] 27) := ⟨_, rfl⟩
          have HW9' := Lib.hid HW9
          have n1 : w9.cell? ⟨wr.heap.size, 1, none⟩ = some (.int .i64 z) := by rw [HW9]; exact HNEW.out _ _ _ _
          have hb9 : Below W.heap.size W w9 := by rw [HW9]; exact HB.out.trans ((HA.out _ _).mono HB.out.size)
          have HB9 := Lib.hid hb9
          have n2 := HS.out w9 hb9
          clear HW9 hb9
          go_upto_region 10 with fail
          rw [← HW9'.out]
          by_cases hz : z = s
          · subst hz
            have HK2 : Hid (∀ i (h : i < ms.length), i < k + 1 → ms[i].2 = z) := fun i h hi => by
              by_cases e : i = k
              · subst e; rw [HM.out]
              · exact HK.out i h (by omega)
            clear HM
            go_wp2_with fail
            go_quiet (fail)
            rename_i nq
            have HBn : Hid (Below W.heap.size W (World.drewN w9 nq)) := below_drewN HB9.out nq
            clear n1 n2
            generalize hw : World.drewN _ nq = w2 at HBn ⊢
            clear hw
            go_wp2_with fail
            go_roundw
            case rel => exact ⟨k + 1, by omega, by go_num, HK2, HBn⟩
            case measure => simp [intOf]; omega
          · have hz' : (z == s) = false := beq_eq_false_iff_ne.2 hz
            have HE3 : Hid (E = 2) := HE2.out ⟨ms[k], HMM.out, by rw [HM.out]; exact hz⟩
            clear HM hz
            go_wp2_with fail
            go_quiet (fail)
            rename_i nq
            have HBn : Hid (Below W.heap.size W (World.drewN w9 nq)) := below_drewN HB9.out nq
            clear n1 n2
            generalize hw : World.drewN _ nq = w2 at HBn ⊢
            clear hw
            go_wp2_with fail
            go_ret
            exact ⟨by rw [HE3.out]; rfl, HBn.out⟩
        · have hlt' : ¬ ((k : Int) < j) := by omega
          have HE3 : Hid (E = 0) := HE.out fun m hm => by
            obtain ⟨i, hi, rfl⟩ := List.getElem_of_mem hm
            exact HK.out i hi (by have := HN.out; omega)
          go_wp2_with fail
          go_ret
          exact ⟨by rw [HE3.out]; rfl, HB.out⟩
end Go.Proofs.Ytjbenhmpeceaeab
namespace Go.Proofs.Ytjbenhmpeceaeab
open Go Go.RowKit Go.Shelf Gs

attribute [local go_sem] Oper.semAt_some

/-- what a round is handed, of a run -/
def encR (r : R) : Array Value := #[.agg #[.int .i64 r.lo, .int .i64 r.hi, .int .i64 r.tag]]
/-- the value that within answers, with its three boxes from B on -/
def seqV (B : Nat) : Value := .func (.func 55) #[] #[.pointer (some ⟨B, 0, none⟩), .pointer (some ⟨B + 1, 0, none⟩), .pointer (some ⟨B + 1 + 1, 0, none⟩)]
/-- the world behind within -/
def seqW (W : World) (p : Option Addr) (lo hi : Int) : World := ((W.alloc (.cells #[.pointer p] 25)).alloc (.cells #[.int .i64 lo] 3)).alloc (.cells #[.int .i64 hi] 3)
theorem within_any (p : Option Addr) (lo hi : Int) (W : World) : Calls Try.prog 39 #[.pointer p, .int .i64 lo, .int .i64 hi] W fun e w' => e = .returned (seqV W.heap.size) ∧ w' = seqW W p lo hi := by
  go_enter Try.func39, Try.ntmps39
  go_wp2_with fail
  go_ret
  exact ⟨rfl, rfl⟩
theorem all_any (p : Option Addr) (size : Int) (W : World) : Calls Try.prog 43 #[.agg #[.pointer p, .int .i64 size]] W fun e w' => e = .returned (seqV (W.heap.size + 1)) ∧ w' = seqW (W.alloc (.cells #[.pointer p, .int .i64 size] 27)) p 0 size := by
  have HWI : Hid (∀ W', Calls Try.prog 39 #[.pointer p, .int .i64 0, .int .i64 size] W' fun e w' => e = .returned (seqV W'.heap.size) ∧ w' = seqW W' p 0 size) := fun W' => within_any p 0 size W'
  go_enter Try.func43, Try.ntmps43
  go_wp2_with fail
  refine (HWI.out _).mono ?_
  rintro e w1 ⟨rfl, rfl⟩
  unfold seqV
  go_wp2_with fail
  go_ret
  exact ⟨by simp [seqV], rfl⟩
theorem visit_nil (F : Fence) (hv : F.fn 56) (hro : F.round = none) (n : Nat) (g : Value) (lo hi : Int) (W : World) :
    CallsIn F n Try.prog 56 #[.pointer none, .int .i64 lo, .int .i64 hi, g] W fun e W' => e = .returned (.bool true) ∧ W = W' := by
  refine callsIn_of_wp Try.func56 rfl hv ?_ hro
  simp only [Try.ntmps56, List.size_toArray, List.length_cons, List.length_nil, Nat.reduceAdd, Nat.reduceSub, Array.replicate_succ, Array.replicate_zero, List.push_toArray, List.append_toArray, List.nil_append, List.cons_append]
  gi_wp2
  go_ret
  exact ⟨rfl, rfl⟩
theorem seq_cells (W : World) (p : Option Addr) (lo hi : Int) : (seqW W p lo hi).cell? ⟨W.heap.size, 0, none⟩ = some (.pointer p) ∧ (seqW W p lo hi).cell? ⟨W.heap.size + 1, 0, none⟩ = some (.int .i64 lo) ∧ (seqW W p lo hi).cell? ⟨W.heap.size + 1 + 1, 0, none⟩ = some (.int .i64 hi) ∧ (seqW W p lo hi).heap.size = W.heap.size + 1 + 1 + 1 ∧ Below W.heap.size W (seqW W p lo hi) := by
  obtain ⟨w1, h1⟩ : ∃ w1, w1 = W.alloc (.cells #[.pointer p] 25) := ⟨_, rfl⟩
  obtain ⟨w2, h2⟩ : ∃ w2, w2 = w1.alloc (.cells #[.int .i64 lo] 3) := ⟨_, rfl⟩
  have e1 : w1.heap.size = W.heap.size + 1 := by rw [h1]; simp
  have e2 : w2.heap.size = W.heap.size + 1 + 1 := by rw [h2, World.size_alloc, e1]
  have b1 : Below W.heap.size W w1 := by rw [h1]; exact (Below.refl _ _).alloc (Nat.le_refl _) _
  have b2 : Below w1.heap.size w1 w2 := by rw [h2]; exact (Below.refl _ _).alloc (Nat.le_refl _) _
  have b3 : ∀ o, Below w2.heap.size w2 (w2.alloc o) := fun o => (Below.refl _ _).alloc (Nat.le_refl _) _
  have c1 : w1.cell? ⟨W.heap.size, 0, none⟩ = some (.pointer p) := by rw [h1]; exact World.cell?_alloc_at _ _ _ _ rfl
  have c2 : w2.cell? ⟨W.heap.size + 1, 0, none⟩ = some (.int .i64 lo) := by rw [h2]; exact World.cell?_alloc_at _ _ _ _ e1.symm
  unfold seqW
  rw [← h1, ← h2]
  exact ⟨((b3 _).cell (p := ⟨W.heap.size, 0, none⟩) (by rw [e2]; show W.heap.size < _; omega)).trans ((b2.cell (p := ⟨W.heap.size, 0, none⟩) (by rw [e1]; show W.heap.size < _; omega)).trans c1), ((b3 _).cell (p := ⟨W.heap.size + 1, 0, none⟩) (by rw [e2]; show W.heap.size + 1 < _; omega)).trans c2, World.cell?_alloc_at _ _ _ _ e2.symm, by rw [World.size_alloc, e2], b1.trans ((b2.trans ((b3 _).mono b2.size)).mono b1.size)⟩
set_option maxHeartbeats 1000000 in
theorem seq_nil (F : Fence) (n : Nat) (h1 : F.fn 55) (hd : F.depth = none) (h2 : F.fn 56) (hro : F.round = none) (B n₀ : Nat) (lo hi : Int) (w : World)
    (hB : B + 1 + 1 < w.heap.size) (c0 : w.cell? ⟨B, 0, none⟩ = some (.pointer none)) (c1 : w.cell? ⟨B + 1, 0, none⟩ = some (.int .i64 lo)) (c2 : w.cell? ⟨B + 1 + 1, 0, none⟩ = some (.int .i64 hi)) :
    SeqStopsK F n Try.prog 55 #[.pointer (some ⟨B, 0, none⟩), .pointer (some ⟨B + 1, 0, none⟩), .pointer (some ⟨B + 1 + 1, 0, none⟩)] encR (Below n₀) (fun ys => ys = []) (fun _ => False) 0 w := fun l J Jx W hW _ _ _ h0 => by
  have hdd : ∀ k : Nat, (F.depth.isSome = true → 1 ≤ k) := fun k h => by rw [hd] at h; cases h
  have hp := visit_nil F h2 hro (n - 1) (.func (.yield l) #[] #[]) lo hi W
  have k0 : W.cell? ⟨B, 0, none⟩ = some (.pointer none) := (hW.cell (p := ⟨B, 0, none⟩) (by show B < _; omega)).trans c0
  have k1 : W.cell? ⟨B + 1, 0, none⟩ = some (.int .i64 lo) := (hW.cell (p := ⟨B + 1, 0, none⟩) (by show B + 1 < _; omega)).trans c1
  have k2 : W.cell? ⟨B + 1 + 1, 0, none⟩ = some (.int .i64 hi) := (hW.cell (p := ⟨B + 1 + 1, 0, none⟩) (by show B + 1 + 1 < _; omega)).trans c2
  clear c0 c1 c2 hW
  refine callsIn_of_wp Try.func55 rfl h1 ?_ hro
  simp only [Try.ntmps55, List.size_toArray, List.length_cons, List.length_nil, Nat.reduceAdd, Nat.reduceSub, Array.replicate_succ, Array.replicate_zero, List.push_toArray, List.append_toArray, List.nil_append, List.cons_append]
  gi_wp2_with ((try refine ⟨hdd _, ?_⟩); gi_at_call 56; refine hp.mono ?_; clear hp; rintro e W1 ⟨rfl, rfl⟩)
  go_end0
  exact ⟨⟨_, rfl⟩, .inl ⟨_, rfl, h0⟩⟩
end Go.Proofs.Ytjbenhmpeceaeab
namespace Go.Proofs.Ytjbenhmpeceaeab
open Go Go.RowKit Go.Shelf Gs

attribute [local go_sem] Oper.semAt_some

set_option maxHeartbeats 1000000 in
theorem Equal_ne (p q : Option Addr) (s t : Int) (W : World) (hne : s ≠ t) : Calls Try.prog 21 #[.agg #[.pointer p, .int .i64 s], .agg #[.pointer q, .int .i64 t]] W fun e w' => e = .returned (.bool false) ∧ Below W.heap.size W w' := by
  have hne2 : (s == t) = false := beq_eq_false_iff_ne.2 hne
  have HB : Hid (∀ o o2 o3, Below W.heap.size W (((W.alloc o).alloc o2).alloc o3)) := fun o o2 o3 => (((Below.refl _ _).alloc (Nat.le_refl _) _).alloc (by simp) _).alloc (by simp; omega) _
  refine (callsIn_wide (n := 9)).1 ?_
  refine callsIn_of_wp_marks Try.func21 rfl trivial ?_ rfl
  simp only [Try.ntmps21, List.size_toArray, List.length_cons, List.length_nil, Nat.reduceAdd, Nat.reduceSub, Array.replicate_succ, Array.replicate_zero, List.push_toArray, List.append_toArray, List.nil_append, List.cons_append]
  gi_wp2
  refine ⟨.bool false, by simp [results, Try.results21, go_sem], rfl, HB.out _ _ _⟩
set_option maxRecDepth 100000 in
set_option maxHeartbeats 2000000 in
theorem Equal_un (q : Option Addr) (s : Int) (W : World) : Calls Try.prog 21 #[.agg #[.pointer none, .int .i64 s], .agg #[.pointer q, .int .i64 s]] W fun e w' => e = .returned (.bool true) ∧ Below W.heap.size W w' := by
  obtain ⟨w0, HW⟩ : ∃ w0, w0 = ((W.alloc (.cells #[.pointer none, .int .i64 s] 27)).alloc (.cells #[.pointer q, .int .i64 s] 27)).alloc (.cells #[.bool false] 4) := ⟨_, rfl⟩
  have hsz : w0.heap.size = W.heap.size + 1 + 1 + 1 := by rw [HW]; simp
  have hc : w0.cell? ⟨W.heap.size + 1 + 1, 0, none⟩ = some (.bool false) := by rw [HW]; exact World.cell?_alloc_at _ _ _ _ (by simp)
  have hf : w0.frozen? ⟨W.heap.size + 1 + 1, 0, none⟩ = false := by rw [HW]; exact World.frozen?_alloc_at _ _ _ _ (by simp)
  have hb : Below W.heap.size W w0 := by rw [HW]; exact (((Below.refl _ _).alloc (Nat.le_refl _) _).alloc (by simp) _).alloc (by simp; omega) _
  obtain ⟨w1, HW1⟩ : ∃ w1, w1 = w0.alloc (.cells #[.pointer none, .int .i64 s] 27) := ⟨_, rfl⟩
  have b1 : Below w0.heap.size w0 w1 := by rw [HW1]; exact (Below.refl _ _).alloc (Nat.le_refl _) _
  have e1 : w1.heap.size = w0.heap.size + 1 := by rw [HW1]; simp
  obtain ⟨q0, q1, q2, q3, q4⟩ := seq_cells w1 none 0 s
  have b2 := b1.trans (q4.mono b1.size)
  have hc2 := (b2.cell (p := ⟨W.heap.size + 1 + 1, 0, none⟩) (by show _ + 1 + 1 < _; omega)).trans hc
  have hf2 := (b2.frozen (p := ⟨W.heap.size + 1 + 1, 0, none⟩) (by show _ + 1 + 1 < _; omega)).trans hf
  have hb2 : Below W.heap.size W (seqW w1 none 0 s) := hb.trans (b2.mono hb.size)
  have HAL : Hid (CallsIn Fence.wide 8 Try.prog 43 #[.agg #[.pointer none, .int .i64 s]] w0 fun e w' => e = .returned (seqV w1.heap.size) ∧ w' = seqW w1 none 0 s) := callsIn_wide.2 (by rw [e1, HW1]; exact all_any none s w0)
  have hge : W.heap.size ≤ (seqW w1 none 0 s).heap.size := hb2.size
  have HSQ : Hid _ := seq_nil Fence.wide 8 trivial rfl trivial rfl w1.heap.size W.heap.size 0 s (seqW w1 none 0 s) (by rw [q3]; omega) q0 q1 q2
  have HW' := Lib.hid HW
  rw [hsz] at e1
  rw [e1] at HSQ HAL
  generalize seqW w1 none 0 s = w2 at *
  clear q0 q1 q2 q3 q4 b1 b2 HW hc hf hb HW1 e1 hsz
  refine (callsIn_wide (n := 9)).1 ?_
  refine callsIn_of_wp_marks Try.func21 rfl trivial ?_ rfl
  simp only [Try.ntmps21, List.size_toArray, List.length_cons, List.length_nil, Nat.reduceAdd, Nat.reduceSub, Array.replicate_succ, Array.replicate_zero, List.push_toArray, List.append_toArray, List.nil_append, List.cons_append]
  gi_wp2_with (refine ⟨trivial, ?_⟩; gi_at_call 43; rw [← HW'.out]; refine HAL.out.mono ?_; rintro e w' ⟨rfl, rfl⟩)
  refine wpIn_rangeFunc_ownH rfl (by omega) (gf := 55) (lb := #[.pointer (some ⟨W.heap.size + 1 + 1 + 1 + 1, 0, none⟩), .pointer (some ⟨W.heap.size + 1 + 1 + 1 + 1 + 1, 0, none⟩), .pointer (some ⟨W.heap.size + 1 + 1 + 1 + 1 + 1 + 1, 0, none⟩)]) rfl trivial (enters_of Try.func55 (by kernel_rfl) rfl)
    HSQ.out belowK_t (belowK_b hge) (Below.refl _ _) (fun _ => rfl)
    (fun pre W' => (W'.cell? ⟨W.heap.size + 1 + 1, 0, none⟩ = some (.bool false) ∧ W'.frozen? ⟨W.heap.size + 1 + 1, 0, none⟩ = false) ∧ Below W.heap.size W W')
    (fun _ _ _ => False)
    (OwnFrom.and (Own.from (fun s A B row hs hg hr => ⟨cell_kept hs.1 hg hr, (frozen_kept hs.1 hg hr).trans hs.2⟩) _) (ownFrom_below (Nat.le_refl _) hge))
    (fun _ _ _ _ _ hs _ _ => hs)
    ⟨⟨hc2, hf2⟩, hb2⟩ (fun _ _ _ => True) (fun _ _ _ _ _ _ _ _ _ => trivial) ?assign ?body ?done ?stop
  case assign =>
    rintro l pre ⟨xa, xb, xc⟩ W' K ⟨⟨h1, h2⟩, h3⟩ hK
    unfold encR
    gi_wp2
    exact hK _ _ ((KeepsOthers.alloc _ _).from _) ((Below.refl _ W').alloc h3.size _) ⟨⟨cell_kept h1 (World.grownBy_alloc W' _ none) (fun r e => by cases e), (frozen_kept h1 (World.grownBy_alloc W' _ none) (fun r e => by cases e)).trans h2⟩, h3.alloc h3.size _⟩ trivial
  case body =>
    intro l pre x a' W' _ _ _ _ hlt
    exact absurd hlt (Nat.not_lt_zero _)
  case done =>
    rintro D ys W' hD hys ⟨⟨h1, h2⟩, h3⟩ hK
    gi_wp2
    have hK2 := (KeepsOthers.setCell W' ⟨W.heap.size + 1 + 1, 0, none⟩ (.bool true)).same D _ hK rfl
    have hcell := cell_kept (World.cell?_setCell_same _ _ (.bool true) h1) (grownBy_putObj' _ D (.deferred none)) (fun r e => by cases e; exact ⟨_, hK2, rfl⟩)
    refine ⟨by simp, .inl ⟨_, _, rfl, run_takeDeferred hK2, ?_⟩⟩
    refine ⟨.bool true, by simp [results, Try.results21, go_sem, hcell], rfl, ?_⟩
    exact (h3.setCell (p := ⟨W.heap.size + 1 + 1, 0, none⟩) (by show _ ≤ W.heap.size + 1 + 1; omega) _).trans (belowK_b (w := W) (Nat.le_refl _) _ D _ _ (by omega) hK2 rfl rfl)
  case stop =>
    rintro D c pre W' _ h _
    exact h.elim
end Go.Proofs.Ytjbenhmpeceaeab
namespace Go.Proofs.Ytjbenhmpeceaeab
open Go Go.RowKit Go.Shelf Gs

attribute [local go_sem] Oper.semAt_some

/-- a run, cut to a range -/
def clip1 (lo hi : Int) (r : R) : List R := if max lo r.lo < min r.hi hi then [⟨max lo r.lo, min r.hi hi, r.tag⟩] else []
def clip (lo hi : Int) (l : List R) : List R := l.flatMap (clip1 lo hi)
theorem clip_nil (lo hi : Int) : clip lo hi [] = [] := rfl
theorem clip_app (lo hi : Int) (l k : List R) : clip lo hi (l ++ k) = clip lo hi l ++ clip lo hi k := List.flatMap_append ..
theorem clip_cons (lo hi : Int) (r : R) (k : List R) : clip lo hi (r :: k) = clip1 lo hi r ++ clip lo hi k := rfl
theorem clip_none {lo hi : Int} (h : hi ≤ lo) (l : List R) : clip lo hi l = [] := by
  induction l with
  | nil => rfl
  | cons r l ih => rw [clip_cons, ih, List.append_nil]; unfold clip1; rw [if_neg (by omega)]
/-- what is cut off on the right does not matter to the runs on the left -/
theorem clip_left {f : Int → Int} {lo hi m : Int} : ∀ {l : List R} {a b : Int}, Fits f a l b → b ≤ m → clip lo (min m hi) l = clip lo hi l
  | [], _, _, _, _ => rfl
  | r :: l, a, b, h, hm => by
    have h2 := h.2.2.2.le
    rw [clip_cons, clip_cons, clip_left h.2.2.2 hm]
    unfold clip1
    rw [show min r.hi (min m hi) = min r.hi hi by omega]
theorem clip_right {f : Int → Int} {lo hi m : Int} : ∀ {l : List R} {a b : Int}, Fits f a l b → m ≤ a → clip (max lo m) hi l = clip lo hi l
  | [], _, _, _, _ => rfl
  | r :: l, a, b, h, hm => by
    have h1 := h.1; have h3 := h.2.1
    rw [clip_cons, clip_cons, clip_right h.2.2.2 (by omega)]
    unfold clip1
    rw [show max (max lo m) r.lo = max lo r.lo by omega]
theorem clip_node {f : Int → Int} {lo hi a b : Int} {l k : List R} {r : R} (h : Gs.Can f a (l ++ r :: k) b) : clip lo hi (l ++ r :: k) = clip lo (min r.lo hi) l ++ (clip1 lo hi r ++ clip (max lo r.hi) hi k) := by
  obtain ⟨h1, h2, _⟩ := h.mid
  rw [clip_app, clip_cons, clip_left h1.1 (Int.le_refl _), clip_right h2.1 (Int.le_refl _)]
theorem clip_len (lo hi : Int) (l : List R) : (clip lo hi l).length ≤ l.length := by
  induction l with
  | nil => exact Nat.le_refl _
  | cons r l ih =>
    rw [clip_cons, List.length_append, List.length_cons]
    unfold clip1
    split <;> simp <;> omega

theorem grown_drew (W : World) : W.grownBy W.drew none := ⟨rfl, rfl, rfl, Nat.le_refl _, fun _ _ _ => rfl⟩
theorem room_of_none {F : Fence} (hd : F.depth = none) (k : Nat) : F.room k := fun d h => by rw [hd] at h; cases h
theorem RoundIn.deep {F : Fence} (hd : F.depth = none) {m m' : Nat} {P : Program} {l : Nat} {f : FuncId} {tmps : Array Value} {assign body : Code} {w : World} {R : Ending → World → Prop}
    (h : RoundIn F m P l f tmps assign body w R) : RoundIn F m' P l f tmps assign body w R := ⟨h.1, fun c cs _ => h.2 c cs (room_of_none hd _)⟩
theorem YieldAt.deep {F : Fence} (hd : F.depth = none) {m : Nat} (m' : Nat) {P : Program} {l : Nat} {args : Array Value} {W : World} {R : Ending → World → Prop} (h : YieldAt F m P l args W R) : YieldAt F m' P l args W R := by
  obtain ⟨fn, tmps, assign, body, hy, hR⟩ := h
  exact ⟨fn, tmps, assign, body, hy, RoundIn.deep hd hR⟩

/-- the tree's blocks lie below n₀ -/
def IsTB (n₀ : Nat) (W : World) : T → Option Addr → Prop
  | .nil, p => p = none
  | .node l r k, p => ∃ b x y, p = some ⟨b, 0, none⟩ ∧ b < n₀ ∧ W.cell? ⟨b, 0, none⟩ = some (.pointer x) ∧ W.cell? ⟨b, 1, none⟩ = some (.int .i64 r.lo) ∧ W.cell? ⟨b, 2, none⟩ = some (.int .i64 r.hi) ∧ W.cell? ⟨b, 3, none⟩ = some (.int .i64 r.tag) ∧ W.cell? ⟨b, 4, none⟩ = some (.pointer y) ∧ IsTB n₀ W l x ∧ IsTB n₀ W k y
theorem IsTB.below {n₀ : Nat} {A B : World} (h : Below n₀ A B) : ∀ {t : T} {p : Option Addr}, IsTB n₀ A t p → IsTB n₀ B t p
  | .nil, _, ht => ht
  | .node _ _ _, _, ⟨b, x, y, hp, hb, h0, h1, h2, h3, h4, hl, hr⟩ => ⟨b, x, y, hp, hb, (h.cell (p := ⟨b, 0, none⟩) hb).trans h0, (h.cell (p := ⟨b, 1, none⟩) hb).trans h1, (h.cell (p := ⟨b, 2, none⟩) hb).trans h2, (h.cell (p := ⟨b, 3, none⟩) hb).trans h3, (h.cell (p := ⟨b, 4, none⟩) hb).trans h4, IsTB.below h hl, IsTB.below h hr⟩
theorem IsT.tb {W : World} : ∀ {t : T} {p : Option Addr}, IsT W t (.pointer p) → IsTB W.heap.size W t p
  | .nil, _, h => by
    have h1 : Value.pointer _ = .pointer none := h
    injection h1
  | .node l r k, p, h => by
    obtain ⟨lo, hi, tag⟩ := r
    obtain ⟨b, x, y, rfl, hlt, h1, h2, hcs⟩ := h.open
    obtain ⟨c0, c1, c2, c3, c4⟩ := hcs W (Below.refl _ _)
    exact ⟨b, x, y, rfl, hlt, c0, c1, c2, c3, c4, IsT.tb h1, IsT.tb h2⟩
set_option maxRecDepth 100000 in
set_option maxHeartbeats 4000000 in
theorem visitP_in (P : R → Prop) (f : Int → Int) (l n₀ N : Nat) (J Jx : List R → World → Prop)
    (hJ : ∀ s W W', J s W → W.grownBy W' none → J s W') (_hJx : ∀ s W W', Jx s W → W.grownBy W' none → Jx s W')
    (hY : ∀ m pre x W, J pre W → pre.length < N → P x → YieldAt Fence.wide m Try.prog l (encR x) W fun e W' =>
      (e = .returned (.bool true) ∧ J (pre ++ [x]) W' ∧ Below n₀ W W') ∨ (e = .returned (.bool false) ∧ Jx (pre ++ [x]) W')) (t : T) :
    ∀ (n : Nat) (p : Option Addr) (a b lo hi : Int) (pre : List R) (W : World), IsTB n₀ W t p → n₀ ≤ W.heap.size → Gs.Can f a t.L b → J pre W → pre.length + (clip lo hi t.L).length ≤ N → (∀ x ∈ clip lo hi t.L, P x) →
      CallsIn Fence.wide n Try.prog 56 #[.pointer p, .int .i64 lo, .int .i64 hi, .func (.yield l) #[] #[]] W fun e W' =>
        (e = .returned (.bool true) ∧ J (pre ++ clip lo hi t.L) W' ∧ Below n₀ W W') ∨ (e = .returned (.bool false) ∧ ∃ q, q <+: clip lo hi t.L ∧ Jx (pre ++ q) W') := by
  have hearly : ∀ (t : T) (n : Nat) (p : Option Addr) (lo hi : Int) (pre : List R) (W : World), (p = none ∨ hi ≤ lo) → (∃ x, p = x) → J pre W → clip lo hi t.L = [] →
      CallsIn Fence.wide n Try.prog 56 #[.pointer p, .int .i64 lo, .int .i64 hi, .func (.yield l) #[] #[]] W fun e W' =>
        (e = .returned (.bool true) ∧ J (pre ++ clip lo hi t.L) W' ∧ Below n₀ W W') ∨ (e = .returned (.bool false) ∧ ∃ q, q <+: clip lo hi t.L ∧ Jx (pre ++ q) W') := by
    intro t n p lo hi pre W hp _ hj hc
    rw [hc]
    by_cases h0 : p = none
    · subst h0
      refine callsIn_of_wp Try.func56 rfl trivial ?_ rfl
      simp only [Try.ntmps56, List.size_toArray, List.length_cons, List.length_nil, Nat.reduceAdd, Nat.reduceSub, Array.replicate_succ, Array.replicate_zero, List.push_toArray, List.append_toArray, List.nil_append, List.cons_append]
      gi_wp2
      go_ret
      exact .inl ⟨rfl, by simpa using hj, Below.refl _ _⟩
    · have h1 : lo ≥ hi := by rcases hp with h | h; exact absurd h h0; exact h
      obtain ⟨x, rfl⟩ : ∃ x, p = some x := by
        cases p with
        | none => exact absurd rfl h0
        | some x => exact ⟨x, rfl⟩
      refine callsIn_of_wp Try.func56 rfl trivial ?_ rfl
      simp only [Try.ntmps56, List.size_toArray, List.length_cons, List.length_nil, Nat.reduceAdd, Nat.reduceSub, Array.replicate_succ, Array.replicate_zero, List.push_toArray, List.append_toArray, List.nil_append, List.cons_append]
      gi_wp2
      go_ret
      exact .inl ⟨rfl, by simpa using hj, Below.refl _ _⟩
  induction t with
  | nil =>
    intro n p a b lo hi pre W ht _ _ hj _ _
    exact hearly .nil n p lo hi pre W (.inl ht) ⟨_, rfl⟩ hj rfl
  | node tl r tr ihl ihr =>
    intro n p a b lo hi pre W ht hn hc hj hN hP
    by_cases hlh : hi ≤ lo
    · exact hearly _ n p lo hi pre W (.inr hlh) ⟨_, rfl⟩ hj (clip_none hlh _)
    · obtain ⟨rlo, rhi, rtag⟩ := r
      obtain ⟨b0, x, y, rfl, hb, c0, c1, c2, c3, c4, hl, hr⟩ := ht
      simp only at c1 c2 c3
      have hcl := clip_node (lo := lo) (hi := hi) hc
      obtain ⟨m1, m2, m3, _, _, _⟩ := hc.mid
      simp only at m1 m2 m3
      have hLL : (T.node tl ⟨rlo, rhi, rtag⟩ tr).L = tl.L ++ ⟨rlo, rhi, rtag⟩ :: tr.L := rfl
      rw [hLL] at hN hP ⊢
      rw [hcl] at hN hP ⊢
      simp only [List.length_append] at hN
      have hdd : ∀ k : Nat, ((Fence.wide).depth.isSome = true → 1 ≤ k) := fun k h => by cases h
      have hmx : ∀ p q : Int, (if p < q then q else p) = max p q := fun p q => by split <;> omega
      have hmn : ∀ p q : Int, (if p < q then p else q) = min p q := fun p q => by split <;> omega
      have hlh2 : ¬ lo ≥ hi := by omega
      have hWd : Below n₀ W W.drew := (Below.refl _ _).drew
      have hJd : J pre W.drew := hJ _ _ _ hj (grown_drew W)
      have ih1 := (ihl (n - 1) x a rlo lo (min rlo hi) pre W.drew (hl.below hWd) (by show n₀ ≤ W.heap.size; exact hn) m1 hJd (by omega) (fun x hx => hP x (List.mem_append_left _ hx))).mono (R' := fun e W1 =>
        ∃ bb, e = .returned (.bool bb) ∧ Hid ((bb = true ∧ (W1.cell? ⟨b0, 1, none⟩ = some (.int .i64 rlo) ∧ W1.cell? ⟨b0, 2, none⟩ = some (.int .i64 rhi) ∧ W1.cell? ⟨b0, 3, none⟩ = some (.int .i64 rtag) ∧ W1.cell? ⟨b0, 4, none⟩ = some (.pointer y)) ∧ J (pre ++ clip lo (min rlo hi) tl.L) W1 ∧ Below n₀ W W1) ∨
        (bb = false ∧ ∃ q, q <+: clip lo (min rlo hi) tl.L ∧ Jx (pre ++ q) W1)))
        (fun e W1 h => h.elim (fun ⟨he, hj, hb1⟩ => ⟨true, he, .inl ⟨rfl, ⟨((hWd.trans hb1).cell (p := ⟨b0, 1, none⟩) hb).trans c1, ((hWd.trans hb1).cell (p := ⟨b0, 2, none⟩) hb).trans c2, ((hWd.trans hb1).cell (p := ⟨b0, 3, none⟩) hb).trans c3, ((hWd.trans hb1).cell (p := ⟨b0, 4, none⟩) hb).trans c4⟩, hj, hWd.trans hb1⟩⟩) fun h => ⟨false, h.1, .inr ⟨rfl, h.2⟩⟩)
      have HRT : Hid (∀ (q0 : List R) (W3 : World), J (pre ++ q0) W3 → Below n₀ W W3 → pre.length + q0.length + (clip (max lo rhi) hi tr.L).length ≤ N →
          CallsIn Fence.wide (n - 1) Try.prog 56 #[.pointer y, .int .i64 (max lo rhi), .int .i64 hi, .func (.yield l) #[] #[]] W3.drew fun e W4 =>
            ∃ bb, e = .returned (.bool bb) ∧ Hid ((bb = true ∧ J (pre ++ q0 ++ clip (max lo rhi) hi tr.L) W4 ∧ Below n₀ W W4) ∨ (bb = false ∧ ∃ q, q <+: clip (max lo rhi) hi tr.L ∧ Jx (pre ++ q0 ++ q) W4))) := fun q0 W3 hj3 hb3 hlen =>
        (ihr (n - 1) y rhi b (max lo rhi) hi (pre ++ q0) W3.drew (hr.below hb3.drew) (by show n₀ ≤ W3.heap.size; exact Nat.le_trans hn hb3.size) m2 (hJ _ _ _ hj3 (grown_drew W3)) (by rw [List.length_append]; exact hlen) (fun x hx => hP x (List.mem_append_right _ (List.mem_append_right _ hx)))).mono fun e W4 h => h.elim
          (fun ⟨he, hj, hb4⟩ => ⟨true, he, .inl ⟨rfl, hj, hb3.drew.trans hb4⟩⟩) fun ⟨he, h⟩ => ⟨false, he, .inr ⟨rfl, h⟩⟩
      have HN := Lib.hid hN
      have HPP := Lib.hid hP
      have HLH := Lib.hid hlh2
      have HCC := Lib.hid (And.intro m1 (And.intro m2 m3))
      clear ihl ihr hearly hl hr hj hc hJd hWd m1 m2 m3 hcl hLL hN hP
      refine callsIn_of_wp Try.func56 rfl trivial ?_ rfl
      simp only [Try.ntmps56, List.size_toArray, List.length_cons, List.length_nil, Nat.reduceAdd, Nat.reduceSub, Array.replicate_succ, Array.replicate_zero, List.push_toArray, List.append_toArray, List.nil_append, List.cons_append]
      gi_upto_region 3 with fail
      gi_cut [31] from 17 (fun s31 W1 => ∃ bb, s31 = .bool (!bb) ∧ Hid ((bb = true ∧ (W1.cell? ⟨b0, 1, none⟩ = some (.int .i64 rlo) ∧ W1.cell? ⟨b0, 2, none⟩ = some (.int .i64 rhi) ∧ W1.cell? ⟨b0, 3, none⟩ = some (.int .i64 rtag) ∧ W1.cell? ⟨b0, 4, none⟩ = some (.pointer y)) ∧ J (pre ++ clip lo (min rlo hi) tl.L) W1 ∧ Below n₀ W W1) ∨
        (bb = false ∧ ∃ q, q <+: clip lo (min rlo hi) tl.L ∧ Jx (pre ++ q) W1)))
      case first =>
        gi_region_with (first | (refine ⟨trivial, hdd _, ?_⟩; with_reducible refine ih1.mono ?_; clear ih1; rintro e W1 ⟨bb, rfl, H1⟩) | fail)
        all_goals
          go_simp
          gi_wp2_with fail
          gi_meet
          case rel => exact ⟨bb, rfl, H1⟩
      case rest =>
        generalize wc = W1 at *
        obtain ⟨bb, rfl, H1⟩ := hcut
        clear ih1 c0 c1 c2 c3 c4
        rcases H1.out with ⟨rfl, ⟨e1, e2, e3, e4⟩, hJ1, hB1⟩ | ⟨rfl, q, hq, hx1⟩
        · have HJ1 := Lib.hid hJ1
          have HB1 := Lib.hid hB1
          have hl1 : b0 < W1.heap.size := Nat.lt_of_lt_of_le hb (Nat.le_trans hn hB1.size)
          have HZ : ∀ p : Addr, p.block = b0 → (W1.alloc (.cells #[.int .i64 0, .int .i64 0, .int .i64 0] 46)).cell? p = W1.cell? p := fun p h => ((Below.refl W1.heap.size W1).alloc (Nat.le_refl _) _).cell (p := p) (by rw [h]; exact hl1)
          have z1 := (HZ ⟨b0, 1, none⟩ rfl).trans e1
          have z2 := (HZ ⟨b0, 2, none⟩ rfl).trans e2
          have z3 := (HZ ⟨b0, 3, none⟩ rfl).trans e3
          clear hJ1 hB1 H1 HZ
          go_simp
          gi_wp2_with fail
          gi_region
          clear z1 z2 z3
          obtain ⟨W2, HW2⟩ : ∃ W2, W2 = (W1.alloc (.cells #[.int .i64 (max lo rlo), .int .i64 (min rhi hi), .int .i64 rtag] 46)).drew := ⟨_, rfl⟩
          rw [← HW2]
          have b12 : Below W1.heap.size W1 W2 := by rw [HW2]; exact ((Below.refl _ _).alloc (Nat.le_refl _) _).drew
          have p0 : W2.cell? ⟨W1.heap.size, 0, none⟩ = some (.int .i64 (max lo rlo)) := by rw [HW2]; exact World.cell?_alloc_at _ _ _ _ rfl
          have p1 : W2.cell? ⟨W1.heap.size, 1, none⟩ = some (.int .i64 (min rhi hi)) := by rw [HW2]; exact World.cell?_alloc_at _ _ _ _ rfl
          have p2 : W2.cell? ⟨W1.heap.size, 2, none⟩ = some (.int .i64 rtag) := by rw [HW2]; exact World.cell?_alloc_at _ _ _ _ rfl
          have f2 := (b12.cell (p := ⟨b0, 2, none⟩) hl1).trans e2
          have f4 := (b12.cell (p := ⟨b0, 4, none⟩) hl1).trans e4
          have hJ2 : J (pre ++ clip lo (min rlo hi) tl.L) W2 := by rw [HW2]; exact hJ _ _ _ (hJ _ _ _ HJ1.out (World.grownBy_alloc W1 _ none)) (grown_drew _)
          have hB2 : Below n₀ W W2 := HB1.out.trans (b12.mono (Nat.le_trans hn HB1.out.size))
          clear HW2 e1 e2 e3 e4
          by_cases hlt : max lo rlo < min rhi hi
          · have hc1 : clip1 lo hi ⟨rlo, rhi, rtag⟩ = [⟨max lo rlo, min rhi hi, rtag⟩] := if_pos hlt
            have HC1 := Lib.hid hc1
            have hN2 := HN.out
            rw [hc1, List.length_singleton] at hN2
            obtain ⟨fn, tmps, assign, body, hy, hR⟩ := (hY (n - 1) (pre ++ clip lo (min rlo hi) tl.L) ⟨max lo rlo, min rhi hi, rtag⟩ W2 hJ2 (by rw [List.length_append]; omega) (HPP.out _ (by rw [hc1]; exact List.mem_append_right _ (List.mem_append_left _ (List.mem_singleton.2 rfl))))).mono (R' := fun e W3 =>
              (e = .returned (.bool true) ∧ Hid (J (pre ++ clip lo (min rlo hi) tl.L ++ [⟨max lo rlo, min rhi hi, rtag⟩]) W3) ∧ Hid (Below n₀ W W3) ∧ W3.cell? ⟨b0, 2, none⟩ = some (.int .i64 rhi) ∧ W3.cell? ⟨b0, 4, none⟩ = some (.pointer y)) ∨ (e = .returned (.bool false) ∧ Hid (Jx (pre ++ clip lo (min rlo hi) tl.L ++ [⟨max lo rlo, min rhi hi, rtag⟩]) W3)))
              (fun e W3 h => h.elim (fun ⟨he, hj, hb3⟩ => .inl ⟨he, Lib.hid hj, Lib.hid (hB2.trans hb3), (hb3.cell (p := ⟨b0, 2, none⟩) hb).trans f2, (hb3.cell (p := ⟨b0, 4, none⟩) hb).trans f4⟩) fun ⟨he, h⟩ => .inr ⟨he, Lib.hid h⟩)
            unfold encR at hy
            have HN2 : Hid (pre.length + (clip lo (min rlo hi) tl.L ++ [(⟨max lo rlo, min rhi hi, rtag⟩ : R)]).length + (clip (max lo rhi) hi tr.L).length ≤ N) := by
              show _ ≤ _
              rw [List.length_append, List.length_singleton]; omega
            clear hJ2 hB2 hc1 hN2 f2 f4
            gi_wp2_with ((try refine ⟨hdd _, ?_⟩); refine hR.mono ?_; clear hR; rintro e W3 (⟨rfl, hJ3, hB3, f2, f4⟩ | ⟨rfl, hx3⟩))
            · have hcall := HRT.out (clip lo (min rlo hi) tl.L ++ [⟨max lo rlo, min rhi hi, rtag⟩]) W3 (by rw [← List.append_assoc]; exact hJ3.out) hB3.out HN2.out
              gi_region_with (first | (refine ⟨trivial, hdd _, ?_⟩; with_reducible refine hcall.mono ?_; clear hcall; rintro e W4 ⟨b4, rfl, H4⟩) | fail)
              all_goals
                go_simp
                gi_wp2_with fail
                go_ret
                rw [HC1.out]
                rcases H4.out with ⟨rfl, hj4, hb4⟩ | ⟨rfl, q', hq', hx4⟩
                · exact .inl ⟨rfl, by simpa [List.append_assoc] using hj4, hb4⟩
                · exact .inr ⟨rfl, clip lo (min rlo hi) tl.L ++ ([⟨max lo rlo, min rhi hi, rtag⟩] ++ q'), (List.prefix_append_right_inj _).2 ((List.prefix_append_right_inj _).2 hq'), by simpa [List.append_assoc] using hx4⟩
            · go_ret
              rw [HC1.out]
              exact .inr ⟨rfl, clip lo (min rlo hi) tl.L ++ [⟨max lo rlo, min rhi hi, rtag⟩], (List.prefix_append_right_inj _).2 (List.prefix_append _ _), by simpa [List.append_assoc] using hx3.out⟩
          · have hc1 : clip1 lo hi ⟨rlo, rhi, rtag⟩ = [] := if_neg hlt
            have HC1 := Lib.hid hc1
            have hcall := HRT.out (clip lo (min rlo hi) tl.L) W2 hJ2 hB2 (by have := HN.out; rw [hc1] at this; simp only [List.length_nil] at this; omega)
            clear hJ2 hB2 hc1
            gi_wp2_with fail
            refine ⟨fun _ h => (by cases h), ?_⟩
            gi_wp2_with fail
            gi_region_with (first | (refine ⟨trivial, hdd _, ?_⟩; with_reducible refine hcall.mono ?_; clear hcall; rintro e W4 ⟨b4, rfl, H4⟩) | fail)
            all_goals
              go_simp
              gi_wp2_with fail
              go_ret
              rw [HC1.out]
              rcases H4.out with ⟨rfl, hj4, hb4⟩ | ⟨rfl, q', hq', hx4⟩
              · exact .inl ⟨rfl, by simpa [List.append_assoc] using hj4, hb4⟩
              · exact .inr ⟨rfl, clip lo (min rlo hi) tl.L ++ q', (List.prefix_append_right_inj _).2 hq', by simpa [List.append_assoc] using hx4⟩
        · have HX1 := Lib.hid hx1
          have HQ := Lib.hid hq
          clear hq hx1 H1
          go_simp
          gi_wp2_with fail
          go_ret
          exact .inr ⟨rfl, q, HQ.out.trans (List.prefix_append _ _), HX1.out⟩
theorem visit_in (f : Int → Int) (l n₀ N : Nat) (J Jx : List R → World → Prop)
    (hJ : ∀ s W W', J s W → W.grownBy W' none → J s W') (hJx : ∀ s W W', Jx s W → W.grownBy W' none → Jx s W')
    (hY : ∀ m pre x W, J pre W → pre.length < N → YieldAt Fence.wide m Try.prog l (encR x) W fun e W' =>
      (e = .returned (.bool true) ∧ J (pre ++ [x]) W' ∧ Below n₀ W W') ∨ (e = .returned (.bool false) ∧ Jx (pre ++ [x]) W')) (t : T)
    (n : Nat) (p : Option Addr) (a b lo hi : Int) (pre : List R) (W : World) (h1 : IsTB n₀ W t p) (h2 : n₀ ≤ W.heap.size) (h3 : Gs.Can f a t.L b) (h4 : J pre W) (h5 : pre.length + (clip lo hi t.L).length ≤ N) :
      CallsIn Fence.wide n Try.prog 56 #[.pointer p, .int .i64 lo, .int .i64 hi, .func (.yield l) #[] #[]] W fun e W' =>
        (e = .returned (.bool true) ∧ J (pre ++ clip lo hi t.L) W' ∧ Below n₀ W W') ∨ (e = .returned (.bool false) ∧ ∃ q, q <+: clip lo hi t.L ∧ Jx (pre ++ q) W') :=
  visitP_in (fun _ => True) f l n₀ N J Jx hJ hJx (fun m pre x W hj hl _ => hY m pre x W hj hl) t n p a b lo hi pre W h1 h2 h3 h4 h5 (fun _ _ => trivial)
end Go.Proofs.Ytjbenhmpeceaeab
