/- Contracts and lemmas (several texts merged into one). -/
import Derived.Test.YtjbenhmpeceaeaaBJxp2
import Derived.BigQuiet
import Derived.Deep.QuietTactic
import Derived.Deep.RegionWith
import Derived.RangeFuncWrites
import Derived.RangeFuncKeeps
import Derived.RangeFuncBound
import Derived.RangeFuncLeaves
import Derived.Shelf.Abstract
import Derived.WalkKit
import Derived.OwnWalkIn
import Derived.TacticsInMore
import Derived.RegionIn
import Derived.Stop.RegionWithIn
import Derived.Shelf.RegionOpen
import Derived.BigRegionIn
import Derived.Sort.CutIn
import Derived.Test.YtjbenhmpeceaeaaBJxp1
namespace Go.Proofs.Ytjbenhmpeceaeaa
open Go Go.RowKit Gs

set_option maxRecDepth 100000 in
set_option maxHeartbeats 1000000 in
theorem glue_SN (f : Int → Int) (a b lo hi tag : Int) (n m : Nat) (p q : Option Addr) (W : World) (hl : Tr f a lo n W p) (hk : Tr f hi b m W q) (hx : Ctx f a b) (hn : n + m ≤ 40000) (h1 : lo < hi) (h2 : ∀ x, lo ≤ x → x < hi → f x = tag)
    (bl : Nat) (ylo ytag : Int) (ep : p = some ⟨bl, 0, none⟩) (hlast : ∀ W', Below W.heap.size W W' → Calls Try.prog 76 #[.pointer (some ⟨bl, 0, none⟩)] W' fun e w' => e = .returned (.agg #[.int .i64 ylo, .int .i64 lo, .int .i64 ytag]) ∧ Below W'.heap.size W' w') (y1 : ylo < lo) (y2 : a ≤ ylo) (y3 : ∀ x, ylo ≤ x → x < lo → f x = ytag) (y4 : a < ylo → f (ylo - 1) ≠ f ylo) (ye : tag = ytag)
    (eq : q = none) (eb : hi = b) :
    Calls Try.prog 68 #[.pointer p, .agg #[.int .i64 lo, .int .i64 hi, .int .i64 tag], .pointer q] W fun e w' => ∃ g, e = .returned (.pointer (some ⟨g, 0, none⟩)) ∧ Hid (Tr f a b (n + m + 1) w' (some ⟨g, 0, none⟩)) ∧ Below W.heap.size W w' := by
  have q1 := hl.le; have q2 := hk.le
  subst ep
  subst eq
  subst ye
  have HF : Hid (∀ x, ylo ≤ x → x < hi → f x = tag) := by
    intro x x1 x2
    by_cases g1 : x < lo
    · exact y3 x x1 g1
    exact h2 x (by omega) (by omega)
  have HA : Hid (a < ylo → f (ylo - 1) ≠ f ylo) := by
    exact y4
  have HZ : Hid (hi < b → f (hi - 1) ≠ f hi) := by
    intro h; omega
  have HL := Lib.hid hl; have HK := Lib.hid hk; have HX := Lib.hid hx
  have HLS : Hid (∀ u v W', Bq W u v tag W' → Calls Try.prog 76 #[.pointer (some ⟨bl, 0, none⟩)] W' fun e w' => e = .returned (.agg #[.int .i64 ylo, .int .i64 lo, .int .i64 tag]) ∧ Bq W u v tag w') := fun u v W' h => (hlast W' h.bel).mono fun e w' ⟨he, hB⟩ => ⟨he, h.next hB⟩
  have HSL : Hid (∀ u v W', Bq W u v tag W' → Calls Try.prog 75 #[.pointer (some ⟨bl, 0, none⟩), .int .i64 ylo] W' fun e w' => ∃ x y, e = .returned (.tuple #[.pointer x, .pointer y]) ∧ Hid (Tr f a ylo n w' x) ∧ Bq W u v tag w') := fun u v W' h =>
    ((hl.below h.bel).split (hx.sub (by omega) (by omega)) (by omega) y2 (by omega)).mono fun e w' ⟨x, y, he, hX, hY, hB⟩ => ⟨x, y, he, hX, h.next hB⟩
  have HJ : Hid (∀ x y W', Bq W ylo hi tag W' → Tr f a ylo n W' x → Tr f hi b m W' y → Calls Try.prog 78 #[.pointer x, .agg #[.int .i64 ylo, .int .i64 hi, .int .i64 tag], .pointer y] W' fun e w' => ∃ g, e = .returned (.pointer (some ⟨g, 0, none⟩)) ∧ Hid (Tr f a b (n + m + 1) w' (some ⟨g, 0, none⟩)) ∧ Below W.heap.size W w') := fun x y W' h hX hY =>
    (hX.join hY hx (by omega) (by omega) HF.out HA.out HZ.out).mono fun e w' ⟨g, he, ht, hB⟩ => ⟨g, he, ht, h.bel.trans (hB.mono h.bel.size)⟩
  have hfl0 : ∀ (x y z : Int) (w : World), (Instr.field 64 (.agg #[.int .i64 x, .int .i64 y, .int .i64 z]) 0).run Try.prog w = .ok (.int .i64 x) w := fun _ _ _ _ => rfl
  have hfl1 : ∀ (x y z : Int) (w : World), (Instr.field 64 (.agg #[.int .i64 x, .int .i64 y, .int .i64 z]) 1).run Try.prog w = .ok (.int .i64 y) w := fun _ _ _ _ => rfl
  have hfl2 : ∀ (x y z : Int) (w : World), (Instr.field 64 (.agg #[.int .i64 x, .int .i64 y, .int .i64 z]) 2).run Try.prog w = .ok (.int .i64 z) w := fun _ _ _ _ => rfl
  have HBQ : Hid (Bq W lo hi tag (W.alloc (.cells #[.int .i64 lo, .int .i64 hi, .int .i64 tag] 64))) := Bq.new W lo hi tag _
  clear hl hk hx hn h1 h2 q1 q2 hlast y1 y2 y3 y4 eb
  go_enter Try.func68, Try.ntmps68
  go_wp2_with fail
  obtain ⟨w1, HW1⟩ : ∃ w1, w1 = W.alloc (.cells #[.int .i64 lo, .int .i64 hi, .int .i64 tag] 64) := ⟨_, rfl⟩
  rw [← HW1] at HBQ ⊢
  clear HW1
  have hq := HBQ.out
  have k2 := hq.c2
  go_region_with ((go_at_call 76; with_reducible refine (HLS.out lo hi _ ?h).mono ?_; (case h => (first | assumption | exact Bq.drew (by assumption) | fail)); rintro e w' ⟨rfl, hq'⟩; have kc' := hq'.c2))
  all_goals
    clear hq k2 kc'
    have hq := hq'
    clear hq'
    go_wp2_with fail
    refine (HLS.out _ _ _ hq).mono ?_
    rintro e w3 ⟨rfl, hq3⟩
    clear hq
    have j0 := hq3.c0
    have j1 := hq3.f0
    have hq4 := hq3.put ylo
    have j2 := hq4.c0
    clear hq3
    go_wp2_with fail
    refine (HSL.out _ _ _ hq4).mono ?_
    rintro e w5 ⟨x, x', rfl, HTX, hq⟩
    clear j0 j1 j2 hq4
    have k2 := hq.c2
    go_wp2_with fail
    go_quiet (fail)
    rename_i nq
    have hq' := hq.drewN nq
    clear hq k2
    have HTX2 := Lib.hid (HTX.out.below (below_drewN (Below.refl _ _) nq))
    clear HTX
    generalize hw : World.drewN _ nq = w2 at hq' HTX2 ⊢
    clear hw
    have hq := hq'
    clear hq'
    have k0 := hq.c0
    have k1 := hq.c1
    have k2 := hq.c2
    go_wp2_with fail
    refine (HJ.out _ _ _ hq HTX2.out (HK.out.below hq.bel)).mono ?_
    rintro e w' ⟨g, rfl, HG, hb⟩
    have HB := Lib.hid hb
    clear hb hq k0 k1 k2
    go_wp2_with fail
    go_ret
    exact ⟨g, rfl, HG, HB.out⟩
set_option maxRecDepth 100000 in
set_option maxHeartbeats 1000000 in
theorem glue_SD (f : Int → Int) (a b lo hi tag : Int) (n m : Nat) (p q : Option Addr) (W : World) (hl : Tr f a lo n W p) (hk : Tr f hi b m W q) (hx : Ctx f a b) (hn : n + m ≤ 40000) (h1 : lo < hi) (h2 : ∀ x, lo ≤ x → x < hi → f x = tag)
    (bl : Nat) (ylo ytag : Int) (ep : p = some ⟨bl, 0, none⟩) (hlast : ∀ W', Below W.heap.size W W' → Calls Try.prog 76 #[.pointer (some ⟨bl, 0, none⟩)] W' fun e w' => e = .returned (.agg #[.int .i64 ylo, .int .i64 lo, .int .i64 ytag]) ∧ Below W'.heap.size W' w') (y1 : ylo < lo) (y2 : a ≤ ylo) (y3 : ∀ x, ylo ≤ x → x < lo → f x = ytag) (y4 : a < ylo → f (ylo - 1) ≠ f ylo) (ye : tag = ytag)
    (br : Nat) (zhi ztag : Int) (eq : q = some ⟨br, 0, none⟩) (hfirst : ∀ W', Below W.heap.size W W' → Calls Try.prog 77 #[.pointer (some ⟨br, 0, none⟩)] W' fun e w' => e = .returned (.agg #[.int .i64 hi, .int .i64 zhi, .int .i64 ztag]) ∧ Below W'.heap.size W' w') (z1 : hi < zhi) (_z2 : zhi ≤ b) (z3 : ∀ x, hi ≤ x → x < zhi → f x = ztag) (_z4 : zhi < b → f (zhi - 1) ≠ f zhi) (ze : ztag ≠ tag) :
    Calls Try.prog 68 #[.pointer p, .agg #[.int .i64 lo, .int .i64 hi, .int .i64 tag], .pointer q] W fun e w' => ∃ g, e = .returned (.pointer (some ⟨g, 0, none⟩)) ∧ Hid (Tr f a b (n + m + 1) w' (some ⟨g, 0, none⟩)) ∧ Below W.heap.size W w' := by
  have q1 := hl.le; have q2 := hk.le
  subst ep
  subst eq
  subst ye
  have HF : Hid (∀ x, ylo ≤ x → x < hi → f x = tag) := by
    intro x x1 x2
    by_cases g1 : x < lo
    · exact y3 x x1 g1
    exact h2 x (by omega) (by omega)
  have HA : Hid (a < ylo → f (ylo - 1) ≠ f ylo) := by
    exact y4
  have HZ : Hid (hi < b → f (hi - 1) ≠ f hi) := by
    intro _; rw [z3 hi (by omega) (by omega), h2 (hi - 1) (by omega) (by omega)]; exact fun h => ze h.symm
  have HL := Lib.hid hl; have HK := Lib.hid hk; have HX := Lib.hid hx
  have HLS : Hid (∀ u v W', Bq W u v tag W' → Calls Try.prog 76 #[.pointer (some ⟨bl, 0, none⟩)] W' fun e w' => e = .returned (.agg #[.int .i64 ylo, .int .i64 lo, .int .i64 tag]) ∧ Bq W u v tag w') := fun u v W' h => (hlast W' h.bel).mono fun e w' ⟨he, hB⟩ => ⟨he, h.next hB⟩
  have HSL : Hid (∀ u v W', Bq W u v tag W' → Calls Try.prog 75 #[.pointer (some ⟨bl, 0, none⟩), .int .i64 ylo] W' fun e w' => ∃ x y, e = .returned (.tuple #[.pointer x, .pointer y]) ∧ Hid (Tr f a ylo n w' x) ∧ Bq W u v tag w') := fun u v W' h =>
    ((hl.below h.bel).split (hx.sub (by omega) (by omega)) (by omega) y2 (by omega)).mono fun e w' ⟨x, y, he, hX, hY, hB⟩ => ⟨x, y, he, hX, h.next hB⟩
  have HFS : Hid (∀ u v W', Bq W u v tag W' → Calls Try.prog 77 #[.pointer (some ⟨br, 0, none⟩)] W' fun e w' => e = .returned (.agg #[.int .i64 hi, .int .i64 zhi, .int .i64 ztag]) ∧ Hid (Below W'.heap.size W' w') ∧ Bq W u v tag w') := fun u v W' h => (hfirst W' h.bel).mono fun e w' ⟨he, hB⟩ => ⟨he, hB, h.next hB⟩
  have HJ : Hid (∀ x y W', Bq W ylo hi tag W' → Tr f a ylo n W' x → Tr f hi b m W' y → Calls Try.prog 78 #[.pointer x, .agg #[.int .i64 ylo, .int .i64 hi, .int .i64 tag], .pointer y] W' fun e w' => ∃ g, e = .returned (.pointer (some ⟨g, 0, none⟩)) ∧ Hid (Tr f a b (n + m + 1) w' (some ⟨g, 0, none⟩)) ∧ Below W.heap.size W w') := fun x y W' h hX hY =>
    (hX.join hY hx (by omega) (by omega) HF.out HA.out HZ.out).mono fun e w' ⟨g, he, ht, hB⟩ => ⟨g, he, ht, h.bel.trans (hB.mono h.bel.size)⟩
  have re : (ztag == tag) = false := by exact beq_eq_false_iff_ne.2 ze
  have hfl0 : ∀ (x y z : Int) (w : World), (Instr.field 64 (.agg #[.int .i64 x, .int .i64 y, .int .i64 z]) 0).run Try.prog w = .ok (.int .i64 x) w := fun _ _ _ _ => rfl
  have hfl1 : ∀ (x y z : Int) (w : World), (Instr.field 64 (.agg #[.int .i64 x, .int .i64 y, .int .i64 z]) 1).run Try.prog w = .ok (.int .i64 y) w := fun _ _ _ _ => rfl
  have hfl2 : ∀ (x y z : Int) (w : World), (Instr.field 64 (.agg #[.int .i64 x, .int .i64 y, .int .i64 z]) 2).run Try.prog w = .ok (.int .i64 z) w := fun _ _ _ _ => rfl
  have HBQ : Hid (Bq W lo hi tag (W.alloc (.cells #[.int .i64 lo, .int .i64 hi, .int .i64 tag] 64))) := Bq.new W lo hi tag _
  clear hl hk hx hn h1 h2 q1 q2 hlast y1 y2 y3 y4 hfirst z1 _z2 z3 _z4 ze
  go_enter Try.func68, Try.ntmps68
  go_wp2_with fail
  obtain ⟨w1, HW1⟩ : ∃ w1, w1 = W.alloc (.cells #[.int .i64 lo, .int .i64 hi, .int .i64 tag] 64) := ⟨_, rfl⟩
  rw [← HW1] at HBQ ⊢
  clear HW1
  have hq := HBQ.out
  have k2 := hq.c2
  go_region_with ((go_at_call 76; with_reducible refine (HLS.out lo hi _ ?h).mono ?_; (case h => (first | assumption | exact Bq.drew (by assumption) | fail)); rintro e w' ⟨rfl, hq'⟩; have kc' := hq'.c2))
  all_goals
    clear hq k2 kc'
    have hq := hq'
    clear hq'
    go_wp2_with fail
    refine (HLS.out _ _ _ hq).mono ?_
    rintro e w3 ⟨rfl, hq3⟩
    clear hq
    have j0 := hq3.c0
    have j1 := hq3.f0
    have hq4 := hq3.put ylo
    have j2 := hq4.c0
    clear hq3
    go_wp2_with fail
    refine (HSL.out _ _ _ hq4).mono ?_
    rintro e w5 ⟨x, x', rfl, HTX, hq⟩
    clear j0 j1 j2 hq4
    have k2 := hq.c2
    go_wp2_with fail
    go_region_with ((go_at_call 77; with_reducible refine (HFS.out ylo hi _ ?h).mono ?_; (case h => (first | assumption | exact Bq.drew (by assumption) | fail)); rintro e w' ⟨rfl, hbf, hq'⟩; have kc' := hq'.c2))
    all_goals
      have HTX2 := Lib.hid ((HTX.out.below (Below.refl _ _).drew).below hbf.out)
      clear hq k2 kc'
      have hq := hq'
      clear hq'
      have k0 := hq.c0
      have k1 := hq.c1
      have k2 := hq.c2
      go_wp2_with fail
      refine (HJ.out _ _ _ hq HTX2.out (HK.out.below hq.bel)).mono ?_
      rintro e w' ⟨g, rfl, HG, hb⟩
      have HB := Lib.hid hb
      clear hb hq k0 k1 k2
      go_wp2_with fail
      go_ret
      exact ⟨g, rfl, HG, HB.out⟩
set_option maxRecDepth 100000 in
set_option maxHeartbeats 1000000 in
theorem glue_SS (f : Int → Int) (a b lo hi tag : Int) (n m : Nat) (p q : Option Addr) (W : World) (hl : Tr f a lo n W p) (hk : Tr f hi b m W q) (hx : Ctx f a b) (hn : n + m ≤ 40000) (h1 : lo < hi) (h2 : ∀ x, lo ≤ x → x < hi → f x = tag)
    (bl : Nat) (ylo ytag : Int) (ep : p = some ⟨bl, 0, none⟩) (hlast : ∀ W', Below W.heap.size W W' → Calls Try.prog 76 #[.pointer (some ⟨bl, 0, none⟩)] W' fun e w' => e = .returned (.agg #[.int .i64 ylo, .int .i64 lo, .int .i64 ytag]) ∧ Below W'.heap.size W' w') (y1 : ylo < lo) (y2 : a ≤ ylo) (y3 : ∀ x, ylo ≤ x → x < lo → f x = ytag) (y4 : a < ylo → f (ylo - 1) ≠ f ylo) (ye : tag = ytag)
    (br : Nat) (zhi ztag : Int) (eq : q = some ⟨br, 0, none⟩) (hfirst : ∀ W', Below W.heap.size W W' → Calls Try.prog 77 #[.pointer (some ⟨br, 0, none⟩)] W' fun e w' => e = .returned (.agg #[.int .i64 hi, .int .i64 zhi, .int .i64 ztag]) ∧ Below W'.heap.size W' w') (z1 : hi < zhi) (z2 : zhi ≤ b) (z3 : ∀ x, hi ≤ x → x < zhi → f x = ztag) (z4 : zhi < b → f (zhi - 1) ≠ f zhi) (ze : tag = ztag) :
    Calls Try.prog 68 #[.pointer p, .agg #[.int .i64 lo, .int .i64 hi, .int .i64 tag], .pointer q] W fun e w' => ∃ g, e = .returned (.pointer (some ⟨g, 0, none⟩)) ∧ Hid (Tr f a b (n + m + 1) w' (some ⟨g, 0, none⟩)) ∧ Below W.heap.size W w' := by
  have q1 := hl.le; have q2 := hk.le
  subst ep
  subst eq
  subst ye
  subst ze
  have HF : Hid (∀ x, ylo ≤ x → x < zhi → f x = tag) := by
    intro x x1 x2
    by_cases g1 : x < lo
    · exact y3 x x1 g1
    by_cases g2 : hi ≤ x
    · exact z3 x g2 x2
    exact h2 x (by omega) (by omega)
  have HA : Hid (a < ylo → f (ylo - 1) ≠ f ylo) := by
    exact y4
  have HZ : Hid (zhi < b → f (zhi - 1) ≠ f zhi) := by
    exact z4
  have HL := Lib.hid hl; have HK := Lib.hid hk; have HX := Lib.hid hx
  have HLS : Hid (∀ u v W', Bq W u v tag W' → Calls Try.prog 76 #[.pointer (some ⟨bl, 0, none⟩)] W' fun e w' => e = .returned (.agg #[.int .i64 ylo, .int .i64 lo, .int .i64 tag]) ∧ Bq W u v tag w') := fun u v W' h => (hlast W' h.bel).mono fun e w' ⟨he, hB⟩ => ⟨he, h.next hB⟩
  have HSL : Hid (∀ u v W', Bq W u v tag W' → Calls Try.prog 75 #[.pointer (some ⟨bl, 0, none⟩), .int .i64 ylo] W' fun e w' => ∃ x y, e = .returned (.tuple #[.pointer x, .pointer y]) ∧ Hid (Tr f a ylo n w' x) ∧ Bq W u v tag w') := fun u v W' h =>
    ((hl.below h.bel).split (hx.sub (by omega) (by omega)) (by omega) y2 (by omega)).mono fun e w' ⟨x, y, he, hX, hY, hB⟩ => ⟨x, y, he, hX, h.next hB⟩
  have HFS : Hid (∀ u v W', Bq W u v tag W' → Calls Try.prog 77 #[.pointer (some ⟨br, 0, none⟩)] W' fun e w' => e = .returned (.agg #[.int .i64 hi, .int .i64 zhi, .int .i64 tag]) ∧ Hid (Below W'.heap.size W' w') ∧ Bq W u v tag w') := fun u v W' h => (hfirst W' h.bel).mono fun e w' ⟨he, hB⟩ => ⟨he, hB, h.next hB⟩
  have HSR : Hid (∀ u v W', Bq W u v tag W' → Calls Try.prog 75 #[.pointer (some ⟨br, 0, none⟩), .int .i64 zhi] W' fun e w' => ∃ x y, e = .returned (.tuple #[.pointer x, .pointer y]) ∧ Hid (Tr f zhi b m w' y) ∧ Hid (Below W'.heap.size W' w') ∧ Bq W u v tag w') := fun u v W' h =>
    ((hk.below h.bel).split (hx.sub (by omega) (by omega)) (by omega) (by omega) z2).mono fun e w' ⟨x, y, he, hX, hY, hB⟩ => ⟨x, y, he, hY, hB, h.next hB⟩
  have HJ : Hid (∀ x y W', Bq W ylo zhi tag W' → Tr f a ylo n W' x → Tr f zhi b m W' y → Calls Try.prog 78 #[.pointer x, .agg #[.int .i64 ylo, .int .i64 zhi, .int .i64 tag], .pointer y] W' fun e w' => ∃ g, e = .returned (.pointer (some ⟨g, 0, none⟩)) ∧ Hid (Tr f a b (n + m + 1) w' (some ⟨g, 0, none⟩)) ∧ Below W.heap.size W w') := fun x y W' h hX hY =>
    (hX.join hY hx (by omega) (by omega) HF.out HA.out HZ.out).mono fun e w' ⟨g, he, ht, hB⟩ => ⟨g, he, ht, h.bel.trans (hB.mono h.bel.size)⟩
  have hfl0 : ∀ (x y z : Int) (w : World), (Instr.field 64 (.agg #[.int .i64 x, .int .i64 y, .int .i64 z]) 0).run Try.prog w = .ok (.int .i64 x) w := fun _ _ _ _ => rfl
  have hfl1 : ∀ (x y z : Int) (w : World), (Instr.field 64 (.agg #[.int .i64 x, .int .i64 y, .int .i64 z]) 1).run Try.prog w = .ok (.int .i64 y) w := fun _ _ _ _ => rfl
  have hfl2 : ∀ (x y z : Int) (w : World), (Instr.field 64 (.agg #[.int .i64 x, .int .i64 y, .int .i64 z]) 2).run Try.prog w = .ok (.int .i64 z) w := fun _ _ _ _ => rfl
  have HBQ : Hid (Bq W lo hi tag (W.alloc (.cells #[.int .i64 lo, .int .i64 hi, .int .i64 tag] 64))) := Bq.new W lo hi tag _
  clear hl hk hx hn h1 h2 q1 q2 hlast y1 y2 y3 y4 hfirst z1 z2 z3 z4
  go_enter Try.func68, Try.ntmps68
  go_wp2_with fail
  obtain ⟨w1, HW1⟩ : ∃ w1, w1 = W.alloc (.cells #[.int .i64 lo, .int .i64 hi, .int .i64 tag] 64) := ⟨_, rfl⟩
  rw [← HW1] at HBQ ⊢
  clear HW1
  have hq := HBQ.out
  have k2 := hq.c2
  go_region_with ((go_at_call 76; with_reducible refine (HLS.out lo hi _ ?h).mono ?_; (case h => (first | assumption | exact Bq.drew (by assumption) | fail)); rintro e w' ⟨rfl, hq'⟩; have kc' := hq'.c2))
  all_goals
    clear hq k2 kc'
    have hq := hq'
    clear hq'
    go_wp2_with fail
    refine (HLS.out _ _ _ hq).mono ?_
    rintro e w3 ⟨rfl, hq3⟩
    clear hq
    have j0 := hq3.c0
    have j1 := hq3.f0
    have hq4 := hq3.put ylo
    have j2 := hq4.c0
    clear hq3
    go_wp2_with fail
    refine (HSL.out _ _ _ hq4).mono ?_
    rintro e w5 ⟨x, x', rfl, HTX, hq⟩
    clear j0 j1 j2 hq4
    have k2 := hq.c2
    go_wp2_with fail
    go_region_with ((go_at_call 77; with_reducible refine (HFS.out ylo hi _ ?h).mono ?_; (case h => (first | assumption | exact Bq.drew (by assumption) | fail)); rintro e w' ⟨rfl, hbf, hq'⟩; have kc' := hq'.c2))
    all_goals
      have HTX2 := Lib.hid ((HTX.out.below (Below.refl _ _).drew).below hbf.out)
      clear hq k2 kc'
      have hq := hq'
      clear hq'
      go_wp2_with fail
      refine (HFS.out _ _ _ hq).mono ?_
      rintro e w7 ⟨rfl, hb7, hq3⟩
      clear hq
      have j0 := hq3.c1
      have j1 := hq3.f1
      have hq4 := hq3.put1 zhi
      have j2 := hq4.c1
      go_wp2_with fail
      refine (HSR.out _ _ _ hq4).mono ?_
      rintro e w9 ⟨y', y, rfl, HTY, hb9, hq⟩
      have HTX3 := Lib.hid (((HTX2.out.below hb7.out).set hq3.c22 (.int .i64 zhi)).below hb9.out)
      clear j0 j1 j2
      have k0 := hq.c0
      have k1 := hq.c1
      have k2 := hq.c2
      go_wp2_with fail
      refine (HJ.out _ _ _ hq HTX3.out HTY.out).mono ?_
      rintro e w' ⟨g, rfl, HG, hb⟩
      have HB := Lib.hid hb
      clear hb hq k0 k1 k2
      go_wp2_with fail
      go_ret
      exact ⟨g, rfl, HG, HB.out⟩
end Go.Proofs.Ytjbenhmpeceaeaa
namespace Go.Proofs.Ytjbenhmpeceaeaa
open Go Go.RowKit Gs

theorem Tr.glue {f : Int → Int} {a b lo hi tag : Int} {n m : Nat} {W : World} {p q : Option Addr} (hl : Tr f a lo n W p) (hk : Tr f hi b m W q) (hx : Ctx f a b) (hn : n + m ≤ 40000) (h1 : lo < hi) (h2 : ∀ x, lo ≤ x → x < hi → f x = tag) :
    Calls Try.prog 68 #[.pointer p, .agg #[.int .i64 lo, .int .i64 hi, .int .i64 tag], .pointer q] W fun e w' => ∃ g, e = .returned (.pointer (some ⟨g, 0, none⟩)) ∧ Hid (Tr f a b (n + m + 1) w' (some ⟨g, 0, none⟩)) ∧ Below W.heap.size W w' := by
  rcases hl.last with ⟨ep, ea⟩ | ⟨bl, ylo, ytag, ep, hlast, y1, y2, y3, y4⟩
  · rcases hk.first with ⟨eq, eb⟩ | ⟨br, zhi, ztag, eq, hfirst, z1, z2, z3, z4⟩
    · exact glue_NN f a b lo hi tag n m p q W hl hk hx hn h1 h2 ep ea eq eb
    · by_cases ze : ztag = tag
      · exact glue_NS f a b lo hi tag n m p q W hl hk hx hn h1 h2 ep ea br zhi ztag eq hfirst z1 z2 z3 z4 ze.symm
      · exact glue_ND f a b lo hi tag n m p q W hl hk hx hn h1 h2 ep ea br zhi ztag eq hfirst z1 z2 z3 z4 ze
  · rcases hk.first with ⟨eq, eb⟩ | ⟨br, zhi, ztag, eq, hfirst, z1, z2, z3, z4⟩
    · by_cases ye : ytag = tag
      · exact glue_SN f a b lo hi tag n m p q W hl hk hx hn h1 h2 bl ylo ytag ep hlast y1 y2 y3 y4 ye.symm eq eb
      · exact glue_DN f a b lo hi tag n m p q W hl hk hx hn h1 h2 bl ylo ytag ep hlast y1 y2 y3 y4 ye eq eb
    · by_cases ye : ytag = tag <;> by_cases ze : ztag = tag
      · exact glue_SS f a b lo hi tag n m p q W hl hk hx hn h1 h2 bl ylo ytag ep hlast y1 y2 y3 y4 ye.symm br zhi ztag eq hfirst z1 z2 z3 z4 ze.symm
      · exact glue_SD f a b lo hi tag n m p q W hl hk hx hn h1 h2 bl ylo ytag ep hlast y1 y2 y3 y4 ye.symm br zhi ztag eq hfirst z1 z2 z3 z4 ze
      · exact glue_DS f a b lo hi tag n m p q W hl hk hx hn h1 h2 bl ylo ytag ep hlast y1 y2 y3 y4 ye br zhi ztag eq hfirst z1 z2 z3 z4 ze.symm
      · exact glue_DD f a b lo hi tag n m p q W hl hk hx hn h1 h2 bl ylo ytag ep hlast y1 y2 y3 y4 ye br zhi ztag eq hfirst z1 z2 z3 z4 ze
set_option maxHeartbeats 1000000 in
theorem Tr.concat {f : Int → Int} {a m b : Int} {n k : Nat} {W : World} {p q : Option Addr} (hl : Tr f a m n W p) (hk : Tr f m b k W q) (hx : Ctx f a b) (hn : n + k ≤ 40000) :
    Calls Try.prog 69 #[.pointer p, .pointer q] W fun e w' => ∃ g, e = .returned (.pointer g) ∧ Hid (Tr f a b (n + k + 1) w' g) ∧ Below W.heap.size W w' := by
  have q1 := hl.le; have q2 := hk.le
  rcases hk.first with ⟨rfl, rfl⟩ | ⟨br, zhi, ztag, rfl, hfirst, z1, z2, z3, z4⟩
  · have HL : Hid (Tr f a m (n + k + 1) W p) := hl.mono (by omega)
    clear hl hk hx hn q1 q2
    go_enter Try.func69, Try.ntmps69
    go_wp2_with fail
    go_ret
    exact ⟨p, rfl, HL, Below.refl _ _⟩
  · have HF := Lib.hid hfirst
    have HSP : Hid (∀ W', Below W.heap.size W W' → Calls Try.prog 75 #[.pointer (some ⟨br, 0, none⟩), .int .i64 zhi] W' fun e w' => ∃ x y, e = .returned (.tuple #[.pointer x, .pointer y]) ∧ Hid (Tr f m zhi k w' x) ∧ Hid (Tr f zhi b k w' y) ∧ Below W'.heap.size W' w') := fun W' h =>
      (hk.below h).split (hx.sub q1 (Int.le_refl _)) (by omega) (by omega) z2
    have HG : Hid (∀ W' y, Below W.heap.size W W' → Tr f zhi b k W' y → Calls Try.prog 68 #[.pointer p, .agg #[.int .i64 m, .int .i64 zhi, .int .i64 ztag], .pointer y] W' fun e w' => ∃ g, e = .returned (.pointer (some ⟨g, 0, none⟩)) ∧ Hid (Tr f a b (n + k + 1) w' (some ⟨g, 0, none⟩)) ∧ Below W'.heap.size W' w') := fun W' y h hy =>
      (hl.below h).glue hy hx hn z1 z3
    clear hl hk hx hn q1 q2 hfirst z1 z2 z3 z4
    go_enter Try.func69, Try.ntmps69
    go_wp2_with fail
    refine (HF.out _ (Below.refl _ _)).mono ?_
    rintro e w1 ⟨rfl, hb1⟩
    have HB1 := Lib.hid hb1
    clear hb1
    go_wp2_with fail
    obtain ⟨w2, HW2⟩ : ∃ w2, w2 = w1.alloc (.cells #[.int .i64 m, .int .i64 zhi, .int .i64 ztag] 64) := ⟨_, rfl⟩
    have hq : Bq w1 m zhi ztag w2 := by rw [HW2]; exact Bq.new _ _ _ _ _
    rw [← HW2]
    clear HW2
    have HB2 : Hid (Below W.heap.size W w2) := HB1.out.trans (hq.bel.mono HB1.out.size)
    refine (HSP.out _ HB2.out).mono ?_
    rintro e w3 ⟨x, y, rfl, HX, HY, hb3⟩
    have HB3 : Hid (Below W.heap.size W w3) := HB2.out.trans (hb3.mono HB2.out.size)
    have hq3 := hq.next hb3
    have c0 := hq3.c0; have c1 := hq3.c1; have c2 := hq3.c2
    clear hq hq3 hb3
    go_wp2_with fail
    refine (HG.out _ _ HB3.out HY.out).mono ?_
    rintro e w4 ⟨g, rfl, HG4, hb4⟩
    have HB4 : Hid (Below W.heap.size W w4) := HB3.out.trans (hb4.mono HB3.out.size)
    clear hb4 c0 c1 c2
    go_wp2_with fail
    go_ret
    exact ⟨_, rfl, HG4, HB4.out⟩
end Go.Proofs.Ytjbenhmpeceaeaa
namespace Go.Proofs.Ytjbenhmpeceaeaa
open Go Go.RowKit Gs

/-- the tag fr becomes tt -/
def swp (f : Int → Int) (fr tt : Nat) (x : Int) : Int := if f x = fr then tt else f x
theorem swp_ctx {f : Int → Int} {a b : Int} {fr tt : Nat} (h : Ctx f a b) (ht : tt < 16) : Ctx (swp f fr tt) a b := by
  refine ⟨h.1, h.2.1, fun p p1 p2 => ?_⟩
  have := h.2.2 p p1 p2
  simp only [swp]
  split <;> omega

set_option maxHeartbeats 1000000 in
theorem retag_eq (f : Int → Int) (fr tt : Nat) (c d : T) (lo hi tag a b : Int) (p : Option Addr) (W : World) (h : IsT W (.node c ⟨lo, hi, tag⟩ d) (.pointer p)) (hc : Gs.Can f a (T.node c ⟨lo, hi, tag⟩ d).L b) (hx : Ctx f a b) (hfr : fr < 16) (htt : tt < 16) (hz : (T.node c ⟨lo, hi, tag⟩ d).sz ≤ 20000) (hcn : cnt fr (T.node c ⟨lo, hi, tag⟩ d).L ≠ 0) (hg : tag = fr)
    (ihc : ∀ q w, IsT w c (.pointer q) → Calls Try.prog 70 #[.pointer q, .int .i64 fr, .int .i64 tt] w fun e w' => ∃ x, e = .returned (.pointer x) ∧ Hid (Tr (swp f fr tt) a lo c.sz w' x) ∧ Below w.heap.size w w')
    (ihd : ∀ q w, IsT w d (.pointer q) → Calls Try.prog 70 #[.pointer q, .int .i64 fr, .int .i64 tt] w fun e w' => ∃ x, e = .returned (.pointer x) ∧ Hid (Tr (swp f fr tt) hi b d.sz w' x) ∧ Below w.heap.size w w') :
    Calls Try.prog 70 #[.pointer p, .int .i64 fr, .int .i64 tt] W fun e w' => ∃ x, e = .returned (.pointer x) ∧ Hid (Tr (swp f fr tt) a b (T.node c ⟨lo, hi, tag⟩ d).sz w' x) ∧ Below W.heap.size W w' := by
  obtain ⟨m1, m2, m3, m4, m5, m6⟩ := hc.mid
  simp only at m1 m2 m3 m4 m5 m6
  have q1 := m1.le; have q2 := m2.le
  have HCN : Hid (Calls Try.prog 53 #[.pointer p, .int .i64 fr] W fun e w' => e = .returned (.int .i64 (cnt fr (T.node c ⟨lo, hi, tag⟩ d).L)) ∧ W = w') := count_any _ _ W fr hfr h
  have hne : (cnt fr (T.node c ⟨lo, hi, tag⟩ d).L == 0) = false := beq_eq_false_iff_ne.2 hcn
  obtain ⟨b0, u, v, rfl, hlt, h1, h2, hcs⟩ := h.open
  have HSW : Hid (∀ x, lo ≤ x → x < hi → swp f fr tt x = tt) := fun x x1 x2 => by
    have e := m4 x x1 x2
    simp only [swp]
    rw [e, hg, if_pos rfl]
  have HXG : Hid (Ctx (swp f fr tt) a b) := swp_ctx hx htt
  have HALL : Hid (∀ W', Bq W lo hi tt W' → (W'.cell? ⟨W.heap.size, 0, none⟩ = some (.int .i64 lo) ∧ W'.cell? ⟨W.heap.size, 1, none⟩ = some (.int .i64 hi) ∧ W'.cell? ⟨W.heap.size, 2, none⟩ = some (.int .i64 tt) ∧ W'.cell? ⟨b0, 0, none⟩ = some (.pointer u) ∧ W'.cell? ⟨b0, 4, none⟩ = some (.pointer v))) := fun W' h => by
    obtain ⟨n0, _, _, _, n4⟩ := hcs W' h.bel
    exact ⟨h.c0, h.c1, h.c2, n0, n4⟩
  have HR1 : Hid (∀ W', Bq W lo hi tt W' → Calls Try.prog 70 #[.pointer u, .int .i64 fr, .int .i64 tt] W' fun e w' => ∃ x, e = .returned (.pointer x) ∧ Hid (Tr (swp f fr tt) a lo c.sz w' x) ∧ Bq W lo hi tt w') := fun W' h =>
    (ihc u W' (IsT.below h.bel h1)).mono fun e w' ⟨x, he, ht, hB⟩ => ⟨x, he, ht, h.next hB⟩
  have HR2 : Hid (∀ W', Bq W lo hi tt W' → Calls Try.prog 70 #[.pointer v, .int .i64 fr, .int .i64 tt] W' fun e w' => ∃ y, e = .returned (.pointer y) ∧ Hid (Tr (swp f fr tt) hi b d.sz w' y) ∧ Hid (Below W'.heap.size W' w') ∧ Bq W lo hi tt w') := fun W' h =>
    (ihd v W' (IsT.below h.bel h2)).mono fun e w' ⟨x, he, ht, hB⟩ => ⟨x, he, ht, hB, h.next hB⟩
  have HG : Hid (∀ W' x y, Bq W lo hi tt W' → Hid (Tr (swp f fr tt) a lo c.sz W' x) → Hid (Tr (swp f fr tt) hi b d.sz W' y) → Calls Try.prog 68 #[.pointer x, .agg #[.int .i64 lo, .int .i64 hi, .int .i64 tt], .pointer y] W' fun e w' => ∃ g, e = .returned (.pointer (some ⟨g, 0, none⟩)) ∧ Hid (Tr (swp f fr tt) a b (T.node c ⟨lo, hi, tag⟩ d).sz w' (some ⟨g, 0, none⟩)) ∧ Bq W lo hi tt w') := fun W' x y h hX hY =>
    (Tr.glue hX.out hY.out HXG.out (by simp only [T.sz] at hz; omega) m3 HSW.out).mono fun e w' ⟨g, he, ht, hB⟩ => ⟨g, he, ht.out.mono (by simp only [T.sz]; omega), h.next hB⟩
  subst hg
  obtain ⟨d0, d1, d2, d3, d4⟩ := hcs W (Below.refl _ _)
  clear h hc hx hz m1 m2 m3 m4 m5 m6 h1 h2 hcs ihc ihd hcn 
  generalize (T.node c ⟨lo, hi, fr⟩ d).sz = SZ at *
  generalize cnt fr (T.node c ⟨lo, hi, fr⟩ d).L = CN at *
  go_enter Try.func70, Try.ntmps70
  go_wp2_with fail
  refine HCN.out.mono ?_
  rintro e w1 ⟨rfl, rfl⟩
  go_wp2_with fail
  obtain ⟨w2, HW2⟩ : ∃ w2, w2 = W.alloc (.cells #[.int .i64 lo, .int .i64 hi, .int .i64 tt] 64) := ⟨_, rfl⟩
  have hq : Bq W lo hi tt w2 := by rw [HW2]; exact Bq.new _ _ _ _ _
  rw [← HW2]
  clear HW2 d0 d1 d2 d3 d4
  have hq2 := hq.drew
  have hcl := HALL.out _ hq
  have hcl2 := HALL.out _ hq2
  go_region_held3 (fun W' : World => (W'.cell? ⟨W.heap.size, 0, none⟩ = some (.int .i64 lo) ∧ W'.cell? ⟨W.heap.size, 1, none⟩ = some (.int .i64 hi) ∧ W'.cell? ⟨W.heap.size, 2, none⟩ = some (.int .i64 tt) ∧ W'.cell? ⟨b0, 0, none⟩ = some (.pointer u) ∧ W'.cell? ⟨b0, 4, none⟩ = some (.pointer v)) ∧ Bq W lo hi tt W') (first | (refine And.intro ?_ ?_ <;> assumption) | fail) (first
    | (go_at_call 70; with_reducible refine (HR1.out _ ?h).mono ?_; (case h => assumption); rintro e w' ⟨x, rfl, hg1, hs1'⟩; have hc1' := HALL.out _ hs1')
    | (go_at_call 70; with_reducible refine (HR2.out _ ?h).mono ?_; (case h => assumption); rintro e w' ⟨y, rfl, hg2, hb2, hs2'⟩; have hc2' := HALL.out _ hs2'; have hg1b := Lib.hid (Tr.below hg1.out hb2.out))
    | (go_at_call 68; with_reducible refine (HG.out _ _ _ ?h ?r ?s).mono ?_; (case h => assumption); (case r => assumption); (case s => assumption); rintro e w' ⟨g, rfl, hgt, hs3'⟩; have hc3' := HALL.out _ hs3') | fail)
  all_goals
    have HB := Lib.hid hs3'.bel
    clear hq hq2 hcl hcl2 hs1' hs2' hs3' hc1' hc2' hc3'
    go_wp2_with fail
    go_ret
    exact ⟨_, rfl, hgt, HB.out⟩
set_option maxHeartbeats 1000000 in
theorem retag_ne (f : Int → Int) (fr tt : Nat) (c d : T) (lo hi tag a b : Int) (p : Option Addr) (W : World) (h : IsT W (.node c ⟨lo, hi, tag⟩ d) (.pointer p)) (hc : Gs.Can f a (T.node c ⟨lo, hi, tag⟩ d).L b) (hx : Ctx f a b) (hfr : fr < 16) (htt : tt < 16) (hz : (T.node c ⟨lo, hi, tag⟩ d).sz ≤ 20000) (hcn : cnt fr (T.node c ⟨lo, hi, tag⟩ d).L ≠ 0) (hg : tag ≠ fr)
    (ihc : ∀ q w, IsT w c (.pointer q) → Calls Try.prog 70 #[.pointer q, .int .i64 fr, .int .i64 tt] w fun e w' => ∃ x, e = .returned (.pointer x) ∧ Hid (Tr (swp f fr tt) a lo c.sz w' x) ∧ Below w.heap.size w w')
    (ihd : ∀ q w, IsT w d (.pointer q) → Calls Try.prog 70 #[.pointer q, .int .i64 fr, .int .i64 tt] w fun e w' => ∃ x, e = .returned (.pointer x) ∧ Hid (Tr (swp f fr tt) hi b d.sz w' x) ∧ Below w.heap.size w w') :
    Calls Try.prog 70 #[.pointer p, .int .i64 fr, .int .i64 tt] W fun e w' => ∃ x, e = .returned (.pointer x) ∧ Hid (Tr (swp f fr tt) a b (T.node c ⟨lo, hi, tag⟩ d).sz w' x) ∧ Below W.heap.size W w' := by
  obtain ⟨m1, m2, m3, m4, m5, m6⟩ := hc.mid
  simp only at m1 m2 m3 m4 m5 m6
  have q1 := m1.le; have q2 := m2.le
  have HCN : Hid (Calls Try.prog 53 #[.pointer p, .int .i64 fr] W fun e w' => e = .returned (.int .i64 (cnt fr (T.node c ⟨lo, hi, tag⟩ d).L)) ∧ W = w') := count_any _ _ W fr hfr h
  have hne : (cnt fr (T.node c ⟨lo, hi, tag⟩ d).L == 0) = false := beq_eq_false_iff_ne.2 hcn
  obtain ⟨b0, u, v, rfl, hlt, h1, h2, hcs⟩ := h.open
  have HSW : Hid (∀ x, lo ≤ x → x < hi → swp f fr tt x = tag) := fun x x1 x2 => by
    have e := m4 x x1 x2
    simp only [swp]
    rw [e, if_neg hg]
  have HXG : Hid (Ctx (swp f fr tt) a b) := swp_ctx hx htt
  have HALL : Hid (∀ W', Bq W lo hi tag W' → (W'.cell? ⟨W.heap.size, 0, none⟩ = some (.int .i64 lo) ∧ W'.cell? ⟨W.heap.size, 1, none⟩ = some (.int .i64 hi) ∧ W'.cell? ⟨W.heap.size, 2, none⟩ = some (.int .i64 tag) ∧ W'.cell? ⟨b0, 0, none⟩ = some (.pointer u) ∧ W'.cell? ⟨b0, 4, none⟩ = some (.pointer v))) := fun W' h => by
    obtain ⟨n0, _, _, _, n4⟩ := hcs W' h.bel
    exact ⟨h.c0, h.c1, h.c2, n0, n4⟩
  have HR1 : Hid (∀ W', Bq W lo hi tag W' → Calls Try.prog 70 #[.pointer u, .int .i64 fr, .int .i64 tt] W' fun e w' => ∃ x, e = .returned (.pointer x) ∧ Hid (Tr (swp f fr tt) a lo c.sz w' x) ∧ Bq W lo hi tag w') := fun W' h =>
    (ihc u W' (IsT.below h.bel h1)).mono fun e w' ⟨x, he, ht, hB⟩ => ⟨x, he, ht, h.next hB⟩
  have HR2 : Hid (∀ W', Bq W lo hi tag W' → Calls Try.prog 70 #[.pointer v, .int .i64 fr, .int .i64 tt] W' fun e w' => ∃ y, e = .returned (.pointer y) ∧ Hid (Tr (swp f fr tt) hi b d.sz w' y) ∧ Hid (Below W'.heap.size W' w') ∧ Bq W lo hi tag w') := fun W' h =>
    (ihd v W' (IsT.below h.bel h2)).mono fun e w' ⟨x, he, ht, hB⟩ => ⟨x, he, ht, hB, h.next hB⟩
  have HG : Hid (∀ W' x y, Bq W lo hi tag W' → Hid (Tr (swp f fr tt) a lo c.sz W' x) → Hid (Tr (swp f fr tt) hi b d.sz W' y) → Calls Try.prog 68 #[.pointer x, .agg #[.int .i64 lo, .int .i64 hi, .int .i64 tag], .pointer y] W' fun e w' => ∃ g, e = .returned (.pointer (some ⟨g, 0, none⟩)) ∧ Hid (Tr (swp f fr tt) a b (T.node c ⟨lo, hi, tag⟩ d).sz w' (some ⟨g, 0, none⟩)) ∧ Bq W lo hi tag w') := fun W' x y h hX hY =>
    (Tr.glue hX.out hY.out HXG.out (by simp only [T.sz] at hz; omega) m3 HSW.out).mono fun e w' ⟨g, he, ht, hB⟩ => ⟨g, he, ht.out.mono (by simp only [T.sz]; omega), h.next hB⟩
  have hgb : (tag == (fr : Int)) = false := beq_eq_false_iff_ne.2 hg
  obtain ⟨d0, d1, d2, d3, d4⟩ := hcs W (Below.refl _ _)
  clear h hc hx hz m1 m2 m3 m4 m5 m6 h1 h2 hcs ihc ihd hcn hg
  generalize (T.node c ⟨lo, hi, tag⟩ d).sz = SZ at *
  generalize cnt fr (T.node c ⟨lo, hi, tag⟩ d).L = CN at *
  go_enter Try.func70, Try.ntmps70
  go_wp2_with fail
  refine HCN.out.mono ?_
  rintro e w1 ⟨rfl, rfl⟩
  go_wp2_with fail
  obtain ⟨w2, HW2⟩ : ∃ w2, w2 = W.alloc (.cells #[.int .i64 lo, .int .i64 hi, .int .i64 tag] 64) := ⟨_, rfl⟩
  have hq : Bq W lo hi tag w2 := by rw [HW2]; exact Bq.new _ _ _ _ _
  rw [← HW2]
  clear HW2 d0 d1 d2 d3 d4
  have hq2 := hq.drew
  have hcl := HALL.out _ hq
  have hcl2 := HALL.out _ hq2
  go_region_held3 (fun W' : World => (W'.cell? ⟨W.heap.size, 0, none⟩ = some (.int .i64 lo) ∧ W'.cell? ⟨W.heap.size, 1, none⟩ = some (.int .i64 hi) ∧ W'.cell? ⟨W.heap.size, 2, none⟩ = some (.int .i64 tag) ∧ W'.cell? ⟨b0, 0, none⟩ = some (.pointer u) ∧ W'.cell? ⟨b0, 4, none⟩ = some (.pointer v)) ∧ Bq W lo hi tag W') (first | (refine And.intro ?_ ?_ <;> assumption) | fail) (first
    | (go_at_call 70; with_reducible refine (HR1.out _ ?h).mono ?_; (case h => assumption); rintro e w' ⟨x, rfl, hg1, hs1'⟩; have hc1' := HALL.out _ hs1')
    | (go_at_call 70; with_reducible refine (HR2.out _ ?h).mono ?_; (case h => assumption); rintro e w' ⟨y, rfl, hg2, hb2, hs2'⟩; have hc2' := HALL.out _ hs2'; have hg1b := Lib.hid (Tr.below hg1.out hb2.out))
    | (go_at_call 68; with_reducible refine (HG.out _ _ _ ?h ?r ?s).mono ?_; (case h => assumption); (case r => assumption); (case s => assumption); rintro e w' ⟨g, rfl, hgt, hs3'⟩; have hc3' := HALL.out _ hs3') | fail)
  all_goals
    have HB := Lib.hid hs3'.bel
    clear hq hq2 hcl hcl2 hs1' hs2' hs3' hc1' hc2' hc3'
    go_wp2_with fail
    go_ret
    exact ⟨_, rfl, hgt, HB.out⟩
theorem retag_any (f : Int → Int) (fr tt : Nat) (hfr : fr < 16) (htt : tt < 16) : ∀ (t : T) (a b : Int) (p : Option Addr) (W : World), IsT W t (.pointer p) → Gs.Can f a t.L b → Ctx f a b → t.sz ≤ 20000 →
    Calls Try.prog 70 #[.pointer p, .int .i64 fr, .int .i64 tt] W fun e w' => ∃ x, e = .returned (.pointer x) ∧ Hid (Tr (swp f fr tt) a b t.sz w' x) ∧ Below W.heap.size W w' := by
  intro t
  have hzero : ∀ (t : T) (a b : Int) (p : Option Addr) (W : World), IsT W t (.pointer p) → Gs.Can f a t.L b → cnt fr t.L = 0 →
      Calls Try.prog 70 #[.pointer p, .int .i64 fr, .int .i64 tt] W fun e w' => ∃ x, e = .returned (.pointer x) ∧ Hid (Tr (swp f fr tt) a b t.sz w' x) ∧ Below W.heap.size W w' := by
    intro t a b p W h hc h0
    have HCN : Hid (Calls Try.prog 53 #[.pointer p, .int .i64 fr] W fun e w' => e = .returned (.int .i64 0) ∧ W = w') := by
      have := count_any t (.pointer p) W fr hfr h
      rwa [h0] at this
    have HR : Hid (Tr (swp f fr tt) a b t.sz W p) := ⟨t, h, hc.congr (fun x x1 x2 => by
      have := cnt_zero hc.1 h0 x x1 x2
      simp only [swp]; rw [if_neg this]), Nat.le_refl _⟩
    clear h hc h0
    generalize t.sz = SZ at *
    go_enter Try.func70, Try.ntmps70
    go_wp2_with fail
    refine HCN.out.mono ?_
    rintro e w1 ⟨rfl, rfl⟩
    go_wp2_with fail
    go_ret
    exact ⟨p, rfl, HR, Below.refl _ _⟩
  induction t with
  | nil =>
    intro a b p W h hc hx hz
    exact hzero .nil a b p W h hc rfl
  | node c r d ihc ihd =>
    intro a b p W h hc hx hz
    by_cases h0 : cnt fr (T.node c r d).L = 0
    · exact hzero _ a b p W h hc h0
    · obtain ⟨lo, hi, tag⟩ := r
      have hm := hc.mid
      have hz' : c.sz + d.sz + 1 ≤ 20000 := by simp only [T.sz] at hz; omega
      have q1 := hm.1.le; have q2 := hm.2.1.le; have q3 := hm.2.2.1
      simp only at q1 q2 q3
      have i1 : ∀ q w, IsT w c (.pointer q) → _ := fun q w hq => ihc a lo q w hq hm.1 (hx.sub (by omega) (by omega)) (by omega)
      have i2 : ∀ q w, IsT w d (.pointer q) → _ := fun q w hq => ihd hi b q w hq hm.2.1 (hx.sub (by omega) (by omega)) (by omega)
      by_cases hg : tag = fr
      · exact retag_eq f fr tt c d lo hi tag a b p W h hc hx hfr htt hz h0 hg i1 i2
      · exact retag_ne f fr tt c d lo hi tag a b p W h hc hx hfr htt hz h0 hg i1 i2
theorem Tr.retag {f : Int → Int} {a b : Int} {fr tt n : Nat} {W : World} {p : Option Addr} (h : Tr f a b n W p) (hx : Ctx f a b) (hfr : fr < 16) (htt : tt < 16) (hn : n ≤ 20000) :
    Calls Try.prog 70 #[.pointer p, .int .i64 fr, .int .i64 tt] W fun e w' => ∃ x, e = .returned (.pointer x) ∧ Hid (Tr (swp f fr tt) a b n w' x) ∧ Below W.heap.size W w' := by
  obtain ⟨t, h1, h2, h3⟩ := h
  exact (retag_any f fr tt hfr htt t a b p W h1 h2 hx (by omega)).mono fun e w' ⟨x, he, ht, hB⟩ => ⟨x, he, ht.out.mono h3, hB⟩
end Go.Proofs.Ytjbenhmpeceaeaa
namespace Go.Proofs.Ytjbenhmpeceaeaa
open Go Go.RowKit Gs

/-- the box of a map behind W, in a later world -/
structure Mq (W : World) (p : Option Addr) (size : Int) (W' : World) : Prop where
  c0 : W'.cell? ⟨W.heap.size, 0, none⟩ = some (.pointer p)
  c1 : W'.cell? ⟨W.heap.size, 1, none⟩ = some (.int .i64 size)
  f0 : W'.frozen? ⟨W.heap.size, 0, none⟩ = false
  f1 : W'.frozen? ⟨W.heap.size, 1, none⟩ = false
  lt : W.heap.size < W'.heap.size
  bel : Below W.heap.size W W'
section
variable {W W' W2 : World} {p : Option Addr} {size : Int}
theorem Mq.next (h : Mq W p size W') (hb : Below W'.heap.size W' W2) : Mq W p size W2 :=
  ⟨(hb.cell (p := ⟨W.heap.size, 0, none⟩) h.lt).trans h.c0, (hb.cell (p := ⟨W.heap.size, 1, none⟩) h.lt).trans h.c1, (hb.frozen (p := ⟨W.heap.size, 0, none⟩) h.lt).trans h.f0, (hb.frozen (p := ⟨W.heap.size, 1, none⟩) h.lt).trans h.f1, Nat.lt_of_lt_of_le h.lt hb.size, h.bel.trans (hb.mono h.bel.size)⟩
theorem Mq.drew (h : Mq W p size W') : Mq W p size W'.drew := h.next (Below.refl _ _).drew
theorem Mq.drewN (h : Mq W p size W') (k : Nat) : Mq W p size (W'.drewN k) := h.next (below_drewN (Below.refl _ _) k)
theorem Mq.new (W : World) (p : Option Addr) (size : Int) (Ty : TypeId) : Mq W p size (W.alloc (.cells #[.pointer p, .int .i64 size] Ty)) :=
  ⟨World.cell?_alloc_at _ _ _ _ rfl, World.cell?_alloc_at _ _ _ _ rfl, World.frozen?_alloc_at _ _ _ _ rfl, World.frozen?_alloc_at _ _ _ _ rfl, by simp, (Below.refl _ _).alloc (Nat.le_refl _) _⟩
/-- both cells are stored anew -/
theorem Mq.put (h : Mq W p size W') (q : Option Addr) (s : Int) : Mq W q s ((W'.setCell ⟨W.heap.size, 0, none⟩ (.pointer q)).setCell ⟨W.heap.size, 1, none⟩ (.int .i64 s)) :=
  ⟨(World.cell?_setCell_other _ _ _ _ (by intro e; cases e)).trans (World.cell?_setCell_same _ _ _ h.c0), World.cell?_setCell_same _ _ _ ((World.cell?_setCell_other _ _ _ _ (by intro e; cases e)).trans h.c1),
   (World.frozen?_setCell _ _ _ _).trans ((World.frozen?_setCell _ _ _ _).trans h.f0), (World.frozen?_setCell _ _ _ _).trans ((World.frozen?_setCell _ _ _ _).trans h.f1), by rw [World.size_setCell, World.size_setCell]; exact h.lt, (h.bel.setCell (Nat.le_refl _) _).setCell (Nat.le_refl _) _⟩
end
def isT (t : Int) : Bool := decide (0 ≤ t ∧ t < 16)
/-- what check answers of a map that is usable -/
def errOf (size lo hi : Int) (ts : List Int) : Int := if lo < 0 ∨ hi < lo ∨ size < hi then 3 else if ts.all isT then 0 else 2

theorem isTag_any (t : Int) (W : World) : Calls Try.prog 52 #[.int .i64 t] W fun e w' => e = .returned (.bool (isT t)) ∧ W = w' := by
  by_cases h0 : 0 ≤ t
  · by_cases h1 : t < 16
    · have HE : Hid (isT t = true) := decide_eq_true ⟨h0, h1⟩
      have h2 : t ≥ 0 := h0
      go_enter Try.func52, Try.ntmps52
      go_wp2_with fail
      go_ret
      exact ⟨by rw [HE.out]; rfl, rfl⟩
    · have HE : Hid (isT t = false) := decide_eq_false (fun h => h1 h.2)
      have h2 : t ≥ 0 := h0
      go_enter Try.func52, Try.ntmps52
      go_wp2_with fail
      go_ret
      exact ⟨by rw [HE.out]; rfl, rfl⟩
  · have HE : Hid (isT t = false) := decide_eq_false (fun h => h0 h.1)
    have h2 : ¬ t ≥ 0 := h0
    go_enter Try.func52, Try.ntmps52
    go_wp2_with fail
    go_ret
    exact ⟨by rw [HE.out]; rfl, rfl⟩
theorem isUsable_any (b : Nat) (size : Int) (W : World) : Calls Try.prog 44 #[.agg #[.pointer (some ⟨b, 0, none⟩), .int .i64 size]] W fun e w' => e = .returned (.bool true) ∧ Below W.heap.size W w' := by
  have HB : Hid (∀ o, Below W.heap.size W (W.alloc o)) := fun o => (Below.refl _ _).alloc (Nat.le_refl _) _
  go_enter Try.func44, Try.ntmps44
  go_wp2_with fail
  go_ret
  exact ⟨rfl, HB.out _⟩
theorem isUsable_none (size : Int) (W : World) : Calls Try.prog 44 #[.agg #[.pointer none, .int .i64 size]] W fun e w' => e = .returned (.bool false) ∧ Below W.heap.size W w' := by
  have HB : Hid (∀ o, Below W.heap.size W (W.alloc o)) := fun o => (Below.refl _ _).alloc (Nat.le_refl _) _
  go_enter Try.func44, Try.ntmps44
  go_wp2_with fail
  go_ret
  exact ⟨rfl, HB.out _⟩
/-- a map that is unusable -/
theorem check_none (size lo hi : Int) (a : Option Addr) (n c : Nat) (W : World) : Calls Try.prog 46 #[.agg #[.pointer none, .int .i64 size], .int .i64 lo, .int .i64 hi, .slice a n c] W fun e w' => e = .returned (.int .i64 1) ∧ Below W.heap.size W w' := by
  have HUS := Lib.hid (fun W' => isUsable_none size W')
  have HB : Hid (∀ o, Below W.heap.size W (W.alloc o)) := fun o => (Below.refl _ _).alloc (Nat.le_refl _) _
  go_enter Try.func46, Try.ntmps46
  go_wp2_with fail
  refine (HUS.out _).mono ?_
  rintro e w1 ⟨rfl, hb⟩
  have HB1 := Lib.hid ((HB.out _).trans (hb.mono (HB.out _).size))
  clear hb
  go_wp2_with fail
  go_ret
  exact ⟨rfl, HB1.out⟩
/-- a range that is not in the map -/
theorem check_range (b : Nat) (size lo hi : Int) (a : Option Addr) (n c : Nat) (W : World) (h : lo < 0 ∨ hi < lo ∨ size < hi) : Calls Try.prog 46 #[.agg #[.pointer (some ⟨b, 0, none⟩), .int .i64 size], .int .i64 lo, .int .i64 hi, .slice a n c] W fun e w' => e = .returned (.int .i64 3) ∧ Below W.heap.size W w' := by
  have HUS := Lib.hid (fun W' => isUsable_any b size W')
  obtain ⟨w0, HW⟩ : ∃ w0, w0 = W.alloc (.cells #[.pointer (some ⟨b, 0, none⟩), .int .i64 size] 27) := ⟨_, rfl⟩
  have hq : Mq W (some ⟨b, 0, none⟩) size w0 := by rw [HW]; exact Mq.new _ _ _ _
  have HQ := Lib.hid hq
  have HW' := Lib.hid HW
  clear hq HW
  by_cases h1 : lo < 0
  · clear h
    go_enter Try.func46, Try.ntmps46
    go_wp2_with fail
    rw [← HW'.out]
    refine (HUS.out _).mono ?_
    rintro e w1 ⟨rfl, hb⟩
    have HQ1 := Lib.hid (HQ.out.next hb)
    clear hb
    go_wp2_with fail
    go_ret
    exact ⟨rfl, HQ1.out.bel⟩
  · by_cases h2 : hi < lo
    · clear h
      go_enter Try.func46, Try.ntmps46
      go_wp2_with fail
      rw [← HW'.out]
      refine (HUS.out _).mono ?_
      rintro e w1 ⟨rfl, hb⟩
      have HQ1 := Lib.hid (HQ.out.next hb)
      clear hb
      go_wp2_with fail
      go_ret
      exact ⟨rfl, HQ1.out.bel⟩
    · have h3 : hi > size := by omega
      clear h
      go_enter Try.func46, Try.ntmps46
      go_wp2_with fail
      rw [← HW'.out]
      refine (HUS.out _).mono ?_
      rintro e w1 ⟨rfl, hb⟩
      have HQ1 := Lib.hid (HQ.out.next hb)
      have c0 := HQ1.out.c0; have c1 := HQ1.out.c1
      clear hb
      go_wp2_with fail
      go_ret
      exact ⟨rfl, HQ1.out.bel⟩
theorem check_nil (b : Nat) (size lo hi : Int) (W : World) (h1 : ¬ lo < 0) (h2 : ¬ hi < lo) (h3 : ¬ hi > size) : Calls Try.prog 46 #[.agg #[.pointer (some ⟨b, 0, none⟩), .int .i64 size], .int .i64 lo, .int .i64 hi, .slice none 0 0] W fun e w' => e = .returned (.int .i64 0) ∧ Below W.heap.size W w' := by
  have HUS := Lib.hid (fun W' => isUsable_any b size W')
  obtain ⟨w0, HW⟩ : ∃ w0, w0 = W.alloc (.cells #[.pointer (some ⟨b, 0, none⟩), .int .i64 size] 27) := ⟨_, rfl⟩
  have hq : Mq W (some ⟨b, 0, none⟩) size w0 := by rw [HW]; exact Mq.new _ _ _ _
  have HQ := Lib.hid hq
  have HW' := Lib.hid HW
  clear hq HW
  go_enter Try.func46, Try.ntmps46
  go_wp2_with fail
  rw [← HW'.out]
  refine (HUS.out _).mono ?_
  rintro e w1 ⟨rfl, hb⟩
  have HQ1 := Lib.hid (HQ.out.next hb)
  have c0 := HQ1.out.c0; have c1 := HQ1.out.c1
  clear hb
  go_wp2_with fail
  go_loopw [29] (fun i wr => i = .int .i64 0 ∧ w1 = wr) (fun _ _ => 0)
  case atStart => exact ⟨rfl, rfl⟩
  case round =>
    obtain ⟨rfl, rfl⟩ := hrel
    go_wp2_with fail
    go_ret
    exact ⟨rfl, HQ1.out.bel⟩
theorem check_list (b B c : Nat) (size lo hi : Int) (ts : List Int) (W : World) (hB : B < W.heap.size) (hc : ∀ i (h : i < ts.length), W.cell? ⟨B, i, none⟩ = some (.int .i64 ts[i])) (hn : ts.length ≤ 4) (h1 : ¬ lo < 0) (h2 : ¬ hi < lo) (h3 : ¬ hi > size) :
    Calls Try.prog 46 #[.agg #[.pointer (some ⟨b, 0, none⟩), .int .i64 size], .int .i64 lo, .int .i64 hi, .slice (some ⟨B, 0, none⟩) ts.length c] W fun e w' => e = .returned (.int .i64 (if ts.all isT then 0 else 2)) ∧ Below W.heap.size W w' := by
  have HUS := Lib.hid (fun W' => isUsable_any b size W')
  have HTA := Lib.hid (fun t W' => isTag_any t W')
  have HC : Hid (∀ W' i (h : i < ts.length), Below W.heap.size W W' → W'.cell? ⟨B, i, none⟩ = some (.int .i64 ts[i])) := fun W' i h hb => (hb.cell (p := ⟨B, i, none⟩) hB).trans (hc i h)
  obtain ⟨w0, HW⟩ : ∃ w0, w0 = W.alloc (.cells #[.pointer (some ⟨b, 0, none⟩), .int .i64 size] 27) := ⟨_, rfl⟩
  have hq : Mq W (some ⟨b, 0, none⟩) size w0 := by rw [HW]; exact Mq.new _ _ _ _
  have HQ := Lib.hid hq
  have HW' := Lib.hid HW
  clear hq HW hc
  obtain ⟨er, her⟩ : ∃ er : Int, er = if ts.all isT then 0 else 2 := ⟨_, rfl⟩
  rw [← her]
  have HER := Lib.hid her
  clear her
  obtain ⟨n, hnn⟩ : ∃ n, n = ts.length := ⟨_, rfl⟩
  have HN := Lib.hid hnn
  rw [← hnn] at hn ⊢
  clear hnn
  go_enter Try.func46, Try.ntmps46
  go_wp2_with fail
  rw [← HW'.out]
  refine (HUS.out _).mono ?_
  rintro e w1 ⟨rfl, hb⟩
  have HQ1 := Lib.hid (HQ.out.next hb)
  have c0 := HQ1.out.c0; have c1 := HQ1.out.c1
  clear hb
  go_wp2_with fail
  go_loopw [29] (fun i wr => ∃ j : Nat, j ≤ n ∧ i = .int .i64 j ∧ Hid (∀ k (h : k < ts.length), k < j → isT ts[k] = true) ∧ Hid (Below W.heap.size W wr)) (fun i _ => n - (intOf i).toNat)
  case atStart => exact ⟨0, by omega, rfl, fun k _ h => absurd h (by omega), HQ1.out.bel⟩
  case round =>
    obtain ⟨j, hj, rfl, HK, HB⟩ := hrel
    by_cases hlt : j < n
    · have hj2 : (j : Int) < n := by omega
      have hjn : j < ts.length := by rw [← HN.out]; exact hlt
      have hcell := HC.out wr j hjn HB.out
      by_cases ht : isT ts[j] = true
      · have HK2 : Hid (∀ k (h : k < ts.length), k < j + 1 → isT ts[k] = true) := fun k h hk => by
          by_cases e : k = j
          · subst e; exact ht
          · exact HK.out k h (by omega)
        have HT2 : Hid (∀ W', Calls Try.prog 52 #[.int .i64 ts[j]] W' fun e w' => e = .returned (.bool true) ∧ W' = w') := fun W' => by
          have := HTA.out ts[j] W'
          rwa [ht] at this
        clear ht HK
        generalize ts[j] = tj at *
        go_wp2_with fail
        refine (HT2.out _).mono ?_
        rintro e w3 ⟨rfl, rfl⟩
        go_wp2_with fail
        go_roundw
        case rel => exact ⟨j + 1, by omega, by go_num, HK2, HB⟩
        case measure => simp [intOf]; omega
      · have HE : Hid (er = 2) := by
          have : ts.all isT = false := List.all_eq_false.2 ⟨ts[j], List.getElem_mem hjn, by simpa using ht⟩
          show _ = _; rw [HER.out, this]; rfl
        have HT2 : Hid (∀ W', Calls Try.prog 52 #[.int .i64 ts[j]] W' fun e w' => e = .returned (.bool false) ∧ W' = w') := fun W' => by
          have := HTA.out ts[j] W'
          rwa [Bool.eq_false_iff.2 ht] at this
        clear ht HK
        generalize ts[j] = tj at *
        go_wp2_with fail
        refine (HT2.out _).mono ?_
        rintro e w3 ⟨rfl, rfl⟩
        go_wp2_with fail
        go_ret
        exact ⟨by rw [HE.out]; rfl, HB.out⟩
    · have hj3 : ¬ (j : Int) < n := by omega
      have HE : Hid (er = 0) := by
        have : ts.all isT = true := List.all_eq_true.2 fun t ht => by
          obtain ⟨k, hk, rfl⟩ := List.getElem_of_mem ht
          exact HK.out k hk (by have := HN.out; omega)
        show _ = _; rw [HER.out, this]; rfl
      go_wp2_with fail
      go_ret
      exact ⟨by rw [HE.out]; rfl, HB.out⟩
theorem check_any (b B c : Nat) (size lo hi : Int) (ts : List Int) (W : World) (hB : B < W.heap.size) (hc : ∀ i (h : i < ts.length), W.cell? ⟨B, i, none⟩ = some (.int .i64 ts[i])) (hn : ts.length ≤ 4) :
    Calls Try.prog 46 #[.agg #[.pointer (some ⟨b, 0, none⟩), .int .i64 size], .int .i64 lo, .int .i64 hi, .slice (some ⟨B, 0, none⟩) ts.length c] W fun e w' => e = .returned (.int .i64 (errOf size lo hi ts)) ∧ Below W.heap.size W w' := by
  by_cases h : lo < 0 ∨ hi < lo ∨ size < hi
  · have := check_range b size lo hi (some ⟨B, 0, none⟩) ts.length c W h
    simp only [errOf, if_pos h]
    exact this
  · have := check_list b B c size lo hi ts W hB hc hn (by omega) (by omega) (by omega)
    simp only [errOf, if_neg h]
    exact this
end Go.Proofs.Ytjbenhmpeceaeaa
namespace Go.Proofs.Ytjbenhmpeceaeaa
open Go Go.RowKit Go.Shelf Gs

attribute [local go_sem] Oper.semAt_some

/-- what a round is handed, of a run -/
def encR (r : R) : Array Value := #[.agg #[.int .i64 r.lo, .int .i64 r.hi, .int .i64 r.tag]]
/-- the value that within answers, with its three boxes from B on -/
def seqV (B : Nat) : Value := .func (.func 72) #[] #[.pointer (some ⟨B, 0, none⟩), .pointer (some ⟨B + 1, 0, none⟩), .pointer (some ⟨B + 1 + 1, 0, none⟩)]
/-- the world behind within -/
def seqW (W : World) (p : Option Addr) (lo hi : Int) : World := ((W.alloc (.cells #[.pointer p] 25)).alloc (.cells #[.int .i64 lo] 3)).alloc (.cells #[.int .i64 hi] 3)
theorem within_any (p : Option Addr) (lo hi : Int) (W : World) : Calls Try.prog 47 #[.pointer p, .int .i64 lo, .int .i64 hi] W fun e w' => e = .returned (seqV W.heap.size) ∧ w' = seqW W p lo hi := by
  go_enter Try.func47, Try.ntmps47
  go_wp2_with fail
  go_ret
  exact ⟨rfl, rfl⟩
theorem all_any (p : Option Addr) (size : Int) (W : World) : Calls Try.prog 58 #[.agg #[.pointer p, .int .i64 size]] W fun e w' => e = .returned (seqV (W.heap.size + 1)) ∧ w' = seqW (W.alloc (.cells #[.pointer p, .int .i64 size] 27)) p 0 size := by
  have HWI : Hid (∀ W', Calls Try.prog 47 #[.pointer p, .int .i64 0, .int .i64 size] W' fun e w' => e = .returned (seqV W'.heap.size) ∧ w' = seqW W' p 0 size) := fun W' => within_any p 0 size W'
  go_enter Try.func58, Try.ntmps58
  go_wp2_with fail
  refine (HWI.out _).mono ?_
  rintro e w1 ⟨rfl, rfl⟩
  unfold seqV
  go_wp2_with fail
  go_ret
  exact ⟨by simp [seqV], rfl⟩
theorem visit_nil (F : Fence) (hv : F.fn 73) (hro : F.round = none) (n : Nat) (g : Value) (lo hi : Int) (W : World) :
    CallsIn F n Try.prog 73 #[.pointer none, .int .i64 lo, .int .i64 hi, g] W fun e W' => e = .returned (.bool true) ∧ W = W' := by
  refine callsIn_of_wp Try.func73 rfl hv ?_ hro
  simp only [Try.ntmps73, List.size_toArray, List.length_cons, List.length_nil, Nat.reduceAdd, Nat.reduceSub, Array.replicate_succ, Array.replicate_zero, List.push_toArray, List.append_toArray, List.nil_append, List.cons_append]
  gi_wp2
  go_ret
  exact ⟨rfl, rfl⟩
theorem seq_cells (W : World) (p : Option Addr) (lo hi : Int) : (seqW W p lo hi).cell? ⟨W.heap.size, 0, none⟩ = some (.pointer p) ∧ (seqW W p lo hi).cell? ⟨W.heap.size + 1, 0, none⟩ = some (.int .i64 lo) ∧ (seqW W p lo hi).cell? ⟨W.heap.size + 1 + 1, 0, none⟩ = some (.int .i64 hi) ∧ (seqW W p lo hi).heap.size = W.heap.size + 1 + 1 + 1 ∧ Below W.heap.size W (seqW W p lo hi) := by
  obtain ⟨w1, h1⟩ : ∃ w1, w1 = W.alloc (.cells #[.pointer p] 25) := ⟨_, rfl⟩
  obtain ⟨w2, h2⟩ : ∃ w2, w2 = w1.alloc (.cells #[.int .i64 lo] 3) := ⟨_, rfl⟩
  have e1 : w1.heap.size = W.heap.size + 1 := by rw [h1]; simp
  have e2 : w2.heap.size = W.heap.size + 1 + 1 := by rw [h2, World.size_alloc, e1]
  have b1 : Below W.heap.size W w1 := by rw [h1]; exact (Below.refl _ _).alloc (Nat.le_refl _) _
  have b2 : Below w1.heap.size w1 w2 := by rw [h2]; exact (Below.refl _ _).alloc (Nat.le_refl _) _
  have b3 : ∀ o, Below w2.heap.size w2 (w2.alloc o) := fun o => (Below.refl _ _).alloc (Nat.le_refl _) _
  have c1 : w1.cell? ⟨W.heap.size, 0, none⟩ = some (.pointer p) := by rw [h1]; exact World.cell?_alloc_at _ _ _ _ rfl
  have c2 : w2.cell? ⟨W.heap.size + 1, 0, none⟩ = some (.int .i64 lo) := by rw [h2]; exact World.cell?_alloc_at _ _ _ _ e1.symm
  unfold seqW
  rw [← h1, ← h2]
  exact ⟨((b3 _).cell (p := ⟨W.heap.size, 0, none⟩) (by rw [e2]; show W.heap.size < _; omega)).trans ((b2.cell (p := ⟨W.heap.size, 0, none⟩) (by rw [e1]; show W.heap.size < _; omega)).trans c1), ((b3 _).cell (p := ⟨W.heap.size + 1, 0, none⟩) (by rw [e2]; show W.heap.size + 1 < _; omega)).trans c2, World.cell?_alloc_at _ _ _ _ e2.symm, by rw [World.size_alloc, e2], b1.trans ((b2.trans ((b3 _).mono b2.size)).mono b1.size)⟩
set_option maxHeartbeats 1000000 in
theorem seq_nil (F : Fence) (n : Nat) (h1 : F.fn 72) (hd : F.depth = none) (h2 : F.fn 73) (hro : F.round = none) (B n₀ : Nat) (lo hi : Int) (w : World)
    (hB : B + 1 + 1 < w.heap.size) (c0 : w.cell? ⟨B, 0, none⟩ = some (.pointer none)) (c1 : w.cell? ⟨B + 1, 0, none⟩ = some (.int .i64 lo)) (c2 : w.cell? ⟨B + 1 + 1, 0, none⟩ = some (.int .i64 hi)) :
    SeqStopsK F n Try.prog 72 #[.pointer (some ⟨B, 0, none⟩), .pointer (some ⟨B + 1, 0, none⟩), .pointer (some ⟨B + 1 + 1, 0, none⟩)] encR (Below n₀) (fun ys => ys = []) (fun _ => False) 0 w := fun l J Jx W hW _ _ _ h0 => by
  have hdd : ∀ k : Nat, (F.depth.isSome = true → 1 ≤ k) := fun k h => by rw [hd] at h; cases h
  have hp := visit_nil F h2 hro (n - 1) (.func (.yield l) #[] #[]) lo hi W
  have k0 : W.cell? ⟨B, 0, none⟩ = some (.pointer none) := (hW.cell (p := ⟨B, 0, none⟩) (by show B < _; omega)).trans c0
  have k1 : W.cell? ⟨B + 1, 0, none⟩ = some (.int .i64 lo) := (hW.cell (p := ⟨B + 1, 0, none⟩) (by show B + 1 < _; omega)).trans c1
  have k2 : W.cell? ⟨B + 1 + 1, 0, none⟩ = some (.int .i64 hi) := (hW.cell (p := ⟨B + 1 + 1, 0, none⟩) (by show B + 1 + 1 < _; omega)).trans c2
  clear c0 c1 c2 hW
  refine callsIn_of_wp Try.func72 rfl h1 ?_ hro
  simp only [Try.ntmps72, List.size_toArray, List.length_cons, List.length_nil, Nat.reduceAdd, Nat.reduceSub, Array.replicate_succ, Array.replicate_zero, List.push_toArray, List.append_toArray, List.nil_append, List.cons_append]
  gi_wp2_with ((try refine ⟨hdd _, ?_⟩); gi_at_call 73; refine hp.mono ?_; clear hp; rintro e W1 ⟨rfl, rfl⟩)
  go_end0
  exact ⟨⟨_, rfl⟩, .inl ⟨_, rfl, h0⟩⟩
end Go.Proofs.Ytjbenhmpeceaeaa
namespace Go.Proofs.Ytjbenhmpeceaeaa
open Go Go.RowKit Go.Shelf Gs

attribute [local go_sem] Oper.semAt_some

/-- a run, cut to a range -/
def clip1 (lo hi : Int) (r : R) : List R := if max lo r.lo < min r.hi hi then [⟨max lo r.lo, min r.hi hi, r.tag⟩] else []
def clip (lo hi : Int) (l : List R) : List R := l.flatMap (clip1 lo hi)
theorem clip_nil (lo hi : Int) : clip lo hi [] = [] := rfl
theorem clip_app (lo hi : Int) (l k : List R) : clip lo hi (l ++ k) = clip lo hi l ++ clip lo hi k := List.flatMap_append ..
theorem clip_cons (lo hi : Int) (r : R) (k : List R) : clip lo hi (r :: k) = clip1 lo hi r ++ clip lo hi k := rfl
theorem clip_none {lo hi : Int} (h : hi ≤ lo) (l : List R) : clip lo hi l = [] := by
  induction l with
  | nil => rfl
  | cons r l ih => rw [clip_cons, ih, List.append_nil]; unfold clip1; rw [if_neg (by omega)]
/-- what is cut off on the right does not matter to the runs on the left -/
theorem clip_left {f : Int → Int} {lo hi m : Int} : ∀ {l : List R} {a b : Int}, Fits f a l b → b ≤ m → clip lo (min m hi) l = clip lo hi l
  | [], _, _, _, _ => rfl
  | r :: l, a, b, h, hm => by
    have h2 := h.2.2.2.le
    rw [clip_cons, clip_cons, clip_left h.2.2.2 hm]
    unfold clip1
    rw [show min r.hi (min m hi) = min r.hi hi by omega]
theorem clip_right {f : Int → Int} {lo hi m : Int} : ∀ {l : List R} {a b : Int}, Fits f a l b → m ≤ a → clip (max lo m) hi l = clip lo hi l
  | [], _, _, _, _ => rfl
  | r :: l, a, b, h, hm => by
    have h1 := h.1; have h3 := h.2.1
    rw [clip_cons, clip_cons, clip_right h.2.2.2 (by omega)]
    unfold clip1
    rw [show max (max lo m) r.lo = max lo r.lo by omega]
theorem clip_node {f : Int → Int} {lo hi a b : Int} {l k : List R} {r : R} (h : Gs.Can f a (l ++ r :: k) b) : clip lo hi (l ++ r :: k) = clip lo (min r.lo hi) l ++ (clip1 lo hi r ++ clip (max lo r.hi) hi k) := by
  obtain ⟨h1, h2, _⟩ := h.mid
  rw [clip_app, clip_cons, clip_left h1.1 (Int.le_refl _), clip_right h2.1 (Int.le_refl _)]
theorem clip_len (lo hi : Int) (l : List R) : (clip lo hi l).length ≤ l.length := by
  induction l with
  | nil => exact Nat.le_refl _
  | cons r l ih =>
    rw [clip_cons, List.length_append, List.length_cons]
    unfold clip1
    split <;> simp <;> omega

theorem grown_drew (W : World) : W.grownBy W.drew none := ⟨rfl, rfl, rfl, Nat.le_refl _, fun _ _ _ => rfl⟩
theorem room_of_none {F : Fence} (hd : F.depth = none) (k : Nat) : F.room k := fun d h => by rw [hd] at h; cases h
theorem RoundIn.deep {F : Fence} (hd : F.depth = none) {m m' : Nat} {P : Program} {l : Nat} {f : FuncId} {tmps : Array Value} {assign body : Code} {w : World} {R : Ending → World → Prop}
    (h : RoundIn F m P l f tmps assign body w R) : RoundIn F m' P l f tmps assign body w R := ⟨h.1, fun c cs _ => h.2 c cs (room_of_none hd _)⟩
theorem YieldAt.deep {F : Fence} (hd : F.depth = none) {m : Nat} (m' : Nat) {P : Program} {l : Nat} {args : Array Value} {W : World} {R : Ending → World → Prop} (h : YieldAt F m P l args W R) : YieldAt F m' P l args W R := by
  obtain ⟨fn, tmps, assign, body, hy, hR⟩ := h
  exact ⟨fn, tmps, assign, body, hy, RoundIn.deep hd hR⟩

/-- the tree's blocks lie below n₀ -/
def IsTB (n₀ : Nat) (W : World) : T → Option Addr → Prop
  | .nil, p => p = none
  | .node l r k, p => ∃ b x y, p = some ⟨b, 0, none⟩ ∧ b < n₀ ∧ W.cell? ⟨b, 0, none⟩ = some (.pointer x) ∧ W.cell? ⟨b, 1, none⟩ = some (.int .i64 r.lo) ∧ W.cell? ⟨b, 2, none⟩ = some (.int .i64 r.hi) ∧ W.cell? ⟨b, 3, none⟩ = some (.int .i64 r.tag) ∧ W.cell? ⟨b, 4, none⟩ = some (.pointer y) ∧ IsTB n₀ W l x ∧ IsTB n₀ W k y
theorem IsTB.below {n₀ : Nat} {A B : World} (h : Below n₀ A B) : ∀ {t : T} {p : Option Addr}, IsTB n₀ A t p → IsTB n₀ B t p
  | .nil, _, ht => ht
  | .node _ _ _, _, ⟨b, x, y, hp, hb, h0, h1, h2, h3, h4, hl, hr⟩ => ⟨b, x, y, hp, hb, (h.cell (p := ⟨b, 0, none⟩) hb).trans h0, (h.cell (p := ⟨b, 1, none⟩) hb).trans h1, (h.cell (p := ⟨b, 2, none⟩) hb).trans h2, (h.cell (p := ⟨b, 3, none⟩) hb).trans h3, (h.cell (p := ⟨b, 4, none⟩) hb).trans h4, IsTB.below h hl, IsTB.below h hr⟩
theorem IsT.tb {W : World} : ∀ {t : T} {p : Option Addr}, IsT W t (.pointer p) → IsTB W.heap.size W t p
  | .nil, _, h => by
    have h1 : Value.pointer _ = .pointer none := h
    injection h1
  | .node l r k, p, h => by
    obtain ⟨lo, hi, tag⟩ := r
    obtain ⟨b, x, y, rfl, hlt, h1, h2, hcs⟩ := h.open
    obtain ⟨c0, c1, c2, c3, c4⟩ := hcs W (Below.refl _ _)
    exact ⟨b, x, y, rfl, hlt, c0, c1, c2, c3, c4, IsT.tb h1, IsT.tb h2⟩
set_option maxRecDepth 100000 in
set_option maxHeartbeats 4000000 in
theorem visitP_in (P : R → Prop) (f : Int → Int) (l n₀ N : Nat) (J Jx : List R → World → Prop)
    (hJ : ∀ s W W', J s W → W.grownBy W' none → J s W') (_hJx : ∀ s W W', Jx s W → W.grownBy W' none → Jx s W')
    (hY : ∀ m pre x W, J pre W → pre.length < N → P x → YieldAt Fence.wide m Try.prog l (encR x) W fun e W' =>
      (e = .returned (.bool true) ∧ J (pre ++ [x]) W' ∧ Below n₀ W W') ∨ (e = .returned (.bool false) ∧ Jx (pre ++ [x]) W')) (t : T) :
    ∀ (n : Nat) (p : Option Addr) (a b lo hi : Int) (pre : List R) (W : World), IsTB n₀ W t p → n₀ ≤ W.heap.size → Gs.Can f a t.L b → J pre W → pre.length + (clip lo hi t.L).length ≤ N → (∀ x ∈ clip lo hi t.L, P x) →
      CallsIn Fence.wide n Try.prog 73 #[.pointer p, .int .i64 lo, .int .i64 hi, .func (.yield l) #[] #[]] W fun e W' =>
        (e = .returned (.bool true) ∧ J (pre ++ clip lo hi t.L) W' ∧ Below n₀ W W') ∨ (e = .returned (.bool false) ∧ ∃ q, q <+: clip lo hi t.L ∧ Jx (pre ++ q) W') := by
  have hearly : ∀ (t : T) (n : Nat) (p : Option Addr) (lo hi : Int) (pre : List R) (W : World), (p = none ∨ hi ≤ lo) → (∃ x, p = x) → J pre W → clip lo hi t.L = [] →
      CallsIn Fence.wide n Try.prog 73 #[.pointer p, .int .i64 lo, .int .i64 hi, .func (.yield l) #[] #[]] W fun e W' =>
        (e = .returned (.bool true) ∧ J (pre ++ clip lo hi t.L) W' ∧ Below n₀ W W') ∨ (e = .returned (.bool false) ∧ ∃ q, q <+: clip lo hi t.L ∧ Jx (pre ++ q) W') := by
    intro t n p lo hi pre W hp _ hj hc
    rw [hc]
    by_cases h0 : p = none
    · subst h0
      refine callsIn_of_wp Try.func73 rfl trivial ?_ rfl
      simp only [Try.ntmps73, List.size_toArray, List.length_cons, List.length_nil, Nat.reduceAdd, Nat.reduceSub, Array.replicate_succ, Array.replicate_zero, List.push_toArray, List.append_toArray, List.nil_append, List.cons_append]
      gi_wp2
      go_ret
      exact .inl ⟨rfl, by simpa using hj, Below.refl _ _⟩
    · have h1 : lo ≥ hi := by rcases hp with h | h; exact absurd h h0; exact h
      obtain ⟨x, rfl⟩ : ∃ x, p = some x := by
        cases p with
        | none => exact absurd rfl h0
        | some x => exact ⟨x, rfl⟩
      refine callsIn_of_wp Try.func73 rfl trivial ?_ rfl
      simp only [Try.ntmps73, List.size_toArray, List.length_cons, List.length_nil, Nat.reduceAdd, Nat.reduceSub, Array.replicate_succ, Array.replicate_zero, List.push_toArray, List.append_toArray, List.nil_append, List.cons_append]
      gi_wp2
      go_ret
      exact .inl ⟨rfl, by simpa using hj, Below.refl _ _⟩
  induction t with
  | nil =>
    intro n p a b lo hi pre W ht _ _ hj _ _
    exact hearly .nil n p lo hi pre W (.inl ht) ⟨_, rfl⟩ hj rfl
  | node tl r tr ihl ihr =>
    intro n p a b lo hi pre W ht hn hc hj hN hP
    by_cases hlh : hi ≤ lo
    · exact hearly _ n p lo hi pre W (.inr hlh) ⟨_, rfl⟩ hj (clip_none hlh _)
    · obtain ⟨rlo, rhi, rtag⟩ := r
      obtain ⟨b0, x, y, rfl, hb, c0, c1, c2, c3, c4, hl, hr⟩ := ht
      simp only at c1 c2 c3
      have hcl := clip_node (lo := lo) (hi := hi) hc
      obtain ⟨m1, m2, m3, _, _, _⟩ := hc.mid
      simp only at m1 m2 m3
      have hLL : (T.node tl ⟨rlo, rhi, rtag⟩ tr).L = tl.L ++ ⟨rlo, rhi, rtag⟩ :: tr.L := rfl
      rw [hLL] at hN hP ⊢
      rw [hcl] at hN hP ⊢
      simp only [List.length_append] at hN
      have hdd : ∀ k : Nat, ((Fence.wide).depth.isSome = true → 1 ≤ k) := fun k h => by cases h
      have hmx : ∀ p q : Int, (if p < q then q else p) = max p q := fun p q => by split <;> omega
      have hmn : ∀ p q : Int, (if p < q then p else q) = min p q := fun p q => by split <;> omega
      have hlh2 : ¬ lo ≥ hi := by omega
      have hWd : Below n₀ W W.drew := (Below.refl _ _).drew
      have hJd : J pre W.drew := hJ _ _ _ hj (grown_drew W)
      have ih1 := (ihl (n - 1) x a rlo lo (min rlo hi) pre W.drew (hl.below hWd) (by show n₀ ≤ W.heap.size; exact hn) m1 hJd (by omega) (fun x hx => hP x (List.mem_append_left _ hx))).mono (R' := fun e W1 =>
        ∃ bb, e = .returned (.bool bb) ∧ Hid ((bb = true ∧ (W1.cell? ⟨b0, 1, none⟩ = some (.int .i64 rlo) ∧ W1.cell? ⟨b0, 2, none⟩ = some (.int .i64 rhi) ∧ W1.cell? ⟨b0, 3, none⟩ = some (.int .i64 rtag) ∧ W1.cell? ⟨b0, 4, none⟩ = some (.pointer y)) ∧ J (pre ++ clip lo (min rlo hi) tl.L) W1 ∧ Below n₀ W W1) ∨
        (bb = false ∧ ∃ q, q <+: clip lo (min rlo hi) tl.L ∧ Jx (pre ++ q) W1)))
        (fun e W1 h => h.elim (fun ⟨he, hj, hb1⟩ => ⟨true, he, .inl ⟨rfl, ⟨((hWd.trans hb1).cell (p := ⟨b0, 1, none⟩) hb).trans c1, ((hWd.trans hb1).cell (p := ⟨b0, 2, none⟩) hb).trans c2, ((hWd.trans hb1).cell (p := ⟨b0, 3, none⟩) hb).trans c3, ((hWd.trans hb1).cell (p := ⟨b0, 4, none⟩) hb).trans c4⟩, hj, hWd.trans hb1⟩⟩) fun h => ⟨false, h.1, .inr ⟨rfl, h.2⟩⟩)
      have HRT : Hid (∀ (q0 : List R) (W3 : World), J (pre ++ q0) W3 → Below n₀ W W3 → pre.length + q0.length + (clip (max lo rhi) hi tr.L).length ≤ N →
          CallsIn Fence.wide (n - 1) Try.prog 73 #[.pointer y, .int .i64 (max lo rhi), .int .i64 hi, .func (.yield l) #[] #[]] W3.drew fun e W4 =>
            ∃ bb, e = .returned (.bool bb) ∧ Hid ((bb = true ∧ J (pre ++ q0 ++ clip (max lo rhi) hi tr.L) W4 ∧ Below n₀ W W4) ∨ (bb = false ∧ ∃ q, q <+: clip (max lo rhi) hi tr.L ∧ Jx (pre ++ q0 ++ q) W4))) := fun q0 W3 hj3 hb3 hlen =>
        (ihr (n - 1) y rhi b (max lo rhi) hi (pre ++ q0) W3.drew (hr.below hb3.drew) (by show n₀ ≤ W3.heap.size; exact Nat.le_trans hn hb3.size) m2 (hJ _ _ _ hj3 (grown_drew W3)) (by rw [List.length_append]; exact hlen) (fun x hx => hP x (List.mem_append_right _ (List.mem_append_right _ hx)))).mono fun e W4 h => h.elim
          (fun ⟨he, hj, hb4⟩ => ⟨true, he, .inl ⟨rfl, hj, hb3.drew.trans hb4⟩⟩) fun ⟨he, h⟩ => ⟨false, he, .inr ⟨rfl, h⟩⟩
      have HN := Lib.hid hN
      have HPP := Lib.hid hP
      have HLH := Lib.hid hlh2
      have HCC := Lib.hid (And.intro m1 (And.intro m2 m3))
      clear ihl ihr hearly hl hr hj hc hJd hWd m1 m2 m3 hcl hLL hN hP
      refine callsIn_of_wp Try.func73 rfl trivial ?_ rfl
      simp only [Try.ntmps73, List.size_toArray, List.length_cons, List.length_nil, Nat.reduceAdd, Nat.reduceSub, Array.replicate_succ, Array.replicate_zero, List.push_toArray, List.append_toArray, List.nil_append, List.cons_append]
      gi_upto_region 3 with fail
      gi_cut [31] from 17 (fun s31 W1 => ∃ bb, s31 = .bool (!bb) ∧ Hid ((bb = true ∧ (W1.cell? ⟨b0, 1, none⟩ = some (.int .i64 rlo) ∧ W1.cell? ⟨b0, 2, none⟩ = some (.int .i64 rhi) ∧ W1.cell? ⟨b0, 3, none⟩ = some (.int .i64 rtag) ∧ W1.cell? ⟨b0, 4, none⟩ = some (.pointer y)) ∧ J (pre ++ clip lo (min rlo hi) tl.L) W1 ∧ Below n₀ W W1) ∨
        (bb = false ∧ ∃ q, q <+: clip lo (min rlo hi) tl.L ∧ Jx (pre ++ q) W1)))
      case first =>
        gi_region_with (first | (refine ⟨trivial, hdd _, ?_⟩; with_reducible refine ih1.mono ?_; clear ih1; rintro e W1 ⟨bb, rfl, H1⟩) | fail)
        all_goals
          go_simp
          gi_wp2_with fail
          gi_meet
          case rel => exact ⟨bb, rfl, H1⟩
      case rest =>
        generalize wc = W1 at *
        obtain ⟨bb, rfl, H1⟩ := hcut
        clear ih1 c0 c1 c2 c3 c4
        rcases H1.out with ⟨rfl, ⟨e1, e2, e3, e4⟩, hJ1, hB1⟩ | ⟨rfl, q, hq, hx1⟩
        · have HJ1 := Lib.hid hJ1
          have HB1 := Lib.hid hB1
          have hl1 : b0 < W1.heap.size := Nat.lt_of_lt_of_le hb (Nat.le_trans hn hB1.size)
          have HZ : ∀ p : Addr, p.block = b0 → (W1.alloc (.cells #[.int .i64 0, .int .i64 0, .int .i64 0] 64)).cell? p = W1.cell? p := fun p h => ((Below.refl W1.heap.size W1).alloc (Nat.le_refl _) _).cell (p := p) (by rw [h]; exact hl1)
          have z1 := (HZ ⟨b0, 1, none⟩ rfl).trans e1
          have z2 := (HZ ⟨b0, 2, none⟩ rfl).trans e2
          have z3 := (HZ ⟨b0, 3, none⟩ rfl).trans e3
          clear hJ1 hB1 H1 HZ
          go_simp
          gi_wp2_with fail
          gi_region
          clear z1 z2 z3
          obtain ⟨W2, HW2⟩ : ∃ W2, W2 = (W1.alloc (.cells #[.int .i64 (max lo rlo), .int .i64 (min rhi hi), .int .i64 rtag] 64)).drew := ⟨_, rfl⟩
          rw [← HW2]
          have b12 : Below W1.heap.size W1 W2 := by rw [HW2]; exact ((Below.refl _ _).alloc (Nat.le_refl _) _).drew
          have p0 : W2.cell? ⟨W1.heap.size, 0, none⟩ = some (.int .i64 (max lo rlo)) := by rw [HW2]; exact World.cell?_alloc_at _ _ _ _ rfl
          have p1 : W2.cell? ⟨W1.heap.size, 1, none⟩ = some (.int .i64 (min rhi hi)) := by rw [HW2]; exact World.cell?_alloc_at _ _ _ _ rfl
          have p2 : W2.cell? ⟨W1.heap.size, 2, none⟩ = some (.int .i64 rtag) := by rw [HW2]; exact World.cell?_alloc_at _ _ _ _ rfl
          have f2 := (b12.cell (p := ⟨b0, 2, none⟩) hl1).trans e2
          have f4 := (b12.cell (p := ⟨b0, 4, none⟩) hl1).trans e4
          have hJ2 : J (pre ++ clip lo (min rlo hi) tl.L) W2 := by rw [HW2]; exact hJ _ _ _ (hJ _ _ _ HJ1.out (World.grownBy_alloc W1 _ none)) (grown_drew _)
          have hB2 : Below n₀ W W2 := HB1.out.trans (b12.mono (Nat.le_trans hn HB1.out.size))
          clear HW2 e1 e2 e3 e4
          by_cases hlt : max lo rlo < min rhi hi
          · have hc1 : clip1 lo hi ⟨rlo, rhi, rtag⟩ = [⟨max lo rlo, min rhi hi, rtag⟩] := if_pos hlt
            have HC1 := Lib.hid hc1
            have hN2 := HN.out
            rw [hc1, List.length_singleton] at hN2
            obtain ⟨fn, tmps, assign, body, hy, hR⟩ := (hY (n - 1) (pre ++ clip lo (min rlo hi) tl.L) ⟨max lo rlo, min rhi hi, rtag⟩ W2 hJ2 (by rw [List.length_append]; omega) (HPP.out _ (by rw [hc1]; exact List.mem_append_right _ (List.mem_append_left _ (List.mem_singleton.2 rfl))))).mono (R' := fun e W3 =>
              (e = .returned (.bool true) ∧ Hid (J (pre ++ clip lo (min rlo hi) tl.L ++ [⟨max lo rlo, min rhi hi, rtag⟩]) W3) ∧ Hid (Below n₀ W W3) ∧ W3.cell? ⟨b0, 2, none⟩ = some (.int .i64 rhi) ∧ W3.cell? ⟨b0, 4, none⟩ = some (.pointer y)) ∨ (e = .returned (.bool false) ∧ Hid (Jx (pre ++ clip lo (min rlo hi) tl.L ++ [⟨max lo rlo, min rhi hi, rtag⟩]) W3)))
              (fun e W3 h => h.elim (fun ⟨he, hj, hb3⟩ => .inl ⟨he, Lib.hid hj, Lib.hid (hB2.trans hb3), (hb3.cell (p := ⟨b0, 2, none⟩) hb).trans f2, (hb3.cell (p := ⟨b0, 4, none⟩) hb).trans f4⟩) fun ⟨he, h⟩ => .inr ⟨he, Lib.hid h⟩)
            unfold encR at hy
            have HN2 : Hid (pre.length + (clip lo (min rlo hi) tl.L ++ [(⟨max lo rlo, min rhi hi, rtag⟩ : R)]).length + (clip (max lo rhi) hi tr.L).length ≤ N) := by
              show _ ≤ _
              rw [List.length_append, List.length_singleton]; omega
            clear hJ2 hB2 hc1 hN2 f2 f4
            gi_wp2_with ((try refine ⟨hdd _, ?_⟩); refine hR.mono ?_; clear hR; rintro e W3 (⟨rfl, hJ3, hB3, f2, f4⟩ | ⟨rfl, hx3⟩))
            · have hcall := HRT.out (clip lo (min rlo hi) tl.L ++ [⟨max lo rlo, min rhi hi, rtag⟩]) W3 (by rw [← List.append_assoc]; exact hJ3.out) hB3.out HN2.out
              gi_region_with (first | (refine ⟨trivial, hdd _, ?_⟩; with_reducible refine hcall.mono ?_; clear hcall; rintro e W4 ⟨b4, rfl, H4⟩) | fail)
              all_goals
                go_simp
                gi_wp2_with fail
                go_ret
                rw [HC1.out]
                rcases H4.out with ⟨rfl, hj4, hb4⟩ | ⟨rfl, q', hq', hx4⟩
                · exact .inl ⟨rfl, by simpa [List.append_assoc] using hj4, hb4⟩
                · exact .inr ⟨rfl, clip lo (min rlo hi) tl.L ++ ([⟨max lo rlo, min rhi hi, rtag⟩] ++ q'), (List.prefix_append_right_inj _).2 ((List.prefix_append_right_inj _).2 hq'), by simpa [List.append_assoc] using hx4⟩
            · go_ret
              rw [HC1.out]
              exact .inr ⟨rfl, clip lo (min rlo hi) tl.L ++ [⟨max lo rlo, min rhi hi, rtag⟩], (List.prefix_append_right_inj _).2 (List.prefix_append _ _), by simpa [List.append_assoc] using hx3.out⟩
          · have hc1 : clip1 lo hi ⟨rlo, rhi, rtag⟩ = [] := if_neg hlt
            have HC1 := Lib.hid hc1
            have hcall := HRT.out (clip lo (min rlo hi) tl.L) W2 hJ2 hB2 (by have := HN.out; rw [hc1] at this; simp only [List.length_nil] at this; omega)
            clear hJ2 hB2 hc1
            gi_wp2_with fail
            refine ⟨fun _ h => (by cases h), ?_⟩
            gi_wp2_with fail
            gi_region_with (first | (refine ⟨trivial, hdd _, ?_⟩; with_reducible refine hcall.mono ?_; clear hcall; rintro e W4 ⟨b4, rfl, H4⟩) | fail)
            all_goals
              go_simp
              gi_wp2_with fail
              go_ret
              rw [HC1.out]
              rcases H4.out with ⟨rfl, hj4, hb4⟩ | ⟨rfl, q', hq', hx4⟩
              · exact .inl ⟨rfl, by simpa [List.append_assoc] using hj4, hb4⟩
              · exact .inr ⟨rfl, clip lo (min rlo hi) tl.L ++ q', (List.prefix_append_right_inj _).2 hq', by simpa [List.append_assoc] using hx4⟩
        · have HX1 := Lib.hid hx1
          have HQ := Lib.hid hq
          clear hq hx1 H1
          go_simp
          gi_wp2_with fail
          go_ret
          exact .inr ⟨rfl, q, HQ.out.trans (List.prefix_append _ _), HX1.out⟩
theorem visit_in (f : Int → Int) (l n₀ N : Nat) (J Jx : List R → World → Prop)
    (hJ : ∀ s W W', J s W → W.grownBy W' none → J s W') (hJx : ∀ s W W', Jx s W → W.grownBy W' none → Jx s W')
    (hY : ∀ m pre x W, J pre W → pre.length < N → YieldAt Fence.wide m Try.prog l (encR x) W fun e W' =>
      (e = .returned (.bool true) ∧ J (pre ++ [x]) W' ∧ Below n₀ W W') ∨ (e = .returned (.bool false) ∧ Jx (pre ++ [x]) W')) (t : T)
    (n : Nat) (p : Option Addr) (a b lo hi : Int) (pre : List R) (W : World) (h1 : IsTB n₀ W t p) (h2 : n₀ ≤ W.heap.size) (h3 : Gs.Can f a t.L b) (h4 : J pre W) (h5 : pre.length + (clip lo hi t.L).length ≤ N) :
      CallsIn Fence.wide n Try.prog 73 #[.pointer p, .int .i64 lo, .int .i64 hi, .func (.yield l) #[] #[]] W fun e W' =>
        (e = .returned (.bool true) ∧ J (pre ++ clip lo hi t.L) W' ∧ Below n₀ W W') ∨ (e = .returned (.bool false) ∧ ∃ q, q <+: clip lo hi t.L ∧ Jx (pre ++ q) W') :=
  visitP_in (fun _ => True) f l n₀ N J Jx hJ hJx (fun m pre x W hj hl _ => hY m pre x W hj hl) t n p a b lo hi pre W h1 h2 h3 h4 h5 (fun _ _ => trivial)
end Go.Proofs.Ytjbenhmpeceaeaa
namespace Go.Proofs.Ytjbenhmpeceaeaa
open Go Go.RowKit Gs

/-- a usable map of the function f from pieces to tags -/
structure IsM (f : Int → Int) (size : Int) (W : World) (p : Option Addr) : Prop where
  lo : 1 ≤ size
  ctx : Ctx f 0 size
  tr : Tr f 0 size 4096 W p
theorem IsM.hi {f : Int → Int} {size : Int} {W : World} {p : Option Addr} (h : IsM f size W p) : size ≤ 1099511627776 := h.ctx.2.1
theorem IsM.below {f : Int → Int} {size : Int} {W W' : World} {p : Option Addr} (h : IsM f size W p) (hb : Below W.heap.size W W') : IsM f size W' p := ⟨h.lo, h.ctx, h.tr.below hb⟩
theorem IsM.some {f : Int → Int} {size : Int} {W : World} {p : Option Addr} (h : IsM f size W p) : ∃ b, p = some ⟨b, 0, none⟩ := by
  rcases h.tr.last with ⟨_, e⟩ | ⟨b, _, _, e, _⟩
  · have := h.lo; omega
  · exact ⟨b, e⟩
/-- what an update answers: the errno of check; a map that is full; or the map -/
def Upd (_f g : Int → Int) (size er : Int) (q : Option Addr) (s e : Int) (W : World) : Prop :=
  (er ≠ 0 ∧ e = er ∧ q = none ∧ s = 0) ∨ (er = 0 ∧ e = 5 ∧ q = none ∧ s = 0 ∧ ∃ L, Gs.Can g 0 L size ∧ 4096 < L.length) ∨ (er = 0 ∧ e = 0 ∧ s = size ∧ IsM g size W q)
theorem Upd.below {f g : Int → Int} {size er s e : Int} {q : Option Addr} {W W' : World} (h : Upd f g size er q s e W) (hb : Below W.heap.size W W') : Upd f g size er q s e W' := by
  rcases h with h | h | ⟨h1, h2, h3, h4⟩
  · exact .inl h
  · exact .inr (.inl h)
  · exact .inr (.inr ⟨h1, h2, h3, h4.below hb⟩)
theorem Tr.of_eq {f : Int → Int} {a b a' b' : Int} {n : Nat} {W : World} {p : Option Addr} (h : Tr f a b n W p) (e1 : a = a') (e2 : b = b') : Tr f a' b' n W p := by
  subst e1; subst e2; exact h
set_option maxHeartbeats 1000000 in
theorem cut_any {f : Int → Int} {size lo hi : Int} {n : Nat} {W : World} {p : Option Addr} (h : Tr f 0 size n W p) (hx : Ctx f 0 size) (hn : n ≤ 50000) (h1 : 0 ≤ lo) (h2 : lo ≤ hi) (h3 : hi ≤ size) :
    Calls Try.prog 66 #[.agg #[.pointer p, .int .i64 size], .int .i64 lo, .int .i64 hi] W fun e w' => ∃ x y z, e = .returned (.tuple #[.pointer x, .pointer y, .pointer z]) ∧ Hid (Tr f 0 lo n w' x) ∧ Hid (Tr f lo hi n w' y) ∧ Hid (Tr f hi size n w' z) ∧ Below W.heap.size W w' := by
  obtain ⟨w0, HW⟩ : ∃ w0, w0 = W.alloc (.cells #[.pointer p, .int .i64 size] 27) := ⟨_, rfl⟩
  have hq : Mq W p size w0 := by rw [HW]; exact Mq.new _ _ _ _
  have HQ := Lib.hid hq
  have HW' := Lib.hid HW
  have HS1 : Hid (Calls Try.prog 75 #[.pointer p, .int .i64 lo] w0 fun e w' => ∃ x y, e = .returned (.tuple #[.pointer x, .pointer y]) ∧ Hid (Tr f 0 lo n w' x) ∧ Hid (Tr f lo size n w' y) ∧ Below w0.heap.size w0 w') := (h.below hq.bel).split hx hn h1 (by omega)
  have HS2 : Hid (∀ y W', Tr f lo size n W' y → Calls Try.prog 75 #[.pointer y, .int .i64 hi] W' fun e w' => ∃ x z, e = .returned (.tuple #[.pointer x, .pointer z]) ∧ Hid (Tr f lo hi n w' x) ∧ Hid (Tr f hi size n w' z) ∧ Below W'.heap.size W' w') := fun y W' hy => hy.split (hx.sub h1 (Int.le_refl _)) hn h2 h3
  have c0 := hq.c0; have c1 := hq.c1
  clear h hx hn h1 h2 h3 hq HW
  go_enter Try.func66, Try.ntmps66
  go_wp2_with fail
  rw [← HW'.out]
  refine HS1.out.mono ?_
  rintro e w1 ⟨x, y, rfl, HX, HY, hb⟩
  have HB := Lib.hid hb
  clear hb
  go_wp2_with fail
  refine (HS2.out y _ HY.out).mono ?_
  rintro e w2 ⟨y2, z, rfl, HY2, HZ, hb⟩
  have HB2 := Lib.hid hb
  clear hb
  go_wp2_with fail
  refine bodyPost_ret (v := .tuple #[.pointer x, .pointer y2, .pointer z]) (by simp [results, Try.results66, go_sem]) rfl ?_
  exact ⟨x, y2, z, rfl, HX.out.below HB2.out, HY2, HZ, HQ.out.bel.trans ((HB.out.trans (HB2.out.mono HB.out.size)).mono HQ.out.bel.size)⟩
theorem box_two (W : World) (X : Nat) (Ty : TypeId) (hX : X = W.heap.size) : (W.alloc (.cells #[.pointer none, .int .i64 0] Ty)).cell? ⟨X, 0, none⟩ = some (.pointer none) ∧ (W.alloc (.cells #[.pointer none, .int .i64 0] Ty)).cell? ⟨X, 1, none⟩ = some (.int .i64 0) := by
  subst hX
  exact ⟨World.cell?_alloc_at _ _ _ _ rfl, World.cell?_alloc_at _ _ _ _ rfl⟩
end Go.Proofs.Ytjbenhmpeceaeaa
namespace Go.Proofs.Ytjbenhmpeceaeaa
open Go Go.RowKit Gs

/-- a map lies at block B -/
structure Mb (B : Nat) (p : Option Addr) (size : Int) (W' : World) : Prop where
  c0 : W'.cell? ⟨B, 0, none⟩ = some (.pointer p)
  c1 : W'.cell? ⟨B, 1, none⟩ = some (.int .i64 size)
  f0 : W'.frozen? ⟨B, 0, none⟩ = false
  f1 : W'.frozen? ⟨B, 1, none⟩ = false
  c22 : W'.cell? ⟨B, 22, none⟩ = none
  lt : B < W'.heap.size
section
variable {W W' W2 : World} {p : Option Addr} {size : Int} {B : Nat}
theorem Mb.next (h : Mb B p size W') (hb : Below W'.heap.size W' W2) : Mb B p size W2 :=
  ⟨(hb.cell (p := ⟨B, 0, none⟩) h.lt).trans h.c0, (hb.cell (p := ⟨B, 1, none⟩) h.lt).trans h.c1, (hb.frozen (p := ⟨B, 0, none⟩) h.lt).trans h.f0, (hb.frozen (p := ⟨B, 1, none⟩) h.lt).trans h.f1, (hb.cell (p := ⟨B, 22, none⟩) h.lt).trans h.c22, Nat.lt_of_lt_of_le h.lt hb.size⟩
theorem Mb.drew (h : Mb B p size W') : Mb B p size W'.drew := h.next (Below.refl _ _).drew
theorem Mb.drewN (h : Mb B p size W') (k : Nat) : Mb B p size (W'.drewN k) := h.next (below_drewN (Below.refl _ _) k)
theorem Mb.new (W : World) (p : Option Addr) (size : Int) (Ty : TypeId) : Mb W.heap.size p size (W.alloc (.cells #[.pointer p, .int .i64 size] Ty)) :=
  ⟨World.cell?_alloc_at _ _ _ _ rfl, World.cell?_alloc_at _ _ _ _ rfl, World.frozen?_alloc_at _ _ _ _ rfl, World.frozen?_alloc_at _ _ _ _ rfl, World.cell?_alloc_at _ _ _ _ rfl, by simp⟩
theorem Mb.put (h : Mb B p size W') (q : Option Addr) (s : Int) : Mb B q s ((W'.setCell ⟨B, 0, none⟩ (.pointer q)).setCell ⟨B, 1, none⟩ (.int .i64 s)) :=
  ⟨(World.cell?_setCell_other _ _ _ _ (by intro e; cases e)).trans (World.cell?_setCell_same _ _ _ h.c0), World.cell?_setCell_same _ _ _ ((World.cell?_setCell_other _ _ _ _ (by intro e; cases e)).trans h.c1),
   (World.frozen?_setCell _ _ _ _).trans ((World.frozen?_setCell _ _ _ _).trans h.f0), (World.frozen?_setCell _ _ _ _).trans ((World.frozen?_setCell _ _ _ _).trans h.f1), (World.cell?_setCell_other _ _ _ _ (by intro e; cases e)).trans ((World.cell?_setCell_other _ _ _ _ (by intro e; cases e)).trans h.c22), by rw [World.size_setCell, World.size_setCell]; exact h.lt⟩
/-- a store at another block -/
theorem Mb.other {B2 : Nat} (h : Mb B p size W') (hne : B2 ≠ B) (x y : Value) : Mb B p size ((W'.setCell ⟨B2, 0, none⟩ x).setCell ⟨B2, 1, none⟩ y) := by
  have o : ∀ i j, (⟨B2, i, none⟩ : Addr) ≠ ⟨B, j, none⟩ := by intro i j e; injection e with e; exact hne e
  exact ⟨(World.cell?_setCell_other _ _ _ _ (o _ _)).trans ((World.cell?_setCell_other _ _ _ _ (o _ _)).trans h.c0), (World.cell?_setCell_other _ _ _ _ (o _ _)).trans ((World.cell?_setCell_other _ _ _ _ (o _ _)).trans h.c1),
    (World.frozen?_setCell _ _ _ _).trans ((World.frozen?_setCell _ _ _ _).trans h.f0), (World.frozen?_setCell _ _ _ _).trans ((World.frozen?_setCell _ _ _ _).trans h.f1), (World.cell?_setCell_other _ _ _ _ (o _ _)).trans ((World.cell?_setCell_other _ _ _ _ (o _ _)).trans h.c22), by rw [World.size_setCell, World.size_setCell]; exact h.lt⟩
theorem Mb.tr {f : Int → Int} {a b : Int} {n : Nat} {q : Option Addr} (h : Mb B p size W') (ht : Tr f a b n W' q) (x y : Value) : Tr f a b n ((W'.setCell ⟨B, 0, none⟩ x).setCell ⟨B, 1, none⟩ y) q :=
  (ht.set h.c22 x).set ((World.cell?_setCell_other _ _ _ _ (by intro e; cases e)).trans h.c22) y
end
theorem Mb.upd {f g : Int → Int} {size er s e sz : Int} {B : Nat} {p q : Option Addr} {W' : World} (h : Mb B p sz W') (hu : Upd f g size er q s e W') (x y : Value) : Upd f g size er q s e ((W'.setCell ⟨B, 0, none⟩ x).setCell ⟨B, 1, none⟩ y) := by
  rcases hu with hu | hu | ⟨h1, h2, h3, h4⟩
  · exact .inl hu
  · exact .inr (.inl hu)
  · exact .inr (.inr ⟨h1, h2, h3, h4.lo, h4.ctx, h.tr h4.tr x y⟩)
/-- a map's box, and that of a result behind it -/
theorem boxes2 (W : World) (p : Option Addr) (size : Int) (Ty : TypeId) : ∃ w0, w0 = (W.alloc (.cells #[.pointer p, .int .i64 size] Ty)).alloc (.cells #[.pointer none, .int .i64 0] Ty) ∧ Mb W.heap.size p size w0 ∧ Mb (W.heap.size + 1) none 0 w0 ∧ Below W.heap.size W w0 := by
  have h1 := Mb.new W p size Ty
  have h2 := Mb.new (W.alloc (.cells #[.pointer p, .int .i64 size] Ty)) none 0 Ty
  rw [show (W.alloc (.cells #[.pointer p, .int .i64 size] Ty)).heap.size = W.heap.size + 1 by simp] at h2
  exact ⟨_, rfl, h1.next ((Below.refl _ _).alloc (Nat.le_refl _) _), h2, ((Below.refl _ _).alloc (Nat.le_refl _) _).alloc (by simp) _⟩
theorem below_put {W W' : World} {B : Nat} (h : Below W.heap.size W W') (hB : W.heap.size ≤ B) (x y : Value) : Below W.heap.size W ((W'.setCell ⟨B, 0, none⟩ x).setCell ⟨B, 1, none⟩ y) := (h.setCell hB x).setCell hB y
set_option maxHeartbeats 1000000 in
theorem with_any {f g : Int → Int} {size : Int} {n : Nat} {W : World} {p r : Option Addr} (h : Tr g 0 size n W r) (hx : Ctx g 0 size) (hs : 1 ≤ size) (_hn : n ≤ 90000) :
    Calls Try.prog 67 #[.agg #[.pointer p, .int .i64 size], .pointer r] W fun e w' => ∃ q s e2, e = .returned (.tuple #[.agg #[.pointer q, .int .i64 s], .int .i64 e2]) ∧ Hid (Upd f g size 0 q s e2 w') ∧ Below W.heap.size W w' := by
  obtain ⟨w0, HW, hm, hr, hb⟩ := boxes2 W p size 27
  obtain ⟨t, t1, t2, t3⟩ := h
  have HLN : Hid (Calls Try.prog 71 #[.pointer r] w0 fun e w' => e = .returned (.int .i64 t.sz) ∧ w0 = w') := len_any t _ w0 (IsT.below hb t1)
  have HM := Lib.hid hm; have HR := Lib.hid hr; have HB := Lib.hid hb; have HW' := Lib.hid HW
  by_cases hl : 4096 < t.sz
  · have HU : Hid (∀ W', Upd f g size 0 none 0 5 W') := fun W' => .inr (.inl ⟨rfl, rfl, rfl, rfl, t.L, t2, by rw [← T.sz_eq]; exact hl⟩)
    have h1 : (t.sz : Int) > 4096 := by omega
    clear hm hr hb HW t1 t2 t3 hx hs _hn
    generalize t.sz = SZ at *
    have d0 := HR.out.c0; have d1 := HR.out.c1; have d2 := HR.out.f0; have d3 := HR.out.f1
    obtain ⟨u0, u1⟩ : _ ∧ _ := ⟨(HR.out.put none 0).c0, (HR.out.put none 0).c1⟩
    go_enter Try.func67, Try.ntmps67
    go_wp2_with fail
    rw [← HW'.out]
    refine HLN.out.mono ?_
    rintro e w1 ⟨rfl, rfl⟩
    go_wp2_with fail
    refine bodyPost_ret (v := .tuple #[.agg #[.pointer none, .int .i64 0], .int .i64 5]) (by simp [results, Try.results67, go_sem, u0, u1]) rfl ?_
    have HBF := below_put HB.out (B := W.heap.size + 1) (by omega) (.pointer none) (.int .i64 0)
    exact ⟨none, 0, 5, rfl, HU.out _, by first | exact HB.out | exact HBF⟩
  · have HT : Hid (Tr g 0 size 4096 W r) := ⟨t, t1, t2, by omega⟩
    have HX : Hid (Ctx g 0 size ∧ 1 ≤ size) := ⟨hx, hs⟩
    have h1 : ¬ (t.sz : Int) > 4096 := by omega
    clear hm hr hb HW t1 t2 t3 hx hs _hn
    generalize t.sz = SZ at *
    have d0 := HR.out.c0; have d1 := HR.out.c1; have d2 := HR.out.f0; have d3 := HR.out.f1
    have k0 := HM.out.c0; have k1 := HM.out.c1
    obtain ⟨u0, u1⟩ : _ ∧ _ := ⟨(HR.out.put r size).c0, (HR.out.put r size).c1⟩
    go_enter Try.func67, Try.ntmps67
    go_wp2_with fail
    rw [← HW'.out]
    refine HLN.out.mono ?_
    rintro e w1 ⟨rfl, rfl⟩
    go_wp2_with fail
    refine bodyPost_ret (v := .tuple #[.agg #[.pointer r, .int .i64 size], .int .i64 0]) (by simp [results, Try.results67, go_sem, u0, u1]) rfl ?_
    have HBF := below_put HB.out (B := W.heap.size + 1) (by omega) (.pointer r) (.int .i64 size)
    exact ⟨r, size, 0, rfl, .inr (.inr ⟨rfl, rfl, rfl, HX.out.2, HX.out.1, HT.out.below HBF⟩), HBF⟩
end Go.Proofs.Ytjbenhmpeceaeaa
namespace Go.Proofs.Ytjbenhmpeceaeaa
open Go Go.RowKit Gs

/-- the pieces of a range have a tag -/
def put (f : Int → Int) (lo hi : Int) (t : Int) (x : Int) : Int := if lo ≤ x ∧ x < hi then t else f x
theorem put_ctx {f : Int → Int} {a b lo hi t : Int} (h : Ctx f a b) (h0 : 0 ≤ t) (h1 : t < 16) : Ctx (put f lo hi t) a b := by
  refine ⟨h.1, h.2.1, fun p p1 p2 => ?_⟩
  have := h.2.2 p p1 p2
  simp only [put]
  split <;> omega
theorem errOf_zero {size lo hi : Int} {ts : List Int} (h : errOf size lo hi ts = 0) : 0 ≤ lo ∧ lo ≤ hi ∧ hi ≤ size ∧ ∀ t ∈ ts, 0 ≤ t ∧ t < 16 := by
  unfold errOf at h
  split at h
  · omega
  · split at h
    · rename_i h1 h2
      refine ⟨by omega, by omega, by omega, fun t ht => ?_⟩
      have := List.all_eq_true.1 h2 t ht
      exact of_decide_eq_true this
    · omega
/-- the boxes of a call: the map, the result, and a list of tags -/
theorem boxes3 (W : World) (p : Option Addr) (size : Int) (Ty : TypeId) (vs : Array Value) (Tv : TypeId) : ∃ w0, w0 = ((W.alloc (.cells #[.pointer p, .int .i64 size] Ty)).alloc (.cells #[.pointer none, .int .i64 0] Ty)).alloc (.cells vs Tv) ∧ Mb W.heap.size p size w0 ∧ Mb (W.heap.size + 1) none 0 w0 ∧ (∀ i v, vs[i]? = some v → w0.cell? ⟨W.heap.size + 1 + 1, i, none⟩ = some v) ∧ W.heap.size + 1 + 1 < w0.heap.size ∧ Below W.heap.size W w0 := by
  obtain ⟨w1, hw, hm, hr, hb⟩ := boxes2 W p size Ty
  have e : w1.heap.size = W.heap.size + 1 + 1 := by rw [hw]; simp
  rw [← hw]
  have hb1 : Below w1.heap.size w1 (w1.alloc (.cells vs Tv)) := (Below.refl _ _).alloc (Nat.le_refl _) _
  refine ⟨_, rfl, hm.next hb1, hr.next hb1, fun i v hv => ?_, by simp [e], hb.trans (hb1.mono hb.size)⟩
  exact (World.cell?_alloc_at _ _ _ _ e.symm).trans hv
set_option maxHeartbeats 1000000 in
/-- an update that check refuses -/
theorem Set_err {f : Int → Int} {size lo hi tag : Int} {W : World} {p : Option Addr} (h : IsM f size W p) (her : errOf size lo hi [tag] ≠ 0) :
    Calls Try.prog 38 #[.agg #[.pointer p, .int .i64 size], .int .i64 lo, .int .i64 hi, .int .i64 tag] W fun e w' => e = .returned (.tuple #[.agg #[.pointer none, .int .i64 0], .int .i64 (errOf size lo hi [tag])]) ∧ Below W.heap.size W w' := by
  obtain ⟨b, rfl⟩ := h.some
  obtain ⟨w0, HW, hm, hr, hc, hlt, hb⟩ := boxes3 W (some ⟨b, 0, none⟩) size 27 #[.int .i64 tag] 3
  have HCK : Hid (Calls Try.prog 46 #[.agg #[.pointer (some ⟨b, 0, none⟩), .int .i64 size], .int .i64 lo, .int .i64 hi, .slice (some ⟨W.heap.size + 1 + 1, 0, none⟩) 1 1] w0 fun e w' => e = .returned (.int .i64 (errOf size lo hi [tag])) ∧ Below w0.heap.size w0 w') :=
    check_any b (W.heap.size + 1 + 1) 1 size lo hi [tag] w0 hlt (fun i hi => by
      have : i = 0 := by simp at hi; exact hi
      subst this
      exact hc 0 _ rfl) (by simp)
  have HR := Lib.hid hr; have HB := Lib.hid hb; have HW' := Lib.hid HW
  have hne : (errOf size lo hi [tag] == 0) = false := beq_eq_false_iff_ne.2 her
  clear hm hr hb HW hc hlt h her
  generalize errOf size lo hi [tag] = er at *
  go_enter Try.func38, Try.ntmps38
  go_wp2_with fail
  rw [← HW'.out]
  refine HCK.out.mono ?_
  rintro e w1 ⟨rfl, hb⟩
  have HR1 := Lib.hid (HR.out.next hb)
  have HB1 := Lib.hid (HB.out.trans (hb.mono HB.out.size))
  have d0 := HR1.out.c0; have d1 := HR1.out.c1; have d2 := HR1.out.f0; have d3 := HR1.out.f1
  obtain ⟨u0, u1⟩ : _ ∧ _ := ⟨(HR1.out.put none 0).c0, (HR1.out.put none 0).c1⟩
  clear hb
  go_wp2_with fail
  refine bodyPost_ret (v := .tuple #[.agg #[.pointer none, .int .i64 0], .int .i64 er]) (by simp [results, Try.results38, go_sem, u0, u1]) rfl ?_
  have HBF := below_put HB1.out (B := W.heap.size + 1) (by omega) (.pointer none) (.int .i64 0)
  exact ⟨rfl, by first | exact HB1.out | exact HBF⟩
end Go.Proofs.Ytjbenhmpeceaeaa
