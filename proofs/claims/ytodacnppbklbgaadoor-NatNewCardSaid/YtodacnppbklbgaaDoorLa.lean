/- The law NatNew: the walk. -/
import Derived.Test.YtodacnppbklbgaaDoorRe
import Derived.Deep.RegionHeld3
namespace Go.Proofs.YtodacnppbklbgaaDoor
open Go Go.RowKit Gu

set_option maxHeartbeats 1000000 in
theorem natNew_neg (n : Int) (w : World) (hn : n < 0) (he : Env w) :
    Calls Tryd.prog 3 #[.int .i64 n] w fun e w' => e = .returned (.bool true) ∧ Below w.heap.size w w' := by
  have HN := Lib.hid (fun w => New_neg n w hn)
  have HE := Lib.hid he
  have HA := Lib.hid (fun w h => awake_any w h)
  have HT := Lib.hid (fun w h => told_err (.slice none 0 0) 2 w (by decide) (by decide) (by decide) h)
  have b1 : ∀ o, Below w.heap.size w (w.alloc o) := fun o => (Below.refl _ _).alloc (Nat.le_refl _) _
  have HB1 := Lib.hid b1
  clear he b1
  go_enter Tryd.func3, Tryd.ntmps3
  go_wp2_with fail
  refine (HN.out _).mono ?_
  rintro e w1 ⟨rfl, hb⟩
  have HB := Lib.hid hb
  have HE1 := Lib.hid ((HE.out.below hb).below ((Below.refl w1.heap.size w1).alloc (Nat.le_refl _) (.cells #[.slice none 0 0] 25)))
  have HB2 := Lib.hid ((hb.alloc hb.size (.cells #[.slice none 0 0] 25)))
  clear hb
  go_wp2_with fail
  refine (HT.out _ HE1.out).mono ?_
  rintro e w2 ⟨rfl, hb⟩
  have HE2 := Lib.hid (HE1.out.below hb)
  have HB3 := Lib.hid (HB2.out.trans (hb.mono HB2.out.size))
  clear hb
  go_wp2_with fail
  refine (HA.out _ HE2.out).mono ?_
  rintro e w3 ⟨rfl, hb⟩
  have HB4 := Lib.hid (HB3.out.trans (hb.mono HB3.out.size))
  clear hb
  go_wp2
  go_ret
  exact ⟨by simp, HB4.out⟩
/-- what the law keeps while it looks: the number at hand, the table, the memory that came in -/
structure St (ao : Option Addr) (ac n B : Nat) (w W : World) : Prop where
  num : D W (.slice ao (nd 4294967296 n) ac) n
  env : Env W
  bel : Below w.heap.size w W
  old : w.heap.size ≤ B
  lt : B < W.heap.size
  cell : W.cell? ⟨B, 0, none⟩ = some (.slice ao (nd 4294967296 n) ac)
theorem St.next {ao : Option Addr} {ac n B : Nat} {w W W' : World} (h : St ao ac n B w W) (hb : Below W.heap.size W W') : St ao ac n B w W' :=
  ⟨h.num.below hb, h.env.below hb, h.bel.trans (hb.mono h.bel.size), h.old, Nat.lt_of_lt_of_le h.lt hb.size, (hb.cell (p := ⟨B, 0, none⟩) h.lt).trans h.cell⟩
theorem St.drew {ao : Option Addr} {ac n B : Nat} {w W : World} (h : St ao ac n B w W) : St ao ac n B w W.drew := h.next (Below.refl _ _).drew
theorem Of_St {ao : Option Addr} {ac n B : Nat} {w W : World} (hn : n ≤ 9223372036854775807) (h : St ao ac n B w W) :
    Calls Tryd.prog 9 #[.int .i64 n] W fun e w' => ∃ ro rl rc, e = .returned (.slice ro rl rc) ∧ R w' (.slice ro rl rc) n ∧ St ao ac n B w w' ∧ w'.cell? ⟨B, 0, none⟩ = some (.slice ao (nd 4294967296 n) ac) :=
  (Of_any n W hn).mono fun e w' ⟨r, he, hr, hb⟩ => by
    obtain ⟨ro, rc, rfl, -⟩ := hr.shape
    exact ⟨ro, _, rc, he, hr, h.next hb, (h.next hb).cell⟩
theorem nd_int {n : Nat} (hn : n ≤ 9223372036854775807) : nd 4294967296 n ≤ 2 ∧ nd 65536 n ≤ 4 := ⟨(nd_le (by decide)).2 (by omega), (nd_le (by decide)).2 (by omega)⟩
theorem told_St {ao : Option Addr} {ac n B : Nat} {w W : World} {r : Value} (hn : n ≤ 9223372036854775807) (h : St ao ac n B w W) (hr : R W r n) :
    Calls Tryd.prog 6 #[.agg #[.slice ao (nd 4294967296 n) ac], .int .i64 0, r, .int .i64 0] W fun e w' => e = .returned (.bool true) ∧ St ao ac n B w w' ∧ w'.cell? ⟨B, 0, none⟩ = some (.slice ao (nd 4294967296 n) ac) :=
  (told_is _ r n W h.num hr (by have := nd_int hn; omega) (by have := nd_int hn; omega) h.env).mono fun e w' ⟨he, hb⟩ => ⟨he, h.next hb, (h.next hb).cell⟩
theorem BitLen_St {ao : Option Addr} {ac n B : Nat} {w W : World} (hn : n ≤ 9223372036854775807) (h : St ao ac n B w W) :
    Calls Tryd.prog 10 #[.agg #[.slice ao (nd 4294967296 n) ac]] W fun e w' => e = .returned (.int .i64 (nd 2 n)) ∧ St ao ac n B w w' :=
  (BitLen_any _ n W h.num (by have := nd_int hn; omega)).mono fun e w' ⟨he, hb⟩ => ⟨he, h.next hb⟩
theorem RBitLen_St {ao : Option Addr} {ac n B : Nat} {w W : World} {r : Value} (hn : n ≤ 9223372036854775807) (h : St ao ac n B w W) (hr : R W r n) :
    Calls Tryd.prog 11 #[r] W fun e w' => e = .returned (.int .i64 (nd 2 n)) ∧ St ao ac n B w w' :=
  (RBitLen_any _ n W hr (by have := nd_int hn; omega)).mono fun e w' ⟨he, hw⟩ => ⟨he, by rw [← hw]; exact h⟩
theorem awake_St {ao : Option Addr} {ac n B : Nat} {w W : World} (h : St ao ac n B w W) :
    Calls Tryd.prog 7 #[] W fun e w' => e = .returned (.bool true) ∧ St ao ac n B w w' :=
  (awake_any W h.env).mono fun e w' ⟨he, hb⟩ => ⟨he, h.next hb⟩
set_option maxHeartbeats 1000000 in
theorem natNew_pos (n : Nat) (w : World) (hn : n ≤ 9223372036854775807) (he : Env w) :
    Calls Tryd.prog 3 #[.int .i64 n] w fun e w' => e = .returned (.bool true) ∧ Below w.heap.size w w' := by
  have HN := Lib.hid (fun w => New_any n w hn)
  have HE := Lib.hid he
  have HI := Lib.hid (fun v w h => Int_small v n w h hn)
  have h0 : ¬ ((n : Int) < 0) := by omega
  clear he
  go_enter Tryd.func3, Tryd.ntmps3
  go_wp2_with fail
  refine (HN.out _).mono ?_
  rintro e w1 ⟨v, rfl, hv, hb⟩
  obtain ⟨ao, ac, rfl, -⟩ := hv.shape
  have hs0 : St ao ac n w1.heap.size w (w1.alloc (.cells #[.slice ao (nd 4294967296 n) ac] 25)) :=
    ⟨hv.below ((Below.refl _ _).alloc (Nat.le_refl _) _), (HE.out.below hb).below ((Below.refl _ _).alloc (Nat.le_refl _) _), hb.alloc hb.size _, hb.size, by simp, World.cell?_alloc_at _ _ _ _ rfl⟩
  have HS0 := Lib.hid hs0
  clear hv hb hs0
  go_wp2_with fail
  refine (HI.out _ _ HS0.out.num).mono ?_
  rintro e w2 ⟨rfl, hb⟩
  have hs := HS0.out.next hb
  have hc := hs.cell
  have hs2 := hs.drew
  clear hb hs HS0
  go_wp2
  have hc2 := hs2.cell
  go_region_held3 (fun W : World => W.cell? ⟨w1.heap.size, 0, none⟩ = some (.slice ao (nd 4294967296 n) ac) ∧ St ao ac n w1.heap.size w W) (first | (refine And.intro ?_ ?_ <;> assumption)) (first
    | (go_at_call 9; refine (Of_St (ao := ao) (ac := ac) (B := w1.heap.size) (w := w) hn ?h).mono ?_; (case h => assumption); rintro e w' ⟨ro, rl, rc, rfl, hr, hs', hc'⟩)
    | (go_at_call 6; refine (told_St (B := w1.heap.size) (w := w) hn ?h ?r).mono ?_; (case h => assumption); (case r => assumption); rintro e w' ⟨rfl, hs', hc'⟩)
    | (go_at_call 10; refine (BitLen_St (B := w1.heap.size) (w := w) hn ?h).mono ?_; (case h => assumption); rintro e w' ⟨rfl, hs'⟩; have hc' := hs'.cell)
    | (go_at_call 11; refine (RBitLen_St (ao := ao) (ac := ac) (n := n) (B := w1.heap.size) (w := w) hn ?h ?r).mono ?_; (case h => assumption); (case r => assumption); rintro e w' ⟨rfl, hs'⟩; have hc' := hs'.cell)
    | (go_at_call 7; refine (awake_St (ao := ao) (ac := ac) (n := n) (B := w1.heap.size) (w := w) ?h).mono ?_; (case h => assumption); rintro e w' ⟨rfl, hs'⟩; have hc' := hs'.cell))
  all_goals go_wp2
  all_goals go_ret
  all_goals exact ⟨by simp, (by assumption : St _ _ _ _ _ _).bel⟩
end Go.Proofs.YtodacnppbklbgaaDoor
