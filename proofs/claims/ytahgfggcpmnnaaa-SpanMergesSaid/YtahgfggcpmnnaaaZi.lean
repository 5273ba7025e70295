/- The contract of visit: the runs of a range, one after the other, to a loop's body; of within. -/
import Derived.RangeFuncKeeps
import Derived.RangeFuncBound
import Derived.RangeFuncLeaves
import Derived.Shelf.Abstract
import Derived.WalkKit
import Derived.OwnWalkIn
import Derived.TacticsInMore
import Derived.RegionIn
import Derived.Stop.RegionWithIn
import Derived.BigRegionIn
import Derived.Sort.CutIn
import Derived.Shelf.RegionOpen
import Derived.Test.YtahgfggcpmnnaaaYg
import Derived.Test.YtahgfggcpmnnaaaZl
namespace Go.Proofs.Ytahgfggcpmnnaaa
open Go Go.RowKit Go.Shelf Gs

attribute [local go_sem] Oper.semAt_some

/-- a run, cut to a range -/
def clip1 (lo hi : Int) (r : R) : List R := if max lo r.lo < min r.hi hi then [⟨max lo r.lo, min r.hi hi, r.tag⟩] else []
def clip (lo hi : Int) (l : List R) : List R := l.flatMap (clip1 lo hi)
theorem clip_nil (lo hi : Int) : clip lo hi [] = [] := rfl
theorem clip_app (lo hi : Int) (l k : List R) : clip lo hi (l ++ k) = clip lo hi l ++ clip lo hi k := List.flatMap_append ..
theorem clip_cons (lo hi : Int) (r : R) (k : List R) : clip lo hi (r :: k) = clip1 lo hi r ++ clip lo hi k := rfl
theorem clip_none {lo hi : Int} (h : hi ≤ lo) (l : List R) : clip lo hi l = [] := by
  induction l with
  | nil => rfl
  | cons r l ih => rw [clip_cons, ih, List.append_nil]; unfold clip1; rw [if_neg (by omega)]
/-- what is cut off on the right does not matter to the runs on the left -/
theorem clip_left {f : Int → Int} {lo hi m : Int} : ∀ {l : List R} {a b : Int}, Fits f a l b → b ≤ m → clip lo (min m hi) l = clip lo hi l
  | [], _, _, _, _ => rfl
  | r :: l, a, b, h, hm => by
    have h2 := h.2.2.2.le
    rw [clip_cons, clip_cons, clip_left h.2.2.2 hm]
    unfold clip1
    rw [show min r.hi (min m hi) = min r.hi hi by omega]
theorem clip_right {f : Int → Int} {lo hi m : Int} : ∀ {l : List R} {a b : Int}, Fits f a l b → m ≤ a → clip (max lo m) hi l = clip lo hi l
  | [], _, _, _, _ => rfl
  | r :: l, a, b, h, hm => by
    have h1 := h.1; have h3 := h.2.1
    rw [clip_cons, clip_cons, clip_right h.2.2.2 (by omega)]
    unfold clip1
    rw [show max (max lo m) r.lo = max lo r.lo by omega]
theorem clip_node {f : Int → Int} {lo hi a b : Int} {l k : List R} {r : R} (h : Gs.Can f a (l ++ r :: k) b) : clip lo hi (l ++ r :: k) = clip lo (min r.lo hi) l ++ (clip1 lo hi r ++ clip (max lo r.hi) hi k) := by
  obtain ⟨h1, h2, _⟩ := h.mid
  rw [clip_app, clip_cons, clip_left h1.1 (Int.le_refl _), clip_right h2.1 (Int.le_refl _)]
theorem clip_len (lo hi : Int) (l : List R) : (clip lo hi l).length ≤ l.length := by
  induction l with
  | nil => exact Nat.le_refl _
  | cons r l ih =>
    rw [clip_cons, List.length_append, List.length_cons]
    unfold clip1
    split <;> simp <;> omega

theorem grown_drew (W : World) : W.grownBy W.drew none := ⟨rfl, rfl, rfl, Nat.le_refl _, fun _ _ _ => rfl⟩
theorem room_of_none {F : Fence} (hd : F.depth = none) (k : Nat) : F.room k := fun d h => by rw [hd] at h; cases h
theorem RoundIn.deep {F : Fence} (hd : F.depth = none) {m m' : Nat} {P : Program} {l : Nat} {f : FuncId} {tmps : Array Value} {assign body : Code} {w : World} {R : Ending → World → Prop}
    (h : RoundIn F m P l f tmps assign body w R) : RoundIn F m' P l f tmps assign body w R := ⟨h.1, fun c cs _ => h.2 c cs (room_of_none hd _)⟩
theorem YieldAt.deep {F : Fence} (hd : F.depth = none) {m : Nat} (m' : Nat) {P : Program} {l : Nat} {args : Array Value} {W : World} {R : Ending → World → Prop} (h : YieldAt F m P l args W R) : YieldAt F m' P l args W R := by
  obtain ⟨fn, tmps, assign, body, hy, hR⟩ := h
  exact ⟨fn, tmps, assign, body, hy, RoundIn.deep hd hR⟩

/-- the tree's blocks lie below n₀ -/
def IsTB (n₀ : Nat) (W : World) : T → Option Addr → Prop
  | .nil, p => p = none
  | .node l r k, p => ∃ b x y, p = some ⟨b, 0, none⟩ ∧ b < n₀ ∧ W.cell? ⟨b, 0, none⟩ = some (.pointer x) ∧ W.cell? ⟨b, 1, none⟩ = some (.int .i64 r.lo) ∧ W.cell? ⟨b, 2, none⟩ = some (.int .i64 r.hi) ∧ W.cell? ⟨b, 3, none⟩ = some (.int .i64 r.tag) ∧ W.cell? ⟨b, 4, none⟩ = some (.pointer y) ∧ IsTB n₀ W l x ∧ IsTB n₀ W k y
theorem IsTB.below {n₀ : Nat} {A B : World} (h : Below n₀ A B) : ∀ {t : T} {p : Option Addr}, IsTB n₀ A t p → IsTB n₀ B t p
  | .nil, _, ht => ht
  | .node _ _ _, _, ⟨b, x, y, hp, hb, h0, h1, h2, h3, h4, hl, hr⟩ => ⟨b, x, y, hp, hb, (h.cell (p := ⟨b, 0, none⟩) hb).trans h0, (h.cell (p := ⟨b, 1, none⟩) hb).trans h1, (h.cell (p := ⟨b, 2, none⟩) hb).trans h2, (h.cell (p := ⟨b, 3, none⟩) hb).trans h3, (h.cell (p := ⟨b, 4, none⟩) hb).trans h4, IsTB.below h hl, IsTB.below h hr⟩
theorem IsT.tb {W : World} : ∀ {t : T} {p : Option Addr}, IsT W t (.pointer p) → IsTB W.heap.size W t p
  | .nil, _, h => by
    have h1 : Value.pointer _ = .pointer none := h
    injection h1
  | .node l r k, p, h => by
    obtain ⟨lo, hi, tag⟩ := r
    obtain ⟨b, x, y, rfl, hlt, h1, h2, hcs⟩ := h.open
    obtain ⟨c0, c1, c2, c3, c4⟩ := hcs W (Below.refl _ _)
    exact ⟨b, x, y, rfl, hlt, c0, c1, c2, c3, c4, IsT.tb h1, IsT.tb h2⟩
set_option maxRecDepth 100000 in
set_option maxHeartbeats 4000000 in
theorem visitP_in (P : R → Prop) (f : Int → Int) (l n₀ N : Nat) (J Jx : List R → World → Prop)
    (hJ : ∀ s W W', J s W → W.grownBy W' none → J s W') (_hJx : ∀ s W W', Jx s W → W.grownBy W' none → Jx s W')
    (hY : ∀ m pre x W, J pre W → pre.length < N → P x → YieldAt Fence.wide m Try.prog l (encR x) W fun e W' =>
      (e = .returned (.bool true) ∧ J (pre ++ [x]) W' ∧ Below n₀ W W') ∨ (e = .returned (.bool false) ∧ Jx (pre ++ [x]) W')) (t : T) :
    ∀ (n : Nat) (p : Option Addr) (a b lo hi : Int) (pre : List R) (W : World), IsTB n₀ W t p → n₀ ≤ W.heap.size → Gs.Can f a t.L b → J pre W → pre.length + (clip lo hi t.L).length ≤ N → (∀ x ∈ clip lo hi t.L, P x) →
      CallsIn Fence.wide n Try.prog 73 #[.pointer p, .int .i64 lo, .int .i64 hi, .func (.yield l) #[] #[]] W fun e W' =>
        (e = .returned (.bool true) ∧ J (pre ++ clip lo hi t.L) W' ∧ Below n₀ W W') ∨ (e = .returned (.bool false) ∧ ∃ q, q <+: clip lo hi t.L ∧ Jx (pre ++ q) W') := by
  have hearly : ∀ (t : T) (n : Nat) (p : Option Addr) (lo hi : Int) (pre : List R) (W : World), (p = none ∨ hi ≤ lo) → (∃ x, p = x) → J pre W → clip lo hi t.L = [] →
      CallsIn Fence.wide n Try.prog 73 #[.pointer p, .int .i64 lo, .int .i64 hi, .func (.yield l) #[] #[]] W fun e W' =>
        (e = .returned (.bool true) ∧ J (pre ++ clip lo hi t.L) W' ∧ Below n₀ W W') ∨ (e = .returned (.bool false) ∧ ∃ q, q <+: clip lo hi t.L ∧ Jx (pre ++ q) W') := by
    intro t n p lo hi pre W hp _ hj hc
    rw [hc]
    by_cases h0 : p = none
    · subst h0
      refine callsIn_of_wp Try.func73 rfl trivial ?_ rfl
      simp only [Try.ntmps73, List.size_toArray, List.length_cons, List.length_nil, Nat.reduceAdd, Nat.reduceSub, Array.replicate_succ, Array.replicate_zero, List.push_toArray, List.append_toArray, List.nil_append, List.cons_append]
      gi_wp2
      go_ret
      exact .inl ⟨rfl, by simpa using hj, Below.refl _ _⟩
    · have h1 : lo ≥ hi := by rcases hp with h | h; exact absurd h h0; exact h
      obtain ⟨x, rfl⟩ : ∃ x, p = some x := by
        cases p with
        | none => exact absurd rfl h0
        | some x => exact ⟨x, rfl⟩
      refine callsIn_of_wp Try.func73 rfl trivial ?_ rfl
      simp only [Try.ntmps73, List.size_toArray, List.length_cons, List.length_nil, Nat.reduceAdd, Nat.reduceSub, Array.replicate_succ, Array.replicate_zero, List.push_toArray, List.append_toArray, List.nil_append, List.cons_append]
      gi_wp2
      go_ret
      exact .inl ⟨rfl, by simpa using hj, Below.refl _ _⟩
  induction t with
  | nil =>
    intro n p a b lo hi pre W ht _ _ hj _ _
    exact hearly .nil n p lo hi pre W (.inl ht) ⟨_, rfl⟩ hj rfl
  | node tl r tr ihl ihr =>
    intro n p a b lo hi pre W ht hn hc hj hN hP
    by_cases hlh : hi ≤ lo
    · exact hearly _ n p lo hi pre W (.inr hlh) ⟨_, rfl⟩ hj (clip_none hlh _)
    · obtain ⟨rlo, rhi, rtag⟩ := r
      obtain ⟨b0, x, y, rfl, hb, c0, c1, c2, c3, c4, hl, hr⟩ := ht
      simp only at c1 c2 c3
      have hcl := clip_node (lo := lo) (hi := hi) hc
      obtain ⟨m1, m2, m3, _, _, _⟩ := hc.mid
      simp only at m1 m2 m3
      have hLL : (T.node tl ⟨rlo, rhi, rtag⟩ tr).L = tl.L ++ ⟨rlo, rhi, rtag⟩ :: tr.L := rfl
      rw [hLL] at hN hP ⊢
      rw [hcl] at hN hP ⊢
      simp only [List.length_append] at hN
      have hdd : ∀ k : Nat, ((Fence.wide).depth.isSome = true → 1 ≤ k) := fun k h => by cases h
      have hmx : ∀ p q : Int, (if p < q then q else p) = max p q := fun p q => by split <;> omega
      have hmn : ∀ p q : Int, (if p < q then p else q) = min p q := fun p q => by split <;> omega
      have hlh2 : ¬ lo ≥ hi := by omega
      have hWd : Below n₀ W W.drew := (Below.refl _ _).drew
      have hJd : J pre W.drew := hJ _ _ _ hj (grown_drew W)
      have ih1 := (ihl (n - 1) x a rlo lo (min rlo hi) pre W.drew (hl.below hWd) (by show n₀ ≤ W.heap.size; exact hn) m1 hJd (by omega) (fun x hx => hP x (List.mem_append_left _ hx))).mono (R' := fun e W1 =>
        ∃ bb, e = .returned (.bool bb) ∧ Hid ((bb = true ∧ (W1.cell? ⟨b0, 1, none⟩ = some (.int .i64 rlo) ∧ W1.cell? ⟨b0, 2, none⟩ = some (.int .i64 rhi) ∧ W1.cell? ⟨b0, 3, none⟩ = some (.int .i64 rtag) ∧ W1.cell? ⟨b0, 4, none⟩ = some (.pointer y)) ∧ J (pre ++ clip lo (min rlo hi) tl.L) W1 ∧ Below n₀ W W1) ∨
        (bb = false ∧ ∃ q, q <+: clip lo (min rlo hi) tl.L ∧ Jx (pre ++ q) W1)))
        (fun e W1 h => h.elim (fun ⟨he, hj, hb1⟩ => ⟨true, he, .inl ⟨rfl, ⟨((hWd.trans hb1).cell (p := ⟨b0, 1, none⟩) hb).trans c1, ((hWd.trans hb1).cell (p := ⟨b0, 2, none⟩) hb).trans c2, ((hWd.trans hb1).cell (p := ⟨b0, 3, none⟩) hb).trans c3, ((hWd.trans hb1).cell (p := ⟨b0, 4, none⟩) hb).trans c4⟩, hj, hWd.trans hb1⟩⟩) fun h => ⟨false, h.1, .inr ⟨rfl, h.2⟩⟩)
      have HRT : Hid (∀ (q0 : List R) (W3 : World), J (pre ++ q0) W3 → Below n₀ W W3 → pre.length + q0.length + (clip (max lo rhi) hi tr.L).length ≤ N →
          CallsIn Fence.wide (n - 1) Try.prog 73 #[.pointer y, .int .i64 (max lo rhi), .int .i64 hi, .func (.yield l) #[] #[]] W3.drew fun e W4 =>
            ∃ bb, e = .returned (.bool bb) ∧ Hid ((bb = true ∧ J (pre ++ q0 ++ clip (max lo rhi) hi tr.L) W4 ∧ Below n₀ W W4) ∨ (bb = false ∧ ∃ q, q <+: clip (max lo rhi) hi tr.L ∧ Jx (pre ++ q0 ++ q) W4))) := fun q0 W3 hj3 hb3 hlen =>
        (ihr (n - 1) y rhi b (max lo rhi) hi (pre ++ q0) W3.drew (hr.below hb3.drew) (by show n₀ ≤ W3.heap.size; exact Nat.le_trans hn hb3.size) m2 (hJ _ _ _ hj3 (grown_drew W3)) (by rw [List.length_append]; exact hlen) (fun x hx => hP x (List.mem_append_right _ (List.mem_append_right _ hx)))).mono fun e W4 h => h.elim
          (fun ⟨he, hj, hb4⟩ => ⟨true, he, .inl ⟨rfl, hj, hb3.drew.trans hb4⟩⟩) fun ⟨he, h⟩ => ⟨false, he, .inr ⟨rfl, h⟩⟩
      have HN := Lib.hid hN
      have HPP := Lib.hid hP
      have HLH := Lib.hid hlh2
      have HCC := Lib.hid (And.intro m1 (And.intro m2 m3))
      clear ihl ihr hearly hl hr hj hc hJd hWd m1 m2 m3 hcl hLL hN hP
      refine callsIn_of_wp Try.func73 rfl trivial ?_ rfl
      simp only [Try.ntmps73, List.size_toArray, List.length_cons, List.length_nil, Nat.reduceAdd, Nat.reduceSub, Array.replicate_succ, Array.replicate_zero, List.push_toArray, List.append_toArray, List.nil_append, List.cons_append]
      gi_upto_region 3 with fail
      gi_cut [31] from 17 (fun s31 W1 => ∃ bb, s31 = .bool (!bb) ∧ Hid ((bb = true ∧ (W1.cell? ⟨b0, 1, none⟩ = some (.int .i64 rlo) ∧ W1.cell? ⟨b0, 2, none⟩ = some (.int .i64 rhi) ∧ W1.cell? ⟨b0, 3, none⟩ = some (.int .i64 rtag) ∧ W1.cell? ⟨b0, 4, none⟩ = some (.pointer y)) ∧ J (pre ++ clip lo (min rlo hi) tl.L) W1 ∧ Below n₀ W W1) ∨
        (bb = false ∧ ∃ q, q <+: clip lo (min rlo hi) tl.L ∧ Jx (pre ++ q) W1)))
      case first =>
        gi_region_with (first | (refine ⟨trivial, hdd _, ?_⟩; with_reducible refine ih1.mono ?_; clear ih1; rintro e W1 ⟨bb, rfl, H1⟩) | fail)
        all_goals
          go_simp
          gi_wp2_with fail
          gi_meet
          case rel => exact ⟨bb, rfl, H1⟩
      case rest =>
        generalize wc = W1 at *
        obtain ⟨bb, rfl, H1⟩ := hcut
        clear ih1 c0 c1 c2 c3 c4
        rcases H1.out with ⟨rfl, ⟨e1, e2, e3, e4⟩, hJ1, hB1⟩ | ⟨rfl, q, hq, hx1⟩
        · have HJ1 := Lib.hid hJ1
          have HB1 := Lib.hid hB1
          have hl1 : b0 < W1.heap.size := Nat.lt_of_lt_of_le hb (Nat.le_trans hn hB1.size)
          have HZ : ∀ p : Addr, p.block = b0 → (W1.alloc (.cells #[.int .i64 0, .int .i64 0, .int .i64 0] 64)).cell? p = W1.cell? p := fun p h => ((Below.refl W1.heap.size W1).alloc (Nat.le_refl _) _).cell (p := p) (by rw [h]; exact hl1)
          have z1 := (HZ ⟨b0, 1, none⟩ rfl).trans e1
          have z2 := (HZ ⟨b0, 2, none⟩ rfl).trans e2
          have z3 := (HZ ⟨b0, 3, none⟩ rfl).trans e3
          clear hJ1 hB1 H1 HZ
          go_simp
          gi_wp2_with fail
          gi_region
          clear z1 z2 z3
          obtain ⟨W2, HW2⟩ : ∃ W2, W2 = (W1.alloc (.cells #[.int .i64 (max lo rlo), .int .i64 (min rhi hi), .int .i64 rtag] 64)).drew := ⟨_, rfl⟩
          rw [← HW2]
          have b12 : Below W1.heap.size W1 W2 := by rw [HW2]; exact ((Below.refl _ _).alloc (Nat.le_refl _) _).drew
          have p0 : W2.cell? ⟨W1.heap.size, 0, none⟩ = some (.int .i64 (max lo rlo)) := by rw [HW2]; exact World.cell?_alloc_at _ _ _ _ rfl
          have p1 : W2.cell? ⟨W1.heap.size, 1, none⟩ = some (.int .i64 (min rhi hi)) := by rw [HW2]; exact World.cell?_alloc_at _ _ _ _ rfl
          have p2 : W2.cell? ⟨W1.heap.size, 2, none⟩ = some (.int .i64 rtag) := by rw [HW2]; exact World.cell?_alloc_at _ _ _ _ rfl
          have f2 := (b12.cell (p := ⟨b0, 2, none⟩) hl1).trans e2
          have f4 := (b12.cell (p := ⟨b0, 4, none⟩) hl1).trans e4
          have hJ2 : J (pre ++ clip lo (min rlo hi) tl.L) W2 := by rw [HW2]; exact hJ _ _ _ (hJ _ _ _ HJ1.out (World.grownBy_alloc W1 _ none)) (grown_drew _)
          have hB2 : Below n₀ W W2 := HB1.out.trans (b12.mono (Nat.le_trans hn HB1.out.size))
          clear HW2 e1 e2 e3 e4
          by_cases hlt : max lo rlo < min rhi hi
          · have hc1 : clip1 lo hi ⟨rlo, rhi, rtag⟩ = [⟨max lo rlo, min rhi hi, rtag⟩] := if_pos hlt
            have HC1 := Lib.hid hc1
            have hN2 := HN.out
            rw [hc1, List.length_singleton] at hN2
            obtain ⟨fn, tmps, assign, body, hy, hR⟩ := (hY (n - 1) (pre ++ clip lo (min rlo hi) tl.L) ⟨max lo rlo, min rhi hi, rtag⟩ W2 hJ2 (by rw [List.length_append]; omega) (HPP.out _ (by rw [hc1]; exact List.mem_append_right _ (List.mem_append_left _ (List.mem_singleton.2 rfl))))).mono (R' := fun e W3 =>
              (e = .returned (.bool true) ∧ Hid (J (pre ++ clip lo (min rlo hi) tl.L ++ [⟨max lo rlo, min rhi hi, rtag⟩]) W3) ∧ Hid (Below n₀ W W3) ∧ W3.cell? ⟨b0, 2, none⟩ = some (.int .i64 rhi) ∧ W3.cell? ⟨b0, 4, none⟩ = some (.pointer y)) ∨ (e = .returned (.bool false) ∧ Hid (Jx (pre ++ clip lo (min rlo hi) tl.L ++ [⟨max lo rlo, min rhi hi, rtag⟩]) W3)))
              (fun e W3 h => h.elim (fun ⟨he, hj, hb3⟩ => .inl ⟨he, Lib.hid hj, Lib.hid (hB2.trans hb3), (hb3.cell (p := ⟨b0, 2, none⟩) hb).trans f2, (hb3.cell (p := ⟨b0, 4, none⟩) hb).trans f4⟩) fun ⟨he, h⟩ => .inr ⟨he, Lib.hid h⟩)
            unfold encR at hy
            have HN2 : Hid (pre.length + (clip lo (min rlo hi) tl.L ++ [(⟨max lo rlo, min rhi hi, rtag⟩ : R)]).length + (clip (max lo rhi) hi tr.L).length ≤ N) := by
              show _ ≤ _
              rw [List.length_append, List.length_singleton]; omega
            clear hJ2 hB2 hc1 hN2 f2 f4
            gi_wp2_with ((try refine ⟨hdd _, ?_⟩); refine hR.mono ?_; clear hR; rintro e W3 (⟨rfl, hJ3, hB3, f2, f4⟩ | ⟨rfl, hx3⟩))
            · have hcall := HRT.out (clip lo (min rlo hi) tl.L ++ [⟨max lo rlo, min rhi hi, rtag⟩]) W3 (by rw [← List.append_assoc]; exact hJ3.out) hB3.out HN2.out
              gi_region_with (first | (refine ⟨trivial, hdd _, ?_⟩; with_reducible refine hcall.mono ?_; clear hcall; rintro e W4 ⟨b4, rfl, H4⟩) | fail)
              all_goals
                go_simp
                gi_wp2_with fail
                go_ret
                rw [HC1.out]
                rcases H4.out with ⟨rfl, hj4, hb4⟩ | ⟨rfl, q', hq', hx4⟩
                · exact .inl ⟨rfl, by simpa [List.append_assoc] using hj4, hb4⟩
                · exact .inr ⟨rfl, clip lo (min rlo hi) tl.L ++ ([⟨max lo rlo, min rhi hi, rtag⟩] ++ q'), (List.prefix_append_right_inj _).2 ((List.prefix_append_right_inj _).2 hq'), by simpa [List.append_assoc] using hx4⟩
            · go_ret
              rw [HC1.out]
              exact .inr ⟨rfl, clip lo (min rlo hi) tl.L ++ [⟨max lo rlo, min rhi hi, rtag⟩], (List.prefix_append_right_inj _).2 (List.prefix_append _ _), by simpa [List.append_assoc] using hx3.out⟩
          · have hc1 : clip1 lo hi ⟨rlo, rhi, rtag⟩ = [] := if_neg hlt
            have HC1 := Lib.hid hc1
            have hcall := HRT.out (clip lo (min rlo hi) tl.L) W2 hJ2 hB2 (by have := HN.out; rw [hc1] at this; simp only [List.length_nil] at this; omega)
            clear hJ2 hB2 hc1
            gi_wp2_with fail
            refine ⟨fun _ h => (by cases h), ?_⟩
            gi_wp2_with fail
            gi_region_with (first | (refine ⟨trivial, hdd _, ?_⟩; with_reducible refine hcall.mono ?_; clear hcall; rintro e W4 ⟨b4, rfl, H4⟩) | fail)
            all_goals
              go_simp
              gi_wp2_with fail
              go_ret
              rw [HC1.out]
              rcases H4.out with ⟨rfl, hj4, hb4⟩ | ⟨rfl, q', hq', hx4⟩
              · exact .inl ⟨rfl, by simpa [List.append_assoc] using hj4, hb4⟩
              · exact .inr ⟨rfl, clip lo (min rlo hi) tl.L ++ q', (List.prefix_append_right_inj _).2 hq', by simpa [List.append_assoc] using hx4⟩
        · have HX1 := Lib.hid hx1
          have HQ := Lib.hid hq
          clear hq hx1 H1
          go_simp
          gi_wp2_with fail
          go_ret
          exact .inr ⟨rfl, q, HQ.out.trans (List.prefix_append _ _), HX1.out⟩
theorem visit_in (f : Int → Int) (l n₀ N : Nat) (J Jx : List R → World → Prop)
    (hJ : ∀ s W W', J s W → W.grownBy W' none → J s W') (hJx : ∀ s W W', Jx s W → W.grownBy W' none → Jx s W')
    (hY : ∀ m pre x W, J pre W → pre.length < N → YieldAt Fence.wide m Try.prog l (encR x) W fun e W' =>
      (e = .returned (.bool true) ∧ J (pre ++ [x]) W' ∧ Below n₀ W W') ∨ (e = .returned (.bool false) ∧ Jx (pre ++ [x]) W')) (t : T)
    (n : Nat) (p : Option Addr) (a b lo hi : Int) (pre : List R) (W : World) (h1 : IsTB n₀ W t p) (h2 : n₀ ≤ W.heap.size) (h3 : Gs.Can f a t.L b) (h4 : J pre W) (h5 : pre.length + (clip lo hi t.L).length ≤ N) :
      CallsIn Fence.wide n Try.prog 73 #[.pointer p, .int .i64 lo, .int .i64 hi, .func (.yield l) #[] #[]] W fun e W' =>
        (e = .returned (.bool true) ∧ J (pre ++ clip lo hi t.L) W' ∧ Below n₀ W W') ∨ (e = .returned (.bool false) ∧ ∃ q, q <+: clip lo hi t.L ∧ Jx (pre ++ q) W') :=
  visitP_in (fun _ => True) f l n₀ N J Jx hJ hJx (fun m pre x W hj hl _ => hY m pre x W hj hl) t n p a b lo hi pre W h1 h2 h3 h4 h5 (fun _ _ => trivial)
end Go.Proofs.Ytahgfggcpmnnaaa
