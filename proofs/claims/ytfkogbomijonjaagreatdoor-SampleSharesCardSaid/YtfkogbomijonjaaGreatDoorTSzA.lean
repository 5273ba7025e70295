/- Contracts and lemmas (several texts merged into one). -/
import Derived.Test.YtfkogbomijonjaaGreatDoorTSz8
import Derived.BigRegion
import Derived.Deep.LoopGhost
import Derived.Laws.OwnMore
namespace Go.Proofs.YtfkogbomijonjaaGreatDoor
open Go Go.RowKit Gu

/-- the first n values of a function -/
def fnL (f : Nat → Nat) (n : Nat) : List Nat := (List.range n).map f
theorem fnL_len (f : Nat → Nat) (n : Nat) : (fnL f n).length = n := by simp [fnL]
theorem fnL_at (f : Nat → Nat) {n j : Nat} (h : j < n) : (fnL f n)[j]? = some (f j) := by
  unfold fnL; rw [List.getElem?_map, List.getElem?_range h]; rfl
def upd1 (f : Nat → Nat) (i v : Nat) : Nat → Nat := fun x => if x = i then v else f x
theorem fnL_set (f : Nat → Nat) (n i v : Nat) : (fnL f n).set i v = fnL (upd1 f i v) n := by
  apply List.ext_getElem?
  intro j
  by_cases hj : j < n
  · rw [fnL_at _ hj, List.getElem?_set]
    by_cases e : i = j
    · subst e
      rw [if_pos rfl, if_pos (by rw [fnL_len]; exact hj)]
      unfold upd1; rw [if_pos rfl]
    · rw [if_neg e, fnL_at _ hj]
      unfold upd1; rw [if_neg (fun h => e h.symm)]
  · rw [List.getElem?_eq_none (by rw [List.length_set, fnL_len]; omega), List.getElem?_eq_none (by rw [fnL_len]; omega)]
theorem fnL_congr {f h : Nat → Nat} {n : Nat} (e : ∀ x, x < n → f x = h x) : fnL f n = fnL h n := by
  unfold fnL
  exact List.map_congr_left fun x hx => e x (List.mem_range.1 hx)
theorem encN_put (l : List Nat) (j x : Nat) : (encN l).set j (.int .i64 (x : Int)) = encN (l.set j x) := by
  unfold encN; rw [List.map_set]
/-- what is said of the rest of the memory outlives draws, and stores into the row -/
structure SQ (Q : World → Prop) (g : Nat) : Prop where
  dr : ∀ W n, Q W → Q (W.drewN n)
  st : ∀ W j u, Q W → Q (W.setCell ⟨g, j, none⟩ u)
/-- the row holds the first n values of f -/
def RowF (Q : World → Prop) (B g n cap : Nat) (f : Nat → Nat) (W : World) : Prop := Q W ∧ W.ownsRow B 3 1 (.slice (some ⟨g, 0, none⟩) n cap) n (encN (fnL f n))
section
variable {Q : World → Prop} {B g n cap : Nat} {f : Nat → Nat} {W : World}
theorem RowF.c (h : RowF Q B g n cap f W) {j : Nat} (hj : j < n) : W.cell? ⟨g, j, none⟩ = some (.int .i64 (f j : Int)) := by
  rw [h.2.cellAt j (by omega)]
  unfold encN
  rw [List.getElem?_map, fnL_at f hj]; rfl
theorem RowF.fz (h : RowF Q B g n cap f W) (j : Nat) : W.frozen? ⟨g, j, none⟩ = false := h.2.frozenAt j
theorem RowF.dr (hQ : SQ Q g) (h : RowF Q B g n cap f W) (k : Nat) : RowF Q B g n cap f (W.drewN k) := ⟨hQ.dr W k h.1, h.2⟩
theorem RowF.st (hQ : SQ Q g) (h : RowF Q B g n cap f W) (j v : Nat) : RowF Q B g n cap (upd1 f j v) (W.setCell ⟨g, j, none⟩ (.int .i64 (v : Int))) :=
  ⟨hQ.st W j _ h.1, by rw [← fnL_set, ← encN_put]; exact (h.2.stored j _).1⟩
theorem RowF.congr (h : RowF Q B g n cap f W) {f' : Nat → Nat} (e : ∀ x, x < n → f x = f' x) : RowF Q B g n cap f' W := ⟨h.1, by rw [← fnL_congr e]; exact h.2⟩
end
/-- two ranges of k places exchanged -/
def swapF (f : Nat → Nat) (a b k : Nat) : Nat → Nat := fun x => if a ≤ x ∧ x < a + k then f (x - a + b) else if b ≤ x ∧ x < b + k then f (x - b + a) else f x
theorem swapF_zero (f : Nat → Nat) (a b : Nat) (x : Nat) : swapF f a b 0 x = f x := by
  unfold swapF
  rw [if_neg (by omega), if_neg (by omega)]
theorem swapF_step {f : Nat → Nat} {a b i : Nat} (h : a + i < b ∨ b + i < a) (x : Nat) : upd1 (upd1 (swapF f a b i) (a + i) (swapF f a b i (b + i))) (b + i) (swapF f a b i (a + i)) x = swapF f a b (i + 1) x := by
  unfold upd1 swapF
  repeat' split
  all_goals first | omega | exact congrArg f (by omega)
theorem swapF_step2 {f : Nat → Nat} {a b i : Nat} (h : a + i < b ∨ b + i < a) (x : Nat) : upd1 (upd1 (swapF f a b i) (b + i) (swapF f a b i (a + i))) (a + i) (swapF f a b i (b + i)) x = swapF f a b (i + 1) x := by
  unfold upd1 swapF
  repeat' split
  all_goals first | omega | exact congrArg f (by omega)
set_option maxHeartbeats 1000000 in
theorem swapRange_any {Q : World → Prop} {B g n cap a b k : Nat} {f : Nat → Nat} {W : World} {cl : Value} (hQ : SQ Q g) (hab : a + k ≤ b ∨ b + k ≤ a) (h1 : a + k ≤ n) (h2 : b + k ≤ n) (hn : n ≤ 1000000) (h : RowF Q B g n cap f W) :
    Calls Tryz.prog 92 #[.slice (some ⟨g, 0, none⟩) n cap, .int .i64 a, .int .i64 b, .int .i64 k, cl] W fun e w' => e = .returned (.tuple #[]) ∧ Hid (RowF Q B g n cap (swapF f a b k) w') := by
  have HQ := Lib.hid hQ
  have H0 : Hid (RowF Q B g n cap (swapF f a b 0) W) := h.congr fun x _ => (swapF_zero f a b x).symm
  clear hQ h
  go_enter Tryz.func92, Tryz.ntmps92
  go_wp2_with fail
  go_loopw [10] (fun t wr => ∃ i : Nat, i ≤ k ∧ t = .int .i64 i ∧ Hid (RowF Q B g n cap (swapF f a b i) wr)) (fun t _ => k - (intOf t).toNat)
  case atStart => exact ⟨0, Nat.zero_le _, rfl, H0⟩
  case round =>
    obtain ⟨i, hi, rfl, HR⟩ := hrel
    by_cases q : i < k
    · have q1 : (i : Int) < k := by omega
      have hw : IntKind.i64.wrap ((i : Int) + 1) = ((i + 1 : Nat) : Int) := by rw [IntWalk.i64_in _ (by omega)]; omega
      have HS : Hid (∀ x, upd1 (upd1 (swapF f a b i) (a + i) (swapF f a b i (b + i))) (b + i) (swapF f a b i (a + i)) x = swapF f a b (i + 1) x) := swapF_step (by omega)
      obtain ⟨p, hp⟩ : ∃ p, p = a + i := ⟨_, rfl⟩
      obtain ⟨r, hr⟩ : ∃ r, r = b + i := ⟨_, rfl⟩
      have hwp : IntKind.i64.wrap ((a : Int) + (i : Int)) = (p : Int) := by rw [IntWalk.i64_in _ (by omega)]; omega
      have hwr : IntKind.i64.wrap ((b : Int) + (i : Int)) = (r : Int) := by rw [IntWalk.i64_in _ (by omega)]; omega
      rw [← hp, ← hr] at HS
      have hpn : (p : Int) < n := by omega
      have hrn : (r : Int) < n := by omega
      have hpr : p ≠ r := by omega
      obtain ⟨x, hx⟩ : ∃ x, x = swapF f a b i p := ⟨_, rfl⟩
      obtain ⟨y, hy⟩ : ∃ y, y = swapF f a b i r := ⟨_, rfl⟩
      have c0 : wr.drew.cell? ⟨g, p, none⟩ = some (.int .i64 (x : Int)) := by rw [hx]; exact HR.out.c (by omega)
      have c1 : wr.drew.cell? ⟨g, r, none⟩ = some (.int .i64 (y : Int)) := by rw [hy]; exact HR.out.c (by omega)
      have f0 : wr.drew.frozen? ⟨g, p, none⟩ = false := HR.out.fz _
      have f1 : wr.drew.frozen? ⟨g, r, none⟩ = false := HR.out.fz _
      have c2 : wr.cell? ⟨g, p, none⟩ = some (.int .i64 (x : Int)) := c0
      have c3 : wr.cell? ⟨g, r, none⟩ = some (.int .i64 (y : Int)) := c1
      have f2 : wr.frozen? ⟨g, p, none⟩ = false := f0
      have f3 : wr.frozen? ⟨g, r, none⟩ = false := f1
      rw [← hx, ← hy] at HS
      clear hp hr hx hy h1 h2 hab
      go_upto_region 3 with fail
      go_region
      all_goals go_wp2_with fail
      go_roundw
      case rel => exact ⟨i + 1, by omega, by go_num, (((HR.out.st HQ.out p y).st HQ.out r x).dr HQ.out 1).congr fun z _ => HS.out z⟩
      case measure => simp [intOf]; omega
    · obtain rfl : i = k := by omega
      have q1 : ¬ (i : Int) < i := by omega
      go_wp2_with fail
      go_end0
      exact ⟨rfl, HR⟩
/-- a range rotated -/
def rotF (f : Nat → Nat) (a m b : Nat) : Nat → Nat := fun x => if a ≤ x ∧ x + m < a + b then f (x + m - a) else if a ≤ x ∧ x < b then f (x + m - b) else f x
theorem rot_left {f : Nat → Nat} {m i j : Nat} (hj : 0 < j) (hij : j < i) (him : i ≤ m) (x : Nat) : rotF (swapF f (m - i) m j) (m - (i - j)) m (m + j) x = rotF f (m - i) m (m + j) x := by
  unfold rotF swapF
  repeat' split
  all_goals first | omega | exact congrArg f (by omega)
theorem rot_right {f : Nat → Nat} {m i j : Nat} (hi : 0 < i) (hij : i < j) (him : i ≤ m) (x : Nat) : rotF (swapF f (m - i) (m + j - i) i) (m - i) m (m + (j - i)) x = rotF f (m - i) m (m + j) x := by
  unfold rotF swapF
  repeat' split
  all_goals first | omega | exact congrArg f (by omega)
theorem rot_end {f : Nat → Nat} {m i : Nat} (him : i ≤ m) (x : Nat) : swapF f (m - i) m i x = rotF f (m - i) m (m + i) x := by
  unfold rotF swapF
  repeat' split
  all_goals first | omega | exact congrArg f (by omega)
set_option maxHeartbeats 1000000 in
theorem rotate_any {Q : World → Prop} {B g n cap a m b : Nat} {f : Nat → Nat} {W : World} {cl : Value} (hQ : SQ Q g) (ham : a < m) (hmb : m < b) (hb : b ≤ n) (hn : n ≤ 1000000) (h : RowF Q B g n cap f W) :
    Calls Tryz.prog 78 #[.slice (some ⟨g, 0, none⟩) n cap, .int .i64 a, .int .i64 m, .int .i64 b, cl] W fun e w' => e = .returned (.tuple #[]) ∧ Hid (RowF Q B g n cap (rotF f a m b) w') := by
  have HSW : Hid (∀ (h : Nat → Nat) W' (a b k : Nat), (a + k ≤ b ∨ b + k ≤ a) → a + k ≤ n → b + k ≤ n → RowF Q B g n cap h W' → Calls Tryz.prog 92 #[.slice (some ⟨g, 0, none⟩) n cap, .int .i64 a, .int .i64 b, .int .i64 k, cl] W' fun e w' => e = .returned (.tuple #[]) ∧ Hid (RowF Q B g n cap (swapF h a b k) w')) :=
    fun h W' a b k h1 h2 h3 h4 => swapRange_any hQ h1 h2 h3 hn h4
  have H0 := Lib.hid h
  obtain ⟨i0, hi0⟩ : ∃ i, i = m - a := ⟨_, rfl⟩
  obtain ⟨j0, hj0⟩ : ∃ j, j = b - m := ⟨_, rfl⟩
  have hw1 : IntKind.i64.wrap ((m : Int) - a) = (i0 : Int) := by rw [IntWalk.i64_in _ (by omega)]; omega
  have hw2 : IntKind.i64.wrap ((b : Int) - m) = (j0 : Int) := by rw [IntWalk.i64_in _ (by omega)]; omega
  have HE : Hid (∀ x, rotF f (m - i0) m (m + j0) x = rotF f a m b x) := fun x => by rw [show m - i0 = a by omega, show m + j0 = b by omega]
  have p1 : 0 < i0 := by omega
  have p2 : 0 < j0 := by omega
  have p3 : i0 ≤ m := by omega
  have p4 : m + j0 ≤ n := by omega
  clear hQ h hi0 hj0 ham hmb hb
  go_enter Tryz.func78, Tryz.ntmps78
  go_wp2_with fail
  go_loopw [10, 11] (fun s t wr => ∃ (i j : Nat) (h : Nat → Nat), 0 < i ∧ 0 < j ∧ i ≤ m ∧ m + j ≤ n ∧ s = .int .i64 i ∧ t = .int .i64 j ∧ Hid (RowF Q B g n cap h wr) ∧ Hid (∀ x, rotF h (m - i) m (m + j) x = rotF f a m b x)) (fun s t _ => (intOf s).toNat + (intOf t).toNat)
  case atStart => exact ⟨i0, j0, f, p1, p2, p3, p4, rfl, rfl, H0, HE⟩
  case round =>
    obtain ⟨i, j, h, hi, hj, him, hjn, rfl, rfl, HR, HX⟩ := hrel
    have hwm : IntKind.i64.wrap ((m : Int) - i) = ((m - i : Nat) : Int) := by rw [IntWalk.i64_in _ (by omega)]; omega
    by_cases q : i = j
    · subst q
      have dq : ((i : Int) != (i : Int)) = false := by simp
      have HS := Lib.hid (HSW.out h wr (m - i) m i (by omega) (by omega) (by omega) HR.out)
      obtain ⟨s, hs⟩ : ∃ s, s = m - i := ⟨_, rfl⟩
      rw [← hs] at HS hwm
      have HZ := Lib.hid hs
      clear hs
      go_wp2_with fail
      refine HS.out.mono ?_
      rintro e w5 ⟨rfl, H5⟩
      go_wp2_with fail
      go_end0
      exact ⟨rfl, H5.out.congr fun x _ => by rw [HZ.out, rot_end him, HX.out]⟩
    · have dq : ((i : Int) != (j : Int)) = true := by simpa using fun e : (i : Int) = j => q (by omega)
      by_cases q2 : j < i
      · have q3 : (i : Int) > (j : Int) := by omega
        have HS := Lib.hid (HSW.out h wr (m - i) m j (by omega) (by omega) (by omega) HR.out)
        have hwi : IntKind.i64.wrap ((i : Int) - j) = ((i - j : Nat) : Int) := by rw [IntWalk.i64_in _ (by omega)]; omega
        have HX2 : Hid (∀ x, rotF (swapF h (m - i) m j) (m - (i - j)) m (m + j) x = rotF f a m b x) := fun x => by rw [rot_left hj q2 him, HX.out]
        obtain ⟨s, hs⟩ : ∃ s, s = m - i := ⟨_, rfl⟩
        obtain ⟨i', hi'⟩ : ∃ s, s = i - j := ⟨_, rfl⟩
        rw [← hs] at HS hwm HX2
        rw [← hi'] at hwi HX2
        have hi0' : 0 < i' := by omega
        have him' : i' ≤ m := by omega
        have hii : i' < i := by omega
        clear hs hi'
        go_wp2_with fail
        refine HS.out.mono ?_
        rintro e w5 ⟨rfl, H5⟩
        go_wp2_with fail
        go_roundw
        case rel => exact ⟨i', j, _, hi0', hj, him', hjn, rfl, rfl, H5, HX2⟩
        case measure => simp [intOf]; omega
      · have q3 : ¬ (i : Int) > (j : Int) := by omega
        have q4 : i < j := by omega
        have HS := Lib.hid (HSW.out h wr (m - i) (m + j - i) i (by omega) (by omega) (by omega) HR.out)
        have hwj : IntKind.i64.wrap ((j : Int) - i) = ((j - i : Nat) : Int) := by rw [IntWalk.i64_in _ (by omega)]; omega
        have hwa : IntKind.i64.wrap ((m : Int) + j) = ((m + j : Nat) : Int) := by rw [IntWalk.i64_in _ (by omega)]; omega
        have hwb : IntKind.i64.wrap (((m + j : Nat) : Int) - i) = ((m + j - i : Nat) : Int) := by rw [IntWalk.i64_in _ (by omega)]; omega
        have HX2 : Hid (∀ x, rotF (swapF h (m - i) (m + j - i) i) (m - i) m (m + (j - i)) x = rotF f a m b x) := fun x => by rw [rot_right hi q4 him, HX.out]
        obtain ⟨s, hs⟩ : ∃ s, s = m - i := ⟨_, rfl⟩
        obtain ⟨u, hu⟩ : ∃ s, s = m + j := ⟨_, rfl⟩
        obtain ⟨v, hv⟩ : ∃ s, s = m + j - i := ⟨_, rfl⟩
        obtain ⟨j', hj'⟩ : ∃ s, s = j - i := ⟨_, rfl⟩
        rw [← hs, ← hv] at HS HX2
        rw [← hs] at hwm
        rw [← hv, ← hu] at hwb
        rw [← hu] at hwa
        rw [← hj'] at hwj HX2
        have hj0' : 0 < j' := by omega
        have hjn' : m + j' ≤ n := by omega
        have hjj : j' < j := by omega
        have HZ := Lib.hid hs
        clear hs hu hv hj'
        go_wp2_with fail
        refine HS.out.mono ?_
        rintro e w5 ⟨rfl, H5⟩
        go_wp2_with fail
        go_roundw
        case rel => exact ⟨i, j', _, hi, hj0', him, hjn', rfl, rfl, H5, by rw [← HZ.out]; exact HX2⟩
        case measure => simp [intOf]; omega
end Go.Proofs.YtfkogbomijonjaaGreatDoor
namespace Go.Proofs.YtfkogbomijonjaaGreatDoor
open Go Go.RowKit Gu

/-- a rearrangement of the places from a to b -/
def PermF (a b : Nat) (f f' : Nat → Nat) : Prop := ∃ s t : Nat → Nat, (∀ x, s (t x) = x) ∧ (∀ x, t (s x) = x) ∧ (∀ x, ¬ (a ≤ x ∧ x < b) → s x = x) ∧ ∀ x, f' x = f (s x)
theorem PermF.refl (a b : Nat) (f : Nat → Nat) : PermF a b f f := ⟨id, id, fun _ => rfl, fun _ => rfl, fun _ _ => rfl, fun _ => rfl⟩
theorem PermF.trans {a b : Nat} {f h k : Nat → Nat} (p : PermF a b f h) (q : PermF a b h k) : PermF a b f k := by
  obtain ⟨s, t, h1, h2, h3, h4⟩ := p
  obtain ⟨u, v, g1, g2, g3, g4⟩ := q
  refine ⟨fun x => s (u x), fun x => v (t x), fun x => by show s (u (v (t x))) = x; rw [g1, h1], fun x => by show v (t (s (u x))) = x; rw [h2, g2], fun x hx => by show s (u x) = x; rw [g3 x hx, h3 x hx], fun x => by rw [g4, h4]⟩
theorem PermF.wide {a b a' b' : Nat} {f h : Nat → Nat} (p : PermF a b f h) (ha : a' ≤ a) (hb : b ≤ b') : PermF a' b' f h := by
  obtain ⟨s, t, h1, h2, h3, h4⟩ := p
  exact ⟨s, t, h1, h2, fun x hx => h3 x (fun hy => hx ⟨by omega, by omega⟩), h4⟩
theorem PermF.congr {a b : Nat} {f h k : Nat → Nat} (p : PermF a b f h) (e : ∀ x, h x = k x) : PermF a b f k := by
  obtain ⟨s, t, h1, h2, h3, h4⟩ := p
  exact ⟨s, t, h1, h2, h3, fun x => by rw [← e, h4]⟩
/-- where a value came from -/
theorem PermF.src {a b : Nat} {f h : Nat → Nat} (p : PermF a b f h) : ∃ s : Nat → Nat, (∀ x, h x = f (s x)) ∧ (∀ x, a ≤ x → x < b → a ≤ s x ∧ s x < b) ∧ ∀ x, ¬ (a ≤ x ∧ x < b) → s x = x := by
  obtain ⟨s, t, h1, h2, h3, h4⟩ := p
  refine ⟨s, h4, fun x hx hy => ?_, h3⟩
  by_cases e : a ≤ s x ∧ s x < b
  · exact e
  · have : s x = x := by
      have e1 := h3 _ e
      have := congrArg t e1
      rwa [h2, h2] at this
    rw [this] at e; exact absurd ⟨hx, hy⟩ e
theorem PermF.out {a b : Nat} {f h : Nat → Nat} (p : PermF a b f h) {x : Nat} (hx : ¬ (a ≤ x ∧ x < b)) : h x = f x := by
  obtain ⟨s, t, h1, h2, h3, h4⟩ := p
  rw [h4, h3 x hx]
/-- an order of the numbers -/
structure OrdR (R : Nat → Nat → Prop) : Prop where
  tr : ∀ x y z, R x y → R y z → R x z
  ne : ∀ x, ¬ R x x
  tot : ∀ x y, x ≠ y → R x y ∨ R y x
def SortedF (R : Nat → Nat → Prop) (a b : Nat) (f : Nat → Nat) : Prop := ∀ x y, a ≤ x → x < y → y < b → R (f x) (f y)
/-- the value at the place i, inserted at the place j -/
def insF (f : Nat → Nat) (i j : Nat) : Nat → Nat := fun x => if x < j then f x else if x = j then f i else if x ≤ i then f (x - 1) else f x
theorem insF_self (f : Nat → Nat) (i x : Nat) : insF f i i x = f x := by
  unfold insF
  repeat' split
  all_goals first | rfl | omega | exact congrArg f (by omega)
theorem insF_step {f : Nat → Nat} {i j : Nat} (h : j + 1 ≤ i) (x : Nat) : upd1 (upd1 (insF f i (j + 1)) (j + 1) (insF f i (j + 1) j)) j (insF f i (j + 1) (j + 1)) x = insF f i j x := by
  unfold upd1 insF
  repeat' split
  all_goals first | rfl | omega | exact congrArg f (by omega)
theorem insF_perm {f : Nat → Nat} {a b i j : Nat} (ha : a ≤ j) (hj : j ≤ i) (hb : i < b) : PermF a b f (insF f i j) := by
  refine ⟨fun x => if x < j then x else if x = j then i else if x ≤ i then x - 1 else x, fun y => if y < j then y else if y < i then y + 1 else if y = i then j else y, fun x => ?_, fun x => ?_, fun x hx => ?_, fun x => ?_⟩
  · dsimp only
    repeat' split
    all_goals omega
  · dsimp only
    repeat' split
    all_goals omega
  · dsimp only
    repeat' split
    all_goals omega
  · dsimp only
    unfold insF
    repeat' split
    all_goals first | rfl | omega
theorem insF_sorted {R : Nat → Nat → Prop} (hR : OrdR R) {f : Nat → Nat} {a i j : Nat} (ha : a ≤ j) (hj : j ≤ i) (hs : SortedF R a i f) (h1 : ∀ y, j ≤ y → y < i → R (f i) (f y)) (h2 : j = a ∨ R (f (j - 1)) (f i)) : SortedF R a (i + 1) (insF f i j) := by
  have h3 : ∀ y, a ≤ y → y < j → R (f y) (f i) := fun y hy hyj => by
    rcases h2 with e | e
    · omega
    · rcases Nat.lt_or_ge y (j - 1) with q | q
      · exact hR.tr _ _ _ (hs y (j - 1) hy q (by omega)) e
      · rwa [show y = j - 1 by omega]
  intro x y hx hxy hy
  unfold insF
  repeat' split
  all_goals first
    | omega
    | exact hs _ _ hx hxy (by omega)
    | exact h3 _ hx (by omega)
    | exact h1 _ (by omega) (by omega)
    | exact hs _ _ (by omega) (by omega) (by omega)
/-- the closure that compares -/
def CmpQ (Q : World → Prop) (N C : Nat) (cf : Nat → Nat → Int) : Prop := ∀ x y W', x < N → y < N → Q W' → Calls Tryz.prog 25 #[.int .i64 x, .int .i64 y, .pointer (some ⟨C, 0, none⟩)] W' fun e w' => e = .returned (.int .i64 (cf x y)) ∧ ∃ q, w' = W'.drewN q
set_option maxHeartbeats 1000000 in
theorem insertion_any {Q : World → Prop} {R : Nat → Nat → Prop} {cf : Nat → Nat → Int} {B g n cap a b C : Nat} {f : Nat → Nat} {W : World} (hQ : SQ Q g) (hR : OrdR R) (hC : CmpQ Q n C cf) (hcf : ∀ x y, y < x → x < n → (cf x y < 0 ↔ R x y))
    (hb : b ≤ n) (hn : n ≤ 1000000) (hab : a ≤ n) (hf : ∀ x, x < n → f x < n) (hasc : ∀ x y, a ≤ x → x < y → y < b → f x < f y) (h : RowF Q B g n cap f W) :
    Calls Tryz.prog 63 #[.slice (some ⟨g, 0, none⟩) n cap, .int .i64 a, .int .i64 b, .func (.func 25) #[] #[.pointer (some ⟨C, 0, none⟩)]] W fun e w' => e = .returned (.tuple #[]) ∧ Hid (∃ f', PermF a b f f' ∧ SortedF R a b f' ∧ RowF Q B g n cap f' w') := by
  have HQ := Lib.hid hQ; have HR0 := Lib.hid hR; have HC := Lib.hid hC; have HCF := Lib.hid hcf; have HF := Lib.hid hf; have HA := Lib.hid hasc; have H0 := Lib.hid h
  clear hQ hR hC hcf hf hasc h
  have hw0 : IntKind.i64.wrap ((a : Int) + 1) = ((a + 1 : Nat) : Int) := by rw [IntWalk.i64_in _ (by omega)]; omega
  go_enter Tryz.func63, Tryz.ntmps63
  go_wp2_with fail
  go_loopw [8] (fun t wr => ∃ (i : Nat) (h : Nat → Nat), a + 1 ≤ i ∧ (i ≤ b ∨ i = a + 1) ∧ t = .int .i64 i ∧ Hid (PermF a i f h) ∧ Hid (SortedF R a i h) ∧ Hid (RowF Q B g n cap h wr)) (fun t _ => b + 1 - (intOf t).toNat)
  case atStart => exact ⟨a + 1, f, Nat.le_refl _, .inr rfl, by go_num, PermF.refl _ _ _, fun x y h1 h2 h3 => by omega, H0⟩
  case round =>
    obtain ⟨i, h, hai, hib, rfl, HP, HS, HR⟩ := hrel
    by_cases q : i < b
    · have q1 : (i : Int) < b := by omega
      have hw : IntKind.i64.wrap ((i : Int) + 1) = ((i + 1 : Nat) : Int) := by rw [IntWalk.i64_in _ (by omega)]; omega
      have HLE : Hid (∀ x, a ≤ x → x < i → h x < h i) := fun x hx hxi => by
        obtain ⟨s, e1, e2, e3⟩ := HP.out.src
        obtain ⟨s1, s2⟩ := e2 x hx hxi
        rw [e1, e1 i, e3 i (by omega)]
        exact HA.out _ _ s1 s2 q
      have HFI : Hid (∀ x, x < n → h x < n) := fun x hx => by
        obtain ⟨s, e1, e2, e3⟩ := HP.out.src
        rw [e1]
        by_cases c : a ≤ x ∧ x < i
        · exact HF.out _ (by have := (e2 x c.1 c.2).2; omega)
        · rw [e3 x c]; exact HF.out _ hx
      have H00 : Hid (RowF Q B g n cap (insF h i i) wr) := HR.out.congr fun x _ => (insF_self h i x).symm
      go_wp2_with fail
      go_loopw [9] (fun t wr => ∃ j : Nat, a ≤ j ∧ j ≤ i ∧ t = .int .i64 j ∧ Hid (∀ y, j ≤ y → y < i → R (h i) (h y)) ∧ Hid (RowF Q B g n cap (insF h i j) wr)) (fun t _ => (intOf t).toNat)
      case atStart => exact ⟨i, by omega, Nat.le_refl _, rfl, fun y h1 h2 => by omega, H00⟩
      case round =>
        obtain ⟨j, haj, hji, rfl, HY, HJ⟩ := hrel
        by_cases qj : a < j
        · obtain ⟨p, hr⟩ : ∃ p, j = p + 1 := ⟨j - 1, by omega⟩
          have hwp : IntKind.i64.wrap ((j : Int) - 1) = (p : Int) := by rw [IntWalk.i64_in _ (by omega)]; omega
          have qr : decide ((j : Int) > (a : Int)) = true := decide_eq_true (by omega)
          have qr3 : decide ((a : Int) < (j : Int)) = true := decide_eq_true (by omega)
          have qr2 : (a : Int) < (j : Int) := by omega
          have HST : Hid (∀ x, upd1 (upd1 (insF h i (p + 1)) (p + 1) (insF h i (p + 1) p)) p (insF h i (p + 1) (p + 1)) x = insF h i p x) := insF_step (by omega)
          obtain ⟨u, hu⟩ : ∃ u, u = h p := ⟨_, rfl⟩
          obtain ⟨v, hv⟩ : ∃ v, v = h i := ⟨_, rfl⟩
          have eu : insF h i (p + 1) p = u := by unfold insF; rw [if_pos (by omega), hu]
          have ev : insF h i (p + 1) (p + 1) = v := by unfold insF; rw [if_neg (by omega), if_pos rfl, hv]
          have huv : u < v := by rw [hu, hv]; exact HLE.out p (by omega) (by omega)
          have hvn : v < n := by rw [hv]; exact HFI.out i (by omega)
          have hcf := HCF.out v u huv hvn
          rw [eu, ev] at HST
          rw [← hr] at HST eu ev
          have hrn : (j : Int) < n := by omega
          have hpn : (p : Int) < n := by omega
          have HCG : Hid (∀ k, Calls Tryz.prog 25 #[.int .i64 v, .int .i64 u, .pointer (some ⟨C, 0, none⟩)] (wr.drewN k) fun e w' => e = .returned (.int .i64 (cf v u)) ∧ ∃ q, w' = wr.drewN q) := fun k => (HC.out v u _ hvn (by omega) (HQ.out.dr _ _ HJ.out.1)).mono fun e w' ⟨h1, q, h2⟩ => ⟨h1, k + q, by rw [h2, World.drewN_drewN]⟩
          have c0 : wr.cell? ⟨g, p, none⟩ = some (.int .i64 (u : Int)) := by rw [← eu]; exact HJ.out.c (by omega)
          have c1 : wr.cell? ⟨g, j, none⟩ = some (.int .i64 (v : Int)) := by rw [← ev]; exact HJ.out.c (by omega)
          have HR6 := HJ
          by_cases qc : cf v u < 0
          · have HY2 : Hid (∀ y, p ≤ y → y < i → R (h i) (h y)) := fun y h1 h2 => by
              rcases Nat.eq_or_lt_of_le h1 with e | e
              · rw [← e, ← hu, ← hv]; exact hcf.1 qc
              · exact HY.out y (by omega) h2
            have HPJ := Lib.hid hr
            clear hu hv eu ev hcf hr
            go_wp2_with fail
            go_quiet ((go_at_call 25; exact HCG.out _))
            rename_i nq
            obtain ⟨w4, HW4⟩ : ∃ w, w = wr.drewN nq := ⟨_, rfl⟩
            have H4 : Hid (RowF Q B g n cap (insF h i j) w4) := by rw [HW4]; exact HJ.out.dr HQ.out nq
            have c2 : w4.cell? ⟨g, p, none⟩ = some (.int .i64 (u : Int)) := by rw [HW4]; exact c0
            have c3 : w4.cell? ⟨g, j, none⟩ = some (.int .i64 (v : Int)) := by rw [HW4]; exact c1
            have f2 : w4.frozen? ⟨g, p, none⟩ = false := H4.out.fz _
            have f3 : w4.frozen? ⟨g, j, none⟩ = false := H4.out.fz _
            have c4 : w4.drew.cell? ⟨g, p, none⟩ = some (.int .i64 (u : Int)) := c2
            have c5 : w4.drew.cell? ⟨g, j, none⟩ = some (.int .i64 (v : Int)) := c3
            have f4 : w4.drew.frozen? ⟨g, p, none⟩ = false := f2
            have f5 : w4.drew.frozen? ⟨g, j, none⟩ = false := f3
            have hne : j ≠ p := by have := HPJ.out; omega
            have hne2 : p ≠ j := hne.symm
            rw [← HW4]
            clear HW4 c0 c1 HCG HR6 HJ qr qr3
            go_wp2_with fail
            go_upto_region 6 with fail
            go_region
            all_goals go_wp2_with fail
            go_roundw
            case rel => exact ⟨p, by have := HPJ.out; omega, by have := HPJ.out; omega, rfl, HY2, (((H4.out.st HQ.out j u).st HQ.out p v).dr HQ.out 1).congr fun z _ => HST.out z⟩
            case measure => have := HPJ.out; simp [intOf]; omega
          · have HSO : Hid (SortedF R a (i + 1) (insF h i j)) := insF_sorted HR0.out haj hji HS.out HY.out (.inr (by
              rw [hr]; show R (h p) (h i)
              rw [← hu, ← hv]
              exact (HR0.out.tot u v (by omega)).resolve_right fun e => qc (hcf.2 e)))
            have HPE : Hid (PermF a (i + 1) f (insF h i j)) := (HP.out.wide (Nat.le_refl _) (Nat.le_succ _)).trans (insF_perm haj hji (Nat.lt_succ_self _))
            clear hu hv eu ev hcf hr HST HLE HFI HY
            go_wp2_with fail
            go_quiet ((go_at_call 25; exact HCG.out _))
            rename_i nq
            have H4 : Hid (RowF Q B g n cap (insF h i j) (wr.drewN nq)) := HJ.out.dr HQ.out nq
            go_wp2_with fail
            go_roundw
            case rel => exact ⟨i + 1, _, by omega, .inl (by omega), by go_num, HPE, HSO, H4⟩
            case measure => simp [intOf]; omega
        · have qr : decide ((j : Int) > (a : Int)) = false := decide_eq_false (by omega)
          have qr3 : decide ((a : Int) < (j : Int)) = false := decide_eq_false (by omega)
          have qr2 : ¬ (a : Int) < (j : Int) := by omega
          have HSO : Hid (SortedF R a (i + 1) (insF h i j)) := insF_sorted HR0.out haj hji HS.out HY.out (.inl (by omega))
          have HPE : Hid (PermF a (i + 1) f (insF h i j)) := (HP.out.wide (Nat.le_refl _) (Nat.le_succ _)).trans (insF_perm haj hji (Nat.lt_succ_self _))
          clear HLE HFI HY
          go_wp2_with fail
          go_quiet (fail)
          rename_i nq
          have H4 : Hid (RowF Q B g n cap (insF h i j) (wr.drewN nq)) := HJ.out.dr HQ.out nq
          go_wp2_with fail
          go_roundw
          case rel => exact ⟨i + 1, _, by omega, .inl (by omega), by go_num, HPE, HSO, H4⟩
          case measure => simp [intOf]; omega
    · have q1 : ¬ (i : Int) < b := by omega
      have HF2 : Hid (∃ f', PermF a b f f' ∧ SortedF R a b f' ∧ RowF Q B g n cap f' wr) := ⟨h, by
        rcases hib with e | e
        · rw [show b = i by omega]; exact HP.out
        · obtain ⟨s, t, h1, h2, h3, h4⟩ := HP.out
          have hid : ∀ x, s x = x := fun x => by
            by_cases c : a ≤ x ∧ x < i
            · obtain ⟨s', g1, g2, g3⟩ := (show PermF a i f h from ⟨s, t, h1, h2, h3, h4⟩).src
              by_cases e1 : a ≤ s x ∧ s x < i
              · omega
              · have e2 := h3 _ e1
                have := congrArg t e2
                rwa [h2, h2] at this
            · exact h3 x c
          exact ⟨s, t, h1, h2, fun x _ => hid x, h4⟩, fun x y h1 h2 h3 => HS.out x y h1 h2 (by omega), HR.out⟩
      go_wp2_with fail
      go_end0
      exact ⟨rfl, HF2⟩
end Go.Proofs.YtfkogbomijonjaaGreatDoor
namespace Go.Proofs.YtfkogbomijonjaaGreatDoor
open Go Go.RowKit Gu

/-- the value at the place a, moved to the place k -/
def mvF (f : Nat → Nat) (a k : Nat) : Nat → Nat := fun x => if x < a then f x else if x < k then f (x + 1) else if x = k then f a else f x
theorem mvF_self (f : Nat → Nat) (a x : Nat) : mvF f a a x = f x := by
  unfold mvF
  repeat' split
  all_goals first | rfl | omega | exact congrArg f (by omega)
theorem mvF_step {f : Nat → Nat} {a k : Nat} (h : a ≤ k) (x : Nat) : upd1 (upd1 (mvF f a k) k (mvF f a k (k + 1))) (k + 1) (mvF f a k k) x = mvF f a (k + 1) x := by
  unfold upd1 mvF
  repeat' split
  all_goals first | rfl | omega | exact congrArg f (by omega)
theorem mvF_perm {f : Nat → Nat} {a b k : Nat} (ha : a ≤ k) (hb : k < b) : PermF a b f (mvF f a k) := by
  refine ⟨fun x => if x < a then x else if x < k then x + 1 else if x = k then a else x, fun y => if y < a then y else if y = a then k else if y ≤ k then y - 1 else y, fun x => ?_, fun x => ?_, fun x hx => ?_, fun x => ?_⟩
  · dsimp only
    repeat' split
    all_goals omega
  · dsimp only
    repeat' split
    all_goals omega
  · dsimp only
    repeat' split
    all_goals omega
  · dsimp only
    unfold mvF
    repeat' split
    all_goals first | rfl | omega
theorem mvF_sorted {R : Nat → Nat → Prop} {f : Nat → Nat} {a b i : Nat} (hi : a < i) (hb : i ≤ b) (hs : SortedF R (a + 1) b f) (h1 : ∀ y, a < y → y < i → R (f y) (f a)) (h2 : ∀ y, i ≤ y → y < b → R (f a) (f y)) : SortedF R a b (mvF f a (i - 1)) := by
  intro x y hx hxy hy
  unfold mvF
  repeat' split
  all_goals first
    | omega
    | exact h1 _ (by omega) (by omega)
    | exact h2 _ (by omega) (by omega)
    | exact hs _ _ (by omega) (by omega) (by omega)
theorem SortedF.le {R : Nat → Nat → Prop} (hR : OrdR R) {f : Nat → Nat} {a b x y v : Nat} (hs : SortedF R a b f) (hx : a ≤ x) (hxy : x ≤ y) (hy : y < b) (h : R (f y) v) : R (f x) v := by
  rcases Nat.eq_or_lt_of_le hxy with e | e
  · rw [e]; exact h
  · exact hR.tr _ _ _ (hs x y hx e hy) h
theorem SortedF.ge {R : Nat → Nat → Prop} (hR : OrdR R) {f : Nat → Nat} {a b x y v : Nat} (hs : SortedF R a b f) (hx : a ≤ x) (hxy : x ≤ y) (hy : y < b) (h : R v (f x)) : R v (f y) := by
  rcases Nat.eq_or_lt_of_le hxy with e | e
  · rw [← e]; exact h
  · exact hR.tr _ _ _ h (hs x y hx e hy)
set_option maxRecDepth 100000 in
set_option maxHeartbeats 2000000 in
theorem mergeLeft_any {Q : World → Prop} {R : Nat → Nat → Prop} {cf : Nat → Nat → Int} {B g n cap a m b C : Nat} {f : Nat → Nat} {W : World} (hQ : SQ Q g) (hR : OrdR R) (hC : CmpQ Q n C cf) (hcf : ∀ x y, y < x → x < n → (cf x y < 0 ↔ R x y))
    (hm : m = a + 1) (hmb : m < b) (hb : b ≤ n) (hn : n ≤ 1000000) (hf : ∀ x, x < n → f x < n) (hs : SortedF R m b f) (hx : ∀ y, m ≤ y → y < b → f a < f y) (h : RowF Q B g n cap f W) :
    Calls Tryz.prog 64 #[.slice (some ⟨g, 0, none⟩) n cap, .int .i64 a, .int .i64 m, .int .i64 b, .func (.func 25) #[] #[.pointer (some ⟨C, 0, none⟩)]] W fun e w' => e = .returned (.tuple #[]) ∧ Hid (∃ f', PermF a b f f' ∧ SortedF R a b f' ∧ RowF Q B g n cap f' w') := by
  obtain ⟨v, hv⟩ : ∃ v, v = f a := ⟨_, rfl⟩
  have HQ := Lib.hid hQ; have HR0 := Lib.hid hR; have HC := Lib.hid hC; have HCF := Lib.hid hcf; have HF := Lib.hid hf; have HS := Lib.hid hs; have HX := Lib.hid hx; have H0 := Lib.hid h
  have HM := Lib.hid hm; have HV := Lib.hid hv
  have hw0 : IntKind.i64.wrap ((m : Int) - a) = 1 := by rw [IntWalk.i64_in _ (by omega)]; omega
  have ha : (a : Int) < n := by omega
  have hvn : v < n := by rw [hv]; exact hf a (by omega)
  clear hQ hR hC hcf hf hs hx h hm hv
  go_enter Tryz.func64, Tryz.ntmps64
  go_wp2_with fail
  go_loopw [10, 11] (fun s t wr => ∃ i j : Nat, m ≤ i ∧ i ≤ j ∧ j ≤ b ∧ s = .int .i64 i ∧ t = .int .i64 j ∧ Hid (∀ y, m ≤ y → y < i → R (f y) v) ∧ Hid (∀ y, j ≤ y → y < b → R v (f y)) ∧ Hid (RowF Q B g n cap f wr)) (fun s t _ => (intOf t).toNat - (intOf s).toNat)
  case atStart => exact ⟨m, b, Nat.le_refl _, by omega, Nat.le_refl _, rfl, rfl, fun y h1 h2 => by omega, fun y h1 h2 => by omega, H0⟩
  case round =>
    obtain ⟨i, j, hmi, hij, hjb, rfl, rfl, HL, HG, HR⟩ := hrel
    by_cases q : i < j
    · have q1 : (i : Int) < j := by omega
      obtain ⟨h, hh⟩ : ∃ h, h = (i + j) / 2 := ⟨_, rfl⟩
      have hhz : ((i : Int) + (j : Int)) / 2 = (h : Int) := by omega
      have hhi : i ≤ h := by omega
      have hhj : h < j := by omega
      have hhn : (h : Int) < n := by omega
      have hw : IntKind.i64.wrap ((h : Int) + 1) = ((h + 1 : Nat) : Int) := by rw [IntWalk.i64_in _ (by omega)]; omega
      obtain ⟨u, hu⟩ : ∃ u, u = f h := ⟨_, rfl⟩
      have hvu : v < u := by rw [hu, HV.out]; exact HX.out h (by omega) (by omega)
      have hun : u < n := by rw [hu]; exact HF.out h (by omega)
      have hcf := HCF.out u v hvu hun
      have HCG : Hid (∀ k, Calls Tryz.prog 25 #[.int .i64 u, .int .i64 v, .pointer (some ⟨C, 0, none⟩)] (wr.drewN k) fun e w' => e = .returned (.int .i64 (cf u v)) ∧ ∃ q, w' = wr.drewN q) := fun k => (HC.out u v _ hun hvn (HQ.out.dr _ _ HR.out.1)).mono fun e w' ⟨h1, q, h2⟩ => ⟨h1, k + q, by rw [h2, World.drewN_drewN]⟩
      have c0 : wr.cell? ⟨g, h, none⟩ = some (.int .i64 (u : Int)) := by rw [hu]; exact HR.out.c (by omega)
      have c1 : wr.cell? ⟨g, a, none⟩ = some (.int .i64 (v : Int)) := by rw [HV.out]; exact HR.out.c (by omega)
      by_cases qc : cf u v < 0
      · have HL2 : Hid (∀ y, m ≤ y → y < h + 1 → R (f y) v) := fun y h1 h2 => HS.out.le HR0.out h1 (Nat.le_of_lt_succ h2) (by omega) (by rw [← hu]; exact hcf.1 qc)
        clear hcf hu hh
        go_wp2_with fail
        go_quiet ((go_at_call 25; exact HCG.out _))
        rename_i nq
        have H4 : Hid (RowF Q B g n cap f (wr.drewN nq)) := HR.out.dr HQ.out nq
        go_wp2_with fail
        go_roundw
        case rel => exact ⟨h + 1, j, by omega, by omega, hjb, by go_num, rfl, HL2, HG, H4⟩
        case measure => simp [intOf]; omega
      · have HG2 : Hid (∀ y, h ≤ y → y < b → R v (f y)) := fun y h1 h2 => HS.out.ge HR0.out (by omega) h1 h2 (by rw [← hu]; exact (HR0.out.tot v u (by omega)).resolve_right fun e => qc (hcf.2 e))
        clear hcf hu hh
        go_wp2_with fail
        go_quiet ((go_at_call 25; exact HCG.out _))
        rename_i nq
        have H4 : Hid (RowF Q B g n cap f (wr.drewN nq)) := HR.out.dr HQ.out nq
        go_wp2_with fail
        go_roundw
        case rel => exact ⟨i, h, hmi, hhi, by omega, rfl, by go_num, HL, HG2, H4⟩
        case measure => simp [intOf]; omega
    · obtain rfl : i = j := by omega
      have q1 : ¬ (i : Int) < i := by omega
      have hi1 : 1 ≤ i := by have := HM.out; omega
      obtain ⟨z, hz⟩ : ∃ z, z = i - 1 := ⟨_, rfl⟩
      have hwz : IntKind.i64.wrap ((i : Int) - 1) = (z : Int) := by rw [IntWalk.i64_in _ (by omega)]; omega
      have HZ := Lib.hid hz
      have HFIN : Hid (SortedF R a b (mvF f a z)) := by
        rw [hz]
        exact mvF_sorted (by have := HM.out; omega) hjb (by rw [← HM.out]; exact HS.out) (fun y h1 h2 => by rw [← HV.out]; exact HL.out y (by rw [HM.out]; omega) h2) (fun y h1 h2 => by rw [← HV.out]; exact HG.out y h1 h2)
      have H00 : Hid (RowF Q B g n cap (mvF f a a) wr) := HR.out.congr fun x _ => (mvF_self f a x).symm
      have haz : a ≤ z := by have := HM.out; omega
      have hzb : z < b := by omega
      clear hz
      go_wp2_with fail
      go_loopw [13] (fun t wr => ∃ k : Nat, a ≤ k ∧ k ≤ z ∧ t = .int .i64 k ∧ Hid (RowF Q B g n cap (mvF f a k) wr)) (fun t _ => z - (intOf t).toNat)
      case atStart => exact ⟨a, Nat.le_refl _, haz, rfl, H00⟩
      case round =>
        obtain ⟨k, hak, hkz, rfl, HK⟩ := hrel
        by_cases qk : k < z
        · have qk1 : (k : Int) < z := by omega
          obtain ⟨r, hr⟩ : ∃ r, r = k + 1 := ⟨_, rfl⟩
          have hwr : IntKind.i64.wrap ((k : Int) + 1) = (r : Int) := by rw [IntWalk.i64_in _ (by omega)]; omega
          have HST : Hid (∀ x, upd1 (upd1 (mvF f a k) k (mvF f a k r)) r (mvF f a k k) x = mvF f a r x) := by rw [hr]; exact mvF_step hak
          obtain ⟨x, hx⟩ : ∃ x, x = mvF f a k k := ⟨_, rfl⟩
          obtain ⟨y, hy⟩ : ∃ y, y = mvF f a k r := ⟨_, rfl⟩
          have c2 : wr.cell? ⟨g, k, none⟩ = some (.int .i64 (x : Int)) := by rw [hx]; exact HK.out.c (by omega)
          have c3 : wr.cell? ⟨g, r, none⟩ = some (.int .i64 (y : Int)) := by rw [hy]; exact HK.out.c (by omega)
          have f2 : wr.frozen? ⟨g, k, none⟩ = false := HK.out.fz _
          have f3 : wr.frozen? ⟨g, r, none⟩ = false := HK.out.fz _
          have c4 : wr.drew.cell? ⟨g, k, none⟩ = some (.int .i64 (x : Int)) := c2
          have c5 : wr.drew.cell? ⟨g, r, none⟩ = some (.int .i64 (y : Int)) := c3
          have f4 : wr.drew.frozen? ⟨g, k, none⟩ = false := f2
          have f5 : wr.drew.frozen? ⟨g, r, none⟩ = false := f3
          have hne : k ≠ r := by omega
          have hne2 : r ≠ k := by omega
          have hkn : (k : Int) < n := by omega
          have hrn : (r : Int) < n := by omega
          rw [← hx, ← hy] at HST
          have HRK := Lib.hid hr
          clear hx hy hr
          go_upto_region 11 with fail
          go_region
          all_goals go_wp2_with fail
          go_roundw
          case rel => exact ⟨r, by have := HRK.out; omega, by have := HRK.out; omega, rfl, (((HK.out.st HQ.out k y).st HQ.out r x).dr HQ.out 1).congr fun z _ => HST.out z⟩
          case measure => have := HRK.out; simp [intOf]; omega
        · obtain rfl : k = z := by omega
          have qk1 : ¬ (k : Int) < k := by omega
          have HF2 : Hid (∃ f', PermF a b f f' ∧ SortedF R a b f' ∧ RowF Q B g n cap f' wr) := ⟨_, mvF_perm hak hzb, HFIN.out, HK.out⟩
          go_wp2_with fail
          (try simp only [Exit.inBlock, Exit.then])
          refine bodyPost_ret (results_none rfl _ _ _) rfl ?_
          exact ⟨rfl, HF2⟩
set_option maxRecDepth 100000 in
set_option maxHeartbeats 2000000 in
theorem mergeRight_any {Q : World → Prop} {R : Nat → Nat → Prop} {cf : Nat → Nat → Int} {B g n cap a m b C : Nat} {f : Nat → Nat} {W : World} (hQ : SQ Q g) (hR : OrdR R) (hC : CmpQ Q n C cf) (hcf : ∀ x y, y < x → x < n → (cf x y < 0 ↔ R x y))
    (ham : a + 1 < m) (hm : b = m + 1) (hb : b ≤ n) (hn : n ≤ 1000000) (hf : ∀ x, x < n → f x < n) (hs : SortedF R a m f) (hx : ∀ y, a ≤ y → y < m → f y < f m) (h : RowF Q B g n cap f W) :
    Calls Tryz.prog 64 #[.slice (some ⟨g, 0, none⟩) n cap, .int .i64 a, .int .i64 m, .int .i64 b, .func (.func 25) #[] #[.pointer (some ⟨C, 0, none⟩)]] W fun e w' => e = .returned (.tuple #[]) ∧ Hid (∃ f', PermF a b f f' ∧ SortedF R a b f' ∧ RowF Q B g n cap f' w') := by
  obtain ⟨v, hv⟩ : ∃ v, v = f m := ⟨_, rfl⟩
  have HQ := Lib.hid hQ; have HR0 := Lib.hid hR; have HC := Lib.hid hC; have HCF := Lib.hid hcf; have HF := Lib.hid hf; have HS := Lib.hid hs; have HX := Lib.hid hx; have H0 := Lib.hid h
  have HM := Lib.hid hm; have HV := Lib.hid hv
  have hw0 : IntKind.i64.wrap ((b : Int) - m) = 1 := by rw [IntWalk.i64_in _ (by omega)]; omega
  obtain ⟨ma, hma⟩ : ∃ x, x = m - a := ⟨_, rfl⟩
  have hw1 : IntKind.i64.wrap ((m : Int) - a) = (ma : Int) := by rw [IntWalk.i64_in _ (by omega)]; omega
  have hw2 : ((ma : Int) == 1) = false := beq_eq_false_iff_ne.2 (by omega)
  have hw3 : ¬ (ma : Int) = 1 := by omega
  have ha : (m : Int) < n := by omega
  have hvn : v < n := by rw [hv]; exact hf m (by omega)
  clear hQ hR hC hcf hf hs hx h hm hv hma
  go_enter Tryz.func64, Tryz.ntmps64
  go_wp2_with fail
  go_loopw [14, 15] (fun s t wr => ∃ i j : Nat, a ≤ i ∧ i ≤ j ∧ j ≤ m ∧ s = .int .i64 i ∧ t = .int .i64 j ∧ Hid (∀ y, a ≤ y → y < i → R (f y) v) ∧ Hid (∀ y, j ≤ y → y < m → R v (f y)) ∧ Hid (RowF Q B g n cap f wr)) (fun s t _ => (intOf t).toNat - (intOf s).toNat)
  case atStart => exact ⟨a, m, Nat.le_refl _, by omega, Nat.le_refl _, rfl, rfl, fun y h1 h2 => by omega, fun y h1 h2 => by omega, H0⟩
  case round =>
    obtain ⟨i, j, hmi, hij, hjb, rfl, rfl, HL, HG, HR⟩ := hrel
    by_cases q : i < j
    · have q1 : (i : Int) < j := by omega
      obtain ⟨h, hh⟩ : ∃ h, h = (i + j) / 2 := ⟨_, rfl⟩
      have hhz : ((i : Int) + (j : Int)) / 2 = (h : Int) := by omega
      have hhi : i ≤ h := by omega
      have hhj : h < j := by omega
      have hhn : (h : Int) < n := by omega
      have hw : IntKind.i64.wrap ((h : Int) + 1) = ((h + 1 : Nat) : Int) := by rw [IntWalk.i64_in _ (by omega)]; omega
      obtain ⟨u, hu⟩ : ∃ u, u = f h := ⟨_, rfl⟩
      have hvu : u < v := by rw [hu, HV.out]; exact HX.out h (by omega) (by omega)
      have hun : u < n := by omega
      have hcf := HCF.out v u hvu hvn
      have HCG : Hid (∀ k, Calls Tryz.prog 25 #[.int .i64 v, .int .i64 u, .pointer (some ⟨C, 0, none⟩)] (wr.drewN k) fun e w' => e = .returned (.int .i64 (cf v u)) ∧ ∃ q, w' = wr.drewN q) := fun k => (HC.out v u _ hvn hun (HQ.out.dr _ _ HR.out.1)).mono fun e w' ⟨h1, q, h2⟩ => ⟨h1, k + q, by rw [h2, World.drewN_drewN]⟩
      have c0 : wr.cell? ⟨g, h, none⟩ = some (.int .i64 (u : Int)) := by rw [hu]; exact HR.out.c (by omega)
      have c1 : wr.cell? ⟨g, m, none⟩ = some (.int .i64 (v : Int)) := by rw [HV.out]; exact HR.out.c (by omega)
      by_cases qc : cf v u < 0
      · have HG2 : Hid (∀ y, h ≤ y → y < m → R v (f y)) := fun y h1 h2 => HS.out.ge HR0.out (by omega) h1 h2 (by rw [← hu]; exact hcf.1 qc)
        clear hcf hu hh
        go_wp2_with fail
        go_quiet ((go_at_call 25; exact HCG.out _))
        rename_i nq
        have H4 : Hid (RowF Q B g n cap f (wr.drewN nq)) := HR.out.dr HQ.out nq
        go_wp2_with fail
        go_roundw
        case rel => exact ⟨i, h, hmi, hhi, by omega, rfl, by go_num, HL, HG2, H4⟩
        case measure => simp [intOf]; omega
      · have dq : decide (cf v u < 0) = false := decide_eq_false qc
        have dq2 : (!decide (cf v u < 0)) = true := by rw [dq]; rfl
        have HL2 : Hid (∀ y, a ≤ y → y < h + 1 → R (f y) v) := fun y h1 h2 => HS.out.le HR0.out h1 (Nat.le_of_lt_succ h2) (by omega) (by rw [← hu]; exact (HR0.out.tot u v (by omega)).resolve_right fun e => qc (hcf.2 e))
        clear hcf hu hh
        go_wp2_with fail
        go_quiet ((go_at_call 25; exact HCG.out _))
        rename_i nq
        have H4 : Hid (RowF Q B g n cap f (wr.drewN nq)) := HR.out.dr HQ.out nq
        go_wp2_with fail
        go_roundw
        case rel => exact ⟨h + 1, j, by omega, by omega, hjb, by go_num, rfl, HL2, HG, H4⟩
        case measure => simp [intOf]; omega
    · obtain rfl : i = j := by omega
      have q1 : ¬ (i : Int) < i := by omega
      have HFIN : Hid (SortedF R a b (insF f m i)) := by
        rw [HM.out]
        exact insF_sorted HR0.out hmi hjb HS.out (fun y h1 h2 => by rw [← HV.out]; exact HG.out y h1 h2) (by
          by_cases e : i = a
          · exact .inl e
          · exact .inr (by rw [← HV.out]; exact HL.out (i - 1) (by omega) (by omega)))
      have H00 : Hid (RowF Q B g n cap (insF f m m) wr) := HR.out.congr fun x _ => (insF_self f m x).symm
      go_wp2_with fail
      go_loopw [17] (fun t wr => ∃ k : Nat, i ≤ k ∧ k ≤ m ∧ t = .int .i64 k ∧ Hid (RowF Q B g n cap (insF f m k) wr)) (fun t _ => (intOf t).toNat)
      case atStart => exact ⟨m, hjb, Nat.le_refl _, rfl, H00⟩
      case round =>
        obtain ⟨k, hik, hkm, rfl, HK⟩ := hrel
        by_cases qk : i < k
        · have qk1 : (k : Int) > i := by omega
          have qk2 : (i : Int) < k := by omega
          obtain ⟨r, hr⟩ : ∃ r, k = r + 1 := ⟨k - 1, by omega⟩
          have hwr : IntKind.i64.wrap ((k : Int) - 1) = (r : Int) := by rw [IntWalk.i64_in _ (by omega)]; omega
          have HST : Hid (∀ x, upd1 (upd1 (insF f m k) k (insF f m k r)) r (insF f m k k) x = insF f m r x) := by rw [hr]; exact insF_step (by omega)
          obtain ⟨x, hx⟩ : ∃ x, x = insF f m k k := ⟨_, rfl⟩
          obtain ⟨y, hy⟩ : ∃ y, y = insF f m k r := ⟨_, rfl⟩
          have c2 : wr.cell? ⟨g, k, none⟩ = some (.int .i64 (x : Int)) := by rw [hx]; exact HK.out.c (by omega)
          have c3 : wr.cell? ⟨g, r, none⟩ = some (.int .i64 (y : Int)) := by rw [hy]; exact HK.out.c (by omega)
          have f2 : wr.frozen? ⟨g, k, none⟩ = false := HK.out.fz _
          have f3 : wr.frozen? ⟨g, r, none⟩ = false := HK.out.fz _
          have c4 : wr.drew.cell? ⟨g, k, none⟩ = some (.int .i64 (x : Int)) := c2
          have c5 : wr.drew.cell? ⟨g, r, none⟩ = some (.int .i64 (y : Int)) := c3
          have f4 : wr.drew.frozen? ⟨g, k, none⟩ = false := f2
          have f5 : wr.drew.frozen? ⟨g, r, none⟩ = false := f3
          have hne : k ≠ r := by omega
          have hne2 : r ≠ k := by omega
          have hkn : (k : Int) < n := by omega
          have hrn : (r : Int) < n := by omega
          rw [← hx, ← hy] at HST
          have HRK := Lib.hid hr
          clear hx hy hr
          go_upto_region 23 with fail
          go_region
          all_goals go_wp2_with fail
          go_roundw
          case rel => exact ⟨r, by have := HRK.out; omega, by have := HRK.out; omega, rfl, (((HK.out.st HQ.out k y).st HQ.out r x).dr HQ.out 1).congr fun z _ => HST.out z⟩
          case measure => have := HRK.out; simp [intOf]; omega
        · obtain rfl : k = i := by omega
          have qk1 : ¬ (k : Int) > k := by omega
          have qk2 : ¬ (k : Int) < k := by omega
          have HF2 : Hid (∃ f', PermF a b f f' ∧ SortedF R a b f' ∧ RowF Q B g n cap f' wr) := ⟨_, insF_perm hmi hkm (by have := HM.out; omega), HFIN.out, HK.out⟩
          go_wp2_with fail
          (try simp only [Exit.inBlock, Exit.then])
          refine bodyPost_ret (results_none rfl _ _ _) rfl ?_
          exact ⟨rfl, HF2⟩
end Go.Proofs.YtfkogbomijonjaaGreatDoor
namespace Go.Proofs.YtfkogbomijonjaaGreatDoor
open Go Go.RowKit Gu

theorem rotF_perm {f : Nat → Nat} {a m b A Bb : Nat} (ha : A ≤ a) (ham : a ≤ m) (hmb : m ≤ b) (hb : b ≤ Bb) : PermF A Bb f (rotF f a m b) := by
  refine ⟨fun x => if a ≤ x ∧ x + m < a + b then x + m - a else if a ≤ x ∧ x < b then x + m - b else x, fun y => if a ≤ y ∧ y < m then y + b - m else if m ≤ y ∧ y < b then y + a - m else y, fun x => ?_, fun x => ?_, fun x hx => ?_, fun x => ?_⟩
  · dsimp only
    repeat' split
    all_goals omega
  · dsimp only
    repeat' split
    all_goals omega
  · dsimp only
    repeat' split
    all_goals omega
  · dsimp only
    unfold rotF
    repeat' split
    all_goals first | rfl | omega
/-- where the two ranges are parted: s in the first, e in the second -/
structure PartF (R : Nat → Nat → Prop) (f : Nat → Nat) (a s m e b : Nat) : Prop where
  sa : a ≤ s
  sm : s ≤ m
  me : m ≤ e
  eb : e ≤ b
  s1 : SortedF R a m f
  s2 : SortedF R m b f
  k1 : s = a ∨ e = b ∨ R (f (s - 1)) (f e)
  k2 : s = m ∨ e = m ∨ R (f (e - 1)) (f s)
  x : ∀ x y, a ≤ x → x < m → m ≤ y → y < b → f x < f y
section
variable {R : Nat → Nat → Prop} {f : Nat → Nat} {a s m e b : Nat}
theorem PartF.lr (hR : OrdR R) (h : PartF R f a s m e b) {x y : Nat} (hx : (a ≤ x ∧ x < s) ∨ (m ≤ x ∧ x < e)) (hy : (s ≤ y ∧ y < m) ∨ (e ≤ y ∧ y < b)) : R (f x) (f y) := by
  obtain ⟨h1, h2, h3, h4, h5, h6, h7, h8, h9⟩ := h
  rcases hx with ⟨x1, x2⟩ | ⟨x1, x2⟩ <;> rcases hy with ⟨y1, y2⟩ | ⟨y1, y2⟩
  · exact h5 x y x1 (by omega) y2
  · rcases h7 with q | q | q
    · omega
    · omega
    · exact h6.ge hR h3 y1 y2 (h5.le hR x1 (Nat.le_sub_one_of_lt x2) (by omega) q)
  · rcases h8 with q | q | q
    · omega
    · omega
    · exact h5.ge hR h1 y1 y2 (h6.le hR x1 (Nat.le_sub_one_of_lt x2) (by omega) q)
  · exact h6 x y x1 (by omega) y2
/-- what the halves hold when the middle is rotated -/
theorem PartF.at (h : PartF R f a s m e b) (x : Nat) : rotF f s m e x = if x < s then f x else if x + m < s + e then f (x + m - s) else if x < e then f (x + m - e) else f x := by
  obtain ⟨h1, h2, h3, h4, -⟩ := h
  unfold rotF
  repeat' split
  all_goals first | rfl | omega
theorem PartF.l1 (h : PartF R f a s m e b) : SortedF R a s (rotF f s m e) := fun x y hx hxy hy => by
  rw [h.at, h.at, if_pos (by omega), if_pos hy]
  exact h.s1 x y hx hxy (Nat.lt_of_lt_of_le hy h.sm)
theorem PartF.l2 (h : PartF R f a s m e b) {d : Nat} (hd : d + m = s + e) : SortedF R s d (rotF f s m e) := fun x y hx hxy hy => by
  obtain ⟨h1, h2, h3, h4, -⟩ := id h
  rw [h.at, h.at, if_neg (by omega), if_pos (by omega), if_neg (by omega), if_pos (by omega)]
  exact h.s2 _ _ (by omega) (by omega) (by omega)
theorem PartF.l3 (h : PartF R f a s m e b) {d : Nat} (hd : d + m = s + e) : ∀ x y, a ≤ x → x < s → s ≤ y → y < d → rotF f s m e x < rotF f s m e y := fun x y hx hxs hy hyd => by
  obtain ⟨h1, h2, h3, h4, -⟩ := id h
  rw [h.at, h.at, if_pos (by omega), if_neg (by omega), if_pos (by omega)]
  exact h.x _ _ (by omega) (by omega) (by omega) (by omega)
theorem PartF.l4 (h : PartF R f a s m e b) {d : Nat} (hd : d + m = s + e) : SortedF R d e (rotF f s m e) := fun x y hx hxy hy => by
  obtain ⟨h1, h2, h3, h4, -⟩ := id h
  rw [h.at, h.at, if_neg (by omega), if_neg (by omega), if_pos (by omega), if_neg (by omega), if_neg (by omega), if_pos (by omega)]
  exact h.s1 _ _ (by omega) (by omega) (by omega)
theorem PartF.l5 (h : PartF R f a s m e b) : SortedF R e b (rotF f s m e) := fun x y hx hxy hy => by
  obtain ⟨h1, h2, h3, h4, -⟩ := id h
  rw [h.at, h.at, if_neg (by omega), if_neg (by omega), if_neg (by omega), if_neg (by omega), if_neg (by omega), if_neg (by omega)]
  exact h.s2 _ _ (by omega) (by omega) (by omega)
theorem PartF.l6 (h : PartF R f a s m e b) {d : Nat} (hd : d + m = s + e) : ∀ x y, d ≤ x → x < e → e ≤ y → y < b → rotF f s m e x < rotF f s m e y := fun x y hx hxs hy hyd => by
  obtain ⟨h1, h2, h3, h4, -⟩ := id h
  rw [h.at, h.at, if_neg (by omega), if_neg (by omega), if_pos (by omega), if_neg (by omega), if_neg (by omega), if_neg (by omega)]
  exact h.x _ _ (by omega) (by omega) (by omega) (by omega)
theorem PartF.l7 (hR : OrdR R) (h : PartF R f a s m e b) {d : Nat} (hd : d + m = s + e) : ∀ x y, a ≤ x → x < d → d ≤ y → y < b → R (rotF f s m e x) (rotF f s m e y) := fun x y hx hxd hy hyb => by
  obtain ⟨h1, h2, h3, h4, -⟩ := id h
  rw [h.at, h.at]
  repeat' split
  all_goals first
    | omega
    | exact h.lr hR (by omega) (by omega)
/-- both halves sorted: all of it -/
theorem PartF.whole (hR : OrdR R) (h : PartF R f a s m e b) {d : Nat} (hd : d + m = s + e) {f2 f3 : Nat → Nat} (p2 : PermF a d (rotF f s m e) f2) (q2 : SortedF R a d f2) (p3 : PermF d b f2 f3) (q3 : SortedF R d b f3) : PermF a b f f3 ∧ SortedF R a b f3 := by
  obtain ⟨h1, h2, h3, h4, -⟩ := id h
  refine ⟨((rotF_perm h1 h2 h3 h4).trans (p2.wide (Nat.le_refl _) (by omega))).trans (p3.wide (by omega) (Nat.le_refl _)), fun x y hx hxy hy => ?_⟩
  rcases Nat.lt_or_ge y d with c | c
  · rw [p3.out (x := x) (by omega), p3.out (x := y) (by omega)]
    exact q2 x y hx hxy c
  · rcases Nat.lt_or_ge x d with c2 | c2
    · rw [p3.out (x := x) (by omega)]
      obtain ⟨u, u1, u2, u3⟩ := p2.src
      obtain ⟨v, v1, v2, v3⟩ := p3.src
      have hu := u2 x hx c2
      have hv := v2 y c hy
      rw [u1, v1, p2.out (x := v y) (by omega)]
      exact h.l7 hR hd _ _ hu.1 hu.2 hv.1 hv.2
    · exact q3 x y c2 hxy hy
end
/-- the search for the place where they are parted: bounds, and what is known -/
def SeekF (R : Nat → Nat → Prop) (f : Nat → Nat) (S0 R0 p s r : Nat) : Prop := S0 ≤ s ∧ s ≤ r ∧ r ≤ R0 ∧ (∀ c, S0 ≤ c → c < s → R (f c) (f (p - c))) ∧ ∀ c, r ≤ c → c < R0 → R (f (p - c)) (f c)
/-- the bounds of the search -/
structure BndF (a m b S0 R0 p : Nat) : Prop where
  lo : a ≤ S0
  ord : S0 ≤ R0
  hi : R0 ≤ m
  up : p + 1 ≤ b + S0
  dn : m + R0 ≤ p + 1
  c1 : S0 = a ∨ p + 1 = b + S0
  c2 : R0 = m ∨ p + 1 = m + R0
theorem BndF.far {a m b d : Nat} (hd : d = (a + b) / 2) (h1 : a + 2 ≤ m) (h2 : m + 2 ≤ b) (h : d < m) : BndF a m b (d + m - b) d (d + m - 1) := by
  constructor <;> omega
theorem BndF.near {a m b d : Nat} (hd : d = (a + b) / 2) (h1 : a + 2 ≤ m) (h2 : m + 2 ≤ b) (h : m ≤ d) : BndF a m b a m (d + m - 1) := by
  constructor <;> omega
theorem SeekF.up {R : Nat → Nat → Prop} (hR : OrdR R) {f : Nat → Nat} {a m b S0 R0 p s r c : Nat} (hB : BndF a m b S0 R0 p) (h : SeekF R f S0 R0 p s r) (s1 : SortedF R a m f) (s2 : SortedF R m b f) (hc1 : s ≤ c) (hc2 : c < r) (hk : R (f c) (f (p - c))) : SeekF R f S0 R0 p (c + 1) r := by
  obtain ⟨g1, g2, g3, g4, g5⟩ := h
  obtain ⟨b1, b2, b3, b4, b5, -, -⟩ := hB
  refine ⟨by omega, by omega, g3, fun x hx hxc => ?_, g5⟩
  exact s2.ge hR (x := p - c) (by omega) (by omega) (by omega) (s1.le hR (by omega) (Nat.le_of_lt_succ hxc) (by omega) hk)
theorem SeekF.down {R : Nat → Nat → Prop} (hR : OrdR R) {f : Nat → Nat} {a m b S0 R0 p s r c : Nat} (hB : BndF a m b S0 R0 p) (h : SeekF R f S0 R0 p s r) (s1 : SortedF R a m f) (s2 : SortedF R m b f) (hc1 : s ≤ c) (hc2 : c < r) (hk : R (f (p - c)) (f c)) : SeekF R f S0 R0 p s c := by
  obtain ⟨g1, g2, g3, g4, g5⟩ := h
  obtain ⟨b1, b2, b3, b4, b5, -, -⟩ := hB
  refine ⟨by omega, by omega, by omega, g4, fun x hx hxc => ?_⟩
  exact s1.ge hR (x := c) (by omega) hx (by omega) (s2.le hR (x := p - x) (y := p - c) (by omega) (by omega) (by omega) hk)
theorem SeekF.part {R : Nat → Nat → Prop} {f : Nat → Nat} {a m b S0 R0 p s : Nat} (hB : BndF a m b S0 R0 p) (h : SeekF R f S0 R0 p s s) (s1 : SortedF R a m f) (s2 : SortedF R m b f) (hx : ∀ x y, a ≤ x → x < m → m ≤ y → y < b → f x < f y) : PartF R f a s m (p + 1 - s) b := by
  obtain ⟨g1, g2, g3, g4, g5⟩ := h
  obtain ⟨b1, b2, b3, b4, b5, b6, b7⟩ := hB
  refine ⟨by omega, by omega, by omega, by omega, s1, s2, ?_, ?_, hx⟩
  · by_cases e : S0 < s
    · refine .inr (.inr ?_)
      have := g4 (s - 1) (by omega) (by omega)
      rwa [show p - (s - 1) = p + 1 - s by omega] at this
    · omega
  · by_cases e : s < R0
    · refine .inr (.inr ?_)
      have := g5 s (Nat.le_refl _) e
      rwa [show p - s = p + 1 - s - 1 by omega] at this
    · omega
end Go.Proofs.YtfkogbomijonjaaGreatDoor
namespace Go.Proofs.YtfkogbomijonjaaGreatDoor
open Go Go.RowKit Gu

theorem rot_none {f : Nat → Nat} {i m e : Nat} (h1 : i ≤ m) (h2 : m ≤ e) (h : ¬ (i < m ∧ m < e)) (x : Nat) : f x = rotF f i m e x := by
  unfold rotF
  repeat' split
  all_goals first | rfl | omega | exact congrArg f (by omega)
theorem PermF.bound {a b n : Nat} {f h : Nat → Nat} (p : PermF a b f h) (hb : b ≤ n) (hf : ∀ x, x < n → f x < n) : ∀ x, x < n → h x < n := fun x hx => by
  obtain ⟨s, e1, e2, e3⟩ := p.src
  rw [e1]
  by_cases c : a ≤ x ∧ x < b
  · exact hf _ (by have := (e2 x c.1 c.2).2; omega)
  · rw [e3 x c]; exact hf x hx
theorem SortedF.same {R : Nat → Nat → Prop} {a b : Nat} {f h : Nat → Nat} (hs : SortedF R a b f) (e : ∀ x, a ≤ x → x < b → h x = f x) : SortedF R a b h := fun x y hx hxy hy => by
  rw [e x hx (by omega), e y (by omega) hy]; exact hs x y hx hxy hy
/-- a merge of two ranges of a row -/
def MergeK (Q : World → Prop) (R : Nat → Nat → Prop) (B g n cap C : Nat) (a m b : Nat) : Prop := ∀ (f : Nat → Nat) (W : World), (∀ x, x < n → f x < n) → SortedF R a m f → SortedF R m b f → (∀ x y, a ≤ x → x < m → m ≤ y → y < b → f x < f y) → RowF Q B g n cap f W →
    Calls Tryz.prog 64 #[.slice (some ⟨g, 0, none⟩) n cap, .int .i64 a, .int .i64 m, .int .i64 b, .func (.func 25) #[] #[.pointer (some ⟨C, 0, none⟩)]] W fun e w' => e = .returned (.tuple #[]) ∧ Hid (∃ f', PermF a b f f' ∧ SortedF R a b f' ∧ RowF Q B g n cap f' w')
set_option maxRecDepth 100000 in
set_option maxHeartbeats 4000000 in
theorem mergeMid_any {Q : World → Prop} {R : Nat → Nat → Prop} {cf : Nat → Nat → Int} {B g n cap a m b C : Nat} (hQ : SQ Q g) (hR : OrdR R) (hC : CmpQ Q n C cf) (hcf : ∀ x y, y < x → x < n → (cf x y < 0 ↔ R x y))
    (ham : a + 2 ≤ m) (hmb : m + 2 ≤ b) (hb : b ≤ n) (hn : n ≤ 1000000) (IH : ∀ a' m' b', b' - a' < b - a → a' < m' → m' < b' → b' ≤ n → MergeK Q R B g n cap C a' m' b') : MergeK Q R B g n cap C a m b := by
  intro f W hf hs1 hs2 hx h
  have HQ := Lib.hid hQ; have HR0 := Lib.hid hR; have HC := Lib.hid hC; have HCF := Lib.hid hcf; have HF := Lib.hid hf; have HS1 := Lib.hid hs1; have HS2 := Lib.hid hs2; have HX := Lib.hid hx; have H0 := Lib.hid h; have HIH := Lib.hid IH
  obtain ⟨ma, hma⟩ : ∃ x, x = m - a := ⟨_, rfl⟩
  have hw1 : IntKind.i64.wrap ((m : Int) - a) = (ma : Int) := by rw [IntWalk.i64_in _ (by omega)]; omega
  have hw2 : ((ma : Int) == 1) = false := beq_eq_false_iff_ne.2 (by omega)
  have hw3 : ¬ (ma : Int) = 1 := by omega
  obtain ⟨mb, hmb'⟩ : ∃ x, x = b - m := ⟨_, rfl⟩
  have hw4 : IntKind.i64.wrap ((b : Int) - m) = (mb : Int) := by rw [IntWalk.i64_in _ (by omega)]; omega
  have hw5 : ((mb : Int) == 1) = false := beq_eq_false_iff_ne.2 (by omega)
  have hw6 : ¬ (mb : Int) = 1 := by omega
  obtain ⟨d, hd⟩ : ∃ x, x = (a + b) / 2 := ⟨_, rfl⟩
  have hdz : ((a : Int) + (b : Int)) / 2 = (d : Int) := by omega
  obtain ⟨nn, hnn⟩ : ∃ x, x = d + m := ⟨_, rfl⟩
  have hw7 : IntKind.i64.wrap ((d : Int) + m) = (nn : Int) := by rw [IntWalk.i64_in _ (by omega)]; omega
  obtain ⟨p, hp⟩ : ∃ x, x = d + m - 1 := ⟨_, rfl⟩
  have hw8 : IntKind.i64.wrap ((nn : Int) - 1) = (p : Int) := by rw [IntWalk.i64_in _ (by omega)]; omega
  have hnp : nn = p + 1 := by omega
  have had : a < d := by omega
  have hdb : d < b := by omega
  have HD := Lib.hid hd; have HNN := Lib.hid hnn; have HNP := Lib.hid hnp
  have HBF : Hid (d < m → BndF a m b (nn - b) d p) := fun h => by rw [hnn, hp]; exact BndF.far hd ham hmb h
  have HBN : Hid (m ≤ d → BndF a m b a m p) := fun h => by rw [hp]; exact BndF.near hd ham hmb h
  have hle : b ≤ nn ∨ m ≤ d := by omega
  clear hQ hR hC hcf hf hs1 hs2 hx h IH hma hmb' hd hnn hp hnp
  go_enter Tryz.func64, Tryz.ntmps64
  go_upto_if 140 with (fail)
  go_cut [20, 21] from 140 to 146 (fun s t wz => ∃ S0 R0 : Nat, s = .int .i64 S0 ∧ t = .int .i64 R0 ∧ BndF a m b S0 R0 p ∧ W = wz)
  case first =>
    by_cases c : d < m
    · have c1 : (m : Int) > d := by omega
      have c2 : (d : Int) < m := by omega
      obtain ⟨S0, hS0⟩ : ∃ x, x = nn - b := ⟨_, rfl⟩
      have hws : IntKind.i64.wrap ((nn : Int) - b) = (S0 : Int) := by have := HNN.out; have := HD.out; rw [IntWalk.i64_in _ (by omega)]; omega
      have HB := Lib.hid (HBF.out c)
      rw [← hS0] at HB
      clear hS0
      go_wp2_with fail
      go_meet
      case rel => exact ⟨S0, d, rfl, rfl, HB.out, rfl⟩
    · have c1 : ¬ (m : Int) > d := by omega
      have c2 : ¬ (d : Int) < m := by omega
      have HB := Lib.hid (HBN.out (by omega))
      go_wp2_with fail
      go_meet
      case rel => exact ⟨a, m, rfl, rfl, HB.out, rfl⟩
  case rest =>
    obtain ⟨S0, R0, rfl, rfl, hB, rfl⟩ := hcut
    obtain ⟨b1, b2, b3, b4, b5, -, -⟩ := id hB
    have HB := Lib.hid hB
    clear HBF HBN hB
    have hpn : p < n + n := by omega
    go_wp2_with fail
    go_loopw [20, 21] (fun s t wr => ∃ i j : Nat, s = .int .i64 i ∧ t = .int .i64 j ∧ Hid (SeekF R f S0 R0 p i j) ∧ Hid (RowF Q B g n cap f wr)) (fun s t _ => (intOf t).toNat - (intOf s).toNat)
    case atStart => exact ⟨S0, R0, rfl, rfl, ⟨Nat.le_refl _, b2, Nat.le_refl _, fun c h1 h2 => by omega, fun c h1 h2 => by omega⟩, H0⟩
    case round =>
      obtain ⟨i, j, rfl, rfl, HK, HR⟩ := hrel
      obtain ⟨g1, g2, g3, -, -⟩ := HK.out
      by_cases q : i < j
      · have q1 : (i : Int) < j := by omega
        obtain ⟨h, hh⟩ : ∃ h, h = (i + j) / 2 := ⟨_, rfl⟩
        have hhz : ((i : Int) + (j : Int)) / 2 = (h : Int) := by omega
        have hhi : i ≤ h := by omega
        have hhj : h < j := by omega
        have hhn : (h : Int) < n := by omega
        have hw : IntKind.i64.wrap ((h : Int) + 1) = ((h + 1 : Nat) : Int) := by rw [IntWalk.i64_in _ (by omega)]; omega
        obtain ⟨l, hl⟩ : ∃ l, l = p - h := ⟨_, rfl⟩
        have hwl : IntKind.i64.wrap ((p : Int) - h) = (l : Int) := by rw [IntWalk.i64_in _ (by omega)]; omega
        have hln : (l : Int) < n := by omega
        obtain ⟨v, hv⟩ : ∃ v, v = f h := ⟨_, rfl⟩
        obtain ⟨u, hu⟩ : ∃ u, u = f l := ⟨_, rfl⟩
        have hvu : v < u := by rw [hu, hv]; exact HX.out h l (by omega) (by omega) (by omega) (by omega)
        have hun : u < n := by rw [hu]; exact HF.out l (by omega)
        have hvn : v < n := by omega
        have hcf := HCF.out u v hvu hun
        have HCG : Hid (∀ k, Calls Tryz.prog 25 #[.int .i64 u, .int .i64 v, .pointer (some ⟨C, 0, none⟩)] (wr.drewN k) fun e w' => e = .returned (.int .i64 (cf u v)) ∧ ∃ q, w' = wr.drewN q) := fun k => (HC.out u v _ hun hvn (HQ.out.dr _ _ HR.out.1)).mono fun e w' ⟨h1, q, h2⟩ => ⟨h1, k + q, by rw [h2, World.drewN_drewN]⟩
        have c0 : wr.cell? ⟨g, l, none⟩ = some (.int .i64 (u : Int)) := by rw [hu]; exact HR.out.c (by omega)
        have c1 : wr.cell? ⟨g, h, none⟩ = some (.int .i64 (v : Int)) := by rw [hv]; exact HR.out.c (by omega)
        by_cases qc : cf u v < 0
        · have HK2 : Hid (SeekF R f S0 R0 p i h) := HK.out.down HR0.out HB.out HS1.out HS2.out hhi hhj (by rw [← hl, ← hv, ← hu]; exact hcf.1 qc)
          clear hcf hu hv hh hl
          go_wp2_with fail
          go_quiet ((go_at_call 25; exact HCG.out _))
          rename_i nq
          have H4 : Hid (RowF Q B g n cap f (wr.drewN nq)) := HR.out.dr HQ.out nq
          go_wp2_with fail
          go_roundw
          case rel => exact ⟨i, h, rfl, by go_num, HK2, H4⟩
          case measure => simp [intOf]; omega
        · have dq : decide (cf u v < 0) = false := decide_eq_false qc
          have dq2 : (!decide (cf u v < 0)) = true := by rw [dq]; rfl
          have HK2 : Hid (SeekF R f S0 R0 p (h + 1) j) := HK.out.up HR0.out HB.out HS1.out HS2.out hhi hhj (by rw [← hl, ← hv, ← hu]; exact (HR0.out.tot v u (by omega)).resolve_right fun e => qc (hcf.2 e))
          clear hcf hu hv hh hl
          go_wp2_with fail
          go_quiet ((go_at_call 25; exact HCG.out _))
          rename_i nq
          have H4 : Hid (RowF Q B g n cap f (wr.drewN nq)) := HR.out.dr HQ.out nq
          go_wp2_with fail
          go_roundw
          case rel => exact ⟨h + 1, j, by go_num, rfl, HK2, H4⟩
          case measure => simp [intOf]; omega
      · obtain rfl : i = j := by omega
        have q1 : ¬ (i : Int) < i := by omega
        obtain ⟨e, he⟩ : ∃ e, e = p + 1 - i := ⟨_, rfl⟩
        have hwe : IntKind.i64.wrap ((nn : Int) - i) = (e : Int) := by rw [IntWalk.i64_in _ (by have := HNP.out; omega)]; have := HNP.out; omega
        have HP : Hid (PartF R f a i m e b) := by rw [he]; exact HK.out.part HB.out HS1.out HS2.out HX.out
        have hde : d + m = i + e := by have := HNP.out; have := HNN.out; omega
        have HDE := Lib.hid hde
        have him : i ≤ m := HP.out.sm
        have hme : m ≤ e := HP.out.me
        have heb : e ≤ b := HP.out.eb
        have hai : a ≤ i := HP.out.sa
        have HEE := Lib.hid he
        clear he hde HK
        go_upto_region 39 with fail
        go_cut [185] from 178 to 184 (fun v wz => ∃ r : Bool, v = .bool r ∧ Hid (r = true ↔ i < m ∧ m < e) ∧ wr = wz)
        case first =>
          by_cases c1 : i < m
          · by_cases c2 : m < e
            · have c3 : decide ((i : Int) < (m : Int)) = true := decide_eq_true (by omega)
              have c4 : (m : Int) < e := by omega
              go_wp2_with fail
              go_meet
              case rel => exact ⟨true, rfl, ⟨fun _ => ⟨c1, c2⟩, fun _ => rfl⟩, rfl⟩
            · have c3 : decide ((i : Int) < (m : Int)) = true := decide_eq_true (by omega)
              have c4 : decide ((m : Int) < (e : Int)) = false := decide_eq_false (by omega)
              go_wp2_with fail
              go_meet
              case rel => exact ⟨false, rfl, ⟨fun h => (by cases h), fun h => by omega⟩, rfl⟩
          · have c3 : decide ((i : Int) < (m : Int)) = false := decide_eq_false (by omega)
            go_wp2_with fail
            go_meet
            case rel => exact ⟨false, rfl, ⟨fun h => (by cases h), fun h => by omega⟩, rfl⟩
        case rest =>
          obtain ⟨r, rfl, HC1, rfl⟩ := hcut
          go_upto_if 185 with (fail)
          go_cut [] from 185 to 191 (fun wz => Hid (RowF Q B g n cap (rotF f i m e) wz))
          case first =>
            cases r with
            | true =>
              obtain ⟨c1, c2⟩ := HC1.out.1 rfl
              have HRO := Lib.hid (rotate_any (cl := .func (.func 25) #[] #[.pointer (some ⟨C, 0, none⟩)]) HQ.out c1 c2 (by omega) hn HR.out)
              clear c1 c2
              go_wp2_with fail
              refine HRO.out.mono ?_
              rintro _ w5 ⟨rfl, H5⟩
              go_wp2_with fail
              go_meet
              case rel => exact H5
            | false =>
              have H5 : Hid (RowF Q B g n cap (rotF f i m e) wr) := HR.out.congr fun x _ => rot_none him hme (fun c => by have := HC1.out.2 c; cases this) x
              go_wp2_with fail
              go_meet
              case rel => exact H5
          case rest =>
            obtain ⟨w5, hw5'⟩ : ∃ w, w = wc := ⟨_, rfl⟩
            subst hw5'
            have H5 := hcut
            clear hcut
            have HF1 : Hid (∀ x, x < n → rotF f i m e x < n) := (rotF_perm (A := a) (Bb := b) hai him hme heb).bound hb HF.out
            clear HC1 HR HX HF
            go_upto_region 41 with fail
            go_cut [199] from 192 to 198 (fun v wz => ∃ r : Bool, v = .bool r ∧ Hid (r = true ↔ a < i ∧ i < d) ∧ w5 = wz)
            case first =>
              by_cases c1 : a < i
              · by_cases c2 : i < d
                · have c3 : decide ((a : Int) < (i : Int)) = true := decide_eq_true (by omega)
                  have c4 : (i : Int) < d := by omega
                  go_wp2_with fail
                  go_meet
                  case rel => exact ⟨true, rfl, ⟨fun _ => ⟨c1, c2⟩, fun _ => rfl⟩, rfl⟩
                · have c3 : decide ((a : Int) < (i : Int)) = true := decide_eq_true (by omega)
                  have c4 : decide ((i : Int) < (d : Int)) = false := decide_eq_false (by omega)
                  go_wp2_with fail
                  go_meet
                  case rel => exact ⟨false, rfl, ⟨fun h => (by cases h), fun h => by omega⟩, rfl⟩
              · have c3 : decide ((a : Int) < (i : Int)) = false := decide_eq_false (by omega)
                go_wp2_with fail
                go_meet
                case rel => exact ⟨false, rfl, ⟨fun h => (by cases h), fun h => by omega⟩, rfl⟩
            case rest =>
              obtain ⟨r2, rfl, HC2, rfl⟩ := hcut
              go_upto_if 199 with (fail)
              go_cut [] from 199 to 205 (fun wz => Hid (∃ f2, PermF a d (rotF f i m e) f2 ∧ SortedF R a d f2 ∧ RowF Q B g n cap f2 wz))
              case first =>
                cases r2 with
                | true =>
                  obtain ⟨c1, c2⟩ := HC2.out.1 rfl
                  have HRO := Lib.hid (HIH.out a i d (by omega) c1 c2 (by omega) (rotF f i m e) w5 HF1.out HP.out.l1 (HP.out.l2 HDE.out) (HP.out.l3 HDE.out) H5.out)
                  clear c1 c2
                  go_wp2_with fail
                  refine HRO.out.mono ?_
                  rintro _ w6 ⟨rfl, H6⟩
                  go_wp2_with fail
                  go_meet
                  case rel => exact H6
                | false =>
                  have H6 : Hid (∃ f2, PermF a d (rotF f i m e) f2 ∧ SortedF R a d f2 ∧ RowF Q B g n cap f2 w5) := ⟨_, PermF.refl _ _ _, by
                    have c : ¬ (a < i ∧ i < d) := fun c => by have := HC2.out.2 c; cases this
                    by_cases c1 : a = i
                    · rw [c1]; exact HP.out.l2 HDE.out
                    · have := HDE.out
                      rw [show d = i by omega]; exact HP.out.l1, H5.out⟩
                  go_wp2_with fail
                  go_meet
                  case rel => exact H6
              case rest =>
                obtain ⟨w6, hw6'⟩ : ∃ w, w = wc := ⟨_, rfl⟩
                subst hw6'
                obtain ⟨f2, p2, q2, r2'⟩ := hcut.out
                have HP2 := Lib.hid p2; have HQ2 := Lib.hid q2; have HR2 := Lib.hid r2'
                have HF2 : Hid (∀ x, x < n → f2 x < n) := p2.bound (by omega) HF1.out
                have HSM : Hid (∀ x, d ≤ x → f2 x = rotF f i m e x) := fun x hx => p2.out (by omega)
                clear HC2 hcut p2 q2 r2' H5
                have FIN : Hid (∀ f3 w', PermF d b f2 f3 → SortedF R d b f3 → RowF Q B g n cap f3 w' → ∃ f', PermF a b f f' ∧ SortedF R a b f' ∧ RowF Q B g n cap f' w') := fun f3 w' h1 h2 h3 =>
                  have h := HP.out.whole HR0.out HDE.out HP2.out HQ2.out h1 h2
                  ⟨f3, h.1, h.2, h3⟩
                go_upto_region 43 with fail
                go_cut [213] from 206 to 212 (fun v wz => ∃ r : Bool, v = .bool r ∧ Hid (r = true ↔ d < e ∧ e < b) ∧ w6 = wz)
                case first =>
                  by_cases c1 : d < e
                  · by_cases c2 : e < b
                    · have c3 : decide ((d : Int) < (e : Int)) = true := decide_eq_true (by omega)
                      have c4 : (e : Int) < b := by omega
                      go_wp2_with fail
                      go_meet
                      case rel => exact ⟨true, rfl, ⟨fun _ => ⟨c1, c2⟩, fun _ => rfl⟩, rfl⟩
                    · have c3 : decide ((d : Int) < (e : Int)) = true := decide_eq_true (by omega)
                      have c4 : decide ((e : Int) < (b : Int)) = false := decide_eq_false (by omega)
                      go_wp2_with fail
                      go_meet
                      case rel => exact ⟨false, rfl, ⟨fun h => (by cases h), fun h => by omega⟩, rfl⟩
                  · have c3 : decide ((d : Int) < (e : Int)) = false := decide_eq_false (by omega)
                    go_wp2_with fail
                    go_meet
                    case rel => exact ⟨false, rfl, ⟨fun h => (by cases h), fun h => by omega⟩, rfl⟩
                case rest =>
                  obtain ⟨r3, rfl, HC3, rfl⟩ := hcut
                  cases r3 with
                  | true =>
                    obtain ⟨c1, c2⟩ := HC3.out.1 rfl
                    have HRO := Lib.hid (HIH.out d e b (by omega) c1 c2 hb f2 w6 HF2.out ((HP.out.l4 HDE.out).same fun x h1 _ => HSM.out x h1) (HP.out.l5.same fun x h1 _ => HSM.out x (by omega)) (fun x y h1 h2 h3 h4 => by rw [HSM.out x h1, HSM.out y (by omega)]; exact HP.out.l6 HDE.out x y h1 h2 h3 h4) HR2.out)
                    clear c1 c2
                    go_wp2_with fail
                    refine HRO.out.mono ?_
                    rintro _ w7 ⟨rfl, H7⟩
                    have HZ : Hid (∃ f', PermF a b f f' ∧ SortedF R a b f' ∧ RowF Q B g n cap f' w7) := by
                      obtain ⟨f3, h1, h2, h3⟩ := H7.out
                      exact FIN.out f3 w7 h1 h2 h3
                    clear H7
                    go_wp2_with fail
                    go_end0
                    exact ⟨rfl, HZ⟩
                  | false =>
                    have HZ : Hid (∃ f', PermF a b f f' ∧ SortedF R a b f' ∧ RowF Q B g n cap f' w6) := FIN.out f2 w6 (PermF.refl _ _ _) (by
                      have c : ¬ (d < e ∧ e < b) := fun c => by have := HC3.out.2 c; cases this
                      have := HDE.out
                      by_cases c1 : d = e
                      · rw [c1]; exact HP.out.l5.same fun x h1 _ => HSM.out x (by omega)
                      · rw [show b = e by omega]; exact (HP.out.l4 HDE.out).same fun x h1 _ => HSM.out x h1) HR2.out
                    go_wp2_with fail
                    go_end0
                    exact ⟨rfl, HZ⟩
/-- two neighboring sorted ranges are merged -/
theorem merge_any {Q : World → Prop} {R : Nat → Nat → Prop} {cf : Nat → Nat → Int} {B g n cap C : Nat} (hQ : SQ Q g) (hR : OrdR R) (hC : CmpQ Q n C cf) (hcf : ∀ x y, y < x → x < n → (cf x y < 0 ↔ R x y)) (hn : n ≤ 1000000) :
    ∀ (k a m b : Nat), b - a < k → a < m → m < b → b ≤ n → MergeK Q R B g n cap C a m b := by
  intro k
  induction k with
  | zero => intro a m b h; omega
  | succ k ih =>
    intro a m b hk ham hmb hb
    by_cases c1 : m = a + 1
    · intro f W hf hs1 hs2 hx h
      exact mergeLeft_any hQ hR hC hcf c1 hmb hb hn hf hs2 (fun y h1 h2 => hx a y (Nat.le_refl _) ham h1 h2) h
    · by_cases c2 : b = m + 1
      · intro f W hf hs1 hs2 hx h
        exact mergeRight_any hQ hR hC hcf (by omega) c2 hb hn hf hs1 (fun y h1 h2 => hx y m h1 h2 (Nat.le_refl _) hmb) h
      · exact mergeMid_any hQ hR hC hcf (by omega) (by omega) hb hn fun a' m' b' h1 h2 h3 h4 => ih a' m' b' (by omega) h2 h3 h4
end Go.Proofs.YtfkogbomijonjaaGreatDoor
namespace Go.Proofs.YtfkogbomijonjaaGreatDoor
open Go Go.RowKit Gu

/-- the first blocks of 20 are sorted, up to a -/
structure FirstF (R : Nat → Nat → Prop) (n a : Nat) (h : Nat → Nat) : Prop where
  pm : PermF 0 n id h
  id' : ∀ x, a ≤ x → h x = x
  blk : ∀ x, x < n → h x / 20 = x / 20
  srt : ∀ x y, x < y → y < a → x / 20 = y / 20 → R (h x) (h y)
theorem PermF.lt {n : Nat} {h : Nat → Nat} (p : PermF 0 n id h) : ∀ x, x < n → h x < n := p.bound (Nat.le_refl _) fun _ hx => hx
theorem FirstF.start (R : Nat → Nat → Prop) (n : Nat) : FirstF R n 0 id := ⟨PermF.refl _ _ _, fun _ _ => rfl, fun _ _ => rfl, fun x y h1 h2 => by omega⟩
theorem FirstF.step {R : Nat → Nat → Prop} {n a b : Nat} {h h' : Nat → Nat} (H : FirstF R n a h) (ha : a % 20 = 0) (hb : b ≤ a + 20) (hab : a ≤ b) (hbn : b ≤ n) (p : PermF a b h h') (q : SortedF R a b h') : FirstF R n b h' := by
  obtain ⟨h1, h2, h3, h4⟩ := H
  obtain ⟨s, s1, s2, s3⟩ := p.src
  refine ⟨h1.trans (p.wide (Nat.zero_le _) hbn), fun x hx => by rw [p.out (by omega)]; exact h2 x (by omega), fun x hx => ?_, fun x y hxy hy he => ?_⟩
  · by_cases c : a ≤ x ∧ x < b
    · have := s2 x c.1 c.2
      rw [s1, h3 _ (by omega)]; omega
    · rw [p.out c]; exact h3 x hx
  · by_cases c : y < a
    · rw [p.out (x := x) (by omega), p.out (x := y) (by omega)]; exact h4 x y hxy c he
    · exact q x y (by omega) hxy hy
/-- all blocks of s are sorted, and hold their own numbers -/
structure BlF (R : Nat → Nat → Prop) (n s : Nat) (h : Nat → Nat) : Prop where
  pm : PermF 0 n id h
  blk : ∀ x, x < n → h x / s = x / s
  srt : ∀ x y, x < y → y < n → x / s = y / s → R (h x) (h y)
theorem FirstF.all {R : Nat → Nat → Prop} {n : Nat} {h : Nat → Nat} (H : FirstF R n n h) : BlF R n 20 h := ⟨H.pm, H.blk, H.srt⟩
theorem BlF.sorted {R : Nat → Nat → Prop} {n s : Nat} {h : Nat → Nat} (H : BlF R n s h) (hs : n ≤ s) : SortedF R 0 n h := fun x y _ hxy hy => H.srt x y hxy hy (by rw [Nat.div_eq_of_lt (by omega), Nat.div_eq_of_lt (by omega)])
/-- the blocks are merged in twos, up to a -/
structure StF (R : Nat → Nat → Prop) (n s a : Nat) (h : Nat → Nat) : Prop where
  pm : PermF 0 n id h
  i2 : ∀ x, x < n → h x / (2 * s) = x / (2 * s)
  i1 : ∀ x, a ≤ x → x < n → h x / s = x / s
  s2 : ∀ x y, x < y → y < a → y < n → x / (2 * s) = y / (2 * s) → R (h x) (h y)
  s1 : ∀ x y, a ≤ x → x < y → y < n → x / s = y / s → R (h x) (h y)
theorem BlF.start {R : Nat → Nat → Prop} {n s : Nat} {h : Nat → Nat} (H : BlF R n s h) (hs : s = 20 ∨ s = 40) : StF R n s 0 h := by
  obtain ⟨h1, h2, h3⟩ := H
  refine ⟨h1, fun x hx => ?_, fun x _ hx => h2 x hx, fun x y _ h => by omega, fun x y _ hxy hy he => h3 x y hxy hy he⟩
  have := h2 x hx
  rcases hs with rfl | rfl <;> omega
theorem StF.done {R : Nat → Nat → Prop} {n s a : Nat} {h : Nat → Nat} (H : StF R n s a h) (hs : s = 20 ∨ s = 40) (ha : a % (2 * s) = 0) (han : n ≤ a + s) : BlF R n (2 * s) h := by
  obtain ⟨h1, h2, h3, h4, h5⟩ := H
  refine ⟨h1, h2, fun x y hxy hy he => ?_⟩
  by_cases c : y < a
  · exact h4 x y hxy c hy he
  · refine h5 x y ?_ hxy hy ?_
    · rcases hs with rfl | rfl <;> omega
    · rcases hs with rfl | rfl <;> omega
section
variable {R : Nat → Nat → Prop} {n s a b : Nat} {h : Nat → Nat} (H : StF R n s a h) (hs : s = 20 ∨ s = 40) (ha : a % (2 * s) = 0) (hb : b ≤ a + 2 * s) (hbn : b ≤ n)
include H hs ha hb hbn
theorem StF.p1 : a + s < b → SortedF R a (a + s) h := fun hab x y hx hxy hy => H.s1 x y hx hxy (by omega) (by rcases hs with rfl | rfl <;> omega)
theorem StF.p2 : SortedF R (a + s) b h := fun x y hx hxy hy => H.s1 x y (by omega) hxy (by omega) (by rcases hs with rfl | rfl <;> omega)
theorem StF.p3 : ∀ x y, a ≤ x → x < a + s → a + s ≤ y → y < b → h x < h y := fun x y hx hxm hy hyb => by
  have e1 := H.i1 x hx (by omega)
  have e2 := H.i1 y (by omega) (by omega)
  rcases hs with rfl | rfl <;> omega
theorem StF.step {h' : Nat → Nat} (hab : a < b) (hbb : b = n ∨ b = a + 2 * s) (p : PermF a b h h') (q : SortedF R a b h') : StF R n s b h' := by
  obtain ⟨h1, h2, h3, h4, h5⟩ := H
  obtain ⟨u, s1, s2, s3⟩ := p.src
  refine ⟨h1.trans (p.wide (Nat.zero_le _) hbn), fun x hx => ?_, fun x hx hxn => by rw [p.out (by omega)]; exact h3 x (by omega) hxn, fun x y hxy hy hyn he => ?_, fun x y hx hxy hy he => by rw [p.out (x := x) (by omega), p.out (x := y) (by omega)]; exact h5 x y (by omega) hxy hy he⟩
  · by_cases c : a ≤ x ∧ x < b
    · have := s2 x c.1 c.2
      rw [s1, h2 _ (by omega)]
      rcases hs with rfl | rfl <;> omega
    · rw [p.out c]; exact h2 x hx
  · by_cases c : y < a
    · rw [p.out (x := x) (by omega), p.out (x := y) (by omega)]; exact h4 x y hxy c hyn he
    · exact q x y (by rcases hs with rfl | rfl <;> omega) hxy hy
end
set_option maxRecDepth 100000 in
set_option maxHeartbeats 2000000 in
theorem stable_any {Q : World → Prop} {R : Nat → Nat → Prop} {cf : Nat → Nat → Int} {B g n cap C : Nat} {W : World} (hQ : SQ Q g) (hR : OrdR R) (hC : CmpQ Q n C cf) (hcf : ∀ x y, y < x → x < n → (cf x y < 0 ↔ R x y)) (hn : n ≤ 80) (h : RowF Q B g n cap id W) :
    Calls Tryz.prog 43 #[.slice (some ⟨g, 0, none⟩) n cap, .int .i64 n, .func (.func 25) #[] #[.pointer (some ⟨C, 0, none⟩)]] W fun e w' => e = .returned (.tuple #[]) ∧ Hid (∃ f', PermF 0 n id f' ∧ SortedF R 0 n f' ∧ RowF Q B g n cap f' w') := by
  have HIN : Hid (∀ (a b : Nat) (f : Nat → Nat) W', b ≤ n → a ≤ n → (∀ x, x < n → f x < n) → (∀ x, a ≤ x → f x = x) → RowF Q B g n cap f W' → Calls Tryz.prog 63 #[.slice (some ⟨g, 0, none⟩) n cap, .int .i64 a, .int .i64 b, .func (.func 25) #[] #[.pointer (some ⟨C, 0, none⟩)]] W' fun e w' => e = .returned (.tuple #[]) ∧ Hid (∃ f', PermF a b f f' ∧ SortedF R a b f' ∧ RowF Q B g n cap f' w')) :=
    fun a b f W' h1 h2 h3 h4 h5 => insertion_any hQ hR hC hcf h1 (by omega) h2 h3 (fun x y hx hxy _ => by rw [h4 x hx, h4 y (by omega)]; exact hxy) h5
  have HME : Hid (∀ a m b, a < m → m < b → b ≤ n → MergeK Q R B g n cap C a m b) := fun a m b h1 h2 h3 => merge_any hQ hR hC hcf (by omega) (b - a + 1) a m b (Nat.lt_succ_self _) h1 h2 h3
  have H0 := Lib.hid h
  clear hQ hR hC hcf h
  go_enter Tryz.func43, Tryz.ntmps43
  go_wp2_with fail
  go_loopw [7, 8] (fun s t wr => ∃ (a b : Nat) (h : Nat → Nat), a ≤ n ∧ b ≤ 100 ∧ s = .int .i64 a ∧ t = .int .i64 b ∧ Hid (b = a + 20) ∧ Hid (a % 20 = 0) ∧ Hid (FirstF R n a h) ∧ Hid (RowF Q B g n cap h wr)) (fun s t _ => 100 - (intOf s).toNat)
  case atStart => exact ⟨0, 20, id, Nat.zero_le _, by omega, rfl, rfl, rfl, rfl, FirstF.start R n, H0⟩
  case round =>
    obtain ⟨a, b, h, han, hb100, rfl, rfl, HB, HA, HF, HR⟩ := hrel
    have hbz := HB.out
    by_cases q : b ≤ n
    · have q1 : (b : Int) ≤ n := by omega
      obtain ⟨b', hb'⟩ : ∃ x, x = b + 20 := ⟨_, rfl⟩
      have hw : IntKind.i64.wrap ((b : Int) + 20) = (b' : Int) := by rw [IntWalk.i64_in _ (by omega)]; omega
      have HI := Lib.hid (HIN.out a b h wr q han HF.out.pm.lt HF.out.id' HR.out)
      have HB' := Lib.hid hb'
      have hb1 : b' ≤ 100 := by omega
      have HAB : Hid (a < b) := by show a < b; omega
      clear hb' hbz
      go_wp2_with fail
      refine HI.out.mono ?_
      rintro _ w5 ⟨rfl, H5⟩
      obtain ⟨f', p', q', r'⟩ := H5.out
      have HF5 : Hid (FirstF R n b f') := HF.out.step HA.out (by have := HB.out; omega) (by have := HAB.out; omega) q p' q'
      have HA5 : Hid (b % 20 = 0) := by have := HA.out; have := HB.out; show b % 20 = 0; omega
      have HR5 := Lib.hid r'
      clear H5 p' q' r'
      go_wp2_with fail
      go_roundw
      case rel => exact ⟨b, b', f', q, hb1, rfl, rfl, HB', HA5, HF5, HR5⟩
      case measure => have := HAB.out; simp [intOf]; omega
    · have q1 : ¬ (b : Int) ≤ n := by omega
      have HI := Lib.hid (HIN.out a n h wr (Nat.le_refl _) han HF.out.pm.lt HF.out.id' HR.out)
      clear hbz
      go_wp2_with fail
      refine HI.out.mono ?_
      rintro _ w5 ⟨rfl, H5⟩
      obtain ⟨f', p', q', r'⟩ := H5.out
      have HF5 : Hid (BlF R n 20 f') := (HF.out.step HA.out (by have := HB.out; omega) han (Nat.le_refl _) p' q').all
      have HR5 := Lib.hid r'
      clear H5 p' q' r' HIN HF HR HI
      go_wp2_with fail
      go_loopw [6, 7, 8, 9] (fun s _ _ _ wr => ∃ (s0 : Nat) (h : Nat → Nat), s = .int .i64 s0 ∧ Hid (s0 = 20 ∨ s0 = 40 ∨ s0 = 80) ∧ Hid (BlF R n s0 h) ∧ Hid (RowF Q B g n cap h wr)) (fun s _ _ _ _ => 100 - (intOf s).toNat)
      case atStart => exact ⟨20, f', rfl, .inl rfl, HF5, HR5⟩
      case round =>
        obtain ⟨s0, h2, rfl, HS, HBL, HR2⟩ := hrel
        by_cases q2 : s0 < n
        · have q3 : (s0 : Int) < n := by omega
          have HS2 : Hid (s0 = 20 ∨ s0 = 40) := by
            show _ ∨ _
            have := HS.out; omega
          obtain ⟨ss, hss⟩ : ∃ x, x = 2 * s0 := ⟨_, rfl⟩
          have hsb : s0 ≤ 40 ∧ 20 ≤ s0 := by have := HS2.out; omega
          obtain ⟨hsb1, hsb2⟩ := hsb
          have hws : IntKind.i64.wrap ((2 : Int) * s0) = (ss : Int) := by rw [IntWalk.i64_in _ (by omega)]; omega
          have hws2 : IntKind.i64.wrap ((s0 : Int) * 2) = (ss : Int) := by rw [IntWalk.i64_in _ (by omega)]; omega
          have HSS := Lib.hid hss
          have HST0 : Hid (StF R n s0 0 h2) := HBL.out.start HS2.out
          clear hss
          go_wp2_with fail
          go_loopw [7, 8] (fun s t wr => ∃ (a b : Nat) (h : Nat → Nat), a ≤ n ∧ b ≤ 200 ∧ s = .int .i64 a ∧ t = .int .i64 b ∧ Hid (b = a + ss) ∧ Hid (a % (2 * s0) = 0) ∧ Hid (StF R n s0 a h) ∧ Hid (RowF Q B g n cap h wr)) (fun s t _ => 100 - (intOf s).toNat)
          case atStart => exact ⟨0, ss, h2, Nat.zero_le _, by have := HSS.out; omega, rfl, by go_num, by show ss = 0 + ss; omega, Nat.zero_mod _, HST0, HR2⟩
          case round =>
            obtain ⟨a2, b2, h3, han2, hb2, rfl, rfl, HB2, HA2, HT2, HR3⟩ := hrel
            obtain ⟨m2, hm2⟩ : ∃ x, x = a2 + s0 := ⟨_, rfl⟩
            have hwm : IntKind.i64.wrap ((a2 : Int) + s0) = (m2 : Int) := by rw [IntWalk.i64_in _ (by omega)]; omega
            by_cases q4 : b2 ≤ n
            · have q5 : (b2 : Int) ≤ n := by omega
              obtain ⟨b3, hb3⟩ : ∃ x, x = b2 + ss := ⟨_, rfl⟩
              have hw3 : IntKind.i64.wrap ((b2 : Int) + ss) = (b3 : Int) := by have := HSS.out; rw [IntWalk.i64_in _ (by omega)]; omega
              have HX : Hid (a2 < m2 ∧ m2 < b2 ∧ b2 = a2 + 2 * s0) := by have := HSS.out; have := HB2.out; show _ ∧ _ ∧ _; omega
              obtain ⟨x1, x2, x3⟩ := HX.out
              have HM := Lib.hid (HME.out a2 m2 b2 x1 x2 q4 h3 wr HT2.out.pm.lt (by rw [hm2]; exact HT2.out.p1 HS2.out HA2.out (Nat.le_of_eq x3) q4 (by omega)) (by rw [hm2]; exact HT2.out.p2 HS2.out HA2.out (Nat.le_of_eq x3) q4) (by rw [hm2]; exact HT2.out.p3 HS2.out HA2.out (Nat.le_of_eq x3) q4) HR3.out)
              have HB3 := Lib.hid hb3
              have hb3' : b3 ≤ 200 := by have := HSS.out; omega
              clear hb3 hm2 x1 x2 x3
              go_wp2_with fail
              refine HM.out.mono ?_
              rintro _ w6 ⟨rfl, H6⟩
              obtain ⟨f6, p6, q6, r6⟩ := H6.out
              have HT6 : Hid (StF R n s0 b2 f6) := HT2.out.step HS2.out HA2.out (Nat.le_of_eq HX.out.2.2) q4 (by have := HX.out; omega) (.inr HX.out.2.2) p6 q6
              have HA6 : Hid (b2 % (2 * s0) = 0) := by show _ = _; rw [HX.out.2.2, Nat.add_mod_right]; exact HA2.out
              have HR6 := Lib.hid r6
              clear H6 p6 q6 r6
              go_wp2_with fail
              go_roundw
              case rel => exact ⟨b2, b3, f6, q4, hb3', rfl, rfl, HB3, HA6, HT6, HR6⟩
              case measure => have := HX.out; simp [intOf]; omega
            · have q5 : ¬ (b2 : Int) ≤ n := by omega
              by_cases q6 : m2 < n
              · have q7 : (m2 : Int) < n := by omega
                have HX : Hid (a2 < m2 ∧ n ≤ a2 + 2 * s0 ∧ a2 < n) := by have := HSS.out; have := HB2.out; show _ ∧ _ ∧ _; omega
                obtain ⟨x1, x2, x3⟩ := HX.out
                have HM := Lib.hid (HME.out a2 m2 n x1 q6 (Nat.le_refl _) h3 wr HT2.out.pm.lt (by rw [hm2]; exact HT2.out.p1 HS2.out HA2.out x2 (Nat.le_refl _) (by omega)) (by rw [hm2]; exact HT2.out.p2 HS2.out HA2.out x2 (Nat.le_refl _)) (by rw [hm2]; exact HT2.out.p3 HS2.out HA2.out x2 (Nat.le_refl _)) HR3.out)
                clear hm2 x1 x2 x3
                go_wp2_with fail
                refine HM.out.mono ?_
                rintro _ w6 ⟨rfl, H6⟩
                obtain ⟨f6, p6, q6', r6⟩ := H6.out
                have HT6 : Hid (BlF R n ss f6) := by
                  rw [HSS.out]
                  have := HT2.out.step HS2.out HA2.out HX.out.2.1 (Nat.le_refl _) HX.out.2.2 (.inl rfl) p6 q6'
                  exact ⟨this.pm, this.i2, fun x y h1 h2 h3 => this.s2 x y h1 h2 h2 h3⟩
                have HR6 := Lib.hid r6
                have HS6 : Hid (ss = 20 ∨ ss = 40 ∨ ss = 80) := by have := HS2.out; have := HSS.out; show _ ∨ _ ∨ _; omega
                clear H6 p6 q6' r6
                go_wp2_with fail
                go_roundw
                case rel => exact ⟨ss, f6, rfl, HS6, HT6, HR6⟩
                case measure => have := HSS.out; simp [intOf]; omega
              · have q7 : ¬ (m2 : Int) < n := by omega
                have HT6 : Hid (BlF R n ss h3) := by
                  rw [HSS.out]
                  exact HT2.out.done HS2.out HA2.out (by omega)
                have HS6 : Hid (ss = 20 ∨ ss = 40 ∨ ss = 80) := by have := HS2.out; have := HSS.out; show _ ∨ _ ∨ _; omega
                clear hm2
                go_wp2_with fail
                go_roundw
                case rel => exact ⟨ss, h3, rfl, HS6, HT6, HR3⟩
                case measure => have := HSS.out; simp [intOf]; omega
        · have q3 : ¬ (s0 : Int) < n := by omega
          have HZ : Hid (∃ f', PermF 0 n id f' ∧ SortedF R 0 n f' ∧ RowF Q B g n cap f' wr) := ⟨h2, HBL.out.pm, HBL.out.sorted (by omega), HR2.out⟩
          go_wp2_with fail
          go_end0
          exact ⟨rfl, HZ⟩
theorem SortStable_any {Q : World → Prop} {R : Nat → Nat → Prop} {cf : Nat → Nat → Int} {B g n cap C : Nat} {W : World} (hQ : SQ Q g) (hR : OrdR R) (hC : CmpQ Q n C cf) (hcf : ∀ x y, y < x → x < n → (cf x y < 0 ↔ R x y)) (hn : n ≤ 80) (h : RowF Q B g n cap id W) :
    Calls Tryz.prog 24 #[.slice (some ⟨g, 0, none⟩) n cap, .func (.func 25) #[] #[.pointer (some ⟨C, 0, none⟩)]] W fun e w' => e = .returned (.tuple #[]) ∧ Hid (∃ f', PermF 0 n id f' ∧ SortedF R 0 n f' ∧ RowF Q B g n cap f' w') := by
  have HS := Lib.hid (stable_any hQ hR hC hcf hn h)
  clear hQ hR hC hcf h
  go_enter Tryz.func24, Tryz.ntmps24
  go_wp2_with fail
  refine HS.out.mono ?_
  rintro _ w5 ⟨rfl, H5⟩
  go_wp2_with fail
  go_end0
  exact ⟨rfl, H5⟩
end Go.Proofs.YtfkogbomijonjaaGreatDoor
