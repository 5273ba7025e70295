/- Contracts and lemmas (several texts merged into one). -/
import Derived.Below
import Derived.Test.YtjbenhmpeceaeaaProg
import Derived.WalkKit
import Derived.Handy
import Derived.Deep.OwnRows
import Derived.Deep.Draws
import Derived.Lib.Hide
import Derived.RegionTactic
import Derived.ChangeAlike
import Derived.Deep.RegionHeld3
namespace Gs

structure R where
  lo : Int
  hi : Int
  tag : Int
deriving DecidableEq

/-- the runs go from a to b, none is empty, and each has the tag that f says -/
def Fits (f : Int → Int) : Int → List R → Int → Prop
  | a, [], b => a = b
  | a, r :: l, b => r.lo = a ∧ r.lo < r.hi ∧ (∀ p, r.lo ≤ p → p < r.hi → f p = r.tag) ∧ Fits f r.hi l b
/-- neighbors have different tags -/
def Alt : List R → Prop
  | [] => True
  | [_] => True
  | r :: s :: l => r.tag ≠ s.tag ∧ Alt (s :: l)
/-- how many pieces have the tag -/
def cnt (k : Int) : List R → Int
  | [] => 0
  | r :: l => (if r.tag = k then r.hi - r.lo else 0) + cnt k l
/-- bounds: what keeps all sums within an int -/
def Bd1 (r : R) : Prop := 0 ≤ r.lo ∧ r.lo < r.hi ∧ r.hi ≤ 1099511627776 ∧ 0 ≤ r.tag ∧ r.tag < 16
def Bd (l : List R) : Prop := l.length ≤ 100000 ∧ ∀ r ∈ l, Bd1 r

theorem Fits.le {f : Int → Int} : ∀ {l : List R} {a b : Int}, Fits f a l b → a ≤ b
  | [], _, _, h => by simp only [Fits] at h; omega
  | r :: l, _, _, h => by have := Fits.le h.2.2.2; have := h.1; have := h.2.1; omega
theorem Fits.lt {f : Int → Int} {r : R} {l : List R} {a b : Int} (h : Fits f a (r :: l) b) : a < b := by
  have := Fits.le h.2.2.2; have := h.1; have := h.2.1; omega
theorem fits_append {f : Int → Int} : ∀ {l k : List R} {a b : Int}, Fits f a (l ++ k) b ↔ ∃ m, Fits f a l m ∧ Fits f m k b
  | [], k, a, b => ⟨fun h => ⟨a, rfl, h⟩, fun ⟨m, h1, h2⟩ => by cases h1; exact h2⟩
  | r :: l, k, a, b => by
    simp only [List.cons_append, Fits, fits_append (l := l)]
    constructor
    · rintro ⟨h1, h2, h3, m, h4, h5⟩; exact ⟨m, ⟨h1, h2, h3, h4⟩, h5⟩
    · rintro ⟨m, ⟨h1, h2, h3, h4⟩, h5⟩; exact ⟨h1, h2, h3, m, h4, h5⟩
theorem Fits.congr {f g : Int → Int} : ∀ {l : List R} {a b : Int}, Fits f a l b → (∀ p, a ≤ p → p < b → f p = g p) → Fits g a l b
  | [], _, _, h, _ => h
  | r :: l, a, b, h, e => by
    obtain ⟨h1, h2, h3, h4⟩ := h
    have := Fits.le h4
    exact ⟨h1, h2, fun p p1 p2 => by rw [← e p (by omega) (by omega)]; exact h3 p p1 p2, h4.congr fun p p1 p2 => e p (by omega) p2⟩
theorem Fits.ends {f : Int → Int} : ∀ {l : List R} {a b c : Int}, Fits f a l b → Fits f a l c → b = c
  | [], _, _, _, h, k => by simp only [Fits] at h k; omega
  | _ :: _, _, _, _, h, k => Fits.ends h.2.2.2 k.2.2.2
theorem Alt.tail {r : R} {l : List R} (h : Alt (r :: l)) : Alt l := by
  cases l with
  | nil => trivial
  | cons s l => exact h.2
theorem Alt.left : ∀ {l k : List R}, Alt (l ++ k) → Alt l
  | [], _, _ => trivial
  | [_], _, _ => trivial
  | _r :: s :: l, k, h => ⟨h.1, Alt.left (l := s :: l) (k := k) h.2⟩
theorem Alt.right : ∀ {l k : List R}, Alt (l ++ k) → Alt k
  | [], _, h => h
  | _ :: l, k, h => Alt.right (l := l) (k := k) (Alt.tail h)
/-- a list that fits and alternates: its first run ends where the function changes -/
theorem head_le {f : Int → Int} {r s : R} {l k : List R} {a b : Int} (h : Fits f a (r :: l) b) (hl : Alt (r :: l)) (h' : Fits f a (s :: k) b) : s.hi ≤ r.hi := by
  obtain ⟨h1, h2, h3, h4⟩ := h
  obtain ⟨g1, g2, g3, g4⟩ := h'
  have gb := g4.le
  refine Classical.byContradiction fun hn => ?_
  have hlt : r.hi < s.hi := by omega
  cases l with
  | nil => simp only [Fits] at h4; omega
  | cons t l =>
    obtain ⟨t1, t2, t3, _⟩ := h4
    have e1 : f r.hi = t.tag := t3 _ (by omega) (by omega)
    have e2 : f r.hi = s.tag := g3 _ (by omega) hlt
    have e3 : f a = r.tag := h3 _ (by omega) (by omega)
    have e4 : f a = s.tag := g3 _ (by omega) (by omega)
    exact hl.1 (by rw [← e3, e4, ← e2, e1])
/-- two lists of runs that fit the same function are the same -/
theorem fits_same {f : Int → Int} : ∀ {l k : List R} {a b : Int}, Fits f a l b → Alt l → Fits f a k b → Alt k → l = k
  | [], [], _, _, _, _, _, _ => rfl
  | [], r :: k, _, _, h, _, h', _ => by have := h'.lt; simp only [Fits] at h; omega
  | r :: l, [], _, _, h, _, h', _ => by have := h.lt; simp only [Fits] at h'; omega
  | r :: l, s :: k, a, b, h, hl, h', hk => by
    have e1 := head_le h hl h'
    have e2 := head_le h' hk h
    obtain ⟨h1, h2, h3, h4⟩ := h
    obtain ⟨g1, g2, g3, g4⟩ := h'
    have et : r.tag = s.tag := by rw [← h3 a (by omega) (by omega), ← g3 a (by omega) (by omega)]
    have eh : r.hi = s.hi := by omega
    have er : r = s := by cases r; cases s; simp at *; omega
    subst er
    rw [fits_same h4 hl.tail g4 hk.tail]
theorem alt_append {x : R} : ∀ {l : List R} {k : List R}, Alt l → Alt (x :: k) → (∀ y, l.getLast? = some y → y.tag ≠ x.tag) → Alt (l ++ x :: k)
  | [], _, _, h, _ => h
  | [y], _, _, h, e => ⟨e y rfl, h⟩
  | y :: z :: l, k, hl, h, e => ⟨hl.1, alt_append (l := z :: l) hl.2 h (fun u hu => e u (by simpa using hu))⟩
theorem alt_cons {x : R} {l : List R} (hl : Alt l) (e : ∀ y, l.head? = some y → x.tag ≠ y.tag) : Alt (x :: l) := by
  cases l with
  | nil => trivial
  | cons y l => exact ⟨e y rfl, hl⟩
theorem alt_last {x y : R} : ∀ {l : List R}, Alt (l ++ [x]) → l.getLast? = some y → y.tag ≠ x.tag
  | [], _, h => by simp at h
  | [z], h, e => by simp at e; subst e; exact h.1
  | z :: u :: l, h, e => alt_last (l := u :: l) h.2 (by simpa using e)
/-- the tag at the last piece of a list -/
theorem Fits.last {f : Int → Int} {l : List R} {a b : Int} {y : R} (h : Fits f a l b) (e : l.getLast? = some y) : f (b - 1) = y.tag ∧ y.hi = b ∧ y.lo < b := by
  obtain ⟨k, rfl⟩ : ∃ k, l = k ++ [y] := by
    rcases List.eq_nil_or_concat l with rfl | ⟨k, z, rfl⟩
    · simp at e
    · simp at e; subst e; exact ⟨k, by simp⟩
  obtain ⟨m, _, h1, h2, h3, h4⟩ := fits_append.1 h
  simp only [Fits] at h4
  exact ⟨h3 _ (by omega) (by omega), h4, by omega⟩
theorem Fits.first {f : Int → Int} {l : List R} {a b : Int} {y : R} (h : Fits f a l b) (e : l.head? = some y) : f a = y.tag ∧ y.lo = a ∧ a < y.hi := by
  cases l with
  | nil => simp at e
  | cons z l =>
    simp at e; subst e
    obtain ⟨h1, h2, h3, _⟩ := h
    exact ⟨h3 _ (by omega) (by omega), h1, by omega⟩
/-- the parts of a split -/
theorem fits_cut {f : Int → Int} {l : List R} {a b : Int} (h : Fits f a l b) : l = [] ∧ a = b ∨ ∃ r k, l = r :: k := by
  cases l with
  | nil => exact .inl ⟨rfl, h⟩
  | cons r k => exact .inr ⟨r, k, rfl⟩
theorem cnt_append (k : Int) : ∀ (l m : List R), cnt k (l ++ m) = cnt k l + cnt k m
  | [], m => by simp [cnt]
  | r :: l, m => by simp only [List.cons_append, cnt, cnt_append k l m]; omega
theorem cnt_bd {k : Int} : ∀ {l : List R}, (∀ r ∈ l, Bd1 r) → 0 ≤ cnt k l ∧ cnt k l ≤ 1099511627776 * l.length
  | [], _ => by simp [cnt]
  | r :: l, h => by
    have h1 := h r (by simp)
    have h2 := cnt_bd (k := k) (l := l) (fun x hx => h x (by simp [hx]))
    unfold Bd1 at h1
    simp only [cnt, List.length_cons]
    split <;> omega
theorem Bd.cnt {l : List R} (h : Bd l) (k : Int) : 0 ≤ cnt k l ∧ cnt k l ≤ 109951162777600000 := by
  have := cnt_bd (k := k) h.2
  have := h.1
  omega
theorem Bd.left {l k : List R} (h : Bd (l ++ k)) : Bd l := ⟨by have := h.1; simp at this; omega, fun r hr => h.2 r (by simp [hr])⟩
theorem Bd.right {l k : List R} (h : Bd (l ++ k)) : Bd k := ⟨by have := h.1; simp at this; omega, fun r hr => h.2 r (by simp [hr])⟩
theorem Bd.head {r : R} {l : List R} (h : Bd (r :: l)) : Bd1 r := h.2 r (by simp)
theorem Bd.tail {r : R} {l : List R} (h : Bd (r :: l)) : Bd l := ⟨by have := h.1; simp at this; omega, fun x hx => h.2 x (by simp [hx])⟩

/-- a tree of runs -/
inductive T where
  | nil : T
  | node (l : T) (r : R) (k : T) : T
def T.L : T → List R
  | .nil => []
  | .node l r k => l.L ++ r :: k.L
def T.tall : T → Nat
  | .nil => 0
  | .node l _ k => max (1 + l.tall) (1 + k.tall)
def T.sz : T → Nat
  | .nil => 0
  | .node l _ k => 1 + l.sz + k.sz
theorem T.sz_eq : ∀ t : T, t.sz = t.L.length
  | .nil => rfl
  | .node l r k => by simp [T.sz, T.L, T.sz_eq l, T.sz_eq k]; omega
theorem T.tall_le : ∀ t : T, t.tall ≤ t.sz
  | .nil => Nat.le_refl _
  | .node l r k => by have := T.tall_le l; have := T.tall_le k; simp [T.tall, T.sz]; omega
end Gs
namespace Gs

/-- the runs of the function f from a to b -/
def Can (f : Int → Int) (a : Int) (l : List R) (b : Int) : Prop := Fits f a l b ∧ Alt l
/-- the pieces lie in a map, and f gives them tags -/
def Ctx (f : Int → Int) (a b : Int) : Prop := 0 ≤ a ∧ b ≤ 1099511627776 ∧ ∀ p, a ≤ p → p < b → 0 ≤ f p ∧ f p < 16

theorem Fits.bd {f : Int → Int} : ∀ {l : List R} {a b : Int}, Fits f a l b → Ctx f a b → ∀ r ∈ l, Bd1 r
  | [], _, _, _, _ => by simp
  | r :: l, a, b, h, c => by
    have hle := h.2.2.2.le
    obtain ⟨h1, h2, h3, h4⟩ := h
    obtain ⟨c1, c2, c3⟩ := c
    intro x hx
    rcases List.mem_cons.1 hx with rfl | hx
    · have := c3 a (by omega) (by omega)
      have := h3 a (by omega) (by omega)
      unfold Bd1
      omega
    · exact Fits.bd h4 ⟨by omega, c2, fun p p1 p2 => c3 p (by omega) p2⟩ x hx
theorem Ctx.sub {f : Int → Int} {a b a' b' : Int} (h : Ctx f a b) (ha : a ≤ a') (hb : b' ≤ b) : Ctx f a' b' := by
  obtain ⟨h1, h2, h3⟩ := h
  exact ⟨by omega, by omega, fun p p1 p2 => h3 p (by omega) (by omega)⟩
theorem Can.nil (f : Int → Int) (a : Int) : Can f a [] a := ⟨rfl, trivial⟩
theorem Can.le {f : Int → Int} {l : List R} {a b : Int} (h : Can f a l b) : a ≤ b := h.1.le
theorem Can.one {f : Int → Int} {r : R} (h : r.lo < r.hi) (e : ∀ p, r.lo ≤ p → p < r.hi → f p = r.tag) : Can f r.lo [r] r.hi := ⟨⟨rfl, h, e, rfl⟩, trivial⟩
theorem Can.same {f : Int → Int} {l k : List R} {a b : Int} (h : Can f a l b) (h' : Can f a k b) : l = k := fits_same h.1 h.2 h'.1 h'.2
theorem Can.congr {f g : Int → Int} {l : List R} {a b : Int} (h : Can f a l b) (e : ∀ p, a ≤ p → p < b → f p = g p) : Can g a l b := ⟨h.1.congr e, h.2⟩
theorem Can.join {f : Int → Int} {l k : List R} {a m b : Int} (h : Can f a l m) (h' : Can f m k b) (e : a < m → m < b → f (m - 1) ≠ f m) : Can f a (l ++ k) b := by
  refine ⟨fits_append.2 ⟨m, h.1, h'.1⟩, ?_⟩
  cases k with
  | nil => rw [List.append_nil]; exact h.2
  | cons x k =>
    refine alt_append h.2 h'.2 fun y hy => ?_
    obtain ⟨y1, y2, y3⟩ := h.1.last hy
    obtain ⟨x1, x2, x3⟩ := h'.1.first (y := x) rfl
    rw [← y1, ← x1]
    have ha : a < m := by
      cases l with
      | nil => simp at hy
      | cons z l => exact h.1.lt
    exact e ha h'.1.lt
theorem Can.part {f : Int → Int} {l k : List R} {a b : Int} (h : Can f a (l ++ k) b) : ∃ m, Can f a l m ∧ Can f m k b ∧ (a < m → m < b → f (m - 1) ≠ f m) := by
  obtain ⟨h1, h2⟩ := h
  obtain ⟨m, h3, h4⟩ := fits_append.1 h1
  refine ⟨m, ⟨h3, h2.left⟩, ⟨h4, h2.right⟩, fun ha hb => ?_⟩
  rcases List.eq_nil_or_concat l with rfl | ⟨l', z, rfl⟩
  · simp only [Fits] at h3; omega
  · cases k with
    | nil => simp only [Fits] at h4; omega
    | cons x k =>
      obtain ⟨y1, y2, y3⟩ := h3.last (y := z) (by simp)
      obtain ⟨x1, x2, x3⟩ := h4.first (y := x) rfl
      rw [y1, x1]
      have h5 : Alt (l' ++ z :: x :: k) := by simpa using h2
      exact h5.right.1
theorem Can.mid {f : Int → Int} {l k : List R} {r : R} {a b : Int} (h : Can f a (l ++ r :: k) b) :
    Can f a l r.lo ∧ Can f r.hi k b ∧ r.lo < r.hi ∧ (∀ p, r.lo ≤ p → p < r.hi → f p = r.tag) ∧ (a < r.lo → f (r.lo - 1) ≠ f r.lo) ∧ (r.hi < b → f (r.hi - 1) ≠ f r.hi) := by
  obtain ⟨m, h1, h2, h3⟩ := h.part
  have h4 : Can f m ([r] ++ k) b := h2
  obtain ⟨m', h5, h6, h7⟩ := h4.part
  have hlt := h2.1.lt
  obtain ⟨e1, e2, e3, e4⟩ := h5.1
  simp only [Fits] at e4
  subst e1; subst e4
  exact ⟨h1, h6, e2, e3, fun ha => h3 ha hlt, fun hb => h7 e2 hb⟩
theorem Can.make {f : Int → Int} {l k : List R} {r : R} {a b : Int} (h1 : Can f a l r.lo) (h2 : Can f r.hi k b) (h3 : r.lo < r.hi) (h4 : ∀ p, r.lo ≤ p → p < r.hi → f p = r.tag) (h5 : a < r.lo → f (r.lo - 1) ≠ f r.lo) (h6 : r.hi < b → f (r.hi - 1) ≠ f r.hi) : Can f a (l ++ r :: k) b :=
  h1.join ((Can.one h3 h4).join h2 fun _ hb => h6 hb) fun ha _ => h5 ha
/-- the last run of a list -/
theorem Can.last {f : Int → Int} {l : List R} {a b : Int} {y : R} (h : Can f a l b) (e : l.getLast? = some y) :
    y.hi = b ∧ y.lo < b ∧ a ≤ y.lo ∧ (∀ p, y.lo ≤ p → p < b → f p = y.tag) ∧ (a < y.lo → f (y.lo - 1) ≠ f y.lo) := by
  obtain ⟨k, rfl⟩ : ∃ k, l = k ++ [y] := by
    rcases List.eq_nil_or_concat l with rfl | ⟨k, z, rfl⟩
    · simp at e
    · simp at e; subst e; exact ⟨k, by simp⟩
  obtain ⟨h1, h2, h3, h4, h5, _⟩ := h.mid
  obtain ⟨h6, _⟩ := h2
  simp only [Fits] at h6
  subst h6
  exact ⟨rfl, h3, h1.le, h4, h5⟩
theorem Can.first {f : Int → Int} {l : List R} {a b : Int} {y : R} (h : Can f a l b) (e : l.head? = some y) :
    y.lo = a ∧ a < y.hi ∧ y.hi ≤ b ∧ (∀ p, a ≤ p → p < y.hi → f p = y.tag) ∧ (y.hi < b → f (y.hi - 1) ≠ f y.hi) := by
  obtain ⟨k, rfl⟩ : ∃ k, l = [] ++ y :: k := by
    cases l with
    | nil => simp at e
    | cons z l => simp at e; subst e; exact ⟨l, rfl⟩
  obtain ⟨h1, h2, h3, h4, _, h6⟩ := h.mid
  obtain ⟨h7, _⟩ := h1
  simp only [Fits] at h7
  subst h7
  exact ⟨rfl, h3, h2.le, h4, h6⟩

/-- how many pieces below at have the tag -/
def cb (at' k : Int) : List R → Int
  | [] => 0
  | r :: l => (if r.tag = k then max 0 (min at' r.hi - r.lo) else 0) + cb at' k l
theorem cb_append (at' k : Int) : ∀ (l m : List R), cb at' k (l ++ m) = cb at' k l + cb at' k m
  | [], m => by simp [cb]
  | r :: l, m => by simp only [List.cons_append, cb, cb_append at' k l m]; omega
theorem cb_low {f : Int → Int} (at' k : Int) : ∀ {l : List R} {a b : Int}, Fits f a l b → at' ≤ a → cb at' k l = 0
  | [], _, _, _, _ => rfl
  | r :: l, a, b, h, e => by
    obtain ⟨h1, h2, h3, h4⟩ := h
    simp only [cb, cb_low at' k h4 (by omega)]
    split <;> omega
theorem cb_high {f : Int → Int} (at' k : Int) : ∀ {l : List R} {a b : Int}, Fits f a l b → b ≤ at' → cb at' k l = cnt k l
  | [], _, _, _, _ => rfl
  | r :: l, a, b, h, e => by
    have hle := h.2.2.2.le
    obtain ⟨h1, h2, h3, h4⟩ := h
    simp only [cb, cnt, cb_high at' k h4 e]
    split <;> omega
theorem cb_bd {f : Int → Int} (at' k : Int) : ∀ {l : List R} {a b : Int}, Fits f a l b → 0 ≤ cb at' k l ∧ cb at' k l ≤ cnt k l ∧ cnt k l ≤ b - a
  | [], _, _, h => by simp only [Fits] at h; simp [cb, cnt]; omega
  | r :: l, a, b, h => by
    obtain ⟨h1, h2, h3, h4⟩ := h
    have := cb_bd at' k h4
    simp only [cb, cnt]
    split <;> omega
/-- the parts of countBelow's two ways -/
theorem cb_left {f : Int → Int} {l m : List R} {r : R} {a b at' k : Int} (h : Can f a (l ++ r :: m) b) (e : at' ≤ r.lo) : cb at' k (l ++ r :: m) = cb at' k l := by
  obtain ⟨h1, h2, h3, h4, _, _⟩ := h.mid
  rw [cb_append]
  simp only [cb, cb_low at' k h2.1 (by omega)]
  split <;> omega
theorem cb_right {f : Int → Int} {l m : List R} {r : R} {a b at' k : Int} (h : Can f a (l ++ r :: m) b) (e : r.lo < at') : cb at' k (l ++ r :: m) = cnt k l + cb at' k m + (if r.tag = k then min at' r.hi - r.lo else 0) := by
  obtain ⟨h1, h2, h3, h4, _, _⟩ := h.mid
  rw [cb_append, cb_high at' k h1.1 (by omega)]
  simp only [cb]
  split <;> omega
/-- one piece more -/
theorem cb_succ {f : Int → Int} {p k : Int} : ∀ {l : List R} {a b : Int}, Fits f a l b → a ≤ p → p < b → cb (p + 1) k l = cb p k l + if f p = k then 1 else 0
  | [], _, _, h, _, _ => by simp only [Fits] at h; omega
  | r :: l, a, b, h, h1, h2 => by
    obtain ⟨g1, g2, g3, g4⟩ := h
    simp only [cb]
    rcases Int.lt_or_le p r.hi with hp | hp
    · rw [cb_low (p + 1) k g4 (by omega), cb_low p k g4 (by omega), g3 p (by omega) hp]
      split <;> omega
    · rw [cb_succ g4 hp h2]
      have e1 : min (p + 1) r.hi = r.hi := by omega
      have e2 : min p r.hi = r.hi := by omega
      rw [e1, e2]
      omega
/-- as many pieces between as have the tag -/
theorem cb_mono {f : Int → Int} {k : Int} {l : List R} {a b : Int} (h : Fits f a l b) (n : Nat) : ∀ p, a ≤ p → p + n ≤ b → cb p k l ≤ cb (p + n) k l := by
  induction n with
  | zero => intro p _ _; simp
  | succ n ih =>
    intro p h1 h2
    have h3 := ih p h1 (by omega)
    have h4 := cb_succ (k := k) h (p := p + n) (by omega) (by omega)
    rw [show p + ((n + 1 : Nat) : Int) = p + n + 1 from by omega, h4]
    split <;> omega
theorem cb_le {f : Int → Int} {k : Int} {l : List R} {a b : Int} (h : Fits f a l b) {p q : Int} (h1 : a ≤ p) (h2 : p ≤ q) (h3 : q ≤ b) : cb p k l ≤ cb q k l := by
  have := cb_mono (k := k) h (q - p).toNat p h1 (by omega)
  rwa [show p + ((q - p).toNat : Int) = q from by omega] at this
/-- the piece with k pieces of its tag below it is one alone -/
theorem find_one {f : Int → Int} {t n : Int} {l : List R} {a b : Int} (h : Fits f a l b) {p q : Int} (p1 : a ≤ p) (p2 : p < b) (q1 : a ≤ q) (q2 : q < b) (hp : f p = t) (hq : f q = t) (cp : cb p t l = n) (cq : cb q t l = n) : p = q := by
  have key : ∀ x y, a ≤ x → x < y → y < b → f x = t → cb x t l < cb y t l := by
    intro x y x1 xy y2 hx
    have h1 := cb_succ (k := t) h x1 (by omega)
    rw [if_pos hx] at h1
    have h2 := cb_le (k := t) h (p := x + 1) (q := y) (by omega) (by omega) (by omega)
    omega
  rcases Int.lt_or_le p q with h1 | h1
  · have := key p q p1 h1 q2 hp; omega
  · rcases Int.lt_or_le q p with h2 | h2
    · have := key q p q1 h2 p2 hq; omega
    · omega
end Gs
namespace Go.Proofs.Ytjbenhmpeceaeaa
open Go Go.RowKit Gs

theorem bcell {W w1 : World} (hb : Below W.heap.size W w1) : (∀ b o, b < W.heap.size → w1.cell? ⟨b, o, none⟩ = W.cell? ⟨b, o, none⟩) ∧ (∀ b o, b < W.heap.size → w1.frozen? ⟨b, o, none⟩ = W.frozen? ⟨b, o, none⟩) :=
  ⟨fun b o h => hb.cell (p := ⟨b, o, none⟩) h, fun b o h => hb.frozen (p := ⟨b, o, none⟩) h⟩

/-- the cells of a node -/
def nodeF (v : Value) (r : R) (u : Value) (h n : Nat) (c : Nat → Int) : Nat → Value
  | 0 => v
  | 1 => .int .i64 r.lo
  | 2 => .int .i64 r.hi
  | 3 => .int .i64 r.tag
  | 4 => u
  | 5 => .int .i64 h
  | 6 => .int .i64 n
  | k + 7 => .int .i64 (c k)
/-- the value v is the tree t -/
def IsT (W : World) : T → Value → Prop
  | .nil, v => v = .pointer none
  | .node l r k, v => ∃ b x y, v = .pointer (some ⟨b, 0, none⟩) ∧ W.rowIs b 120 23 (nodeF x r y (T.node l r k).tall (T.node l r k).sz fun i => cnt i (T.node l r k).L) ∧ IsT W l x ∧ IsT W k y
theorem IsT.below {W W' : World} (hb : Below W.heap.size W W') : ∀ {t : T} {v : Value}, IsT W t v → IsT W' t v
  | .nil, _, h => h
  | .node _l _r _k, _v, ⟨b, x, y, hv, hr, hl, hk⟩ => ⟨b, x, y, hv, hr.of_block (hb.block b hr.lt), IsT.below hb hl, IsT.below hb hk⟩
theorem IsT.ptr {W : World} {t : T} {v : Value} (h : IsT W t v) : ∃ p, v = .pointer p := by
  cases t with
  | nil => exact ⟨_, h⟩
  | node l r k => obtain ⟨b, x, y, hv, _⟩ := h; exact ⟨_, hv⟩
end Go.Proofs.Ytjbenhmpeceaeaa
namespace Gs

theorem cnt_zero {f : Int → Int} {k : Int} {l : List R} {a b : Int} (h : Fits f a l b) (e : cnt k l = 0) (p : Int) (h1 : a ≤ p) (h2 : p < b) : f p ≠ k := by
  intro hp
  have h3 := cb_succ (k := k) h h1 h2
  rw [if_pos hp] at h3
  have h4 := cb_bd (p + 1) k h
  have h5 := cb_bd p k h
  omega
/-- the pieces below a piece of the middle run -/
theorem cb_mid {f : Int → Int} {l m : List R} {r : R} {a b p k : Int} (h : Can f a (l ++ r :: m) b) (h1 : r.lo ≤ p) (h2 : p ≤ r.hi) : cb p k (l ++ r :: m) = cnt k l + (if r.tag = k then p - r.lo else 0) := by
  obtain ⟨g1, g2, g3, g4, _, _⟩ := h.mid
  rw [cb_append, cb_high p k g1.1 h1]
  simp only [cb, cb_low p k g2.1 h2]
  split <;> omega
theorem cb_past {f : Int → Int} {l m : List R} {r : R} {a b p k : Int} (h : Can f a (l ++ r :: m) b) (h1 : r.hi ≤ p) : cb p k (l ++ r :: m) = cnt k l + (if r.tag = k then r.hi - r.lo else 0) + cb p k m := by
  obtain ⟨g1, g2, g3, g4, _, _⟩ := h.mid
  rw [cb_append, cb_high p k g1.1 (by omega)]
  simp only [cb]
  split <;> omega
/-- the sum of n counts -/
def cbs (at' : Int) (l : List R) : Nat → Int
  | 0 => 0
  | n + 1 => cbs at' l n + cb at' n l
theorem cbs_succ {f : Int → Int} {l : List R} {a b p : Int} (h : Fits f a l b) (h1 : a ≤ p) (h2 : p < b) (h3 : 0 ≤ f p) : ∀ n : Nat, cbs (p + 1) l n = cbs p l n + if f p < n then 1 else 0
  | 0 => by simp only [cbs]; split <;> omega
  | n + 1 => by
    simp only [cbs, cbs_succ h h1 h2 h3 n, cb_succ (k := n) h h1 h2]
    split <;> split <;> split <;> omega
theorem cbs_all {f : Int → Int} {l : List R} {a b : Int} (h : Fits f a l b) (c : Ctx f a b) (n : Nat) : a + n ≤ b → cbs (a + n) l 16 = n := by
  induction n with
  | zero =>
    intro _
    have h0 : ∀ k, cbs a l k = 0 := by
      intro k
      induction k with
      | zero => rfl
      | succ k ih => simp only [cbs, ih, cb_low a k h (Int.le_refl _)]; rfl
    simpa using h0 16
  | succ n ih =>
    intro hb
    have h3 := c.2.2 (a + n) (by omega) (by omega)
    have h4 := cbs_succ h (p := a + n) (by omega) (by omega) h3.1 16
    rw [show a + ((n + 1 : Nat) : Int) = a + n + 1 from by omega, h4, ih (by omega), if_pos (by have := h3.2; omega)]
    omega
/-- the run that holds a piece -/
theorem Can.at {f : Int → Int} {l m : List R} {r : R} {a b p : Int} (_h : Can f a (l ++ r :: m) b) (h1 : a ≤ p) (h2 : p < b) : (p < r.lo → 0 < r.lo - a) ∧ (r.hi ≤ p → 0 < b - r.hi) := by
  constructor <;> intro _ <;> omega

/-- what a run of the left part with the same tag becomes: the left part goes on to y's beginning -/
theorem glue_left {f : Int → Int} {l : List R} {a m : Int} {y : R} (h : Can f a l m) (e : l.getLast? = some y) : max a (min y.lo m) = y.lo := by
  obtain ⟨h1, h2, h3, _, _⟩ := h.last e
  omega
theorem glue_right {f : Int → Int} {l : List R} {m b : Int} {y : R} (h : Can f m l b) (e : l.head? = some y) : max m (min y.hi b) = y.hi := by
  obtain ⟨h1, h2, h3, _, _⟩ := h.first e
  omega
end Gs
namespace Go.Proofs.Ytjbenhmpeceaeaa
open Go Go.RowKit Gs

theorem tall_any (t : T) (v : Value) (W : World) (h : IsT W t v) : Calls Try.prog 79 #[v] W fun e w' => e = .returned (.int .i64 t.tall) ∧ W = w' := by
  cases t with
  | nil =>
    obtain rfl := h
    go_enter Try.func79, Try.ntmps79
    go_wp2_with fail
    go_ret
    exact ⟨rfl, rfl⟩
  | node l r k =>
    obtain ⟨b, x, y, rfl, hr, -, -⟩ := h
    have h5 := hr.cell (i := 5) (by decide)
    simp only [nodeF] at h5
    clear hr
    generalize (T.node l r k).tall = n at *
    go_enter Try.func79, Try.ntmps79
    go_wp2_with fail
    go_ret
    exact ⟨rfl, rfl⟩
theorem len_any (t : T) (v : Value) (W : World) (h : IsT W t v) : Calls Try.prog 71 #[v] W fun e w' => e = .returned (.int .i64 t.sz) ∧ W = w' := by
  cases t with
  | nil =>
    obtain rfl := h
    go_enter Try.func71, Try.ntmps71
    go_wp2_with fail
    go_ret
    exact ⟨rfl, rfl⟩
  | node l r k =>
    obtain ⟨b, x, y, rfl, hr, -, -⟩ := h
    have h6 := hr.cell (i := 6) (by decide)
    simp only [nodeF] at h6
    clear hr
    generalize (T.node l r k).sz = n at *
    go_enter Try.func71, Try.ntmps71
    go_wp2_with fail
    go_ret
    exact ⟨rfl, rfl⟩
theorem count_any (t : T) (v : Value) (W : World) (k : Nat) (hk : k < 16) (h : IsT W t v) : Calls Try.prog 53 #[v, .int .i64 k] W fun e w' => e = .returned (.int .i64 (cnt k t.L)) ∧ W = w' := by
  cases t with
  | nil =>
    obtain rfl := h
    go_enter Try.func53, Try.ntmps53
    go_wp2_with fail
    go_ret
    exact ⟨rfl, rfl⟩
  | node l r m =>
    obtain ⟨b, x, y, rfl, hr, -, -⟩ := h
    have h6 := hr.cell (i := k + 7) (by omega)
    simp only [nodeF] at h6
    rw [Nat.add_comm] at h6
    have hk1 : (k : Int) < 16 := by omega
    clear hr
    generalize cnt k (T.node l r m).L = n at *
    go_enter Try.func53, Try.ntmps53
    go_wp2_with fail
    go_ret
    exact ⟨rfl, rfl⟩
end Go.Proofs.Ytjbenhmpeceaeaa
namespace Go.Proofs.Ytjbenhmpeceaeaa
open Go Go.RowKit Gs

section
variable {W : World} {G : Nat} {x y : Value} {r : R} {h n : Nat} {c : Nat → Int}
theorem node_new (W : World) (x y : Value) (r : R) : (W.alloc (.cells #[x, .int .i64 r.lo, .int .i64 r.hi, .int .i64 r.tag, y, .int .i64 1, .int .i64 1, .int .i64 0, .int .i64 0, .int .i64 0, .int .i64 0, .int .i64 0, .int .i64 0, .int .i64 0, .int .i64 0, .int .i64 0, .int .i64 0, .int .i64 0, .int .i64 0, .int .i64 0, .int .i64 0, .int .i64 0, .int .i64 0] 120)).rowIs W.heap.size 120 23 (nodeF x r y 1 1 fun _ => 0) := by
  refine World.rowIs_alloc W _ _ _ fun i hi => ?_
  have hi' : i < 23 := hi
  match i, hi' with
  | 0, _ | 1, _ | 2, _ | 3, _ | 4, _ | 5, _ | 6, _ | 7, _ | 8, _ | 9, _ | 10, _ | 11, _ | 12, _ | 13, _ | 14, _ | 15, _ | 16, _ | 17, _ | 18, _ | 19, _ | 20, _ | 21, _ | 22, _ => rfl
  | k + 23, hk => omega
theorem node_piece (hr : W.rowIs G 120 23 (nodeF x r y h n c)) (i : Nat) (v : Int) : (W.setCell ⟨G, 7 + i, none⟩ (.int .i64 v)).rowIs G 120 23 (nodeF x r y h n fun q => if q = i then v else c q) := by
  refine (hr.set (7 + i) (.int .i64 v)).congr fun j _ => ?_
  match j with
  | 0 | 1 | 2 | 3 | 4 | 5 | 6 => rw [if_neg (by omega)]; rfl
  | k + 7 =>
    by_cases e : k = i
    · subst e; simp [nodeF, Nat.add_comm]
    · rw [if_neg (by omega)]; simp [nodeF, e]
theorem node_tall (hr : W.rowIs G 120 23 (nodeF x r y h n c)) (m : Nat) : (W.setCell ⟨G, 5, none⟩ (.int .i64 m)).rowIs G 120 23 (nodeF x r y m n c) := by
  refine (hr.set 5 (.int .i64 m)).congr fun j _ => ?_
  match j with
  | 0 | 1 | 2 | 3 | 4 | 5 | 6 => rfl
  | k + 7 => rw [if_neg (by omega)]; rfl
theorem node_runs (hr : W.rowIs G 120 23 (nodeF x r y h n c)) (m : Nat) : (W.setCell ⟨G, 6, none⟩ (.int .i64 m)).rowIs G 120 23 (nodeF x r y h m c) := by
  refine (hr.set 6 (.int .i64 m)).congr fun j _ => ?_
  match j with
  | 0 | 1 | 2 | 3 | 4 | 5 | 6 => rfl
  | k + 7 => rw [if_neg (by omega)]; rfl
end
/-- what has been summed up when j of the two parts have been gone through -/
def hJ (l k : T) : Nat → Nat
  | 0 => 1
  | 1 => max 1 (1 + l.tall)
  | _ => max (max 1 (1 + l.tall)) (1 + k.tall)
def nJ (l k : T) : Nat → Nat
  | 0 => 1
  | 1 => 1 + l.sz
  | _ => 1 + l.sz + k.sz
def cJ (l : T) (r : R) (k : T) : Nat → Nat → Int
  | 0, i => if r.tag = i then r.hi - r.lo else 0
  | 1, i => (if r.tag = i then r.hi - r.lo else 0) + cnt i l.L
  | _, i => (if r.tag = i then r.hi - r.lo else 0) + cnt i l.L + cnt i k.L
theorem hJ_pos (l k : T) (j : Nat) : 1 ≤ hJ l k j := by
  match j with
  | 0 | 1 | j + 2 => simp only [hJ]; omega
theorem cJ_bd {l k : T} {r : R} (hb : Bd (l.L ++ r :: k.L)) (j i : Nat) : 0 ≤ cJ l r k j i ∧ cJ l r k j i ≤ 329853488332800000 := by
  have h1 := hb.left.cnt i
  have h2 := hb.right.tail.cnt i
  have h3 := hb.right.head
  unfold Bd1 at h3
  match j with
  | 0 | 1 | j + 2 => simp only [cJ]; split <;> omega
theorem hJ_all (l k : T) (r : R) : hJ l k 2 = (T.node l r k).tall := by simp only [hJ, T.tall]; omega
theorem nJ_all (l k : T) (r : R) : nJ l k 2 = (T.node l r k).sz := rfl
theorem cJ_all (l k : T) (r : R) (i : Nat) : cJ l r k 2 i = cnt i (T.node l r k).L := by simp only [cJ, T.L, cnt_append, cnt]; omega
/-- the j-th part, and what it adds -/
theorem part_of {W : World} {l k : T} {r : R} {x y : Value} {j : Nat} (hj : j < 2) (hl : IsT W l x) (hk : IsT W k y) (hb : Bd (l.L ++ r :: k.L)) :
    ∃ t z, IsT W t z ∧ Bd t.L ∧ (∀ w : World, (Instr.index 128 (.agg #[x, y]) (.int .i64 j)).run Try.prog w = .ok z w) ∧ hJ l k (j + 1) = max (hJ l k j) (1 + t.tall) ∧ nJ l k (j + 1) = nJ l k j + t.sz ∧ (∀ i, cJ l r k (j + 1) i = cJ l r k j i + cnt i t.L) ∧ t.tall ≤ 100000 ∧ t.sz ≤ 100000 ∧ hJ l k j ≤ 100001 ∧ nJ l k j ≤ 100001 := by
  have h1 := hb.1
  have h2 := l.sz_eq; have h3 := k.sz_eq; have h4 := l.tall_le; have h5 := k.tall_le
  simp at h1
  have h01 : j = 0 ∨ j = 1 := by omega
  rcases h01 with rfl | rfl
  · exact ⟨l, x, hl, hb.left, fun _ => by kernel_rfl, rfl, rfl, fun _ => rfl, by omega, by omega, by simp only [hJ]; omega, by simp only [nJ]; omega⟩
  · exact ⟨k, y, hk, hb.right.tail, fun _ => by kernel_rfl, rfl, rfl, fun _ => rfl, by omega, by omega, by simp only [hJ]; omega, by simp only [nJ]; omega⟩
set_option maxHeartbeats 1000000 in
theorem newNode_any (l k : T) (lo hi tag : Int) (x y : Value) (W : World) (hl : IsT W l x) (hk : IsT W k y) (hb : Bd (l.L ++ ⟨lo, hi, tag⟩ :: k.L)) :
    Calls Try.prog 74 #[x, .agg #[.int .i64 lo, .int .i64 hi, .int .i64 tag], y] W fun e w' => ∃ b, e = .returned (.pointer (some ⟨b, 0, none⟩)) ∧ IsT w' (.node l ⟨lo, hi, tag⟩ k) (.pointer (some ⟨b, 0, none⟩)) ∧ Below W.heap.size W w' := by
  obtain ⟨b0, b1, b2, b3, b4⟩ := hb.right.head
  simp only at b0 b1 b2 b3 b4
  obtain ⟨g, rfl⟩ : ∃ g : Nat, tag = g := ⟨tag.toNat, by omega⟩
  have HBD := Lib.hid hb
  have HL := Lib.hid hl
  have HK := Lib.hid hk
  obtain ⟨px, rfl⟩ := hl.ptr
  obtain ⟨py, rfl⟩ := hk.ptr
  have hg : g < 16 := by omega
  have HG : Hid (∀ B, (((W.alloc (.cells #[.int .i64 lo, .int .i64 hi, .int .i64 g] B)).alloc (.cells #[.pointer px, .int .i64 lo, .int .i64 hi, .int .i64 g, .pointer py, .int .i64 1, .int .i64 1, .int .i64 0, .int .i64 0, .int .i64 0, .int .i64 0, .int .i64 0, .int .i64 0, .int .i64 0, .int .i64 0, .int .i64 0, .int .i64 0, .int .i64 0, .int .i64 0, .int .i64 0, .int .i64 0, .int .i64 0, .int .i64 0] 120))).rowIs (W.heap.size + 1) 120 23 (nodeF (.pointer px) ⟨lo, hi, g⟩ (.pointer py) 1 1 fun _ => 0)) := fun B => by
    have := node_new (W.alloc (.cells #[.int .i64 lo, .int .i64 hi, .int .i64 g] B)) (.pointer px) (.pointer py) ⟨lo, hi, g⟩
    rwa [World.size_alloc] at this
  clear hl hk hb b3 b4
  go_enter Try.func74, Try.ntmps74
  go_wp2_with fail
  obtain ⟨w2, HW2⟩ : ∃ w2, w2 = ((W.alloc (.cells #[.int .i64 lo, .int .i64 hi, .int .i64 g] 64)).alloc (.cells #[.pointer px, .int .i64 lo, .int .i64 hi, .int .i64 g, .pointer py, .int .i64 1, .int .i64 1, .int .i64 0, .int .i64 0, .int .i64 0, .int .i64 0, .int .i64 0, .int .i64 0, .int .i64 0, .int .i64 0, .int .i64 0, .int .i64 0, .int .i64 0, .int .i64 0, .int .i64 0, .int .i64 0, .int .i64 0, .int .i64 0] 120)) := ⟨_, rfl⟩
  have HB2 : Hid (Below W.heap.size W w2) := by
    rw [HW2]; exact ((Below.refl _ _).alloc (Nat.le_refl _) _).alloc (by simp) _
  have HR2 : Hid (w2.rowIs (W.heap.size + 1) 120 23 (nodeF (.pointer px) ⟨lo, hi, g⟩ (.pointer py) 1 1 fun _ => 0)) := by
    rw [HW2]; exact HG.out _
  have d0 : w2.cell? ⟨W.heap.size, 0, none⟩ = some (.int .i64 lo) := by
    rw [HW2]; exact (World.cell?_alloc_past _ _ _ (by simp)).trans (World.cell?_alloc_at _ _ _ _ (by simp))
  have d1 : w2.cell? ⟨W.heap.size, 1, none⟩ = some (.int .i64 hi) := by
    rw [HW2]; exact (World.cell?_alloc_past _ _ _ (by simp)).trans (World.cell?_alloc_at _ _ _ _ (by simp))
  have d2 : w2.cell? ⟨W.heap.size, 2, none⟩ = some (.int .i64 g) := by
    rw [HW2]; exact (World.cell?_alloc_past _ _ _ (by simp)).trans (World.cell?_alloc_at _ _ _ _ (by simp))
  rw [← HW2]
  clear HW2 HG
  have d3 : w2.cell? ⟨W.heap.size + 1, 7 + g, none⟩ = some (.int .i64 0) := by
    have := HR2.out.cell (i := 7 + g) (by omega)
    rw [Nat.add_comm 7 g] at this ⊢
    exact this
  have d4 := HR2.out.frozen (7 + g)
  have d5 : (g : Int) < 16 := by omega
  go_region
  have HS0 : Hid ((w2.drew.setCell ⟨W.heap.size + 1, 7 + g, none⟩ (.int .i64 (hi - lo))).rowIs (W.heap.size + 1) 120 23 (nodeF (.pointer px) ⟨lo, hi, g⟩ (.pointer py) (hJ l k 0) (nJ l k 0) (cJ l ⟨lo, hi, g⟩ k 0))) := by
    refine (node_piece (W := w2.drew) (HR2.out.drew) g (hi - lo)).congr fun j _ => ?_
    match j with
    | 0 | 1 | 2 | 3 | 4 | 5 | 6 => rfl
    | q + 7 =>
      simp only [nodeF, cJ]
      by_cases e : q = g
      · subst e; simp
      · rw [if_neg e, if_neg (by omega)]
  have HB0 : Hid (Below W.heap.size W (w2.drew.setCell ⟨W.heap.size + 1, 7 + g, none⟩ (.int .i64 (hi - lo)))) := HB2.out.drew.setCell (by show W.heap.size ≤ W.heap.size + 1; omega) _
  clear d0 d1 d2 d3 d4 HR2 HB2
  go_wp2_with fail
  go_loopw [30] (fun i wr => ∃ j : Nat, j ≤ 2 ∧ i = .int .i64 j ∧ Hid (wr.rowIs (W.heap.size + 1) 120 23 (nodeF (.pointer px) ⟨lo, hi, g⟩ (.pointer py) (hJ l k j) (nJ l k j) (cJ l ⟨lo, hi, g⟩ k j))) ∧ Hid (Below W.heap.size W wr)) (fun i _ => 2 - (intOf i).toNat)
  case atStart => exact ⟨0, by omega, rfl, HS0, HB0⟩
  case round =>
    obtain ⟨j, hj, rfl, HS, HB⟩ := hrel
    clear HS0 HB0
    by_cases hlt : j < 2
    · obtain ⟨t, z, ht, htb, hix, e1, e2, e3, b5, b6, b7, b8⟩ := part_of hlt HL.out HK.out HBD.out
      have ht_bd : Hid (∀ i : Nat, 0 ≤ cnt i t.L ∧ cnt i t.L ≤ 109951162777600000) := fun i => htb.cnt i
      clear htb
      have HE := Lib.hid e1; have HE2 := Lib.hid e2; have HE3 := Lib.hid e3
      clear e1 e2 e3
      have hj2 : (j : Int) < 2 := by omega
      have h1j := hJ_pos l k j
      cases t with
      | nil =>
        obtain rfl := ht
        have HF : Hid (wr.rowIs (W.heap.size + 1) 120 23 (nodeF (.pointer px) ⟨lo, hi, g⟩ (.pointer py) (hJ l k (j + 1)) (nJ l k (j + 1)) (cJ l ⟨lo, hi, g⟩ k (j + 1)))) := by
          refine HS.out.congr fun q _ => ?_
          rw [HE.out, HE2.out]
          match q with
          | 0 | 1 | 2 | 3 | 4 | 6 => rfl
          | 5 => simp only [nodeF, T.tall]; rw [Nat.max_eq_left (by omega)]
          | q + 7 => simp only [nodeF, HE3.out, T.L, cnt, Int.add_zero]
        clear HS
        go_wp2_with fail
        go_roundw
        case rel => exact ⟨j + 1, by omega, by go_num, HF, HB⟩
        case measure => simp [intOf]; omega
      | node tl tr tk =>
        obtain ⟨b, x', y', rfl, hr, -, -⟩ := ht
        have hbl := hr.lt
        have HR := Lib.hid hr
        have HN : Hid (∀ w', Below W.heap.size W w' → w'.rowIs b 120 23 (nodeF x' tr y' (T.node tl tr tk).tall (T.node tl tr tk).sz fun i => cnt i (T.node tl tr tk).L)) := fun w' h => HR.out.of_block (h.block b hbl)
        have c1 := HS.out.cell (i := 5) (by decide)
        have c2 := HS.out.frozen 5
        have c3 := (HN.out wr HB.out).cell (i := 5) (by decide)
        simp only [nodeF] at c1 c3
        clear hr HR
        have HTB : Hid (∀ i : Nat, 0 ≤ cnt i (T.node tl tr tk).L ∧ cnt i (T.node tl tr tk).L ≤ 109951162777600000) := fun i => ht_bd.out i
        generalize (T.node tl tr tk).tall = th at *
        generalize (T.node tl tr tk).sz = tz at *
        generalize (T.node tl tr tk).L = tL at *
        generalize HHJ : hJ l k j = hj' at *
        generalize HNJ : nJ l k j = nj' at *
        have HHJ' := Lib.hid HHJ; have HNJ' := Lib.hid HNJ
        clear HHJ HNJ
        go_wp2_with fail
        go_region
        have HMX : Hid ((if (hj' : Int) < 1 + th then 1 + th else hj' : Int) = ((max hj' (1 + th) : Nat) : Int)) := by
          show _ = _
          split <;> omega
        generalize (if (hj' : Int) < 1 + th then 1 + th else hj' : Int) = mx at *
        obtain ⟨w3, HW3⟩ : ∃ w3, w3 = (wr.setCell ⟨W.heap.size + 1, 5, none⟩ (.int .i64 mx)).drew := ⟨_, rfl⟩
        rw [← HW3]
        have HB3 : Hid (Below W.heap.size W w3) := by
          rw [HW3]; exact (HB.out.setCell (by show W.heap.size ≤ W.heap.size + 1; omega) _).drew
        have HS3 : Hid (w3.rowIs (W.heap.size + 1) 120 23 (nodeF (.pointer px) ⟨lo, hi, g⟩ (.pointer py) (hJ l k (j + 1)) nj' (cJ l ⟨lo, hi, g⟩ k j))) := by
          rw [HW3, HE.out, HMX.out]
          exact (node_tall HS.out _).drew
        clear HW3 c1 c2 c3 HS HB HE HHJ' HMX
        have c1 := HS3.out.cell (i := 6) (by decide)
        have c2 := HS3.out.frozen 6
        have c3 := (HN.out w3 HB3.out).cell (i := 6) (by decide)
        simp only [nodeF] at c1 c3
        go_wp2_with fail
        go_region
        obtain ⟨w4, HW4⟩ : ∃ w4, w4 = (w3.setCell ⟨W.heap.size + 1, 6, none⟩ (.int .i64 ((nj' : Int) + tz))).drew := ⟨_, rfl⟩
        rw [← HW4]
        have HB4 : Hid (Below W.heap.size W w4) := by
          rw [HW4]; exact (HB3.out.setCell (by show W.heap.size ≤ W.heap.size + 1; omega) _).drew
        have HS4 : Hid (w4.rowIs (W.heap.size + 1) 120 23 (nodeF (.pointer px) ⟨lo, hi, g⟩ (.pointer py) (hJ l k (j + 1)) (nJ l k (j + 1)) fun q => if q < 0 then cJ l ⟨lo, hi, g⟩ k (j + 1) q else cJ l ⟨lo, hi, g⟩ k j q)) := by
          rw [HW4, HE2.out, show ((nj' : Int) + tz) = ((nj' + tz : Nat) : Int) from by omega]
          exact ((node_runs HS3.out _).drew).congr fun q _ => by
            match q with
            | 0 | 1 | 2 | 3 | 4 | 5 | 6 => rfl
            | q + 7 => simp [nodeF]
        clear HW4 c1 c2 c3 HS3 HB3 HE2 HNJ'
        have HCB : Hid (∀ i : Nat, 0 ≤ cJ l ⟨lo, hi, g⟩ k j i ∧ cJ l ⟨lo, hi, g⟩ k j i ≤ 329853488332800000) := fun i => cJ_bd HBD.out j i
        go_wp2_with fail
        obtain ⟨wo, rfl⟩ : ∃ wo : World, wo = wr := ⟨_, rfl⟩
        go_loopw [59] (fun s wr => ∃ i : Nat, i ≤ 16 ∧ s = .int .i64 i ∧ Hid (wr.rowIs (W.heap.size + 1) 120 23 (nodeF (.pointer px) ⟨lo, hi, g⟩ (.pointer py) (hJ l k (j + 1)) (nJ l k (j + 1)) fun q => if q < i then cJ l ⟨lo, hi, g⟩ k (j + 1) q else cJ l ⟨lo, hi, g⟩ k j q)) ∧ Hid (Below W.heap.size W wr)) (fun s _ => 16 - (intOf s).toNat)
        case atStart => exact ⟨0, by omega, rfl, HS4, HB4⟩
        case round =>
          obtain ⟨i, hi16, rfl, HS, HB⟩ := hrel
          clear HS4 HB4
          by_cases hlt2 : i < 16
          · have hi2 : (i : Int) < 16 := by omega
            have c1 := HS.out.cell (i := i + 7) (by omega)
            have c2 := HS.out.frozen (7 + i)
            have c3 := (HN.out wr HB.out).cell (i := i + 7) (by omega)
            simp only [nodeF] at c1 c3
            rw [if_neg (Nat.lt_irrefl i)] at c1
            rw [Nat.add_comm i 7] at c1 c3
            have b1 := HCB.out i
            have b2 := HTB.out i
            have HQ := Lib.hid (HE3.out i)
            generalize HC1 : cJ l ⟨lo, hi, g⟩ k j i = v1 at *
            generalize cnt (i : Int) tL = v2 at *
            have HC1' := Lib.hid HC1
            clear HC1
            obtain ⟨b1, b1'⟩ := b1
            obtain ⟨b2, b2'⟩ := b2
            go_wp2_with fail
            go_region
            have HF : Hid ((wr.setCell ⟨W.heap.size + 1, 7 + i, none⟩ (.int .i64 (v1 + v2))).drew.rowIs (W.heap.size + 1) 120 23 (nodeF (.pointer px) ⟨lo, hi, g⟩ (.pointer py) (hJ l k (j + 1)) (nJ l k (j + 1)) fun q => if q < i + 1 then cJ l ⟨lo, hi, g⟩ k (j + 1) q else cJ l ⟨lo, hi, g⟩ k j q)) := by
              refine ((node_piece HS.out i (v1 + v2)).drew).congr fun q _ => ?_
              match q with
              | 0 | 1 | 2 | 3 | 4 | 5 | 6 => rfl
              | q + 7 =>
                simp only [nodeF]
                rcases Nat.lt_trichotomy q i with h | h | h
                · rw [if_neg (by omega), if_pos h, if_pos (by omega)]
                · subst h; rw [if_pos rfl, if_pos (by omega), HQ.out]
                · rw [if_neg (by omega), if_neg (by omega), if_neg (by omega)]
            have HBF : Hid (Below W.heap.size W (wr.setCell ⟨W.heap.size + 1, 7 + i, none⟩ (.int .i64 (v1 + v2))).drew) := (HB.out.setCell (by show W.heap.size ≤ W.heap.size + 1; omega) _).drew
            clear c1 c2 c3 HS HB
            go_wp2_with fail
            go_roundw
            case rel => exact ⟨i + 1, by omega, by go_num, HF, HBF⟩
            case measure => simp [intOf]; omega
          · obtain rfl : i = 16 := by omega
            have HF : Hid (wr.rowIs (W.heap.size + 1) 120 23 (nodeF (.pointer px) ⟨lo, hi, g⟩ (.pointer py) (hJ l k (j + 1)) (nJ l k (j + 1)) (cJ l ⟨lo, hi, g⟩ k (j + 1)))) := by
              refine HS.out.congr fun q hq => ?_
              match q, hq with
              | 0, _ | 1, _ | 2, _ | 3, _ | 4, _ | 5, _ | 6, _ => rfl
              | q + 7, hq => simp only [nodeF]; rw [if_pos (by omega)]
            clear HS
            go_wp2_with fail
            go_roundw
            case rel => exact ⟨j + 1, by omega, by go_num, HF, HB⟩
            case measure => simp [intOf]; omega
    · obtain rfl : j = 2 := by omega
      go_wp2_with fail
      go_ret
      refine ⟨W.heap.size + 1, rfl, ⟨W.heap.size + 1, _, _, rfl, ?_, HL.out.below HB.out, HK.out.below HB.out⟩, HB.out⟩
      refine HS.out.congr fun q _ => ?_
      rw [hJ_all _ _ ⟨lo, hi, g⟩, nJ_all _ _ ⟨lo, hi, g⟩]
      match q with
      | 0 | 1 | 2 | 3 | 4 | 5 | 6 => rfl
      | q + 7 => simp only [nodeF, cJ_all]
end Go.Proofs.Ytjbenhmpeceaeaa
namespace Go.Proofs.Ytjbenhmpeceaeaa
open Go Go.RowKit Gs

/-- the five cells that are read of a node -/
def Cs (b : Nat) (x : Option Addr) (lo hi tag : Int) (y : Option Addr) (W' : World) : Prop :=
  W'.cell? ⟨b, 0, none⟩ = some (.pointer x) ∧ W'.cell? ⟨b, 1, none⟩ = some (.int .i64 lo) ∧ W'.cell? ⟨b, 2, none⟩ = some (.int .i64 hi) ∧ W'.cell? ⟨b, 3, none⟩ = some (.int .i64 tag) ∧ W'.cell? ⟨b, 4, none⟩ = some (.pointer y)
/-- a tree that is no nil, opened -/
theorem IsT.open {W : World} {l k : T} {lo hi tag : Int} {p : Option Addr} (h : IsT W (.node l ⟨lo, hi, tag⟩ k) (.pointer p)) :
    ∃ b x y, p = some ⟨b, 0, none⟩ ∧ b < W.heap.size ∧ IsT W l (.pointer x) ∧ IsT W k (.pointer y) ∧ ∀ W', Below W.heap.size W W' → Cs b x lo hi tag y W' := by
  obtain ⟨b, x, y, e, hr, h1, h2⟩ := h
  obtain ⟨px, rfl⟩ := h1.ptr
  obtain ⟨py, rfl⟩ := h2.ptr
  injection e with e
  refine ⟨b, px, py, e, hr.lt, h1, h2, fun W' hb => ?_⟩
  have hr' := hr.of_block (hb.block b hr.lt)
  exact ⟨hr'.cell (i := 0) (by decide), hr'.cell (i := 1) (by decide), hr'.cell (i := 2) (by decide), hr'.cell (i := 3) (by decide), hr'.cell (i := 4) (by decide)⟩
/-- the box of a run -/
def Bs (B : Nat) (lo hi tag : Int) (W' : World) : Prop := W'.cell? ⟨B, 0, none⟩ = some (.int .i64 lo) ∧ W'.cell? ⟨B, 1, none⟩ = some (.int .i64 hi) ∧ W'.cell? ⟨B, 2, none⟩ = some (.int .i64 tag)
theorem Bs.new (W : World) (lo hi tag : Int) (Ty : TypeId) : Bs W.heap.size lo hi tag (W.alloc (.cells #[.int .i64 lo, .int .i64 hi, .int .i64 tag] Ty)) :=
  ⟨World.cell?_alloc_at _ _ _ _ rfl, World.cell?_alloc_at _ _ _ _ rfl, World.cell?_alloc_at _ _ _ _ rfl⟩
theorem Bs.next {B : Nat} {lo hi tag : Int} {W W' : World} (h : Bs B lo hi tag W) (hB : B < W.heap.size) (hb : Below W.heap.size W W') : Bs B lo hi tag W' :=
  ⟨(hb.cell (p := ⟨B, 0, none⟩) hB).trans h.1, (hb.cell (p := ⟨B, 1, none⟩) hB).trans h.2.1, (hb.cell (p := ⟨B, 2, none⟩) hB).trans h.2.2⟩
/-- what is known in every later world: the node's cells, and the box behind it -/
theorem box_later {W : World} {lo hi tag : Int} {Ty : TypeId} {P : World → Prop} (hP : ∀ W', Below W.heap.size W W' → P W') : ∃ W0, W0 = W.alloc (.cells #[.int .i64 lo, .int .i64 hi, .int .i64 tag] Ty) ∧ Below W.heap.size W W0 ∧ W.heap.size < W0.heap.size ∧ ∀ W', Below W0.heap.size W0 W' → Bs W.heap.size lo hi tag W' ∧ P W' := by
  have hb : Below W.heap.size W (W.alloc (.cells #[.int .i64 lo, .int .i64 hi, .int .i64 tag] Ty)) := (Below.refl _ _).alloc (Nat.le_refl _) _
  exact ⟨_, rfl, hb, by simp, fun W' h => ⟨(Bs.new W lo hi tag Ty).next (by simp) h, hP W' (hb.trans (h.mono (by simp)))⟩⟩
set_option maxHeartbeats 1000000 in
theorem raiseLeft_any (l m k : T) (lo hi tag lo2 hi2 tag2 : Int) (p y : Option Addr) (W : World) (hl : IsT W (.node l ⟨lo2, hi2, tag2⟩ m) (.pointer p)) (hk : IsT W k (.pointer y)) (hb : Bd (l.L ++ ⟨lo2, hi2, tag2⟩ :: (m.L ++ ⟨lo, hi, tag⟩ :: k.L))) :
    Calls Try.prog 82 #[.pointer p, .agg #[.int .i64 lo, .int .i64 hi, .int .i64 tag], .pointer y] W fun e w' => ∃ b, e = .returned (.pointer (some ⟨b, 0, none⟩)) ∧ IsT w' (.node l ⟨lo2, hi2, tag2⟩ (.node m ⟨lo, hi, tag⟩ k)) (.pointer (some ⟨b, 0, none⟩)) ∧ Below W.heap.size W w' := by
  obtain ⟨b, u, v, rfl, hlt, h1, h2, hcs⟩ := hl.open
  obtain ⟨W0, HW, hb0, hsz, hall⟩ := box_later (Ty := 64) (lo := lo) (hi := hi) (tag := tag) hcs
  have HIN : Hid (∀ W', Below W0.heap.size W0 W' → Calls Try.prog 74 #[.pointer v, .agg #[.int .i64 lo, .int .i64 hi, .int .i64 tag], .pointer y] W' fun e w' => ∃ b, e = .returned (.pointer (some ⟨b, 0, none⟩)) ∧ IsT w' (.node m ⟨lo, hi, tag⟩ k) (.pointer (some ⟨b, 0, none⟩)) ∧ Below W0.heap.size W0 w') := fun W' h =>
    (newNode_any m k lo hi tag _ _ W' (IsT.below h (IsT.below hb0 h2)) (IsT.below h (IsT.below hb0 hk)) hb.right.tail).mono fun e w' ⟨b, he, ht, hB⟩ => ⟨b, he, ht, h.trans (hB.mono h.size)⟩
  have HOUT : Hid (∀ W' g, Below W0.heap.size W0 W' → IsT W' (.node m ⟨lo, hi, tag⟩ k) (.pointer (some ⟨g, 0, none⟩)) → Calls Try.prog 74 #[.pointer u, .agg #[.int .i64 lo2, .int .i64 hi2, .int .i64 tag2], .pointer (some ⟨g, 0, none⟩)] W' fun e w' => ∃ b, e = .returned (.pointer (some ⟨b, 0, none⟩)) ∧ IsT w' (.node l ⟨lo2, hi2, tag2⟩ (.node m ⟨lo, hi, tag⟩ k)) (.pointer (some ⟨b, 0, none⟩)) ∧ Below W0.heap.size W0 w') := fun W' g h ht =>
    (newNode_any l _ lo2 hi2 tag2 _ _ W' (IsT.below h (IsT.below hb0 h1)) ht hb).mono fun e w' ⟨b, he, ht, hB⟩ => ⟨b, he, ht, h.trans (hB.mono h.size)⟩
  have HALL := Lib.hid hall
  have HW0 := Lib.hid HW
  have HB0 := Lib.hid hb0
  clear HW hall hl hk h1 h2 hcs hb hb0
  go_enter Try.func82, Try.ntmps82
  go_wp2_with fail
  rw [← HW0.out]
  have hs : Below W0.heap.size W0 W0 := Below.refl _ _
  have hs2 := hs.drew
  have hcl := HALL.out _ hs2
  have hc0 := HALL.out _ hs
  unfold Bs Cs at hcl hc0 HALL
  go_region_held3 (fun W' : World => ((W'.cell? ⟨W.heap.size, 0, none⟩ = some (.int .i64 lo) ∧ W'.cell? ⟨W.heap.size, 1, none⟩ = some (.int .i64 hi) ∧ W'.cell? ⟨W.heap.size, 2, none⟩ = some (.int .i64 tag)) ∧ W'.cell? ⟨b, 0, none⟩ = some (.pointer u) ∧ W'.cell? ⟨b, 1, none⟩ = some (.int .i64 lo2) ∧ W'.cell? ⟨b, 2, none⟩ = some (.int .i64 hi2) ∧ W'.cell? ⟨b, 3, none⟩ = some (.int .i64 tag2) ∧ W'.cell? ⟨b, 4, none⟩ = some (.pointer v)) ∧ Below W0.heap.size W0 W') (first | (refine And.intro ?_ ?_ <;> assumption) | fail) (first
    | (go_at_call 74; with_reducible refine (HIN.out _ ?h).mono ?_; (case h => assumption); rintro e w' ⟨g, rfl, hgt, hs'⟩; have hc' := HALL.out _ hs')
    | (go_at_call 74; with_reducible refine (HOUT.out _ _ ?h ?r).mono ?_; (case h => assumption); (case r => assumption); rintro e w' ⟨g, rfl, hgt, hs'⟩; have hc' := HALL.out _ hs') | fail)
  all_goals
    have HT := Lib.hid hgt
    have HB := Lib.hid (HB0.out.trans (hs'.mono (Nat.le_of_lt hsz)))
    clear hs hs2 hcl hc0 hgt hs' hc'
    go_wp2_with fail
    go_ret
    exact ⟨g, rfl, HT.out, HB.out⟩
set_option maxHeartbeats 1000000 in
theorem raiseRight_any (l m k : T) (lo hi tag lo2 hi2 tag2 : Int) (p y : Option Addr) (W : World) (hl : IsT W (.node m ⟨lo2, hi2, tag2⟩ k) (.pointer p)) (hk : IsT W l (.pointer y)) (hb : Bd ((l.L ++ ⟨lo, hi, tag⟩ :: m.L) ++ ⟨lo2, hi2, tag2⟩ :: k.L)) :
    Calls Try.prog 81 #[.pointer y, .agg #[.int .i64 lo, .int .i64 hi, .int .i64 tag], .pointer p] W fun e w' => ∃ b, e = .returned (.pointer (some ⟨b, 0, none⟩)) ∧ IsT w' (.node (.node l ⟨lo, hi, tag⟩ m) ⟨lo2, hi2, tag2⟩ k) (.pointer (some ⟨b, 0, none⟩)) ∧ Below W.heap.size W w' := by
  obtain ⟨b, u, v, rfl, hlt, h1, h2, hcs⟩ := hl.open
  obtain ⟨W0, HW, hb0, hsz, hall⟩ := box_later (Ty := 64) (lo := lo) (hi := hi) (tag := tag) hcs
  have HIN : Hid (∀ W', Below W0.heap.size W0 W' → Calls Try.prog 74 #[.pointer y, .agg #[.int .i64 lo, .int .i64 hi, .int .i64 tag], .pointer u] W' fun e w' => ∃ b, e = .returned (.pointer (some ⟨b, 0, none⟩)) ∧ IsT w' (.node l ⟨lo, hi, tag⟩ m) (.pointer (some ⟨b, 0, none⟩)) ∧ Below W0.heap.size W0 w') := fun W' h =>
    (newNode_any l m lo hi tag _ _ W' (IsT.below h (IsT.below hb0 hk)) (IsT.below h (IsT.below hb0 h1)) hb.left).mono fun e w' ⟨b, he, ht, hB⟩ => ⟨b, he, ht, h.trans (hB.mono h.size)⟩
  have HOUT : Hid (∀ W' g, Below W0.heap.size W0 W' → IsT W' (.node l ⟨lo, hi, tag⟩ m) (.pointer (some ⟨g, 0, none⟩)) → Calls Try.prog 74 #[.pointer (some ⟨g, 0, none⟩), .agg #[.int .i64 lo2, .int .i64 hi2, .int .i64 tag2], .pointer v] W' fun e w' => ∃ b, e = .returned (.pointer (some ⟨b, 0, none⟩)) ∧ IsT w' (.node (.node l ⟨lo, hi, tag⟩ m) ⟨lo2, hi2, tag2⟩ k) (.pointer (some ⟨b, 0, none⟩)) ∧ Below W0.heap.size W0 w') := fun W' g h ht =>
    (newNode_any _ k lo2 hi2 tag2 _ _ W' ht (IsT.below h (IsT.below hb0 h2)) hb).mono fun e w' ⟨b, he, ht, hB⟩ => ⟨b, he, ht, h.trans (hB.mono h.size)⟩
  have HALL := Lib.hid hall
  have HW0 := Lib.hid HW
  have HB0 := Lib.hid hb0
  clear HW hall hl hk h1 h2 hcs hb hb0
  go_enter Try.func81, Try.ntmps81
  go_wp2_with fail
  rw [← HW0.out]
  have hs : Below W0.heap.size W0 W0 := Below.refl _ _
  have hs2 := hs.drew
  have hcl := HALL.out _ hs2
  have hc0 := HALL.out _ hs
  unfold Bs Cs at hcl hc0 HALL
  go_region_held3 (fun W' : World => ((W'.cell? ⟨W.heap.size, 0, none⟩ = some (.int .i64 lo) ∧ W'.cell? ⟨W.heap.size, 1, none⟩ = some (.int .i64 hi) ∧ W'.cell? ⟨W.heap.size, 2, none⟩ = some (.int .i64 tag)) ∧ W'.cell? ⟨b, 0, none⟩ = some (.pointer u) ∧ W'.cell? ⟨b, 1, none⟩ = some (.int .i64 lo2) ∧ W'.cell? ⟨b, 2, none⟩ = some (.int .i64 hi2) ∧ W'.cell? ⟨b, 3, none⟩ = some (.int .i64 tag2) ∧ W'.cell? ⟨b, 4, none⟩ = some (.pointer v)) ∧ Below W0.heap.size W0 W') (first | (refine And.intro ?_ ?_ <;> assumption) | fail) (first
    | (go_at_call 74; with_reducible refine (HIN.out _ ?h).mono ?_; (case h => assumption); rintro e w' ⟨g, rfl, hgt, hs'⟩; have hc' := HALL.out _ hs')
    | (go_at_call 74; with_reducible refine (HOUT.out _ _ ?h ?r).mono ?_; (case h => assumption); (case r => assumption); rintro e w' ⟨g, rfl, hgt, hs'⟩; have hc' := HALL.out _ hs') | fail)
  all_goals
    have HT := Lib.hid hgt
    have HB := Lib.hid (HB0.out.trans (hs'.mono (Nat.le_of_lt hsz)))
    clear hs hs2 hcl hc0 hgt hs' hc'
    go_wp2_with fail
    go_ret
    exact ⟨g, rfl, HT.out, HB.out⟩
end Go.Proofs.Ytjbenhmpeceaeaa
namespace Go.Proofs.Ytjbenhmpeceaeaa
open Go Go.RowKit Gs

/-- a tree with these runs comes back, and nothing older has changed -/
def TreeOf (W : World) (L : List R) (e : Ending) (w' : World) : Prop := ∃ b t, e = .returned (.pointer (some ⟨b, 0, none⟩)) ∧ IsT w' t (.pointer (some ⟨b, 0, none⟩)) ∧ t.L = L ∧ Below W.heap.size W w'
theorem tall_pos {t : T} (h : 0 < t.tall) : ∃ l r k, t = .node l r k := by
  cases t with
  | nil => exact absurd h (by simp [T.tall])
  | node l r k => exact ⟨l, r, k, rfl⟩
set_option maxHeartbeats 1000000 in
theorem balance_LL (c d k : T) (lo hi tag lo2 hi2 tag2 : Int) (p y : Option Addr) (W : World) (hl : IsT W (.node c ⟨lo2, hi2, tag2⟩ d) (.pointer p)) (hk : IsT W k (.pointer y)) (hb : Bd (c.L ++ ⟨lo2, hi2, tag2⟩ :: (d.L ++ ⟨lo, hi, tag⟩ :: k.L))) (hd : ((T.node c ⟨lo2, hi2, tag2⟩ d).tall : Int) - k.tall = 2) (ht : d.tall ≤ c.tall) :
    Calls Try.prog 80 #[.pointer p, .agg #[.int .i64 lo, .int .i64 hi, .int .i64 tag], .pointer y] W (TreeOf W ((c.L ++ ⟨lo2, hi2, tag2⟩ :: d.L) ++ ⟨lo, hi, tag⟩ :: k.L)) := by
  have hsz := hb.1
  simp at hsz
  have htc := c.tall_le; have htd := d.tall_le; have htk := k.tall_le
  rw [T.sz_eq] at htc htd htk
  obtain ⟨b, u, v, rfl, hlt, h1, h2, hcs⟩ := hl.open
  obtain ⟨W0, HW, hb0, hs0, hall⟩ := box_later (Ty := 64) (lo := lo) (hi := hi) (tag := tag) hcs
  have HTL : Hid (∀ W', Below W0.heap.size W0 W' → Calls Try.prog 79 #[.pointer (some ⟨b, 0, none⟩)] W' fun e w' => e = .returned (.int .i64 (T.node c ⟨lo2, hi2, tag2⟩ d).tall) ∧ W' = w') := fun W' h => tall_any _ _ _ (IsT.below h (IsT.below hb0 hl))
  have HTK : Hid (∀ W', Below W0.heap.size W0 W' → Calls Try.prog 79 #[.pointer y] W' fun e w' => e = .returned (.int .i64 k.tall) ∧ W' = w') := fun W' h => tall_any _ _ _ (IsT.below h (IsT.below hb0 hk))
  have HTC : Hid (∀ W', Below W0.heap.size W0 W' → Calls Try.prog 79 #[.pointer u] W' fun e w' => e = .returned (.int .i64 c.tall) ∧ W' = w') := fun W' h => tall_any _ _ _ (IsT.below h (IsT.below hb0 h1))
  have HTD : Hid (∀ W', Below W0.heap.size W0 W' → Calls Try.prog 79 #[.pointer v] W' fun e w' => e = .returned (.int .i64 d.tall) ∧ W' = w') := fun W' h => tall_any _ _ _ (IsT.below h (IsT.below hb0 h2))
  have HRS : Hid (∀ W', Below W0.heap.size W0 W' → Calls Try.prog 82 #[.pointer (some ⟨b, 0, none⟩), .agg #[.int .i64 lo, .int .i64 hi, .int .i64 tag], .pointer y] W' fun e w' => ∃ g t, e = .returned (.pointer (some ⟨g, 0, none⟩)) ∧ IsT w' t (.pointer (some ⟨g, 0, none⟩)) ∧ Hid (t.L = (c.L ++ ⟨lo2, hi2, tag2⟩ :: d.L) ++ ⟨lo, hi, tag⟩ :: k.L) ∧ Below W0.heap.size W0 w') := fun W' h =>
    (raiseLeft_any c d k lo hi tag lo2 hi2 tag2 _ _ W' (IsT.below h (IsT.below hb0 hl)) (IsT.below h (IsT.below hb0 hk)) hb).mono fun e w' ⟨g, he, ht, hB⟩ => ⟨g, _, he, ht, by show _ = _; simp [T.L], h.trans (hB.mono h.size)⟩
  have HALL := Lib.hid hall
  have HW0 := Lib.hid HW
  have HB0 := Lib.hid hb0
  clear HW hall hl hk h1 h2 hcs hb hb0
  have he2 : ((((T.node c ⟨lo2, hi2, tag2⟩ d)).tall : Int) - k.tall == 2) = true := by rw [hd]; rfl
  have hq1 : (T.node c ⟨lo2, hi2, tag2⟩ d).tall ≤ 100001 := by simp only [T.tall] at htc htd ⊢; omega
  clear hd
  generalize (T.node c ⟨lo2, hi2, tag2⟩ d).tall = th at *
  generalize k.tall = tk at *
  generalize c.tall = tc at *
  generalize d.tall = td at *
  have hcmp : ¬ (tc : Int) < td := by omega
  go_enter Try.func80, Try.ntmps80
  go_wp2_with fail
  rw [← HW0.out]
  refine (HTL.out _ (Below.refl _ _)).mono ?_
  rintro e w1 ⟨rfl, rfl⟩
  go_wp2_with fail
  refine (HTK.out _ (Below.refl _ _)).mono ?_
  rintro e w1 ⟨rfl, rfl⟩
  have hs : Below W0.heap.size W0 W0 := Below.refl _ _
  have hs2 := hs.drew
  have hcl := HALL.out _ hs2
  have hc0 := HALL.out _ hs
  unfold Bs Cs at hcl hc0 HALL
  go_wp2_with fail
  go_region_held3 (fun W' : World => ((W'.cell? ⟨W.heap.size, 0, none⟩ = some (.int .i64 lo) ∧ W'.cell? ⟨W.heap.size, 1, none⟩ = some (.int .i64 hi) ∧ W'.cell? ⟨W.heap.size, 2, none⟩ = some (.int .i64 tag)) ∧ W'.cell? ⟨b, 0, none⟩ = some (.pointer u) ∧ W'.cell? ⟨b, 1, none⟩ = some (.int .i64 lo2) ∧ W'.cell? ⟨b, 2, none⟩ = some (.int .i64 hi2) ∧ W'.cell? ⟨b, 3, none⟩ = some (.int .i64 tag2) ∧ W'.cell? ⟨b, 4, none⟩ = some (.pointer v)) ∧ Below W0.heap.size W0 W') (first | (refine And.intro ?_ ?_ <;> assumption) | fail) (first
    | (go_at_call 79; with_reducible refine (HTC.out _ ?h).mono ?_; (case h => assumption); rintro e w' ⟨rfl, rfl⟩)
    | (go_at_call 79; with_reducible refine (HTD.out _ ?h).mono ?_; (case h => assumption); rintro e w' ⟨rfl, rfl⟩) | fail)
  all_goals
    clear hs hc0
    go_wp2_with fail
    refine (HRS.out _ hs2).mono ?_
    rintro e w2 ⟨g, t, rfl, hgt, HTE, hB⟩
    have HT := Lib.hid hgt
    have HB := Lib.hid (HB0.out.trans (hB.mono (Nat.le_of_lt hs0)))
    clear hgt hB
    go_wp2_with fail
    go_ret
    exact ⟨g, t, rfl, HT.out, HTE.out, HB.out⟩
set_option maxHeartbeats 1000000 in
theorem balance_LR (c d k : T) (lo hi tag lo2 hi2 tag2 : Int) (p y : Option Addr) (W : World) (hl : IsT W (.node c ⟨lo2, hi2, tag2⟩ d) (.pointer p)) (hk : IsT W k (.pointer y)) (hb : Bd (c.L ++ ⟨lo2, hi2, tag2⟩ :: (d.L ++ ⟨lo, hi, tag⟩ :: k.L))) (hd : ((T.node c ⟨lo2, hi2, tag2⟩ d).tall : Int) - k.tall = 2) (ht : c.tall < d.tall) :
    Calls Try.prog 80 #[.pointer p, .agg #[.int .i64 lo, .int .i64 hi, .int .i64 tag], .pointer y] W (TreeOf W ((c.L ++ ⟨lo2, hi2, tag2⟩ :: d.L) ++ ⟨lo, hi, tag⟩ :: k.L)) := by
  have hsz := hb.1
  simp at hsz
  have htc := c.tall_le; have htd := d.tall_le; have htk := k.tall_le
  rw [T.sz_eq] at htc htd htk
  obtain ⟨d1, ⟨lo3, hi3, tag3⟩, d2, rfl⟩ := tall_pos (t := d) (by omega)
  have hbr : Bd ((c.L ++ ⟨lo2, hi2, tag2⟩ :: d1.L) ++ ⟨lo3, hi3, tag3⟩ :: d2.L) := by
    simp only [T.L] at hb
    refine ⟨by have := hb.1; simp at this ⊢; omega, fun x hx => hb.2 x (by simp at hx ⊢; grind)⟩
  obtain ⟨b, u, v, rfl, hlt, h1, h2, hcs⟩ := hl.open
  obtain ⟨W0, HW, hb0, hs0, hall⟩ := box_later (Ty := 64) (lo := lo) (hi := hi) (tag := tag) hcs
  have HTL : Hid (∀ W', Below W0.heap.size W0 W' → Calls Try.prog 79 #[.pointer (some ⟨b, 0, none⟩)] W' fun e w' => e = .returned (.int .i64 (T.node c ⟨lo2, hi2, tag2⟩ (T.node d1 ⟨lo3, hi3, tag3⟩ d2)).tall) ∧ W' = w') := fun W' h => tall_any _ _ _ (IsT.below h (IsT.below hb0 hl))
  have HTK : Hid (∀ W', Below W0.heap.size W0 W' → Calls Try.prog 79 #[.pointer y] W' fun e w' => e = .returned (.int .i64 k.tall) ∧ W' = w') := fun W' h => tall_any _ _ _ (IsT.below h (IsT.below hb0 hk))
  have HTC : Hid (∀ W', Below W0.heap.size W0 W' → Calls Try.prog 79 #[.pointer u] W' fun e w' => e = .returned (.int .i64 c.tall) ∧ W' = w') := fun W' h => tall_any _ _ _ (IsT.below h (IsT.below hb0 h1))
  have HTD : Hid (∀ W', Below W0.heap.size W0 W' → Calls Try.prog 79 #[.pointer v] W' fun e w' => e = .returned (.int .i64 (T.node d1 ⟨lo3, hi3, tag3⟩ d2).tall) ∧ W' = w') := fun W' h => tall_any _ _ _ (IsT.below h (IsT.below hb0 h2))
  have hbz : Bd ((T.node c ⟨lo2, hi2, tag2⟩ d1).L ++ ⟨lo3, hi3, tag3⟩ :: (d2.L ++ ⟨lo, hi, tag⟩ :: k.L)) := by
    simp only [T.L] at hb ⊢
    refine ⟨by have := hb.1; simp at this ⊢; omega, fun x hx => hb.2 x (by simp at hx ⊢; grind)⟩
  have HRT : Hid (∀ W', Below W0.heap.size W0 W' → Calls Try.prog 81 #[.pointer u, .agg #[.int .i64 lo2, .int .i64 hi2, .int .i64 tag2], .pointer v] W' fun e w' => ∃ g, e = .returned (.pointer (some ⟨g, 0, none⟩)) ∧ IsT w' (T.node (.node c ⟨lo2, hi2, tag2⟩ d1) ⟨lo3, hi3, tag3⟩ d2) (.pointer (some ⟨g, 0, none⟩)) ∧ Below W0.heap.size W0 w') := fun W' h =>
    (raiseRight_any c d1 d2 lo2 hi2 tag2 lo3 hi3 tag3 _ _ W' (IsT.below h (IsT.below hb0 h2)) (IsT.below h (IsT.below hb0 h1)) hbr).mono fun e w' ⟨g, he, ht, hB⟩ => ⟨g, he, ht, h.trans (hB.mono h.size)⟩
  have HRS : Hid (∀ W' g, Below W0.heap.size W0 W' → IsT W' (T.node (.node c ⟨lo2, hi2, tag2⟩ d1) ⟨lo3, hi3, tag3⟩ d2) (.pointer (some ⟨g, 0, none⟩)) → Calls Try.prog 82 #[.pointer (some ⟨g, 0, none⟩), .agg #[.int .i64 lo, .int .i64 hi, .int .i64 tag], .pointer y] W' fun e w' => ∃ g t, e = .returned (.pointer (some ⟨g, 0, none⟩)) ∧ IsT w' t (.pointer (some ⟨g, 0, none⟩)) ∧ Hid (t.L = (c.L ++ ⟨lo2, hi2, tag2⟩ :: (T.node d1 ⟨lo3, hi3, tag3⟩ d2).L) ++ ⟨lo, hi, tag⟩ :: k.L) ∧ Below W0.heap.size W0 w') := fun W' g h ht =>
    (raiseLeft_any (.node c ⟨lo2, hi2, tag2⟩ d1) d2 k lo hi tag lo3 hi3 tag3 _ _ W' ht (IsT.below h (IsT.below hb0 hk)) hbz).mono fun e w' ⟨g, he, ht, hB⟩ => ⟨g, _, he, ht, by show _ = _; simp [T.L], h.trans (hB.mono h.size)⟩
  have HALL := Lib.hid hall
  have HW0 := Lib.hid HW
  have HB0 := Lib.hid hb0
  clear HW hall hl hk h1 h2 hcs hb hb0 hbr hbz
  have he2 : ((((T.node c ⟨lo2, hi2, tag2⟩ (T.node d1 ⟨lo3, hi3, tag3⟩ d2))).tall : Int) - k.tall == 2) = true := by rw [hd]; rfl
  have hq1 : (T.node c ⟨lo2, hi2, tag2⟩ (T.node d1 ⟨lo3, hi3, tag3⟩ d2)).tall ≤ 100001 := by simp only [T.tall] at htc htd ⊢; omega
  clear hd
  generalize (T.node c ⟨lo2, hi2, tag2⟩ (T.node d1 ⟨lo3, hi3, tag3⟩ d2)).tall = th at *
  generalize (T.node d1 ⟨lo3, hi3, tag3⟩ d2).tall = tx at *
  generalize k.tall = tk at *
  generalize c.tall = tc at *
  have hcmp : (tc : Int) < tx := by omega
  go_enter Try.func80, Try.ntmps80
  go_wp2_with fail
  rw [← HW0.out]
  refine (HTL.out _ (Below.refl _ _)).mono ?_
  rintro e w1 ⟨rfl, rfl⟩
  go_wp2_with fail
  refine (HTK.out _ (Below.refl _ _)).mono ?_
  rintro e w1 ⟨rfl, rfl⟩
  have hs : Below W0.heap.size W0 W0 := Below.refl _ _
  have hs2 := hs.drew
  have hcl := HALL.out _ hs2
  have hc0 := HALL.out _ hs
  unfold Bs Cs at hcl hc0 HALL
  go_wp2_with fail
  go_region_held3 (fun W' : World => ((W'.cell? ⟨W.heap.size, 0, none⟩ = some (.int .i64 lo) ∧ W'.cell? ⟨W.heap.size, 1, none⟩ = some (.int .i64 hi) ∧ W'.cell? ⟨W.heap.size, 2, none⟩ = some (.int .i64 tag)) ∧ W'.cell? ⟨b, 0, none⟩ = some (.pointer u) ∧ W'.cell? ⟨b, 1, none⟩ = some (.int .i64 lo2) ∧ W'.cell? ⟨b, 2, none⟩ = some (.int .i64 hi2) ∧ W'.cell? ⟨b, 3, none⟩ = some (.int .i64 tag2) ∧ W'.cell? ⟨b, 4, none⟩ = some (.pointer v)) ∧ Below W0.heap.size W0 W') (first | (refine And.intro ?_ ?_ <;> assumption) | fail) (first
    | (go_at_call 79; with_reducible refine (HTC.out _ ?h).mono ?_; (case h => assumption); rintro e w' ⟨rfl, rfl⟩)
    | (go_at_call 79; with_reducible refine (HTD.out _ ?h).mono ?_; (case h => assumption); rintro e w' ⟨rfl, rfl⟩) | fail)
  all_goals
    clear hs hc0
    have hs3 := hs2.drew
    have hcl3 := HALL.out _ hs3
    go_wp2_with fail
    go_region_held3 (fun W' : World => ((W'.cell? ⟨W.heap.size, 0, none⟩ = some (.int .i64 lo) ∧ W'.cell? ⟨W.heap.size, 1, none⟩ = some (.int .i64 hi) ∧ W'.cell? ⟨W.heap.size, 2, none⟩ = some (.int .i64 tag)) ∧ W'.cell? ⟨b, 0, none⟩ = some (.pointer u) ∧ W'.cell? ⟨b, 1, none⟩ = some (.int .i64 lo2) ∧ W'.cell? ⟨b, 2, none⟩ = some (.int .i64 hi2) ∧ W'.cell? ⟨b, 3, none⟩ = some (.int .i64 tag2) ∧ W'.cell? ⟨b, 4, none⟩ = some (.pointer v)) ∧ Below W0.heap.size W0 W') (first | (refine And.intro ?_ ?_ <;> assumption) | fail) (first
      | (go_at_call 81; with_reducible refine (HRT.out _ ?h).mono ?_; (case h => assumption); rintro e w' ⟨g, rfl, hgt, hs'⟩; have hc' := HALL.out _ hs') | fail)
    all_goals
      go_wp2_with fail
      refine (HRS.out _ _ hs' hgt).mono ?_
      rintro e w2 ⟨g, t, rfl, hgt, HTE, hB⟩
      have HT := Lib.hid hgt
      have HB := Lib.hid (HB0.out.trans (hB.mono (Nat.le_of_lt hs0)))
      clear hgt hB
      go_wp2_with fail
      go_ret
      exact ⟨g, t, rfl, HT.out, HTE.out, HB.out⟩
set_option maxHeartbeats 1000000 in
theorem balance_RR (c d k : T) (lo hi tag lo2 hi2 tag2 : Int) (p y : Option Addr) (W : World) (hl : IsT W (.node c ⟨lo2, hi2, tag2⟩ d) (.pointer p)) (hk : IsT W k (.pointer y)) (hb : Bd ((k.L ++ ⟨lo, hi, tag⟩ :: c.L) ++ ⟨lo2, hi2, tag2⟩ :: d.L)) (hd : (k.tall : Int) - (T.node c ⟨lo2, hi2, tag2⟩ d).tall = -2) (ht : c.tall ≤ d.tall) :
    Calls Try.prog 80 #[.pointer y, .agg #[.int .i64 lo, .int .i64 hi, .int .i64 tag], .pointer p] W (TreeOf W (k.L ++ ⟨lo, hi, tag⟩ :: (c.L ++ ⟨lo2, hi2, tag2⟩ :: d.L))) := by
  have hsz := hb.1
  simp at hsz
  have htc := c.tall_le; have htd := d.tall_le; have htk := k.tall_le
  rw [T.sz_eq] at htc htd htk
  obtain ⟨b, u, v, rfl, hlt, h1, h2, hcs⟩ := hl.open
  obtain ⟨W0, HW, hb0, hs0, hall⟩ := box_later (Ty := 64) (lo := lo) (hi := hi) (tag := tag) hcs
  have HTL : Hid (∀ W', Below W0.heap.size W0 W' → Calls Try.prog 79 #[.pointer (some ⟨b, 0, none⟩)] W' fun e w' => e = .returned (.int .i64 (T.node c ⟨lo2, hi2, tag2⟩ d).tall) ∧ W' = w') := fun W' h => tall_any _ _ _ (IsT.below h (IsT.below hb0 hl))
  have HTK : Hid (∀ W', Below W0.heap.size W0 W' → Calls Try.prog 79 #[.pointer y] W' fun e w' => e = .returned (.int .i64 k.tall) ∧ W' = w') := fun W' h => tall_any _ _ _ (IsT.below h (IsT.below hb0 hk))
  have HTC : Hid (∀ W', Below W0.heap.size W0 W' → Calls Try.prog 79 #[.pointer u] W' fun e w' => e = .returned (.int .i64 c.tall) ∧ W' = w') := fun W' h => tall_any _ _ _ (IsT.below h (IsT.below hb0 h1))
  have HTD : Hid (∀ W', Below W0.heap.size W0 W' → Calls Try.prog 79 #[.pointer v] W' fun e w' => e = .returned (.int .i64 d.tall) ∧ W' = w') := fun W' h => tall_any _ _ _ (IsT.below h (IsT.below hb0 h2))
  have HRS : Hid (∀ W', Below W0.heap.size W0 W' → Calls Try.prog 81 #[.pointer y, .agg #[.int .i64 lo, .int .i64 hi, .int .i64 tag], .pointer (some ⟨b, 0, none⟩)] W' fun e w' => ∃ g t, e = .returned (.pointer (some ⟨g, 0, none⟩)) ∧ IsT w' t (.pointer (some ⟨g, 0, none⟩)) ∧ Hid (t.L = k.L ++ ⟨lo, hi, tag⟩ :: (c.L ++ ⟨lo2, hi2, tag2⟩ :: d.L)) ∧ Below W0.heap.size W0 w') := fun W' h =>
    (raiseRight_any k c d lo hi tag lo2 hi2 tag2 _ _ W' (IsT.below h (IsT.below hb0 hl)) (IsT.below h (IsT.below hb0 hk)) hb).mono fun e w' ⟨g, he, ht, hB⟩ => ⟨g, _, he, ht, by show _ = _; simp [T.L], h.trans (hB.mono h.size)⟩
  have HALL := Lib.hid hall
  have HW0 := Lib.hid HW
  have HB0 := Lib.hid hb0
  clear HW hall hl hk h1 h2 hcs hb hb0
  have he2 : ((k.tall : Int) - ((T.node c ⟨lo2, hi2, tag2⟩ d)).tall == 2) = false := by rw [hd]; rfl
  have he3 : ((k.tall : Int) - ((T.node c ⟨lo2, hi2, tag2⟩ d)).tall == -2) = true := by rw [hd]; rfl
  have hq1 : (T.node c ⟨lo2, hi2, tag2⟩ d).tall ≤ 100001 := by simp only [T.tall] at htc htd ⊢; omega
  clear hd
  generalize (T.node c ⟨lo2, hi2, tag2⟩ d).tall = th at *
  generalize k.tall = tk at *
  generalize c.tall = tc at *
  generalize d.tall = td at *
  have hcmp : ¬ (td : Int) < tc := by omega
  go_enter Try.func80, Try.ntmps80
  go_wp2_with fail
  rw [← HW0.out]
  refine (HTK.out _ (Below.refl _ _)).mono ?_
  rintro e w1 ⟨rfl, rfl⟩
  go_wp2_with fail
  refine (HTL.out _ (Below.refl _ _)).mono ?_
  rintro e w1 ⟨rfl, rfl⟩
  have hs : Below W0.heap.size W0 W0 := Below.refl _ _
  have hs2 := hs.drew
  have hcl := HALL.out _ hs2
  have hc0 := HALL.out _ hs
  unfold Bs Cs at hcl hc0 HALL
  go_wp2_with fail
  go_region_held3 (fun W' : World => ((W'.cell? ⟨W.heap.size, 0, none⟩ = some (.int .i64 lo) ∧ W'.cell? ⟨W.heap.size, 1, none⟩ = some (.int .i64 hi) ∧ W'.cell? ⟨W.heap.size, 2, none⟩ = some (.int .i64 tag)) ∧ W'.cell? ⟨b, 0, none⟩ = some (.pointer u) ∧ W'.cell? ⟨b, 1, none⟩ = some (.int .i64 lo2) ∧ W'.cell? ⟨b, 2, none⟩ = some (.int .i64 hi2) ∧ W'.cell? ⟨b, 3, none⟩ = some (.int .i64 tag2) ∧ W'.cell? ⟨b, 4, none⟩ = some (.pointer v)) ∧ Below W0.heap.size W0 W') (first | (refine And.intro ?_ ?_ <;> assumption) | fail) (first
    | (go_at_call 79; with_reducible refine (HTC.out _ ?h).mono ?_; (case h => assumption); rintro e w' ⟨rfl, rfl⟩)
    | (go_at_call 79; with_reducible refine (HTD.out _ ?h).mono ?_; (case h => assumption); rintro e w' ⟨rfl, rfl⟩) | fail)
  all_goals
    clear hs hc0
    go_wp2_with fail
    refine (HRS.out _ hs2).mono ?_
    rintro e w2 ⟨g, t, rfl, hgt, HTE, hB⟩
    have HT := Lib.hid hgt
    have HB := Lib.hid (HB0.out.trans (hB.mono (Nat.le_of_lt hs0)))
    clear hgt hB
    go_wp2_with fail
    go_ret
    exact ⟨g, t, rfl, HT.out, HTE.out, HB.out⟩
set_option maxHeartbeats 1000000 in
theorem balance_RL (c d k : T) (lo hi tag lo2 hi2 tag2 : Int) (p y : Option Addr) (W : World) (hl : IsT W (.node c ⟨lo2, hi2, tag2⟩ d) (.pointer p)) (hk : IsT W k (.pointer y)) (hb : Bd ((k.L ++ ⟨lo, hi, tag⟩ :: c.L) ++ ⟨lo2, hi2, tag2⟩ :: d.L)) (hd : (k.tall : Int) - (T.node c ⟨lo2, hi2, tag2⟩ d).tall = -2) (ht : d.tall < c.tall) :
    Calls Try.prog 80 #[.pointer y, .agg #[.int .i64 lo, .int .i64 hi, .int .i64 tag], .pointer p] W (TreeOf W (k.L ++ ⟨lo, hi, tag⟩ :: (c.L ++ ⟨lo2, hi2, tag2⟩ :: d.L))) := by
  have hsz := hb.1
  simp at hsz
  have htc := c.tall_le; have htd := d.tall_le; have htk := k.tall_le
  rw [T.sz_eq] at htc htd htk
  obtain ⟨d1, ⟨lo3, hi3, tag3⟩, d2, rfl⟩ := tall_pos (t := c) (by omega)
  have hbr : Bd (d1.L ++ ⟨lo3, hi3, tag3⟩ :: (d2.L ++ ⟨lo2, hi2, tag2⟩ :: d.L)) := by
    simp only [T.L] at hb
    refine ⟨by have := hb.1; simp at this ⊢; omega, fun x hx => hb.2 x (by simp at hx ⊢; grind)⟩
  obtain ⟨b, u, v, rfl, hlt, h1, h2, hcs⟩ := hl.open
  obtain ⟨W0, HW, hb0, hs0, hall⟩ := box_later (Ty := 64) (lo := lo) (hi := hi) (tag := tag) hcs
  have HTL : Hid (∀ W', Below W0.heap.size W0 W' → Calls Try.prog 79 #[.pointer (some ⟨b, 0, none⟩)] W' fun e w' => e = .returned (.int .i64 (T.node (T.node d1 ⟨lo3, hi3, tag3⟩ d2) ⟨lo2, hi2, tag2⟩ d).tall) ∧ W' = w') := fun W' h => tall_any _ _ _ (IsT.below h (IsT.below hb0 hl))
  have HTK : Hid (∀ W', Below W0.heap.size W0 W' → Calls Try.prog 79 #[.pointer y] W' fun e w' => e = .returned (.int .i64 k.tall) ∧ W' = w') := fun W' h => tall_any _ _ _ (IsT.below h (IsT.below hb0 hk))
  have HTC : Hid (∀ W', Below W0.heap.size W0 W' → Calls Try.prog 79 #[.pointer u] W' fun e w' => e = .returned (.int .i64 (T.node d1 ⟨lo3, hi3, tag3⟩ d2).tall) ∧ W' = w') := fun W' h => tall_any _ _ _ (IsT.below h (IsT.below hb0 h1))
  have HTD : Hid (∀ W', Below W0.heap.size W0 W' → Calls Try.prog 79 #[.pointer v] W' fun e w' => e = .returned (.int .i64 d.tall) ∧ W' = w') := fun W' h => tall_any _ _ _ (IsT.below h (IsT.below hb0 h2))
  have hbz : Bd ((k.L ++ ⟨lo, hi, tag⟩ :: d1.L) ++ ⟨lo3, hi3, tag3⟩ :: (T.node d2 ⟨lo2, hi2, tag2⟩ d).L) := by
    simp only [T.L] at hb ⊢
    refine ⟨by have := hb.1; simp at this ⊢; omega, fun x hx => hb.2 x (by simp at hx ⊢; grind)⟩
  have HRT : Hid (∀ W', Below W0.heap.size W0 W' → Calls Try.prog 82 #[.pointer u, .agg #[.int .i64 lo2, .int .i64 hi2, .int .i64 tag2], .pointer v] W' fun e w' => ∃ g, e = .returned (.pointer (some ⟨g, 0, none⟩)) ∧ IsT w' (T.node d1 ⟨lo3, hi3, tag3⟩ (.node d2 ⟨lo2, hi2, tag2⟩ d)) (.pointer (some ⟨g, 0, none⟩)) ∧ Below W0.heap.size W0 w') := fun W' h =>
    (raiseLeft_any d1 d2 d lo2 hi2 tag2 lo3 hi3 tag3 _ _ W' (IsT.below h (IsT.below hb0 h1)) (IsT.below h (IsT.below hb0 h2)) hbr).mono fun e w' ⟨g, he, ht, hB⟩ => ⟨g, he, ht, h.trans (hB.mono h.size)⟩
  have HRS : Hid (∀ W' g, Below W0.heap.size W0 W' → IsT W' (T.node d1 ⟨lo3, hi3, tag3⟩ (.node d2 ⟨lo2, hi2, tag2⟩ d)) (.pointer (some ⟨g, 0, none⟩)) → Calls Try.prog 81 #[.pointer y, .agg #[.int .i64 lo, .int .i64 hi, .int .i64 tag], .pointer (some ⟨g, 0, none⟩)] W' fun e w' => ∃ g t, e = .returned (.pointer (some ⟨g, 0, none⟩)) ∧ IsT w' t (.pointer (some ⟨g, 0, none⟩)) ∧ Hid (t.L = k.L ++ ⟨lo, hi, tag⟩ :: ((T.node d1 ⟨lo3, hi3, tag3⟩ d2).L ++ ⟨lo2, hi2, tag2⟩ :: d.L)) ∧ Below W0.heap.size W0 w') := fun W' g h ht =>
    (raiseRight_any k d1 (.node d2 ⟨lo2, hi2, tag2⟩ d) lo hi tag lo3 hi3 tag3 _ _ W' ht (IsT.below h (IsT.below hb0 hk)) hbz).mono fun e w' ⟨g, he, ht, hB⟩ => ⟨g, _, he, ht, by show _ = _; simp [T.L], h.trans (hB.mono h.size)⟩
  have HALL := Lib.hid hall
  have HW0 := Lib.hid HW
  have HB0 := Lib.hid hb0
  clear HW hall hl hk h1 h2 hcs hb hb0 hbr hbz
  have he2 : ((k.tall : Int) - ((T.node (T.node d1 ⟨lo3, hi3, tag3⟩ d2) ⟨lo2, hi2, tag2⟩ d)).tall == 2) = false := by rw [hd]; rfl
  have he3 : ((k.tall : Int) - ((T.node (T.node d1 ⟨lo3, hi3, tag3⟩ d2) ⟨lo2, hi2, tag2⟩ d)).tall == -2) = true := by rw [hd]; rfl
  have hq1 : (T.node (T.node d1 ⟨lo3, hi3, tag3⟩ d2) ⟨lo2, hi2, tag2⟩ d).tall ≤ 100001 := by simp only [T.tall] at htc htd ⊢; omega
  clear hd
  generalize (T.node (T.node d1 ⟨lo3, hi3, tag3⟩ d2) ⟨lo2, hi2, tag2⟩ d).tall = th at *
  generalize (T.node d1 ⟨lo3, hi3, tag3⟩ d2).tall = tx at *
  generalize k.tall = tk at *
  generalize d.tall = td at *
  have hcmp : (td : Int) < tx := by omega
  go_enter Try.func80, Try.ntmps80
  go_wp2_with fail
  rw [← HW0.out]
  refine (HTK.out _ (Below.refl _ _)).mono ?_
  rintro e w1 ⟨rfl, rfl⟩
  go_wp2_with fail
  refine (HTL.out _ (Below.refl _ _)).mono ?_
  rintro e w1 ⟨rfl, rfl⟩
  have hs : Below W0.heap.size W0 W0 := Below.refl _ _
  have hs2 := hs.drew
  have hcl := HALL.out _ hs2
  have hc0 := HALL.out _ hs
  unfold Bs Cs at hcl hc0 HALL
  go_wp2_with fail
  go_region_held3 (fun W' : World => ((W'.cell? ⟨W.heap.size, 0, none⟩ = some (.int .i64 lo) ∧ W'.cell? ⟨W.heap.size, 1, none⟩ = some (.int .i64 hi) ∧ W'.cell? ⟨W.heap.size, 2, none⟩ = some (.int .i64 tag)) ∧ W'.cell? ⟨b, 0, none⟩ = some (.pointer u) ∧ W'.cell? ⟨b, 1, none⟩ = some (.int .i64 lo2) ∧ W'.cell? ⟨b, 2, none⟩ = some (.int .i64 hi2) ∧ W'.cell? ⟨b, 3, none⟩ = some (.int .i64 tag2) ∧ W'.cell? ⟨b, 4, none⟩ = some (.pointer v)) ∧ Below W0.heap.size W0 W') (first | (refine And.intro ?_ ?_ <;> assumption) | fail) (first
    | (go_at_call 79; with_reducible refine (HTC.out _ ?h).mono ?_; (case h => assumption); rintro e w' ⟨rfl, rfl⟩)
    | (go_at_call 79; with_reducible refine (HTD.out _ ?h).mono ?_; (case h => assumption); rintro e w' ⟨rfl, rfl⟩) | fail)
  all_goals
    clear hs hc0
    have hs3 := hs2.drew
    have hcl3 := HALL.out _ hs3
    go_wp2_with fail
    go_region_held3 (fun W' : World => ((W'.cell? ⟨W.heap.size, 0, none⟩ = some (.int .i64 lo) ∧ W'.cell? ⟨W.heap.size, 1, none⟩ = some (.int .i64 hi) ∧ W'.cell? ⟨W.heap.size, 2, none⟩ = some (.int .i64 tag)) ∧ W'.cell? ⟨b, 0, none⟩ = some (.pointer u) ∧ W'.cell? ⟨b, 1, none⟩ = some (.int .i64 lo2) ∧ W'.cell? ⟨b, 2, none⟩ = some (.int .i64 hi2) ∧ W'.cell? ⟨b, 3, none⟩ = some (.int .i64 tag2) ∧ W'.cell? ⟨b, 4, none⟩ = some (.pointer v)) ∧ Below W0.heap.size W0 W') (first | (refine And.intro ?_ ?_ <;> assumption) | fail) (first
      | (go_at_call 82; with_reducible refine (HRT.out _ ?h).mono ?_; (case h => assumption); rintro e w' ⟨g, rfl, hgt, hs'⟩; have hc' := HALL.out _ hs') | fail)
    all_goals
      go_wp2_with fail
      refine (HRS.out _ _ hs' hgt).mono ?_
      rintro e w2 ⟨g, t, rfl, hgt, HTE, hB⟩
      have HT := Lib.hid hgt
      have HB := Lib.hid (HB0.out.trans (hB.mono (Nat.le_of_lt hs0)))
      clear hgt hB
      go_wp2_with fail
      go_ret
      exact ⟨g, t, rfl, HT.out, HTE.out, HB.out⟩
end Go.Proofs.Ytjbenhmpeceaeaa
namespace Go.Proofs.Ytjbenhmpeceaeaa
open Go Go.RowKit Gs

set_option maxHeartbeats 1000000 in
theorem balance_O (l k : T) (lo hi tag : Int) (p y : Option Addr) (W : World) (hl : IsT W l (.pointer p)) (hk : IsT W k (.pointer y)) (hb : Bd (l.L ++ ⟨lo, hi, tag⟩ :: k.L)) (h1 : (l.tall : Int) - k.tall ≠ 2) (h2 : (l.tall : Int) - k.tall ≠ -2) :
    Calls Try.prog 80 #[.pointer p, .agg #[.int .i64 lo, .int .i64 hi, .int .i64 tag], .pointer y] W (TreeOf W (l.L ++ ⟨lo, hi, tag⟩ :: k.L)) := by
  have hsz := hb.1
  simp at hsz
  have htl := l.tall_le; have htk := k.tall_le
  rw [T.sz_eq] at htl htk
  have hP : ∀ W', Below W.heap.size W W' → True := fun _ _ => trivial
  obtain ⟨W0, HW, hb0, hs0, hall⟩ := box_later (Ty := 64) (lo := lo) (hi := hi) (tag := tag) hP
  have HTL : Hid (∀ W', Below W0.heap.size W0 W' → Calls Try.prog 79 #[.pointer p] W' fun e w' => e = .returned (.int .i64 l.tall) ∧ W' = w') := fun W' h => tall_any _ _ _ (IsT.below h (IsT.below hb0 hl))
  have HTK : Hid (∀ W', Below W0.heap.size W0 W' → Calls Try.prog 79 #[.pointer y] W' fun e w' => e = .returned (.int .i64 k.tall) ∧ W' = w') := fun W' h => tall_any _ _ _ (IsT.below h (IsT.below hb0 hk))
  have HNN : Hid (∀ W', Below W0.heap.size W0 W' → Calls Try.prog 74 #[.pointer p, .agg #[.int .i64 lo, .int .i64 hi, .int .i64 tag], .pointer y] W' fun e w' => ∃ g t, e = .returned (.pointer (some ⟨g, 0, none⟩)) ∧ IsT w' t (.pointer (some ⟨g, 0, none⟩)) ∧ Hid (t.L = l.L ++ ⟨lo, hi, tag⟩ :: k.L) ∧ Below W0.heap.size W0 w') := fun W' h =>
    (newNode_any l k lo hi tag _ _ W' (IsT.below h (IsT.below hb0 hl)) (IsT.below h (IsT.below hb0 hk)) hb).mono fun e w' ⟨g, he, ht, hB⟩ => ⟨g, _, he, ht, by show _ = _; simp [T.L], h.trans (hB.mono h.size)⟩
  have HALL := Lib.hid hall
  have HW0 := Lib.hid HW
  have HB0 := Lib.hid hb0
  clear HW hall hl hk hb hb0
  have he2 : ((l.tall : Int) - k.tall == 2) = false := beq_eq_false_iff_ne.2 h1
  have he3 : ((l.tall : Int) - k.tall == -2) = false := beq_eq_false_iff_ne.2 h2
  clear h1 h2
  generalize l.tall = tl at *
  generalize k.tall = tk at *
  have hq1 : tl ≤ 100001 := by omega
  have hq2 : tk ≤ 100001 := by omega
  go_enter Try.func80, Try.ntmps80
  go_wp2_with fail
  rw [← HW0.out]
  refine (HTL.out _ (Below.refl _ _)).mono ?_
  rintro e w1 ⟨rfl, rfl⟩
  go_wp2_with fail
  refine (HTK.out _ (Below.refl _ _)).mono ?_
  rintro e w1 ⟨rfl, rfl⟩
  have hs : Below W0.heap.size W0 W0 := Below.refl _ _
  have hc0 := HALL.out _ hs
  unfold Bs at hc0 HALL
  go_wp2_with fail
  refine (HNN.out _ hs).mono ?_
  rintro e w2 ⟨g, t, rfl, hgt, HTE, hB⟩
  have HT := Lib.hid hgt
  have HB := Lib.hid (HB0.out.trans (hB.mono (Nat.le_of_lt hs0)))
  clear hgt hB
  go_wp2_with fail
  go_ret
  exact ⟨g, t, rfl, HT.out, HTE.out, HB.out⟩
theorem balance_any (l k : T) (lo hi tag : Int) (p y : Option Addr) (W : World) (hl : IsT W l (.pointer p)) (hk : IsT W k (.pointer y)) (hb : Bd (l.L ++ ⟨lo, hi, tag⟩ :: k.L)) :
    Calls Try.prog 80 #[.pointer p, .agg #[.int .i64 lo, .int .i64 hi, .int .i64 tag], .pointer y] W (TreeOf W (l.L ++ ⟨lo, hi, tag⟩ :: k.L)) := by
  by_cases h1 : (l.tall : Int) - k.tall = 2
  · obtain ⟨c, ⟨lo2, hi2, tag2⟩, d, rfl⟩ := tall_pos (t := l) (by omega)
    have hb' : Bd (c.L ++ ⟨lo2, hi2, tag2⟩ :: (d.L ++ ⟨lo, hi, tag⟩ :: k.L)) := by simpa [T.L] using hb
    by_cases h : d.tall ≤ c.tall
    · exact balance_LL c d k lo hi tag lo2 hi2 tag2 p y W hl hk hb' h1 h
    · exact balance_LR c d k lo hi tag lo2 hi2 tag2 p y W hl hk hb' h1 (by omega)
  · by_cases h2 : (l.tall : Int) - k.tall = -2
    · obtain ⟨c, ⟨lo2, hi2, tag2⟩, d, rfl⟩ := tall_pos (t := k) (by omega)
      have hb' : Bd ((l.L ++ ⟨lo, hi, tag⟩ :: c.L) ++ ⟨lo2, hi2, tag2⟩ :: d.L) := by simpa [T.L] using hb
      by_cases h : c.tall ≤ d.tall
      · exact balance_RR c d l lo hi tag lo2 hi2 tag2 y p W hk hl hb' h2 h
      · exact balance_RL c d l lo hi tag lo2 hi2 tag2 y p W hk hl hb' h2 (by omega)
    · exact balance_O l k lo hi tag p y W hl hk hb h1 h2
end Go.Proofs.Ytjbenhmpeceaeaa
