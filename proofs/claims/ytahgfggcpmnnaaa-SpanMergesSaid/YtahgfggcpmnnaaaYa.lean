/- Runs of a map, as plain lists: what fits a function from pieces to tags, and that this determines it. Of no program. -/
import Derived.Below
namespace Gs

structure R where
  lo : Int
  hi : Int
  tag : Int
deriving DecidableEq

/-- the runs go from a to b, none is empty, and each has the tag that f says -/
def Fits (f : Int → Int) : Int → List R → Int → Prop
  | a, [], b => a = b
  | a, r :: l, b => r.lo = a ∧ r.lo < r.hi ∧ (∀ p, r.lo ≤ p → p < r.hi → f p = r.tag) ∧ Fits f r.hi l b
/-- neighbors have different tags -/
def Alt : List R → Prop
  | [] => True
  | [_] => True
  | r :: s :: l => r.tag ≠ s.tag ∧ Alt (s :: l)
/-- how many pieces have the tag -/
def cnt (k : Int) : List R → Int
  | [] => 0
  | r :: l => (if r.tag = k then r.hi - r.lo else 0) + cnt k l
/-- bounds: what keeps all sums within an int -/
def Bd1 (r : R) : Prop := 0 ≤ r.lo ∧ r.lo < r.hi ∧ r.hi ≤ 1099511627776 ∧ 0 ≤ r.tag ∧ r.tag < 16
def Bd (l : List R) : Prop := l.length ≤ 100000 ∧ ∀ r ∈ l, Bd1 r

theorem Fits.le {f : Int → Int} : ∀ {l : List R} {a b : Int}, Fits f a l b → a ≤ b
  | [], _, _, h => by simp only [Fits] at h; omega
  | r :: l, _, _, h => by have := Fits.le h.2.2.2; have := h.1; have := h.2.1; omega
theorem Fits.lt {f : Int → Int} {r : R} {l : List R} {a b : Int} (h : Fits f a (r :: l) b) : a < b := by
  have := Fits.le h.2.2.2; have := h.1; have := h.2.1; omega
theorem fits_append {f : Int → Int} : ∀ {l k : List R} {a b : Int}, Fits f a (l ++ k) b ↔ ∃ m, Fits f a l m ∧ Fits f m k b
  | [], k, a, b => ⟨fun h => ⟨a, rfl, h⟩, fun ⟨m, h1, h2⟩ => by cases h1; exact h2⟩
  | r :: l, k, a, b => by
    simp only [List.cons_append, Fits, fits_append (l := l)]
    constructor
    · rintro ⟨h1, h2, h3, m, h4, h5⟩; exact ⟨m, ⟨h1, h2, h3, h4⟩, h5⟩
    · rintro ⟨m, ⟨h1, h2, h3, h4⟩, h5⟩; exact ⟨h1, h2, h3, m, h4, h5⟩
theorem Fits.congr {f g : Int → Int} : ∀ {l : List R} {a b : Int}, Fits f a l b → (∀ p, a ≤ p → p < b → f p = g p) → Fits g a l b
  | [], _, _, h, _ => h
  | r :: l, a, b, h, e => by
    obtain ⟨h1, h2, h3, h4⟩ := h
    have := Fits.le h4
    exact ⟨h1, h2, fun p p1 p2 => by rw [← e p (by omega) (by omega)]; exact h3 p p1 p2, h4.congr fun p p1 p2 => e p (by omega) p2⟩
theorem Fits.ends {f : Int → Int} : ∀ {l : List R} {a b c : Int}, Fits f a l b → Fits f a l c → b = c
  | [], _, _, _, h, k => by simp only [Fits] at h k; omega
  | _ :: _, _, _, _, h, k => Fits.ends h.2.2.2 k.2.2.2
theorem Alt.tail {r : R} {l : List R} (h : Alt (r :: l)) : Alt l := by
  cases l with
  | nil => trivial
  | cons s l => exact h.2
theorem Alt.left : ∀ {l k : List R}, Alt (l ++ k) → Alt l
  | [], _, _ => trivial
  | [_], _, _ => trivial
  | _r :: s :: l, k, h => ⟨h.1, Alt.left (l := s :: l) (k := k) h.2⟩
theorem Alt.right : ∀ {l k : List R}, Alt (l ++ k) → Alt k
  | [], _, h => h
  | _ :: l, k, h => Alt.right (l := l) (k := k) (Alt.tail h)
/-- a list that fits and alternates: its first run ends where the function changes -/
theorem head_le {f : Int → Int} {r s : R} {l k : List R} {a b : Int} (h : Fits f a (r :: l) b) (hl : Alt (r :: l)) (h' : Fits f a (s :: k) b) : s.hi ≤ r.hi := by
  obtain ⟨h1, h2, h3, h4⟩ := h
  obtain ⟨g1, g2, g3, g4⟩ := h'
  have gb := g4.le
  refine Classical.byContradiction fun hn => ?_
  have hlt : r.hi < s.hi := by omega
  cases l with
  | nil => simp only [Fits] at h4; omega
  | cons t l =>
    obtain ⟨t1, t2, t3, _⟩ := h4
    have e1 : f r.hi = t.tag := t3 _ (by omega) (by omega)
    have e2 : f r.hi = s.tag := g3 _ (by omega) hlt
    have e3 : f a = r.tag := h3 _ (by omega) (by omega)
    have e4 : f a = s.tag := g3 _ (by omega) (by omega)
    exact hl.1 (by rw [← e3, e4, ← e2, e1])
/-- two lists of runs that fit the same function are the same -/
theorem fits_same {f : Int → Int} : ∀ {l k : List R} {a b : Int}, Fits f a l b → Alt l → Fits f a k b → Alt k → l = k
  | [], [], _, _, _, _, _, _ => rfl
  | [], r :: k, _, _, h, _, h', _ => by have := h'.lt; simp only [Fits] at h; omega
  | r :: l, [], _, _, h, _, h', _ => by have := h.lt; simp only [Fits] at h'; omega
  | r :: l, s :: k, a, b, h, hl, h', hk => by
    have e1 := head_le h hl h'
    have e2 := head_le h' hk h
    obtain ⟨h1, h2, h3, h4⟩ := h
    obtain ⟨g1, g2, g3, g4⟩ := h'
    have et : r.tag = s.tag := by rw [← h3 a (by omega) (by omega), ← g3 a (by omega) (by omega)]
    have eh : r.hi = s.hi := by omega
    have er : r = s := by cases r; cases s; simp at *; omega
    subst er
    rw [fits_same h4 hl.tail g4 hk.tail]
theorem alt_append {x : R} : ∀ {l : List R} {k : List R}, Alt l → Alt (x :: k) → (∀ y, l.getLast? = some y → y.tag ≠ x.tag) → Alt (l ++ x :: k)
  | [], _, _, h, _ => h
  | [y], _, _, h, e => ⟨e y rfl, h⟩
  | y :: z :: l, k, hl, h, e => ⟨hl.1, alt_append (l := z :: l) hl.2 h (fun u hu => e u (by simpa using hu))⟩
theorem alt_cons {x : R} {l : List R} (hl : Alt l) (e : ∀ y, l.head? = some y → x.tag ≠ y.tag) : Alt (x :: l) := by
  cases l with
  | nil => trivial
  | cons y l => exact ⟨e y rfl, hl⟩
theorem alt_last {x y : R} : ∀ {l : List R}, Alt (l ++ [x]) → l.getLast? = some y → y.tag ≠ x.tag
  | [], _, h => by simp at h
  | [z], h, e => by simp at e; subst e; exact h.1
  | z :: u :: l, h, e => alt_last (l := u :: l) h.2 (by simpa using e)
/-- the tag at the last piece of a list -/
theorem Fits.last {f : Int → Int} {l : List R} {a b : Int} {y : R} (h : Fits f a l b) (e : l.getLast? = some y) : f (b - 1) = y.tag ∧ y.hi = b ∧ y.lo < b := by
  obtain ⟨k, rfl⟩ : ∃ k, l = k ++ [y] := by
    rcases List.eq_nil_or_concat l with rfl | ⟨k, z, rfl⟩
    · simp at e
    · simp at e; subst e; exact ⟨k, by simp⟩
  obtain ⟨m, _, h1, h2, h3, h4⟩ := fits_append.1 h
  simp only [Fits] at h4
  exact ⟨h3 _ (by omega) (by omega), h4, by omega⟩
theorem Fits.first {f : Int → Int} {l : List R} {a b : Int} {y : R} (h : Fits f a l b) (e : l.head? = some y) : f a = y.tag ∧ y.lo = a ∧ a < y.hi := by
  cases l with
  | nil => simp at e
  | cons z l =>
    simp at e; subst e
    obtain ⟨h1, h2, h3, _⟩ := h
    exact ⟨h3 _ (by omega) (by omega), h1, by omega⟩
/-- the parts of a split -/
theorem fits_cut {f : Int → Int} {l : List R} {a b : Int} (h : Fits f a l b) : l = [] ∧ a = b ∨ ∃ r k, l = r :: k := by
  cases l with
  | nil => exact .inl ⟨rfl, h⟩
  | cons r k => exact .inr ⟨r, k, rfl⟩
theorem cnt_append (k : Int) : ∀ (l m : List R), cnt k (l ++ m) = cnt k l + cnt k m
  | [], m => by simp [cnt]
  | r :: l, m => by simp only [List.cons_append, cnt, cnt_append k l m]; omega
theorem cnt_bd {k : Int} : ∀ {l : List R}, (∀ r ∈ l, Bd1 r) → 0 ≤ cnt k l ∧ cnt k l ≤ 1099511627776 * l.length
  | [], _ => by simp [cnt]
  | r :: l, h => by
    have h1 := h r (by simp)
    have h2 := cnt_bd (k := k) (l := l) (fun x hx => h x (by simp [hx]))
    unfold Bd1 at h1
    simp only [cnt, List.length_cons]
    split <;> omega
theorem Bd.cnt {l : List R} (h : Bd l) (k : Int) : 0 ≤ cnt k l ∧ cnt k l ≤ 109951162777600000 := by
  have := cnt_bd (k := k) h.2
  have := h.1
  omega
theorem Bd.left {l k : List R} (h : Bd (l ++ k)) : Bd l := ⟨by have := h.1; simp at this; omega, fun r hr => h.2 r (by simp [hr])⟩
theorem Bd.right {l k : List R} (h : Bd (l ++ k)) : Bd k := ⟨by have := h.1; simp at this; omega, fun r hr => h.2 r (by simp [hr])⟩
theorem Bd.head {r : R} {l : List R} (h : Bd (r :: l)) : Bd1 r := h.2 r (by simp)
theorem Bd.tail {r : R} {l : List R} (h : Bd (r :: l)) : Bd l := ⟨by have := h.1; simp at this; omega, fun x hx => h.2 x (by simp [hx])⟩

/-- a tree of runs -/
inductive T where
  | nil : T
  | node (l : T) (r : R) (k : T) : T
def T.L : T → List R
  | .nil => []
  | .node l r k => l.L ++ r :: k.L
def T.tall : T → Nat
  | .nil => 0
  | .node l _ k => max (1 + l.tall) (1 + k.tall)
def T.sz : T → Nat
  | .nil => 0
  | .node l _ k => 1 + l.sz + k.sz
theorem T.sz_eq : ∀ t : T, t.sz = t.L.length
  | .nil => rfl
  | .node l r k => by simp [T.sz, T.L, T.sz_eq l, T.sz_eq k]; omega
theorem T.tall_le : ∀ t : T, t.tall ≤ t.sz
  | .nil => Nat.le_refl _
  | .node l r k => by have := T.tall_le l; have := T.tall_le k; simp [T.tall, T.sz]; omega
end Gs
