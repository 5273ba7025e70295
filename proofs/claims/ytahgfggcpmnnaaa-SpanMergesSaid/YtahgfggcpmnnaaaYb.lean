/- Canonical lists of runs: cutting, joining, and what is counted in them. Of no program. -/
import Derived.Test.YtahgfggcpmnnaaaYa
namespace Gs

/-- the runs of the function f from a to b -/
def Can (f : Int → Int) (a : Int) (l : List R) (b : Int) : Prop := Fits f a l b ∧ Alt l
/-- the pieces lie in a map, and f gives them tags -/
def Ctx (f : Int → Int) (a b : Int) : Prop := 0 ≤ a ∧ b ≤ 1099511627776 ∧ ∀ p, a ≤ p → p < b → 0 ≤ f p ∧ f p < 16

theorem Fits.bd {f : Int → Int} : ∀ {l : List R} {a b : Int}, Fits f a l b → Ctx f a b → ∀ r ∈ l, Bd1 r
  | [], _, _, _, _ => by simp
  | r :: l, a, b, h, c => by
    have hle := h.2.2.2.le
    obtain ⟨h1, h2, h3, h4⟩ := h
    obtain ⟨c1, c2, c3⟩ := c
    intro x hx
    rcases List.mem_cons.1 hx with rfl | hx
    · have := c3 a (by omega) (by omega)
      have := h3 a (by omega) (by omega)
      unfold Bd1
      omega
    · exact Fits.bd h4 ⟨by omega, c2, fun p p1 p2 => c3 p (by omega) p2⟩ x hx
theorem Ctx.sub {f : Int → Int} {a b a' b' : Int} (h : Ctx f a b) (ha : a ≤ a') (hb : b' ≤ b) : Ctx f a' b' := by
  obtain ⟨h1, h2, h3⟩ := h
  exact ⟨by omega, by omega, fun p p1 p2 => h3 p (by omega) (by omega)⟩
theorem Can.nil (f : Int → Int) (a : Int) : Can f a [] a := ⟨rfl, trivial⟩
theorem Can.le {f : Int → Int} {l : List R} {a b : Int} (h : Can f a l b) : a ≤ b := h.1.le
theorem Can.one {f : Int → Int} {r : R} (h : r.lo < r.hi) (e : ∀ p, r.lo ≤ p → p < r.hi → f p = r.tag) : Can f r.lo [r] r.hi := ⟨⟨rfl, h, e, rfl⟩, trivial⟩
theorem Can.same {f : Int → Int} {l k : List R} {a b : Int} (h : Can f a l b) (h' : Can f a k b) : l = k := fits_same h.1 h.2 h'.1 h'.2
theorem Can.congr {f g : Int → Int} {l : List R} {a b : Int} (h : Can f a l b) (e : ∀ p, a ≤ p → p < b → f p = g p) : Can g a l b := ⟨h.1.congr e, h.2⟩
theorem Can.join {f : Int → Int} {l k : List R} {a m b : Int} (h : Can f a l m) (h' : Can f m k b) (e : a < m → m < b → f (m - 1) ≠ f m) : Can f a (l ++ k) b := by
  refine ⟨fits_append.2 ⟨m, h.1, h'.1⟩, ?_⟩
  cases k with
  | nil => rw [List.append_nil]; exact h.2
  | cons x k =>
    refine alt_append h.2 h'.2 fun y hy => ?_
    obtain ⟨y1, y2, y3⟩ := h.1.last hy
    obtain ⟨x1, x2, x3⟩ := h'.1.first (y := x) rfl
    rw [← y1, ← x1]
    have ha : a < m := by
      cases l with
      | nil => simp at hy
      | cons z l => exact h.1.lt
    exact e ha h'.1.lt
theorem Can.part {f : Int → Int} {l k : List R} {a b : Int} (h : Can f a (l ++ k) b) : ∃ m, Can f a l m ∧ Can f m k b ∧ (a < m → m < b → f (m - 1) ≠ f m) := by
  obtain ⟨h1, h2⟩ := h
  obtain ⟨m, h3, h4⟩ := fits_append.1 h1
  refine ⟨m, ⟨h3, h2.left⟩, ⟨h4, h2.right⟩, fun ha hb => ?_⟩
  rcases List.eq_nil_or_concat l with rfl | ⟨l', z, rfl⟩
  · simp only [Fits] at h3; omega
  · cases k with
    | nil => simp only [Fits] at h4; omega
    | cons x k =>
      obtain ⟨y1, y2, y3⟩ := h3.last (y := z) (by simp)
      obtain ⟨x1, x2, x3⟩ := h4.first (y := x) rfl
      rw [y1, x1]
      have h5 : Alt (l' ++ z :: x :: k) := by simpa using h2
      exact h5.right.1
theorem Can.mid {f : Int → Int} {l k : List R} {r : R} {a b : Int} (h : Can f a (l ++ r :: k) b) :
    Can f a l r.lo ∧ Can f r.hi k b ∧ r.lo < r.hi ∧ (∀ p, r.lo ≤ p → p < r.hi → f p = r.tag) ∧ (a < r.lo → f (r.lo - 1) ≠ f r.lo) ∧ (r.hi < b → f (r.hi - 1) ≠ f r.hi) := by
  obtain ⟨m, h1, h2, h3⟩ := h.part
  have h4 : Can f m ([r] ++ k) b := h2
  obtain ⟨m', h5, h6, h7⟩ := h4.part
  have hlt := h2.1.lt
  obtain ⟨e1, e2, e3, e4⟩ := h5.1
  simp only [Fits] at e4
  subst e1; subst e4
  exact ⟨h1, h6, e2, e3, fun ha => h3 ha hlt, fun hb => h7 e2 hb⟩
theorem Can.make {f : Int → Int} {l k : List R} {r : R} {a b : Int} (h1 : Can f a l r.lo) (h2 : Can f r.hi k b) (h3 : r.lo < r.hi) (h4 : ∀ p, r.lo ≤ p → p < r.hi → f p = r.tag) (h5 : a < r.lo → f (r.lo - 1) ≠ f r.lo) (h6 : r.hi < b → f (r.hi - 1) ≠ f r.hi) : Can f a (l ++ r :: k) b :=
  h1.join ((Can.one h3 h4).join h2 fun _ hb => h6 hb) fun ha _ => h5 ha
/-- the last run of a list -/
theorem Can.last {f : Int → Int} {l : List R} {a b : Int} {y : R} (h : Can f a l b) (e : l.getLast? = some y) :
    y.hi = b ∧ y.lo < b ∧ a ≤ y.lo ∧ (∀ p, y.lo ≤ p → p < b → f p = y.tag) ∧ (a < y.lo → f (y.lo - 1) ≠ f y.lo) := by
  obtain ⟨k, rfl⟩ : ∃ k, l = k ++ [y] := by
    rcases List.eq_nil_or_concat l with rfl | ⟨k, z, rfl⟩
    · simp at e
    · simp at e; subst e; exact ⟨k, by simp⟩
  obtain ⟨h1, h2, h3, h4, h5, _⟩ := h.mid
  obtain ⟨h6, _⟩ := h2
  simp only [Fits] at h6
  subst h6
  exact ⟨rfl, h3, h1.le, h4, h5⟩
theorem Can.first {f : Int → Int} {l : List R} {a b : Int} {y : R} (h : Can f a l b) (e : l.head? = some y) :
    y.lo = a ∧ a < y.hi ∧ y.hi ≤ b ∧ (∀ p, a ≤ p → p < y.hi → f p = y.tag) ∧ (y.hi < b → f (y.hi - 1) ≠ f y.hi) := by
  obtain ⟨k, rfl⟩ : ∃ k, l = [] ++ y :: k := by
    cases l with
    | nil => simp at e
    | cons z l => simp at e; subst e; exact ⟨l, rfl⟩
  obtain ⟨h1, h2, h3, h4, _, h6⟩ := h.mid
  obtain ⟨h7, _⟩ := h1
  simp only [Fits] at h7
  subst h7
  exact ⟨rfl, h3, h2.le, h4, h6⟩

/-- how many pieces below at have the tag -/
def cb (at' k : Int) : List R → Int
  | [] => 0
  | r :: l => (if r.tag = k then max 0 (min at' r.hi - r.lo) else 0) + cb at' k l
theorem cb_append (at' k : Int) : ∀ (l m : List R), cb at' k (l ++ m) = cb at' k l + cb at' k m
  | [], m => by simp [cb]
  | r :: l, m => by simp only [List.cons_append, cb, cb_append at' k l m]; omega
theorem cb_low {f : Int → Int} (at' k : Int) : ∀ {l : List R} {a b : Int}, Fits f a l b → at' ≤ a → cb at' k l = 0
  | [], _, _, _, _ => rfl
  | r :: l, a, b, h, e => by
    obtain ⟨h1, h2, h3, h4⟩ := h
    simp only [cb, cb_low at' k h4 (by omega)]
    split <;> omega
theorem cb_high {f : Int → Int} (at' k : Int) : ∀ {l : List R} {a b : Int}, Fits f a l b → b ≤ at' → cb at' k l = cnt k l
  | [], _, _, _, _ => rfl
  | r :: l, a, b, h, e => by
    have hle := h.2.2.2.le
    obtain ⟨h1, h2, h3, h4⟩ := h
    simp only [cb, cnt, cb_high at' k h4 e]
    split <;> omega
theorem cb_bd {f : Int → Int} (at' k : Int) : ∀ {l : List R} {a b : Int}, Fits f a l b → 0 ≤ cb at' k l ∧ cb at' k l ≤ cnt k l ∧ cnt k l ≤ b - a
  | [], _, _, h => by simp only [Fits] at h; simp [cb, cnt]; omega
  | r :: l, a, b, h => by
    obtain ⟨h1, h2, h3, h4⟩ := h
    have := cb_bd at' k h4
    simp only [cb, cnt]
    split <;> omega
/-- the parts of countBelow's two ways -/
theorem cb_left {f : Int → Int} {l m : List R} {r : R} {a b at' k : Int} (h : Can f a (l ++ r :: m) b) (e : at' ≤ r.lo) : cb at' k (l ++ r :: m) = cb at' k l := by
  obtain ⟨h1, h2, h3, h4, _, _⟩ := h.mid
  rw [cb_append]
  simp only [cb, cb_low at' k h2.1 (by omega)]
  split <;> omega
theorem cb_right {f : Int → Int} {l m : List R} {r : R} {a b at' k : Int} (h : Can f a (l ++ r :: m) b) (e : r.lo < at') : cb at' k (l ++ r :: m) = cnt k l + cb at' k m + (if r.tag = k then min at' r.hi - r.lo else 0) := by
  obtain ⟨h1, h2, h3, h4, _, _⟩ := h.mid
  rw [cb_append, cb_high at' k h1.1 (by omega)]
  simp only [cb]
  split <;> omega
/-- one piece more -/
theorem cb_succ {f : Int → Int} {p k : Int} : ∀ {l : List R} {a b : Int}, Fits f a l b → a ≤ p → p < b → cb (p + 1) k l = cb p k l + if f p = k then 1 else 0
  | [], _, _, h, _, _ => by simp only [Fits] at h; omega
  | r :: l, a, b, h, h1, h2 => by
    obtain ⟨g1, g2, g3, g4⟩ := h
    simp only [cb]
    rcases Int.lt_or_le p r.hi with hp | hp
    · rw [cb_low (p + 1) k g4 (by omega), cb_low p k g4 (by omega), g3 p (by omega) hp]
      split <;> omega
    · rw [cb_succ g4 hp h2]
      have e1 : min (p + 1) r.hi = r.hi := by omega
      have e2 : min p r.hi = r.hi := by omega
      rw [e1, e2]
      omega
/-- as many pieces between as have the tag -/
theorem cb_mono {f : Int → Int} {k : Int} {l : List R} {a b : Int} (h : Fits f a l b) (n : Nat) : ∀ p, a ≤ p → p + n ≤ b → cb p k l ≤ cb (p + n) k l := by
  induction n with
  | zero => intro p _ _; simp
  | succ n ih =>
    intro p h1 h2
    have h3 := ih p h1 (by omega)
    have h4 := cb_succ (k := k) h (p := p + n) (by omega) (by omega)
    rw [show p + ((n + 1 : Nat) : Int) = p + n + 1 from by omega, h4]
    split <;> omega
theorem cb_le {f : Int → Int} {k : Int} {l : List R} {a b : Int} (h : Fits f a l b) {p q : Int} (h1 : a ≤ p) (h2 : p ≤ q) (h3 : q ≤ b) : cb p k l ≤ cb q k l := by
  have := cb_mono (k := k) h (q - p).toNat p h1 (by omega)
  rwa [show p + ((q - p).toNat : Int) = q from by omega] at this
/-- the piece with k pieces of its tag below it is one alone -/
theorem find_one {f : Int → Int} {t n : Int} {l : List R} {a b : Int} (h : Fits f a l b) {p q : Int} (p1 : a ≤ p) (p2 : p < b) (q1 : a ≤ q) (q2 : q < b) (hp : f p = t) (hq : f q = t) (cp : cb p t l = n) (cq : cb q t l = n) : p = q := by
  have key : ∀ x y, a ≤ x → x < y → y < b → f x = t → cb x t l < cb y t l := by
    intro x y x1 xy y2 hx
    have h1 := cb_succ (k := t) h x1 (by omega)
    rw [if_pos hx] at h1
    have h2 := cb_le (k := t) h (p := x + 1) (q := y) (by omega) (by omega) (by omega)
    omega
  rcases Int.lt_or_le p q with h1 | h1
  · have := key p q p1 h1 q2 hp; omega
  · rcases Int.lt_or_le q p with h2 | h2
    · have := key q p q1 h2 p2 hq; omega
    · omega
end Gs
