/- What the runs of a range are: canonical, and as many pieces of each tag as Count says; the sums of the counts; a list of runs at a slice. -/
import Derived.Test.YtahgfggcpmnnaaaZo
namespace Go.Proofs.Ytahgfggcpmnnaaa
open Go Go.RowKit Gs

theorem clip_out {f : Int → Int} {lo hi : Int} : ∀ {l : List R} {a b : Int}, Fits f a l b → hi ≤ a → clip lo hi l = []
  | [], _, _, _, _ => rfl
  | r :: l, a, b, h, hm => by
    have h1 := h.1; have h3 := h.2.1
    rw [clip_cons, clip_out h.2.2.2 (by omega), List.append_nil]
    unfold clip1
    rw [if_neg (by omega)]
theorem clip_fits {f : Int → Int} {lo hi : Int} : ∀ {l : List R} {a b : Int}, Fits f a l b → max lo a ≤ min hi b → Fits f (max lo a) (clip lo hi l) (min hi b)
  | [], a, b, h, hm => by
    have h : a = b := h
    subst h
    show max lo a = min hi a
    omega
  | r :: l, a, b, h, hm => by
    have h1 := h.1; have h3 := h.2.1; have h4 := h.2.2.1; have h5 := h.2.2.2
    have hle := h5.le
    rw [clip_cons]
    unfold clip1
    by_cases hc : max lo r.lo < min r.hi hi
    · rw [if_pos hc]
      show max lo r.lo = max lo a ∧ max lo r.lo < min r.hi hi ∧ (∀ p, max lo r.lo ≤ p → p < min r.hi hi → f p = r.tag) ∧ Fits f (min r.hi hi) (clip lo hi l) (min hi b)
      refine ⟨by omega, hc, fun p p1 p2 => h4 p (by omega) (by omega), ?_⟩
      by_cases hh : r.hi ≤ hi
      · have := clip_fits (lo := lo) (hi := hi) h5 (by omega)
        rw [show max lo r.hi = min r.hi hi by omega] at this
        exact this
      · rw [clip_out h5 (by omega)]
        show min r.hi hi = min hi b
        omega
    · rw [if_neg hc, List.nil_append]
      by_cases hh : r.hi ≤ lo
      · have := clip_fits (lo := lo) (hi := hi) h5 (by omega)
        rw [show max lo r.hi = max lo a by omega] at this
        exact this
      · rw [clip_out h5 (by omega)]
        show max lo a = min hi b
        omega
theorem clip_alt {f : Int → Int} {lo hi : Int} : ∀ {l : List R} {a b : Int}, Fits f a l b → Alt l → Alt (clip lo hi l)
  | [], _, _, _, _ => trivial
  | r :: l, a, b, h, hl => by
    have h1 := h.1; have h3 := h.2.1; have h5 := h.2.2.2
    have hle := h5.le
    have ih := clip_alt (lo := lo) (hi := hi) h5 hl.tail
    rw [clip_cons]
    unfold clip1
    by_cases hc : max lo r.lo < min r.hi hi
    · rw [if_pos hc]
      show Alt (⟨max lo r.lo, min r.hi hi, r.tag⟩ :: clip lo hi l)
      refine alt_cons ih fun y hy => ?_
      show r.tag ≠ y.tag
      by_cases hh : r.hi < hi
      · cases l with
        | nil => cases hy
        | cons s m =>
          have hb := h5.lt
          have hf := clip_fits (lo := lo) (hi := hi) h5 (by omega)
          have e1 := hf.first hy
          have e2 := h5.first (y := s) rfl
          rw [show max lo r.hi = r.hi by omega] at e1
          rw [← e1.1, e2.1]
          exact hl.1
      · rw [clip_out h5 (by omega)] at hy
        cases hy
    · rw [if_neg hc]
      exact ih
theorem clip_can {f : Int → Int} {lo hi size : Int} {l : List R} (h : Gs.Can f 0 l size) (h1 : 0 ≤ lo) (h2 : lo ≤ hi) (h3 : hi ≤ size) : Gs.Can f lo (clip lo hi l) hi := by
  have := clip_fits (lo := lo) (hi := hi) h.1 (by omega)
  rw [show max lo 0 = lo by omega, show min hi size = hi by omega] at this
  exact ⟨this, clip_alt h.1 h.2⟩
theorem cnt_clip (k : Int) {lo hi : Int} (hle : lo ≤ hi) : ∀ {l : List R}, (∀ r ∈ l, r.lo < r.hi) → cnt k (clip lo hi l) = cb hi k l - cb lo k l
  | [], _ => rfl
  | r :: l, h => by
    have h1 := h r (List.mem_cons_self ..)
    have ih := cnt_clip k hle (fun x hx => h x (List.mem_cons_of_mem _ hx))
    rw [clip_cons, cnt_append, ih]
    unfold clip1
    show _ = ((if r.tag = k then max 0 (min hi r.hi - r.lo) else 0) + cb hi k l) - ((if r.tag = k then max 0 (min lo r.hi - r.lo) else 0) + cb lo k l)
    by_cases hc : max lo r.lo < min r.hi hi
    · rw [if_pos hc]
      show (if r.tag = k then min r.hi hi - max lo r.lo else 0) + 0 + _ = _
      by_cases hk : r.tag = k
      · rw [if_pos hk, if_pos hk, if_pos hk]; omega
      · rw [if_neg hk, if_neg hk, if_neg hk]; omega
    · rw [if_neg hc]
      show 0 + _ = _
      by_cases hk : r.tag = k
      · rw [if_pos hk, if_pos hk]; omega
      · rw [if_neg hk, if_neg hk]; omega
/-- the sum of the counts of the tags below n -/
def sumc (l : List R) : Nat → Int
  | 0 => 0
  | n + 1 => sumc l n + cnt n l
theorem sumc_cons (r : R) (l : List R) (ht : 0 ≤ r.tag) : ∀ n : Nat, sumc (r :: l) n = sumc l n + if r.tag < n then r.hi - r.lo else 0
  | 0 => by
    rw [if_neg (by omega)]; rfl
  | n + 1 => by
    show sumc (r :: l) n + ((if r.tag = n then r.hi - r.lo else 0) + cnt n l) = sumc l n + cnt n l + _
    rw [sumc_cons r l ht n]
    by_cases e : r.tag = n
    · rw [if_pos e, if_neg (by omega), if_pos (by omega)]; omega
    · by_cases e2 : r.tag < n
      · rw [if_neg e, if_pos e2, if_pos (by omega)]; omega
      · rw [if_neg e, if_neg e2, if_neg (by omega)]; omega
theorem sumc_all {f : Int → Int} : ∀ {l : List R} {a b : Int}, Fits f a l b → (∀ r ∈ l, 0 ≤ r.tag ∧ r.tag < 16) → sumc l 16 = b - a
  | [], a, b, h, _ => by
    have h : a = b := h
    subst h
    show sumc [] 16 = _
    rw [show sumc [] 16 = 0 by decide]; omega
  | r :: l, a, b, h, ht => by
    have h0 := ht r (List.mem_cons_self ..)
    rw [sumc_cons r l h0.1, sumc_all h.2.2.2 (fun x hx => ht x (List.mem_cons_of_mem _ hx)), if_pos (show r.tag < (16 : Nat) by omega)]
    have := h.1
    omega
theorem sumc_nn {l : List R} (h : ∀ k : Nat, 0 ≤ cnt k l) : ∀ n m : Nat, n ≤ m → sumc l n ≤ sumc l m
  | n, 0, hnm => by rw [Nat.le_zero.1 hnm]; exact Int.le_refl _
  | n, m + 1, hnm => by
    by_cases e : n = m + 1
    · rw [e]; exact Int.le_refl _
    · have := sumc_nn h n m (by omega)
      have h2 := h m
      show _ ≤ sumc l m + cnt m l
      omega
/-- a list of runs lies at a slice -/
def IsRs (base : Nat) (W : World) (v : Value) (l : List R) : Prop :=
  ∃ ao c, v = .slice ao l.length c ∧ (0 < l.length → ∃ B, ao = some ⟨B, 0, none⟩ ∧ (base ≤ B ∧ B < W.heap.size) ∧ ∀ j (h : j < l.length),
    W.cell? ⟨B, j * 3, none⟩ = some (.int .i64 l[j].lo) ∧ W.cell? ⟨B, j * 3 + 1, none⟩ = some (.int .i64 l[j].hi) ∧ W.cell? ⟨B, j * 3 + 2, none⟩ = some (.int .i64 l[j].tag))
theorem IsRs.below {base : Nat} {W W' : World} {v : Value} {l : List R} (h : IsRs base W v l) (hb : Below W.heap.size W W') : IsRs base W' v l := by
  obtain ⟨ao, c, hv, h⟩ := h
  refine ⟨ao, c, hv, fun hp => ?_⟩
  obtain ⟨B, e, hB, hc⟩ := h hp
  refine ⟨B, e, ⟨hB.1, Nat.lt_of_lt_of_le hB.2 hb.size⟩, fun j hj => ?_⟩
  obtain ⟨h0, h1, h2⟩ := hc j hj
  exact ⟨(hb.cell (p := ⟨B, _, none⟩) hB.2).trans h0, (hb.cell (p := ⟨B, _, none⟩) hB.2).trans h1, (hb.cell (p := ⟨B, _, none⟩) hB.2).trans h2⟩
theorem IsRs.set {base : Nat} {W : World} {v : Value} {l : List R} (h : IsRs base W v l) (p : Addr) (hp : p.block < base) (x : Value) : IsRs base (W.setCell p x) v l := by
  obtain ⟨ao, c, hv, h⟩ := h
  refine ⟨ao, c, hv, fun hl => ?_⟩
  obtain ⟨B, e, hB, hc⟩ := h hl
  refine ⟨B, e, ⟨hB.1, by rw [World.size_setCell]; exact hB.2⟩, fun j hj => ?_⟩
  obtain ⟨h0, h1, h2⟩ := hc j hj
  have hne : ∀ q : Addr, q.block = B → q ≠ p := fun q e1 e2 => by rw [← e2, e1] at hp; omega
  exact ⟨(World.cell?_setCell_other _ _ _ _ (hne _ rfl).symm).trans h0, (World.cell?_setCell_other _ _ _ _ (hne _ rfl).symm).trans h1, (World.cell?_setCell_other _ _ _ _ (hne _ rfl).symm).trans h2⟩
theorem encL_get : ∀ (l : List R) (j : Nat) (h : j < l.length), (l.flatMap encL)[j * 3]? = some (.int .i64 l[j].lo) ∧ (l.flatMap encL)[j * 3 + 1]? = some (.int .i64 l[j].hi) ∧ (l.flatMap encL)[j * 3 + 2]? = some (.int .i64 l[j].tag)
  | r :: l, 0, _ => ⟨rfl, rfl, rfl⟩
  | r :: l, j + 1, h => by
    have ih := encL_get l j (by simpa using h)
    have e : ∀ i, ((r :: l).flatMap encL)[i + 3]? = (l.flatMap encL)[i]? := fun i => rfl
    rw [show (j + 1) * 3 = j * 3 + 3 by omega, show j * 3 + 3 + 1 = j * 3 + 1 + 3 by omega, show j * 3 + 3 + 2 = j * 3 + 2 + 3 by omega, e, e, e]
    exact ih
theorem add_zero' (g j : Nat) : (⟨g, 0, none⟩ : Addr).add j = ⟨g, j, none⟩ := by
  by_cases e : j = 0
  · subst e; rfl
  · simp [Addr.add, e]
theorem IsRs.of_row {W : World} {base : Nat} {v : Value} {l : List R} (h : W.ownsRow base 64 3 v l.length (l.flatMap encL)) : IsRs base W v l := by
  have hcs := fun g hg => h.cells (g := g) hg
  have hlt := h.lt
  rcases h.2 with ⟨rfl, h0⟩ | ⟨g, cap, cur, rfl, _⟩
  · exact ⟨none, 0, by rw [h0], fun hp => by omega⟩
  · refine ⟨some ⟨g, 0, none⟩, cap, rfl, fun hp => ⟨g, rfl, hlt g rfl, fun j hj => ?_⟩⟩
    obtain ⟨e0, e1, e2⟩ := encL_get l j hj
    have c0 := hcs g rfl _ _ e0
    have c1 := hcs g rfl _ _ e1
    have c2 := hcs g rfl _ _ e2
    rw [add_zero'] at c0 c1 c2
    exact ⟨c0, c1, c2⟩
/-- an array of sixteen counts -/
structure Arr (B : Nat) (g : Nat → Int) (W : World) : Prop where
  c : ∀ k, k < 16 → W.cell? ⟨B, k, none⟩ = some (.int .i64 (g k))
  f : ∀ k, k < 16 → W.frozen? ⟨B, k, none⟩ = false
  lt : B < W.heap.size
theorem Arr.next {B : Nat} {g : Nat → Int} {W W' : World} (h : Arr B g W) (hb : Below W.heap.size W W') : Arr B g W' :=
  ⟨fun k hk => (hb.cell (p := ⟨B, k, none⟩) h.lt).trans (h.c k hk), fun k hk => (hb.frozen (p := ⟨B, k, none⟩) h.lt).trans (h.f k hk), Nat.lt_of_lt_of_le h.lt hb.size⟩
theorem Arr.put {B : Nat} {g g' : Nat → Int} {W : World} (h : Arr B g W) (t : Nat) (x : Int) (ht : t < 16) (e : ∀ k, k < 16 → g' k = if k = t then x else g k) : Arr B g' (W.setCell ⟨B, t, none⟩ (.int .i64 x)) := by
  refine ⟨fun k hk => ?_, fun k hk => (World.frozen?_setCell _ _ _ _).trans (h.f k hk), by rw [World.size_setCell]; exact h.lt⟩
  rw [e k hk]
  by_cases hkt : k = t
  · subst hkt
    rw [if_pos rfl]
    exact World.cell?_setCell_same _ _ _ (h.c k hk)
  · rw [if_neg hkt]
    exact (World.cell?_setCell_other _ _ _ _ (by intro e; injection e with _ e2; exact hkt e2.symm)).trans (h.c k hk)
theorem Arr.same {B : Nat} {g g' : Nat → Int} {W : World} (h : Arr B g W) (e : ∀ k, k < 16 → g' k = g k) : Arr B g' W := ⟨fun k hk => by rw [e k hk]; exact h.c k hk, h.f, h.lt⟩
end Go.Proofs.Ytahgfggcpmnnaaa
