/- The program's map and the document's, side by side; what both make of an update. -/
import Derived.Test.YtahgfggcpmnnaabQi
import Derived.Test.YtahgfggcpmnnaabQe
import Derived.Test.YtahgfggcpmnnaabQg
import Derived.Test.YtahgfggcpmnnaabZd
namespace Go.Proofs.Ytahgfggcpmnnaab
open Go Go.RowKit Gs

/-- a box of some cells at a block -/
structure Bx (B : Nat) (vs : List Value) (W : World) : Prop where
  lt : B < W.heap.size
  c22 : W.cell? ⟨B, 22, none⟩ = none
  c : ∀ i v, vs[i]? = some v → W.cell? ⟨B, i, none⟩ = some v ∧ W.frozen? ⟨B, i, none⟩ = false
theorem Bx.next {B : Nat} {vs : List Value} {W W' : World} (h : Bx B vs W) (hb : Below W.heap.size W W') : Bx B vs W' :=
  ⟨Nat.lt_of_lt_of_le h.lt hb.size, (hb.cell (p := ⟨B, 22, none⟩) h.lt).trans h.c22, fun i v hi => ⟨(hb.cell (p := ⟨B, i, none⟩) h.lt).trans (h.c i v hi).1, (hb.frozen (p := ⟨B, i, none⟩) h.lt).trans (h.c i v hi).2⟩⟩
theorem Bx.new (W : World) (vs : List Value) (Ty : TypeId) (hl : vs.length ≤ 22) : Bx W.heap.size vs (W.alloc (.cells vs.toArray Ty)) := by
  refine ⟨by simp, World.cell?_alloc_at _ _ _ _ rfl |>.trans ?_, fun i v hi => ⟨World.cell?_alloc_at _ _ _ _ rfl |>.trans ?_, World.frozen?_alloc_at _ _ _ _ rfl⟩⟩
  · simp; omega
  · simpa using hi
/-- a store at another block -/
theorem Bx.other {B X i : Nat} {vs : List Value} {W : World} (h : Bx B vs W) (hne : X ≠ B) (u : Value) : Bx B vs (W.setCell ⟨X, i, none⟩ u) := by
  have o : ∀ j, (⟨X, i, none⟩ : Addr) ≠ ⟨B, j, none⟩ := fun j e => hne (by injection e)
  exact ⟨by rw [World.size_setCell]; exact h.lt, (World.cell?_setCell_other _ _ _ _ (o _)).trans h.c22, fun j v hj => ⟨(World.cell?_setCell_other _ _ _ _ (o _)).trans (h.c j v hj).1, (World.frozen?_setCell _ _ _ _).trans (h.c j v hj).2⟩⟩
/-- a store in the box -/
theorem Bx.put {B i : Nat} {vs : List Value} {W : World} (h : Bx B vs W) (hi : i < vs.length) (h22 : i ≠ 22) (u : Value) : Bx B (vs.set i u) (W.setCell ⟨B, i, none⟩ u) := by
  refine ⟨by rw [World.size_setCell]; exact h.lt, (World.cell?_setCell_other _ _ _ _ (by intro e; injection e with _ e; exact h22 e)).trans h.c22, fun j v hj => ?_⟩
  rw [World.frozen?_setCell]
  by_cases e : i = j
  · subst e
    rw [List.getElem?_set_self hi] at hj
    cases hj
    obtain ⟨h1, h2⟩ := h.c i (vs[i]) (List.getElem?_eq_getElem hi)
    exact ⟨World.cell?_setCell_same _ _ _ h1, h2⟩
  · rw [List.getElem?_set_ne e] at hj
    exact ⟨(World.cell?_setCell_other _ _ _ _ (by intro e2; injection e2 with _ e2; exact e e2)).trans (h.c j v hj).1, (h.c j v hj).2⟩
theorem Bx.two {B : Nat} {x y : Value} {W : World} (h : Bx B [x, y] W) (u v : Value) : Bx B [u, v] ((W.setCell ⟨B, 0, none⟩ u).setCell ⟨B, 1, none⟩ v) :=
  (h.put (i := 0) (by simp) (by decide) u).put (i := 1) (by simp) (by decide) v
theorem Bx.c2 {B : Nat} {x y : Value} {W : World} (h : Bx B [x, y] W) : W.cell? ⟨B, 0, none⟩ = some x ∧ W.cell? ⟨B, 1, none⟩ = some y ∧ W.frozen? ⟨B, 0, none⟩ = false ∧ W.frozen? ⟨B, 1, none⟩ = false :=
  ⟨(h.c 0 x rfl).1, (h.c 1 y rfl).1, (h.c 0 x rfl).2, (h.c 1 y rfl).2⟩

/-- both maps are of one function from pieces to tags, or both are unusable -/
def Dual (base : Nat) (W : World) (p : Option Addr) (size s : Int) (v : Value) : Prop :=
  (p = none ∧ size = 0 ∧ s = 0 ∧ v = .slice none 0 0) ∨ ∃ f L, IsM f size W p ∧ Gs.Can f 0 L size ∧ IsRs base W v L ∧ s = size
theorem Dual.below {base : Nat} {W W' : World} {p : Option Addr} {size s : Int} {v : Value} (h : Dual base W p size s v) (hb : Below W.heap.size W W') : Dual base W' p size s v := by
  rcases h with h | ⟨f, L, h1, h2, h3, h4⟩
  · exact .inl h
  · exact .inr ⟨f, L, h1.below hb, h2, h3.below hb, h4⟩
theorem Dual.mono {base base' : Nat} {W : World} {p : Option Addr} {size s : Int} {v : Value} (h : Dual base W p size s v) (hb : base' ≤ base) : Dual base' W p size s v := by
  rcases h with h | ⟨f, L, h1, h2, h3, h4⟩
  · exact .inl h
  · exact .inr ⟨f, L, h1, h2, h3.mono hb, h4⟩
theorem Dual.set {base : Nat} {W : World} {p : Option Addr} {size s : Int} {v : Value} {X : Nat} (h : Dual base W p size s v) (hX : X < base) (h22 : W.cell? ⟨X, 22, none⟩ = none) (i : Nat) (u : Value) : Dual base (W.setCell ⟨X, i, none⟩ u) p size s v := by
  rcases h with h | ⟨f, L, h1, h2, h3, h4⟩
  · exact .inl h
  · exact .inr ⟨f, L, ⟨h1.lo, h1.ctx, h1.tr.set h22 u⟩, h2, h3.set _ hX u, h4⟩
theorem Dual.shape {base : Nat} {W : World} {p : Option Addr} {size s : Int} {v : Value} (h : Dual base W p size s v) : ∃ a n c, v = .slice a n c := by
  rcases h with ⟨_, _, _, h⟩ | ⟨f, L, _, _, ⟨a, c, h, _⟩, _⟩
  · exact ⟨_, _, _, h⟩
  · exact ⟨_, _, _, h⟩
/-- what the program answers an update of a usable map -/
def CodeU (f : Int → Int) (size : Int) (a : Act) (q : Option Addr) (s2 n2 e2 : Int) (W : World) : Prop :=
  Upd f (actF a f) size (actE size a) q s2 e2 W ∧ (a.sw = true → (e2 = 0 ∧ 0 ≤ a.fr ∧ ∃ L, Gs.Can f a.lo L a.hi ∧ n2 = cnt a.fr L) ∨ (e2 ≠ 0 ∧ n2 = 0))
/-- what the document answers it -/
def DocU (f : Int → Int) (size : Int) (a : Act) (L : List R) (B : Nat) (s' : Int) (v' : Value) (k e : Int) (W : World) : Prop :=
  (actE size a ≠ 0 ∧ e = actE size a ∧ s' = 0 ∧ v' = .slice none 0 0 ∧ k = 0) ∨ (actE size a = 0 ∧ RU f size a.lo a.hi a.fr a.tt (!a.sw) L B s' v' k e W)
theorem gS_act {f : Int → Int} {size : Int} {a : Act} (h : actE size a = 0) : gS f a.lo a.hi a.fr a.tt (!a.sw) = actF a f := by
  obtain ⟨sw, lo, hi, fr, tt⟩ := a
  cases sw with
  | false => exact gS_put f lo hi fr tt
  | true =>
    obtain ⟨_, _, _, h4⟩ := errOf_zero (show errOf size lo hi [fr, tt] = 0 from h)
    have h5 := (h4 fr (by simp)).1
    have h6 := (h4 tt (by simp)).1
    have := gS_swr f lo hi fr.toNat tt.toNat
    rw [show ((fr.toNat : Nat) : Int) = fr by omega, show ((tt.toNat : Nat) : Int) = tt by omega] at this
    exact this
/-- both answers agree -/
def Agree (B : Nat) (W : World) (sw : Bool) (size : Int) (q : Option Addr) (s2 n2 e2 s' : Int) (v' : Value) (k e : Int) : Prop :=
  e2 = e ∧ (sw = true → n2 = k) ∧ (e ≠ 0 → q = none ∧ s2 = 0) ∧ (e = 0 → Dual B W q s2 s' v' ∧ s2 = size)
theorem agree_of {f : Int → Int} {size : Int} {a : Act} {L : List R} {q : Option Addr} {s2 n2 e2 : Int} {B : Nat} {s' : Int} {v' : Value} {k e : Int} {W : World} (hc : CodeU f size a q s2 n2 e2 W) (hd : DocU f size a L B s' v' k e W) (hL : Gs.Can f 0 L size) :
    Agree B W a.sw size q s2 n2 e2 s' v' k e := by
  rcases hd with ⟨h1, rfl, rfl, rfl, rfl⟩ | ⟨h1, hr⟩
  · rcases hc.1 with ⟨_, g2, g3, g4⟩ | ⟨g1, _⟩ | ⟨g1, _⟩
    · refine ⟨g2, fun hs => ?_, fun _ => ⟨g3, g4⟩, fun h => absurd h h1⟩
      rcases hc.2 hs with ⟨x, _⟩ | ⟨_, x⟩
      · exact absurd (g2 ▸ x) h1
      · exact x
    · exact absurd g1 h1
    · exact absurd g1 h1
  · obtain ⟨L', hL', hr⟩ := hr
    rw [gS_act h1] at hL'
    rcases hc.1 with ⟨g1, _⟩ | ⟨_, rfl, rfl, rfl, K, hK, hk⟩ | ⟨_, rfl, rfl, hm⟩
    · exact absurd h1 g1
    · have := hK.same hL'
      subst this
      rcases hr with ⟨_, rfl, rfl, rfl, rfl⟩ | ⟨r1, _⟩
      · refine ⟨rfl, fun hs => ?_, fun _ => ⟨rfl, rfl⟩, fun h => absurd h (by decide)⟩
        rcases hc.2 hs with ⟨x, _⟩ | ⟨_, x⟩
        · exact absurd x (by decide)
        · exact x
      · omega
    · obtain ⟨K, hK, hk⟩ := hm.can
      have := hK.same hL'
      subst this
      rcases hr with ⟨r1, _⟩ | ⟨_, rfl, rfl, hi, hn⟩
      · omega
      · refine ⟨rfl, fun hs => ?_, fun h => absurd rfl h, fun _ => ⟨.inr ⟨_, K, hm, hK, hi, rfl⟩, rfl⟩⟩
        rcases hc.2 hs with ⟨_, x0, K2, hK2, x⟩ | ⟨x, _⟩
        · have e1 : (!a.sw) = false := by rw [hs]; rfl
          rw [x, hn e1]
          obtain ⟨r1, r2, r3, _⟩ := errOf_zero h1
          rw [Gs.Can.same hK2 (clip_can hL r1 r2 r3)]
        · exact absurd rfl x
theorem DocU.shape {f : Int → Int} {size : Int} {a : Act} {L : List R} {B : Nat} {s' : Int} {v' : Value} {k e : Int} {W : World} (h : DocU f size a L B s' v' k e W) : ∃ b n c, v' = .slice b n c := by
  rcases h with ⟨_, _, _, h, _⟩ | ⟨_, L', _, ⟨_, _, h, _⟩ | ⟨_, _, _, ⟨_, _, h, _⟩, _⟩⟩
  · exact ⟨_, _, _, h⟩
  · exact ⟨_, _, _, h⟩
  · exact ⟨_, _, _, h⟩
end Go.Proofs.Ytahgfggcpmnnaab
