/- Contracts and lemmas (several texts merged into one). -/
import Derived.Test.YtahgfggcpmnnaaaQi
import Derived.Test.YtahgfggcpmnnaaaQe
import Derived.Test.YtahgfggcpmnnaaaQg
import Derived.Test.YtahgfggcpmnnaaaZd
import Derived.Test.YtahgfggcpmnnaaaZj
import Derived.Laws.OwnMore
import Derived.Test.YtahgfggcpmnnaaaYk
import Derived.Test.YtahgfggcpmnnaaaYx
import Derived.Test.YtahgfggcpmnnaaaQb
import Derived.Test.YtahgfggcpmnnaaaQc
import Derived.Test.YtahgfggcpmnnaaaQd
import Derived.BigQuiet
namespace Go.Proofs.Ytahgfggcpmnnaaa
open Go Go.RowKit Gs

/-- a box of some cells at a block -/
structure Bx (B : Nat) (vs : List Value) (W : World) : Prop where
  lt : B < W.heap.size
  c22 : W.cell? ⟨B, 22, none⟩ = none
  c : ∀ i v, vs[i]? = some v → W.cell? ⟨B, i, none⟩ = some v ∧ W.frozen? ⟨B, i, none⟩ = false
theorem Bx.next {B : Nat} {vs : List Value} {W W' : World} (h : Bx B vs W) (hb : Below W.heap.size W W') : Bx B vs W' :=
  ⟨Nat.lt_of_lt_of_le h.lt hb.size, (hb.cell (p := ⟨B, 22, none⟩) h.lt).trans h.c22, fun i v hi => ⟨(hb.cell (p := ⟨B, i, none⟩) h.lt).trans (h.c i v hi).1, (hb.frozen (p := ⟨B, i, none⟩) h.lt).trans (h.c i v hi).2⟩⟩
theorem Bx.new (W : World) (vs : List Value) (Ty : TypeId) (hl : vs.length ≤ 22) : Bx W.heap.size vs (W.alloc (.cells vs.toArray Ty)) := by
  refine ⟨by simp, World.cell?_alloc_at _ _ _ _ rfl |>.trans ?_, fun i v hi => ⟨World.cell?_alloc_at _ _ _ _ rfl |>.trans ?_, World.frozen?_alloc_at _ _ _ _ rfl⟩⟩
  · simp; omega
  · simpa using hi
/-- a store at another block -/
theorem Bx.other {B X i : Nat} {vs : List Value} {W : World} (h : Bx B vs W) (hne : X ≠ B) (u : Value) : Bx B vs (W.setCell ⟨X, i, none⟩ u) := by
  have o : ∀ j, (⟨X, i, none⟩ : Addr) ≠ ⟨B, j, none⟩ := fun j e => hne (by injection e)
  exact ⟨by rw [World.size_setCell]; exact h.lt, (World.cell?_setCell_other _ _ _ _ (o _)).trans h.c22, fun j v hj => ⟨(World.cell?_setCell_other _ _ _ _ (o _)).trans (h.c j v hj).1, (World.frozen?_setCell _ _ _ _).trans (h.c j v hj).2⟩⟩
/-- a store in the box -/
theorem Bx.put {B i : Nat} {vs : List Value} {W : World} (h : Bx B vs W) (hi : i < vs.length) (h22 : i ≠ 22) (u : Value) : Bx B (vs.set i u) (W.setCell ⟨B, i, none⟩ u) := by
  refine ⟨by rw [World.size_setCell]; exact h.lt, (World.cell?_setCell_other _ _ _ _ (by intro e; injection e with _ e; exact h22 e)).trans h.c22, fun j v hj => ?_⟩
  rw [World.frozen?_setCell]
  by_cases e : i = j
  · subst e
    rw [List.getElem?_set_self hi] at hj
    cases hj
    obtain ⟨h1, h2⟩ := h.c i (vs[i]) (List.getElem?_eq_getElem hi)
    exact ⟨World.cell?_setCell_same _ _ _ h1, h2⟩
  · rw [List.getElem?_set_ne e] at hj
    exact ⟨(World.cell?_setCell_other _ _ _ _ (by intro e2; injection e2 with _ e2; exact e e2)).trans (h.c j v hj).1, (h.c j v hj).2⟩
theorem Bx.two {B : Nat} {x y : Value} {W : World} (h : Bx B [x, y] W) (u v : Value) : Bx B [u, v] ((W.setCell ⟨B, 0, none⟩ u).setCell ⟨B, 1, none⟩ v) :=
  (h.put (i := 0) (by simp) (by decide) u).put (i := 1) (by simp) (by decide) v
theorem Bx.c2 {B : Nat} {x y : Value} {W : World} (h : Bx B [x, y] W) : W.cell? ⟨B, 0, none⟩ = some x ∧ W.cell? ⟨B, 1, none⟩ = some y ∧ W.frozen? ⟨B, 0, none⟩ = false ∧ W.frozen? ⟨B, 1, none⟩ = false :=
  ⟨(h.c 0 x rfl).1, (h.c 1 y rfl).1, (h.c 0 x rfl).2, (h.c 1 y rfl).2⟩

/-- both maps are of one function from pieces to tags, or both are unusable -/
def Dual (base : Nat) (W : World) (p : Option Addr) (size s : Int) (v : Value) : Prop :=
  (p = none ∧ size = 0 ∧ s = 0 ∧ v = .slice none 0 0) ∨ ∃ f L, IsM f size W p ∧ Gs.Can f 0 L size ∧ IsRs base W v L ∧ s = size
theorem Dual.below {base : Nat} {W W' : World} {p : Option Addr} {size s : Int} {v : Value} (h : Dual base W p size s v) (hb : Below W.heap.size W W') : Dual base W' p size s v := by
  rcases h with h | ⟨f, L, h1, h2, h3, h4⟩
  · exact .inl h
  · exact .inr ⟨f, L, h1.below hb, h2, h3.below hb, h4⟩
theorem Dual.mono {base base' : Nat} {W : World} {p : Option Addr} {size s : Int} {v : Value} (h : Dual base W p size s v) (hb : base' ≤ base) : Dual base' W p size s v := by
  rcases h with h | ⟨f, L, h1, h2, h3, h4⟩
  · exact .inl h
  · exact .inr ⟨f, L, h1, h2, h3.mono hb, h4⟩
theorem Dual.set {base : Nat} {W : World} {p : Option Addr} {size s : Int} {v : Value} {X : Nat} (h : Dual base W p size s v) (hX : X < base) (h22 : W.cell? ⟨X, 22, none⟩ = none) (i : Nat) (u : Value) : Dual base (W.setCell ⟨X, i, none⟩ u) p size s v := by
  rcases h with h | ⟨f, L, h1, h2, h3, h4⟩
  · exact .inl h
  · exact .inr ⟨f, L, ⟨h1.lo, h1.ctx, h1.tr.set h22 u⟩, h2, h3.set _ hX u, h4⟩
theorem Dual.shape {base : Nat} {W : World} {p : Option Addr} {size s : Int} {v : Value} (h : Dual base W p size s v) : ∃ a n c, v = .slice a n c := by
  rcases h with ⟨_, _, _, h⟩ | ⟨f, L, _, _, ⟨a, c, h, _⟩, _⟩
  · exact ⟨_, _, _, h⟩
  · exact ⟨_, _, _, h⟩
/-- what the program answers an update of a usable map -/
def CodeU (f : Int → Int) (size : Int) (a : Act) (q : Option Addr) (s2 n2 e2 : Int) (W : World) : Prop :=
  Upd f (actF a f) size (actE size a) q s2 e2 W ∧ (a.sw = true → (e2 = 0 ∧ 0 ≤ a.fr ∧ ∃ L, Gs.Can f a.lo L a.hi ∧ n2 = cnt a.fr L) ∨ (e2 ≠ 0 ∧ n2 = 0))
/-- what the document answers it -/
def DocU (f : Int → Int) (size : Int) (a : Act) (L : List R) (B : Nat) (s' : Int) (v' : Value) (k e : Int) (W : World) : Prop :=
  (actE size a ≠ 0 ∧ e = actE size a ∧ s' = 0 ∧ v' = .slice none 0 0 ∧ k = 0) ∨ (actE size a = 0 ∧ RU f size a.lo a.hi a.fr a.tt (!a.sw) L B s' v' k e W)
theorem gS_act {f : Int → Int} {size : Int} {a : Act} (h : actE size a = 0) : gS f a.lo a.hi a.fr a.tt (!a.sw) = actF a f := by
  obtain ⟨sw, lo, hi, fr, tt⟩ := a
  cases sw with
  | false => exact gS_put f lo hi fr tt
  | true =>
    obtain ⟨_, _, _, h4⟩ := errOf_zero (show errOf size lo hi [fr, tt] = 0 from h)
    have h5 := (h4 fr (by simp)).1
    have h6 := (h4 tt (by simp)).1
    have := gS_swr f lo hi fr.toNat tt.toNat
    rw [show ((fr.toNat : Nat) : Int) = fr by omega, show ((tt.toNat : Nat) : Int) = tt by omega] at this
    exact this
/-- both answers agree -/
def Agree (B : Nat) (W : World) (sw : Bool) (size : Int) (q : Option Addr) (s2 n2 e2 s' : Int) (v' : Value) (k e : Int) : Prop :=
  e2 = e ∧ (sw = true → n2 = k) ∧ (e ≠ 0 → q = none ∧ s2 = 0) ∧ (e = 0 → Dual B W q s2 s' v' ∧ s2 = size)
theorem agree_of {f : Int → Int} {size : Int} {a : Act} {L : List R} {q : Option Addr} {s2 n2 e2 : Int} {B : Nat} {s' : Int} {v' : Value} {k e : Int} {W : World} (hc : CodeU f size a q s2 n2 e2 W) (hd : DocU f size a L B s' v' k e W) (hL : Gs.Can f 0 L size) :
    Agree B W a.sw size q s2 n2 e2 s' v' k e := by
  rcases hd with ⟨h1, rfl, rfl, rfl, rfl⟩ | ⟨h1, hr⟩
  · rcases hc.1 with ⟨_, g2, g3, g4⟩ | ⟨g1, _⟩ | ⟨g1, _⟩
    · refine ⟨g2, fun hs => ?_, fun _ => ⟨g3, g4⟩, fun h => absurd h h1⟩
      rcases hc.2 hs with ⟨x, _⟩ | ⟨_, x⟩
      · exact absurd (g2 ▸ x) h1
      · exact x
    · exact absurd g1 h1
    · exact absurd g1 h1
  · obtain ⟨L', hL', hr⟩ := hr
    rw [gS_act h1] at hL'
    rcases hc.1 with ⟨g1, _⟩ | ⟨_, rfl, rfl, rfl, K, hK, hk⟩ | ⟨_, rfl, rfl, hm⟩
    · exact absurd h1 g1
    · have := hK.same hL'
      subst this
      rcases hr with ⟨_, rfl, rfl, rfl, rfl⟩ | ⟨r1, _⟩
      · refine ⟨rfl, fun hs => ?_, fun _ => ⟨rfl, rfl⟩, fun h => absurd h (by decide)⟩
        rcases hc.2 hs with ⟨x, _⟩ | ⟨_, x⟩
        · exact absurd x (by decide)
        · exact x
      · omega
    · obtain ⟨K, hK, hk⟩ := hm.can
      have := hK.same hL'
      subst this
      rcases hr with ⟨r1, _⟩ | ⟨_, rfl, rfl, hi, hn⟩
      · omega
      · refine ⟨rfl, fun hs => ?_, fun h => absurd rfl h, fun _ => ⟨.inr ⟨_, K, hm, hK, hi, rfl⟩, rfl⟩⟩
        rcases hc.2 hs with ⟨_, x0, K2, hK2, x⟩ | ⟨x, _⟩
        · have e1 : (!a.sw) = false := by rw [hs]; rfl
          rw [x, hn e1]
          obtain ⟨r1, r2, r3, _⟩ := errOf_zero h1
          rw [Gs.Can.same hK2 (clip_can hL r1 r2 r3)]
        · exact absurd rfl x
theorem DocU.shape {f : Int → Int} {size : Int} {a : Act} {L : List R} {B : Nat} {s' : Int} {v' : Value} {k e : Int} {W : World} (h : DocU f size a L B s' v' k e W) : ∃ b n c, v' = .slice b n c := by
  rcases h with ⟨_, _, _, h, _⟩ | ⟨_, L', _, ⟨_, _, h, _⟩ | ⟨_, _, _, ⟨_, _, h, _⟩, _⟩⟩
  · exact ⟨_, _, _, h⟩
  · exact ⟨_, _, _, h⟩
  · exact ⟨_, _, _, h⟩
/-- the document's Swap, of a usable map -/
theorem RSwap_all {f : Int → Int} {size : Int} {base : Nat} {v : Value} {L : List R} {W : World} (a : Act) (hrs : IsRs base W v L) (hL : Gs.Can f 0 L size) (hx : Ctx f 0 size) (h1 : 1 ≤ size) (hlen : L.length ≤ 4096) :
    Calls Try.prog 43 #[.agg #[.int .i64 size, v], .int .i64 a.lo, .int .i64 a.hi, .int .i64 a.fr, .int .i64 a.tt, .bool (!a.sw)] W fun e w' => ∃ s v' n e2, e = .returned (.tuple #[.agg #[.int .i64 s, v'], .int .i64 n, .int .i64 e2]) ∧ Hid (DocU f size a L W.heap.size s v' n e2 w') ∧ Below W.heap.size W w' := by
  have hne : 0 < L.length := by
    rcases fits_cut hL.1 with ⟨_, e⟩ | ⟨r, k, rfl⟩
    · omega
    · simp
  obtain ⟨sw, lo, hi, fr, tt⟩ := a
  by_cases hv : 0 ≤ lo ∧ lo ≤ hi ∧ hi ≤ size
  · have hE : ∀ ts, errOf size lo hi ts = if ts.all isT then 0 else 2 := fun ts => by unfold errOf; rw [if_neg (by omega)]
    cases sw with
    | false =>
      by_cases ht : isT tt = true
      · refine (RSwap_any (fr := fr) hrs hL hx hne hlen hv.1 hv.2.1 hv.2.2 ht).mono ?_
        rintro e w' ⟨s, v', n, e2, rfl, hr, hB⟩
        exact ⟨s, v', n, e2, rfl, .inr ⟨by show errOf size lo hi [tt] = 0; rw [hE]; simp [ht], hr.out⟩, hB⟩
      · have ht := Bool.eq_false_iff.2 ht
        obtain ⟨a, c, rfl, -⟩ := hrs
        refine (RSwap_to size lo hi fr tt a _ c W hne hv ht).mono ?_
        rintro e w' ⟨rfl, hB⟩
        have e2 : actE size ⟨false, lo, hi, fr, tt⟩ = 2 := by show errOf size lo hi [tt] = 2; rw [hE]; simp [ht]
        exact ⟨0, _, 0, 2, rfl, .inl ⟨by rw [e2]; decide, e2.symm, rfl, rfl, rfl⟩, hB⟩
    | true =>
      by_cases hf : isT fr = true
      · by_cases ht : isT tt = true
        · refine (RSwap_from hrs hL hx hne hlen hv.1 hv.2.1 hv.2.2 ht hf).mono ?_
          rintro e w' ⟨s, v', n, e2, rfl, hr, hB⟩
          exact ⟨s, v', n, e2, rfl, .inr ⟨by show errOf size lo hi [fr, tt] = 0; rw [hE]; simp [ht, hf], hr.out⟩, hB⟩
        · have ht := Bool.eq_false_iff.2 ht
          obtain ⟨a, c, rfl, -⟩ := hrs
          refine (RSwap_frto size lo hi fr tt a _ c W hne hv hf ht).mono ?_
          rintro e w' ⟨rfl, hB⟩
          have e2 : actE size ⟨true, lo, hi, fr, tt⟩ = 2 := by show errOf size lo hi [fr, tt] = 2; rw [hE]; simp [ht]
          exact ⟨0, _, 0, 2, rfl, .inl ⟨by rw [e2]; decide, e2.symm, rfl, rfl, rfl⟩, hB⟩
      · have hf := Bool.eq_false_iff.2 hf
        obtain ⟨a, c, rfl, -⟩ := hrs
        refine (RSwap_fr size lo hi fr tt a _ c W hne hv hf).mono ?_
        rintro e w' ⟨rfl, hB⟩
        have e2 : actE size ⟨true, lo, hi, fr, tt⟩ = 2 := by show errOf size lo hi [fr, tt] = 2; rw [hE]; simp [hf]
        exact ⟨0, _, 0, 2, rfl, .inl ⟨by rw [e2]; decide, e2.symm, rfl, rfl, rfl⟩, hB⟩
  · have e2 : actE size ⟨sw, lo, hi, fr, tt⟩ = 3 := by
      show errOf size lo hi _ = 3
      unfold errOf; rw [if_pos (by omega)]
    obtain ⟨a, c, rfl, -⟩ := hrs
    refine (RSwap_range size lo hi fr tt (!sw) a _ c W hne hv).mono ?_
    rintro e w' ⟨rfl, hB⟩
    exact ⟨0, _, 0, 3, rfl, .inl ⟨by rw [e2]; decide, e2.symm, rfl, rfl, rfl⟩, hB⟩
end Go.Proofs.Ytahgfggcpmnnaaa
namespace Go.Proofs.Ytahgfggcpmnnaaa
open Go Go.RowKit Gs

theorem CodeU.below {f : Int → Int} {size : Int} {a : Act} {q : Option Addr} {s2 n2 e2 : Int} {W W' : World} (h : CodeU f size a q s2 n2 e2 W) (hb : Below W.heap.size W W') : CodeU f size a q s2 n2 e2 W' := ⟨h.1.below hb, h.2⟩
theorem CodeU.set {f : Int → Int} {size : Int} {a : Act} {q : Option Addr} {s2 n2 e2 : Int} {W : World} {X i : Nat} {u : Value} (h : CodeU f size a q s2 n2 e2 W) (h22 : W.cell? ⟨X, 22, none⟩ = none) : CodeU f size a q s2 n2 e2 (W.setCell ⟨X, i, none⟩ u) := by
  refine ⟨?_, h.2⟩
  rcases h.1 with g | g | ⟨g1, g2, g3, g4⟩
  · exact .inl g
  · exact .inr (.inl g)
  · exact .inr (.inr ⟨g1, g2, g3, g4.lo, g4.ctx, g4.tr.set h22 u⟩)
theorem DocU.below {f : Int → Int} {size : Int} {a : Act} {L : List R} {B : Nat} {s' : Int} {v' : Value} {k e : Int} {W W' : World} (h : DocU f size a L B s' v' k e W) (hb : Below W.heap.size W W') : DocU f size a L B s' v' k e W' := by
  rcases h with h | ⟨h1, L', h2, h | ⟨g1, g2, g3, g4, g5⟩⟩
  · exact .inl h
  · exact .inr ⟨h1, L', h2, .inl h⟩
  · exact .inr ⟨h1, L', h2, .inr ⟨g1, g2, g3, g4.below hb, g5⟩⟩
/-- what do asks of its two calls -/
theorem do_parts {base : Nat} {W : World} {p : Option Addr} {size s : Int} {v : Value} (a : Act) (h : Dual base W p size s v) :
    ∃ (CX : Option Addr → Int → Int → Int → World → Prop) (DX : Nat → Int → Value → Int → Int → World → Prop),
      Hid (∀ W', Below W.heap.size W W' → Calls Try.prog 39 #[.agg #[.pointer p, .int .i64 size], .int .i64 a.lo, .int .i64 a.hi, .int .i64 a.fr, .int .i64 a.tt] W' fun e w' => ∃ q s2 n2 e2, e = .returned (.tuple #[.agg #[.pointer q, .int .i64 s2], .int .i64 n2, .int .i64 e2]) ∧ Hid (a.sw = true → CX q s2 n2 e2 w') ∧ Below W'.heap.size W' w') ∧
      Hid (∀ W', Below W.heap.size W W' → Calls Try.prog 38 #[.agg #[.pointer p, .int .i64 size], .int .i64 a.lo, .int .i64 a.hi, .int .i64 a.tt] W' fun e w' => ∃ q s2 e2, e = .returned (.tuple #[.agg #[.pointer q, .int .i64 s2], .int .i64 e2]) ∧ Hid (a.sw = false → CX q s2 0 e2 w') ∧ Below W'.heap.size W' w') ∧
      Hid (∀ W', Below W.heap.size W W' → Calls Try.prog 43 #[.agg #[.int .i64 s, v], .int .i64 a.lo, .int .i64 a.hi, .int .i64 a.fr, .int .i64 a.tt, .bool (!a.sw)] W' fun e w' => ∃ s' b' n' c' k e2, e = .returned (.tuple #[.agg #[.int .i64 s', .slice b' n' c'], .int .i64 k, .int .i64 e2]) ∧ Hid (DX W'.heap.size s' (.slice b' n' c') k e2 w') ∧ Below W'.heap.size W' w') ∧
      Hid (∀ B q s2 n2 e2 s' v' k e W1, CX q s2 n2 e2 W1 → DX B s' v' k e W1 → Agree B W1 a.sw size q s2 n2 e2 s' v' k e) ∧
      Hid (∀ q s2 n2 e2 W1 W2, CX q s2 n2 e2 W1 → Below W1.heap.size W1 W2 → CX q s2 n2 e2 W2) ∧
      Hid (∀ q s2 n2 e2 W1 X i u, CX q s2 n2 e2 W1 → W1.cell? ⟨X, 22, none⟩ = none → CX q s2 n2 e2 (W1.setCell ⟨X, i, none⟩ u)) ∧
      Hid (∀ B s' v' k e W1 W2, DX B s' v' k e W1 → Below W1.heap.size W1 W2 → DX B s' v' k e W2) := by
  rcases h with ⟨rfl, rfl, rfl, rfl⟩ | ⟨f, L, h1, h2, h3, rfl⟩
  · refine ⟨fun q s2 n2 e2 _ => q = none ∧ s2 = 0 ∧ n2 = 0 ∧ e2 = 1, fun _ s' v' k e _ => s' = 0 ∧ v' = .slice none 0 0 ∧ k = 0 ∧ e = 1, fun W' _ => ?_, fun W' _ => ?_, fun W' _ => ?_, ?_, fun _ _ _ _ _ _ h _ => h, fun _ _ _ _ _ _ _ _ h _ => h, fun _ _ _ _ _ _ _ h _ => h⟩
    · refine (Swap_un 0 a.lo a.hi a.fr a.tt W').mono ?_
      rintro e w' ⟨rfl, hB⟩
      exact ⟨none, 0, 0, 1, rfl, fun _ => ⟨rfl, rfl, rfl, rfl⟩, hB⟩
    · refine (Set_un 0 a.lo a.hi a.tt W').mono ?_
      rintro e w' ⟨rfl, hB⟩
      exact ⟨none, 0, 1, rfl, fun _ => ⟨rfl, rfl, rfl, rfl⟩, hB⟩
    · refine (RSwap_un 0 a.lo a.hi a.fr a.tt (!a.sw) none 0 0 W' (by decide)).mono ?_
      rintro e w' ⟨rfl, hB⟩
      exact ⟨0, none, 0, 0, 0, 1, rfl, ⟨rfl, rfl, rfl, rfl⟩, hB⟩
    · rintro B q s2 n2 e2 s' v' k e W1 ⟨rfl, rfl, rfl, rfl⟩ ⟨rfl, rfl, rfl, rfl⟩
      exact ⟨rfl, fun _ => rfl, fun _ => ⟨rfl, rfl⟩, fun h => absurd h (by decide)⟩
  · have hcan := h1.can
    obtain ⟨K, hK, hk⟩ := hcan
    have e := hK.same h2
    subst e
    have HI := Lib.hid h1
    refine ⟨CodeU f s a, fun B => DocU f s a K B, fun W' hW => ?_, fun W' hW => ?_, fun W' hW => ?_, fun B q s2 n2 e2 s' v' k e W1 hc hd => agree_of hc hd hK, fun _ _ _ _ _ _ h hb => h.below hb, fun _ _ _ _ _ _ _ _ h h22 => h.set h22, fun _ _ _ _ _ _ _ h hb => h.below hb⟩
    · refine (Swap_any (h1.below hW)).mono ?_
      rintro e w' ⟨q, s2, n2, e2, rfl, hu, hn, hB⟩
      refine ⟨q, s2, n2, e2, rfl, fun hs => ?_, hB⟩
      obtain ⟨sw, lo, hi, fr, tt⟩ := a
      cases hs
      exact ⟨hu.out, fun _ => hn.out⟩
    · refine (Set_any (h1.below hW)).mono ?_
      rintro e w' ⟨q, s2, e2, rfl, hu, hB⟩
      refine ⟨q, s2, e2, rfl, fun hs => ?_, hB⟩
      obtain ⟨sw, lo, hi, fr, tt⟩ := a
      cases hs
      exact ⟨hu.out, fun h => by cases h⟩
    · refine (RSwap_all a (h3.below hW) hK h1.ctx h1.lo hk).mono ?_
      rintro e w' ⟨s', v', n, e2, rfl, hd, hB⟩
      obtain ⟨b', n', c', rfl⟩ := hd.out.shape
      exact ⟨s', b', n', c', n, e2, rfl, hd, hB⟩
/-- the boxes that do lays -/
theorem boxes_do (W : World) (x0 x1 y0 y1 : Value) (zs : List Value) (hz : zs.length ≤ 22) (T1 T2 T3 : TypeId) : ∃ w0, w0 = ((((W.alloc (.cells #[x0, x1] T1)).alloc (.cells #[y0, y1] T2)).alloc (.cells zs.toArray T3)).alloc (.cells #[.pointer none, .int .i64 0] T1)).alloc (.cells #[.int .i64 0, .slice none 0 0] T2) ∧
    Bx W.heap.size [x0, x1] w0 ∧ Bx (W.heap.size + 1) [y0, y1] w0 ∧ Bx (W.heap.size + 1 + 1) zs w0 ∧ Bx (W.heap.size + 1 + 1 + 1) [.pointer none, .int .i64 0] w0 ∧ Bx (W.heap.size + 1 + 1 + 1 + 1) [.int .i64 0, .slice none 0 0] w0 ∧ Below W.heap.size W w0 ∧ w0.heap.size = W.heap.size + 5 := by
  have al : ∀ (X : World) (o : Obj), Below X.heap.size X (X.alloc o) := fun X o => (Below.refl _ _).alloc (Nat.le_refl _) _
  obtain ⟨w1, e1⟩ : ∃ w1, w1 = W.alloc (.cells #[x0, x1] T1) := ⟨_, rfl⟩
  obtain ⟨w2, e2⟩ : ∃ w2, w2 = w1.alloc (.cells #[y0, y1] T2) := ⟨_, rfl⟩
  obtain ⟨w3, e3⟩ : ∃ w3, w3 = w2.alloc (.cells zs.toArray T3) := ⟨_, rfl⟩
  obtain ⟨w4, e4⟩ : ∃ w4, w4 = w3.alloc (.cells #[.pointer none, .int .i64 0] T1) := ⟨_, rfl⟩
  obtain ⟨w5, e5⟩ : ∃ w5, w5 = w4.alloc (.cells #[.int .i64 0, .slice none 0 0] T2) := ⟨_, rfl⟩
  have s1 : w1.heap.size = W.heap.size + 1 := by rw [e1]; simp
  have s2 : w2.heap.size = W.heap.size + 1 + 1 := by rw [e2]; simp [s1]
  have s3 : w3.heap.size = W.heap.size + 1 + 1 + 1 := by rw [e3]; simp [s2]
  have s4 : w4.heap.size = W.heap.size + 1 + 1 + 1 + 1 := by rw [e4]; simp [s3]
  have s5 : w5.heap.size = W.heap.size + 1 + 1 + 1 + 1 + 1 := by rw [e5]; simp [s4]
  have a1 : Below W.heap.size W w1 := by rw [e1]; exact al _ _
  have a2 : Below w1.heap.size w1 w2 := by rw [e2]; exact al _ _
  have a3 : Below w2.heap.size w2 w3 := by rw [e3]; exact al _ _
  have a4 : Below w3.heap.size w3 w4 := by rw [e4]; exact al _ _
  have a5 : Below w4.heap.size w4 w5 := by rw [e5]; exact al _ _
  have n1 : Bx W.heap.size [x0, x1] w1 := by rw [e1]; exact Bx.new W [x0, x1] T1 (by simp)
  have n2 : Bx w1.heap.size [y0, y1] w2 := by rw [e2]; exact Bx.new w1 [y0, y1] T2 (by simp)
  have n3 : Bx w2.heap.size zs w3 := by rw [e3]; exact Bx.new w2 zs T3 hz
  have n4 : Bx w3.heap.size [.pointer none, .int .i64 0] w4 := by rw [e4]; exact Bx.new w3 [.pointer none, .int .i64 0] T1 (by simp)
  have n5 : Bx w4.heap.size [.int .i64 0, .slice none 0 0] w5 := by rw [e5]; exact Bx.new w4 [.int .i64 0, .slice none 0 0] T2 (by simp)
  rw [s1] at n2; rw [s2] at n3; rw [s3] at n4; rw [s4] at n5
  have a45 := a4.trans (a5.mono a4.size)
  have a35 := a3.trans (a45.mono a3.size)
  have a25 := a2.trans (a35.mono a2.size)
  rw [← e1, ← e2, ← e3, ← e4, ← e5]
  exact ⟨w5, rfl, n1.next a25, n2.next a35, n3.next a45, n4.next a5, n5, a1.trans (a25.mono a1.size), s5⟩

set_option maxRecDepth 100000 in
set_option maxHeartbeats 4000000 in
theorem do_true (lo hi fr tt : Int) {base : Nat} {W : World} {p : Option Addr} {size s : Int} {v : Value} (h : Dual base W p size s v) (hbase : base ≤ W.heap.size) :
    Calls Try.prog 16 #[.agg #[.pointer p, .int .i64 size], .agg #[.int .i64 s, v], .agg #[.bool true, .int .i64 lo, .int .i64 hi, .int .i64 fr, .int .i64 tt]] W fun e w' => ∃ p' s' v', e = .returned (.tuple #[.agg #[.pointer p', .int .i64 size], .agg #[.int .i64 s', v'], .bool true]) ∧ Hid (Dual base w' p' size s' v') ∧ Below W.heap.size W w' := by
  obtain ⟨CX, DX, HS, HT, HD, HAG, HCB, HCS, HDB⟩ := do_parts ⟨true, lo, hi, fr, tt⟩ h
  simp only at HS HT HD HAG
  obtain ⟨va, vn, vc, rfl⟩ := h.shape
  obtain ⟨w0, HW, n1, n2, n3, n4, n5, hb, hs0⟩ := boxes_do W (.pointer p) (.int .i64 size) (.int .i64 s) (.slice va vn vc) [.bool true, .int .i64 lo, .int .i64 hi, .int .i64 fr, .int .i64 tt] (by simp) 27 33 42
  obtain ⟨w1, HW1⟩ : ∃ w1, w1 = w0.alloc (.cells #[.pointer p, .int .i64 size] 27) := ⟨_, rfl⟩
  have b1 : Below w0.heap.size w0 w1 := by rw [HW1]; exact (Below.refl _ _).alloc (Nat.le_refl _) _
  have n6 : Bx w0.heap.size [.pointer p, .int .i64 size] w1 := by rw [HW1]; exact Bx.new w0 [.pointer p, .int .i64 size] 27 (by simp)
  have HDU := Lib.hid h
  have HBASE := Lib.hid hbase
  clear hbase
  have H1 := Lib.hid (n1.next b1); have H2 := Lib.hid (n2.next b1); have H3 := Lib.hid (n3.next b1); have H4 := Lib.hid (n4.next b1); have H5 := Lib.hid (n5.next b1); have H6 := Lib.hid n6
  have HB := Lib.hid (hb.trans (b1.mono hb.size))
  have HS0 := Lib.hid hs0
  have HW' := Lib.hid HW; have HW1' := Lib.hid HW1
  obtain ⟨a0, a1, -, -⟩ := n1.c2
  clear h HW HW1 n2 n3 n4 n5 n6 b1 hb hs0 n1
  go_enter Try.func16, Try.ntmps16
  go_upto_region 2 with fail
  rw [← HW'.out]
  go_upto_region 3 with fail
  rw [← HW1'.out]
  clear a0 a1
  obtain ⟨a0, a1, -, -⟩ := H1.out.c2
  have k0 := (H3.out.c 0 _ rfl).1; have k1 := (H3.out.c 1 _ rfl).1; have k2 := (H3.out.c 2 _ rfl).1; have k3 := (H3.out.c 3 _ rfl).1; have k4 := (H3.out.c 4 _ rfl).1
  go_wp2_with fail
  refine (HS.out _ HB.out).mono ?_
  rintro e w2 ⟨q, s2, n2, e2, rfl, hcx, hb⟩
  have HCX := Lib.hid (hcx.out (by trivial))
  have G1 := Lib.hid (H1.out.next hb); have G2 := Lib.hid (H2.out.next hb); have G3 := Lib.hid (H3.out.next hb); have G4 := Lib.hid (H4.out.next hb); have G5 := Lib.hid (H5.out.next hb); have G6 := Lib.hid (H6.out.next hb)
  have HB2 := Lib.hid (HB.out.trans (hb.mono HB.out.size))
  obtain ⟨-, -, f0, f1⟩ := G6.out.c2
  obtain ⟨b0, b1, -, -⟩ := G6.out.c2
  clear hb hcx a0 a1 k0 k1 k2 k3 k4 HS HT
  go_upto_region 6 with fail
  obtain ⟨w3, HW3⟩ : ∃ w3, w3 = (w2.setCell ⟨w0.heap.size, 0, none⟩ (.pointer q)).setCell ⟨w0.heap.size, 1, none⟩ (.int .i64 s2) := ⟨_, rfl⟩
  rw [← HW3]
  have hs0 := HS0.out
  have HCX3 : Hid (CX q s2 n2 e2 w3) := by
    rw [HW3]
    exact HCS.out _ _ _ _ _ _ _ _ (HCS.out _ _ _ _ _ _ _ _ HCX.out G6.out.c22) (G6.out.put (i := 0) (by simp) (by decide) _).c22
  have F1 : Hid (Bx W.heap.size [.pointer p, .int .i64 size] w3) := by rw [HW3]; exact (G1.out.other (by omega) _).other (by omega) _
  have F2 : Hid (Bx (W.heap.size + 1) [.int .i64 s, .slice va vn vc] w3) := by rw [HW3]; exact (G2.out.other (by omega) _).other (by omega) _
  have F3 : Hid (Bx (W.heap.size + 1 + 1) [.bool true, .int .i64 lo, .int .i64 hi, .int .i64 fr, .int .i64 tt] w3) := by rw [HW3]; exact (G3.out.other (by omega) _).other (by omega) _
  have F4 : Hid (Bx (W.heap.size + 1 + 1 + 1) [.pointer none, .int .i64 0] w3) := by rw [HW3]; exact (G4.out.other (by omega) _).other (by omega) _
  have F5 : Hid (Bx (W.heap.size + 1 + 1 + 1 + 1) [.int .i64 0, .slice none 0 0] w3) := by rw [HW3]; exact (G5.out.other (by omega) _).other (by omega) _
  have F6 : Hid (Bx w0.heap.size [.pointer q, .int .i64 s2] w3) := by rw [HW3]; exact G6.out.two _ _
  have HB3 : Hid (Below W.heap.size W w3) := by rw [HW3]; exact below_put HB2.out (by omega) _ _
  clear HW3 G1 G2 G3 G4 G5 G6 H1 H2 H3 H4 H5 H6 f0 f1 b0 b1 hs0 HCX HB HB2
  obtain ⟨a0, a1, -, -⟩ := F2.out.c2
  have k0 := (F3.out.c 0 _ rfl).1; have k1 := (F3.out.c 1 _ rfl).1; have k2 := (F3.out.c 2 _ rfl).1; have k3 := (F3.out.c 3 _ rfl).1; have k4 := (F3.out.c 4 _ rfl).1
  go_wp2_with fail
  refine (HD.out _ HB3.out).mono ?_
  rintro e w4 ⟨s', b', n', c', k, e', rfl, hdx, hb⟩
  obtain ⟨w5, HW5⟩ : ∃ w5, w5 = w4.alloc (.cells #[.int .i64 s', .slice b' n' c'] 33) := ⟨_, rfl⟩
  have b5 : Below w4.heap.size w4 w5 := by rw [HW5]; exact (Below.refl _ _).alloc (Nat.le_refl _) _
  have n7 : Bx w4.heap.size [.int .i64 s', .slice b' n' c'] w5 := by rw [HW5]; exact Bx.new w4 [.int .i64 s', .slice b' n' c'] 33 (by simp)
  have b45 := hb.trans (b5.mono hb.size)
  have HGE : Hid (w0.heap.size < w3.heap.size ∧ w3.heap.size ≤ w4.heap.size ∧ w0.heap.size = W.heap.size + 5) := ⟨F6.out.lt, hb.size, HS0.out⟩
  have G1 := Lib.hid (F1.out.next b45); have G2 := Lib.hid (F2.out.next b45); have G3 := Lib.hid (F3.out.next b45); have G4 := Lib.hid (F4.out.next b45); have G5 := Lib.hid (F5.out.next b45); have G6 := Lib.hid (F6.out.next b45)
  have G7 := Lib.hid n7
  have HB5 := Lib.hid (HB3.out.trans (b45.mono HB3.out.size))
  have hag := HAG.out _ _ _ _ _ _ _ _ _ _ (HCB.out _ _ _ _ _ _ HCX3.out b45) (HDB.out _ _ _ _ _ _ _ hdx.out b5)
  have HW5' := Lib.hid HW5
  obtain ⟨rfl, hnk, hz, hd⟩ := hag
  have HZ := Lib.hid hz; have HDD := Lib.hid hd
  clear HW5 hb hdx b5 n7 b45 hz hd F1 F2 F3 F4 F5 F6 HCX3 HB3 a0 a1 k0 k1 k2 k3 k4 HAG HCB HCS HDB HD
  have hnk := hnk rfl
  subst hnk
  have k0 := (G3.out.c 0 _ rfl).1
  obtain ⟨m0, m1, -, -⟩ := G1.out.c2
  obtain ⟨r0, r1, -, -⟩ := G2.out.c2
  obtain ⟨x0, x1, x2, x3⟩ := G4.out.c2
  obtain ⟨y0, y1, y2, y3⟩ := G5.out.c2
  obtain ⟨p0, p1, -, -⟩ := G6.out.c2
  obtain ⟨q0, q1, -, -⟩ := G7.out.c2
  go_upto_region 7 with fail
  rw [← HW5'.out]
  by_cases he : e2 = 0
  · subst he
    obtain ⟨hdd, rfl⟩ := HDD.out rfl
    have HDD2 := Lib.hid hdd
    clear hdd
    have HP : Hid (∀ q0 q1 r0 r1, Below W.heap.size W ((((w5.setCell ⟨W.heap.size + 1 + 1 + 1, 0, none⟩ q0).setCell ⟨W.heap.size + 1 + 1 + 1, 1, none⟩ q1).setCell ⟨W.heap.size + 1 + 1 + 1 + 1, 0, none⟩ r0).setCell ⟨W.heap.size + 1 + 1 + 1 + 1, 1, none⟩ r1)) := fun q0 q1 r0 r1 => below_put (below_put HB5.out (by omega) _ _) (by omega) _ _
    have HE1 : Hid (∀ q0 q1 r0 r1, Bx (W.heap.size + 1 + 1 + 1) [q0, q1] ((((w5.setCell ⟨W.heap.size + 1 + 1 + 1, 0, none⟩ q0).setCell ⟨W.heap.size + 1 + 1 + 1, 1, none⟩ q1).setCell ⟨W.heap.size + 1 + 1 + 1 + 1, 0, none⟩ r0).setCell ⟨W.heap.size + 1 + 1 + 1 + 1, 1, none⟩ r1)) := fun q0 q1 r0 r1 => ((G4.out.two _ _).other (by omega) _).other (by omega) _
    have HE2 : Hid (∀ q0 q1 r0 r1, Bx (W.heap.size + 1 + 1 + 1 + 1) [r0, r1] ((((w5.setCell ⟨W.heap.size + 1 + 1 + 1, 0, none⟩ q0).setCell ⟨W.heap.size + 1 + 1 + 1, 1, none⟩ q1).setCell ⟨W.heap.size + 1 + 1 + 1 + 1, 0, none⟩ r0).setCell ⟨W.heap.size + 1 + 1 + 1 + 1, 1, none⟩ r1)) := fun q0 q1 r0 r1 => (((G5.out.other (by omega) _).other (by omega) _)).two _ _
    have hge := HGE.out
    have HY1 : Hid (Bx w4.heap.size [.int .i64 s', .slice b' n' c'] ((w5.setCell ⟨W.heap.size + 1 + 1 + 1, 0, none⟩ (.pointer q)).setCell ⟨W.heap.size + 1 + 1 + 1, 1, none⟩ (.int .i64 s2))) := (G7.out.other (by omega) _).other (by omega) _
    have HY2 : Hid (Bx (W.heap.size + 1 + 1 + 1 + 1) [.int .i64 0, .slice none 0 0] ((w5.setCell ⟨W.heap.size + 1 + 1 + 1, 0, none⟩ (.pointer q)).setCell ⟨W.heap.size + 1 + 1 + 1, 1, none⟩ (.int .i64 s2))) := (G5.out.other (by omega) _).other (by omega) _
    obtain ⟨z0, z1, -, -⟩ := HY1.out.c2
    obtain ⟨z2, z3, z4, z5⟩ := HY2.out.c2
    clear HDD HZ HW' HW1' HW5' hge m0 m1 r0 r1
    go_wp2_with fail
    go_region
    all_goals
      go_wp2_with fail
      obtain ⟨u0, u1, -, -⟩ := (HE1.out (.pointer q) (.int .i64 s2) (.int .i64 s') (.slice b' n' c')).c2
      obtain ⟨u2, u3, -, -⟩ := (HE2.out (.pointer q) (.int .i64 s2) (.int .i64 s') (.slice b' n' c')).c2
      have hge := HGE.out
      have HFD : Hid (Dual base ((((w5.setCell ⟨W.heap.size + 1 + 1 + 1, 0, none⟩ (.pointer q)).setCell ⟨W.heap.size + 1 + 1 + 1, 1, none⟩ (.int .i64 s2)).setCell ⟨W.heap.size + 1 + 1 + 1 + 1, 0, none⟩ (.int .i64 s')).setCell ⟨W.heap.size + 1 + 1 + 1 + 1, 1, none⟩ (.slice b' n' c')) q s2 s' (.slice b' n' c')) :=
        ((((HDD2.out.set (by omega) G4.out.c22 0 _).set (by omega) (G4.out.put (i := 0) (by simp) (by decide) _).c22 1 _).set (by omega) HY2.out.c22 0 _).set (by omega) (HY2.out.put (i := 0) (by simp) (by decide) _).c22 1 _).mono (by have := HBASE.out; omega)
      have HFP := Lib.hid (HP.out (.pointer q) (.int .i64 s2) (.int .i64 s') (.slice b' n' c'))
      refine bodyPost_ret (v := .tuple #[.agg #[.pointer q, .int .i64 s2], .agg #[.int .i64 s', .slice b' n' c'], .bool true]) (by simp [results, Try.results16, go_sem, u0, u1, u2, u3]) rfl ?_
      exact ⟨q, s', _, rfl, HFD.out.below (Below.refl _ _).drew, HFP.out.drew⟩
  · obtain ⟨rfl, rfl⟩ := HZ.out he
    have hne : (e2 == 0) = false := beq_eq_false_iff_ne.2 he
    have HSM : Hid (∀ W', Calls Try.prog 15 #[.agg #[.pointer none, .int .i64 0], .agg #[.int .i64 0, .slice none 0 0]] W' fun e w' => e = .returned (.bool true) ∧ Hid (Below W'.heap.size W' w')) := fun W' => same_un W'
    have HALL : Hid (∀ W', Below w5.heap.size w5 W' → W'.cell? ⟨W.heap.size, 0, none⟩ = some (.pointer p) ∧ W'.cell? ⟨W.heap.size, 1, none⟩ = some (.int .i64 size) ∧ W'.cell? ⟨W.heap.size + 1, 0, none⟩ = some (.int .i64 s) ∧ W'.cell? ⟨W.heap.size + 1, 1, none⟩ = some (.slice va vn vc) ∧ W'.cell? ⟨w0.heap.size, 0, none⟩ = some (.pointer none) ∧ W'.cell? ⟨w0.heap.size, 1, none⟩ = some (.int .i64 0)) := fun W' h => ⟨(G1.out.next h).c2.1, (G1.out.next h).c2.2.1, (G2.out.next h).c2.1, (G2.out.next h).c2.2.1, (G6.out.next h).c2.1, (G6.out.next h).c2.2.1⟩
    have HSM2 : Hid (∀ W', Below w5.heap.size w5 W' → Calls Try.prog 15 #[.agg #[.pointer none, .int .i64 0], .agg #[.int .i64 0, .slice none 0 0]] W' fun e w' => e = .returned (.bool true) ∧ Below w5.heap.size w5 w') := fun W' h => (same_un W').mono fun e w' ⟨he, hB⟩ => ⟨he, h.trans (hB.out.mono h.size)⟩
    have hge := HGE.out
    have HST1 : Hid (∀ W' u v, Below w5.heap.size w5 W' → ((W'.setCell ⟨W.heap.size + 1 + 1 + 1, 0, none⟩ u).setCell ⟨W.heap.size + 1 + 1 + 1, 1, none⟩ v).cell? ⟨W.heap.size, 0, none⟩ = some (.pointer p) ∧ ((W'.setCell ⟨W.heap.size + 1 + 1 + 1, 0, none⟩ u).setCell ⟨W.heap.size + 1 + 1 + 1, 1, none⟩ v).cell? ⟨W.heap.size, 1, none⟩ = some (.int .i64 size) ∧ ((W'.setCell ⟨W.heap.size + 1 + 1 + 1, 0, none⟩ u).setCell ⟨W.heap.size + 1 + 1 + 1, 1, none⟩ v).cell? ⟨W.heap.size + 1, 0, none⟩ = some (.int .i64 s) ∧ ((W'.setCell ⟨W.heap.size + 1 + 1 + 1, 0, none⟩ u).setCell ⟨W.heap.size + 1 + 1 + 1, 1, none⟩ v).cell? ⟨W.heap.size + 1, 1, none⟩ = some (.slice va vn vc) ∧ ((W'.setCell ⟨W.heap.size + 1 + 1 + 1, 0, none⟩ u).setCell ⟨W.heap.size + 1 + 1 + 1, 1, none⟩ v).cell? ⟨w0.heap.size, 0, none⟩ = some (.pointer none) ∧ ((W'.setCell ⟨W.heap.size + 1 + 1 + 1, 0, none⟩ u).setCell ⟨W.heap.size + 1 + 1 + 1, 1, none⟩ v).cell? ⟨w0.heap.size, 1, none⟩ = some (.int .i64 0)) := fun W' u v h => ⟨(Bx.other (Bx.other (G1.out.next h) (by omega) _) (by omega) _).c2.1, (Bx.other (Bx.other (G1.out.next h) (by omega) _) (by omega) _).c2.2.1, (Bx.other (Bx.other (G2.out.next h) (by omega) _) (by omega) _).c2.1, (Bx.other (Bx.other (G2.out.next h) (by omega) _) (by omega) _).c2.2.1, (Bx.other (Bx.other (G6.out.next h) (by omega) _) (by omega) _).c2.1, (Bx.other (Bx.other (G6.out.next h) (by omega) _) (by omega) _).c2.2.1⟩
    have HST2 : Hid (∀ W' u v x y, Below w5.heap.size w5 W' → ((((W'.setCell ⟨W.heap.size + 1 + 1 + 1, 0, none⟩ u).setCell ⟨W.heap.size + 1 + 1 + 1, 1, none⟩ v).setCell ⟨W.heap.size + 1 + 1 + 1 + 1, 0, none⟩ x).setCell ⟨W.heap.size + 1 + 1 + 1 + 1, 1, none⟩ y).cell? ⟨W.heap.size, 0, none⟩ = some (.pointer p) ∧ ((((W'.setCell ⟨W.heap.size + 1 + 1 + 1, 0, none⟩ u).setCell ⟨W.heap.size + 1 + 1 + 1, 1, none⟩ v).setCell ⟨W.heap.size + 1 + 1 + 1 + 1, 0, none⟩ x).setCell ⟨W.heap.size + 1 + 1 + 1 + 1, 1, none⟩ y).cell? ⟨W.heap.size, 1, none⟩ = some (.int .i64 size) ∧ ((((W'.setCell ⟨W.heap.size + 1 + 1 + 1, 0, none⟩ u).setCell ⟨W.heap.size + 1 + 1 + 1, 1, none⟩ v).setCell ⟨W.heap.size + 1 + 1 + 1 + 1, 0, none⟩ x).setCell ⟨W.heap.size + 1 + 1 + 1 + 1, 1, none⟩ y).cell? ⟨W.heap.size + 1, 0, none⟩ = some (.int .i64 s) ∧ ((((W'.setCell ⟨W.heap.size + 1 + 1 + 1, 0, none⟩ u).setCell ⟨W.heap.size + 1 + 1 + 1, 1, none⟩ v).setCell ⟨W.heap.size + 1 + 1 + 1 + 1, 0, none⟩ x).setCell ⟨W.heap.size + 1 + 1 + 1 + 1, 1, none⟩ y).cell? ⟨W.heap.size + 1, 1, none⟩ = some (.slice va vn vc) ∧ ((((W'.setCell ⟨W.heap.size + 1 + 1 + 1, 0, none⟩ u).setCell ⟨W.heap.size + 1 + 1 + 1, 1, none⟩ v).setCell ⟨W.heap.size + 1 + 1 + 1 + 1, 0, none⟩ x).setCell ⟨W.heap.size + 1 + 1 + 1 + 1, 1, none⟩ y).cell? ⟨w0.heap.size, 0, none⟩ = some (.pointer none) ∧ ((((W'.setCell ⟨W.heap.size + 1 + 1 + 1, 0, none⟩ u).setCell ⟨W.heap.size + 1 + 1 + 1, 1, none⟩ v).setCell ⟨W.heap.size + 1 + 1 + 1 + 1, 0, none⟩ x).setCell ⟨W.heap.size + 1 + 1 + 1 + 1, 1, none⟩ y).cell? ⟨w0.heap.size, 1, none⟩ = some (.int .i64 0)) := fun W' u v x y h => ⟨(Bx.other (Bx.other (Bx.other (Bx.other (G1.out.next h) (by omega) _) (by omega) _) (by omega) _) (by omega) _).c2.1, (Bx.other (Bx.other (Bx.other (Bx.other (G1.out.next h) (by omega) _) (by omega) _) (by omega) _) (by omega) _).c2.2.1, (Bx.other (Bx.other (Bx.other (Bx.other (G2.out.next h) (by omega) _) (by omega) _) (by omega) _) (by omega) _).c2.1, (Bx.other (Bx.other (Bx.other (Bx.other (G2.out.next h) (by omega) _) (by omega) _) (by omega) _) (by omega) _).c2.2.1, (Bx.other (Bx.other (Bx.other (Bx.other (G6.out.next h) (by omega) _) (by omega) _) (by omega) _) (by omega) _).c2.1, (Bx.other (Bx.other (Bx.other (Bx.other (G6.out.next h) (by omega) _) (by omega) _) (by omega) _) (by omega) _).c2.2.1⟩
    have HR4 : Hid (∀ W', Below w5.heap.size w5 W' → Bx (W.heap.size + 1 + 1 + 1) [.pointer none, .int .i64 0] W') := fun W' h => G4.out.next h
    have HR5 : Hid (∀ W' u v, Below w5.heap.size w5 W' → Bx (W.heap.size + 1 + 1 + 1 + 1) [.int .i64 0, .slice none 0 0] ((W'.setCell ⟨W.heap.size + 1 + 1 + 1, 0, none⟩ u).setCell ⟨W.heap.size + 1 + 1 + 1, 1, none⟩ v)) := fun W' u v h => (Bx.other (Bx.other (G5.out.next h) (by omega) _) (by omega) _)
    clear hge
    have hs : Below w5.heap.size w5 w5 := Below.refl _ _
    have hs2 := hs.drew
    have hcl := HALL.out _ hs2
    have hc0 := HALL.out _ hs
    go_wp2_with fail
    go_region_held3 (fun W' : World => W'.cell? ⟨W.heap.size, 0, none⟩ = some (.pointer p) ∧ W'.cell? ⟨W.heap.size, 1, none⟩ = some (.int .i64 size) ∧ W'.cell? ⟨W.heap.size + 1, 0, none⟩ = some (.int .i64 s) ∧ W'.cell? ⟨W.heap.size + 1, 1, none⟩ = some (.slice va vn vc) ∧ W'.cell? ⟨w0.heap.size, 0, none⟩ = some (.pointer none) ∧ W'.cell? ⟨w0.heap.size, 1, none⟩ = some (.int .i64 0)) (first | assumption | (with_reducible exact HST1.out _ _ _ (by assumption)) | (with_reducible exact HST2.out _ _ _ _ _ (by assumption)) | fail) (first
      | (go_at_call 15; with_reducible refine (HSM2.out _ ?h).mono ?_; (case h => assumption); rintro e w' ⟨rfl, hs1'⟩; have hc1' := HALL.out _ hs1'; obtain ⟨x0, x1, x2, x3⟩ := (HR4.out _ hs1').c2; obtain ⟨y0, y1, y2, y3⟩ := (HR5.out _ (.pointer p) (.int .i64 size) hs1').c2) | fail)
    all_goals
      have HFP := Lib.hid (below_put (below_put (HB5.out.trans (hs1'.mono HB5.out.size)) (B := W.heap.size + 1 + 1 + 1) (by omega) (.pointer p) (.int .i64 size)) (B := W.heap.size + 1 + 1 + 1 + 1) (by omega) (.int .i64 s) (.slice va vn vc))
      obtain ⟨u0, u1, -, -⟩ := (((HR4.out _ hs1').two (.pointer p) (.int .i64 size)).other (X := W.heap.size + 1 + 1 + 1 + 1) (i := 0) (by omega) (.int .i64 s)).other (X := W.heap.size + 1 + 1 + 1 + 1) (i := 1) (by omega) (.slice va vn vc) |>.c2
      obtain ⟨u2, u3, -, -⟩ := ((HR5.out _ (.pointer p) (.int .i64 size) hs1').two (.int .i64 s) (.slice va vn vc)).c2
      clear hs hs2 hcl hc0 hc1' x0 x1 x2 x3 y0 y1 y2 y3 hs1'
      go_wp2_with fail
      refine bodyPost_ret (v := .tuple #[.agg #[.pointer p, .int .i64 size], .agg #[.int .i64 s, .slice va vn vc], .bool true]) (by simp [results, Try.results16, go_sem, u0, u1, u2, u3]) rfl ?_
      exact ⟨p, s, _, rfl, HDU.out.below HFP.out, HFP.out⟩
set_option maxRecDepth 100000 in
set_option maxHeartbeats 4000000 in
theorem do_false (lo hi fr tt : Int) {base : Nat} {W : World} {p : Option Addr} {size s : Int} {v : Value} (h : Dual base W p size s v) (hbase : base ≤ W.heap.size) :
    Calls Try.prog 16 #[.agg #[.pointer p, .int .i64 size], .agg #[.int .i64 s, v], .agg #[.bool false, .int .i64 lo, .int .i64 hi, .int .i64 fr, .int .i64 tt]] W fun e w' => ∃ p' s' v', e = .returned (.tuple #[.agg #[.pointer p', .int .i64 size], .agg #[.int .i64 s', v'], .bool true]) ∧ Hid (Dual base w' p' size s' v') ∧ Below W.heap.size W w' := by
  obtain ⟨CX, DX, HS, HT, HD, HAG, HCB, HCS, HDB⟩ := do_parts ⟨false, lo, hi, fr, tt⟩ h
  simp only at HS HT HD HAG
  obtain ⟨va, vn, vc, rfl⟩ := h.shape
  obtain ⟨w0, HW, n1, n2, n3, n4, n5, hb, hs0⟩ := boxes_do W (.pointer p) (.int .i64 size) (.int .i64 s) (.slice va vn vc) [.bool false, .int .i64 lo, .int .i64 hi, .int .i64 fr, .int .i64 tt] (by simp) 27 33 42
  obtain ⟨w1, HW1⟩ : ∃ w1, w1 = w0.alloc (.cells #[.pointer p, .int .i64 size] 27) := ⟨_, rfl⟩
  have b1 : Below w0.heap.size w0 w1 := by rw [HW1]; exact (Below.refl _ _).alloc (Nat.le_refl _) _
  have n6 : Bx w0.heap.size [.pointer p, .int .i64 size] w1 := by rw [HW1]; exact Bx.new w0 [.pointer p, .int .i64 size] 27 (by simp)
  have HDU := Lib.hid h
  have HBASE := Lib.hid hbase
  clear hbase
  have H1 := Lib.hid (n1.next b1); have H2 := Lib.hid (n2.next b1); have H3 := Lib.hid (n3.next b1); have H4 := Lib.hid (n4.next b1); have H5 := Lib.hid (n5.next b1); have H6 := Lib.hid n6
  have HB := Lib.hid (hb.trans (b1.mono hb.size))
  have HS0 := Lib.hid hs0
  have HW' := Lib.hid HW; have HW1' := Lib.hid HW1
  obtain ⟨a0, a1, -, -⟩ := n1.c2
  clear h HW HW1 n2 n3 n4 n5 n6 b1 hb hs0 n1
  go_enter Try.func16, Try.ntmps16
  go_upto_region 2 with fail
  rw [← HW'.out]
  go_upto_region 3 with fail
  rw [← HW1'.out]
  clear a0 a1
  obtain ⟨a0, a1, -, -⟩ := H1.out.c2
  have k0 := (H3.out.c 0 _ rfl).1; have k1 := (H3.out.c 1 _ rfl).1; have k2 := (H3.out.c 2 _ rfl).1; have k3 := (H3.out.c 3 _ rfl).1; have k4 := (H3.out.c 4 _ rfl).1
  go_wp2_with fail
  refine (HT.out _ HB.out).mono ?_
  rintro e w2 ⟨q, s2, e2, rfl, hcx, hb⟩
  obtain ⟨n2, hn2⟩ : ∃ n2 : Int, n2 = 0 := ⟨_, rfl⟩
  rw [← hn2] at hcx
  have HN2 := Lib.hid hn2
  clear hn2
  have HCX := Lib.hid (hcx.out (by trivial))
  have G1 := Lib.hid (H1.out.next hb); have G2 := Lib.hid (H2.out.next hb); have G3 := Lib.hid (H3.out.next hb); have G4 := Lib.hid (H4.out.next hb); have G5 := Lib.hid (H5.out.next hb); have G6 := Lib.hid (H6.out.next hb)
  have HB2 := Lib.hid (HB.out.trans (hb.mono HB.out.size))
  obtain ⟨-, -, f0, f1⟩ := G6.out.c2
  obtain ⟨b0, b1, -, -⟩ := G6.out.c2
  clear hb hcx a0 a1 k0 k1 k2 k3 k4 HS HT
  go_upto_region 6 with fail
  obtain ⟨w3, HW3⟩ : ∃ w3, w3 = (w2.setCell ⟨w0.heap.size, 0, none⟩ (.pointer q)).setCell ⟨w0.heap.size, 1, none⟩ (.int .i64 s2) := ⟨_, rfl⟩
  rw [← HW3]
  have hs0 := HS0.out
  have HCX3 : Hid (CX q s2 n2 e2 w3) := by
    rw [HW3]
    exact HCS.out _ _ _ _ _ _ _ _ (HCS.out _ _ _ _ _ _ _ _ HCX.out G6.out.c22) (G6.out.put (i := 0) (by simp) (by decide) _).c22
  have F1 : Hid (Bx W.heap.size [.pointer p, .int .i64 size] w3) := by rw [HW3]; exact (G1.out.other (by omega) _).other (by omega) _
  have F2 : Hid (Bx (W.heap.size + 1) [.int .i64 s, .slice va vn vc] w3) := by rw [HW3]; exact (G2.out.other (by omega) _).other (by omega) _
  have F3 : Hid (Bx (W.heap.size + 1 + 1) [.bool false, .int .i64 lo, .int .i64 hi, .int .i64 fr, .int .i64 tt] w3) := by rw [HW3]; exact (G3.out.other (by omega) _).other (by omega) _
  have F4 : Hid (Bx (W.heap.size + 1 + 1 + 1) [.pointer none, .int .i64 0] w3) := by rw [HW3]; exact (G4.out.other (by omega) _).other (by omega) _
  have F5 : Hid (Bx (W.heap.size + 1 + 1 + 1 + 1) [.int .i64 0, .slice none 0 0] w3) := by rw [HW3]; exact (G5.out.other (by omega) _).other (by omega) _
  have F6 : Hid (Bx w0.heap.size [.pointer q, .int .i64 s2] w3) := by rw [HW3]; exact G6.out.two _ _
  have HB3 : Hid (Below W.heap.size W w3) := by rw [HW3]; exact below_put HB2.out (by omega) _ _
  clear HW3 G1 G2 G3 G4 G5 G6 H1 H2 H3 H4 H5 H6 f0 f1 b0 b1 hs0 HCX HB HB2
  obtain ⟨a0, a1, -, -⟩ := F2.out.c2
  have k0 := (F3.out.c 0 _ rfl).1; have k1 := (F3.out.c 1 _ rfl).1; have k2 := (F3.out.c 2 _ rfl).1; have k3 := (F3.out.c 3 _ rfl).1; have k4 := (F3.out.c 4 _ rfl).1
  go_wp2_with fail
  refine (HD.out _ HB3.out).mono ?_
  rintro e w4 ⟨s', b', n', c', k, e', rfl, hdx, hb⟩
  obtain ⟨w5, HW5⟩ : ∃ w5, w5 = w4.alloc (.cells #[.int .i64 s', .slice b' n' c'] 33) := ⟨_, rfl⟩
  have b5 : Below w4.heap.size w4 w5 := by rw [HW5]; exact (Below.refl _ _).alloc (Nat.le_refl _) _
  have n7 : Bx w4.heap.size [.int .i64 s', .slice b' n' c'] w5 := by rw [HW5]; exact Bx.new w4 [.int .i64 s', .slice b' n' c'] 33 (by simp)
  have b45 := hb.trans (b5.mono hb.size)
  have HGE : Hid (w0.heap.size < w3.heap.size ∧ w3.heap.size ≤ w4.heap.size ∧ w0.heap.size = W.heap.size + 5) := ⟨F6.out.lt, hb.size, HS0.out⟩
  have G1 := Lib.hid (F1.out.next b45); have G2 := Lib.hid (F2.out.next b45); have G3 := Lib.hid (F3.out.next b45); have G4 := Lib.hid (F4.out.next b45); have G5 := Lib.hid (F5.out.next b45); have G6 := Lib.hid (F6.out.next b45)
  have G7 := Lib.hid n7
  have HB5 := Lib.hid (HB3.out.trans (b45.mono HB3.out.size))
  have hag := HAG.out _ _ _ _ _ _ _ _ _ _ (HCB.out _ _ _ _ _ _ HCX3.out b45) (HDB.out _ _ _ _ _ _ _ hdx.out b5)
  have HW5' := Lib.hid HW5
  obtain ⟨rfl, hnk, hz, hd⟩ := hag
  have HZ := Lib.hid hz; have HDD := Lib.hid hd
  clear HW5 hb hdx b5 n7 b45 hz hd F1 F2 F3 F4 F5 F6 HCX3 HB3 a0 a1 k0 k1 k2 k3 k4 HAG HCB HCS HDB HD
  clear hnk
  have k0 := (G3.out.c 0 _ rfl).1
  obtain ⟨m0, m1, -, -⟩ := G1.out.c2
  obtain ⟨r0, r1, -, -⟩ := G2.out.c2
  obtain ⟨x0, x1, x2, x3⟩ := G4.out.c2
  obtain ⟨y0, y1, y2, y3⟩ := G5.out.c2
  obtain ⟨p0, p1, -, -⟩ := G6.out.c2
  obtain ⟨q0, q1, -, -⟩ := G7.out.c2
  go_upto_region 7 with fail
  rw [← HW5'.out]
  by_cases he : e2 = 0
  · subst he
    obtain ⟨hdd, rfl⟩ := HDD.out rfl
    have HDD2 := Lib.hid hdd
    clear hdd
    have HP : Hid (∀ q0 q1 r0 r1, Below W.heap.size W ((((w5.setCell ⟨W.heap.size + 1 + 1 + 1, 0, none⟩ q0).setCell ⟨W.heap.size + 1 + 1 + 1, 1, none⟩ q1).setCell ⟨W.heap.size + 1 + 1 + 1 + 1, 0, none⟩ r0).setCell ⟨W.heap.size + 1 + 1 + 1 + 1, 1, none⟩ r1)) := fun q0 q1 r0 r1 => below_put (below_put HB5.out (by omega) _ _) (by omega) _ _
    have HE1 : Hid (∀ q0 q1 r0 r1, Bx (W.heap.size + 1 + 1 + 1) [q0, q1] ((((w5.setCell ⟨W.heap.size + 1 + 1 + 1, 0, none⟩ q0).setCell ⟨W.heap.size + 1 + 1 + 1, 1, none⟩ q1).setCell ⟨W.heap.size + 1 + 1 + 1 + 1, 0, none⟩ r0).setCell ⟨W.heap.size + 1 + 1 + 1 + 1, 1, none⟩ r1)) := fun q0 q1 r0 r1 => ((G4.out.two _ _).other (by omega) _).other (by omega) _
    have HE2 : Hid (∀ q0 q1 r0 r1, Bx (W.heap.size + 1 + 1 + 1 + 1) [r0, r1] ((((w5.setCell ⟨W.heap.size + 1 + 1 + 1, 0, none⟩ q0).setCell ⟨W.heap.size + 1 + 1 + 1, 1, none⟩ q1).setCell ⟨W.heap.size + 1 + 1 + 1 + 1, 0, none⟩ r0).setCell ⟨W.heap.size + 1 + 1 + 1 + 1, 1, none⟩ r1)) := fun q0 q1 r0 r1 => (((G5.out.other (by omega) _).other (by omega) _)).two _ _
    have hge := HGE.out
    have HY1 : Hid (Bx w4.heap.size [.int .i64 s', .slice b' n' c'] ((w5.setCell ⟨W.heap.size + 1 + 1 + 1, 0, none⟩ (.pointer q)).setCell ⟨W.heap.size + 1 + 1 + 1, 1, none⟩ (.int .i64 s2))) := (G7.out.other (by omega) _).other (by omega) _
    have HY2 : Hid (Bx (W.heap.size + 1 + 1 + 1 + 1) [.int .i64 0, .slice none 0 0] ((w5.setCell ⟨W.heap.size + 1 + 1 + 1, 0, none⟩ (.pointer q)).setCell ⟨W.heap.size + 1 + 1 + 1, 1, none⟩ (.int .i64 s2))) := (G5.out.other (by omega) _).other (by omega) _
    obtain ⟨z0, z1, -, -⟩ := HY1.out.c2
    obtain ⟨z2, z3, z4, z5⟩ := HY2.out.c2
    clear HDD HZ HW' HW1' HW5' hge m0 m1 r0 r1
    go_wp2_with fail
    go_region
    all_goals
      go_wp2_with fail
      obtain ⟨u0, u1, -, -⟩ := (HE1.out (.pointer q) (.int .i64 s2) (.int .i64 s') (.slice b' n' c')).c2
      obtain ⟨u2, u3, -, -⟩ := (HE2.out (.pointer q) (.int .i64 s2) (.int .i64 s') (.slice b' n' c')).c2
      have hge := HGE.out
      have HFD : Hid (Dual base ((((w5.setCell ⟨W.heap.size + 1 + 1 + 1, 0, none⟩ (.pointer q)).setCell ⟨W.heap.size + 1 + 1 + 1, 1, none⟩ (.int .i64 s2)).setCell ⟨W.heap.size + 1 + 1 + 1 + 1, 0, none⟩ (.int .i64 s')).setCell ⟨W.heap.size + 1 + 1 + 1 + 1, 1, none⟩ (.slice b' n' c')) q s2 s' (.slice b' n' c')) :=
        ((((HDD2.out.set (by omega) G4.out.c22 0 _).set (by omega) (G4.out.put (i := 0) (by simp) (by decide) _).c22 1 _).set (by omega) HY2.out.c22 0 _).set (by omega) (HY2.out.put (i := 0) (by simp) (by decide) _).c22 1 _).mono (by have := HBASE.out; omega)
      have HFP := Lib.hid (HP.out (.pointer q) (.int .i64 s2) (.int .i64 s') (.slice b' n' c'))
      refine bodyPost_ret (v := .tuple #[.agg #[.pointer q, .int .i64 s2], .agg #[.int .i64 s', .slice b' n' c'], .bool true]) (by simp [results, Try.results16, go_sem, u0, u1, u2, u3]) rfl ?_
      exact ⟨q, s', _, rfl, HFD.out.below (Below.refl _ _).drew, HFP.out.drew⟩
  · obtain ⟨rfl, rfl⟩ := HZ.out he
    have hne : (e2 == 0) = false := beq_eq_false_iff_ne.2 he
    have HSM : Hid (∀ W', Calls Try.prog 15 #[.agg #[.pointer none, .int .i64 0], .agg #[.int .i64 0, .slice none 0 0]] W' fun e w' => e = .returned (.bool true) ∧ Hid (Below W'.heap.size W' w')) := fun W' => same_un W'
    have HALL : Hid (∀ W', Below w5.heap.size w5 W' → W'.cell? ⟨W.heap.size, 0, none⟩ = some (.pointer p) ∧ W'.cell? ⟨W.heap.size, 1, none⟩ = some (.int .i64 size) ∧ W'.cell? ⟨W.heap.size + 1, 0, none⟩ = some (.int .i64 s) ∧ W'.cell? ⟨W.heap.size + 1, 1, none⟩ = some (.slice va vn vc) ∧ W'.cell? ⟨w0.heap.size, 0, none⟩ = some (.pointer none) ∧ W'.cell? ⟨w0.heap.size, 1, none⟩ = some (.int .i64 0)) := fun W' h => ⟨(G1.out.next h).c2.1, (G1.out.next h).c2.2.1, (G2.out.next h).c2.1, (G2.out.next h).c2.2.1, (G6.out.next h).c2.1, (G6.out.next h).c2.2.1⟩
    have HSM2 : Hid (∀ W', Below w5.heap.size w5 W' → Calls Try.prog 15 #[.agg #[.pointer none, .int .i64 0], .agg #[.int .i64 0, .slice none 0 0]] W' fun e w' => e = .returned (.bool true) ∧ Below w5.heap.size w5 w') := fun W' h => (same_un W').mono fun e w' ⟨he, hB⟩ => ⟨he, h.trans (hB.out.mono h.size)⟩
    have hge := HGE.out
    have HST1 : Hid (∀ W' u v, Below w5.heap.size w5 W' → ((W'.setCell ⟨W.heap.size + 1 + 1 + 1, 0, none⟩ u).setCell ⟨W.heap.size + 1 + 1 + 1, 1, none⟩ v).cell? ⟨W.heap.size, 0, none⟩ = some (.pointer p) ∧ ((W'.setCell ⟨W.heap.size + 1 + 1 + 1, 0, none⟩ u).setCell ⟨W.heap.size + 1 + 1 + 1, 1, none⟩ v).cell? ⟨W.heap.size, 1, none⟩ = some (.int .i64 size) ∧ ((W'.setCell ⟨W.heap.size + 1 + 1 + 1, 0, none⟩ u).setCell ⟨W.heap.size + 1 + 1 + 1, 1, none⟩ v).cell? ⟨W.heap.size + 1, 0, none⟩ = some (.int .i64 s) ∧ ((W'.setCell ⟨W.heap.size + 1 + 1 + 1, 0, none⟩ u).setCell ⟨W.heap.size + 1 + 1 + 1, 1, none⟩ v).cell? ⟨W.heap.size + 1, 1, none⟩ = some (.slice va vn vc) ∧ ((W'.setCell ⟨W.heap.size + 1 + 1 + 1, 0, none⟩ u).setCell ⟨W.heap.size + 1 + 1 + 1, 1, none⟩ v).cell? ⟨w0.heap.size, 0, none⟩ = some (.pointer none) ∧ ((W'.setCell ⟨W.heap.size + 1 + 1 + 1, 0, none⟩ u).setCell ⟨W.heap.size + 1 + 1 + 1, 1, none⟩ v).cell? ⟨w0.heap.size, 1, none⟩ = some (.int .i64 0)) := fun W' u v h => ⟨(Bx.other (Bx.other (G1.out.next h) (by omega) _) (by omega) _).c2.1, (Bx.other (Bx.other (G1.out.next h) (by omega) _) (by omega) _).c2.2.1, (Bx.other (Bx.other (G2.out.next h) (by omega) _) (by omega) _).c2.1, (Bx.other (Bx.other (G2.out.next h) (by omega) _) (by omega) _).c2.2.1, (Bx.other (Bx.other (G6.out.next h) (by omega) _) (by omega) _).c2.1, (Bx.other (Bx.other (G6.out.next h) (by omega) _) (by omega) _).c2.2.1⟩
    have HST2 : Hid (∀ W' u v x y, Below w5.heap.size w5 W' → ((((W'.setCell ⟨W.heap.size + 1 + 1 + 1, 0, none⟩ u).setCell ⟨W.heap.size + 1 + 1 + 1, 1, none⟩ v).setCell ⟨W.heap.size + 1 + 1 + 1 + 1, 0, none⟩ x).setCell ⟨W.heap.size + 1 + 1 + 1 + 1, 1, none⟩ y).cell? ⟨W.heap.size, 0, none⟩ = some (.pointer p) ∧ ((((W'.setCell ⟨W.heap.size + 1 + 1 + 1, 0, none⟩ u).setCell ⟨W.heap.size + 1 + 1 + 1, 1, none⟩ v).setCell ⟨W.heap.size + 1 + 1 + 1 + 1, 0, none⟩ x).setCell ⟨W.heap.size + 1 + 1 + 1 + 1, 1, none⟩ y).cell? ⟨W.heap.size, 1, none⟩ = some (.int .i64 size) ∧ ((((W'.setCell ⟨W.heap.size + 1 + 1 + 1, 0, none⟩ u).setCell ⟨W.heap.size + 1 + 1 + 1, 1, none⟩ v).setCell ⟨W.heap.size + 1 + 1 + 1 + 1, 0, none⟩ x).setCell ⟨W.heap.size + 1 + 1 + 1 + 1, 1, none⟩ y).cell? ⟨W.heap.size + 1, 0, none⟩ = some (.int .i64 s) ∧ ((((W'.setCell ⟨W.heap.size + 1 + 1 + 1, 0, none⟩ u).setCell ⟨W.heap.size + 1 + 1 + 1, 1, none⟩ v).setCell ⟨W.heap.size + 1 + 1 + 1 + 1, 0, none⟩ x).setCell ⟨W.heap.size + 1 + 1 + 1 + 1, 1, none⟩ y).cell? ⟨W.heap.size + 1, 1, none⟩ = some (.slice va vn vc) ∧ ((((W'.setCell ⟨W.heap.size + 1 + 1 + 1, 0, none⟩ u).setCell ⟨W.heap.size + 1 + 1 + 1, 1, none⟩ v).setCell ⟨W.heap.size + 1 + 1 + 1 + 1, 0, none⟩ x).setCell ⟨W.heap.size + 1 + 1 + 1 + 1, 1, none⟩ y).cell? ⟨w0.heap.size, 0, none⟩ = some (.pointer none) ∧ ((((W'.setCell ⟨W.heap.size + 1 + 1 + 1, 0, none⟩ u).setCell ⟨W.heap.size + 1 + 1 + 1, 1, none⟩ v).setCell ⟨W.heap.size + 1 + 1 + 1 + 1, 0, none⟩ x).setCell ⟨W.heap.size + 1 + 1 + 1 + 1, 1, none⟩ y).cell? ⟨w0.heap.size, 1, none⟩ = some (.int .i64 0)) := fun W' u v x y h => ⟨(Bx.other (Bx.other (Bx.other (Bx.other (G1.out.next h) (by omega) _) (by omega) _) (by omega) _) (by omega) _).c2.1, (Bx.other (Bx.other (Bx.other (Bx.other (G1.out.next h) (by omega) _) (by omega) _) (by omega) _) (by omega) _).c2.2.1, (Bx.other (Bx.other (Bx.other (Bx.other (G2.out.next h) (by omega) _) (by omega) _) (by omega) _) (by omega) _).c2.1, (Bx.other (Bx.other (Bx.other (Bx.other (G2.out.next h) (by omega) _) (by omega) _) (by omega) _) (by omega) _).c2.2.1, (Bx.other (Bx.other (Bx.other (Bx.other (G6.out.next h) (by omega) _) (by omega) _) (by omega) _) (by omega) _).c2.1, (Bx.other (Bx.other (Bx.other (Bx.other (G6.out.next h) (by omega) _) (by omega) _) (by omega) _) (by omega) _).c2.2.1⟩
    have HR4 : Hid (∀ W', Below w5.heap.size w5 W' → Bx (W.heap.size + 1 + 1 + 1) [.pointer none, .int .i64 0] W') := fun W' h => G4.out.next h
    have HR5 : Hid (∀ W' u v, Below w5.heap.size w5 W' → Bx (W.heap.size + 1 + 1 + 1 + 1) [.int .i64 0, .slice none 0 0] ((W'.setCell ⟨W.heap.size + 1 + 1 + 1, 0, none⟩ u).setCell ⟨W.heap.size + 1 + 1 + 1, 1, none⟩ v)) := fun W' u v h => (Bx.other (Bx.other (G5.out.next h) (by omega) _) (by omega) _)
    clear hge
    have hs : Below w5.heap.size w5 w5 := Below.refl _ _
    have hs2 := hs.drew
    have hcl := HALL.out _ hs2
    have hc0 := HALL.out _ hs
    go_wp2_with fail
    go_region_held3 (fun W' : World => W'.cell? ⟨W.heap.size, 0, none⟩ = some (.pointer p) ∧ W'.cell? ⟨W.heap.size, 1, none⟩ = some (.int .i64 size) ∧ W'.cell? ⟨W.heap.size + 1, 0, none⟩ = some (.int .i64 s) ∧ W'.cell? ⟨W.heap.size + 1, 1, none⟩ = some (.slice va vn vc) ∧ W'.cell? ⟨w0.heap.size, 0, none⟩ = some (.pointer none) ∧ W'.cell? ⟨w0.heap.size, 1, none⟩ = some (.int .i64 0)) (first | assumption | (with_reducible exact HST1.out _ _ _ (by assumption)) | (with_reducible exact HST2.out _ _ _ _ _ (by assumption)) | fail) (first
      | (go_at_call 15; with_reducible refine (HSM2.out _ ?h).mono ?_; (case h => assumption); rintro e w' ⟨rfl, hs1'⟩; have hc1' := HALL.out _ hs1'; obtain ⟨x0, x1, x2, x3⟩ := (HR4.out _ hs1').c2; obtain ⟨y0, y1, y2, y3⟩ := (HR5.out _ (.pointer p) (.int .i64 size) hs1').c2) | fail)
    all_goals
      have HFP := Lib.hid (below_put (below_put (HB5.out.trans (hs1'.mono HB5.out.size)) (B := W.heap.size + 1 + 1 + 1) (by omega) (.pointer p) (.int .i64 size)) (B := W.heap.size + 1 + 1 + 1 + 1) (by omega) (.int .i64 s) (.slice va vn vc))
      obtain ⟨u0, u1, -, -⟩ := (((HR4.out _ hs1').two (.pointer p) (.int .i64 size)).other (X := W.heap.size + 1 + 1 + 1 + 1) (i := 0) (by omega) (.int .i64 s)).other (X := W.heap.size + 1 + 1 + 1 + 1) (i := 1) (by omega) (.slice va vn vc) |>.c2
      obtain ⟨u2, u3, -, -⟩ := ((HR5.out _ (.pointer p) (.int .i64 size) hs1').two (.int .i64 s) (.slice va vn vc)).c2
      clear hs hs2 hcl hc0 hc1' x0 x1 x2 x3 y0 y1 y2 y3 hs1'
      go_wp2_with fail
      refine bodyPost_ret (v := .tuple #[.agg #[.pointer p, .int .i64 size], .agg #[.int .i64 s, .slice va vn vc], .bool true]) (by simp [results, Try.results16, go_sem, u0, u1, u2, u3]) rfl ?_
      exact ⟨p, s, _, rfl, HDU.out.below HFP.out, HFP.out⟩
theorem do_any (sw : Bool) (lo hi fr tt : Int) {base : Nat} {W : World} {p : Option Addr} {size s : Int} {v : Value} (h : Dual base W p size s v) (hbase : base ≤ W.heap.size) :
    Calls Try.prog 16 #[.agg #[.pointer p, .int .i64 size], .agg #[.int .i64 s, v], .agg #[.bool sw, .int .i64 lo, .int .i64 hi, .int .i64 fr, .int .i64 tt]] W fun e w' => ∃ p' s' v', e = .returned (.tuple #[.agg #[.pointer p', .int .i64 size], .agg #[.int .i64 s', v'], .bool true]) ∧ Hid (Dual base w' p' size s' v') ∧ Below W.heap.size W w' := by
  cases sw
  · exact do_false lo hi fr tt h hbase
  · exact do_true lo hi fr tt h hbase
end Go.Proofs.Ytahgfggcpmnnaaa
namespace Go.Proofs.Ytahgfggcpmnnaaa
open Go Go.RowKit Gs

/-- a store at a block whose second cell is a list, or whose first one is a pointer -/
theorem IsRs.apart {base : Nat} {W : World} {v : Value} {l : List R} (h : IsRs base W v l) {X i : Nat} {u : Value} (hX : (∀ x, W.cell? ⟨X, 0, none⟩ ≠ some (.int .i64 x)) ∨ (∀ x, W.cell? ⟨X, 1, none⟩ ≠ some (.int .i64 x))) : IsRs base (W.setCell ⟨X, i, none⟩ u) v l := by
  obtain ⟨ao, c, hv, h⟩ := h
  refine ⟨ao, c, hv, fun hl => ?_⟩
  obtain ⟨B, e, hB, hc⟩ := h hl
  have hne : B ≠ X := fun e => by
    subst e
    obtain ⟨h0, h1, _⟩ := hc 0 hl
    rcases hX with h | h
    · exact h _ h0
    · exact h _ h1
  refine ⟨B, e, ⟨hB.1, by rw [World.size_setCell]; exact hB.2⟩, fun j hj => ?_⟩
  obtain ⟨h0, h1, h2⟩ := hc j hj
  have o : ∀ k, (⟨X, i, none⟩ : Addr) ≠ ⟨B, k, none⟩ := fun k e => hne (by injection e with e; exact e.symm)
  exact ⟨(World.cell?_setCell_other _ _ _ _ (o _)).trans h0, (World.cell?_setCell_other _ _ _ _ (o _)).trans h1, (World.cell?_setCell_other _ _ _ _ (o _)).trans h2⟩
theorem Dual.apart {base : Nat} {W : World} {p : Option Addr} {size s : Int} {v : Value} (h : Dual base W p size s v) {X i : Nat} {u : Value} (h22 : W.cell? ⟨X, 22, none⟩ = none) (hX : (∀ x, W.cell? ⟨X, 0, none⟩ ≠ some (.int .i64 x)) ∨ (∀ x, W.cell? ⟨X, 1, none⟩ ≠ some (.int .i64 x))) : Dual base (W.setCell ⟨X, i, none⟩ u) p size s v := by
  rcases h with h | ⟨f, L, h1, h2, h3, h4⟩
  · exact .inl h
  · exact .inr ⟨f, L, ⟨h1.lo, h1.ctx, h1.tr.set h22 u⟩, h2, h3.apart hX, h4⟩
theorem Dual.setM {base : Nat} {W : World} {p : Option Addr} {size s : Int} {v : Value} (h : Dual base W p size s v) {X : Nat} {q : Option Addr} {y : Value} (hb : Bx X [.pointer q, y] W) (q2 : Option Addr) (u : Value) : Dual base ((W.setCell ⟨X, 0, none⟩ (.pointer q2)).setCell ⟨X, 1, none⟩ u) p size s v :=
  (h.apart hb.c22 (.inl fun x e => by rw [hb.c2.1] at e; cases e)).apart (hb.put (i := 0) (by simp) (by decide) (.pointer q2)).c22 (.inl fun x e => by rw [((hb.put (i := 0) (by simp) (by decide) (.pointer q2)).c 0 _ rfl).1] at e; cases e)
theorem Dual.setR {base : Nat} {W : World} {p : Option Addr} {size s : Int} {v : Value} (h : Dual base W p size s v) {X : Nat} {x : Value} {a : Option Addr} {n c : Nat} (hb : Bx X [x, .slice a n c] W) (u1 u2 : Value) : Dual base ((W.setCell ⟨X, 0, none⟩ u1).setCell ⟨X, 1, none⟩ u2) p size s v :=
  (h.apart hb.c22 (.inr fun x e => by rw [hb.c2.2.1] at e; cases e)).apart (hb.put (i := 0) (by simp) (by decide) u1).c22 (.inr fun x e => by rw [((hb.put (i := 0) (by simp) (by decide) u1).c 1 _ rfl).1] at e; cases e)
/-- the parts of a Dual that is usable -/
theorem Dual.open {base : Nat} {W : World} {p : Option Addr} {z s : Int} {v : Value} (h : Dual base W p z s v) : (p = none ∧ z = 0 ∧ s = 0 ∧ v = .slice none 0 0) ∨ ∃ f L, IsM f z W p ∧ Gs.Can f 0 L z ∧ IsRs base W v L ∧ s = z ∧ 0 < L.length ∧ L.length ≤ 4096 := by
  rcases h with h | ⟨f, L, h1, h2, h3, h4⟩
  · exact .inl h
  · obtain ⟨K, k1, k2⟩ := h1.can
    have e := k1.same h2
    subst e
    refine .inr ⟨f, K, h1, h2, h3, h4, ?_, k2⟩
    rcases fits_cut h2.1 with ⟨_, e⟩ | ⟨r, k, rfl⟩
    · have := h1.lo; omega
    · simp
theorem same_dual {base : Nat} {W : World} {p : Option Addr} {z s : Int} {v : Value} (h : Dual base W p z s v) : Calls Try.prog 15 #[.agg #[.pointer p, .int .i64 z], .agg #[.int .i64 s, v]] W fun e w' => e = .returned (.bool true) ∧ Hid (Below W.heap.size W w') := by
  rcases h with ⟨rfl, rfl, rfl, rfl⟩ | ⟨f, L, h1, h2, h3, rfl⟩
  · exact same_un W
  · exact same_ok h1 h2 h3
/-- an append of nothing -/
theorem wpList_append_nil {P : Program} {w : World} {ops : Array Oper} {rest : List Oper} {o : Oper} {a : Go.Act} {Q : Exit → Go.Act → World → Prop} (hgd : o.guard = none) (s x : Operand) (t : TypeId)
    (ho : o.op = .call { callee := .builtin .append, args := #[s, x], argTypes := #[t, t] })
    (base : Nat) (e : TypeId) (i : TypeInfo) (size : Nat) (ht : P.underlying t = some (.slice e)) (hi : P.info? e = some i)
    (v : Value) (n : Nat) (xs : List Value) (hs : a.eval s = v) (hown : w.ownsRow base e size v n xs) (hx : a.eval x = .slice none 0 0)
    (h : wpList P ops Q rest (a.put o.dst v) w) : wpList P ops Q (o :: rest) a w := by
  refine wpList_plain hgd fun K hK => ?_
  have hr := run_append_owned_none (P := P) w base t o.type e i size ht hi v n xs hown
  unfold Oper.wp execOp
  simp only [ho, resolve, invoke, builtin, Sem.run_bind, Sem.run_pure, Result.andThen_ok, List.map_toArray, List.map_cons, List.map_nil, hs, hx, hr]
  exact hK _ _ h
/-- what both News answer -/
theorem new_dual {size : Int} {B : Nat} {q : Option Addr} {s e2 s' : Int} {v' : Value} {e3 : Int} {W : World} (h1 : (e2 = 0 ∧ s = size ∧ IsM (fun _ => 0) size W q) ∨ (e2 = 2 ∧ q = none ∧ s = 0 ∧ (size < 1 ∨ 1099511627776 < size))) (h2 : RNP size B s' v' e3 W) : e2 = e3 ∧ Dual B W q s s' v' := by
  rcases h1 with ⟨rfl, rfl, h1⟩ | ⟨rfl, rfl, rfl, h1⟩
  · rcases h2 with ⟨rfl, rfl, h3, h4, h5⟩ | ⟨_, _, _, h3⟩
    · exact ⟨rfl, .inr ⟨_, _, h1, Gs.Can.one (r := ⟨0, s', 0⟩) (by show 0 < s'; omega) (fun _ _ _ => rfl), h5, rfl⟩⟩
    · have := h1.lo; have := h1.hi; omega
  · rcases h2 with ⟨_, _, h3, h4, _⟩ | ⟨rfl, rfl, rfl, _⟩
    · omega
    · exact ⟨rfl, .inl ⟨rfl, rfl, rfl, rfl⟩⟩
theorem RNP.below {size : Int} {B : Nat} {s : Int} {v : Value} {e : Int} {W W' : World} (h : RNP size B s v e W) (hb : Below W.heap.size W W') : RNP size B s v e W' := by
  rcases h with ⟨h1, h2, h3, h4, h5⟩ | h
  · exact .inl ⟨h1, h2, h3, h4, h5.below hb⟩
  · exact .inr h
theorem RNP.shape {size : Int} {B : Nat} {s : Int} {v : Value} {e : Int} {W : World} (h : RNP size B s v e W) : ∃ a n c, v = .slice a n c := by
  rcases h with ⟨_, _, _, _, ⟨_, _, h, _⟩⟩ | ⟨_, _, h, _⟩
  · exact ⟨_, _, _, h⟩
  · exact ⟨_, _, _, h⟩
/-- an update of a list -/
theorem IsAs.at' {W : World} {a : Option Addr} {n c : Nat} {l : List Act} (h : IsAs W (.slice a n c) l) {j : Nat} (hj : j < l.length) :
    ∃ B o, a = some ⟨B, o, none⟩ ∧ W.cell? ⟨B, o + j * 5, none⟩ = some (.bool l[j].sw) ∧ W.cell? ⟨B, o + j * 5 + 1, none⟩ = some (.int .i64 l[j].lo) ∧ W.cell? ⟨B, o + j * 5 + 2, none⟩ = some (.int .i64 l[j].hi) ∧ W.cell? ⟨B, o + j * 5 + 3, none⟩ = some (.int .i64 l[j].fr) ∧ W.cell? ⟨B, o + j * 5 + 4, none⟩ = some (.int .i64 l[j].tt) := by
  obtain ⟨a', c', hv, hcs⟩ := h
  injection hv with hv1 hv2 hv3
  subst hv1
  obtain ⟨B, o, e1, -, hcs2⟩ := hcs (by omega)
  exact ⟨B, o, e1, hcs2 j hj⟩
theorem alloc_below (W : World) (o : Obj) : Below W.heap.size W (W.alloc o) := (Below.refl _ _).alloc (Nat.le_refl _) _

set_option maxRecDepth 100000 in
set_option maxHeartbeats 4000000 in
theorem played_any {size : Int} {W : World} {v : Value} {l : List Act} (hl : IsAs W v l) (hn : l.length ≤ 1000) :
    Calls Try.prog 17 #[.int .i64 size, v] W fun e w' => ∃ p z s v', e = .returned (.tuple #[.agg #[.pointer p, .int .i64 z], .agg #[.int .i64 s, v'], .bool true]) ∧ Hid (Dual 0 w' p z s v') ∧ Below W.heap.size W w' := by
  have HAS := Lib.hid hl
  obtain ⟨ao, c, rfl, -⟩ := hl
  obtain ⟨n, hnn⟩ : ∃ n, n = l.length := ⟨_, rfl⟩
  have HN := Lib.hid hnn
  rw [← hnn] at hn HAS ⊢
  obtain ⟨w0, HW⟩ : ∃ w0, w0 = (W.alloc (.cells #[.pointer none, .int .i64 0] 27)).alloc (.cells #[.int .i64 0, .slice none 0 0] 33) := ⟨_, rfl⟩
  have hb : Below W.heap.size W w0 := by rw [HW]; exact (alloc_below _ _).alloc (by simp) _
  have n1 : Bx W.heap.size [.pointer none, .int .i64 0] w0 := by rw [HW]; exact (Bx.new W [.pointer none, .int .i64 0] 27 (by simp)).next (alloc_below _ _)
  have n2 : Bx (W.heap.size + 1) [.int .i64 0, .slice none 0 0] w0 := by
    have := Bx.new (W.alloc (.cells #[.pointer none, .int .i64 0] 27)) [.int .i64 0, .slice none 0 0] 33 (by simp)
    rw [World.size_alloc, ← HW] at this
    exact this
  have HNW := Lib.hid (New_any size w0)
  have HRN : Hid (∀ W', Calls Try.prog 14 #[.int .i64 size] W' fun e w' => ∃ s v e2, e = .returned (.tuple #[.agg #[.int .i64 s, v], .int .i64 e2]) ∧ Hid (RNP size W'.heap.size s v e2 w') ∧ Below W'.heap.size W' w') := fun W' => RNew_any size W'
  have H1 := Lib.hid n1; have H2 := Lib.hid n2; have HB := Lib.hid hb; have HW' := Lib.hid HW
  clear hnn hb n1 n2 HW
  go_enter Try.func17, Try.ntmps17
  go_upto_region 1 with fail
  rw [← HW'.out]
  go_wp2_with fail
  refine HNW.out.mono ?_
  rintro e w1 ⟨q, s, e2, rfl, HQ, hb⟩
  obtain ⟨w2, HW2⟩ : ∃ w2, w2 = w1.alloc (.cells #[.pointer q, .int .i64 s] 27) := ⟨_, rfl⟩
  have b2 : Below w1.heap.size w1 w2 := by rw [HW2]; exact alloc_below _ _
  have n3 : Bx w1.heap.size [.pointer q, .int .i64 s] w2 := by rw [HW2]; exact Bx.new w1 [.pointer q, .int .i64 s] 27 (by simp)
  have b12 := hb.trans (b2.mono hb.size)
  have HW2' := Lib.hid HW2
  clear HW2
  go_upto_region 2 with fail
  rw [← HW2'.out]
  go_wp2_with fail
  refine (HRN.out _).mono ?_
  rintro e w3 ⟨s', v0, e3, rfl, HR, hb3⟩
  obtain ⟨va, vn, vc, rfl⟩ := HR.out.shape
  obtain ⟨w4, HW4⟩ : ∃ w4, w4 = w3.alloc (.cells #[.int .i64 s', .slice va vn vc] 33) := ⟨_, rfl⟩
  have b4 : Below w3.heap.size w3 w4 := by rw [HW4]; exact alloc_below _ _
  have n4 : Bx w3.heap.size [.int .i64 s', .slice va vn vc] w4 := by rw [HW4]; exact Bx.new w3 [.int .i64 s', .slice va vn vc] 33 (by simp)
  have b34 := hb3.trans (b4.mono hb3.size)
  have b14 := b2.trans (b34.mono b2.size)
  have hpair : e2 = e3 ∧ Dual w2.heap.size w4 q s s' (.slice va vn vc) := new_dual (by
    rcases HQ.out with ⟨g1, g2, g3⟩ | g
    · exact .inl ⟨g1, g2, g3.below b14⟩
    · exact .inr g) (HR.out.below b4)
  obtain ⟨rfl, hdu⟩ := hpair
  have HDU := Lib.hid (hdu.mono (Nat.zero_le _))
  have b04 := b12.trans (b34.mono b12.size)
  have G1 := Lib.hid (H1.out.next b04); have G2 := Lib.hid (H2.out.next b04)
  have G3 := Lib.hid (n3.next b34); have G4 := Lib.hid n4
  have HB4 := Lib.hid (HB.out.trans (b04.mono HB.out.size))
  have HSZ : Hid (W.heap.size + 1 < w1.heap.size ∧ w1.heap.size < w3.heap.size) := ⟨Nat.lt_of_lt_of_le H2.out.lt hb.size, Nat.lt_of_lt_of_le n3.lt hb3.size⟩
  have HW4' := Lib.hid HW4
  clear hb b2 n3 b12 hb3 HW4 b4 n4 b34 b14 hdu b04 HQ HR HB H1 H2 HRN HNW
  go_upto_region 3 with fail
  rw [← HW4'.out]
  clear HW4' HW2' HW'
  go_wp2_with fail
  go_loopg [11, 12] n (fun k ov iv wr => ∃ (j : Nat) (q : Option Addr) (s s' : Int) (va : Option Addr) (vn vc : Nat), Hid (k + j = n) ∧ ov = .bool true ∧ iv = .int .i64 j ∧ Hid (Bx w1.heap.size [.pointer q, .int .i64 s] wr) ∧ Hid (Bx w3.heap.size [.int .i64 s', .slice va vn vc] wr) ∧ Hid (Dual 0 wr q s s' (.slice va vn vc)) ∧ Hid (Bx W.heap.size [.pointer none, .int .i64 0] wr) ∧ Hid (Bx (W.heap.size + 1) [.int .i64 0, .slice none 0 0] wr) ∧ Hid (Below W.heap.size W wr))
  case atStart => exact ⟨0, q, s, s', va, vn, vc, by show _ = _; omega, rfl, rfl, G3, G4, HDU, G1, G2, HB4⟩
  case round =>
    obtain ⟨j, q, s, s', va, vn, vc, HK, rfl, rfl, F3, F4, HD, F1, F2, HBr⟩ := hrel
    clear HDU G1 G2 G3 G4 HB4
    have hjn : j ≤ n := by have := HK.out; omega
    by_cases hlt : j < n
    · have hlt2 : (j : Int) < n := by omega
      have hjl : j < l.length := by have := HN.out; omega
      obtain ⟨B, o, rfl, g0, g1, g2, g3, g4⟩ := (HAS.out.below HBr.out).at' hjl
      generalize l[j] = a at *
      obtain ⟨asw, alo, ahi, afr, att⟩ := a
      simp only at g0 g1 g2 g3 g4
      obtain ⟨m0, m1, -, -⟩ := F3.out.c2
      obtain ⟨r0, r1, -, -⟩ := F4.out.c2
      have bd : Below wr.heap.size wr wr.drew := (Below.refl _ _).drew
      have F3d := Lib.hid (F3.out.next bd); have F4d := Lib.hid (F4.out.next bd); have HDd := Lib.hid (HD.out.below bd)
      have F1d := Lib.hid (F1.out.next bd); have F2d := Lib.hid (F2.out.next bd); have HBd := Lib.hid (HBr.out.trans (bd.mono HBr.out.size))
      clear bd
      have HDO : Hid (Calls Try.prog 16 #[.agg #[.pointer q, .int .i64 s], .agg #[.int .i64 s', .slice va vn vc], .agg #[.bool asw, .int .i64 alo, .int .i64 ahi, .int .i64 afr, .int .i64 att]] wr.drew fun e w' => ∃ q2 s2 va2 vn2 vc2, e = .returned (.tuple #[.agg #[.pointer q2, .int .i64 s], .agg #[.int .i64 s2, .slice va2 vn2 vc2], .bool true]) ∧ Hid (Dual 0 w' q2 s s2 (.slice va2 vn2 vc2)) ∧ Hid (Bx w1.heap.size [.pointer q, .int .i64 s] w') ∧ Hid (Bx w3.heap.size [.int .i64 s', .slice va vn vc] w') ∧ Hid (Bx W.heap.size [.pointer none, .int .i64 0] w') ∧ Hid (Bx (W.heap.size + 1) [.int .i64 0, .slice none 0 0] w') ∧ Hid (Below W.heap.size W w')) :=
        (do_any asw alo ahi afr att HDd.out (Nat.zero_le _)).mono fun e w' ⟨q2, s2, v2, he, hd, hb⟩ => by
          obtain ⟨va2, vn2, vc2, rfl⟩ := hd.out.shape
          exact ⟨q2, s2, va2, vn2, vc2, he, hd, F3d.out.next hb, F4d.out.next hb, F1d.out.next hb, F2d.out.next hb, HBd.out.trans (hb.mono HBd.out.size)⟩
      have HOT : Hid (∀ w' x y, Bx w3.heap.size [.int .i64 s', .slice va vn vc] w' → Bx w3.heap.size [.int .i64 s', .slice va vn vc] ((w'.setCell ⟨w1.heap.size, 0, none⟩ x).setCell ⟨w1.heap.size, 1, none⟩ y)) := fun w' x y h => (h.other (by have := HSZ.out; omega) _).other (by have := HSZ.out; omega) _
      clear F3d F4d HDd F1d F2d HBd
      go_upto_region 7 with fail
      go_region_with (go_at_call 16; with_reducible refine HDO.out.mono ?_; rintro e w5 ⟨q2, s2, va2, vn2, vc2, rfl, hd2, K3, K4, K1, K2, HB5⟩; obtain ⟨m0, m1, m2, m3⟩ := K3.out.c2; obtain ⟨r0, r1, r2, r3⟩ := (HOT.out _ (.pointer q2) (.int .i64 s) K4.out).c2)
      all_goals
        clear m0 m1 m2 m3 r0 r1 r2 r3 g0 g1 g2 g3 g4
        go_wp2_with fail
        go_roundg (n - (j + 1))
        case measure => have := HK.out; omega
        case rel =>
          have hsz := HSZ.out
          have KR := HOT.out _ (.pointer q2) (.int .i64 s) K4.out
          have KM := K3.out.two (.pointer q2) (.int .i64 s)
          exact ⟨j + 1, q2, s, s2, va2, vn2, vc2, by show _ = _; omega, rfl, by go_num, (KM.other (by omega) _).other (by omega) _, KR.two _ _, (hd2.out.setM K3.out q2 (.int .i64 s)).setR KR (.int .i64 s2) (.slice va2 vn2 vc2), (((K1.out.other (by omega) _).other (by omega) _).other (by omega) _).other (by omega) _, (((K2.out.other (by omega) _).other (by omega) _).other (by omega) _).other (by omega) _, below_put (below_put HB5.out (by omega) _ _) (by omega) _ _⟩
    · have hlt3 : ¬ (j : Int) < n := by omega
      have hge := HSZ.out
      obtain ⟨m0, m1, -, -⟩ := F3.out.c2
      obtain ⟨r0, r1, -, -⟩ := F4.out.c2
      obtain ⟨x0, x1, x2, x3⟩ := F1.out.c2
      obtain ⟨y0, y1, y2, y3⟩ := F2.out.c2
      have HY1 : Hid (Bx w3.heap.size [.int .i64 s', .slice va vn vc] ((wr.setCell ⟨W.heap.size, 0, none⟩ (.pointer q)).setCell ⟨W.heap.size, 1, none⟩ (.int .i64 s))) := (F4.out.other (by omega) _).other (by omega) _
      have HY2 : Hid (Bx (W.heap.size + 1) [.int .i64 0, .slice none 0 0] ((wr.setCell ⟨W.heap.size, 0, none⟩ (.pointer q)).setCell ⟨W.heap.size, 1, none⟩ (.int .i64 s))) := (F2.out.other (by omega) _).other (by omega) _
      obtain ⟨z0, z1, -, -⟩ := HY1.out.c2
      obtain ⟨z2, z3, z4, z5⟩ := HY2.out.c2
      obtain ⟨u0, u1, -, -⟩ := ((F1.out.two (.pointer q) (.int .i64 s)).other (X := W.heap.size + 1) (i := 0) (by omega) (.int .i64 s')).other (X := W.heap.size + 1) (i := 1) (by omega) (.slice va vn vc) |>.c2
      obtain ⟨u2, u3, -, -⟩ := (HY2.out.two (.int .i64 s') (.slice va vn vc)).c2
      have HD1 := Lib.hid ((HD.out.setM F1.out q (.int .i64 s)).setR HY2.out (.int .i64 s') (.slice va vn vc))
      have HBF := Lib.hid (below_put (below_put HBr.out (B := W.heap.size) (Nat.le_refl _) (.pointer q) (.int .i64 s)) (B := W.heap.size + 1) (by omega) (.int .i64 s') (.slice va vn vc))
      clear hge
      go_upto_region 8 with fail
      go_region
      all_goals
        go_wp2_with fail
        refine bodyPost_ret (v := .tuple #[.agg #[.pointer q, .int .i64 s], .agg #[.int .i64 s', .slice va vn vc], .bool true]) (by simp [results, Try.results17, go_sem, u0, u1, u2, u3]) rfl ?_
        exact ⟨q, s, s', _, rfl, HD1.out.below (Below.refl _ _).drew, HBF.out.drew⟩
end Go.Proofs.Ytahgfggcpmnnaaa
namespace Go.Proofs.Ytahgfggcpmnnaaa
open Go Go.RowKit Gs

structure Ch where
  lo : Int
  hi : Int
  fr : Int
  tt : Int
deriving DecidableEq
/-- a list of changes lies at a slice -/
def IsCs (W : World) (v : Value) (l : List Ch) : Prop :=
  ∃ ao c, v = .slice ao l.length c ∧ (0 < l.length → ∃ B o, ao = some ⟨B, o, none⟩ ∧ B < W.heap.size ∧ ∀ j (h : j < l.length),
    W.cell? ⟨B, o + j * 4, none⟩ = some (.int .i64 l[j].lo) ∧ W.cell? ⟨B, o + j * 4 + 1, none⟩ = some (.int .i64 l[j].hi) ∧ W.cell? ⟨B, o + j * 4 + 2, none⟩ = some (.int .i64 l[j].fr) ∧ W.cell? ⟨B, o + j * 4 + 3, none⟩ = some (.int .i64 l[j].tt))
theorem IsCs.below {W W' : World} {v : Value} {l : List Ch} (h : IsCs W v l) (hb : Below W.heap.size W W') : IsCs W' v l := by
  obtain ⟨ao, c, hv, h⟩ := h
  refine ⟨ao, c, hv, fun hp => ?_⟩
  obtain ⟨B, o, e, hB, hc⟩ := h hp
  refine ⟨B, o, e, Nat.lt_of_lt_of_le hB hb.size, fun j hj => ?_⟩
  obtain ⟨h0, h1, h2, h3⟩ := hc j hj
  exact ⟨(hb.cell (p := ⟨B, _, none⟩) hB).trans h0, (hb.cell (p := ⟨B, _, none⟩) hB).trans h1, (hb.cell (p := ⟨B, _, none⟩) hB).trans h2, (hb.cell (p := ⟨B, _, none⟩) hB).trans h3⟩
theorem IsCs.at' {W : World} {a : Option Addr} {n c : Nat} {l : List Ch} (h : IsCs W (.slice a n c) l) {j : Nat} (hj : j < l.length) :
    ∃ B o, a = some ⟨B, o, none⟩ ∧ W.cell? ⟨B, o + j * 4, none⟩ = some (.int .i64 l[j].lo) ∧ W.cell? ⟨B, o + j * 4 + 1, none⟩ = some (.int .i64 l[j].hi) ∧ W.cell? ⟨B, o + j * 4 + 2, none⟩ = some (.int .i64 l[j].fr) ∧ W.cell? ⟨B, o + j * 4 + 3, none⟩ = some (.int .i64 l[j].tt) := by
  obtain ⟨a', c', hv, hcs⟩ := h
  injection hv with hv1 hv2 hv3
  subst hv1
  obtain ⟨B, o, e1, -, hcs2⟩ := hcs (by omega)
  exact ⟨B, o, e1, hcs2 j hj⟩
open Classical in
/-- what is wrong with a change -/
noncomputable def chE (size : Int) (f : Int → Int) (c : Ch) : Int :=
  if ¬ (0 ≤ c.lo ∧ c.lo < c.hi ∧ c.hi ≤ size) then 3 else if isT c.fr = true ∧ isT c.tt = true then (if ∀ x, c.lo ≤ x → x < c.hi → f x = c.fr then 0 else 30) else 2
/-- the boxes of change -/
theorem boxes_ch (W : World) (x0 x1 : Value) (zs : List Value) (hz : zs.length ≤ 22) (T1 T3 : TypeId) : ∃ w0, w0 = ((W.alloc (.cells #[x0, x1] T1)).alloc (.cells zs.toArray T3)).alloc (.cells #[.pointer none, .int .i64 0] T1) ∧
    Bx W.heap.size [x0, x1] w0 ∧ Bx (W.heap.size + 1) zs w0 ∧ Bx (W.heap.size + 1 + 1) [.pointer none, .int .i64 0] w0 ∧ Below W.heap.size W w0 ∧ w0.heap.size = W.heap.size + 3 := by
  obtain ⟨w1, e1⟩ : ∃ w1, w1 = W.alloc (.cells #[x0, x1] T1) := ⟨_, rfl⟩
  obtain ⟨w2, e2⟩ : ∃ w2, w2 = w1.alloc (.cells zs.toArray T3) := ⟨_, rfl⟩
  obtain ⟨w3, e3⟩ : ∃ w3, w3 = w2.alloc (.cells #[.pointer none, .int .i64 0] T1) := ⟨_, rfl⟩
  have s1 : w1.heap.size = W.heap.size + 1 := by rw [e1]; simp
  have s2 : w2.heap.size = W.heap.size + 1 + 1 := by rw [e2]; simp [s1]
  have s3 : w3.heap.size = W.heap.size + 1 + 1 + 1 := by rw [e3]; simp [s2]
  have a1 : Below W.heap.size W w1 := by rw [e1]; exact alloc_below _ _
  have a2 : Below w1.heap.size w1 w2 := by rw [e2]; exact alloc_below _ _
  have a3 : Below w2.heap.size w2 w3 := by rw [e3]; exact alloc_below _ _
  have n1 : Bx W.heap.size [x0, x1] w1 := by rw [e1]; exact Bx.new W [x0, x1] T1 (by simp)
  have n2 : Bx w1.heap.size zs w2 := by rw [e2]; exact Bx.new w1 zs T3 hz
  have n3 : Bx w2.heap.size [.pointer none, .int .i64 0] w3 := by rw [e3]; exact Bx.new w2 [.pointer none, .int .i64 0] T1 (by simp)
  rw [s1] at n2; rw [s2] at n3
  have a23 := a2.trans (a3.mono a2.size)
  rw [← e1, ← e2, ← e3]
  exact ⟨w3, rfl, n1.next a23, n2.next a3, n3, a1.trans (a23.mono a1.size), s3⟩
set_option maxRecDepth 100000 in
set_option maxHeartbeats 4000000 in
theorem change_any {f : Int → Int} {size : Int} {W : World} {p : Option Addr} (h : IsM f size W p) (lo hi fr tt : Int) :
    Calls Try.prog 61 #[.agg #[.pointer p, .int .i64 size], .agg #[.int .i64 lo, .int .i64 hi, .int .i64 fr, .int .i64 tt]] W fun e w' => ∃ q s e2, e = .returned (.tuple #[.agg #[.pointer q, .int .i64 s], .int .i64 e2]) ∧ Hid (Upd f (put f lo hi tt) size (chE size f ⟨lo, hi, fr, tt⟩) q s e2 w') ∧ Below W.heap.size W w' := by
  obtain ⟨w0, HW, n1, n2, n3, hb, hs0⟩ := boxes_ch W (.pointer p) (.int .i64 size) [.int .i64 lo, .int .i64 hi, .int .i64 fr, .int .i64 tt] (by simp) 27 107
  have H1 := Lib.hid n1; have H2 := Lib.hid n2; have H3 := Lib.hid n3; have HB := Lib.hid hb; have HS0 := Lib.hid hs0; have HW' := Lib.hid HW
  have c0 := (n2.c 0 _ rfl).1; have c1 := (n2.c 1 _ rfl).1; have c2 := (n2.c 2 _ rfl).1; have c3 := (n2.c 3 _ rfl).1
  have HBF : Hid (∀ W' x y, Below W.heap.size W W' → Below W.heap.size W ((W'.setCell ⟨W.heap.size + 1 + 1, 0, none⟩ x).setCell ⟨W.heap.size + 1 + 1, 1, none⟩ y)) := fun W' x y h => below_put h (by omega) _ _
  by_cases he : lo = hi
  · subst he
    have HE : Hid (chE size f ⟨lo, lo, fr, tt⟩ = 3) := by show chE _ _ _ = 3; unfold chE; rw [if_pos (by simp)]
    obtain ⟨x0, x1, x2, x3⟩ := n3.c2
    obtain ⟨u0, u1, -, -⟩ := (n3.two (.pointer none) (.int .i64 0)).c2
    clear n1 n2 n3 hb hs0 HW h
    go_enter Try.func61, Try.ntmps61
    go_upto_region 1 with fail
    rw [← HW'.out]
    go_wp2_with fail
    refine bodyPost_ret (v := .tuple #[.agg #[.pointer none, .int .i64 0], .int .i64 3]) (by simp [results, Try.results61, go_sem, u0, u1]) rfl ?_
    have HU : ∀ W', Upd f (put f lo lo tt) size (chE size f ⟨lo, lo, fr, tt⟩) none 0 3 W' := fun W' => .inl ⟨by rw [HE.out]; decide, HE.out.symm, rfl, rfl⟩
    first
    | exact ⟨none, 0, 3, rfl, HU _, HB.out⟩
    | exact ⟨none, 0, 3, rfl, HU _, HBF.out _ _ _ HB.out⟩
  · obtain ⟨b, rfl⟩ := h.some
    have hlb : (lo == hi) = false := beq_eq_false_iff_ne.2 he
    obtain ⟨w1, HW1⟩ : ∃ w1, w1 = w0.alloc (.cells #[.int .i64 fr, .int .i64 tt] 3) := ⟨_, rfl⟩
    have b1 : Below w0.heap.size w0 w1 := by rw [HW1]; exact alloc_below _ _
    have hck : Calls Try.prog 46 #[.agg #[.pointer (some ⟨b, 0, none⟩), .int .i64 size], .int .i64 lo, .int .i64 hi, .slice (some ⟨w0.heap.size, 0, none⟩) 2 2] w1 fun e w' => e = .returned (.int .i64 (errOf size lo hi [fr, tt])) ∧ Below w1.heap.size w1 w' :=
      check_any b w0.heap.size 2 size lo hi [fr, tt] w1 (by rw [HW1]; simp) (fun i hi => by
        have : i = 0 ∨ i = 1 := by simp at hi; omega
        rw [HW1]
        rcases this with rfl | rfl
        · exact World.cell?_alloc_at _ _ _ _ rfl
        · exact World.cell?_alloc_at _ _ _ _ rfl) (by simp)
    have G1 := Lib.hid (n1.next b1); have G2 := Lib.hid (n2.next b1); have G3 := Lib.hid (n3.next b1)
    have HB1 := Lib.hid (hb.trans (b1.mono hb.size))
    have HW1' := Lib.hid HW1
    obtain ⟨m0, m1, -, -⟩ := n1.c2
    by_cases her : errOf size lo hi [fr, tt] = 0
    · rw [her] at hck
      obtain ⟨r1, r2, r3, r4⟩ := errOf_zero her
      have r5 := r4 fr (by simp); have r6 := r4 tt (by simp)
      obtain ⟨t, t1, t2, t3⟩ := h.tr
      have HAT : Hid (∀ W', Below W.heap.size W W' → Calls Try.prog 45 #[.pointer (some ⟨b, 0, none⟩), .int .i64 lo] W' fun e w' => ∃ rlo rhi rtag, e = .returned (.agg #[.int .i64 rlo, .int .i64 rhi, .int .i64 rtag]) ∧ Hid (∃ l k, t.L = l ++ ⟨rlo, rhi, rtag⟩ :: k ∧ rlo ≤ lo ∧ lo < rhi) ∧ Below W'.heap.size W' w') := fun W' hW => (at_any f 0 size t _ W' lo (IsT.below hW t1) t2 r1 (by omega)).mono fun e w' ⟨l, a1, a2, a3, k, he, hp, hB⟩ => ⟨a1, a2, a3, he, ⟨l, k, hp.out⟩, hB⟩
      have HCAN := Lib.hid t2
      have hst : errOf size lo hi [tt] = 0 := by unfold errOf; rw [if_neg (by omega)]; simp [isT, r6]
      have HST : Hid (∀ W', Below W.heap.size W W' → Calls Try.prog 38 #[.agg #[.pointer (some ⟨b, 0, none⟩), .int .i64 size], .int .i64 lo, .int .i64 hi, .int .i64 tt] W' fun e w' => ∃ q s e2, e = .returned (.tuple #[.agg #[.pointer q, .int .i64 s], .int .i64 e2]) ∧ Hid (Upd f (put f lo hi tt) size 0 q s e2 w') ∧ Below W'.heap.size W' w') := fun W' hW => by
        have := Set_any (h.below hW) (lo := lo) (hi := hi) (tag := tt)
        rw [hst] at this
        exact this
      have HCH : Hid (chE size f ⟨lo, hi, fr, tt⟩ = open Classical in if ∀ x, lo ≤ x → x < hi → f x = fr then 0 else 30) := by
        show chE _ _ _ = _
        unfold chE
        rw [if_neg (by simp; omega), if_pos ⟨decide_eq_true r5, decide_eq_true r6⟩]
      have HCK := Lib.hid hck
      have HLH : Hid (0 ≤ lo ∧ lo < hi ∧ hi ≤ size) := ⟨r1, by omega, r3⟩
      clear n1 n2 n3 hb hs0 HW h HW1 b1 hck her r1 r2 r3 r4 r5 r6 t1 t2 t3 hst he
      go_enter Try.func61, Try.ntmps61
      go_upto_region 1 with fail
      rw [← HW'.out]
      go_wp2_with fail
      rw [← HW1'.out]
      refine HCK.out.mono ?_
      rintro e w2 ⟨rfl, hb⟩
      have F1 := Lib.hid (G1.out.next hb); have F2 := Lib.hid (G2.out.next hb); have F3 := Lib.hid (G3.out.next hb)
      have HB2 := Lib.hid (HB1.out.trans (hb.mono HB1.out.size))
      clear hb m0 m1 c0 c1 c2 c3 G1 G2 G3 HB1
      obtain ⟨m0, m1, -, -⟩ := F1.out.c2
      have c0 := (F2.out.c 0 _ rfl).1; have c1 := (F2.out.c 1 _ rfl).1; have c2 := (F2.out.c 2 _ rfl).1; have c3 := (F2.out.c 3 _ rfl).1
      go_wp2_with fail
      refine (HAT.out _ HB2.out).mono ?_
      rintro e w3 ⟨rlo, rhi, rtag, rfl, HRN, hb⟩
      obtain ⟨w4, HW4⟩ : ∃ w4, w4 = w3.alloc (.cells #[.int .i64 rlo, .int .i64 rhi, .int .i64 rtag] 64) := ⟨_, rfl⟩
      have b4 : Below w3.heap.size w3 w4 := by rw [HW4]; exact alloc_below _ _
      have n4 : Bx w3.heap.size [.int .i64 rlo, .int .i64 rhi, .int .i64 rtag] w4 := by rw [HW4]; exact Bx.new w3 [.int .i64 rlo, .int .i64 rhi, .int .i64 rtag] 64 (by simp)
      have b34 := hb.trans (b4.mono hb.size)
      have K1 := Lib.hid (F1.out.next b34); have K2 := Lib.hid (F2.out.next b34); have K3 := Lib.hid (F3.out.next b34); have K4 := Lib.hid n4
      have HB4 := Lib.hid (HB2.out.trans (b34.mono HB2.out.size))
      have HW4' := Lib.hid HW4
      clear HW4 b4 n4 b34 hb m0 m1 c0 c1 c2 c3 F1 F2 F3 HB2
      go_upto_region 7 with fail
      rw [← HW4'.out]
      obtain ⟨m0, m1, -, -⟩ := K1.out.c2
      have c0 := (K2.out.c 0 _ rfl).1; have c1 := (K2.out.c 1 _ rfl).1; have c2 := (K2.out.c 2 _ rfl).1; have c3 := (K2.out.c 3 _ rfl).1
      have d1 := (K4.out.c 1 _ rfl).1; have d2 := (K4.out.c 2 _ rfl).1
      obtain ⟨x0, x1, x2, x3⟩ := K3.out.c2
      by_cases g1 : rtag = fr
      · have hbe : (rtag == fr) = true := by rw [g1]; exact beq_self_eq_true _
        by_cases g2 : rhi < hi
        · have HE : Hid (chE size f ⟨lo, hi, fr, tt⟩ = 30) := by
            obtain ⟨l, k, hL, q1, q2⟩ := HRN.out
            have hc := HCAN.out
            rw [hL] at hc
            obtain ⟨_, _, a3, a4, _, a6⟩ := hc.mid
            have e1 := a6 (by show rhi < size; have := HLH.out; omega)
            have e2 := a4 (rhi - 1) (by show rlo ≤ _; omega) (by show _ < rhi; omega)
            show chE _ _ _ = 30
            rw [HCH.out, if_neg]
            intro hall
            have e3 := hall rhi (by omega) g2
            have e1 : f (rhi - 1) ≠ f rhi := e1
            have e2 : f (rhi - 1) = rtag := e2
            exact e1 (by rw [e2, e3, g1])
          obtain ⟨u0, u1, -, -⟩ := (K3.out.two (.pointer none) (.int .i64 0)).c2
          clear hbe
          subst g1
          go_wp2_with fail
          refine bodyPost_ret (v := .tuple #[.agg #[.pointer none, .int .i64 0], .int .i64 30]) (by simp [results, Try.results61, go_sem, u0, u1]) rfl ?_
          have HU : ∀ W', Upd f (put f lo hi tt) size (chE size f ⟨lo, hi, rtag, tt⟩) none 0 30 W' := fun W' => .inl ⟨by rw [HE.out]; decide, HE.out.symm, rfl, rfl⟩
          first
          | exact ⟨none, 0, 30, rfl, HU _, HB4.out⟩
          | exact ⟨none, 0, 30, rfl, HU _, HBF.out _ _ _ HB4.out⟩
        · have HE : Hid (chE size f ⟨lo, hi, fr, tt⟩ = 0) := by
            obtain ⟨l, k, hL, q1, q2⟩ := HRN.out
            have hc := HCAN.out
            rw [hL] at hc
            obtain ⟨_, _, a3, a4, _, a6⟩ := hc.mid
            show chE _ _ _ = 0
            rw [HCH.out, if_pos]
            intro x x1 x2
            rw [← g1]
            exact a4 x (by show rlo ≤ x; omega) (by show x < rhi; omega)
          clear hbe
          subst g1
          go_wp2_with fail
          refine (HST.out _ HB4.out).mono ?_
          rintro e w5 ⟨q, s, e2, rfl, HU, hb⟩
          have K5 := Lib.hid (K3.out.next hb)
          have HB5 := Lib.hid (HB4.out.trans (hb.mono HB4.out.size))
          obtain ⟨y0, y1, y2, y3⟩ := K5.out.c2
          obtain ⟨u0, u1, -, -⟩ := (K5.out.two (.pointer q) (.int .i64 s)).c2
          have HUF : Hid (Upd f (put f lo hi tt) size (chE size f ⟨lo, hi, rtag, tt⟩) q s e2 ((w5.setCell ⟨W.heap.size + 1 + 1, 0, none⟩ (.pointer q)).setCell ⟨W.heap.size + 1 + 1, 1, none⟩ (.int .i64 s))) := by
            show Upd _ _ _ (chE _ _ _) _ _ _ _
            rw [HE.out]
            rcases HU.out with g | g | ⟨g1, g2, g3, g4⟩
            · exact .inl g
            · exact .inr (.inl g)
            · exact .inr (.inr ⟨g1, g2, g3, g4.lo, g4.ctx, (g4.tr.set K5.out.c22 _).set (K5.out.put (i := 0) (by simp) (by decide) _).c22 _⟩)
          clear hb m0 m1 c0 c1 c2 c3 d1 d2 x0 x1 x2 x3
          go_wp2_with fail
          refine bodyPost_ret (v := .tuple #[.agg #[.pointer q, .int .i64 s], .int .i64 e2]) (by simp [results, Try.results61, go_sem, u0, u1]) rfl ?_
          exact ⟨q, s, e2, rfl, HUF, HBF.out _ _ _ HB5.out⟩
      · have hbe : (rtag == fr) = false := beq_eq_false_iff_ne.2 g1
        have HE : Hid (chE size f ⟨lo, hi, fr, tt⟩ = 30) := by
          obtain ⟨l, k, hL, q1, q2⟩ := HRN.out
          have hc := HCAN.out
          rw [hL] at hc
          obtain ⟨_, _, a3, a4, _, a6⟩ := hc.mid
          show chE _ _ _ = 30
          rw [HCH.out, if_neg]
          intro hall
          exact g1 ((a4 lo q1 q2).symm.trans (hall lo (Int.le_refl _) HLH.out.2.1))
        obtain ⟨u0, u1, -, -⟩ := (K3.out.two (.pointer none) (.int .i64 0)).c2
        go_wp2_with fail
        refine bodyPost_ret (v := .tuple #[.agg #[.pointer none, .int .i64 0], .int .i64 30]) (by simp [results, Try.results61, go_sem, u0, u1]) rfl ?_
        have HU : ∀ W', Upd f (put f lo hi tt) size (chE size f ⟨lo, hi, fr, tt⟩) none 0 30 W' := fun W' => .inl ⟨by rw [HE.out]; decide, HE.out.symm, rfl, rfl⟩
        first
        | exact ⟨none, 0, 30, rfl, HU _, HB4.out⟩
        | exact ⟨none, 0, 30, rfl, HU _, HBF.out _ _ _ HB4.out⟩
    · have HE : Hid (chE size f ⟨lo, hi, fr, tt⟩ = errOf size lo hi [fr, tt]) := by
        show chE _ _ _ = _
        unfold errOf at her ⊢
        unfold chE
        by_cases hv : lo < 0 ∨ hi < lo ∨ size < hi
        · rw [if_pos (by simp; omega), if_pos hv]
        · rw [if_neg (by simp; omega), if_neg hv]
          rw [if_neg hv] at her
          by_cases ht : isT fr = true ∧ isT tt = true
          · exfalso
            apply her
            rw [if_pos (by simp [ht])]
          · rw [if_neg ht, if_neg]
            intro h
            apply ht
            simpa using h
      have hne : (errOf size lo hi [fr, tt] == 0) = false := beq_eq_false_iff_ne.2 her
      have HER := Lib.hid her
      have HCK := Lib.hid hck
      clear n1 n2 n3 hb hs0 HW h HW1 b1 hck her he
      generalize errOf size lo hi [fr, tt] = er at *
      go_enter Try.func61, Try.ntmps61
      go_upto_region 1 with fail
      rw [← HW'.out]
      go_wp2_with fail
      rw [← HW1'.out]
      refine HCK.out.mono ?_
      rintro e w2 ⟨rfl, hb⟩
      have F3 := Lib.hid (G3.out.next hb)
      have HB2 := Lib.hid (HB1.out.trans (hb.mono HB1.out.size))
      clear hb m0 m1 c0 c1 c2 c3 G1 G2 G3 HB1
      obtain ⟨x0, x1, x2, x3⟩ := F3.out.c2
      obtain ⟨u0, u1, -, -⟩ := (F3.out.two (.pointer none) (.int .i64 0)).c2
      go_wp2_with fail
      refine bodyPost_ret (v := .tuple #[.agg #[.pointer none, .int .i64 0], .int .i64 er]) (by simp [results, Try.results61, go_sem, u0, u1]) rfl ?_
      have HU : ∀ W', Upd f (put f lo hi tt) size (chE size f ⟨lo, hi, fr, tt⟩) none 0 er W' := fun W' => .inl ⟨by rw [HE.out]; exact HER.out, HE.out.symm, rfl, rfl⟩
      first
      | exact ⟨none, 0, er, rfl, HU _, HB2.out⟩
      | exact ⟨none, 0, er, rfl, HU _, HBF.out _ _ _ HB2.out⟩
open Classical in
/-- what a change answers -/
noncomputable def chK (size : Int) (f : Int → Int) (c : Ch) : Int :=
  if chE size f c ≠ 0 then chE size f c else if ∃ L, Gs.Can (put f c.lo c.hi c.tt) 0 L size ∧ 4096 < L.length then 5 else 0
open Classical in
/-- what several changes answer: the first error, or what the function becomes -/
noncomputable def apF (size : Int) : (Int → Int) → List Ch → Int × (Int → Int)
  | f, [] => (0, f)
  | f, c :: l => if chK size f c = 0 then apF size (put f c.lo c.hi c.tt) l else (chK size f c, f)
theorem apF_nil (size : Int) (f : Int → Int) : apF size f [] = (0, f) := rfl
theorem apF_ok {size : Int} {f : Int → Int} {c : Ch} {l : List Ch} (h : chK size f c = 0) : apF size f (c :: l) = apF size (put f c.lo c.hi c.tt) l := by
  show (if _ then _ else _) = _
  rw [if_pos h]
theorem apF_err {size : Int} {f : Int → Int} {c : Ch} {l : List Ch} (h : chK size f c ≠ 0) : apF size f (c :: l) = (chK size f c, f) := by
  show (if _ then _ else _) = _
  rw [if_neg h]
theorem upd_chK {f : Int → Int} {size : Int} {c : Ch} {q : Option Addr} {s e : Int} {W : World} (h : Upd f (put f c.lo c.hi c.tt) size (chE size f c) q s e W) :
    e = chK size f c ∧ ((e ≠ 0 ∧ q = none ∧ s = 0) ∨ (e = 0 ∧ s = size ∧ IsM (put f c.lo c.hi c.tt) size W q)) := by
  rcases h with ⟨h1, rfl, h3, h4⟩ | ⟨h1, rfl, h3, h4, L, hL, hl⟩ | ⟨h1, rfl, h3, h4⟩
  · refine ⟨?_, .inl ⟨h1, h3, h4⟩⟩
    unfold chK
    rw [if_pos h1]
  · refine ⟨?_, .inl ⟨by decide, h3, h4⟩⟩
    unfold chK
    rw [if_neg (fun h => h h1), if_pos ⟨L, hL, hl⟩]
  · refine ⟨?_, .inr ⟨rfl, h3, h4⟩⟩
    unfold chK
    rw [if_neg (fun h => h h1), if_neg]
    rintro ⟨L, hL, hl⟩
    obtain ⟨K, hK, hk⟩ := h4.can
    have := hK.same hL
    subst this
    omega
/-- what Apply answers -/
def ApP (size : Int) (r : Int × (Int → Int)) (q : Option Addr) (s e : Int) (W : World) : Prop :=
  e = r.1 ∧ ((e ≠ 0 ∧ q = none ∧ s = 0) ∨ (e = 0 ∧ s = size ∧ IsM r.2 size W q))
theorem ApP.below {size : Int} {r : Int × (Int → Int)} {q : Option Addr} {s e : Int} {W W' : World} (h : ApP size r q s e W) (hb : Below W.heap.size W W') : ApP size r q s e W' := by
  obtain ⟨h1, h | ⟨h2, h3, h4⟩⟩ := h
  · exact ⟨h1, .inl h⟩
  · exact ⟨h1, .inr ⟨h2, h3, h4.below hb⟩⟩
theorem IsM.set {f : Int → Int} {size : Int} {W : World} {p : Option Addr} (h : IsM f size W p) {X : Nat} (h22 : W.cell? ⟨X, 22, none⟩ = none) (i : Nat) (u : Value) : IsM f size (W.setCell ⟨X, i, none⟩ u) p := ⟨h.lo, h.ctx, h.tr.set h22 u⟩
theorem IsM.two {f : Int → Int} {size : Int} {W : World} {p : Option Addr} (h : IsM f size W p) {X : Nat} {x y : Value} (hb : Bx X [x, y] W) (u v : Value) : IsM f size ((W.setCell ⟨X, 0, none⟩ u).setCell ⟨X, 1, none⟩ v) p :=
  (h.set hb.c22 0 u).set (hb.put (i := 0) (by simp) (by decide) u).c22 1 v
set_option maxRecDepth 100000 in
set_option maxHeartbeats 4000000 in
theorem Apply_any {f : Int → Int} {size : Int} {W : World} {p : Option Addr} {v : Value} {l : List Ch} (h : IsM f size W p) (hl : IsCs W v l) (hn : l.length ≤ 100000) :
    Calls Try.prog 34 #[.agg #[.pointer p, .int .i64 size], v] W fun e w' => ∃ q s e2, e = .returned (.tuple #[.agg #[.pointer q, .int .i64 s], .int .i64 e2]) ∧ Hid (ApP size (apF size f l) q s e2 w') ∧ Below W.heap.size W w' := by
  have HCS := Lib.hid hl
  obtain ⟨ao, c, rfl, -⟩ := hl
  obtain ⟨n, hnn⟩ : ∃ n, n = l.length := ⟨_, rfl⟩
  have HN := Lib.hid hnn
  rw [← hnn] at hn HCS ⊢
  obtain ⟨b, rfl⟩ := h.some
  obtain ⟨w0, HW⟩ : ∃ w0, w0 = (W.alloc (.cells #[.pointer (some ⟨b, 0, none⟩), .int .i64 size] 27)).alloc (.cells #[.pointer none, .int .i64 0] 27) := ⟨_, rfl⟩
  have hb : Below W.heap.size W w0 := by rw [HW]; exact (alloc_below _ _).alloc (by simp) _
  have n1 : Bx W.heap.size [.pointer (some ⟨b, 0, none⟩), .int .i64 size] w0 := by rw [HW]; exact (Bx.new W [.pointer (some ⟨b, 0, none⟩), .int .i64 size] 27 (by simp)).next (alloc_below _ _)
  have n2 : Bx (W.heap.size + 1) [.pointer none, .int .i64 0] w0 := by
    have := Bx.new (W.alloc (.cells #[.pointer (some ⟨b, 0, none⟩), .int .i64 size] 27)) [.pointer none, .int .i64 0] 27 (by simp)
    rw [World.size_alloc, ← HW] at this
    exact this
  have HUS := Lib.hid (fun W' => isUsable_any b size W')
  have H1 := Lib.hid n1; have H2 := Lib.hid n2; have HB := Lib.hid hb; have HW' := Lib.hid HW; have HI := Lib.hid (h.below hb)
  obtain ⟨m0, m1, -, -⟩ := n1.c2
  clear hnn hb n1 n2 HW h
  go_enter Try.func34, Try.ntmps34
  go_upto_region 1 with fail
  rw [← HW'.out]
  go_wp2_with fail
  refine (HUS.out _).mono ?_
  rintro e w1 ⟨rfl, hb⟩
  have G1 := Lib.hid (H1.out.next hb); have G2 := Lib.hid (H2.out.next hb); have HB1 := Lib.hid (HB.out.trans (hb.mono HB.out.size)); have HI1 := Lib.hid (HI.out.below hb)
  clear hb m0 m1 H1 H2 HB HI HW'
  go_wp2_with fail
  go_loopg [16] n (fun k i wr => ∃ (j : Nat) (q : Option Addr) (g : Int → Int), Hid (k + j = n) ∧ i = .int .i64 j ∧ Hid (apF size f l = apF size g (l.drop j)) ∧ Hid (IsM g size wr q) ∧ Hid (Bx W.heap.size [.pointer q, .int .i64 size] wr) ∧ Hid (Bx (W.heap.size + 1) [.pointer none, .int .i64 0] wr) ∧ Hid (Below W.heap.size W wr))
  case atStart => exact ⟨0, some ⟨b, 0, none⟩, f, by show _ = _; omega, rfl, rfl, HI1, G1, G2, HB1⟩
  case round =>
    obtain ⟨j, q, g, HK, rfl, HAP, HI', F1, F2, HBr⟩ := hrel
    clear HI1 G1 G2 HB1
    have hjn : j ≤ n := by have := HK.out; omega
    by_cases hlt : j < n
    · have hlt2 : (j : Int) < n := by omega
      have hjl : j < l.length := by have := HN.out; omega
      obtain ⟨B, o, rfl, g0, g1, g2, g3⟩ := (HCS.out.below HBr.out).at' hjl
      have HDR : Hid (l.drop j = l[j] :: l.drop (j + 1)) := List.drop_eq_getElem_cons hjl
      generalize l[j] = a at *
      obtain ⟨alo, ahi, afr, att⟩ := a
      simp only at g0 g1 g2 g3
      obtain ⟨w2, HW2⟩ : ∃ w2, w2 = wr.alloc (.cells #[.int .i64 alo, .int .i64 ahi, .int .i64 afr, .int .i64 att] 107) := ⟨_, rfl⟩
      have b2 : Below wr.heap.size wr w2 := by rw [HW2]; exact alloc_below _ _
      have n3 : Bx wr.heap.size [.int .i64 alo, .int .i64 ahi, .int .i64 afr, .int .i64 att] w2 := by rw [HW2]; exact Bx.new wr [.int .i64 alo, .int .i64 ahi, .int .i64 afr, .int .i64 att] 107 (by simp)
      have HCH := Lib.hid (change_any (HI'.out.below b2) alo ahi afr att)
      have K1 := Lib.hid (F1.out.next b2); have K2 := Lib.hid (F2.out.next b2)
      have HB2 := Lib.hid (HBr.out.trans (b2.mono HBr.out.size))
      have c0 := (n3.c 0 _ rfl).1; have c1 := (n3.c 1 _ rfl).1; have c2 := (n3.c 2 _ rfl).1; have c3 := (n3.c 3 _ rfl).1
      have HW2' := Lib.hid HW2
      clear HW2 n3
      go_upto_region 6 with fail
      rw [← HW2'.out]
      clear g0 g1 g2 g3
      obtain ⟨m0, m1, -, -⟩ := K1.out.c2
      go_wp2_with fail
      refine HCH.out.mono ?_
      rintro e w3 ⟨q2, s2, e2, rfl, HU, hb⟩
      obtain ⟨w4, HW4⟩ : ∃ w4, w4 = w3.alloc (.cells #[.pointer q2, .int .i64 s2] 27) := ⟨_, rfl⟩
      have b4 : Below w3.heap.size w3 w4 := by rw [HW4]; exact alloc_below _ _
      have n4 : Bx w3.heap.size [.pointer q2, .int .i64 s2] w4 := by rw [HW4]; exact Bx.new w3 [.pointer q2, .int .i64 s2] 27 (by simp)
      have b34 := hb.trans (b4.mono hb.size)
      have L1 := Lib.hid (K1.out.next b34); have L2 := Lib.hid (K2.out.next b34); have L4 := Lib.hid n4
      have HB4 := Lib.hid (HB2.out.trans (b34.mono HB2.out.size))
      have HHU := Lib.hid (upd_chK (HU.out.below b4))
      have HCK := Lib.hid HHU.out.1
      have HSZ : Hid (wr.heap.size ≤ w3.heap.size) := Nat.le_trans b2.size hb.size
      have HW4' := Lib.hid HW4
      clear HW4 b4 n4 b34 hb m0 m1 c0 c1 c2 c3 K1 K2 HB2 b2
      go_upto_region 7 with fail
      rw [← HW4'.out]
      clear HW4' HW2'
      rcases HHU.out.2 with ⟨h1, rfl, rfl⟩ | ⟨rfl, rfl, h3⟩
      · have HF : Hid (ApP size (apF size f l) none 0 e2 w4) := by
          show ApP _ (apF _ _ _) _ _ _ _
          rw [HAP.out, HDR.out, apF_err (by rw [← HCK.out]; exact h1)]
          exact ⟨HCK.out, .inl ⟨h1, rfl, rfl⟩⟩
        have hne : (e2 == 0) = false := beq_eq_false_iff_ne.2 h1
        obtain ⟨x0, x1, x2, x3⟩ := L2.out.c2
        obtain ⟨u0, u1, -, -⟩ := (L2.out.two (.pointer none) (.int .i64 0)).c2
        clear h1
        go_wp2_with fail
        refine bodyPost_ret (v := .tuple #[.agg #[.pointer none, .int .i64 0], .int .i64 e2]) (by simp [results, Try.results34, go_sem, u0, u1]) rfl ?_
        obtain ⟨f1, f2⟩ := HF.out
        have hF : ∀ W', ApP size (apF size f l) none 0 e2 W' := fun W' => ⟨f1, by rcases f2 with f2 | ⟨_, f3, f4⟩; exact .inl f2; exact absurd f4.lo (by omega)⟩
        first
        | exact ⟨none, 0, e2, rfl, hF _, HB4.out⟩
        | exact ⟨none, 0, e2, rfl, hF _, below_put HB4.out (by omega) _ _⟩
      · have HA2 : Hid (apF s2 f l = apF s2 (put g alo ahi att) (l.drop (j + 1))) := by
          show _ = _
          rw [HAP.out, HDR.out, apF_ok HCK.out.symm]
        have HI2 := Lib.hid h3
        obtain ⟨p0, p1, -, -⟩ := L4.out.c2
        obtain ⟨m0, m1, m2, m3⟩ := L1.out.c2
        have hlt4 : W.heap.size + 1 < w3.heap.size := Nat.lt_of_lt_of_le F2.out.lt HSZ.out
        clear h3
        go_wp2_with fail
        go_roundg (n - (j + 1))
        case measure => have := HK.out; omega
        case rel => exact ⟨j + 1, q2, _, by show _ = _; omega, by go_num, HA2, HI2.out.two L1.out _ _, L1.out.two _ _, (L2.out.other (by omega) _).other (by omega) _, below_put HB4.out (Nat.le_refl _) _ _⟩
    · have hlt3 : ¬ (j : Int) < n := by omega
      have hdr : l.drop j = [] := List.drop_eq_nil_of_le (by have := HN.out; omega)
      have HF : Hid (apF size f l = (0, g)) := by
        show _ = _
        rw [HAP.out, hdr, apF_nil]
      clear hdr
      obtain ⟨m0, m1, -, -⟩ := F1.out.c2
      obtain ⟨x0, x1, x2, x3⟩ := F2.out.c2
      obtain ⟨u0, u1, -, -⟩ := (F2.out.two (.pointer q) (.int .i64 size)).c2
      have HI9 := Lib.hid (HI'.out.two F2.out (.pointer q) (.int .i64 size))
      go_wp2_with fail
      refine bodyPost_ret (v := .tuple #[.agg #[.pointer q, .int .i64 size], .int .i64 0]) (by simp [results, Try.results34, go_sem, u0, u1]) rfl ?_
      exact ⟨q, size, 0, rfl, by rw [HF.out]; exact ⟨rfl, .inr ⟨rfl, rfl, HI9.out⟩⟩, below_put HBr.out (by omega) _ _⟩
end Go.Proofs.Ytahgfggcpmnnaaa
namespace Go.Proofs.Ytahgfggcpmnnaaa
open Go Go.RowKit Gs

/-- a run of a list at a slice -/
theorem IsRs.at' {base : Nat} {W : World} {a : Option Addr} {n c : Nat} {L : List R} (h : IsRs base W (.slice a n c) L) {j : Nat} (hj : j < L.length) :
    ∃ G, a = some ⟨G, 0, none⟩ ∧ W.cell? ⟨G, j * 3, none⟩ = some (.int .i64 L[j].lo) ∧ W.cell? ⟨G, j * 3 + 1, none⟩ = some (.int .i64 L[j].hi) ∧ W.cell? ⟨G, j * 3 + 2, none⟩ = some (.int .i64 L[j].tag) := by
  obtain ⟨a', c', hv, hcs⟩ := h
  injection hv with hv1 hv2 hv3
  subst hv1
  obtain ⟨G, e1, -, hcs2⟩ := hcs (by omega)
  exact ⟨G, e1, hcs2 j hj⟩
theorem fits_at {f : Int → Int} : ∀ {l : List R} {a b : Int}, Fits f a l b → ∀ j (h : j < l.length), a ≤ l[j].lo ∧ l[j].lo < l[j].hi ∧ l[j].hi ≤ b ∧ ∀ p, l[j].lo ≤ p → p < l[j].hi → f p = l[j].tag
  | r :: l, a, b, h, 0, _ => by
    have hle := h.2.2.2.le
    exact ⟨by have := h.1; show a ≤ r.lo; omega, h.2.1, hle, h.2.2.1⟩
  | r :: l, a, b, h, j + 1, hj => by
    have := fits_at h.2.2.2 j (by simpa using hj)
    have h1 := h.1; have h2 := h.2.1
    exact ⟨by show a ≤ (l[j]'(by simpa using hj)).lo; omega, this.2⟩
theorem fits_idx {f : Int → Int} {x : Int} : ∀ {l : List R} {a b : Int}, Fits f a l b → a ≤ x → x < b → ∃ j, ∃ h : j < l.length, l[j].lo ≤ x ∧ x < l[j].hi
  | [], a, b, h, h1, h2 => by
    have h : a = b := h
    omega
  | r :: l, a, b, h, h1, h2 => by
    by_cases hx : x < r.hi
    · exact ⟨0, by simp, by have := h.1; show r.lo ≤ x; omega, hx⟩
    · obtain ⟨j, hj, h3⟩ := fits_idx h.2.2.2 (by omega) h2
      exact ⟨j + 1, by simpa using hj, h3⟩
def getE (size x : Int) : Int := if 0 ≤ x ∧ x < size then 0 else 3
def getT (f : Int → Int) (size x : Int) : Int := if 0 ≤ x ∧ x < size then f x else 0
set_option maxHeartbeats 1000000 in
/-- the document's Get, of a usable map -/
theorem RGet_any {f : Int → Int} {size x : Int} {base : Nat} {v : Value} {L : List R} {W : World} (hrs : IsRs base W v L) (hL : Gs.Can f 0 L size) (h1 : 1 ≤ size) (hlen : L.length ≤ 4096) :
    Calls Try.prog 19 #[.agg #[.int .i64 size, v], .int .i64 x] W fun e w' => e = .returned (.tuple #[.int .i64 (getT f size x), .int .i64 (getE size x)]) ∧ Below W.heap.size W w' := by
  have hne : 0 < L.length := by
    rcases fits_cut hL.1 with ⟨_, e⟩ | ⟨r, k, rfl⟩
    · omega
    · simp
  have HRS := Lib.hid hrs
  obtain ⟨a, c, rfl, -⟩ := hrs
  obtain ⟨n, hn⟩ : ∃ n, n = L.length := ⟨_, rfl⟩
  rw [← hn] at HRS hne ⊢
  have hnb : n ≤ 4096 := by omega
  have HN := Lib.hid hn
  obtain ⟨w0, HW⟩ : ∃ w0, w0 = W.alloc (.cells #[.int .i64 size, .slice a n c] 33) := ⟨_, rfl⟩
  have hm : M2 W.heap.size (.int .i64 size) (.slice a n c) w0 := by rw [HW]; exact M2.new _ _ _ _
  have hb : Below W.heap.size W w0 := by rw [HW]; exact (Below.refl _ _).alloc (Nat.le_refl _) _
  have HUS : Hid (∀ W', Calls Try.prog 42 #[.agg #[.int .i64 size, .slice a n c]] W' fun e w' => e = .returned (.bool true) ∧ Below W'.heap.size W' w') := fun W' => by
    have := RUsable_any size a n c W'
    rwa [decide_eq_true hne] at this
  have HM := Lib.hid hm; have HB := Lib.hid hb; have HW' := Lib.hid HW; have HL := Lib.hid hL
  have k0 := HM.out.c0; have k1 := HM.out.c1
  clear hm hb HW hL hn hlen
  go_enter Try.func19, Try.ntmps19
  go_upto_region 1 with fail
  rw [← HW'.out]
  go_wp2_with fail
  refine (HUS.out _).mono ?_
  rintro e w1 ⟨rfl, hb⟩
  have HM1 := Lib.hid (HM.out.next hb)
  have HB1 := Lib.hid (HB.out.trans (hb.mono HB.out.size))
  clear hb k0 k1
  go_wp2_with fail
  go_loopw [6] (fun iv wr => ∃ j : Nat, j ≤ n ∧ iv = .int .i64 j ∧ Hid (∀ k (h : k < L.length), k < j → ¬ (L[k].lo ≤ x ∧ x < L[k].hi)) ∧ Hid (M2 W.heap.size (.int .i64 size) (.slice a n c) wr) ∧ Hid (Below W.heap.size W wr)) (fun i _ => n - (intOf i).toNat)
  case atStart => exact ⟨0, by omega, rfl, fun k _ h => absurd h (by omega), HM1.out, HB1.out⟩
  case round =>
    obtain ⟨j, hj, rfl, HK, HMr, HBr⟩ := hrel
    have k0 := HMr.out.c0; have k1 := HMr.out.c1
    by_cases hlt : j < n
    · have hj2 : (j : Int) < n := by omega
      have hjl : j < L.length := by rw [← HN.out]; exact hlt
      obtain ⟨G, rfl, c0, c1, c2⟩ := (HRS.out.below HBr.out).at' hjl
      have hat := fits_at HL.out.1 j hjl
      have HAT := Lib.hid hat
      have HK2 : ¬ (L[j].lo ≤ x ∧ x < L[j].hi) → Hid (∀ k (h : k < L.length), k < j + 1 → ¬ (L[k].lo ≤ x ∧ x < L[k].hi)) := fun h k hk hkj => by
        by_cases e : k = j
        · subst e; exact h
        · exact HK.out k hk (by omega)
      have HK3 := Lib.hid HK2
      clear HK2 hat
      generalize L[j] = r at *
      obtain ⟨ra, rb, rc⟩ := r
      simp only at c0 c1 c2
      by_cases h1 : ra ≤ x
      · by_cases h2 : x < rb
        · have HF : Hid (getT f size x = rc ∧ getE size x = 0) := by
            obtain ⟨q1, q2, q3, q4⟩ := HAT.out
            simp only at q1 q2 q3 q4
            have hin : 0 ≤ x ∧ x < size := by omega
            exact ⟨by unfold getT; rw [if_pos hin]; exact q4 x h1 h2, by unfold getE; rw [if_pos hin]⟩
          go_wp2_with fail
          refine bodyPost_ret (v := .tuple #[.int .i64 rc, .int .i64 0]) (by simp [results, Try.results19, go_sem]) rfl ?_
          exact ⟨by rw [HF.out.1, HF.out.2], HBr.out⟩
        · have HK4 := HK3.out (fun h => h2 h.2)
          go_wp2_with fail
          go_roundw
          case rel => exact ⟨j + 1, by omega, by go_num, HK4, HMr, HBr⟩
          case measure => simp [intOf]; omega
      · have HK4 := HK3.out (fun h => h1 h.1)
        go_wp2_with fail
        go_roundw
        case rel => exact ⟨j + 1, by omega, by go_num, HK4, HMr, HBr⟩
        case measure => simp [intOf]; omega
    · have hj2 : ¬ (j : Int) < n := by omega
      have HF : Hid (getT f size x = 0 ∧ getE size x = 3) := by
        have hin : ¬ (0 ≤ x ∧ x < size) := fun h => by
          obtain ⟨k, hk, h3⟩ := fits_idx HL.out.1 h.1 h.2
          exact HK.out k hk (by have := HN.out; omega) h3
        exact ⟨by unfold getT; rw [if_neg hin], by unfold getE; rw [if_neg hin]⟩
      go_wp2_with fail
      refine bodyPost_ret (v := .tuple #[.int .i64 0, .int .i64 3]) (by simp [results, Try.results19, go_sem]) rfl ?_
      exact ⟨by rw [HF.out.1, HF.out.2], HBr.out⟩
/-- of an unusable map -/
theorem RGet_un (x : Int) (W : World) : Calls Try.prog 19 #[.agg #[.int .i64 0, .slice none 0 0], .int .i64 x] W fun e w' => e = .returned (.tuple #[.int .i64 0, .int .i64 1]) ∧ Below W.heap.size W w' := by
  obtain ⟨w0, HW⟩ : ∃ w0, w0 = W.alloc (.cells #[.int .i64 0, .slice none 0 0] 33) := ⟨_, rfl⟩
  have hb : Below W.heap.size W w0 := by rw [HW]; exact (Below.refl _ _).alloc (Nat.le_refl _) _
  have hm : M2 W.heap.size (.int .i64 0) (.slice none 0 0) w0 := by rw [HW]; exact M2.new _ _ _ _
  have HUS : Hid (∀ W', Calls Try.prog 42 #[.agg #[.int .i64 0, .slice none 0 0]] W' fun e w' => e = .returned (.bool false) ∧ Below W'.heap.size W' w') := fun W' => RUsable_any 0 none 0 0 W'
  have HB := Lib.hid hb; have HW' := Lib.hid HW
  have k0 := hm.c0; have k1 := hm.c1
  clear hm hb HW
  go_enter Try.func19, Try.ntmps19
  go_upto_region 1 with fail
  rw [← HW'.out]
  go_wp2_with fail
  refine (HUS.out _).mono ?_
  rintro e w1 ⟨rfl, hb⟩
  have HB1 := Lib.hid (HB.out.trans (hb.mono HB.out.size))
  clear hb k0 k1
  go_wp2_with fail
  refine bodyPost_ret (v := .tuple #[.int .i64 0, .int .i64 1]) (by simp [results, Try.results19, go_sem]) rfl ?_
  exact ⟨rfl, HB1.out⟩
end Go.Proofs.Ytahgfggcpmnnaaa
namespace Go.Proofs.Ytahgfggcpmnnaaa
open Go Go.RowKit Gs

/-- where the runs of a range end, of those that end at m -/
def clipE (lo hi m : Int) : Int := max lo (min hi m)
theorem clip_step {f : Int → Int} {lo hi m : Int} {lst : List R} {x : R} (h : Gs.Can f lo lst (clipE lo hi m)) (h1 : x.lo = m) (h2 : x.lo < x.hi) (h3 : ∀ p, x.lo ≤ p → p < x.hi → f p = x.tag) (hle : lo ≤ hi) :
    Gs.Can f lo (joinL lst ⟨max lo x.lo, min hi x.hi, x.tag⟩) (clipE lo hi x.hi) := by
  by_cases hx : min hi x.hi ≤ max lo x.lo
  · have e : joinL lst ⟨max lo x.lo, min hi x.hi, x.tag⟩ = lst := by unfold joinL; rw [if_pos hx]
    rw [e]
    have e2 : clipE lo hi x.hi = clipE lo hi m := by unfold clipE; omega
    rw [e2]
    exact h
  · have := join_can (x := ⟨max lo x.lo, min hi x.hi, x.tag⟩) h (by show max lo x.lo = clipE lo hi m; unfold clipE; omega) (by show clipE lo hi m ≤ min hi x.hi; unfold clipE; omega) (fun p p1 p2 => by
      have p1 : max lo x.lo ≤ p := p1
      have p2 : p < min hi x.hi := p2
      exact h3 p (by omega) (by omega))
    have e2 : clipE lo hi x.hi = min hi x.hi := by unfold clipE; omega
    rw [e2]
    exact this
/-- a list has room for what it holds -/
def Roomed (v : Value) (n : Nat) : Prop := ∃ a c, v = .slice a n c ∧ n ≤ c
theorem Roomed.of_row {W : World} {base : Nat} {e : TypeId} {size : Nat} {v : Value} {n : Nat} {xs : List Value} (h : W.ownsRow base e size v n xs) : Roomed v n := by
  rcases h.2 with ⟨rfl, rfl⟩ | ⟨g, cap, cur, rfl, _, _, h, _⟩
  · exact ⟨none, 0, rfl, Nat.le_refl _⟩
  · exact ⟨_, cap, rfl, h⟩
set_option maxRecDepth 100000 in
set_option maxHeartbeats 2000000 in
/-- the document's Runs, of a usable map and a valid range -/
theorem RRuns_ok {f : Int → Int} {size lo hi : Int} {base : Nat} {v : Value} {L : List R} {W : World} (hrs : IsRs base W v L) (hL : Gs.Can f 0 L size) (hne : 0 < L.length) (hlen : L.length ≤ 4096) (h1 : 0 ≤ lo) (h2 : lo ≤ hi) (h3 : hi ≤ size) :
    Calls Try.prog 21 #[.agg #[.int .i64 size, v], .int .i64 lo, .int .i64 hi] W fun e w' => ∃ v', e = .returned (.tuple #[v', .int .i64 0]) ∧ Hid (IsRs W.heap.size w' v' (clip lo hi L) ∧ Roomed v' (clip lo hi L).length) ∧ Below W.heap.size W w' := by
  have HRS := Lib.hid hrs
  obtain ⟨a, c, rfl, -⟩ := hrs
  obtain ⟨n, hn⟩ : ∃ n, n = L.length := ⟨_, rfl⟩
  rw [← hn] at HRS hne ⊢
  have hnb : n ≤ 4096 := by omega
  have HN := Lib.hid hn
  obtain ⟨w0, HW⟩ : ∃ w0, w0 = W.alloc (.cells #[.int .i64 size, .slice a n c] 33) := ⟨_, rfl⟩
  have hm : M2 W.heap.size (.int .i64 size) (.slice a n c) w0 := by rw [HW]; exact M2.new _ _ _ _
  have hb : Below W.heap.size W w0 := by rw [HW]; exact (Below.refl _ _).alloc (Nat.le_refl _) _
  have HUS : Hid (∀ W', Calls Try.prog 42 #[.agg #[.int .i64 size, .slice a n c]] W' fun e w' => e = .returned (.bool true) ∧ Below W'.heap.size W' w') := fun W' => by
    have := RUsable_any size a n c W'
    rwa [decide_eq_true hne] at this
  have HVA : Hid (∀ W', Calls Try.prog 48 #[.agg #[.int .i64 size, .slice a n c], .int .i64 lo, .int .i64 hi] W' fun e w' => e = .returned (.bool true) ∧ Below W'.heap.size W' w') := fun W' => by
    have := Rvalid_any size lo hi (.slice a n c) W'
    rwa [decide_eq_true (p := 0 ≤ lo ∧ lo ≤ hi ∧ hi ≤ size) ⟨h1, h2, h3⟩] at this
  have HJN : Hid (∀ (B0 : Nat) (u : Value) (l : List R) (x : R) (W' : World), rowR W' B0 u l → B0 ≤ W'.heap.size → l.length ≤ 100000 → Calls Try.prog 49 #[u, .agg #[.int .i64 x.lo, .int .i64 x.hi, .int .i64 x.tag]] W' fun e w' => ∃ v', e = .returned v' ∧ Hid (JP W' B0 u (joinL l x) v' w')) := fun B0 u l x W' h hb hl => Join_any x h hb hl
  have HM := Lib.hid hm; have HB := Lib.hid hb; have HW' := Lib.hid HW; have HL := Lib.hid hL
  have HLH : Hid (0 ≤ lo ∧ lo ≤ hi ∧ hi ≤ size) := ⟨h1, h2, h3⟩
  have k0 := HM.out.c0; have k1 := HM.out.c1
  clear hm hb HW hL hn hlen h1 h2 h3
  go_enter Try.func21, Try.ntmps21
  go_upto_region 1 with fail
  rw [← HW'.out]
  go_wp2_with fail
  refine (HUS.out _).mono ?_
  rintro e w1 ⟨rfl, hb⟩
  have HM1 := Lib.hid (HM.out.next hb)
  have HB1 := Lib.hid (HB.out.trans (hb.mono HB.out.size))
  clear hb k0 k1
  have k0 := HM1.out.c0; have k1 := HM1.out.c1
  go_wp2_with fail
  refine (HVA.out _).mono ?_
  rintro e w2 ⟨rfl, hb⟩
  have HM2 := Lib.hid (HM1.out.next hb)
  have HB2 := Lib.hid (HB1.out.trans (hb.mono HB1.out.size))
  clear hb k0 k1
  go_wp2_with fail
  go_loopw [8, 9] (fun ov iv wr => ∃ (j : Nat) (m : Int) (lst : List R), j ≤ n ∧ iv = .int .i64 j ∧ Hid (rowR wr w2.heap.size ov lst ∧ Gs.Can f lo lst (clipE lo hi m) ∧ lst.length ≤ j) ∧ Hid (Gs.Can f m (L.drop j) size ∧ 0 ≤ m) ∧ Hid (Below w2.heap.size w2 wr)) (fun _ i _ => n - (intOf i).toNat)
  case atStart => exact ⟨0, 0, [], by omega, rfl, ⟨World.ownsRow_nil _ _ _ _, by rw [show clipE lo hi 0 = lo by have := HLH.out; unfold clipE; omega]; exact Gs.Can.nil _ _, Nat.le_refl _⟩, ⟨HL.out, Int.le_refl _⟩, Below.refl _ _⟩
  case round =>
    obtain ⟨j, m, lst, hj, rfl, HROW, HCJ, HBr⟩ := hrel
    have hm := HM2.out.next HBr.out
    have k0 := hm.c0; have k1 := hm.c1
    clear hm
    by_cases hlt : j < n
    · have hj2 : (j : Int) < n := by omega
      have hjl : j < L.length := by rw [← HN.out]; exact hlt
      obtain ⟨G, rfl, c0, c1, c2⟩ := (HRS.out.below (HB2.out.trans (HBr.out.mono HB2.out.size))).at' hjl
      have hdr : L.drop j = L[j] :: L.drop (j + 1) := List.drop_eq_getElem_cons hjl
      have hcan := HCJ.out.1
      rw [hdr] at hcan
      obtain ⟨⟨xlo, xhi, xtag⟩, hx⟩ : ∃ x, x = L[j] := ⟨_, rfl⟩
      rw [← hx] at hcan c0 c1 c2
      simp only at c0 c1 c2
      obtain ⟨e1, e2, e3, e4⟩ := hcan.1
      simp only at e1 e2 e3 e4
      subst e1
      have HCAN2 : Hid (Gs.Can f xhi (L.drop (j + 1)) size ∧ 0 ≤ xhi) := ⟨⟨e4, hcan.2.tail⟩, by have := HCJ.out.2; omega⟩
      obtain ⟨A, hA⟩ : ∃ A, A = max lo xlo := ⟨_, rfl⟩
      obtain ⟨B, hB⟩ : ∃ B, B = min hi xhi := ⟨_, rfl⟩
      have HST : Hid (Gs.Can f lo (joinL lst ⟨A, B, xtag⟩) (clipE lo hi xhi)) := by rw [hA, hB]; exact clip_step (x := ⟨xlo, xhi, xtag⟩) HROW.out.2.1 rfl e2 e3 HLH.out.2.1
      have HLN : Hid ((joinL lst ⟨A, B, xtag⟩).length ≤ j + 1) := Nat.le_trans (joinL_len _ _) (by have := HROW.out.2.2; omega)
      obtain ⟨wx, HWX⟩ : ∃ wx, wx = wr.alloc (.cells #[.int .i64 xlo, .int .i64 xhi, .int .i64 xtag] 64) := ⟨_, rfl⟩
      have bx : Below wr.heap.size wr wx := by rw [HWX]; exact (Below.refl _ _).alloc (Nat.le_refl _) _
      have HRB : Hid (Rb wx wr.heap.size ⟨xlo, xhi, xtag⟩) := by rw [HWX]; exact Rb.new wr ⟨xlo, xhi, xtag⟩
      have HROWX : Hid (rowR wx w2.heap.size u8 lst) := by rw [HWX]; exact HROW.out.1.alloc _
      have HBx := Lib.hid (HBr.out.trans (bx.mono HBr.out.size))
      have HJ1 := Lib.hid (HJN.out w2.heap.size u8 lst ⟨A, B, xtag⟩ wx HROWX.out HBx.out.size (by have := HROW.out.2.2; omega))
      obtain ⟨r0, r1, r2⟩ := HRB.out.cells
      simp only at r0 r1 r2
      have HWX' := Lib.hid HWX
      have hmx : (if lo < xlo then xlo else lo) = A := by rw [hA]; split <;> omega
      have hmn : (if xhi < hi then xhi else hi) = B := by rw [hB]; split <;> omega
      have hmx2 : max lo xlo = A := hA.symm
      have hmn2 : min hi xhi = B := hB.symm
      have hmn3 : (if hi < xhi then hi else xhi) = B := by rw [hB]; split <;> omega
      clear hdr hcan hx e2 e3 e4 HWX bx hA hB
      go_upto_region 10 with fail
      rw [← HWX'.out]
      go_wp2_with fail
      refine HJ1.out.mono ?_
      rintro e y1 ⟨v1, rfl, HP1⟩
      have HF3 := Lib.hid HP1.out.own
      have HB3' := Lib.hid (HBx.out.trans HP1.out.bel)
      go_wp2_with fail
      go_roundw
      case rel => exact ⟨j + 1, xhi, _, by omega, by go_num, ⟨HF3.out, HST.out, HLN.out⟩, HCAN2.out, HB3'.out⟩
      case measure => simp [intOf]; omega
    · have hlt3 : ¬ (j : Int) < n := by omega
      have hjn : j = n := by omega
      have hdr : L.drop j = [] := List.drop_eq_nil_of_le (by have := HN.out; omega)
      have hms : m = size := by have := HCJ.out.1.1; rw [hdr] at this; exact this
      have HC9 : Hid (lst = clip lo hi L) := by
        have h1 := HROW.out.2.1
        rw [hms, show clipE lo hi size = hi by have := HLH.out; unfold clipE; omega] at h1
        exact h1.same (clip_can HL.out HLH.out.1 HLH.out.2.1 HLH.out.2.2)
      have HI9 : Hid (IsRs W.heap.size wr u8 (clip lo hi L) ∧ Roomed u8 (clip lo hi L).length) := by rw [← HC9.out]; exact ⟨(IsRs.of_row HROW.out.1).mono HB2.out.size, Roomed.of_row HROW.out.1⟩
      have HB9 := Lib.hid (HB2.out.trans (HBr.out.mono HB2.out.size))
      clear hdr hms hjn
      go_wp2_with fail
      refine bodyPost_ret (v := .tuple #[u8, .int .i64 0]) (by simp [results, Try.results21, go_sem]) rfl ?_
      exact ⟨u8, rfl, HI9, HB9.out⟩
/-- of an unusable map -/
theorem RRuns_un (lo hi : Int) (W : World) : Calls Try.prog 21 #[.agg #[.int .i64 0, .slice none 0 0], .int .i64 lo, .int .i64 hi] W fun e w' => e = .returned (.tuple #[.slice none 0 0, .int .i64 1]) ∧ Below W.heap.size W w' := by
  obtain ⟨w0, HW⟩ : ∃ w0, w0 = W.alloc (.cells #[.int .i64 0, .slice none 0 0] 33) := ⟨_, rfl⟩
  have hb : Below W.heap.size W w0 := by rw [HW]; exact (Below.refl _ _).alloc (Nat.le_refl _) _
  have hm : M2 W.heap.size (.int .i64 0) (.slice none 0 0) w0 := by rw [HW]; exact M2.new _ _ _ _
  have HUS : Hid (∀ W', Calls Try.prog 42 #[.agg #[.int .i64 0, .slice none 0 0]] W' fun e w' => e = .returned (.bool false) ∧ Below W'.heap.size W' w') := fun W' => RUsable_any 0 none 0 0 W'
  have HB := Lib.hid hb; have HW' := Lib.hid HW
  have k0 := hm.c0; have k1 := hm.c1
  clear hm hb HW
  go_enter Try.func21, Try.ntmps21
  go_upto_region 1 with fail
  rw [← HW'.out]
  go_wp2_with fail
  refine (HUS.out _).mono ?_
  rintro e w1 ⟨rfl, hb⟩
  have HB1 := Lib.hid (HB.out.trans (hb.mono HB.out.size))
  clear hb k0 k1
  go_wp2_with fail
  refine bodyPost_ret (v := .tuple #[.slice none 0 0, .int .i64 1]) (by simp [results, Try.results21, go_sem]) rfl ?_
  exact ⟨rfl, HB1.out⟩
/-- of a range that is not valid -/
theorem RRuns_range (size lo hi : Int) (a : Option Addr) (n c : Nat) (W : World) (hn : 0 < n) (hv : ¬ (0 ≤ lo ∧ lo ≤ hi ∧ hi ≤ size)) : Calls Try.prog 21 #[.agg #[.int .i64 size, .slice a n c], .int .i64 lo, .int .i64 hi] W fun e w' => e = .returned (.tuple #[.slice none 0 0, .int .i64 3]) ∧ Below W.heap.size W w' := by
  obtain ⟨w0, HW⟩ : ∃ w0, w0 = W.alloc (.cells #[.int .i64 size, .slice a n c] 33) := ⟨_, rfl⟩
  have hb : Below W.heap.size W w0 := by rw [HW]; exact (Below.refl _ _).alloc (Nat.le_refl _) _
  have hm : M2 W.heap.size (.int .i64 size) (.slice a n c) w0 := by rw [HW]; exact M2.new _ _ _ _
  have HUS : Hid (∀ W', Calls Try.prog 42 #[.agg #[.int .i64 size, .slice a n c]] W' fun e w' => e = .returned (.bool true) ∧ Below W'.heap.size W' w') := fun W' => by
    have := RUsable_any size a n c W'
    rwa [decide_eq_true hn] at this
  have HVA : Hid (∀ W', Calls Try.prog 48 #[.agg #[.int .i64 size, .slice a n c], .int .i64 lo, .int .i64 hi] W' fun e w' => e = .returned (.bool false) ∧ Below W'.heap.size W' w') := fun W' => by
    have := Rvalid_any size lo hi (.slice a n c) W'
    rwa [decide_eq_false hv] at this
  have HB := Lib.hid hb; have HW' := Lib.hid HW; have HM := Lib.hid hm
  have k0 := hm.c0; have k1 := hm.c1
  clear hm hb HW
  go_enter Try.func21, Try.ntmps21
  go_upto_region 1 with fail
  rw [← HW'.out]
  go_wp2_with fail
  refine (HUS.out _).mono ?_
  rintro e w1 ⟨rfl, hb⟩
  have HB1 := Lib.hid (HB.out.trans (hb.mono HB.out.size))
  have HM1 := Lib.hid (HM.out.next hb)
  clear hb k0 k1
  have k0 := HM1.out.c0; have k1 := HM1.out.c1
  go_wp2_with fail
  refine (HVA.out _).mono ?_
  rintro e w2 ⟨rfl, hb⟩
  have HB2 := Lib.hid (HB1.out.trans (hb.mono HB1.out.size))
  clear hb k0 k1
  go_wp2_with fail
  refine bodyPost_ret (v := .tuple #[.slice none 0 0, .int .i64 3]) (by simp [results, Try.results21, go_sem]) rfl ?_
  exact ⟨rfl, HB2.out⟩
end Go.Proofs.Ytahgfggcpmnnaaa
