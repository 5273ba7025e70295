/- The contracts of more and built: a map after some updates. -/
import Derived.Test.YtahgfggcpmnnaaaZc
import Derived.Test.YtahgfggcpmnnaaaYy
namespace Go.Proofs.Ytahgfggcpmnnaaa
open Go Go.RowKit Gs

structure Act where
  sw : Bool
  lo : Int
  hi : Int
  fr : Int
  tt : Int
/-- a list of updates lies at a slice -/
def IsAs (W : World) (v : Value) (l : List Act) : Prop :=
  ∃ ao c, v = .slice ao l.length c ∧ (0 < l.length → ∃ B o, ao = some ⟨B, o, none⟩ ∧ B < W.heap.size ∧ ∀ j (h : j < l.length),
    W.cell? ⟨B, o + j * 5, none⟩ = some (.bool l[j].sw) ∧ W.cell? ⟨B, o + j * 5 + 1, none⟩ = some (.int .i64 l[j].lo) ∧ W.cell? ⟨B, o + j * 5 + 2, none⟩ = some (.int .i64 l[j].hi) ∧ W.cell? ⟨B, o + j * 5 + 3, none⟩ = some (.int .i64 l[j].fr) ∧ W.cell? ⟨B, o + j * 5 + 4, none⟩ = some (.int .i64 l[j].tt))
theorem IsAs.below {W W' : World} {v : Value} {l : List Act} (h : IsAs W v l) (hb : Below W.heap.size W W') : IsAs W' v l := by
  obtain ⟨ao, c, hv, h⟩ := h
  refine ⟨ao, c, hv, fun hp => ?_⟩
  obtain ⟨B, o, e, hB, hc⟩ := h hp
  refine ⟨B, o, e, Nat.lt_of_lt_of_le hB hb.size, fun j hj => ?_⟩
  obtain ⟨h0, h1, h2, h3, h4⟩ := hc j hj
  exact ⟨(hb.cell (p := ⟨B, _, none⟩) hB).trans h0, (hb.cell (p := ⟨B, _, none⟩) hB).trans h1, (hb.cell (p := ⟨B, _, none⟩) hB).trans h2, (hb.cell (p := ⟨B, _, none⟩) hB).trans h3, (hb.cell (p := ⟨B, _, none⟩) hB).trans h4⟩
/-- what an update makes of the function, where nothing is refused -/
def actF (a : Act) (f : Int → Int) : Int → Int := if a.sw then swr f a.lo a.hi a.fr.toNat a.tt.toNat else put f a.lo a.hi a.tt
def actE (size : Int) (a : Act) : Int := errOf size a.lo a.hi (if a.sw then [a.fr, a.tt] else [a.tt])
/-- one update: it has its effect, or is refused -/
def One (size : Int) (f : Int → Int) (a : Act) (f' : Int → Int) : Prop :=
  (f' = actF a f ∧ actE size a = 0 ∧ ∃ L, Gs.Can f' 0 L size ∧ L.length ≤ 4096) ∨ (f' = f ∧ (actE size a ≠ 0 ∨ ∃ L, Gs.Can (actF a f) 0 L size ∧ 4096 < L.length))
/-- several updates -/
inductive Mo (size : Int) (f : Int → Int) : List Act → (Int → Int) → Prop
  | nil : Mo size f [] f
  | snoc {l : List Act} {a : Act} {f1 f2 : Int → Int} : Mo size f l f1 → One size f1 a f2 → Mo size f (l ++ [a]) f2
theorem IsM.can {f : Int → Int} {size : Int} {W : World} {p : Option Addr} (h : IsM f size W p) : ∃ L, Gs.Can f 0 L size ∧ L.length ≤ 4096 := by
  obtain ⟨t, _, h2, h3⟩ := h.tr
  exact ⟨t.L, h2, by rw [← T.sz_eq]; exact h3⟩
theorem one_of {size : Int} {f : Int → Int} {a : Act} {q p : Option Addr} {s e : Int} {W : World} (h : Upd f (actF a f) size (actE size a) q s e W) (hp : IsM f size W p) :
    (e = 0 ∧ s = size ∧ IsM (actF a f) size W q ∧ One size f a (actF a f)) ∨ ((e == 0) = false ∧ One size f a f) := by
  rcases h with ⟨h1, rfl, _, _⟩ | ⟨_, rfl, _, _, L, hL, hl⟩ | ⟨h1, rfl, rfl, h2⟩
  · exact .inr ⟨beq_eq_false_iff_ne.2 h1, .inr ⟨rfl, .inl h1⟩⟩
  · exact .inr ⟨by decide, .inr ⟨rfl, .inr ⟨L, hL, hl⟩⟩⟩
  · exact .inl ⟨rfl, rfl, h2, .inl ⟨rfl, h1, h2.can⟩⟩
/-- the second box of a call may be read too: what Swap and Set answer an act -/
def ActOf (size : Int) (f : Int → Int) (a : Act) (q : Option Addr) (s e : Int) (W : World) : Prop := Upd f (actF a f) size (actE size a) q s e W

end Go.Proofs.Ytahgfggcpmnnaaa
