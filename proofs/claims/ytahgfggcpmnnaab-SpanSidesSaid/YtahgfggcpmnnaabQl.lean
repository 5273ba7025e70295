/- The contract of the law's played: both maps after some updates. -/
import Derived.Test.YtahgfggcpmnnaabQk
import Derived.Test.YtahgfggcpmnnaabQi
import Derived.Laws.OwnMore
namespace Go.Proofs.Ytahgfggcpmnnaab
open Go Go.RowKit Gs

/-- a store at a block whose second cell is a list, or whose first one is a pointer -/
theorem IsRs.apart {base : Nat} {W : World} {v : Value} {l : List R} (h : IsRs base W v l) {X i : Nat} {u : Value} (hX : (∀ x, W.cell? ⟨X, 0, none⟩ ≠ some (.int .i64 x)) ∨ (∀ x, W.cell? ⟨X, 1, none⟩ ≠ some (.int .i64 x))) : IsRs base (W.setCell ⟨X, i, none⟩ u) v l := by
  obtain ⟨ao, c, hv, h⟩ := h
  refine ⟨ao, c, hv, fun hl => ?_⟩
  obtain ⟨B, e, hB, hc⟩ := h hl
  have hne : B ≠ X := fun e => by
    subst e
    obtain ⟨h0, h1, _⟩ := hc 0 hl
    rcases hX with h | h
    · exact h _ h0
    · exact h _ h1
  refine ⟨B, e, ⟨hB.1, by rw [World.size_setCell]; exact hB.2⟩, fun j hj => ?_⟩
  obtain ⟨h0, h1, h2⟩ := hc j hj
  have o : ∀ k, (⟨X, i, none⟩ : Addr) ≠ ⟨B, k, none⟩ := fun k e => hne (by injection e with e; exact e.symm)
  exact ⟨(World.cell?_setCell_other _ _ _ _ (o _)).trans h0, (World.cell?_setCell_other _ _ _ _ (o _)).trans h1, (World.cell?_setCell_other _ _ _ _ (o _)).trans h2⟩
theorem Dual.apart {base : Nat} {W : World} {p : Option Addr} {size s : Int} {v : Value} (h : Dual base W p size s v) {X i : Nat} {u : Value} (h22 : W.cell? ⟨X, 22, none⟩ = none) (hX : (∀ x, W.cell? ⟨X, 0, none⟩ ≠ some (.int .i64 x)) ∨ (∀ x, W.cell? ⟨X, 1, none⟩ ≠ some (.int .i64 x))) : Dual base (W.setCell ⟨X, i, none⟩ u) p size s v := by
  rcases h with h | ⟨f, L, h1, h2, h3, h4⟩
  · exact .inl h
  · exact .inr ⟨f, L, ⟨h1.lo, h1.ctx, h1.tr.set h22 u⟩, h2, h3.apart hX, h4⟩
theorem Dual.setM {base : Nat} {W : World} {p : Option Addr} {size s : Int} {v : Value} (h : Dual base W p size s v) {X : Nat} {q : Option Addr} {y : Value} (hb : Bx X [.pointer q, y] W) (q2 : Option Addr) (u : Value) : Dual base ((W.setCell ⟨X, 0, none⟩ (.pointer q2)).setCell ⟨X, 1, none⟩ u) p size s v :=
  (h.apart hb.c22 (.inl fun x e => by rw [hb.c2.1] at e; cases e)).apart (hb.put (i := 0) (by simp) (by decide) (.pointer q2)).c22 (.inl fun x e => by rw [((hb.put (i := 0) (by simp) (by decide) (.pointer q2)).c 0 _ rfl).1] at e; cases e)
theorem Dual.setR {base : Nat} {W : World} {p : Option Addr} {size s : Int} {v : Value} (h : Dual base W p size s v) {X : Nat} {x : Value} {a : Option Addr} {n c : Nat} (hb : Bx X [x, .slice a n c] W) (u1 u2 : Value) : Dual base ((W.setCell ⟨X, 0, none⟩ u1).setCell ⟨X, 1, none⟩ u2) p size s v :=
  (h.apart hb.c22 (.inr fun x e => by rw [hb.c2.2.1] at e; cases e)).apart (hb.put (i := 0) (by simp) (by decide) u1).c22 (.inr fun x e => by rw [((hb.put (i := 0) (by simp) (by decide) u1).c 1 _ rfl).1] at e; cases e)
/-- the parts of a Dual that is usable -/
theorem Dual.open {base : Nat} {W : World} {p : Option Addr} {z s : Int} {v : Value} (h : Dual base W p z s v) : (p = none ∧ z = 0 ∧ s = 0 ∧ v = .slice none 0 0) ∨ ∃ f L, IsM f z W p ∧ Gs.Can f 0 L z ∧ IsRs base W v L ∧ s = z ∧ 0 < L.length ∧ L.length ≤ 4096 := by
  rcases h with h | ⟨f, L, h1, h2, h3, h4⟩
  · exact .inl h
  · obtain ⟨K, k1, k2⟩ := h1.can
    have e := k1.same h2
    subst e
    refine .inr ⟨f, K, h1, h2, h3, h4, ?_, k2⟩
    rcases fits_cut h2.1 with ⟨_, e⟩ | ⟨r, k, rfl⟩
    · have := h1.lo; omega
    · simp
/-- an append of nothing -/
theorem wpList_append_nil {P : Program} {w : World} {ops : Array Oper} {rest : List Oper} {o : Oper} {a : Go.Act} {Q : Exit → Go.Act → World → Prop} (hgd : o.guard = none) (s x : Operand) (t : TypeId)
    (ho : o.op = .call { callee := .builtin .append, args := #[s, x], argTypes := #[t, t] })
    (base : Nat) (e : TypeId) (i : TypeInfo) (size : Nat) (ht : P.underlying t = some (.slice e)) (hi : P.info? e = some i)
    (v : Value) (n : Nat) (xs : List Value) (hs : a.eval s = v) (hown : w.ownsRow base e size v n xs) (hx : a.eval x = .slice none 0 0)
    (h : wpList P ops Q rest (a.put o.dst v) w) : wpList P ops Q (o :: rest) a w := by
  refine wpList_plain hgd fun K hK => ?_
  have hr := run_append_owned_none (P := P) w base t o.type e i size ht hi v n xs hown
  unfold Oper.wp execOp
  simp only [ho, resolve, invoke, builtin, Sem.run_bind, Sem.run_pure, Result.andThen_ok, List.map_toArray, List.map_cons, List.map_nil, hs, hx, hr]
  exact hK _ _ h
/-- what both News answer -/
theorem new_dual {size : Int} {B : Nat} {q : Option Addr} {s e2 s' : Int} {v' : Value} {e3 : Int} {W : World} (h1 : (e2 = 0 ∧ s = size ∧ IsM (fun _ => 0) size W q) ∨ (e2 = 2 ∧ q = none ∧ s = 0 ∧ (size < 1 ∨ 1099511627776 < size))) (h2 : RNP size B s' v' e3 W) : e2 = e3 ∧ Dual B W q s s' v' := by
  rcases h1 with ⟨rfl, rfl, h1⟩ | ⟨rfl, rfl, rfl, h1⟩
  · rcases h2 with ⟨rfl, rfl, h3, h4, h5⟩ | ⟨_, _, _, h3⟩
    · exact ⟨rfl, .inr ⟨_, _, h1, Gs.Can.one (r := ⟨0, s', 0⟩) (by show 0 < s'; omega) (fun _ _ _ => rfl), h5, rfl⟩⟩
    · have := h1.lo; have := h1.hi; omega
  · rcases h2 with ⟨_, _, h3, h4, _⟩ | ⟨rfl, rfl, rfl, _⟩
    · omega
    · exact ⟨rfl, .inl ⟨rfl, rfl, rfl, rfl⟩⟩
theorem RNP.below {size : Int} {B : Nat} {s : Int} {v : Value} {e : Int} {W W' : World} (h : RNP size B s v e W) (hb : Below W.heap.size W W') : RNP size B s v e W' := by
  rcases h with ⟨h1, h2, h3, h4, h5⟩ | h
  · exact .inl ⟨h1, h2, h3, h4, h5.below hb⟩
  · exact .inr h
theorem RNP.shape {size : Int} {B : Nat} {s : Int} {v : Value} {e : Int} {W : World} (h : RNP size B s v e W) : ∃ a n c, v = .slice a n c := by
  rcases h with ⟨_, _, _, _, ⟨_, _, h, _⟩⟩ | ⟨_, _, h, _⟩
  · exact ⟨_, _, _, h⟩
  · exact ⟨_, _, _, h⟩
/-- an update of a list -/
theorem IsAs.at' {W : World} {a : Option Addr} {n c : Nat} {l : List Act} (h : IsAs W (.slice a n c) l) {j : Nat} (hj : j < l.length) :
    ∃ B o, a = some ⟨B, o, none⟩ ∧ W.cell? ⟨B, o + j * 5, none⟩ = some (.bool l[j].sw) ∧ W.cell? ⟨B, o + j * 5 + 1, none⟩ = some (.int .i64 l[j].lo) ∧ W.cell? ⟨B, o + j * 5 + 2, none⟩ = some (.int .i64 l[j].hi) ∧ W.cell? ⟨B, o + j * 5 + 3, none⟩ = some (.int .i64 l[j].fr) ∧ W.cell? ⟨B, o + j * 5 + 4, none⟩ = some (.int .i64 l[j].tt) := by
  obtain ⟨a', c', hv, hcs⟩ := h
  injection hv with hv1 hv2 hv3
  subst hv1
  obtain ⟨B, o, e1, -, hcs2⟩ := hcs (by omega)
  exact ⟨B, o, e1, hcs2 j hj⟩
theorem alloc_below (W : World) (o : Obj) : Below W.heap.size W (W.alloc o) := (Below.refl _ _).alloc (Nat.le_refl _) _

end Go.Proofs.Ytahgfggcpmnnaab
