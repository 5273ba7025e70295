/- A row of numbers of the call's own (each element a slice of digits): in all its room there is no digit, so that it is apart from every number. -/
import Derived.Test.YtcmancfdlfhgbaaDoorId
import Derived.ArgAppend
namespace Go.Proofs.YtcmancfdlfhgbaaDoor
open Go Go.RowKit Gu

/-- a row of one-cell values of the call's own; no cell of its room is an int -/
def OwnZ (w : World) (base : Nat) (e : TypeId) (v : Value) (xs : List Value) : Prop :=
  ∃ g cap cur, v = .slice (some ⟨g, 0, none⟩) xs.length cap ∧ base ≤ g ∧ w.heap[g]? = some (.cells cur e (0, 0)) ∧ xs.length ≤ cap ∧ cap ≤ maxLen ∧ cur.size = cap ∧ cur.toList.take xs.length = xs ∧ ∀ u ∈ cur.toList, ∀ k d, u ≠ .int k d
theorem OwnZ.one (w : World) {base : Nat} (hb : base ≤ w.heap.size) (e : TypeId) {u : Value} (hu : ∀ k d, u ≠ .int k d) : OwnZ (w.alloc (.cells #[u] e)) base e (.slice (some ⟨w.heap.size, 0, none⟩) 1 1) [u] :=
  ⟨w.heap.size, 1, #[u], rfl, hb, heap_alloc_new w _, Nat.le_refl _, by decide, rfl, rfl, by simpa using hu⟩
theorem OwnZ.next {w w' : World} {base : Nat} {e : TypeId} {v : Value} {xs : List Value} (h : OwnZ w base e v xs) (hb : Below w.heap.size w w') : OwnZ w' base e v xs := by
  obtain ⟨g, cap, cur, h1, h2, h3, h4⟩ := h
  exact ⟨g, cap, cur, h1, h2, (hb.block g (Array.getElem?_eq_some_iff.1 h3).1).trans h3, h4⟩
theorem OwnZ.shape {w : World} {base : Nat} {e : TypeId} {v : Value} {xs : List Value} (h : OwnZ w base e v xs) : ∃ g cap, v = .slice (some ⟨g, 0, none⟩) xs.length cap := by
  obtain ⟨g, cap, cur, h1, _⟩ := h
  exact ⟨g, cap, h1⟩
theorem OwnZ.cell {w : World} {base g n cap : Nat} {e : TypeId} {xs : List Value} (h : OwnZ w base e (.slice (some ⟨g, 0, none⟩) n cap) xs) {i : Nat} (hi : i < xs.length) : w.cell? ⟨g, i, none⟩ = some xs[i] := by
  obtain ⟨g', cap', cur, h1, h2, h3, h4, h5, h6, h7, h8⟩ := h
  injection h1 with e1 e2 e3
  injection e1 with e1
  injection e1 with e1
  subst e1
  have : cur[i]? = some xs[i] := by
    have h9 : (cur.toList.take xs.length)[i]? = xs[i]? := by rw [h7]
    rw [List.getElem?_take_of_lt hi, List.getElem?_eq_getElem hi] at h9
    simpa using h9
  simp [World.cell?, h3, this]
theorem OwnZ.apart {w : World} {base g n cap : Nat} {e : TypeId} {xs : List Value} (h : OwnZ w base e (.slice (some ⟨g, 0, none⟩) n cap) xs) {b o : Nat} {k : IntKind} {d : Int} (hc : w.cell? ⟨b, o, none⟩ = some (.int k d)) : b ≠ g := by
  obtain ⟨g', cap', cur, h1, h2, h3, h4, h5, h6, h7, h8⟩ := h
  injection h1 with e1 e2 e3
  injection e1 with e1
  injection e1 with e1
  subst e1
  intro e
  subst e
  simp [World.cell?, h3] at hc
  exact h8 _ (Array.mem_toList_iff.2 (Array.mem_of_getElem? hc)) k d rfl
theorem OwnZ.far {w : World} {base g n cap B : Nat} {e : TypeId} {xs : List Value} (h : OwnZ w base e (.slice (some ⟨g, 0, none⟩) n cap) xs) (hne : B ≠ g) (u : Value) : OwnZ (w.setCell ⟨B, 0, none⟩ u) base e (.slice (some ⟨g, 0, none⟩) n cap) xs := by
  obtain ⟨g', cap', cur, h1, h2, h3, h4⟩ := h
  have h1' := h1
  injection h1 with e1 e2 e3
  injection e1 with e1
  injection e1 with e1
  subst e1
  exact ⟨g, cap', cur, h1', h2, (Below.heap_setCell _ _ _ g (Ne.symm hne)).trans h3, h4⟩
/-- the row's growth keeps every number -/
theorem D.keep {w w' : World} {base g n cap : Nat} {e : TypeId} {xs : List Value} (h : OwnZ w base e (.slice (some ⟨g, 0, none⟩) n cap) xs) (hg : w.grownBy w' (some g)) {u : Value} {a : Nat} (hd : D w u a) : D w' u a := by
  refine IsN.grown hd hg fun b o c l hv hn => ?_
  rcases hd with ⟨h0, _⟩ | ⟨h0, b', o', cap', hv', hc⟩
  · omega
  · rw [hv] at hv'
    injection hv' with e1 e2 e3
    injection e1 with e1
    injection e1 with e1 e4
    subst e1; subst e4
    have hnd : 0 < nd 4294967296 a := by
      rcases Nat.eq_zero_or_pos (nd 4294967296 a) with h | h
      · have := nd_lt (by decide : 2 ≤ 4294967296) a
        rw [h] at this
        simp at this
        omega
      · exact h
    exact h.apart (hc 0 hnd)
theorem Nx.keep {w w' : World} {base g n cap : Nat} {e : TypeId} {xs : List Value} (_h : OwnZ w base e (.slice (some ⟨g, 0, none⟩) n cap) xs) (hg : w.grownBy w' (some g)) {B : Nat} {v : Value} (hb : Nx B v w) (hne : B ≠ g) : Nx B v w' :=
  ⟨hg.cell hb.c0 (by simpa using hne), (World.frozen?_of_block (hg.block B hb.lt (by simpa using hne))).trans hb.f0, Nat.lt_of_lt_of_le hb.lt hg.size⟩
theorem zeroCells_slice (n : Nat) : ∀ u ∈ (Builtin.zeroCells #[.slice none 0 0] n).toList, ∀ k d, u ≠ .int k d := by
  intro u hu k d
  simp only [Builtin.zeroCells, Array.toList_map, List.mem_map] at hu
  obtain ⟨i, _, rfl⟩ := hu
  have : i % (#[Value.slice none 0 0] : Array Value).size = 0 := by simp [Nat.mod_one]
  rw [this]
  simp
/-- an append of one element to such a row -/
theorem wp_append_z {w : World} {o : Oper} {a : Go.Act} {K : Go.Act → World → Prop} {Q : Exit → Go.Act → World → Prop} (s x : Operand) (t : TypeId)
    (ho : o.op = .call { callee := .builtin .append, args := #[s, x], argTypes := #[t, t] }) {base : Nat} {e : TypeId} {i : TypeInfo} (ht : Tryd.prog.underlying t = some (.slice e)) (hi : Tryd.prog.info? e = some i) (hz : i.zero = some (.agg #[.slice none 0 0])) (hsz : i.size = 1) (hby : i.bytes ≤ 1000)
    {v u : Value} {xs : List Value} (hs : a.eval s = v) (hown : OwnZ w base e v xs) {ad : Addr} {c : Nat} (hx : a.eval x = .slice (some ad) 1 c) (hu : w.cell? ad = some u) (h1 : u.oneCell' = true) (hq : ∀ k d, u ≠ .int k d) (hlen : xs.length ≤ 1000000) (hb : base ≤ w.heap.size)
    (h : ∀ v' w5, OwnZ w5 base e v' (xs ++ [u]) → (∃ g n cap g' n' cap', v = .slice (some ⟨g, 0, none⟩) n cap ∧ v' = .slice (some ⟨g', 0, none⟩) n' cap' ∧ (g' = g ∨ g' = w.heap.size) ∧ w.grownBy w5 (some g)) → K (a.put o.dst v') w5) : o.wp Tryd.prog a w K Q := by
  have hnews : ∀ j y, [u][j]? = some y → w.cell? (ad.add j) = some y := by
    intro j y hj
    have : j = 0 := by
      have := (List.getElem?_eq_some_iff.1 hj).1
      simp at this; exact this
    subst this
    simp at hj
    subst hj
    rw [show ad.add 0 = ad by simp [Addr.add]]
    exact hu
  obtain ⟨g, cap, cur, rfl, hg, hh, hc, hm, hcs, htk, hno⟩ := hown
  have hcell : ∀ j y, cur.toList[j]? = some y → w.cell? ⟨g, j, none⟩ = some y := fun j y hj => by
    simp [World.cell?, hh]
    simpa using hj
  by_cases hr : xs.length + 1 ≤ cap
  · have hrun := run_append_room_cells (P := Tryd.prog) w t o.type e i ht hi g 0 xs.length cap ad 1 c [u] (by rw [hsz]; rfl) hnews (by simpa using h1) hr (fun j hj => by
        have : j = 0 := by simpa using hj
        subst this
        rw [hsz, Nat.zero_add, Nat.mul_one, Nat.add_zero]
        have hlt : xs.length < cur.toList.length := by simp [hcs]; omega
        rw [hcell xs.length _ (List.getElem?_eq_getElem hlt)]
        rfl) (fun j hj => by simp [World.frozen?, hh])
    rw [hsz, Nat.mul_one, Nat.zero_add] at hrun
    unfold Oper.wp execOp
    simp only [ho, resolve, invoke, builtin, Sem.run_bind, Sem.run_pure, Result.andThen_ok, List.map_toArray, List.map_cons, List.map_nil, hs, hx, hrun]
    refine h _ _ ?_ ⟨g, _, _, g, _, _, rfl, rfl, .inl rfl, ?_⟩
    · refine ⟨g, cap, cur.setIfInBounds xs.length u, by simp, hg, ?_, by simpa using hr, hm, by simpa using hcs, ?_, ?_⟩
      · show (w.setCell ⟨g, xs.length, none⟩ u).heap[g]? = _
        simp [World.setCell, Array.getElem?_modify, hh]
      · have hlt : xs.length < cur.toList.length := by simp [hcs]; omega
        rw [Array.toList_setIfInBounds, List.length_append, List.length_singleton, List.take_add_one, List.getElem?_set_self hlt, List.take_set_of_le (Nat.le_refl _), htk]
        rfl
      · intro y hy
        rw [Array.toList_setIfInBounds] at hy
        rcases List.mem_or_eq_of_mem_set hy with hy | rfl
        · exact hno y hy
        · exact hq
    · exact grownBy_setCell w g xs.length u
  · have hrun := run_append_grow (P := Tryd.prog) w t o.type e i _ ht hi hz ⟨g, 0, none⟩ xs.length cap xs (by rw [hsz, Nat.mul_one]) (fun j y hj => by
        rw [Addr.add_lit, Nat.zero_add]
        refine hcell j y ?_
        have hlt := (List.getElem?_eq_some_iff.1 hj).1
        have hj' : (cur.toList.take xs.length)[j]? = some y := by rw [htk]; exact hj
        rw [List.getElem?_take_of_lt hlt] at hj'
        exact hj') ad 1 c [u] (by rw [hsz]; rfl) hnews (by omega) (by omega) (growslice_fits (by omega) (Nat.le_trans (Nat.mul_le_mul (show xs.length + 1 ≤ 1000001 by omega) hby) (by decide)))
    unfold Oper.wp execOp
    simp only [ho, resolve, invoke, builtin, Sem.run_bind, Sem.run_pure, Result.andThen_ok, List.map_toArray, List.map_cons, List.map_nil, hs, hx, hrun]
    have hge := grownCap_ge w (xs.length + 1) cap e
    have hle := grownCap_le_maxLen w (xs.length + 1) cap e (by simp only [maxLen]; omega)
    refine h _ _ ?_ ⟨g, _, _, _, _, _, rfl, rfl, .inr rfl, ⟨rfl, rfl, rfl, by simp, fun k hk _ => heap_alloc_old w.drew _ hk⟩⟩
    refine ⟨w.heap.size, _, _, by rw [List.length_append, List.length_singleton], hb, heap_alloc_new w.drew _, by rw [List.length_append, List.length_singleton]; exact hge, hle, ?_, ?_, ?_⟩
    · simp only [Array.size_append, List.size_toArray, size_zeroCells, List.length_singleton, Value.cells]
      simp
      omega
    · simp only [Array.toList_append]
      exact List.take_left
    · intro y hy
      simp only [Array.toList_append, List.mem_append] at hy
      rcases hy with (hy | hy) | hy
      · exact hno y (List.mem_of_mem_take (i := xs.length) (by rw [htk]; exact hy))
      · have : y = u := by simpa using hy
        subst this
        exact hq
      · exact zeroCells_slice _ y hy
end Go.Proofs.YtcmancfdlfhgbaaDoor
