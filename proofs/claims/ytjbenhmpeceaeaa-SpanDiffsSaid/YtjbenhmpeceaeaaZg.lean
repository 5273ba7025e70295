/- What a law over updates is given, out of its data: a list of updates, an update, a query. -/
import Derived.Test.YtjbenhmpeceaeaaZd
import Derived.Test.YtjbenhmpeceaeaaRows
import Derived.ProofKit
import Derived.OpenShut
import Derived.Carry
import Derived.Deep.Slices
import Derived.Deep.Fields
import Derived.ChangeSame
namespace Go.Proofs.Ytjbenhmpeceaeaa
open Go Go.ChangeShapes Go.WideShapes Go.ChangeAt Go.RowKit Go.Deep Gs

theorem addz (b o k : Nat) : (⟨b, o, none⟩ : Addr).add k = ⟨b, o + k, none⟩ := by
  unfold Addr.add
  split <;> simp_all
theorem own : ownKnob Try.prog.godebug = none := by kernel_rfl
theorem laidOut' : laidOutB Try.prog = true := by kernel_rfl
theorem one_int : Try.prog.cellsOf 3 = 1 := by kernel_rfl
theorem one_bool : Try.prog.cellsOf 4 = 1 := by kernel_rfl
theorem five_act : Try.prog.cellsOf 42 = 5 := by kernel_rfl
theorem six_query : Try.prog.cellsOf 45 = 6 := by kernel_rfl
section
variable {H : Type} {enc : TypeId × Value → H} {W : World} {base : Nat} {sp : Nat → Bool} {held : Bool}
theorem fld_int {cs : List Value} {n i : Nat} {xs : List (DataW H × List MemPlace)} (hi : i < xs.length) (h : DataW.trod enc Try.prog W base sp held n 3 ((cs.drop i).take (Try.prog.cellsOf 3)) = xs[i]?) : ∃ k, cs[i]? = some (.int .i64 k) := by
  rw [one_int, List.getElem?_eq_getElem hi] at h
  obtain ⟨k, e, _⟩ := DataW.trod_int Try.underlying3 h
  refine ⟨k, ?_⟩
  have h1 : ((cs.drop i).take 1)[0]? = some (.int .i64 k) := by rw [e]; rfl
  simpa [List.getElem?_take, List.getElem?_drop] using h1
theorem fld_bool {cs : List Value} {n i : Nat} {xs : List (DataW H × List MemPlace)} (hi : i < xs.length) (h : DataW.trod enc Try.prog W base sp held n 4 ((cs.drop i).take (Try.prog.cellsOf 4)) = xs[i]?) : ∃ k, cs[i]? = some (.bool k) := by
  rw [one_bool, List.getElem?_eq_getElem hi] at h
  obtain ⟨k, e, _⟩ := DataW.trod_bool Try.underlying4 h
  refine ⟨k, ?_⟩
  have h1 : ((cs.drop i).take 1)[0]? = some (.bool k) := by rw [e]; rfl
  simpa [List.getElem?_take, List.getElem?_drop] using h1
/-- the cells of an update -/
theorem act_cells {fuel : Nat} {cs : List Value} {x : DataW H × List MemPlace} (h : DataW.trod enc Try.prog W base sp held fuel 42 cs = some x) :
    ∃ a : Act, cs[0]? = some (.bool a.sw) ∧ cs[1]? = some (.int .i64 a.lo) ∧ cs[2]? = some (.int .i64 a.hi) ∧ cs[3]? = some (.int .i64 a.fr) ∧ cs[4]? = some (.int .i64 a.tt) ∧ cs.length = 5 := by
  obtain ⟨xs, n, _, _, hl, hx, hg⟩ := DataW.trod_struct Try.underlying42 h
  have hx : xs.length = 5 := hx
  obtain ⟨b0, e0⟩ := fld_bool (i := 0) (by omega) (hg 0 _ rfl)
  obtain ⟨b1, e1⟩ := fld_int (i := 1) (by omega) (hg 1 _ rfl)
  obtain ⟨b2, e2⟩ := fld_int (i := 2) (by omega) (hg 2 _ rfl)
  obtain ⟨b3, e3⟩ := fld_int (i := 3) (by omega) (hg 3 _ rfl)
  obtain ⟨b4, e4⟩ := fld_int (i := 4) (by omega) (hg 4 _ rfl)
  exact ⟨⟨b0, b1, b2, b3, b4⟩, e0, e1, e2, e3, e4, by rw [hl, five_act]⟩
/-- a list of updates -/
theorem acts_of {v : Value} {d : DataW H} {p : List MemPlace} (h : DataW.Trod enc Try.prog W 0 (fun _ => true) true 22 v d p) (hv : ∃ a n c, v = .slice a n c) : ∃ l, IsAs W v l := by
  obtain ⟨a0, len0, cap0, rfl⟩ := hv
  obtain ⟨fuel, hf⟩ := h
  rcases open_slice Try.underlying22 hf with ⟨hcs, _⟩ | ⟨a, len, cap, m, n, D, Pl, hcs, _, hl, _, hm, _, hi⟩
  · simp [Value.cells] at hcs
    obtain ⟨rfl, rfl, rfl⟩ := hcs
    exact ⟨[], none, 0, rfl, fun h => absurd h (by simp)⟩
  · simp [Value.cells] at hcs
    obtain ⟨rfl, rfl, rfl⟩ := hcs
    simp only [if_true] at hm
    have hex : ∀ i, i < len0 → ∃ x : Act, ∀ j, j < 5 → W.cell? ((a.add (i * 5)).add j) = [Value.bool x.sw, .int .i64 x.lo, .int .i64 x.hi, .int .i64 x.fr, .int .i64 x.tt][j]? := fun i hlt => by
      obtain ⟨cs', hc, ht⟩ := hi i (by omega)
      rw [five_act] at hc
      obtain ⟨_, hln, hat⟩ := World.cells?_some hc
      obtain ⟨x, e0, e1, e2, e3, e4, _⟩ := act_cells ht
      refine ⟨x, fun j hj => ?_⟩
      rw [hat j hj]
      have : j = 0 ∨ j = 1 ∨ j = 2 ∨ j = 3 ∨ j = 4 := by omega
      rcases this with rfl | rfl | rfl | rfl | rfl
      · exact e0
      · exact e1
      · exact e2
      · exact e3
      · exact e4
    obtain ⟨g, hg⟩ : ∃ g : Nat → Act, ∀ i, i < len0 → ∀ j, j < 5 → W.cell? ((a.add (i * 5)).add j) = [Value.bool (g i).sw, .int .i64 (g i).lo, .int .i64 (g i).hi, .int .i64 (g i).fr, .int .i64 (g i).tt][j]? :=
      ⟨fun i => if h : i < len0 then (hex i h).choose else ⟨false, 0, 0, 0, 0⟩, fun i h => by simp only [dif_pos h]; exact (hex i h).choose_spec⟩
    refine ⟨(List.range len0).map g, some a, cap0, by simp, fun hp => ?_⟩
    have hp : 0 < len0 := by simpa using hp
    obtain ⟨b, o, s⟩ := a
    have h00 := hg 0 hp 0 (by decide)
    obtain rfl : s = none := by
      cases s with
      | none => rfl
      | some _ =>
        exfalso
        unfold World.cell? Addr.add at h00
        simp only [if_true] at h00
        split at h00 <;> simp at h00
    refine ⟨b, o, rfl, ?_, fun j hj => ?_⟩
    · have h1 : W.cell? ⟨b, o, none⟩ = some (.bool (g 0).sw) := by simpa [Addr.add] using h00
      exact World.block_lt_of_cell? _ _ h1
    · have hj : j < len0 := by simpa using hj
      have k : ∀ i, i < 5 → W.cell? ⟨b, o + j * 5 + i, none⟩ = [Value.bool (g j).sw, .int .i64 (g j).lo, .int .i64 (g j).hi, .int .i64 (g j).fr, .int .i64 (g j).tt][i]? := fun i hi => by
        have := hg j hj i hi
        rwa [addz, addz] at this
      have e : ((List.range len0).map g)[j]'(by simpa using hj) = g j := by simp
      have e' : ∀ (l : List Act) (h1 h2 : j < l.length), l[j]'h1 = l[j]'h2 := fun _ _ _ => rfl
      refine ⟨?_, ?_, ?_, ?_, ?_⟩
      · rw [e]; exact k 0 (by decide)
      · rw [e]; exact k 1 (by decide)
      · rw [e]; exact k 2 (by decide)
      · rw [e]; exact k 3 (by decide)
      · rw [e]; exact k 4 (by decide)
set_option maxRecDepth 100000 in
/-- an update, by value -/
theorem act_of {v : Value} {d : DataW H} {p : List MemPlace} {r : Reach} {b : Nat} (hv : Value.okWide Try.prog W r b 42 v) (h : DataW.Trod enc Try.prog W base sp held 42 v d p) : ∃ a : Act, v = .agg #[.bool a.sw, .int .i64 a.lo, .int .i64 a.hi, .int .i64 a.fr, .int .i64 a.tt] := by
  obtain ⟨cs, rfl, _⟩ := okWide_struct Try.underlying42 hv
  obtain ⟨fuel, hf⟩ := h
  obtain ⟨x, e0, e1, e2, e3, e4, el⟩ := act_cells hf
  refine ⟨x, ?_⟩
  obtain ⟨l⟩ := cs
  simp only [Value.cells] at e0 e1 e2 e3 e4 el
  match l, el with
  | [c0, c1, c2, c3, c4], _ =>
    simp at e0 e1 e2 e3 e4
    subst e0; subst e1; subst e2; subst e3; subst e4
    rfl
set_option maxRecDepth 100000 in
/-- a query, by value -/
theorem query_of {v : Value} {d : DataW H} {p : List MemPlace} {r : Reach} {b : Nat} (hv : Value.okWide Try.prog W r b 45 v) (h : DataW.Trod enc Try.prog W base sp held 45 v d p) : ∃ q0 q1 q2 q3 q4 q5, v = .agg #[.int .i64 q0, .int .i64 q1, .int .i64 q2, .int .i64 q3, .int .i64 q4, .int .i64 q5] := by
  obtain ⟨cs, rfl, _⟩ := okWide_struct Try.underlying45 hv
  obtain ⟨fuel, hf⟩ := h
  obtain ⟨xs, n, _, _, hl, hx, hg⟩ := DataW.trod_struct Try.underlying45 hf
  have hx : xs.length = 6 := hx
  obtain ⟨b0, e0⟩ := fld_int (i := 0) (by omega) (hg 0 _ rfl)
  obtain ⟨b1, e1⟩ := fld_int (i := 1) (by omega) (hg 1 _ rfl)
  obtain ⟨b2, e2⟩ := fld_int (i := 2) (by omega) (hg 2 _ rfl)
  obtain ⟨b3, e3⟩ := fld_int (i := 3) (by omega) (hg 3 _ rfl)
  obtain ⟨b4, e4⟩ := fld_int (i := 4) (by omega) (hg 4 _ rfl)
  obtain ⟨b5, e5⟩ := fld_int (i := 5) (by omega) (hg 5 _ rfl)
  refine ⟨b0, b1, b2, b3, b4, b5, ?_⟩
  rw [six_query] at hl
  obtain ⟨l⟩ := cs
  simp only [Value.cells] at e0 e1 e2 e3 e4 e5 hl
  match l, hl with
  | [c0, c1, c2, c3, c4, c5], _ =>
    simp at e0 e1 e2 e3 e4 e5
    subst e0; subst e1; subst e2; subst e3; subst e4; subst e5
    rfl
end
end Go.Proofs.Ytjbenhmpeceaeaa
