/- Contracts and lemmas (several texts merged into one). -/
import Derived.Test.YtahgfggcpmnnaabQb
import Derived.Test.YtahgfggcpmnnaabQc
import Derived.Test.YtahgfggcpmnnaabQd
import Derived.BigQuiet
import Derived.Test.YtahgfggcpmnnaabZa
import Derived.Test.YtahgfggcpmnnaabQt
import Derived.Test.YtahgfggcpmnnaabQe
import Derived.Test.YtahgfggcpmnnaabZd
import Derived.Test.YtahgfggcpmnnaabRows
import Derived.ProofKit
import Derived.OpenShut
import Derived.Carry
import Derived.Deep.Slices
import Derived.Deep.Fields
import Derived.ChangeSame
import Derived.Test.YtahgfggcpmnnaabQf
import Derived.Maps.AppendAt
import Derived.Test.YtahgfggcpmnnaabJn
import Derived.Test.YtahgfggcpmnnaabZs
import Derived.Test.YtahgfggcpmnnaabQa
import Derived.Laws.OwnMore
import Derived.Test.YtahgfggcpmnnaabQl
namespace Go.Proofs.Ytahgfggcpmnnaab
open Go Go.RowKit Gs

/-- a run of a list at a slice -/
theorem IsRs.at' {base : Nat} {W : World} {a : Option Addr} {n c : Nat} {L : List R} (h : IsRs base W (.slice a n c) L) {j : Nat} (hj : j < L.length) :
    ∃ G, a = some ⟨G, 0, none⟩ ∧ W.cell? ⟨G, j * 3, none⟩ = some (.int .i64 L[j].lo) ∧ W.cell? ⟨G, j * 3 + 1, none⟩ = some (.int .i64 L[j].hi) ∧ W.cell? ⟨G, j * 3 + 2, none⟩ = some (.int .i64 L[j].tag) := by
  obtain ⟨a', c', hv, hcs⟩ := h
  injection hv with hv1 hv2 hv3
  subst hv1
  obtain ⟨G, e1, -, hcs2⟩ := hcs (by omega)
  exact ⟨G, e1, hcs2 j hj⟩
theorem fits_at {f : Int → Int} : ∀ {l : List R} {a b : Int}, Fits f a l b → ∀ j (h : j < l.length), a ≤ l[j].lo ∧ l[j].lo < l[j].hi ∧ l[j].hi ≤ b ∧ ∀ p, l[j].lo ≤ p → p < l[j].hi → f p = l[j].tag
  | r :: l, a, b, h, 0, _ => by
    have hle := h.2.2.2.le
    exact ⟨by have := h.1; show a ≤ r.lo; omega, h.2.1, hle, h.2.2.1⟩
  | r :: l, a, b, h, j + 1, hj => by
    have := fits_at h.2.2.2 j (by simpa using hj)
    have h1 := h.1; have h2 := h.2.1
    exact ⟨by show a ≤ (l[j]'(by simpa using hj)).lo; omega, this.2⟩
theorem fits_idx {f : Int → Int} {x : Int} : ∀ {l : List R} {a b : Int}, Fits f a l b → a ≤ x → x < b → ∃ j, ∃ h : j < l.length, l[j].lo ≤ x ∧ x < l[j].hi
  | [], a, b, h, h1, h2 => by
    have h : a = b := h
    omega
  | r :: l, a, b, h, h1, h2 => by
    by_cases hx : x < r.hi
    · exact ⟨0, by simp, by have := h.1; show r.lo ≤ x; omega, hx⟩
    · obtain ⟨j, hj, h3⟩ := fits_idx h.2.2.2 (by omega) h2
      exact ⟨j + 1, by simpa using hj, h3⟩
def getE (size x : Int) : Int := if 0 ≤ x ∧ x < size then 0 else 3
def getT (f : Int → Int) (size x : Int) : Int := if 0 ≤ x ∧ x < size then f x else 0
end Go.Proofs.Ytahgfggcpmnnaab
namespace Go.Proofs.Ytahgfggcpmnnaab
open Go Go.RowKit Gs

/-- where the runs of a range end, of those that end at m -/
def clipE (lo hi m : Int) : Int := max lo (min hi m)
theorem clip_step {f : Int → Int} {lo hi m : Int} {lst : List R} {x : R} (h : Gs.Can f lo lst (clipE lo hi m)) (h1 : x.lo = m) (h2 : x.lo < x.hi) (h3 : ∀ p, x.lo ≤ p → p < x.hi → f p = x.tag) (hle : lo ≤ hi) :
    Gs.Can f lo (joinL lst ⟨max lo x.lo, min hi x.hi, x.tag⟩) (clipE lo hi x.hi) := by
  by_cases hx : min hi x.hi ≤ max lo x.lo
  · have e : joinL lst ⟨max lo x.lo, min hi x.hi, x.tag⟩ = lst := by unfold joinL; rw [if_pos hx]
    rw [e]
    have e2 : clipE lo hi x.hi = clipE lo hi m := by unfold clipE; omega
    rw [e2]
    exact h
  · have := join_can (x := ⟨max lo x.lo, min hi x.hi, x.tag⟩) h (by show max lo x.lo = clipE lo hi m; unfold clipE; omega) (by show clipE lo hi m ≤ min hi x.hi; unfold clipE; omega) (fun p p1 p2 => by
      have p1 : max lo x.lo ≤ p := p1
      have p2 : p < min hi x.hi := p2
      exact h3 p (by omega) (by omega))
    have e2 : clipE lo hi x.hi = min hi x.hi := by unfold clipE; omega
    rw [e2]
    exact this
/-- a list has room for what it holds -/
def Roomed (v : Value) (n : Nat) : Prop := ∃ a c, v = .slice a n c ∧ n ≤ c
theorem Roomed.of_row {W : World} {base : Nat} {e : TypeId} {size : Nat} {v : Value} {n : Nat} {xs : List Value} (h : W.ownsRow base e size v n xs) : Roomed v n := by
  rcases h.2 with ⟨rfl, rfl⟩ | ⟨g, cap, cur, rfl, _, _, h, _⟩
  · exact ⟨none, 0, rfl, Nat.le_refl _⟩
  · exact ⟨_, cap, rfl, h⟩
end Go.Proofs.Ytahgfggcpmnnaab
namespace Go.Proofs.Ytahgfggcpmnnaab
open Go Go.RowKit Gs

theorem cb_in {f : Int → Int} {l m : List R} {r : R} {size x k : Int} (h : Gs.Can f 0 (l ++ r :: m) size) (h1 : r.lo ≤ x) (h2 : x ≤ r.hi) : cb x k (l ++ r :: m) = cnt k l + (if r.tag = k then x - r.lo else 0) := by
  obtain ⟨q1, q2, q3, q4, _, _⟩ := h.mid
  by_cases e : x = r.lo
  · rw [cb_left h (by omega), cb_high x k q1.1 (by omega)]
    split <;> omega
  · rw [cb_right h (by omega), cb_low x k q2.1 (by omega)]
    split <;> omega
theorem FindOf.same {f : Int → Int} {size tag k : Int} {L : List R} {x y : Int} {b c : Bool} (hL : Gs.Can f 0 L size) (h1 : FindOf f size tag k L x b) (h2 : FindOf f size tag k L y c) : x = y ∧ b = c := by
  rcases h1 with ⟨rfl, a1, a2, a3, a4, a5, a6, a7⟩ | ⟨rfl, rfl, a1⟩
  · rcases h2 with ⟨rfl, b1, b2, b3, b4, b5, b6, b7⟩ | ⟨rfl, rfl, b1⟩
    · exact ⟨find_one hL.1 a4 a5 b4 b5 a6 b6 a7 b7, rfl⟩
    · rcases b1 with b1 | b1 | b1
      · rw [a1] at b1; cases b1
      · omega
      · omega
  · rcases h2 with ⟨rfl, b1, b2, b3, b4, b5, b6, b7⟩ | ⟨rfl, rfl, b1⟩
    · rcases a1 with a1 | a1 | a1
      · rw [b1] at a1; cases a1
      · omega
      · omega
    · exact ⟨rfl, rfl⟩
end Go.Proofs.Ytahgfggcpmnnaab
namespace Go.Proofs.Ytahgfggcpmnnaab
open Go Go.RowKit Gs

theorem cnt_full {g : Int → Int} {k : Int} : ∀ {l : List R} {a b : Int}, Fits g a l b → (cnt k l = b - a ↔ ∀ x, a ≤ x → x < b → g x = k)
  | [], a, b, h => by
    have h : a = b := h
    subst h
    exact ⟨fun _ x h1 h2 => absurd h2 (by omega), fun _ => by show 0 = _; omega⟩
  | r :: l, a, b, h => by
    have ih := cnt_full (k := k) h.2.2.2
    have hbd := cb_bd 0 k h.2.2.2
    obtain ⟨h1, h2, h3, h4⟩ := h
    have hle := h4.le
    show (if r.tag = k then r.hi - r.lo else 0) + cnt k l = _ ↔ _
    constructor
    · intro he x x1 x2
      by_cases ht : r.tag = k
      · rw [if_pos ht] at he
        by_cases hx : x < r.hi
        · rw [h3 x (by omega) hx, ht]
        · exact ih.1 (by omega) x (by omega) x2
      · rw [if_neg ht] at he
        omega
    · intro hall
      have ht : r.tag = k := by rw [← h3 a (by omega) (by omega)]; exact hall a (Int.le_refl _) (by omega)
      rw [if_pos ht, ih.2 fun x x1 x2 => hall x (by omega) x2]
      omega
theorem gS_all {g : Int → Int} {lo hi fr tt : Int} (h : ∀ x, lo ≤ x → x < hi → g x = fr) : gS g lo hi fr tt false = put g lo hi tt := by
  funext x
  show (if lo ≤ x ∧ x < hi ∧ (false = true ∨ g x = fr) then tt else g x) = if lo ≤ x ∧ x < hi then tt else g x
  by_cases hx : lo ≤ x ∧ x < hi
  · rw [if_pos hx, if_pos ⟨hx.1, hx.2, .inr (h x hx.1 hx.2)⟩]
  · rw [if_neg hx, if_neg fun h => hx ⟨h.1, h.2.1⟩]
/-- what the document's Apply answers -/
def RApP (size : Int) (r : Int × (Int → Int)) (s : Int) (v : Value) (e : Int) (W : World) : Prop :=
  e = r.1 ∧ ((e ≠ 0 ∧ s = 0 ∧ v = .slice none 0 0) ∨ (e = 0 ∧ s = size ∧ ∃ L, Gs.Can r.2 0 L size ∧ IsRs 0 W v L))
/-- what one change makes of the document's map -/
theorem ru_chK {f : Int → Int} {size : Int} {c : Ch} {L : List R} {B : Nat} {s : Int} {v : Value} {n e : Int} {W : World} (h0 : chE size f c = 0) (hg : gS f c.lo c.hi c.fr c.tt false = put f c.lo c.hi c.tt) (h : RU f size c.lo c.hi c.fr c.tt false L B s v n e W) :
    e = chK size f c ∧ ((e ≠ 0 ∧ s = 0 ∧ v = .slice none 0 0) ∨ (e = 0 ∧ s = size ∧ ∃ L, Gs.Can (put f c.lo c.hi c.tt) 0 L size ∧ IsRs 0 W v L ∧ L.length ≤ 4096)) := by
  obtain ⟨L', hL, h⟩ := h
  rw [hg] at hL
  rcases h with ⟨h1, rfl, rfl, rfl, rfl⟩ | ⟨h1, rfl, rfl, h2, _⟩
  · refine ⟨?_, .inl ⟨by decide, rfl, rfl⟩⟩
    unfold chK
    rw [if_neg (fun h => h h0), if_pos ⟨L', hL, h1⟩]
  · refine ⟨?_, .inr ⟨rfl, rfl, L', hL, h2.mono (Nat.zero_le _), h1⟩⟩
    unfold chK
    rw [if_neg (fun h => h h0), if_neg]
    rintro ⟨K, hK, hk⟩
    have := hK.same hL
    subst this
    omega
end Go.Proofs.Ytahgfggcpmnnaab
namespace Go.Proofs.Ytahgfggcpmnnaab
open Go Go.ChangeShapes Go.WideShapes Go.ChangeAt Go.RowKit Go.Deep Gs

theorem addz (b o k : Nat) : (⟨b, o, none⟩ : Addr).add k = ⟨b, o + k, none⟩ := by
  unfold Addr.add
  split <;> simp_all
theorem own : ownKnob Try.prog.godebug = none := by kernel_rfl
theorem laidOut' : laidOutB Try.prog = true := by kernel_rfl
theorem one_int : Try.prog.cellsOf 3 = 1 := by kernel_rfl
theorem one_bool : Try.prog.cellsOf 4 = 1 := by kernel_rfl
theorem five_act : Try.prog.cellsOf 24 = 5 := by kernel_rfl
theorem six_query : Try.prog.cellsOf 49 = 6 := by kernel_rfl
section
variable {H : Type} {enc : TypeId × Value → H} {W : World} {base : Nat} {sp : Nat → Bool} {held : Bool}
theorem fld_int {cs : List Value} {n i : Nat} {xs : List (DataW H × List MemPlace)} (hi : i < xs.length) (h : DataW.trod enc Try.prog W base sp held n 3 ((cs.drop i).take (Try.prog.cellsOf 3)) = xs[i]?) : ∃ k, cs[i]? = some (.int .i64 k) := by
  rw [one_int, List.getElem?_eq_getElem hi] at h
  obtain ⟨k, e, _⟩ := DataW.trod_int Try.underlying3 h
  refine ⟨k, ?_⟩
  have h1 : ((cs.drop i).take 1)[0]? = some (.int .i64 k) := by rw [e]; rfl
  simpa [List.getElem?_take, List.getElem?_drop] using h1
theorem fld_bool {cs : List Value} {n i : Nat} {xs : List (DataW H × List MemPlace)} (hi : i < xs.length) (h : DataW.trod enc Try.prog W base sp held n 4 ((cs.drop i).take (Try.prog.cellsOf 4)) = xs[i]?) : ∃ k, cs[i]? = some (.bool k) := by
  rw [one_bool, List.getElem?_eq_getElem hi] at h
  obtain ⟨k, e, _⟩ := DataW.trod_bool Try.underlying4 h
  refine ⟨k, ?_⟩
  have h1 : ((cs.drop i).take 1)[0]? = some (.bool k) := by rw [e]; rfl
  simpa [List.getElem?_take, List.getElem?_drop] using h1
/-- the cells of an update -/
theorem act_cells {fuel : Nat} {cs : List Value} {x : DataW H × List MemPlace} (h : DataW.trod enc Try.prog W base sp held fuel 24 cs = some x) :
    ∃ a : Act, cs[0]? = some (.bool a.sw) ∧ cs[1]? = some (.int .i64 a.lo) ∧ cs[2]? = some (.int .i64 a.hi) ∧ cs[3]? = some (.int .i64 a.fr) ∧ cs[4]? = some (.int .i64 a.tt) ∧ cs.length = 5 := by
  obtain ⟨xs, n, _, _, hl, hx, hg⟩ := DataW.trod_struct Try.underlying24 h
  have hx : xs.length = 5 := hx
  obtain ⟨b0, e0⟩ := fld_bool (i := 0) (by omega) (hg 0 _ rfl)
  obtain ⟨b1, e1⟩ := fld_int (i := 1) (by omega) (hg 1 _ rfl)
  obtain ⟨b2, e2⟩ := fld_int (i := 2) (by omega) (hg 2 _ rfl)
  obtain ⟨b3, e3⟩ := fld_int (i := 3) (by omega) (hg 3 _ rfl)
  obtain ⟨b4, e4⟩ := fld_int (i := 4) (by omega) (hg 4 _ rfl)
  exact ⟨⟨b0, b1, b2, b3, b4⟩, e0, e1, e2, e3, e4, by rw [hl, five_act]⟩
/-- a list of updates -/
theorem acts_of {v : Value} {d : DataW H} {p : List MemPlace} (h : DataW.Trod enc Try.prog W 0 (fun _ => true) true 22 v d p) (hv : ∃ a n c, v = .slice a n c) : ∃ l, IsAs W v l := by
  obtain ⟨a0, len0, cap0, rfl⟩ := hv
  obtain ⟨fuel, hf⟩ := h
  rcases open_slice Try.underlying22 hf with ⟨hcs, _⟩ | ⟨a, len, cap, m, n, D, Pl, hcs, _, hl, _, hm, _, hi⟩
  · simp [Value.cells] at hcs
    obtain ⟨rfl, rfl, rfl⟩ := hcs
    exact ⟨[], none, 0, rfl, fun h => absurd h (by simp)⟩
  · simp [Value.cells] at hcs
    obtain ⟨rfl, rfl, rfl⟩ := hcs
    simp only [if_true] at hm
    have hex : ∀ i, i < len0 → ∃ x : Act, ∀ j, j < 5 → W.cell? ((a.add (i * 5)).add j) = [Value.bool x.sw, .int .i64 x.lo, .int .i64 x.hi, .int .i64 x.fr, .int .i64 x.tt][j]? := fun i hlt => by
      obtain ⟨cs', hc, ht⟩ := hi i (by omega)
      rw [five_act] at hc
      obtain ⟨_, hln, hat⟩ := World.cells?_some hc
      obtain ⟨x, e0, e1, e2, e3, e4, _⟩ := act_cells ht
      refine ⟨x, fun j hj => ?_⟩
      rw [hat j hj]
      have : j = 0 ∨ j = 1 ∨ j = 2 ∨ j = 3 ∨ j = 4 := by omega
      rcases this with rfl | rfl | rfl | rfl | rfl
      · exact e0
      · exact e1
      · exact e2
      · exact e3
      · exact e4
    obtain ⟨g, hg⟩ : ∃ g : Nat → Act, ∀ i, i < len0 → ∀ j, j < 5 → W.cell? ((a.add (i * 5)).add j) = [Value.bool (g i).sw, .int .i64 (g i).lo, .int .i64 (g i).hi, .int .i64 (g i).fr, .int .i64 (g i).tt][j]? :=
      ⟨fun i => if h : i < len0 then (hex i h).choose else ⟨false, 0, 0, 0, 0⟩, fun i h => by simp only [dif_pos h]; exact (hex i h).choose_spec⟩
    refine ⟨(List.range len0).map g, some a, cap0, by simp, fun hp => ?_⟩
    have hp : 0 < len0 := by simpa using hp
    obtain ⟨b, o, s⟩ := a
    have h00 := hg 0 hp 0 (by decide)
    obtain rfl : s = none := by
      cases s with
      | none => rfl
      | some _ =>
        exfalso
        unfold World.cell? Addr.add at h00
        simp only [if_true] at h00
        split at h00 <;> simp at h00
    refine ⟨b, o, rfl, ?_, fun j hj => ?_⟩
    · have h1 : W.cell? ⟨b, o, none⟩ = some (.bool (g 0).sw) := by simpa [Addr.add] using h00
      exact World.block_lt_of_cell? _ _ h1
    · have hj : j < len0 := by simpa using hj
      have k : ∀ i, i < 5 → W.cell? ⟨b, o + j * 5 + i, none⟩ = [Value.bool (g j).sw, .int .i64 (g j).lo, .int .i64 (g j).hi, .int .i64 (g j).fr, .int .i64 (g j).tt][i]? := fun i hi => by
        have := hg j hj i hi
        rwa [addz, addz] at this
      have e : ((List.range len0).map g)[j]'(by simpa using hj) = g j := by simp
      have e' : ∀ (l : List Act) (h1 h2 : j < l.length), l[j]'h1 = l[j]'h2 := fun _ _ _ => rfl
      refine ⟨?_, ?_, ?_, ?_, ?_⟩
      · rw [e]; exact k 0 (by decide)
      · rw [e]; exact k 1 (by decide)
      · rw [e]; exact k 2 (by decide)
      · rw [e]; exact k 3 (by decide)
      · rw [e]; exact k 4 (by decide)
set_option maxRecDepth 100000 in
/-- an update, by value -/
theorem act_of {v : Value} {d : DataW H} {p : List MemPlace} {r : Reach} {b : Nat} (hv : Value.okWide Try.prog W r b 24 v) (h : DataW.Trod enc Try.prog W base sp held 24 v d p) : ∃ a : Act, v = .agg #[.bool a.sw, .int .i64 a.lo, .int .i64 a.hi, .int .i64 a.fr, .int .i64 a.tt] := by
  obtain ⟨cs, rfl, _⟩ := okWide_struct Try.underlying24 hv
  obtain ⟨fuel, hf⟩ := h
  obtain ⟨x, e0, e1, e2, e3, e4, el⟩ := act_cells hf
  refine ⟨x, ?_⟩
  obtain ⟨l⟩ := cs
  simp only [Value.cells] at e0 e1 e2 e3 e4 el
  match l, el with
  | [c0, c1, c2, c3, c4], _ =>
    simp at e0 e1 e2 e3 e4
    subst e0; subst e1; subst e2; subst e3; subst e4
    rfl
set_option maxRecDepth 100000 in
/-- a query, by value -/
theorem query_of {v : Value} {d : DataW H} {p : List MemPlace} {r : Reach} {b : Nat} (hv : Value.okWide Try.prog W r b 49 v) (h : DataW.Trod enc Try.prog W base sp held 49 v d p) : ∃ q0 q1 q2 q3 q4 q5, v = .agg #[.int .i64 q0, .int .i64 q1, .int .i64 q2, .int .i64 q3, .int .i64 q4, .int .i64 q5] := by
  obtain ⟨cs, rfl, _⟩ := okWide_struct Try.underlying49 hv
  obtain ⟨fuel, hf⟩ := h
  obtain ⟨xs, n, _, _, hl, hx, hg⟩ := DataW.trod_struct Try.underlying49 hf
  have hx : xs.length = 6 := hx
  obtain ⟨b0, e0⟩ := fld_int (i := 0) (by omega) (hg 0 _ rfl)
  obtain ⟨b1, e1⟩ := fld_int (i := 1) (by omega) (hg 1 _ rfl)
  obtain ⟨b2, e2⟩ := fld_int (i := 2) (by omega) (hg 2 _ rfl)
  obtain ⟨b3, e3⟩ := fld_int (i := 3) (by omega) (hg 3 _ rfl)
  obtain ⟨b4, e4⟩ := fld_int (i := 4) (by omega) (hg 4 _ rfl)
  obtain ⟨b5, e5⟩ := fld_int (i := 5) (by omega) (hg 5 _ rfl)
  refine ⟨b0, b1, b2, b3, b4, b5, ?_⟩
  rw [six_query] at hl
  obtain ⟨l⟩ := cs
  simp only [Value.cells] at e0 e1 e2 e3 e4 e5 hl
  match l, hl with
  | [c0, c1, c2, c3, c4, c5], _ =>
    simp at e0 e1 e2 e3 e4 e5
    subst e0; subst e1; subst e2; subst e3; subst e4; subst e5
    rfl
end
end Go.Proofs.Ytahgfggcpmnnaab
namespace Go.Proofs.Ytahgfggcpmnnaab
open Go Go.RowKit Gs

set_option maxHeartbeats 1000000 in
/-- ref.Changed, of two lists that are the same -/
theorem RChanged_same {W : World} {u v : Value} {L : List Ch} (h1 : IsCs W u L) (h2 : IsCs W v L) (hlen : L.length ≤ 100000) : Calls Try.prog 27 #[u, v] W fun e w' => e = .returned (.bool true) ∧ Hid (Below W.heap.size W w') := by
  have HU := Lib.hid h1; have HV := Lib.hid h2
  obtain ⟨a, c, rfl, -⟩ := h1
  obtain ⟨a', c', rfl, -⟩ := h2
  obtain ⟨n, hn⟩ : ∃ n, n = L.length := ⟨_, rfl⟩
  rw [← hn] at HU HV ⊢
  have hnb : n ≤ 100000 := by omega
  have HN := Lib.hid hn
  clear hn hlen
  go_enter Try.func27, Try.ntmps27
  go_wp2_with fail
  go_loopw [5] (fun iv wr => ∃ j : Nat, j ≤ n ∧ iv = .int .i64 j ∧ Hid (Below W.heap.size W wr)) (fun i _ => n - (intOf i).toNat)
  case atStart => exact ⟨0, by omega, rfl, Below.refl _ _⟩
  case round =>
    obtain ⟨j, hj, rfl, HB⟩ := hrel
    by_cases hlt : j < n
    · have hj2 : (j : Int) < n := by omega
      have hj0 : (0 : Int) ≤ (j : Int) := by omega
      have hjl : j < L.length := by rw [← HN.out]; exact hlt
      obtain ⟨G, o, rfl, c0, c1, c2, c3⟩ := (HU.out.below HB.out).at' hjl
      obtain ⟨G', o', rfl, d0, d1, d2, d3⟩ := (HV.out.below HB.out).at' hjl
      generalize L[j] = x at *
      obtain ⟨xa, xb, xc, xd⟩ := x
      simp only at c0 c1 c2 c3 d0 d1 d2 d3
      go_wp2_with fail
      go_quiet (fail)
      rename_i nq
      have HBn : Hid (Below W.heap.size W (World.drewN wr nq)) := below_drewN HB.out nq
      clear c0 c1 c2 c3 d0 d1 d2 d3
      generalize hw : World.drewN _ nq = w2 at HBn ⊢
      clear hw
      go_wp2_with fail
      go_roundw
      case rel => exact ⟨j + 1, by omega, by go_num, HBn.out⟩
      case measure => simp [intOf]; omega
    · have hj2 : ¬ (j : Int) < n := by omega
      go_wp2_with fail
      go_ret
      exact ⟨rfl, HB.out⟩
def encC (c : Ch) : List Value := [.int .i64 c.lo, .int .i64 c.hi, .int .i64 c.fr, .int .i64 c.tt]
theorem encC_len (l : List Ch) : (l.flatMap encC).length = l.length * 4 := by
  induction l with
  | nil => rfl
  | cons c l ih => rw [List.flatMap_cons, List.length_append, ih]; simp [encC]; omega
theorem encC_one (l : List Ch) : ∀ u ∈ l.flatMap encC, u.oneCell' = true := by
  intro u hu
  obtain ⟨r, _, hr⟩ := List.mem_flatMap.1 hu
  simp only [encC, List.mem_cons, List.not_mem_nil, or_false] at hr
  rcases hr with rfl | rfl | rfl | rfl <;> rfl
theorem encC_get : ∀ (l : List Ch) (j : Nat) (h : j < l.length), (l.flatMap encC)[j * 4]? = some (.int .i64 l[j].lo) ∧ (l.flatMap encC)[j * 4 + 1]? = some (.int .i64 l[j].hi) ∧ (l.flatMap encC)[j * 4 + 2]? = some (.int .i64 l[j].fr) ∧ (l.flatMap encC)[j * 4 + 3]? = some (.int .i64 l[j].tt)
  | r :: l, 0, _ => ⟨rfl, rfl, rfl, rfl⟩
  | r :: l, j + 1, h => by
    have ih := encC_get l j (by simpa using h)
    have e : ∀ i, ((r :: l).flatMap encC)[i + 4]? = (l.flatMap encC)[i]? := fun i => rfl
    rw [show (j + 1) * 4 = j * 4 + 4 by omega, show j * 4 + 4 + 1 = j * 4 + 1 + 4 by omega, show j * 4 + 4 + 2 = j * 4 + 2 + 4 by omega, show j * 4 + 4 + 3 = j * 4 + 3 + 4 by omega, e, e, e, e]
    exact ih
theorem IsCs.of_row {W : World} {base : Nat} {v : Value} {l : List Ch} (h : W.ownsRow base 59 4 v l.length (l.flatMap encC)) : IsCs W v l := by
  have hcs := fun g hg => h.cells (g := g) hg
  have hlt := h.lt
  rcases h.2 with ⟨rfl, h0⟩ | ⟨g, cap, cur, rfl, _⟩
  · exact ⟨none, 0, by rw [h0], fun hp => by omega⟩
  · refine ⟨some ⟨g, 0, none⟩, cap, rfl, fun hp => ⟨g, 0, rfl, (hlt g rfl).2, fun j hj => ?_⟩⟩
    obtain ⟨e0, e1, e2, e3⟩ := encC_get l j hj
    have c0 := hcs g rfl _ _ e0
    have c1 := hcs g rfl _ _ e1
    have c2 := hcs g rfl _ _ e2
    have c3 := hcs g rfl _ _ e3
    rw [add_zero'] at c0 c1 c2 c3
    rw [Nat.zero_add]
    exact ⟨c0, c1, c2, c3⟩
/-- the cells of a list of changes, in a row -/
theorem IsCs.news {W : World} {B o n c : Nat} {l : List Ch} (h : IsCs W (.slice (some ⟨B, o, none⟩) n c) l) : ∀ j u, (l.flatMap encC)[j]? = some u → W.cell? ((⟨B, o, none⟩ : Addr).add j) = some u := by
  intro j u hj
  have hlt : j < l.length * 4 := by
    rw [← encC_len]
    exact (List.getElem?_eq_some_iff.1 hj).1
  obtain ⟨B', o', e, c0, c1, c2, c3⟩ := h.at' (j := j / 4) (by omega)
  injection e with e
  injection e with e1 e2
  subst e1; subst e2
  obtain ⟨e0, e1, e2, e3⟩ := encC_get l (j / 4) (by omega)
  rw [show (⟨B, o, none⟩ : Addr).add j = ⟨B, o + j, none⟩ by unfold Addr.add; split <;> simp_all]
  have hr : j % 4 = 0 ∨ j % 4 = 1 ∨ j % 4 = 2 ∨ j % 4 = 3 := by omega
  rcases hr with hr | hr | hr | hr
  · have ej : j = j / 4 * 4 := by omega
    rw [ej, e0] at hj
    rw [ej]; cases hj; exact c0
  · have ej : j = j / 4 * 4 + 1 := by omega
    rw [ej, e1] at hj
    rw [ej, ← Nat.add_assoc]; cases hj; exact c1
  · have ej : j = j / 4 * 4 + 2 := by omega
    rw [ej, e2] at hj
    rw [ej, ← Nat.add_assoc]; cases hj; exact c2
  · have ej : j = j / 4 * 4 + 3 := by omega
    rw [ej, e3] at hj
    rw [ej, ← Nat.add_assoc]; cases hj; exact c3
theorem infoChange : (Try.prog.info? 59).map (fun i => (i.zero, i.size, i.bytes)) = some (some (.agg #[.int .i64 0, .int .i64 0, .int .i64 0, .int .i64 0]), 4, 32) := by kernel_rfl
theorem IsCs.len {W : World} {a : Option Addr} {n c : Nat} {l : List Ch} (h : IsCs W (.slice a n c) l) : n = l.length := by
  obtain ⟨_, _, hv, _⟩ := h
  injection hv
/-- a copy of a list of changes: an append to an empty list -/
theorem wpList_copyC {w3 : World} {ops : Array Oper} {rest : List Oper} {o : Oper} {a : Go.Act} {Q : Exit → Go.Act → World → Prop} (hgd : o.guard = none) (s x : Operand)
    (ho : o.op = .call { callee := .builtin .append, args := #[s, x], argTypes := #[53, 53] }) {cv : Value} {k : List Ch} {m : Nat} (hmk : m = k.length)
    (hs : a.eval s = .slice (some ⟨w3.heap.size, 0, none⟩) 0 0) (hx : a.eval x = cv) (hk : IsCs w3 cv k) (hkv : cv = .slice none 0 0 ∨ ∃ a m c, cv = .slice (some a) m c) (hm : m ≤ 100000)
    (h : ∀ a2 c2 w5, IsCs w5 (.slice a2 m c2) k → Below w3.heap.size w3 w5 → wpList Try.prog ops Q rest (a.put o.dst (.slice a2 m c2)) w5) : wpList Try.prog ops Q (o :: rest) a (w3.alloc (.cells #[] 59)) := by
  obtain ⟨i0, hi0, hz0, hz1, hz2⟩ := info_parts infoChange
  have hown : (w3.alloc (.cells #[] 59)).ownsRow w3.heap.size 59 4 (.slice (some ⟨w3.heap.size, 0, none⟩) 0 0) 0 [] := World.ownsRow_lit w3 #[] 0 (Nat.le_refl _) (by decide) (by simp)
  have hb := alloc_below w3 (.cells #[] 59)
  rcases hkv with rfl | ⟨a0, m0, c0, rfl⟩
  · have hk0 : m = 0 := hmk.trans hk.len.symm
    subst hk0
    refine wpList_append_nil hgd s x _ ho w3.heap.size _ i0 4 Try.underlying53 hi0 _ 0 [] hs hown hx ?_
    have hk1 : k = [] := List.eq_nil_of_length_eq_zero hmk.symm
    subst hk1
    exact h _ _ _ ⟨_, _, rfl, fun h => absurd h (by simp)⟩ hb
  · have hm0 : m0 = m := hk.len.trans hmk.symm
    subst hm0
    have hnw : ∀ j u, (k.flatMap encC)[j]? = some u → (w3.alloc (.cells #[] 59)).cell? (a0.add j) = some u := by
      by_cases hz : k = []
      · subst hz
        intro j u hj
        simp at hj
      · obtain ⟨B, o', e, _⟩ := hk.at' (j := 0) (List.length_pos_iff.2 hz)
        injection e with e
        subst e
        exact (hk.below hb).news
    refine wpList_append_own_at _ hgd s x _ ho w3.heap.size _ i0 _ 4 32 Try.underlying53 hi0 hz0 hz1 hz2 rfl (by decide) _ 0 [] hs hown a0 m0 c0 (k.flatMap encC) hx (by rw [encC_len, hmk]) hnw (encC_one k) (by rw [Nat.zero_add]; exact Nat.le_trans hm (by decide)) (by omega) hb.size ?_
    intro v' w5 hown' hgrow _ _
    rw [Nat.zero_add, List.nil_append, hmk] at hown'
    have hcs := IsCs.of_row hown'
    have hcs0 := hcs
    obtain ⟨a2, c2, rfl, -⟩ := hcs0
    rw [← hmk] at hcs ⊢
    exact h _ _ _ hcs (hb.grown hgrow hb.size (fun j hj => by cases hj; exact Nat.le_refl _))
section
open Go.ChangeShapes Go.WideShapes Go.ChangeAt Go.Deep
theorem four_ch : Try.prog.cellsOf 59 = 4 := by kernel_rfl
section
variable {H : Type} {enc : TypeId × Value → H} {W : World} {base : Nat} {sp : Nat → Bool} {held : Bool}
theorem ch_cells {fuel : Nat} {cs : List Value} {x : DataW H × List MemPlace} (h : DataW.trod enc Try.prog W base sp held fuel 59 cs = some x) :
    ∃ a : Ch, cs[0]? = some (.int .i64 a.lo) ∧ cs[1]? = some (.int .i64 a.hi) ∧ cs[2]? = some (.int .i64 a.fr) ∧ cs[3]? = some (.int .i64 a.tt) ∧ cs.length = 4 := by
  obtain ⟨xs, n, _, _, hl, hx, hg⟩ := DataW.trod_struct Try.underlying59 h
  have hx : xs.length = 4 := hx
  obtain ⟨b0, e0⟩ := fld_int (i := 0) (by omega) (hg 0 _ rfl)
  obtain ⟨b1, e1⟩ := fld_int (i := 1) (by omega) (hg 1 _ rfl)
  obtain ⟨b2, e2⟩ := fld_int (i := 2) (by omega) (hg 2 _ rfl)
  obtain ⟨b3, e3⟩ := fld_int (i := 3) (by omega) (hg 3 _ rfl)
  exact ⟨⟨b0, b1, b2, b3⟩, e0, e1, e2, e3, by rw [hl, four_ch]⟩
/-- a list of changes -/
theorem changes_of {v : Value} {d : DataW H} {p : List MemPlace} (h : DataW.Trod enc Try.prog W 0 (fun _ => true) true 53 v d p) (hv : ∃ a n c, v = .slice a n c) : ∃ l, IsCs W v l ∧ (v = .slice none 0 0 ∨ ∃ a m c, v = .slice (some a) m c) := by
  obtain ⟨a0, len0, cap0, rfl⟩ := hv
  obtain ⟨fuel, hf⟩ := h
  rcases open_slice Try.underlying53 hf with ⟨hcs, _⟩ | ⟨a, len, cap, m, n, D, Pl, hcs, _, hl, _, hm, _, hi⟩
  · simp [Value.cells] at hcs
    obtain ⟨rfl, rfl, rfl⟩ := hcs
    exact ⟨[], ⟨none, 0, rfl, fun h => absurd h (by simp)⟩, .inl rfl⟩
  · simp [Value.cells] at hcs
    obtain ⟨rfl, rfl, rfl⟩ := hcs
    simp only [if_true] at hm
    have hex : ∀ i, i < len0 → ∃ x : Ch, ∀ j, j < 4 → W.cell? ((a.add (i * 4)).add j) = [Value.int .i64 x.lo, .int .i64 x.hi, .int .i64 x.fr, .int .i64 x.tt][j]? := fun i hlt => by
      obtain ⟨cs', hc, ht⟩ := hi i (by omega)
      rw [four_ch] at hc
      obtain ⟨_, hln, hat⟩ := World.cells?_some hc
      obtain ⟨x, e0, e1, e2, e3, _⟩ := ch_cells ht
      refine ⟨x, fun j hj => ?_⟩
      rw [hat j hj]
      have : j = 0 ∨ j = 1 ∨ j = 2 ∨ j = 3 := by omega
      rcases this with rfl | rfl | rfl | rfl
      · exact e0
      · exact e1
      · exact e2
      · exact e3
    obtain ⟨g, hg⟩ : ∃ g : Nat → Ch, ∀ i, i < len0 → ∀ j, j < 4 → W.cell? ((a.add (i * 4)).add j) = [Value.int .i64 (g i).lo, .int .i64 (g i).hi, .int .i64 (g i).fr, .int .i64 (g i).tt][j]? :=
      ⟨fun i => if h : i < len0 then (hex i h).choose else ⟨0, 0, 0, 0⟩, fun i h => by simp only [dif_pos h]; exact (hex i h).choose_spec⟩
    refine ⟨(List.range len0).map g, ⟨some a, cap0, by simp, fun hp => ?_⟩, .inr ⟨_, _, _, rfl⟩⟩
    have hp : 0 < len0 := by simpa using hp
    obtain ⟨b, o, s⟩ := a
    have h00 := hg 0 hp 0 (by decide)
    obtain rfl : s = none := by
      cases s with
      | none => rfl
      | some _ =>
        exfalso
        unfold World.cell? Addr.add at h00
        simp only [if_true] at h00
        split at h00 <;> simp at h00
    refine ⟨b, o, rfl, ?_, fun j hj => ?_⟩
    · have h1 : W.cell? ⟨b, o, none⟩ = some (.int .i64 (g 0).lo) := by simpa [Addr.add] using h00
      exact World.block_lt_of_cell? _ _ h1
    · have hj : j < len0 := by simpa using hj
      have k : ∀ i, i < 4 → W.cell? ⟨b, o + j * 4 + i, none⟩ = [Value.int .i64 (g j).lo, .int .i64 (g j).hi, .int .i64 (g j).fr, .int .i64 (g j).tt][i]? := fun i hi => by
        have := hg j hj i hi
        rwa [addz, addz] at this
      have e : ((List.range len0).map g)[j]'(by simpa using hj) = g j := by simp
      refine ⟨?_, ?_, ?_, ?_⟩
      · rw [e]; exact k 0 (by decide)
      · rw [e]; exact k 1 (by decide)
      · rw [e]; exact k 2 (by decide)
      · rw [e]; exact k 3 (by decide)
end
end
end Go.Proofs.Ytahgfggcpmnnaab
namespace Go.Proofs.Ytahgfggcpmnnaab
open Go Go.RowKit Go.Shelf Gs

attribute [local go_sem] Oper.semAt_some

/-- the changes within one run -/
def diff1 (x : R) (l : List R) : List Ch := (l.filter fun r => decide (r.tag ≠ x.tag)).map fun r => ⟨r.lo, r.hi, x.tag, r.tag⟩
/-- the changes from one list of runs to another -/
def diffE (la lb : List R) : List Ch := la.flatMap fun x => diff1 x (clip x.lo x.hi lb)
theorem diff1_snoc (x : R) (l : List R) (y : R) : diff1 x (l ++ [y]) = diff1 x l ++ (if y.tag = x.tag then [] else [⟨y.lo, y.hi, x.tag, y.tag⟩]) := by
  unfold diff1
  by_cases h : y.tag = x.tag
  · simp [h]
  · simp [h]
theorem diff1_len (x : R) (l : List R) : (diff1 x l).length ≤ l.length := by
  unfold diff1
  rw [List.length_map]
  exact List.length_filter_le _ _
theorem diffE_snoc (la : List R) (x : R) (lb : List R) : diffE (la ++ [x]) lb = diffE la lb ++ diff1 x (clip x.lo x.hi lb) := by
  unfold diffE
  rw [List.flatMap_append, List.flatMap_cons, List.flatMap_nil, List.append_nil]
theorem len_snoc {α : Type} (l : List α) (x : α) : (l ++ [x]).length = l.length + 1 := by simp
theorem cells4_new (w : World) (x y z u : Value) (t : TypeId) : ∀ j v, [x, y, z, u][j]? = some v → (w.alloc (.cells #[x, y, z, u] t)).cell? ((⟨w.heap.size, 0, none⟩ : Addr).add j) = some v := by
  intro j v hj
  match j, hj with
  | 0, hj => simp at hj; subst hj; exact World.cell?_alloc_at _ _ _ _ rfl
  | 1, hj => simp at hj; subst hj; exact World.cell?_alloc_at _ _ _ _ rfl
  | 2, hj => simp at hj; subst hj; exact World.cell?_alloc_at _ _ _ _ rfl
  | 3, hj => simp at hj; subst hj; exact World.cell?_alloc_at _ _ _ _ rfl
theorem infoCh : (Try.prog.info? 59).map (fun i => (i.zero, i.size, i.bytes)) = some (some (.agg #[.int .i64 0, .int .i64 0, .int .i64 0, .int .i64 0]), 4, 32) := by kernel_rfl
/-- a map's box, as a whole object -/
def Mh (W : World) (B : Nat) (p : Option Addr) (size : Int) : Prop := W.heap[B]? = some (.cells #[.pointer p, .int .i64 size] 27 (0, 0))
theorem Mh.lt {W : World} {B : Nat} {p : Option Addr} {size : Int} (h : Mh W B p size) : B < W.heap.size := (Array.getElem?_eq_some_iff.1 h).1
theorem Mh.kept {W W' : World} {row : Option Nat} {B : Nat} {p : Option Addr} {size : Int} (h : Mh W B p size) (hg : W.grownBy W' row) (hne : some B ≠ row) : Mh W' B p size := (hg.block B h.lt hne).trans h
theorem Mh.own (B : Nat) (p : Option Addr) (size : Int) : Own (fun (_ : Unit) W => Mh W B p size) := fun s X Y row hs hg hrow => hs.kept hg fun e' => by
  obtain ⟨o, ho, hc⟩ := hrow B e'.symm
  rw [show X.heap[B]? = _ from hs] at ho; cases ho; cases hc
theorem Mh.cell {W : World} {B : Nat} {p : Option Addr} {size : Int} (h : Mh W B p size) : W.cell? ⟨B, 0, none⟩ = some (.pointer p) := by
  have h' : W.heap[B]? = _ := h
  simp [World.cell?, h']
theorem Mh.alloc {W : World} {B : Nat} {p : Option Addr} {size : Int} (h : Mh W B p size) (o : Obj) : Mh (W.alloc o) B p size := (Below.heap_alloc W o B h.lt).trans h
theorem Rb.alloc {W : World} {B : Nat} {r : R} (h : Rb W B r) (o : Obj) : Rb (W.alloc o) B r := (Below.heap_alloc W o B h.lt).trans h
theorem Mh.other {W : World} {B B' : Nat} {p : Option Addr} {size : Int} (h : Mh W B p size) (hne : B ≠ B') (u : Value) : Mh (W.setCell ⟨B', 0, none⟩ u) B p size := h.kept (grownBy_setCell' W B' u) (fun e => hne (by cases e; rfl))
theorem Rb.other {W : World} {B B' : Nat} {r : R} (h : Rb W B r) (hne : B ≠ B') (u : Value) : Rb (W.setCell ⟨B', 0, none⟩ u) B r := h.kept (grownBy_setCell' W B' u) (fun e => hne (by cases e; rfl))
/-- a box of cells that is no row's block -/
theorem ne_row {W : World} {B : Nat} {cs : Array Value} {t e : TypeId} {fr : Nat × Nat} (h : W.heap[B]? = some (.cells cs t fr)) (hte : t ≠ e) {base size k : Nat} {v : Value} {xs : List Value} (hr : W.ownsRow base e size v k xs) : some B ≠ v.ownBlock := by
  rcases hr.2 with ⟨rfl, _⟩ | ⟨g, cap, cur, rfl, _, hgb, _⟩
  · simp [Value.ownBlock]
  · intro e'
    obtain rfl : B = g := by simpa [Value.ownBlock] using e'
    have := h.symm.trans hgb
    simp at this
    exact hte this.2.1
set_option maxRecDepth 100000 in
set_option maxHeartbeats 4000000 in
theorem Diff_any {f g : Int → Int} {size : Int} {W : World} {p q : Option Addr} (h : IsM f size W p) (h' : IsM g size W q) :
    ∃ La Lb, Gs.Can f 0 La size ∧ Gs.Can g 0 Lb size ∧ Calls Try.prog 19 #[.agg #[.pointer p, .int .i64 size], .agg #[.pointer q, .int .i64 size]] W fun e w' => ∃ v, e = .returned (.tuple #[v, .int .i64 0]) ∧
      Hid (w'.ownsRow W.heap.size 59 4 v (diffE La Lb).length ((diffE La Lb).flatMap encC)) ∧ Below W.heap.size W w' := by
  have hs := h.lo
  obtain ⟨bp, rfl⟩ := h.some
  obtain ⟨bq, rfl⟩ := h'.some
  obtain ⟨ta, a1, a2, a3⟩ := h.tr
  obtain ⟨tb, b1, b2, b3⟩ := h'.tr
  have hcl := Gs.Can.same (clip_can a2 (Int.le_refl 0) (by omega) (Int.le_refl size)) a2
  refine ⟨ta.L, tb.L, a2, b2, ?_⟩
  have hla : ta.L.length ≤ 4096 := by rw [← T.sz_eq]; exact a3
  have HLB : Hid (∀ lo hi, (clip lo hi tb.L).length ≤ 4096) := fun lo hi => Nat.le_trans (clip_len _ _ _) (by rw [← T.sz_eq]; exact b3)
  obtain ⟨w0, HW, hm, hr, hc, hlt, hb⟩ := two_maps W (some bp, size) (some bq, size) 27 27
  have hs0 : w0.heap.size = W.heap.size + 1 + 1 + 1 := by rw [HW]; simp
  have HCK : Hid (Calls Try.prog 42 #[.slice (some ⟨W.heap.size + 1 + 1, 0, none⟩) 2 2] w0 fun e w' => e = .returned (.int .i64 0) ∧ Below w0.heap.size w0 w') :=
    checkSizes_ok (W.heap.size + 1 + 1) 2 [(some bp, size), (some bq, size)] size 0 w0 hlt (fun j hj => by
      have : j = 0 ∨ j = 1 := by simp at hj; omega
      rcases this with rfl | rfl
      · exact ⟨hc 0 _ rfl, hc 1 _ rfl⟩
      · exact ⟨hc 2 _ rfl, hc 3 _ rfl⟩) (by simp) (by simp) (by simp) (hc 1 _ rfl) (fun _ => rfl) (by simp)
  have hmh : Mh w0 (W.heap.size + 1) (some ⟨bq, 0, none⟩) size := by
    have h2 := World.alloc_heap_new (W.alloc (.cells #[.pointer (some ⟨bp, 0, none⟩), .int .i64 size] 27)) (.cells #[.pointer (some ⟨bq, 0, none⟩), .int .i64 size] 27)
    rw [World.size_alloc] at h2
    rw [HW]
    exact (Below.heap_alloc _ _ _ (by simp)).trans h2
  have HM := Lib.hid hm; have HMH := Lib.hid hmh; have HB := Lib.hid hb; have HW' := Lib.hid HW; have HS0 := Lib.hid hs0
  have HTA : Hid (IsTB W.heap.size W ta (some ⟨bp, 0, none⟩)) := IsT.tb a1
  have HTB : Hid (IsTB W.heap.size W tb (some ⟨bq, 0, none⟩)) := IsT.tb b1
  have HA2 := Lib.hid a2; have HB2 := Lib.hid b2; have HCL := Lib.hid hcl
  have HMP : Hid ((MV.p (some bp, size)) = some ⟨bp, 0, none⟩) := rfl
  have HMQ : Hid ((MV.p (some bq, size)) = some ⟨bq, 0, none⟩) := rfl
  have HW2 : Hid (w0 = ((W.alloc (.cells #[.pointer (some ⟨bp, 0, none⟩), .int .i64 size] 27)).alloc (.cells #[.pointer (some ⟨bq, 0, none⟩), .int .i64 size] 27)).alloc (.cells #[.pointer (some ⟨bp, 0, none⟩), .int .i64 size, .pointer (some ⟨bq, 0, none⟩), .int .i64 size] 27)) := HW
  clear h h' a1 a2 a3 b1 b2 b3 hcl hm hr hc hlt hb hs0 hmh HW HW'
  refine (callsIn_wide (n := 20)).1 ?_
  refine callsIn_of_wp_marks Try.func19 rfl trivial ?_ rfl
  simp only [Try.ntmps19, List.size_toArray, List.length_cons, List.length_nil, Nat.reduceAdd, Nat.reduceSub, Array.replicate_succ, Array.replicate_zero, List.push_toArray, List.append_toArray, List.nil_append, List.cons_append]
  gi_wp2_with fail
  rw [← HW2.out]
  refine ⟨trivial, (callsIn_wide.2 HCK.out).mono ?_⟩
  rintro e w1 ⟨rfl, hb⟩
  have HM1 := Lib.hid (HM.out.next hb)
  have HMH1 : Hid (Mh w1 (W.heap.size + 1) (some ⟨bq, 0, none⟩) size) := (hb.block _ HMH.out.lt).trans HMH.out
  have HB1 := Lib.hid (HB.out.trans (hb.mono HB.out.size))
  have hs1 : W.heap.size + 1 + 1 + 1 ≤ w1.heap.size := by have := hb.size; have := HS0.out; omega
  obtain ⟨w2, HW2⟩ : ∃ w2, w2 = w1.alloc (.cells #[.slice none 0 0] 53) := ⟨_, rfl⟩
  have b2 : Below w1.heap.size w1 w2 := by rw [HW2]; exact (Below.refl _ _).alloc (Nat.le_refl _) _
  have o2 : Boxed w2 w1.heap.size 53 (.slice none 0 0) := by rw [HW2]; exact Boxed.new _ _ _
  have s2 : w2.heap.size = w1.heap.size + 1 := by rw [HW2]; simp
  obtain ⟨w3, HW3⟩ : ∃ w3, w3 = w2.alloc (.cells #[.pointer (some ⟨bp, 0, none⟩), .int .i64 size] 27) := ⟨_, rfl⟩
  have b3 : Below w2.heap.size w2 w3 := by rw [HW3]; exact (Below.refl _ _).alloc (Nat.le_refl _) _
  have s3 : w3.heap.size = w1.heap.size + 1 + 1 := by rw [HW3, World.size_alloc, s2]
  obtain ⟨q0, q1, q2, q3, q4⟩ := seq_cells w3 (some ⟨bp, 0, none⟩) 0 size
  rw [s3] at q0 q1 q2 q3
  have b4 := b3.trans (q4.mono b3.size)
  have HO4 : Hid (Boxed (seqW w3 (some ⟨bp, 0, none⟩) 0 size) w1.heap.size 53 (.slice none 0 0)) := (b4.block _ o2.lt).trans o2
  have b5 := b2.trans (b4.mono b2.size)
  have HMH4 : Hid (Mh (seqW w3 (some ⟨bp, 0, none⟩) 0 size) (W.heap.size + 1) (some ⟨bq, 0, none⟩) size) := (b5.block _ HMH1.out.lt).trans HMH1.out
  have HSB := Lib.hid (HB1.out.trans (b5.mono HB1.out.size))
  have HSQ := Lib.hid (seq_stops (n := 19) (n₀ := W.heap.size) (lo := 0) (hi := size) (by rw [q3]; omega) HSB.out.size q0 q1 q2 (HTA.out.below HSB.out) HA2.out)
  have HAL : Hid (CallsIn Fence.wide 19 Try.prog 43 #[.agg #[.pointer (some ⟨bp, 0, none⟩), .int .i64 size]] w2 fun e w' => e = .returned (seqV (w1.heap.size + 1 + 1)) ∧ w' = seqW w3 (some ⟨bp, 0, none⟩) 0 size) := callsIn_wide.2 (by rw [HW3, ← s2]; exact all_any _ _ w2)
  have HM2 := Lib.hid (HM1.out.next b2)
  have k0 := HM2.out.c0; have k1 := HM2.out.c1
  rw [HMP.out] at k0
  have HW2' := Lib.hid HW2
  generalize seqW w3 (some ⟨bp, 0, none⟩) 0 size = w4 at *
  clear hb b2 o2 s2 q0 q1 q2 q3 q4 b3 b4 b5 s3 HW2 HW3
  gi_upto_region 5 with fail
  rw [← HW2'.out]
  gi_wp2_with fail
  refine ⟨trivial, HAL.out.mono ?_⟩
  rintro e w' ⟨rfl, rfl⟩
  gi_wp2_with fail
  have hge : W.heap.size ≤ w'.heap.size := HSB.out.size
  have hBO : w1.heap.size < w'.heap.size := HO4.out.lt
  obtain ⟨i0, hi0, hz0, hz1, hz2⟩ := info_parts infoCh
  refine wpIn_rangeFunc_ownH rfl (by omega) (gf := 55) (lb := #[.pointer (some ⟨w1.heap.size + 1 + 1, 0, none⟩), .pointer (some ⟨w1.heap.size + 1 + 1 + 1, 0, none⟩), .pointer (some ⟨w1.heap.size + 1 + 1 + 1 + 1, 0, none⟩)]) rfl trivial (enters_of Try.func55 (by kernel_rfl) rfl)
    HSQ.out belowK_t (belowK_b hge) (Below.refl _ _) (fun _ => rfl)
    (fun pre W' => ((∃ v, Boxed W' w1.heap.size 53 v ∧ W'.ownsRow W.heap.size 59 4 v (diffE pre tb.L).length ((diffE pre tb.L).flatMap encC) ∧ True) ∧ Mh W' (W.heap.size + 1) (some ⟨bq, 0, none⟩) size ∧ (diffE pre tb.L).length ≤ pre.length * 4096) ∧ Below W.heap.size W W')
    (fun _ _ _ => False)
    (OwnFrom.and (Own.from (fun s A B row hs hg hr => ⟨holdsRow_own W.heap.size w1.heap.size 53 59 4 (fun pre : List R => (diffE pre tb.L).length) (fun pre => (diffE pre tb.L).flatMap encC) (fun _ _ => True) s A B row hs.1 hg hr, Mh.own (W.heap.size + 1) (some ⟨bq, 0, none⟩) size () A B row hs.2.1 hg hr, hs.2.2⟩) _) (ownFrom_below (Nat.le_refl _) hge))
    (fun _ _ _ _ _ hs _ _ => hs)
    ⟨⟨⟨_, HO4.out, World.ownsRow_nil _ _ _ _, trivial⟩, HMH4.out, Nat.zero_le _⟩, HSB.out⟩
    (fun x a' W' => ∃ Bx, w1.heap.size < Bx ∧ Rb W' Bx x ∧ a' = { tmps := #[.agg #[.pointer (some ⟨bp, 0, none⟩), .int .i64 size], .agg #[.pointer (some ⟨bq, 0, none⟩), .int .i64 size], .pointer (some ⟨W.heap.size, 0, none⟩), .pointer (some ⟨W.heap.size + 1, 0, none⟩), .slice none 0 0, .int .i64 0, .int .i64 0, .pointer (some ⟨w1.heap.size, 0, none⟩), .pointer (some ⟨Bx, 0, none⟩), undef, .agg #[.pointer (some ⟨bp, 0, none⟩), .int .i64 size], .agg #[.pointer (some ⟨bq, 0, none⟩), .int .i64 size], .slice (some ⟨W.heap.size + 1 + 1, 0, none⟩) 2 2, .int .i64 0, .int .i64 0, .bool false, undef, .agg #[.pointer (some ⟨bp, 0, none⟩), .int .i64 size], seqV (w1.heap.size + 1 + 1), .agg #[.int .i64 x.lo, .int .i64 x.hi, .int .i64 x.tag], undef, undef, undef, undef, undef, undef, undef, undef, undef, undef, undef, undef, undef, undef, undef, undef, undef, undef, undef, undef, undef, undef, undef, undef, undef, undef], defers := [] })
    (fun x a' => Own.from (fun s A B row hs hg hr => by
      obtain ⟨Bx, h1, h2, h3⟩ := hs
      exact ⟨Bx, h1, Rb.own Bx x () A B row h2 hg hr, h3⟩) _) ?assign ?body ?done ?stop
  case assign =>
    rintro l pre ⟨xa, xb, xc⟩ W' K ⟨⟨⟨v, g1, g2, -⟩, g3, g4⟩, g5⟩ hK
    unfold encR
    gi_wp2
    exact hK _ _ ((KeepsOthers.alloc _ _).from _) ((Below.refl _ W').alloc g5.size _) ⟨⟨⟨v, g1.alloc _, g2.alloc _, trivial⟩, g3.alloc _, g4⟩, g5.alloc g5.size _⟩ ⟨W'.heap.size, g1.lt, Rb.new W' ⟨xa, xb, xc⟩, rfl⟩
  case body =>
    rintro l pre ⟨xa, xb, xc⟩ a' W' hl ⟨r, hr⟩ ⟨⟨⟨v, g1, g2, -⟩, g3, g4⟩, g5⟩ ⟨Bx, hBx, bX, rfl⟩ hlt
    have hla2 : pre.length < 4096 := by rw [HCL.out] at hlt; omega
    have m0 := g3.cell
    obtain ⟨r0, r1, r2⟩ := bX.cells
    simp only at r0 r1 r2
    obtain ⟨q0, q1, q2, q3, q4⟩ := seq_cells W' (some ⟨bq, 0, none⟩) xa xb
    have HWI : Hid (CallsIn Fence.wide 17 Try.prog 39 #[.pointer (some ⟨bq, 0, none⟩), .int .i64 xa, .int .i64 xb] W' fun e w' => e = .returned (seqV W'.heap.size) ∧ w' = seqW W' (some ⟨bq, 0, none⟩) xa xb) := callsIn_wide.2 (within_any _ _ _ W')
    have i1 : Boxed (seqW W' (some ⟨bq, 0, none⟩) xa xb) w1.heap.size 53 v := ((g1.alloc _).alloc _).alloc _
    have i2 : (seqW W' (some ⟨bq, 0, none⟩) xa xb).ownsRow W.heap.size 59 4 v (diffE pre tb.L ++ diff1 ⟨xa, xb, xc⟩ []).length ((diffE pre tb.L ++ diff1 ⟨xa, xb, xc⟩ []).flatMap encC) := by
      rw [show diff1 ⟨xa, xb, xc⟩ [] = [] from rfl, List.append_nil]
      exact ((g2.alloc _).alloc _).alloc _
    have i3 : Mh (seqW W' (some ⟨bq, 0, none⟩) xa xb) (W.heap.size + 1) (some ⟨bq, 0, none⟩) size := ((g3.alloc _).alloc _).alloc _
    have i4 : Rb (seqW W' (some ⟨bq, 0, none⟩) xa xb) Bx ⟨xa, xb, xc⟩ := ((bX.alloc _).alloc _).alloc _
    have i5 : KeepsFrom w'.heap.size W' (seqW W' (some ⟨bq, 0, none⟩) xa xb) := (((KeepsOthers.alloc _ _).trans (KeepsOthers.alloc _ _)).trans (KeepsOthers.alloc _ _)).from _
    have hr' : (seqW W' (some ⟨bq, 0, none⟩) xa xb).heap[l]? = some (.loop r) := (q4.block l (Array.getElem?_eq_some_iff.1 hr).1).trans hr
    have i6 : Below W.heap.size W' (seqW W' (some ⟨bq, 0, none⟩) xa xb) := q4.mono g5.size
    have hsz5 := Nat.le_trans g5.size q4.size
    have i7 : W.heap.size ≤ (seqW W' (some ⟨bq, 0, none⟩) xa xb).heap.size := hsz5
    have i8 : w'.heap.size ≤ W'.heap.size := by have := (Array.getElem?_eq_some_iff.1 hr).1; omega
    have HSQ2 := Lib.hid (seq_stops (n := 17) (n₀ := W.heap.size) (lo := xa) (hi := xb) (w := seqW W' (some ⟨bq, 0, none⟩) xa xb) (B := W'.heap.size) (by rw [q3]; omega) hsz5 q0 q1 q2 (HTB.out.below (g5.trans i6)) HB2.out)
    have G5 := Lib.hid g5
    clear q0 q1 q2 q3 q4 g1 g2 bX hsz5 g5 hlt
    generalize seqW W' (some ⟨bq, 0, none⟩) xa xb = w5 at *
    gi_wp2_with (refine ⟨trivial, ?_⟩; gi_at_call 39; refine (CallsIn.inRound l HWI.out).mono ?_; rintro e w6 ⟨rfl, rfl⟩)
    refine wpIn_rangeFunc_ownN (l₀ := l) (r₀ := r) rfl hr' (by omega) (gf := 55) (lb := #[.pointer (some ⟨W'.heap.size, 0, none⟩), .pointer (some ⟨W'.heap.size + 1, 0, none⟩), .pointer (some ⟨W'.heap.size + 1 + 1, 0, none⟩)]) rfl trivial (enters_of Try.func55 (by kernel_rfl) rfl)
      (HSQ2.out.inRound l) belowK_t (belowK_b i7) (Below.refl _ _) (fun _ => rfl)
      (fun pre' W'' => ((∃ v, Boxed W'' w1.heap.size 53 v ∧ W''.ownsRow W.heap.size 59 4 v (diffE pre tb.L ++ diff1 ⟨xa, xb, xc⟩ pre').length ((diffE pre tb.L ++ diff1 ⟨xa, xb, xc⟩ pre').flatMap encC) ∧ True) ∧ (Mh W'' (W.heap.size + 1) (some ⟨bq, 0, none⟩) size ∧ Rb W'' Bx ⟨xa, xb, xc⟩) ∧ (diffE pre tb.L ++ diff1 ⟨xa, xb, xc⟩ pre').length ≤ pre.length * 4096 + pre'.length) ∧ (Below W.heap.size W' W'' ∧ KeepsFrom w'.heap.size W' W''))
      (fun _ _ _ => False)
      (OwnFrom.and (Own.from (fun s A B row hs hg hr => ⟨holdsRow_own W.heap.size w1.heap.size 53 59 4 (fun pre' : List R => (diffE pre tb.L ++ diff1 ⟨xa, xb, xc⟩ pre').length) (fun pre' => (diffE pre tb.L ++ diff1 ⟨xa, xb, xc⟩ pre').flatMap encC) (fun _ _ => True) s A B row hs.1 hg hr, ⟨Mh.own (W.heap.size + 1) (some ⟨bq, 0, none⟩) size () A B row hs.2.1.1 hg hr, Rb.own Bx ⟨xa, xb, xc⟩ () A B row hs.2.1.2 hg hr⟩, hs.2.2⟩) _) (OwnFrom.and (ownFrom_below G5.out.size i7) (ownFrom_keepsFrom i5.size)))
      (fun _ _ _ _ _ hs _ _ => hs)
      ⟨⟨⟨_, i1, i2, trivial⟩, ⟨i3, i4⟩, by rw [show diff1 ⟨xa, xb, xc⟩ [] = [] from rfl, List.append_nil]; exact g4⟩, i6, i5⟩
      (fun y a'' W'' => ∃ By, w1.heap.size < By ∧ Rb W'' By y ∧ a'' = { tmps := #[.agg #[.pointer (some ⟨bp, 0, none⟩), .int .i64 size], .agg #[.pointer (some ⟨bq, 0, none⟩), .int .i64 size], .pointer (some ⟨W.heap.size, 0, none⟩), .pointer (some ⟨W.heap.size + 1, 0, none⟩), .slice none 0 0, .int .i64 0, .int .i64 0, .pointer (some ⟨w1.heap.size, 0, none⟩), .pointer (some ⟨Bx, 0, none⟩), .pointer (some ⟨By, 0, none⟩), .agg #[.pointer (some ⟨bp, 0, none⟩), .int .i64 size], .agg #[.pointer (some ⟨bq, 0, none⟩), .int .i64 size], .slice (some ⟨W.heap.size + 1 + 1, 0, none⟩) 2 2, .int .i64 0, .int .i64 0, .bool false, undef, .agg #[.pointer (some ⟨bp, 0, none⟩), .int .i64 size], seqV (w1.heap.size + 1 + 1), .agg #[.int .i64 xa, .int .i64 xb, .int .i64 xc], .pointer (some ⟨W.heap.size + 1, 0, none⟩), .pointer (some ⟨bq, 0, none⟩), .pointer (some ⟨Bx, 0, none⟩), .int .i64 xa, .pointer (some ⟨Bx, 1, none⟩), .int .i64 xb, seqV W'.heap.size, .agg #[.int .i64 y.lo, .int .i64 y.hi, .int .i64 y.tag], undef, undef, undef, undef, undef, undef, undef, undef, undef, undef, undef, undef, undef, undef, undef, undef, undef, undef], defers := [] })
      (fun y a'' => Own.from (fun s A B row hs hg hr => by
        obtain ⟨By, h1, h2, h3⟩ := hs
        exact ⟨By, h1, Rb.own By y () A B row h2 hg hr, h3⟩) _) ?assign2 ?body2 ?done2 ?stop2
    case assign2 =>
      rintro l2 pre' ⟨ya, yb, yc⟩ W'' K ⟨⟨⟨v, c1, c2, -⟩, ⟨c3, c4⟩, c5⟩, hBW, hKF⟩ hK
      unfold encR
      gi_wp2
      exact hK _ _ ((KeepsOthers.alloc _ _).from _) ((Below.refl _ W'').alloc (Nat.le_trans G5.out.size hBW.size) _) ⟨⟨⟨v, c1.alloc _, c2.alloc _, trivial⟩, ⟨c3.alloc _, c4.alloc _⟩, c5⟩, hBW.alloc (Nat.le_trans G5.out.size hBW.size) _, hKF.trans ((KeepsOthers.alloc _ _).from _)⟩ ⟨W''.heap.size, c1.lt, Rb.new W'' ⟨ya, yb, yc⟩, rfl⟩
    case body2 =>
      rintro l2 pre' ⟨ya, yb, yc⟩ a'' W'' _ _ ⟨⟨⟨v, c1, c2, -⟩, ⟨c3, c4⟩, c5⟩, hBW, hKF⟩ ⟨By, hBy, bY, rfl⟩ hlt2
      have hl3 := HLB.out xa xb
      obtain ⟨XL, HXL⟩ : ∃ XL, XL = diffE pre tb.L ++ diff1 ⟨xa, xb, xc⟩ pre' := ⟨_, rfl⟩
      rw [← HXL] at c2 c5
      have HXL' := Lib.hid HXL
      clear HXL
      have HXL := HXL'
      clear HXL'
      have hml : XL.length + 1 ≤ maxLen := Nat.le_trans (show _ ≤ 20000000 by omega) (by decide)
      have hsz2 : W.heap.size ≤ W''.heap.size := Nat.le_trans G5.out.size hBW.size
      have hc0 := c1.cell
      obtain ⟨r0, r1, r2⟩ := c4.cells
      obtain ⟨y0, y1, y2⟩ := bY.cells
      simp only at r0 r1 r2 y0 y1 y2
      obtain ⟨va, vc, rfl⟩ := own_slice c2
      have hBXn : Bx ≠ w1.heap.size := by omega
      have hMn : W.heap.size + 1 ≠ w1.heap.size := by omega
      by_cases m : yc = xc
      · subst m
        have c2' : W''.ownsRow W.heap.size 59 4 (.slice va XL.length vc) (diffE pre tb.L ++ diff1 ⟨xa, xb, yc⟩ (pre' ++ [⟨ya, yb, yc⟩])).length ((diffE pre tb.L ++ diff1 ⟨xa, xb, yc⟩ (pre' ++ [⟨ya, yb, yc⟩])).flatMap encC) := by
          rw [diff1_snoc, if_pos rfl, List.append_nil, ← HXL.out]
          exact c2
        have c5' : (diffE pre tb.L ++ diff1 ⟨xa, xb, yc⟩ (pre' ++ [⟨ya, yb, yc⟩])).length ≤ pre.length * 4096 + (pre' ++ [(⟨ya, yb, yc⟩ : R)]).length := by
          rw [diff1_snoc, if_pos rfl, List.append_nil, ← HXL.out, len_snoc pre']
          omega
        clear c2 c5
        gi_wp2
        first
        | exact ⟨KeepsFrom.refl _ _, Below.refl _ _, ⟨⟨_, c1, c2'⟩, ⟨c3, c4⟩, c5'⟩, hBW, hKF⟩
        | exact ⟨KeepsFrom.refl _ _, Below.refl _ _, ⟨⟨_, c1, c2', trivial⟩, ⟨c3, c4⟩, c5'⟩, hBW, hKF⟩
      · have n3 : (yc == xc) = false := beq_eq_false_iff_ne.2 m
        have HM := Lib.hid m
        clear m
        gi_wp2_with (gi_at_builtin; refine wpListIn_append_own _ rfl _ _ 53 rfl W.heap.size 59 i0 (.agg #[.int .i64 0, .int .i64 0, .int .i64 0, .int .i64 0]) 4 32 Try.underlying53 hi0 hz0 hz1 hz2 rfl (by decide) _ _ _ rfl (c2.alloc _) ⟨W''.heap.size, 0, none⟩ 1 1 [.int .i64 ya, .int .i64 yb, .int .i64 xc, .int .i64 yc] rfl rfl (cells4_new _ _ _ _ _ _) (by simp [Value.oneCell']) (by omega) (by omega) (by simp; omega) ?_; intro v' w7 hown' hgrow _; obtain ⟨g', cap', rfl⟩ := ownsRow_succ hown'; obtain ⟨hv1, hv2, hr2, hk2, hb2⟩ := c1.appended (by decide) c2 hsz2 (by omega) hown' hgrow; have hc1 := hv1.cell; have hf1 := hv1.frozen)
        have hr3 : (w7.setCell ⟨w1.heap.size, 0, none⟩ (.slice (some ⟨g', 0, none⟩) (XL.length + 1) cap')).ownsRow W.heap.size 59 4 (.slice (some ⟨g', 0, none⟩) (XL.length + 1) cap') (diffE pre tb.L ++ diff1 ⟨xa, xb, xc⟩ (pre' ++ [⟨ya, yb, yc⟩])).length ((diffE pre tb.L ++ diff1 ⟨xa, xb, xc⟩ (pre' ++ [⟨ya, yb, yc⟩])).flatMap encC) := by
          rw [diff1_snoc, if_neg HM.out, ← List.append_assoc, ← HXL.out, len_snoc, List.flatMap_append (ys := [_])]
          exact hr2
        have c5' : (diffE pre tb.L ++ diff1 ⟨xa, xb, xc⟩ (pre' ++ [⟨ya, yb, yc⟩])).length ≤ pre.length * 4096 + (pre' ++ [(⟨ya, yb, yc⟩ : R)]).length := by
          rw [diff1_snoc, if_neg HM.out, ← List.append_assoc, ← HXL.out, len_snoc, len_snoc pre']
          omega
        have hmh : Mh (w7.setCell ⟨w1.heap.size, 0, none⟩ (.slice (some ⟨g', 0, none⟩) (XL.length + 1) cap')) (W.heap.size + 1) (some ⟨bq, 0, none⟩) size := ((c3.alloc _).kept hgrow (ne_row c3 (by decide) c2)).other hMn _
        have hrb : Rb (w7.setCell ⟨w1.heap.size, 0, none⟩ (.slice (some ⟨g', 0, none⟩) (XL.length + 1) cap')) Bx ⟨xa, xb, xc⟩ := ((c4.alloc _).kept hgrow (ne_row c4 (by decide) c2)).other hBXn _
        first
        | exact ⟨hk2.from _, hb2, ⟨⟨_, hv2, hr3⟩, ⟨hmh, hrb⟩, c5'⟩, hBW.trans hb2, hKF.trans (hk2.from _)⟩
        | exact ⟨hk2.from _, hb2, ⟨⟨_, hv2, hr3, trivial⟩, ⟨hmh, hrb⟩, c5'⟩, hBW.trans hb2, hKF.trans (hk2.from _)⟩
    case done2 =>
      rintro ys' W'' rfl ⟨⟨⟨v, c1, c2, -⟩, ⟨c3, c4⟩, c5⟩, hBW, hKF⟩
      have hl3 := HLB.out xa xb
      have c2' : W''.ownsRow W.heap.size 59 4 v (diffE (pre ++ [⟨xa, xb, xc⟩]) tb.L).length ((diffE (pre ++ [⟨xa, xb, xc⟩]) tb.L).flatMap encC) := by
        rw [diffE_snoc]
        exact c2
      have c5' : (diffE (pre ++ [⟨xa, xb, xc⟩]) tb.L).length ≤ (pre ++ [(⟨xa, xb, xc⟩ : R)]).length * 4096 := by
        rw [diffE_snoc, List.length_append, len_snoc pre, ← List.length_append]
        show (diffE pre tb.L ++ diff1 ⟨xa, xb, xc⟩ (clip xa xb tb.L)).length ≤ _
        omega
      clear c2 c5
      gi_wp2
      first
      | exact ⟨hKF, hBW, ⟨⟨_, c1, c2'⟩, c3, c5'⟩, G5.out.trans hBW⟩
      | exact ⟨hKF, hBW, ⟨⟨_, c1, c2', trivial⟩, c3, c5'⟩, G5.out.trans hBW⟩
    case stop2 =>
      rintro c pre' W'' _ h
      exact h.elim
  case done =>
    rintro D ys W' hD rfl ⟨⟨⟨v, g1, g2, -⟩, g3, g4⟩, g5⟩ hK
    have hc0 := g1.cell
    obtain ⟨va, vc, rfl⟩ := own_slice g2
    have HE := Lib.hid hc0
    have HK := Lib.hid hK
    gi_wp2
    refine ⟨by simp, .inl ⟨_, _, rfl, run_takeDeferred HK.out, ?_⟩⟩
    refine ⟨.tuple #[.slice va (diffE (clip 0 size ta.L) tb.L).length vc, .int .i64 0], by simp [results, Try.results19, go_sem], _, rfl, (by rw [HCL.out] at g2 ⊢; exact ownsRow_putObj g2 _ HK.out rfl), g5.trans (belowK_b (w := W) (Nat.le_refl _) W' D _ _ (by omega) HK.out rfl rfl)⟩
  case stop =>
    rintro D c pre' W' _ _ h _
    exact h.elim
end Go.Proofs.Ytahgfggcpmnnaab
namespace Go.Proofs.Ytahgfggcpmnnaab
open Go Go.RowKit Gs

/-- a list of changes, one behind the other, from f to g; elsewhere the two are the same -/
def Dfs (f g : Int → Int) : Int → List Ch → Int → Prop
  | a, [], b => ∀ p, a ≤ p → p < b → f p = g p
  | a, c :: D, b => a ≤ c.lo ∧ c.lo < c.hi ∧ c.hi ≤ b ∧ (∀ p, a ≤ p → p < c.lo → f p = g p) ∧ (∀ p, c.lo ≤ p → p < c.hi → f p = c.fr ∧ g p = c.tt) ∧ c.fr ≠ c.tt ∧ Dfs f g c.hi D b
theorem Dfs.back {f g : Int → Int} {a a' b : Int} (ha : a ≤ a') (h : ∀ p, a ≤ p → p < a' → f p = g p) : ∀ {D : List Ch}, Dfs f g a' D b → Dfs f g a D b
  | [], hd => fun p p1 p2 => if h' : p < a' then h p p1 h' else hd p (by omega) p2
  | c :: D, hd => by
    obtain ⟨h1, h2, h3, h4, h5, h6, h7⟩ := hd
    exact ⟨by omega, h2, h3, fun p p1 p2 => if h' : p < a' then h p p1 h' else h4 p (by omega) p2, h5, h6, h7⟩
/-- the pair of tags, as one number -/
def pr (f g : Int → Int) (p : Int) : Int := 16 * f p + g p
/-- the changes among runs of pairs -/
def dec (K : List R) : List Ch := (K.filter fun r => decide (r.tag / 16 ≠ r.tag % 16)).map fun r => ⟨r.lo, r.hi, r.tag / 16, r.tag % 16⟩
theorem dec_append (K L : List R) : dec (K ++ L) = dec K ++ dec L := by unfold dec; rw [List.filter_append, List.map_append]
theorem dec_cons (r : R) (K : List R) : dec (r :: K) = (if r.tag / 16 = r.tag % 16 then [] else [⟨r.lo, r.hi, r.tag / 16, r.tag % 16⟩]) ++ dec K := by
  by_cases h : r.tag / 16 = r.tag % 16 <;> simp [dec, h]
theorem dec_dfs {f g : Int → Int} : ∀ {K : List R} {a b : Int}, Fits (pr f g) a K b → (∀ p, a ≤ p → p < b → 0 ≤ f p ∧ f p < 16 ∧ 0 ≤ g p ∧ g p < 16) → Dfs f g a (dec K) b
  | [], a, b, h, _ => fun p p1 p2 => by
    have h : a = b := h
    omega
  | r :: K, a, b, h, hb => by
    have h1 := h.1; have h2 := h.2.1; have h3 := h.2.2.1; have h4 := h.2.2.2
    have hle := h4.le
    have hf : ∀ p, r.lo ≤ p → p < r.hi → f p = r.tag / 16 ∧ g p = r.tag % 16 := fun p p1 p2 => by
      have e := h3 p p1 p2
      have := hb p (by omega) (by omega)
      unfold pr at e
      omega
    have ih := dec_dfs h4 fun p p1 p2 => hb p (by omega) p2
    rw [dec_cons]
    by_cases e : r.tag / 16 = r.tag % 16
    · rw [if_pos e, List.nil_append]
      exact ih.back (by omega) fun p p1 p2 => by
        have := hf p (by omega) p2
        rw [this.1, this.2, e]
    · rw [if_neg e]
      exact ⟨by show a ≤ r.lo; omega, h2, hle, fun p p1 p2 => by have p2 : p < r.lo := p2; omega, hf, e, ih⟩
/-- the runs of pairs -/
def rl (la lb : List R) : List R := la.flatMap fun x => (clip x.lo x.hi lb).map fun r => ⟨r.lo, r.hi, 16 * x.tag + r.tag⟩
theorem Can.map {f h : Int → Int} (s : Int → Int) : ∀ {K : List R} {a b : Int}, Gs.Can f a K b → (∀ p, a ≤ p → p < b → h p = s (f p)) → (∀ p q, a ≤ p → p < b → a ≤ q → q < b → s (f p) = s (f q) → f p = f q) → Gs.Can h a (K.map fun r => ⟨r.lo, r.hi, s r.tag⟩) b
  | [], a, b, hc, _, _ => by
    have e : a = b := hc.1
    subst e
    exact Gs.Can.nil h a
  | r :: K, a, b, hc, hh, hi => by
    have h0 : Gs.Can f a ([] ++ r :: K) b := hc
    obtain ⟨m1, m2, m3, m4, _, m6⟩ := h0.mid
    have ea : a = r.lo := m1.1
    have hle := m2.le
    have ih := Can.map s m2 (fun p p1 p2 => hh p (by omega) p2) (fun p q p1 p2 q1 q2 => hi p q (by omega) p2 (by omega) q2)
    have := Gs.Can.make (f := h) (a := a) (b := b) (l := []) (k := K.map fun r => ⟨r.lo, r.hi, s r.tag⟩) (r := ⟨r.lo, r.hi, s r.tag⟩) (by show Gs.Can h a [] r.lo; rw [← ea]; exact Gs.Can.nil h a) ih m3 (fun p p1 p2 => by
      have p1 : r.lo ≤ p := p1
      have p2 : p < r.hi := p2
      show h p = s r.tag
      rw [hh p (by omega) (by omega), m4 p p1 p2]) (fun h' => by have h' : a < r.lo := h'; omega) (fun h' => by
      have h' : r.hi < b := h'
      show h (r.hi - 1) ≠ h r.hi
      rw [hh (r.hi - 1) (by omega) (by omega), hh r.hi (by omega) h']
      exact fun e => m6 h' (hi _ _ (by omega) (by omega) (by omega) h' e))
    exact this
theorem rl_can {f g : Int → Int} {lb : List R} {size : Int} (hlb : Gs.Can g 0 lb size) : ∀ {la : List R} {a : Int}, Gs.Can f a la size → 0 ≤ a → (∀ p, 0 ≤ p → p < size → 0 ≤ f p ∧ f p < 16 ∧ 0 ≤ g p ∧ g p < 16) → Gs.Can (pr f g) a (rl la lb) size
  | [], a, h, _, _ => by
    have e : a = size := h.1
    subst e
    exact Gs.Can.nil _ _
  | x :: la, a, h, ha, hb => by
    have h0 : Gs.Can f a ([] ++ x :: la) size := h
    obtain ⟨m1, m2, m3, m4, _, m6⟩ := h0.mid
    have ea : a = x.lo := m1.1
    have hle := m2.le
    have ih := rl_can hlb m2 (by omega) hb
    have hc := clip_can (lo := x.lo) (hi := x.hi) hlb (by omega) (by omega) (by omega)
    have hm := Can.map (h := pr f g) (fun t => 16 * x.tag + t) hc (fun p p1 p2 => by
      show 16 * f p + g p = 16 * x.tag + g p
      rw [m4 p p1 p2]) (fun p q _ _ _ _ e => by
      have e : 16 * x.tag + g p = 16 * x.tag + g q := e
      omega)
    rw [ea]
    show Gs.Can (pr f g) x.lo ((clip x.lo x.hi lb).map (fun r => ⟨r.lo, r.hi, 16 * x.tag + r.tag⟩) ++ rl la lb) size
    refine hm.join ih fun _ h' => ?_
    have := m6 h'
    have b1 := hb (x.hi - 1) (by omega) (by omega)
    have b2 := hb x.hi (by omega) h'
    unfold pr
    omega
theorem dec_enc (x : R) (hx : 0 ≤ x.tag ∧ x.tag < 16) : ∀ (l : List R), (∀ r ∈ l, 0 ≤ r.tag ∧ r.tag < 16) → dec (l.map fun r => ⟨r.lo, r.hi, 16 * x.tag + r.tag⟩) = diff1 x l
  | [], _ => rfl
  | r :: l, h => by
    have hr := h r (List.mem_cons_self ..)
    have ih := dec_enc x hx l fun y hy => h y (List.mem_cons_of_mem _ hy)
    rw [List.map_cons, dec_cons, ih]
    have e1 : (16 * x.tag + r.tag) / 16 = x.tag := by omega
    have e2 : (16 * x.tag + r.tag) % 16 = r.tag := by omega
    simp only [e1, e2]
    by_cases e : x.tag = r.tag
    · rw [if_pos e]; simp [diff1, e]
    · rw [if_neg e]; simp [diff1, Ne.symm e]
theorem fits_tags {f : Int → Int} {l : List R} {a b : Int} (h : Fits f a l b) (hb : ∀ p, a ≤ p → p < b → 0 ≤ f p ∧ f p < 16) : ∀ r ∈ l, 0 ≤ r.tag ∧ r.tag < 16 := by
  induction l generalizing a with
  | nil => intro r hr; cases hr
  | cons x l ih =>
    intro r hr
    have h2 := h.2.1; have h3 := h.2.2.1; have h4 := h.2.2.2; have h1 := h.1
    have hle := h4.le
    rcases List.mem_cons.1 hr with e | e
    · subst e
      rw [← h3 r.lo (Int.le_refl _) h2]
      exact hb _ (by omega) (by omega)
    · exact ih h4 (fun p p1 p2 => hb p (by omega) p2) r e
theorem clip_tags {l : List R} {lo hi : Int} (h : ∀ r ∈ l, 0 ≤ r.tag ∧ r.tag < 16) : ∀ r ∈ clip lo hi l, 0 ≤ r.tag ∧ r.tag < 16 := by
  intro r hr
  obtain ⟨x, hx, hr⟩ := List.mem_flatMap.1 hr
  unfold clip1 at hr
  split at hr
  · rw [List.mem_singleton.1 hr]; exact h x hx
  · cases hr
theorem diff_dec {lb : List R} (hb : ∀ r ∈ lb, 0 ≤ r.tag ∧ r.tag < 16) : ∀ {la : List R}, (∀ r ∈ la, 0 ≤ r.tag ∧ r.tag < 16) → diffE la lb = dec (rl la lb)
  | [], _ => rfl
  | x :: la, h => by
    show diff1 x (clip x.lo x.hi lb) ++ diffE la lb = dec ((clip x.lo x.hi lb).map (fun r => ⟨r.lo, r.hi, 16 * x.tag + r.tag⟩) ++ rl la lb)
    rw [dec_append, dec_enc x (h x (List.mem_cons_self ..)) _ (clip_tags hb), diff_dec hb fun y hy => h y (List.mem_cons_of_mem _ hy)]
/-- **the changes lead from f to g** -/
theorem diff_dfs {f g : Int → Int} {la lb : List R} {size : Int} (ha : Gs.Can f 0 la size) (hb : Gs.Can g 0 lb size) (cf : Ctx f 0 size) (cg : Ctx g 0 size) : Dfs f g 0 (diffE la lb) size := by
  have hB : ∀ p, 0 ≤ p → p < size → 0 ≤ f p ∧ f p < 16 ∧ 0 ≤ g p ∧ g p < 16 := fun p p1 p2 => ⟨(cf.2.2 p p1 p2).1, (cf.2.2 p p1 p2).2, (cg.2.2 p p1 p2).1, (cg.2.2 p p1 p2).2⟩
  rw [diff_dec (fits_tags hb.1 cg.2.2) (fits_tags ha.1 cf.2.2)]
  exact dec_dfs (rl_can hb ha (Int.le_refl 0) hB).1 hB
/-- a change the other way -/
def Ch.swap (c : Ch) : Ch := ⟨c.lo, c.hi, c.tt, c.fr⟩
theorem dec_swap : ∀ (K : List R), (∀ r ∈ K, 0 ≤ r.tag ∧ r.tag < 256) → dec (K.map fun r => ⟨r.lo, r.hi, 16 * (r.tag % 16) + r.tag / 16⟩) = (dec K).map Ch.swap
  | [], _ => rfl
  | r :: K, h => by
    have hr := h r (List.mem_cons_self ..)
    have ih := dec_swap K fun y hy => h y (List.mem_cons_of_mem _ hy)
    rw [List.map_cons, dec_cons, dec_cons, ih, List.map_append]
    have e1 : (16 * (r.tag % 16) + r.tag / 16) / 16 = r.tag % 16 := by omega
    have e2 : (16 * (r.tag % 16) + r.tag / 16) % 16 = r.tag / 16 := by omega
    simp only [e1, e2]
    by_cases e : r.tag / 16 = r.tag % 16
    · rw [if_pos e, if_pos e.symm]; rfl
    · rw [if_neg e, if_neg (fun h => e h.symm)]; rfl
/-- **the changes back are the changes exchanged** -/
theorem diff_swap {f g : Int → Int} {la lb : List R} {size : Int} (ha : Gs.Can f 0 la size) (hb : Gs.Can g 0 lb size) (cf : Ctx f 0 size) (cg : Ctx g 0 size) : diffE lb la = (diffE la lb).map Ch.swap := by
  have hB : ∀ p, 0 ≤ p → p < size → 0 ≤ f p ∧ f p < 16 ∧ 0 ≤ g p ∧ g p < 16 := fun p p1 p2 => ⟨(cf.2.2 p p1 p2).1, (cf.2.2 p p1 p2).2, (cg.2.2 p p1 p2).1, (cg.2.2 p p1 p2).2⟩
  have hB' : ∀ p, 0 ≤ p → p < size → 0 ≤ g p ∧ g p < 16 ∧ 0 ≤ f p ∧ f p < 16 := fun p p1 p2 => by have := hB p p1 p2; omega
  rw [diff_dec (fits_tags hb.1 cg.2.2) (fits_tags ha.1 cf.2.2), diff_dec (fits_tags ha.1 cf.2.2) (fits_tags hb.1 cg.2.2)]
  have h1 := rl_can hb ha (Int.le_refl 0) hB
  have h2 := rl_can ha hb (Int.le_refl 0) hB'
  have h3 := Can.map (h := pr g f) (fun t => 16 * (t % 16) + t / 16) h1 (fun p p1 p2 => by
    have := hB p p1 p2
    show 16 * g p + f p = 16 * ((16 * f p + g p) % 16) + (16 * f p + g p) / 16
    omega) (fun p q p1 p2 q1 q2 e => by
    have e : 16 * ((16 * f p + g p) % 16) + (16 * f p + g p) / 16 = 16 * ((16 * f q + g q) % 16) + (16 * f q + g q) / 16 := e
    have b1 := hB p p1 p2
    have b2 := hB q q1 q2
    show 16 * f p + g p = 16 * f q + g q
    omega)
  rw [h2.same h3]
  refine dec_swap _ fun r hr => ?_
  have : ∀ {K : List R} {a : Int}, 0 ≤ a → Fits (pr f g) a K size → ∀ r ∈ K, 0 ≤ r.tag ∧ r.tag < 256 := by
    intro K
    induction K with
    | nil => intro a _ _ r hr; cases hr
    | cons x K ih =>
      intro a ha hF r hr
      have f1 := hF.1; have f2 := hF.2.1; have f3 := hF.2.2.1; have f4 := hF.2.2.2
      have hle := f4.le
      rcases List.mem_cons.1 hr with e | e
      · subst e
        have := hB r.lo (by omega) (by omega)
        have e2 := f3 r.lo (Int.le_refl _) f2
        unfold pr at e2
        omega
      · exact ih (by omega) f4 r e
  exact this (Int.le_refl 0) h1.1 r hr
theorem Dfs.nil_iff {f g : Int → Int} {la lb : List R} {size : Int} (ha : Gs.Can f 0 la size) (hb : Gs.Can g 0 lb size) (h : Dfs f g 0 (diffE la lb) size) : diffE la lb = [] ↔ la = lb := by
  constructor
  · intro e
    rw [e] at h
    exact (ha.congr h).same hb
  · intro e
    subst e
    have hfg : ∀ p, 0 ≤ p → p < size → f p = g p := by
      have : ∀ {l : List R} {a b : Int}, Fits f a l b → Fits g a l b → ∀ p, a ≤ p → p < b → f p = g p := by
        intro l
        induction l with
        | nil => intro a b h1 _ p p1 p2; have h1 : a = b := h1; omega
        | cons x l ih =>
          intro a b h1 h2 p p1 p2
          have e1 := h1.1
          by_cases hp : p < x.hi
          · rw [h1.2.2.1 p (by omega) hp, h2.2.2.1 p (by omega) hp]
          · exact ih h1.2.2.2 h2.2.2.2 p (by omega) p2
      exact this ha.1 hb.1
    cases hD : diffE la la with
    | nil => rfl
    | cons c D =>
      rw [hD] at h
      obtain ⟨h1, h2, h3, _, h5, h6, _⟩ := h
      have e1 := h5 c.lo (Int.le_refl _) h2
      have e2 := hfg c.lo h1 (by omega)
      rw [e1.1, e1.2] at e2
      exact absurd e2 h6
/-- a canonical list is the shortest -/
theorem can_short {f : Int → Int} : ∀ {l k : List R} {a b : Int}, Gs.Can f a k b → Fits f a l b → k.length ≤ l.length
  | [], k, a, b, hk, hl => by
    have e : a = b := hl
    cases k with
    | nil => exact Nat.le_refl _
    | cons r k => have := hk.1.lt; omega
  | s :: l, [], a, b, hk, hl => Nat.zero_le _
  | s :: l, r :: k, a, b, hk, hl => by
    have h0 : Gs.Can f a ([] ++ r :: k) b := hk
    obtain ⟨m1, m2, m3, m4, _, m6⟩ := h0.mid
    have ea : a = r.lo := m1.1
    have hle := m2.le
    have s1 := hl.1; have s2 := hl.2.1; have s3 := hl.2.2.1; have s4 := hl.2.2.2
    have sle := s4.le
    have hsr : s.hi ≤ r.hi := by
      refine Int.not_lt.1 fun hlt => ?_
      have := m6 (by omega)
      rw [s3 (r.hi - 1) (by omega) (by omega), s3 r.hi (by omega) hlt] at this
      exact this rfl
    by_cases e : s.hi = r.hi
    · rw [e] at s4
      have := can_short m2 s4
      simp only [List.length_cons]
      omega
    · have hk2 : Gs.Can f s.hi ([] ++ ⟨s.hi, r.hi, r.tag⟩ :: k) b := Gs.Can.make (r := ⟨s.hi, r.hi, r.tag⟩) (Gs.Can.nil f s.hi) m2 (by show s.hi < r.hi; omega) (fun p p1 p2 => m4 p (by have p1 : s.hi ≤ p := p1; omega) p2) (fun h => by have h : s.hi < s.hi := h; omega) m6
      have := can_short hk2 s4
      simp only [List.nil_append, List.length_cons] at this ⊢
      omega
/-- **applying the changes from f to g to f yields g** -/
theorem apF_dfs {f g : Int → Int} {la lb : List R} {size : Int} (ha : Gs.Can f 0 la size) (hb : Gs.Can g 0 lb size) (cf : Ctx f 0 size) (cg : Ctx g 0 size) (hn : la.length + lb.length ≤ 4096) :
    ∀ {D : List Ch} {a : Int} {h : Int → Int}, 0 ≤ a → a ≤ size → Dfs f g a D size → (∀ p, 0 ≤ p → p < a → h p = g p) → (∀ p, a ≤ p → p < size → h p = f p) → ∃ h', apF size h D = (0, h') ∧ ∀ p, 0 ≤ p → p < size → h' p = g p
  | [], a, h, h0, h1, hd, e1, e2 => ⟨h, rfl, fun p p1 p2 => if hp : p < a then e1 p p1 hp else by rw [e2 p (by omega) p2]; exact hd p (by omega) p2⟩
  | c :: D, a, h, h0, h1, hd, e1, e2 => by
    obtain ⟨d1, d2, d3, d4, d5, d6, d7⟩ := hd
    have hput : ∀ p, 0 ≤ p → p < c.hi → put h c.lo c.hi c.tt p = g p := fun p p1 p2 => by
      unfold put
      by_cases hp : c.lo ≤ p ∧ p < c.hi
      · rw [if_pos hp, (d5 p hp.1 hp.2).2]
      · rw [if_neg hp]
        by_cases hpa : p < a
        · exact e1 p p1 hpa
        · rw [e2 p (by omega) (by omega)]
          exact d4 p (by omega) (by omega)
    have hput2 : ∀ p, c.hi ≤ p → p < size → put h c.lo c.hi c.tt p = f p := fun p p1 p2 => by
      unfold put
      rw [if_neg (by omega)]
      exact e2 p (by omega) p2
    obtain ⟨t1, t2⟩ := d5 c.lo (Int.le_refl _) d2
    have bf := cf.2.2 c.lo (by omega) (by omega)
    have bg := cg.2.2 c.lo (by omega) (by omega)
    have hE : chE size h c = 0 := by
      unfold chE
      rw [if_neg (by omega), if_pos ⟨decide_eq_true (by omega), decide_eq_true (by omega)⟩, if_pos]
      intro x x1 x2
      rw [e2 x (by omega) (by omega), (d5 x x1 x2).1]
    have hK : chK size h c = 0 := by
      unfold chK
      rw [if_neg (fun h => h hE), if_neg]
      rintro ⟨L, hL, hl⟩
      have f1 := clip_fits (lo := 0) (hi := c.hi) hb.1 (by omega)
      have f2 := clip_fits (lo := c.hi) (hi := size) ha.1 (by omega)
      rw [show max (0 : Int) 0 = 0 by omega, show min c.hi size = c.hi by omega] at f1
      rw [show max c.hi 0 = c.hi by omega, show min size size = size by omega] at f2
      have f3 : Fits (put h c.lo c.hi c.tt) 0 (clip 0 c.hi lb ++ clip c.hi size la) size := fits_append.2 ⟨c.hi, f1.congr fun p p1 p2 => (hput p p1 p2).symm, f2.congr fun p p1 p2 => (hput2 p p1 p2).symm⟩
      have := can_short hL f3
      have l1 := clip_len 0 c.hi lb
      have l2 := clip_len c.hi size la
      rw [List.length_append] at this
      omega
    rw [apF_ok hK]
    exact apF_dfs ha hb cf cg hn (by omega) d3 d7 hput hput2
/-- a cut adds one run -/
theorem clip_cut {f : Int → Int} {lo m hi : Int} (h1 : lo ≤ m) (h2 : m ≤ hi) : ∀ {l : List R} {a b : Int}, Fits f a l b → (clip lo m l).length + (clip m hi l).length ≤ (clip lo hi l).length + 1
  | [], _, _, _ => Nat.zero_le _
  | r :: l, a, b, h => by
    have e1 := h.1; have e2 := h.2.1; have e4 := h.2.2.2
    have ih := clip_cut h1 h2 e4
    have hc : ∀ x y : Int, (clip1 x y r).length ≤ 1 := fun x y => by unfold clip1; split <;> simp
    have h1' := hc lo m
    have h2' := hc m hi
    rw [clip_cons, clip_cons, clip_cons, List.length_append, List.length_append, List.length_append]
    by_cases c1 : m ≤ r.lo
    · have n1 : clip1 lo m r = [] := by unfold clip1; rw [if_neg (by omega)]
      have n2 : clip lo m l = [] := clip_out e4 (by omega)
      have n3 : clip1 m hi r = clip1 lo hi r := by
        unfold clip1
        rw [show max m r.lo = r.lo by omega, show max lo r.lo = r.lo by omega]
      have n4 : (clip m hi l).length ≤ (clip lo hi l).length + 1 := by rw [n2] at ih; simpa using ih
      have n5 : clip m hi l = clip lo hi l := by
        have := clip_right (lo := lo) (hi := hi) (m := m) e4 (by omega)
        rw [show max lo m = m by omega] at this
        exact this
      rw [n1, n2, n3, n5]
      simp
    · by_cases c2 : r.hi ≤ m
      · have n1 : clip1 m hi r = [] := by unfold clip1; rw [if_neg (by omega)]
        have n2 : clip1 lo m r = clip1 lo hi r := by
          unfold clip1
          rw [show min r.hi m = r.hi by omega, show min r.hi hi = r.hi by omega]
        rw [n1, n2]
        simp only [List.length_nil]
        omega
      · have n2 : clip lo m l = [] := clip_out e4 (by omega)
        have n5 : clip m hi l = clip lo hi l := by
          have := clip_right (lo := lo) (hi := hi) (m := m) e4 (by omega)
          rw [show max lo m = m by omega] at this
          exact this
        rw [n2, n5]
        simp only [List.length_nil]
        by_cases c3 : max lo r.lo < min r.hi hi
        · have : (clip1 lo hi r).length = 1 := by unfold clip1; rw [if_pos c3]; rfl
          omega
        · by_cases c4 : max lo r.lo < min r.hi m
          · omega
          · have : (clip1 lo m r).length = 0 := by unfold clip1; rw [if_neg c4]; rfl
            omega
theorem fits_map {f h : Int → Int} (s : Int → Int) : ∀ {K : List R} {a b : Int}, Fits f a K b → (∀ p, a ≤ p → p < b → h p = s (f p)) → Fits h a (K.map fun r => ⟨r.lo, r.hi, s r.tag⟩) b
  | [], _, _, h, _ => h
  | r :: K, a, b, hf, hh => by
    obtain ⟨h1, h2, h3, h4⟩ := hf
    have := h4.le
    exact ⟨h1, h2, fun p p1 p2 => by
      have p1 : r.lo ≤ p := p1
      have p2 : p < r.hi := p2
      show h p = s r.tag
      rw [hh p (by omega) (by omega), h3 p p1 p2], fits_map s h4 fun p p1 p2 => hh p (by have p1 : r.hi ≤ p := p1; omega) p2⟩
/-- an update adds two runs at most -/
theorem upd_runs {f h : Int → Int} (s : Int → Int) {lo hi size : Int} {l : List R} (hl : Fits f 0 l size) (h0 : 0 ≤ lo) (h1 : lo ≤ hi) (h2 : hi ≤ size) (hin : ∀ p, lo ≤ p → p < hi → h p = s (f p)) (hout : ∀ p, ¬ (lo ≤ p ∧ p < hi) → h p = f p) :
    ∃ k, Fits h 0 k size ∧ k.length ≤ l.length + 2 := by
  have f1 := clip_fits (lo := 0) (hi := lo) hl (by omega)
  have f2 := clip_fits (lo := lo) (hi := hi) hl (by omega)
  have f3 := clip_fits (lo := hi) (hi := size) hl (by omega)
  rw [show max (0 : Int) 0 = 0 by omega, show min lo size = lo by omega] at f1
  rw [show max lo 0 = lo by omega, show min hi size = hi by omega] at f2
  rw [show max hi 0 = hi by omega, show min size size = size by omega] at f3
  refine ⟨clip 0 lo l ++ ((clip lo hi l).map (fun r => ⟨r.lo, r.hi, s r.tag⟩) ++ clip hi size l), fits_append.2 ⟨lo, f1.congr fun p p1 p2 => (hout p (by omega)).symm, fits_append.2 ⟨hi, fits_map s f2 hin, f3.congr fun p p1 p2 => (hout p (by omega)).symm⟩⟩, ?_⟩
  have c1 := clip_cut (lo := 0) (m := lo) (hi := size) h0 (by omega) hl
  have c2 := clip_cut (lo := lo) (m := hi) (hi := size) h1 h2 hl
  have c3 := clip_len 0 size l
  rw [List.length_append, List.length_append, List.length_map]
  omega
theorem act_runs {size : Int} {f : Int → Int} {a : Act} {l : List R} (hl : Fits f 0 l size) (he : actE size a = 0) : ∃ k, Fits (actF a f) 0 k size ∧ k.length ≤ l.length + 2 := by
  have hr : 0 ≤ a.lo ∧ a.lo ≤ a.hi ∧ a.hi ≤ size := by
    unfold actE errOf at he
    split at he
    · cases he
    · omega
  unfold actF
  split
  · exact upd_runs (fun t => swp (fun _ => t) a.fr.toNat a.tt.toNat 0) hl hr.1 hr.2.1 hr.2.2 (fun p p1 p2 => by
      unfold swr
      rw [if_pos ⟨p1, p2⟩]
      rfl) (fun p hp => by unfold swr; rw [if_neg hp])
  · exact upd_runs (fun _ => a.tt) hl hr.1 hr.2.1 hr.2.2 (fun p p1 p2 => by
      unfold put
      rw [if_pos ⟨p1, p2⟩]) (fun p hp => by unfold put; rw [if_neg hp])
/-- **a map built by n updates has 2n + 1 runs at most** -/
theorem Mo.runs {size : Int} {f0 f : Int → Int} {l : List Act} (h : Mo size f0 l f) (h0 : ∃ k, Fits f0 0 k size ∧ k.length ≤ 1) : ∃ k, Fits f 0 k size ∧ k.length ≤ 2 * l.length + 1 := by
  induction h with
  | nil => simpa using h0
  | snoc _ h1 ih =>
    obtain ⟨k, hk, hl⟩ := ih
    rw [List.length_append, List.length_singleton]
    rcases h1 with ⟨rfl, he, _⟩ | ⟨rfl, _⟩
    · obtain ⟨k', hk', hl'⟩ := act_runs hk he
      exact ⟨k', hk', by omega⟩
    · exact ⟨k, hk, by omega⟩
theorem diffE_len : ∀ (la lb : List R), (diffE la lb).length ≤ la.length * lb.length
  | [], _ => Nat.zero_le _
  | x :: la, lb => by
    have ih := diffE_len la lb
    have h1 := diff1_len x (clip x.lo x.hi lb)
    have h2 := clip_len x.lo x.hi lb
    show (diff1 x (clip x.lo x.hi lb) ++ diffE la lb).length ≤ (la.length + 1) * lb.length
    rw [List.length_append, Nat.succ_mul]
    omega
end Go.Proofs.Ytahgfggcpmnnaab
namespace Go.Proofs.Ytahgfggcpmnnaab
open Go Go.RowKit Gs

/-- the tag of a piece after a merge, and whether the two updates agree -/
def mt (o x y : Int) : Int := if x = y ∨ y = o then x else if x = o then y else o
def mtb (o x y : Int) : Bool := decide (x = y ∨ y = o ∨ x = o)
theorem mergeTags_any (o x y : Int) (W : World) : Calls Try.prog 45 #[.int .i64 o, .int .i64 x, .int .i64 y] W fun e w' => e = .returned (.tuple #[.int .i64 (mt o x y), .bool (mtb o x y)]) ∧ Below W.heap.size W w' := by
  have HR : Hid (Below W.heap.size W W) := Below.refl _ _
  obtain ⟨T, hT⟩ : ∃ T, T = mt o x y := ⟨_, rfl⟩
  obtain ⟨B, hB⟩ : ∃ B, B = mtb o x y := ⟨_, rfl⟩
  rw [← hT, ← hB]
  by_cases h1 : x = y
  · have e1 : T = x := by rw [hT]; unfold mt; rw [if_pos (.inl h1)]
    have e2 : B = true := by rw [hB]; exact decide_eq_true (.inl h1)
    have HE1 := Lib.hid e1; have HE2 := Lib.hid e2
    clear hT hB e1 e2
    subst h1
    go_enter Try.func45, Try.ntmps45
    go_wp2_with fail
    refine bodyPost_ret (v := .tuple #[.int .i64 x, .bool true]) (by simp [results, Try.results45, go_sem]) rfl ?_
    exact ⟨by rw [HE1.out, HE2.out], HR.out⟩
  · have n1 : (x == y) = false := beq_eq_false_iff_ne.2 h1
    by_cases h2 : y = o
    · have e1 : T = x := by rw [hT]; unfold mt; rw [if_pos (.inr h2)]
      have e2 : B = true := by rw [hB]; exact decide_eq_true (.inr (.inl h2))
      have HE1 := Lib.hid e1; have HE2 := Lib.hid e2
      clear hT hB e1 e2 h1
      subst h2
      go_enter Try.func45, Try.ntmps45
      go_wp2_with fail
      refine bodyPost_ret (v := .tuple #[.int .i64 x, .bool true]) (by simp [results, Try.results45, go_sem]) rfl ?_
      exact ⟨by rw [HE1.out, HE2.out], HR.out⟩
    · have n2 : (y == o) = false := beq_eq_false_iff_ne.2 h2
      by_cases h3 : x = o
      · have e1 : T = y := by rw [hT]; unfold mt; rw [if_neg (fun h => h.elim h1 h2), if_pos h3]
        have e2 : B = true := by rw [hB]; exact decide_eq_true (.inr (.inr h3))
        have HE1 := Lib.hid e1; have HE2 := Lib.hid e2
        clear hT hB e1 e2 h1 h2
        subst h3
        go_enter Try.func45, Try.ntmps45
        go_wp2_with fail
        refine bodyPost_ret (v := .tuple #[.int .i64 y, .bool true]) (by simp [results, Try.results45, go_sem]) rfl ?_
        exact ⟨by rw [HE1.out, HE2.out], HR.out⟩
      · have n3 : (x == o) = false := beq_eq_false_iff_ne.2 h3
        have e1 : T = o := by rw [hT]; unfold mt; rw [if_neg (fun h => h.elim h1 h2), if_neg h3]
        have e2 : B = false := by rw [hB]; exact decide_eq_false (fun h => h.elim h1 (fun h => h.elim h2 h3))
        have HE1 := Lib.hid e1; have HE2 := Lib.hid e2
        clear hT hB e1 e2 h1 h2 h3
        go_enter Try.func45, Try.ntmps45
        go_wp2_with fail
        refine bodyPost_ret (v := .tuple #[.int .i64 o, .bool false]) (by simp [results, Try.results45, go_sem]) rfl ?_
        exact ⟨by rw [HE1.out, HE2.out], HR.out⟩
end Go.Proofs.Ytahgfggcpmnnaab
namespace Go.Proofs.Ytahgfggcpmnnaab
open Go Go.RowKit Gs

set_option maxHeartbeats 1000000 in
theorem addRun_add {base : Nat} {v : Value} {l : List R} (xa xb xc : Int) {W : World} (h : rowR W base v l) (hb : base ≤ W.heap.size) (hl : l.length ≤ 200000000000) (hy : ∀ y, l.getLast? = some y → y.tag ≠ xc) :
    Calls Try.prog 46 #[v, .agg #[.int .i64 xa, .int .i64 xb, .int .i64 xc]] W fun e w' => ∃ v', e = .returned v' ∧ Hid (JP W base v (l ++ [⟨xa, xb, xc⟩]) v' w') := by
  obtain ⟨i0, hi, hz0, hz1, hz2⟩ := info_parts infoRun
  have hown := h
  obtain ⟨a, c, rfl⟩ := own_slice h
  unfold rowR at hown
  obtain ⟨n, hn⟩ : ∃ n, n = l.length := ⟨_, rfl⟩
  rw [← hn] at hown ⊢
  have hml : n + 1 ≤ maxLen := by unfold maxLen; omega
  have hmb : (n + 1) * 24 ≤ 140737488355328 := by omega
  obtain ⟨W1, HW1⟩ : ∃ W1, W1 = W.alloc (.cells #[.int .i64 xa, .int .i64 xb, .int .i64 xc] 46) := ⟨_, rfl⟩
  have HJ : Hid (Jn W base (.slice a n c) n (l.flatMap encL) xa xb xc W1) := by rw [HW1]; exact Jn.new xa xb xc hown hb
  have HW1' := Lib.hid HW1
  have HN := Lib.hid hn
  have HTO : Hid (∀ (W' : World) v', W'.ownsRow base 46 3 v' (n + 1) (l.flatMap encL ++ encL ⟨xa, xb, xc⟩) → rowR W' base v' (l ++ [⟨xa, xb, xc⟩])) := fun W' v' h => row_snoc (by rw [← hn]; exact h)
  clear HW1 hn hl hown
  rcases List.eq_nil_or_concat l with rfl | ⟨l', y, hl'⟩
  · obtain rfl : n = 0 := HN.out
    have k0 := HJ.out.c0; have k1 := HJ.out.c1; have k2 := HJ.out.c2
    clear HN hy h
    go_enter Try.func46, Try.ntmps46
    go_upto_region 1 with fail
    rw [← HW1'.out]
    go_wp2_with fail
    go_quiet (fail)
    rename_i nq
    have hj := HJ.out.drewN hb nq
    clear k0 k1 k2
    generalize hw : World.drewN _ nq = w2 at hj ⊢
    clear hw
    have k0 := hj.c0; have k1 := hj.c1; have k2 := hj.c2
    have hown := hj.own
    have HLT := Lib.hid hj.own.lt
    have hsz : base ≤ w2.heap.size := Nat.le_trans hb (Nat.le_of_lt hj.lt)
    have HJ2 := Lib.hid hj
    clear hj
    go_wp2_with (at_builtin; refine wpList_append_own_at _ rfl _ _ 42 rfl base 46 i0 (.agg #[.int .i64 0, .int .i64 0, .int .i64 0]) 3 24 Try.underlying42 hi hz0 hz1 hz2 rfl (by decide) _ _ _ rfl (hown.alloc _) ⟨w2.heap.size, 0, none⟩ 1 1 [.int .i64 xa, .int .i64 xb, .int .i64 xc] rfl rfl ?c1 ?c2 ?c3 ?c4 ?c5 ?_)
    case c1 => exact cells3_new _ _ _ _ _
    case c2 => intro u hu; simp at hu; rcases hu with rfl | rfl | rfl <;> rfl
    case c3 => exact hml
    case c4 => exact hmb
    case c5 => simp; omega
    intro v' w4 hown4 hgrow _ hat
    have HF : Hid (JP W base (.slice a 0 c) ([] ++ [⟨xa, xb, xc⟩]) v' w4) := ⟨HTO.out w4 v' hown4, (HJ2.out.bel.alloc hsz _).grown hgrow (by simp; omega) (fun j hj => (HLT.out _ hj).1),
      fun k hk hne => (hgrow.block k (Nat.lt_of_lt_of_le (Nat.lt_trans hk HJ2.out.lt) (by rw [World.size_alloc]; exact Nat.le_succ _)) hne).trans ((((Below.refl w2.heap.size w2).alloc (Nat.le_refl _) _).block k (Nat.lt_trans hk HJ2.out.lt)).trans (HJ2.out.bw.block k hk)),
      fun k hk => by
        rcases hat with h1 | h1
        · exact .inl (h1.symm.trans hk)
        · rw [h1] at hk
          injection hk with hk
          exact .inr (by have := HJ2.out.lt; omega)⟩
    clear hown4 hgrow hown k0 k1 k2 hat
    go_wp2_with fail
    go_ret
    exact ⟨_, rfl, HF.out⟩
  · rw [List.concat_eq_append] at hl'
    subst hl'
    obtain ⟨m, hm⟩ : ∃ m, m = l'.length := ⟨_, rfl⟩
    obtain rfl : n = m + 1 := by rw [HN.out, hm]; simp
    have hrs := IsRs.of_row (show W1.ownsRow base 46 3 (.slice a (m + 1) c) (l' ++ [y]).length ((l' ++ [y]).flatMap encL) by rw [← HN.out]; exact HJ.out.own)
    obtain ⟨a', c', hv, hcs⟩ := hrs
    obtain ⟨G, e1, -, hcs2⟩ := hcs (by simp)
    clear hcs
    injection hv with hv1 hv2 hv3
    clear hv2 hv3
    subst hv1
    subst e1
    have hlast := (hcs2 m (by rw [hm]; simp)).2.2
    have hlv : (l' ++ [y])[m]'(by rw [hm]; simp) = y := by subst hm; simp
    rw [hlv] at hlast
    have hne : (y.tag == xc) = false := beq_eq_false_iff_ne.2 (hy y (by simp))
    have hw1 : IntKind.i64.wrap (((m + 1 : Nat) : Int) - 1) = (m : Int) := by rw [show (((m + 1 : Nat) : Int) - 1) = (m : Int) by omega]; exact IntWalk.i64_in _ (by unfold maxLen at hml; omega)
    have hgt : ((m + 1 : Nat) : Int) > 0 := by omega
    have k0 := HJ.out.c0; have k1 := HJ.out.c1; have k2 := HJ.out.c2
    clear HN hy h hcs2 hlv hm
    generalize y.tag = yt at *
    go_enter Try.func46, Try.ntmps46
    go_upto_region 1 with fail
    rw [← HW1'.out]
    go_wp2_with fail
    go_quiet (fail)
    rename_i nq
    have hj := HJ.out.drewN hb nq
    clear k0 k1 k2 hlast
    generalize hw : World.drewN _ nq = w2 at hj ⊢
    clear hw
    have k0 := hj.c0; have k1 := hj.c1; have k2 := hj.c2
    have hown := hj.own
    have HLT := Lib.hid hj.own.lt
    have hsz : base ≤ w2.heap.size := Nat.le_trans hb (Nat.le_of_lt hj.lt)
    have HJ2 := Lib.hid hj
    clear hj
    go_wp2_with (at_builtin; refine wpList_append_own_at _ rfl _ _ 42 rfl base 46 i0 (.agg #[.int .i64 0, .int .i64 0, .int .i64 0]) 3 24 Try.underlying42 hi hz0 hz1 hz2 rfl (by decide) _ _ _ rfl (hown.alloc _) ⟨w2.heap.size, 0, none⟩ 1 1 [.int .i64 xa, .int .i64 xb, .int .i64 xc] rfl rfl ?c1 ?c2 ?c3 ?c4 ?c5 ?_)
    case c1 => exact cells3_new _ _ _ _ _
    case c2 => intro u hu; simp at hu; rcases hu with rfl | rfl | rfl <;> rfl
    case c3 => exact hml
    case c4 => exact hmb
    case c5 => simp; omega
    intro v' w4 hown4 hgrow _ hat
    have HF : Hid (JP W base (.slice (some ⟨G, 0, none⟩) (m + 1) c) (l' ++ [y] ++ [⟨xa, xb, xc⟩]) v' w4) := ⟨HTO.out w4 v' (by rw [List.flatMap_append, List.flatMap_singleton, List.append_assoc]; exact hown4), (HJ2.out.bel.alloc hsz _).grown hgrow (by simp; omega) (fun j hj => (HLT.out _ hj).1),
      fun k hk hne => (hgrow.block k (Nat.lt_of_lt_of_le (Nat.lt_trans hk HJ2.out.lt) (by rw [World.size_alloc]; exact Nat.le_succ _)) hne).trans ((((Below.refl w2.heap.size w2).alloc (Nat.le_refl _) _).block k (Nat.lt_trans hk HJ2.out.lt)).trans (HJ2.out.bw.block k hk)),
      fun k hk => by
        rcases hat with h1 | h1
        · exact .inl (h1.symm.trans hk)
        · rw [h1] at hk
          injection hk with hk
          exact .inr (by have := HJ2.out.lt; omega)⟩
    clear hown4 hgrow hown k0 k1 k2 hat
    go_wp2_with fail
    go_ret
    exact ⟨_, rfl, HF.out⟩
theorem set_last (l' : List R) (yl yh yt xb : Int) : ((l' ++ [(⟨yl, yh, yt⟩ : R)]).flatMap encL).set (l'.length * 3 + 1) (.int .i64 xb) = (l' ++ [(⟨yl, xb, yt⟩ : R)]).flatMap encL := by
  have hl : ∀ k : List R, (k.flatMap encL).length = k.length * 3 := by
    intro k
    induction k with
    | nil => rfl
    | cons r k ih => rw [List.flatMap_cons, List.length_append, ih, List.length_cons]; simp [encL]; omega
  rw [List.flatMap_append, List.flatMap_append, List.set_append_right _ _ (by rw [hl]; omega), hl, show l'.length * 3 + 1 - l'.length * 3 = 1 by omega]
  rfl
set_option maxHeartbeats 1000000 in
theorem addRun_same {base : Nat} {v : Value} {l' : List R} {yl yh yt : Int} (xa xb : Int) {W : World} (h : rowR W base v (l' ++ [⟨yl, yh, yt⟩])) (hb : base ≤ W.heap.size) (hl : l'.length ≤ 200000000000) :
    Calls Try.prog 46 #[v, .agg #[.int .i64 xa, .int .i64 xb, .int .i64 yt]] W fun e w' => ∃ v', e = .returned v' ∧ Hid (JP W base v (l' ++ [⟨yl, xb, yt⟩]) v' w') := by
  have hown := h
  rcases h.2 with ⟨_, h0⟩ | ⟨G, c, cur, rfl, hG, hGh, hcap, -⟩
  · rw [List.length_append] at h0; cases h0
  unfold rowR at hown
  obtain ⟨m, hm⟩ : ∃ m, m = l'.length := ⟨_, rfl⟩
  have hlen : (l' ++ [(⟨yl, yh, yt⟩ : R)]).length = m + 1 := by rw [hm]; simp
  rw [hlen] at hown hcap ⊢
  obtain ⟨n, hn⟩ : ∃ n, n = m + 1 := ⟨_, rfl⟩
  rw [← hn] at hown hcap ⊢
  obtain ⟨XS, hXS⟩ : ∃ XS, XS = (l' ++ [(⟨yl, yh, yt⟩ : R)]).flatMap encL := ⟨_, rfl⟩
  rw [← hXS] at hown
  obtain ⟨g0, g1, g2⟩ := encL_get (l' ++ [(⟨yl, yh, yt⟩ : R)]) m (by rw [hlen]; omega)
  have e1 : (l' ++ [(⟨yl, yh, yt⟩ : R)])[m]'(by rw [hlen]; omega) = ⟨yl, yh, yt⟩ := by subst hm; simp
  rw [e1, ← hXS] at g1 g2
  obtain ⟨W1, HW1⟩ : ∃ W1, W1 = W.alloc (.cells #[.int .i64 xa, .int .i64 xb, .int .i64 yt] 46) := ⟨_, rfl⟩
  have HJ : Hid (Jn W base (.slice (some ⟨G, 0, none⟩) n c) n XS xa xb yt W1) := by rw [HW1]; exact Jn.new xa xb yt hown hb
  have HW1' := Lib.hid HW1
  have HCL : Hid (∀ (W' : World), W'.ownsRow base 46 3 (.slice (some ⟨G, 0, none⟩) n c) n XS → W'.cell? ⟨G, m * 3 + 1, none⟩ = some (.int .i64 yh) ∧ W'.cell? ⟨G, m * 3 + 2, none⟩ = some (.int .i64 yt) ∧ W'.frozen? ⟨G, m * 3 + 1, none⟩ = false) := fun W' ho =>
    ⟨(ho.cellAt (m * 3 + 1) (by omega)).trans g1, (ho.cellAt (m * 3 + 2) (by omega)).trans g2, ho.frozenAt _⟩
  have HFIN : Hid (∀ (W' : World), Jn W base (.slice (some ⟨G, 0, none⟩) n c) n XS xa xb yt W' → JP W base (.slice (some ⟨G, 0, none⟩) n c) (l' ++ [⟨yl, xb, yt⟩]) (.slice (some ⟨G, 0, none⟩) n c) (W'.setCell ⟨G, m * 3 + 1, none⟩ (.int .i64 xb))) := fun W' hj => by
    obtain ⟨s1, s2⟩ := hj.own.stored (m * 3 + 1) (.int .i64 xb)
    refine ⟨?_, hj.bel.setCell (p := ⟨G, m * 3 + 1, none⟩) hG _, fun k hk hne => (s2.block k (Nat.lt_trans hk hj.lt) hne).trans (hj.bw.block k hk), fun k hk => .inl hk⟩
    unfold rowR
    rw [show (l' ++ [(⟨yl, xb, yt⟩ : R)]).length = n by rw [hn, hm]; simp, ← set_last l' yl yh yt xb, ← hXS, ← hm]
    exact s1
  have hml : n ≤ 200000000001 := by omega
  have hw1 : IntKind.i64.wrap ((n : Int) - 1) = (m : Int) := by rw [IntWalk.i64_in] <;> omega
  have hgt : (n : Int) > 0 := by omega
  have hd1 : decide ((n : Int) > 0) = true := decide_eq_true hgt
  have hn0 : 0 < n := by omega
  have hd2 : decide (0 < n) = true := decide_eq_true hn0
  have hmn : (m : Int) < n := by omega
  have k0 := HJ.out.c0; have k1 := HJ.out.c1; have k2 := HJ.out.c2
  obtain ⟨d1, d2, f1⟩ := HCL.out _ HJ.out.own
  clear HW1 hn hl hown h hlen hXS e1 g0 g1 g2 hGh hcap hm
  go_enter Try.func46, Try.ntmps46
  go_upto_region 1 with fail
  rw [← HW1'.out]
  go_wp2_with fail
  go_quiet (fail)
  rename_i nq
  have HJ2 := Lib.hid (HJ.out.drewN hb nq)
  clear k0 k1 k2 d1 d2 f1
  generalize hw : World.drewN _ nq = w2 at HJ2 ⊢
  clear hw
  have k0 := HJ2.out.c0; have k1 := HJ2.out.c1; have k2 := HJ2.out.c2
  obtain ⟨d1, d2, f1⟩ := HCL.out _ HJ2.out.own
  have HF := Lib.hid (HFIN.out _ HJ2.out)
  go_wp2_with fail
  go_ret
  exact ⟨_, rfl, HF.out⟩
end Go.Proofs.Ytahgfggcpmnnaab
namespace Go.Proofs.Ytahgfggcpmnnaab
open Go Go.RowKit Go.ChangeShapes Go.WideShapes Go.Deep Gs

/-- Get, of a piece that the map lacks -/
theorem Get_err {f : Int → Int} {size x : Int} {W : World} {p : Option Addr} (h : IsM f size W p) (hx : ¬ (0 ≤ x ∧ x < size)) :
    Calls Try.prog 12 #[.agg #[.pointer p, .int .i64 size], .int .i64 x] W fun e w' => e = .returned (.tuple #[.int .i64 0, .int .i64 3]) ∧ Below W.heap.size W w' := by
  obtain ⟨b, rfl⟩ := h.some
  obtain ⟨w0, HW⟩ : ∃ w0, w0 = W.alloc (.cells #[.pointer (some ⟨b, 0, none⟩), .int .i64 size] 27) := ⟨_, rfl⟩
  have hq : Mq W (some ⟨b, 0, none⟩) size w0 := by rw [HW]; exact Mq.new _ _ _ _
  have HUS := Lib.hid (fun W' => isUsable_any b size W')
  have HQ := Lib.hid hq; have HW' := Lib.hid HW
  clear hq HW h
  by_cases h1 : x < 0
  · go_enter Try.func12, Try.ntmps12
    go_wp2_with fail
    rw [← HW'.out]
    refine (HUS.out _).mono ?_
    rintro e w1 ⟨rfl, hb⟩
    have HQ1 := Lib.hid (HQ.out.next hb)
    have k0 := HQ1.out.c0; have k1 := HQ1.out.c1
    clear hb
    go_wp2_with fail
    refine bodyPost_ret (v := .tuple #[.int .i64 0, .int .i64 3]) (by simp [results, Try.results12, go_sem]) rfl ?_
    exact ⟨rfl, HQ1.out.bel⟩
  · have h2 : x ≥ size := by omega
    go_enter Try.func12, Try.ntmps12
    go_wp2_with fail
    rw [← HW'.out]
    refine (HUS.out _).mono ?_
    rintro e w1 ⟨rfl, hb⟩
    have HQ1 := Lib.hid (HQ.out.next hb)
    have k0 := HQ1.out.c0; have k1 := HQ1.out.c1
    clear hb
    go_wp2_with fail
    refine bodyPost_ret (v := .tuple #[.int .i64 0, .int .i64 3]) (by simp [results, Try.results12, go_sem]) rfl ?_
    exact ⟨rfl, HQ1.out.bel⟩
/-- Runs, of a range that is not valid -/
theorem Runs_err {f : Int → Int} {size lo hi most : Int} {W : World} {p : Option Addr} (h : IsM f size W p) (hx : ¬ (0 ≤ lo ∧ lo ≤ hi ∧ hi ≤ size)) :
    Calls Try.prog 17 #[.agg #[.pointer p, .int .i64 size], .int .i64 lo, .int .i64 hi, .int .i64 most] W fun e w' => e = .returned (.tuple #[.slice none 0 0, .int .i64 3]) ∧ Below W.heap.size W w' := by
  obtain ⟨b, rfl⟩ := h.some
  obtain ⟨w0, HW⟩ : ∃ w0, w0 = (W.alloc (.cells #[.pointer (some ⟨b, 0, none⟩), .int .i64 size] 27)).alloc (.cells #[.int .i64 most] 3) := ⟨_, rfl⟩
  have hb : Below W.heap.size W w0 := by rw [HW]; exact (alloc_below _ _).alloc (by simp) _
  have HCK : Hid (Calls Try.prog 31 #[.agg #[.pointer (some ⟨b, 0, none⟩), .int .i64 size], .int .i64 lo, .int .i64 hi, .slice none 0 0] w0 fun e w' => e = .returned (.int .i64 3) ∧ Below w0.heap.size w0 w') := check_range b size lo hi none 0 0 w0 (by omega)
  have HB := Lib.hid hb; have HW' := Lib.hid HW
  clear hb HW h hx
  go_enter Try.func17, Try.ntmps17
  go_wp2_with fail
  rw [← HW'.out]
  refine HCK.out.mono ?_
  rintro e w1 ⟨rfl, hb⟩
  have HB1 := Lib.hid (HB.out.trans (hb.mono HB.out.size))
  clear hb
  go_wp2_with fail
  refine bodyPost_ret (v := .tuple #[.slice none 0 0, .int .i64 3]) (by simp [results, Try.results17, go_sem]) rfl ?_
  exact ⟨rfl, HB1.out⟩
section
variable {H : Type} {enc : TypeId × Value → H} {W : World} {base : Nat} {sp : Nat → Bool} {held : Bool}
theorem fld_wf {cs : List Value} {n i : Nat} {xs : List (DataW H × List MemPlace)} (hi : i < xs.length) (h : DataW.trod enc Try.prog W base sp held n 3 ((cs.drop i).take (Try.prog.cellsOf 3)) = xs[i]?) : ∃ k, cs[i]? = some (.int .i64 k) ∧ -9223372036854775808 ≤ k ∧ k ≤ 9223372036854775807 := by
  rw [one_int, List.getElem?_eq_getElem hi] at h
  obtain ⟨k, e, _, hw⟩ := DataW.trod_int Try.underlying3 h
  refine ⟨k, ?_, ?_⟩
  · have h1 : ((cs.drop i).take 1)[0]? = some (.int .i64 k) := by rw [e]; rfl
    simpa [List.getElem?_take, List.getElem?_drop] using h1
  · have := Go.bounds_i64 hw
    omega
/-- what a query's last number is at most -/
theorem query_bd {d : DataW H} {p : List MemPlace} {q0 q1 q2 q3 q4 q5 : Int}
    (h : DataW.Trod enc Try.prog W base sp held 49 (.agg #[.int .i64 q0, .int .i64 q1, .int .i64 q2, .int .i64 q3, .int .i64 q4, .int .i64 q5]) d p) : q5 ≤ 9223372036854775807 := by
  obtain ⟨fuel, hf⟩ := h
  obtain ⟨xs, n, _, _, hl, hx, hg⟩ := DataW.trod_struct Try.underlying49 hf
  have hx : xs.length = 6 := hx
  obtain ⟨b5, e5, h1, h2⟩ := fld_wf (i := 5) (by omega) (hg 5 _ rfl)
  have e : some (Value.int .i64 q5) = some (Value.int .i64 b5) := e5
  injection e with e
  injection e with _ e
  omega
end
end Go.Proofs.Ytahgfggcpmnnaab
namespace Go.Proofs.Ytahgfggcpmnnaab
open Go Go.RowKit Gs

set_option maxHeartbeats 1000000 in
theorem RAlike_ne {B1 B2 : Nat} {W : World} {u v : Value} {L K : List R} (h1 : IsRs B1 W u L) (h2 : IsRs B2 W v K) (hlen : L.length ≤ 100000) (hlen2 : K.length ≤ 100000) (hLK : L ≠ K) : Calls Try.prog 26 #[u, v] W fun e w' => e = .returned (.bool false) ∧ Hid (Below W.heap.size W w') := by
  have HU := Lib.hid h1; have HV := Lib.hid h2
  obtain ⟨a, c, rfl, -⟩ := h1
  obtain ⟨a', c', rfl, -⟩ := h2
  obtain ⟨n, hn⟩ : ∃ n, n = L.length := ⟨_, rfl⟩
  obtain ⟨m, hm⟩ : ∃ m, m = K.length := ⟨_, rfl⟩
  rw [← hn] at HU ⊢
  rw [← hm] at HV ⊢
  have hnb : n ≤ 100000 := by omega
  have hmb : m ≤ 100000 := by omega
  have HN := Lib.hid hn; have HM := Lib.hid hm; have HLK := Lib.hid hLK
  clear hn hm hlen hlen2 hLK
  by_cases hnm : n = m
  · subst hnm
    go_enter Try.func26, Try.ntmps26
    go_wp2_with fail
    go_loopw [5] (fun iv wr => ∃ j : Nat, j ≤ n ∧ iv = .int .i64 j ∧ Hid (L.take j = K.take j) ∧ Hid (Below W.heap.size W wr)) (fun i _ => n - (intOf i).toNat)
    case atStart => exact ⟨0, by omega, rfl, rfl, Below.refl _ _⟩
    case round =>
      obtain ⟨j, hj, rfl, HT, HB⟩ := hrel
      by_cases hlt : j < n
      · have hj2 : (j : Int) < n := by omega
        have hj0 : (0 : Int) ≤ (j : Int) := by omega
        have hjl : j < L.length := by rw [← HN.out]; exact hlt
        have hjk : j < K.length := by rw [← HM.out]; exact hlt
        obtain ⟨b, d, hv, hcs⟩ := HU.out.below HB.out
        injection hv with hv1 hv2 hv3
        clear hv2 hv3
        subst hv1
        obtain ⟨G, e1, -, hcs2⟩ := hcs (by omega)
        clear hcs
        subst e1
        obtain ⟨c0, c1, c2⟩ := hcs2 j hjl
        clear hcs2
        obtain ⟨b', d', hv, hcs⟩ := HV.out.below HB.out
        injection hv with hv1 hv2 hv3
        clear hv2 hv3
        subst hv1
        obtain ⟨G', e1, -, hcs2⟩ := hcs (by omega)
        clear hcs
        subst e1
        obtain ⟨d0, d1, d2⟩ := hcs2 j hjk
        clear hcs2
        rcases hx : L[j] with ⟨xa, xb, xc⟩
        rcases hy : K[j] with ⟨ya, yb, yc⟩
        have HX := Lib.hid hx; have HY := Lib.hid hy
        rw [hx] at c0 c1 c2
        rw [hy] at d0 d1 d2
        simp only at c0 c1 c2 d0 d1 d2
        clear hx hy
        by_cases m1 : xa = ya
        · by_cases m2 : xb = yb
          · by_cases m3 : xc = yc
            · subst m1; subst m2; subst m3
              have HT2 : Hid (L.take (j + 1) = K.take (j + 1)) := by
                show L.take (j + 1) = K.take (j + 1)
                rw [List.take_succ_eq_append_getElem hjl, List.take_succ_eq_append_getElem hjk, HT.out, HX.out, HY.out]
              clear HX HY
              go_wp2_with fail
              go_quiet (fail)
              rename_i nq
              have HBn : Hid (Below W.heap.size W (World.drewN wr nq)) := below_drewN HB.out nq
              clear c0 c1 c2 d0 d1 d2
              generalize hw : World.drewN _ nq = w2 at HBn ⊢
              clear hw
              go_wp2_with fail
              go_roundw
              case rel => exact ⟨j + 1, by omega, by go_num, HT2, HBn⟩
              case measure => simp [intOf]; omega
            · subst m1; subst m2
              have n3 : (xc == yc) = false := beq_eq_false_iff_ne.2 m3
              clear HX HY m3
              go_wp2_with fail
              go_quiet (fail)
              rename_i nq
              have HBn : Hid (Below W.heap.size W (World.drewN wr nq)) := below_drewN HB.out nq
              clear c0 c1 c2 d0 d1 d2
              generalize hw : World.drewN _ nq = w2 at HBn ⊢
              clear hw
              go_wp2_with fail
              go_ret
              exact ⟨rfl, HBn.out⟩
          · subst m1
            have n2 : (xb == yb) = false := beq_eq_false_iff_ne.2 m2
            clear HX HY m2
            go_wp2_with fail
            go_quiet (fail)
            rename_i nq
            have HBn : Hid (Below W.heap.size W (World.drewN wr nq)) := below_drewN HB.out nq
            clear c0 c1 c2 d0 d1 d2
            generalize hw : World.drewN _ nq = w2 at HBn ⊢
            clear hw
            go_wp2_with fail
            go_ret
            exact ⟨rfl, HBn.out⟩
        · skip
          have n1 : (xa == ya) = false := beq_eq_false_iff_ne.2 m1
          clear HX HY m1
          go_wp2_with fail
          go_quiet (fail)
          rename_i nq
          have HBn : Hid (Below W.heap.size W (World.drewN wr nq)) := below_drewN HB.out nq
          clear c0 c1 c2 d0 d1 d2
          generalize hw : World.drewN _ nq = w2 at HBn ⊢
          clear hw
          go_wp2_with fail
          go_ret
          exact ⟨rfl, HBn.out⟩
      · have hj2 : ¬ (j : Int) < n := by omega
        exfalso
        have e : j = n := by omega
        have h1 := HT.out
        rw [e, List.take_of_length_le (by have := HN.out; omega), List.take_of_length_le (by have := HM.out; omega)] at h1
        exact HLK.out h1
  · have hne : ((n : Int) == (m : Int)) = false := beq_eq_false_iff_ne.2 (by omega)
    have HBr : Hid (Below W.heap.size W W) := Below.refl _ _
    clear hnm
    go_enter Try.func26, Try.ntmps26
    go_wp2_with fail
    go_ret
    exact ⟨rfl, HBr.out⟩
end Go.Proofs.Ytahgfggcpmnnaab
namespace Go.Proofs.Ytahgfggcpmnnaab
open Go Go.RowKit Gs

theorem fits_ord {f : Int → Int} : ∀ {l : List R} {a b : Int}, Fits f a l b → ∀ i k (h : k < l.length) (hik : i < k), (l[i]'(by omega)).hi ≤ l[k].lo
  | r :: l, a, b, h, 0, k + 1, hk, _ => by
    have := (fits_at h.2.2.2 k (by simpa using hk)).1
    exact this
  | r :: l, a, b, h, i + 1, k + 1, hk, hik => by
    have := fits_ord h.2.2.2 i k (by simpa using hk) (by omega)
    exact this
theorem own_drewN {w : World} {base : Nat} {e : TypeId} {size : Nat} {v : Value} {n : Nat} {xs : List Value} (h : w.ownsRow base e size v n xs) : ∀ k, (w.drewN k).ownsRow base e size v n xs
  | 0 => h
  | k + 1 => own_drewN (w := w.drew) h.drew k
theorem own_at {w : World} {base : Nat} {e : TypeId} {size : Nat} {v : Value} {n : Nat} {xs : List Value} (h : w.ownsRow base e size v n xs) : ∀ j, v.ownBlock = some j → base ≤ j := by
  intro j ej
  rcases h.2 with ⟨rfl, _⟩ | ⟨g, cap, cur, rfl, hb, _, _⟩
  · simp [Value.ownBlock] at ej
  · obtain rfl : g = j := by simpa [Value.ownBlock] using ej
    exact hb
/-- the call's own row of changes -/
def RowC (base : Nat) (v : Value) (K : List Ch) (W : World) : Prop := W.ownsRow base 59 4 v K.length (K.flatMap encC)
/-- the box of a change -/
def Cx (B : Nat) (x : Ch) (W : World) : Prop := W.cell? ⟨B, 0, none⟩ = some (.int .i64 x.lo) ∧ W.cell? ⟨B, 1, none⟩ = some (.int .i64 x.hi) ∧ W.cell? ⟨B, 2, none⟩ = some (.int .i64 x.fr) ∧ W.cell? ⟨B, 3, none⟩ = some (.int .i64 x.tt)
theorem Cx.below {B : Nat} {x : Ch} {W W' : World} (h : Cx B x W) (hlt : B < W.heap.size) (hb : Below W.heap.size W W') : Cx B x W' :=
  ⟨(hb.cell (p := ⟨B, 0, none⟩) hlt).trans h.1, (hb.cell (p := ⟨B, 1, none⟩) hlt).trans h.2.1, (hb.cell (p := ⟨B, 2, none⟩) hlt).trans h.2.2.1, (hb.cell (p := ⟨B, 3, none⟩) hlt).trans h.2.2.2⟩
theorem Cx.new (W : World) (x : Ch) (t : TypeId) : Cx W.heap.size x (W.alloc (.cells #[.int .i64 x.lo, .int .i64 x.hi, .int .i64 x.fr, .int .i64 x.tt] t)) :=
  ⟨World.cell?_alloc_at _ _ _ _ rfl, World.cell?_alloc_at _ _ _ _ rfl, World.cell?_alloc_at _ _ _ _ rfl, World.cell?_alloc_at _ _ _ _ rfl⟩
end Go.Proofs.Ytahgfggcpmnnaab
namespace Go.Proofs.Ytahgfggcpmnnaab
open Go Go.RowKit Gs

/-- what addChange leaves -/
structure JC (W : World) (base : Nat) (v : Value) (K : List Ch) (v' : Value) (w' : World) : Prop where
  own : RowC base v' K w'
  bel : Below base W w'
  keep : ∀ k, k < W.heap.size → some k ≠ v.ownBlock → w'.heap[k]? = W.heap[k]?
  at' : ∀ k, v'.ownBlock = some k → v.ownBlock = some k ∨ W.heap.size ≤ k
set_option maxRecDepth 100000 in
set_option maxHeartbeats 1000000 in
theorem addChange_no {base : Nat} {v : Value} {K : List Ch} {xl xh xf xt : Int} {W : World} (hown : W.ownsRow base 59 4 v K.length (K.flatMap encC)) (hbase : base ≤ W.heap.size) (hlen : K.length ≤ 200000000000) (hno : ∀ (m : Nat) (h : m < K.length), K.length = m + 1 → K[m].hi = xl → K[m].fr = xf → K[m].tt ≠ xt) :
    Calls Try.prog 47 #[v, .agg #[.int .i64 xl, .int .i64 xh, .int .i64 xf, .int .i64 xt]] W fun e w' => ∃ v', e = .returned v' ∧ Hid (JC W base v (K ++ [⟨xl, xh, xf, xt⟩]) v' w') := by
  obtain ⟨va, vc, rfl⟩ := own_slice hown
  obtain ⟨w0, HW⟩ : ∃ w0, w0 = W.alloc (.cells #[.int .i64 xl, .int .i64 xh, .int .i64 xf, .int .i64 xt] 59) := ⟨_, rfl⟩
  have hm : Cx W.heap.size ⟨xl, xh, xf, xt⟩ w0 := by rw [HW]; exact Cx.new W ⟨xl, xh, xf, xt⟩ _
  have hb : Below W.heap.size W w0 := by rw [HW]; exact (Below.refl _ _).alloc (Nat.le_refl _) _
  have ho : w0.ownsRow base 59 4 (.slice va K.length vc) K.length (K.flatMap encC) := by rw [HW]; exact hown.alloc _
  have hlt : W.heap.size < w0.heap.size := by rw [HW]; simp
  have hcs := IsCs.of_row ho
  obtain ⟨n, hn⟩ : ∃ n, n = K.length := ⟨_, rfl⟩
  have HN := Lib.hid hn
  rw [← hn] at ho hcs hlen ⊢
  obtain ⟨XS, hXS⟩ : ∃ XS, XS = K.flatMap encC := ⟨_, rfl⟩
  rw [← hXS] at ho
  have HM := Lib.hid hm; have HB := Lib.hid hb; have HW' := Lib.hid HW; have HO := Lib.hid ho; have HNO := Lib.hid hno
  have hml : n + 1 ≤ maxLen := Nat.le_trans (show n + 1 ≤ 200000000001 by omega) (by decide)
  have hwl : base ≤ w0.heap.size := by omega
  have HEND : Hid (∀ (w2 w7 : World) (v' : Value) (o : Obj), Below w0.heap.size w0 w2 → w7.ownsRow base 59 4 v' (n + 1) (XS ++ [.int .i64 xl, .int .i64 xh, .int .i64 xf, .int .i64 xt]) → (w2.alloc o).grownBy w7 (Value.slice va n vc).ownBlock → (v'.ownBlock = (Value.slice va n vc).ownBlock ∨ v'.ownBlock = some (w2.alloc o).heap.size) → JC W base (.slice va n vc) (K ++ [⟨xl, xh, xf, xt⟩]) v' w7) := fun w2 w7 v' o h2 h hgrow hat => by
    have hx2 : W.heap.size < w2.heap.size := Nat.lt_of_lt_of_le hlt h2.size
    refine ⟨?_, (((hb.trans (h2.mono hb.size)).mono hbase).alloc (by omega) _).grown hgrow (by simp; omega) (own_at ho), fun k hk hne => ?_, fun k hk => ?_⟩
    · unfold RowC
      rw [len_snoc, List.flatMap_append (ys := [_]), ← hXS, ← hn]
      exact h
    · exact (hgrow.block k (by simp; omega) hne).trans ((Below.heap_alloc w2 o k (by omega)).trans ((h2.block k (by omega)).trans (hb.block k hk)))
    · rcases hat with h1 | h1
      · exact .inl (h1.symm.trans hk)
      · rw [h1] at hk
        injection hk with hk
        exact .inr (by simp at hk; omega)
  obtain ⟨i0, hi0, hz0, hz1, hz2⟩ := info_parts infoCh
  have HR0 : Hid (Below w0.heap.size w0 w0) := Below.refl _ _
  clear hm hb HW ho hn hXS hown hno
  go_enter Try.func47, Try.ntmps47
  go_upto_region 1 with fail
  rw [← HW'.out]
  by_cases hn0 : n = 0
  · have hgt : ¬ ((n : Int) > 0) := by omega
    have hd : decide ((n : Int) > 0) = false := decide_eq_false hgt
    have hd2 : decide (0 < n) = false := decide_eq_false (by omega)
    have hn1 : ¬ 0 < n := by omega
    clear hn0
    obtain ⟨k0, k1, k2, k3⟩ : _ ∧ _ ∧ _ ∧ _ := HM.out
    simp only at k0 k1 k2 k3
    have hsz2 := HR0.out.size
    go_wp2_with (at_builtin; refine wpList_append_own_at _ rfl _ _ 53 rfl base 59 i0 (.agg #[.int .i64 0, .int .i64 0, .int .i64 0, .int .i64 0]) 4 32 Try.underlying53 hi0 hz0 hz1 hz2 rfl (by decide) _ _ _ rfl (HO.out.alloc _) ⟨w0.heap.size, 0, none⟩ 1 1 [.int .i64 xl, .int .i64 xh, .int .i64 xf, .int .i64 xt] rfl rfl (cells4_new _ _ _ _ _ _) (by simp [Value.oneCell']) (by omega) (by omega) (by simp; omega) ?_; intro v' w7 hown' hgrow _ hat)
    have HF := Lib.hid (HEND.out w0 w7 v' _ HR0.out hown' hgrow hat)
    clear hown' hgrow hat k0 k1 k2 k3
    go_wp2_with fail
    go_ret
    exact ⟨v', rfl, HF⟩
  · obtain ⟨m, hmn⟩ : ∃ m, n = m + 1 := ⟨n - 1, by omega⟩
    have hgt : (n : Int) > 0 := by omega
    have hd : decide ((n : Int) > 0) = true := decide_eq_true hgt
    have hd2 : decide (0 < n) = true := decide_eq_true (by omega)
    have hn1 : 0 < n := by omega
    have hwr : IntKind.i64.wrap ((n : Int) - 1) = (m : Int) := by rw [IntWalk.i64_in] <;> omega
    have hmk : m < K.length := by rw [← HN.out]; omega
    have hm2 : (m : Int) < n := by omega
    obtain ⟨B, o, rfl, c0, c1, c2, c3⟩ := IsCs.at' hcs hmk
    have HNO2 := Lib.hid (HNO.out m hmk (by rw [← HN.out]; exact hmn))
    obtain ⟨y, hy⟩ : ∃ y, y = K[m] := ⟨_, rfl⟩
    rw [← hy] at c0 c1 c2 c3 HNO2
    obtain ⟨ya, yb, yc, yd⟩ := y
    simp only at c0 c1 c2 c3 HNO2
    obtain ⟨m0, m1, m2, m3⟩ : _ ∧ _ ∧ _ ∧ _ := HM.out
    simp only at m0 m1 m2 m3
    clear hy hmn hn0
    by_cases e1 : yb = xl
    · by_cases e2 : yc = xf
      · have e3 := HNO2.out e1 e2
        have n3 : (yd == xt) = false := beq_eq_false_iff_ne.2 e3
        have e1 := e1.symm; have e2 := e2.symm; subst e1; subst e2
        clear e3 HNO2
        go_wp2_with fail
        go_quiet (fail)
        rename_i nq
        have HBn : Hid (Below w0.heap.size w0 (World.drewN w0 nq)) := below_drewN (Below.refl _ _) nq
        have HO2 := Lib.hid (own_drewN HO.out nq)
        have HCX := Lib.hid (HM.out.below hlt HBn.out)
        clear c0 c1 c2 c3 m0 m1 m2 m3
        generalize hw : World.drewN w0 nq = w2 at HBn HO2 HCX ⊢
        clear hw
        obtain ⟨k0, k1, k2, k3⟩ : _ ∧ _ ∧ _ ∧ _ := HCX.out
        simp only at k0 k1 k2 k3
        have hsz2 := HBn.out.size
        go_wp2_with (at_builtin; refine wpList_append_own_at _ rfl _ _ 53 rfl base 59 i0 (.agg #[.int .i64 0, .int .i64 0, .int .i64 0, .int .i64 0]) 4 32 Try.underlying53 hi0 hz0 hz1 hz2 rfl (by decide) _ _ _ rfl (HO2.out.alloc _) ⟨w2.heap.size, 0, none⟩ 1 1 [.int .i64 xl, .int .i64 xh, .int .i64 xf, .int .i64 xt] rfl rfl (cells4_new _ _ _ _ _ _) (by simp [Value.oneCell']) (by omega) (by omega) (by simp; omega) ?_; intro v' w7 hown' hgrow _ hat)
        have HF := Lib.hid (HEND.out w2 w7 v' _ HBn.out hown' hgrow hat)
        clear hown' hgrow hat k0 k1 k2 k3
        go_wp2_with fail
        go_ret
        exact ⟨v', rfl, HF⟩
      · have n2 : (yc == xf) = false := beq_eq_false_iff_ne.2 e2
        have e1 := e1.symm; subst e1
        clear e2 HNO2
        go_wp2_with fail
        go_quiet (fail)
        rename_i nq
        have HBn : Hid (Below w0.heap.size w0 (World.drewN w0 nq)) := below_drewN (Below.refl _ _) nq
        have HO2 := Lib.hid (own_drewN HO.out nq)
        have HCX := Lib.hid (HM.out.below hlt HBn.out)
        clear c0 c1 c2 c3 m0 m1 m2 m3
        generalize hw : World.drewN w0 nq = w2 at HBn HO2 HCX ⊢
        clear hw
        obtain ⟨k0, k1, k2, k3⟩ : _ ∧ _ ∧ _ ∧ _ := HCX.out
        simp only at k0 k1 k2 k3
        have hsz2 := HBn.out.size
        go_wp2_with (at_builtin; refine wpList_append_own_at _ rfl _ _ 53 rfl base 59 i0 (.agg #[.int .i64 0, .int .i64 0, .int .i64 0, .int .i64 0]) 4 32 Try.underlying53 hi0 hz0 hz1 hz2 rfl (by decide) _ _ _ rfl (HO2.out.alloc _) ⟨w2.heap.size, 0, none⟩ 1 1 [.int .i64 xl, .int .i64 xh, .int .i64 xf, .int .i64 xt] rfl rfl (cells4_new _ _ _ _ _ _) (by simp [Value.oneCell']) (by omega) (by omega) (by simp; omega) ?_; intro v' w7 hown' hgrow _ hat)
        have HF := Lib.hid (HEND.out w2 w7 v' _ HBn.out hown' hgrow hat)
        clear hown' hgrow hat k0 k1 k2 k3
        go_wp2_with fail
        go_ret
        exact ⟨v', rfl, HF⟩
    · have n1 : (yb == xl) = false := beq_eq_false_iff_ne.2 e1
      clear e1 HNO2
      go_wp2_with fail
      go_quiet (fail)
      rename_i nq
      have HBn : Hid (Below w0.heap.size w0 (World.drewN w0 nq)) := below_drewN (Below.refl _ _) nq
      have HO2 := Lib.hid (own_drewN HO.out nq)
      have HCX := Lib.hid (HM.out.below hlt HBn.out)
      clear c0 c1 c2 c3 m0 m1 m2 m3
      generalize hw : World.drewN w0 nq = w2 at HBn HO2 HCX ⊢
      clear hw
      obtain ⟨k0, k1, k2, k3⟩ : _ ∧ _ ∧ _ ∧ _ := HCX.out
      simp only at k0 k1 k2 k3
      have hsz2 := HBn.out.size
      go_wp2_with (at_builtin; refine wpList_append_own_at _ rfl _ _ 53 rfl base 59 i0 (.agg #[.int .i64 0, .int .i64 0, .int .i64 0, .int .i64 0]) 4 32 Try.underlying53 hi0 hz0 hz1 hz2 rfl (by decide) _ _ _ rfl (HO2.out.alloc _) ⟨w2.heap.size, 0, none⟩ 1 1 [.int .i64 xl, .int .i64 xh, .int .i64 xf, .int .i64 xt] rfl rfl (cells4_new _ _ _ _ _ _) (by simp [Value.oneCell']) (by omega) (by omega) (by simp; omega) ?_; intro v' w7 hown' hgrow _ hat)
      have HF := Lib.hid (HEND.out w2 w7 v' _ HBn.out hown' hgrow hat)
      clear hown' hgrow hat k0 k1 k2 k3
      go_wp2_with fail
      go_ret
      exact ⟨v', rfl, HF⟩
theorem setC_last (K : List Ch) (yl yh yf yt xh : Int) : ((K ++ [(⟨yl, yh, yf, yt⟩ : Ch)]).flatMap encC).set (K.length * 4 + 1) (.int .i64 xh) = (K ++ [(⟨yl, xh, yf, yt⟩ : Ch)]).flatMap encC := by
  rw [List.flatMap_append, List.flatMap_append, List.set_append_right _ _ (by rw [encC_len]; omega), encC_len, show K.length * 4 + 1 - K.length * 4 = 1 by omega]
  rfl
set_option maxRecDepth 100000 in
set_option maxHeartbeats 1000000 in
theorem addChange_same {base : Nat} {v : Value} {K : List Ch} {yl xl xh xf xt : Int} {W : World} (h : RowC base v (K ++ [⟨yl, xl, xf, xt⟩]) W) (hb : base ≤ W.heap.size) (hl : K.length ≤ 200000000000) :
    Calls Try.prog 47 #[v, .agg #[.int .i64 xl, .int .i64 xh, .int .i64 xf, .int .i64 xt]] W fun e w' => ∃ v', e = .returned v' ∧ Hid (JC W base v (K ++ [⟨yl, xh, xf, xt⟩]) v' w') := by
  have hown := h
  rcases h.2 with ⟨_, h0⟩ | ⟨G, c, cur, rfl, hG, hGh, hcap, -⟩
  · rw [List.length_append] at h0; cases h0
  unfold RowC at hown
  obtain ⟨m, hm⟩ : ∃ m, m = K.length := ⟨_, rfl⟩
  have hlen : (K ++ [(⟨yl, xl, xf, xt⟩ : Ch)]).length = m + 1 := by rw [hm]; simp
  rw [hlen] at hown hcap ⊢
  obtain ⟨n, hn⟩ : ∃ n, n = m + 1 := ⟨_, rfl⟩
  rw [← hn] at hown hcap ⊢
  obtain ⟨XS, hXS⟩ : ∃ XS, XS = (K ++ [(⟨yl, xl, xf, xt⟩ : Ch)]).flatMap encC := ⟨_, rfl⟩
  rw [← hXS] at hown
  obtain ⟨g0, g1, g2, g3⟩ := encC_get (K ++ [(⟨yl, xl, xf, xt⟩ : Ch)]) m (by rw [hlen]; omega)
  have e1 : (K ++ [(⟨yl, xl, xf, xt⟩ : Ch)])[m]'(by rw [hlen]; omega) = ⟨yl, xl, xf, xt⟩ := by subst hm; simp
  rw [e1, ← hXS] at g1 g2 g3
  obtain ⟨w0, HW⟩ : ∃ w0, w0 = W.alloc (.cells #[.int .i64 xl, .int .i64 xh, .int .i64 xf, .int .i64 xt] 59) := ⟨_, rfl⟩
  have hcx : Cx W.heap.size ⟨xl, xh, xf, xt⟩ w0 := by rw [HW]; exact Cx.new W ⟨xl, xh, xf, xt⟩ _
  have hb0 : Below W.heap.size W w0 := by rw [HW]; exact (Below.refl _ _).alloc (Nat.le_refl _) _
  have ho : w0.ownsRow base 59 4 (.slice (some ⟨G, 0, none⟩) n c) n XS := by rw [HW]; exact hown.alloc _
  have hlt : W.heap.size < w0.heap.size := by rw [HW]; simp
  have HM := Lib.hid hcx; have HB := Lib.hid hb0; have HO := Lib.hid ho; have HW' := Lib.hid HW
  have HCL : Hid (∀ (W' : World), W'.ownsRow base 59 4 (.slice (some ⟨G, 0, none⟩) n c) n XS → W'.cell? ⟨G, m * 4 + 1, none⟩ = some (.int .i64 xl) ∧ W'.cell? ⟨G, m * 4 + 2, none⟩ = some (.int .i64 xf) ∧ W'.cell? ⟨G, m * 4 + 3, none⟩ = some (.int .i64 xt) ∧ W'.frozen? ⟨G, m * 4 + 1, none⟩ = false) := fun W' ho =>
    ⟨(ho.cellAt (m * 4 + 1) (by omega)).trans g1, (ho.cellAt (m * 4 + 2) (by omega)).trans g2, (ho.cellAt (m * 4 + 3) (by omega)).trans g3, ho.frozenAt _⟩
  have HFIN : Hid (∀ (W' : World), Below w0.heap.size w0 W' → W'.ownsRow base 59 4 (.slice (some ⟨G, 0, none⟩) n c) n XS → JC W base (.slice (some ⟨G, 0, none⟩) n c) (K ++ [⟨yl, xh, xf, xt⟩]) (.slice (some ⟨G, 0, none⟩) n c) (W'.setCell ⟨G, m * 4 + 1, none⟩ (.int .i64 xh))) := fun W' hw ho => by
    obtain ⟨s1, s2⟩ := ho.stored (m * 4 + 1) (.int .i64 xh)
    have hbw := hb0.trans (hw.mono hb0.size)
    refine ⟨?_, (hbw.mono hb).setCell (p := ⟨G, m * 4 + 1, none⟩) hG _, fun k hk hne => (s2.block k (Nat.lt_of_lt_of_le (Nat.lt_trans hk hlt) hw.size) hne).trans (hbw.block k hk), fun k hk => .inl hk⟩
    unfold RowC
    rw [show (K ++ [(⟨yl, xh, xf, xt⟩ : Ch)]).length = n by rw [hn, hm]; simp, ← setC_last K yl xl xf xt xh, ← hXS, ← hm]
    exact s1
  have hw1 : IntKind.i64.wrap ((n : Int) - 1) = (m : Int) := by rw [IntWalk.i64_in] <;> omega
  have hgt : (n : Int) > 0 := by omega
  have hd1 : decide ((n : Int) > 0) = true := decide_eq_true hgt
  have hn0 : 0 < n := by omega
  have hd2 : decide (0 < n) = true := decide_eq_true hn0
  have hmn : (m : Int) < n := by omega
  have hml : n ≤ 200000000001 := by omega
  obtain ⟨m0, m1, m2, m3⟩ : _ ∧ _ ∧ _ ∧ _ := HM.out
  simp only at m0 m1 m2 m3
  obtain ⟨d1, d2, d3, f1⟩ := HCL.out _ HO.out
  clear HW hn hl hown h hlen hXS e1 g0 g1 g2 g3 hGh hcap hm hcx hb0 ho
  go_enter Try.func47, Try.ntmps47
  go_upto_region 1 with fail
  rw [← HW'.out]
  go_wp2_with fail
  go_quiet (fail)
  rename_i nq
  have HBn : Hid (Below w0.heap.size w0 (World.drewN w0 nq)) := below_drewN (Below.refl _ _) nq
  have HO2 := Lib.hid (own_drewN HO.out nq)
  have HCX := Lib.hid (HM.out.below hlt HBn.out)
  clear m0 m1 m2 m3 d1 d2 d3 f1
  generalize hw : World.drewN _ nq = w2 at HBn HO2 HCX ⊢
  clear hw
  obtain ⟨m0, m1, m2, m3⟩ : _ ∧ _ ∧ _ ∧ _ := HCX.out
  simp only at m0 m1 m2 m3
  obtain ⟨d1, d2, d3, f1⟩ := HCL.out _ HO2.out
  have HF := Lib.hid (HFIN.out _ HBn.out HO2.out)
  go_wp2_with fail
  go_ret
  exact ⟨_, rfl, HF.out⟩
end Go.Proofs.Ytahgfggcpmnnaab
namespace Go.Proofs.Ytahgfggcpmnnaab
open Go Go.RowKit Gs

theorem RowC.next {base : Nat} {v : Value} {K : List Ch} {W W2 : World} (h : RowC base v K W) (hb : Below W.heap.size W W2) : RowC base v K W2 := by
  refine ⟨h.1, ?_⟩
  rcases h.2 with h0 | ⟨g, cap, cur, h1, h2, h3, h4⟩
  · exact .inl h0
  · exact .inr ⟨g, cap, cur, h1, h2, (hb.block g (Array.getElem?_eq_some_iff.1 h3).1).trans h3, h4⟩
theorem RowC.mono {base b2 : Nat} {v : Value} {K : List Ch} {W : World} (h : RowC base v K W) (hb : b2 ≤ base) : RowC b2 v K W := by
  refine ⟨h.1, ?_⟩
  rcases h.2 with h0 | ⟨g, cap, cur, h1, h2, h3, h4⟩
  · exact .inl h0
  · exact .inr ⟨g, cap, cur, h1, Nat.le_trans hb h2, h3, h4⟩
theorem RowC.nil (base : Nat) (W : World) : RowC base (.slice none 0 0) [] W := World.ownsRow_nil _ _ _ _
/-- a run of pairs ends where the first of its two runs ends -/
theorem rl_piece {f g : Int → Int} {la lb : List R} {size : Int} (ha : Fits f 0 la size) (hb : Fits g 0 lb size) {r : R} (hr : r ∈ rl la lb) (i k : Nat) (hi : i < la.length) (hk : k < lb.length) (h1 : la[i].lo ≤ r.lo) (h2 : r.lo < la[i].hi) (h3 : lb[k].lo ≤ r.lo) (h4 : r.lo < lb[k].hi) :
    r.hi = min la[i].hi lb[k].hi := by
  obtain ⟨x, hx, hr⟩ := List.mem_flatMap.1 hr
  obtain ⟨s, hs, rfl⟩ := List.mem_map.1 hr
  obtain ⟨y, hy, hs⟩ := List.mem_flatMap.1 hs
  unfold clip1 at hs
  split at hs
  · rename_i hc
    have hs := List.mem_singleton.1 hs
    subst hs
    simp only at h1 h2 h3 h4 ⊢
    have e1 := fits_one ha (List.getElem_mem hi) hx h1 h2 (by omega) (by omega)
    have e2 := fits_one hb (List.getElem_mem hk) hy h3 h4 (by omega) (by omega)
    rw [e1, e2]
    omega
  · cases hs
theorem dec_mem {K : List R} {c : Ch} (h : c ∈ dec K) : ∃ r ∈ K, r.hi = c.hi ∧ r.tag / 16 = c.fr ∧ r.tag % 16 = c.tt := by
  unfold dec at h
  obtain ⟨r, hr, rfl⟩ := List.mem_map.1 h
  exact ⟨r, (List.mem_filter.1 hr).1, rfl, rfl, rfl⟩
theorem dec_nolink {h : Int → Int} {K M : List R} {size at' : Int} (hc : Gs.Can h 0 (K ++ M) size) (h1 : Fits h 0 K at') (hlt : at' < size) : ∀ (m : Nat) (hm : m < (dec K).length), (dec K).length = m + 1 → (dec K)[m].hi = at' → (dec K)[m].fr = h at' / 16 → (dec K)[m].tt ≠ h at' % 16 := by
  intro m hm _ e1 e2 e3
  obtain ⟨r, hr, q1, q2, q3⟩ := dec_mem (List.getElem_mem hm)
  obtain ⟨m', p1, p2, p3⟩ := hc.part
  have := h1.ends p1.1
  subst this
  have hrg := fits_rng h1 r hr
  have e4 := p3 (by omega) hlt
  obtain ⟨j, hj, rfl⟩ := List.getElem_of_mem hr
  have h5 := (fits_at h1 j hj).2.2.2 (at' - 1) (by omega) (by omega)
  rw [h5] at e4
  apply e4
  omega
end Go.Proofs.Ytahgfggcpmnnaab
