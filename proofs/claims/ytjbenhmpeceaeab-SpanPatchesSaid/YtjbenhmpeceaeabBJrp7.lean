/- WHAT IS PROVED: for any size and any two lists of updates: SpanPatches returns true, and its arguments read as before. Conditions: none but the row's own. -/
import Derived.Test.YtjbenhmpeceaeabBJrp6
import Derived.Test.YtjbenhmpeceaeabBJrp5
import Derived.Maps.AppendAt
import Derived.Test.YtjbenhmpeceaeabBJrp4
import Derived.ShutString
import Derived.ChangeOld
import Derived.Below
namespace Go.Proofs.Ytjbenhmpeceaeab
open Go Go.RowKit Gs

set_option maxHeartbeats 1000000 in
/-- ref.Changed, of two lists that are the same -/
theorem RChanged_same {W : World} {u v : Value} {L : List Ch} (h1 : IsCs W u L) (h2 : IsCs W v L) (hlen : L.length ≤ 100000) : Calls Try.prog 27 #[u, v] W fun e w' => e = .returned (.bool true) ∧ Hid (Below W.heap.size W w') := by
  have HU := Lib.hid h1; have HV := Lib.hid h2
  obtain ⟨a, c, rfl, -⟩ := h1
  obtain ⟨a', c', rfl, -⟩ := h2
  obtain ⟨n, hn⟩ : ∃ n, n = L.length := ⟨_, rfl⟩
  rw [← hn] at HU HV ⊢
  have hnb : n ≤ 100000 := by omega
  have HN := Lib.hid hn
  clear hn hlen
  go_enter Try.func27, Try.ntmps27
  go_wp2_with fail
  go_loopw [5] (fun iv wr => ∃ j : Nat, j ≤ n ∧ iv = .int .i64 j ∧ Hid (Below W.heap.size W wr)) (fun i _ => n - (intOf i).toNat)
  case atStart => exact ⟨0, by omega, rfl, Below.refl _ _⟩
  case round =>
    obtain ⟨j, hj, rfl, HB⟩ := hrel
    by_cases hlt : j < n
    · have hj2 : (j : Int) < n := by omega
      have hj0 : (0 : Int) ≤ (j : Int) := by omega
      have hjl : j < L.length := by rw [← HN.out]; exact hlt
      obtain ⟨G, o, rfl, c0, c1, c2, c3⟩ := (HU.out.below HB.out).at' hjl
      obtain ⟨G', o', rfl, d0, d1, d2, d3⟩ := (HV.out.below HB.out).at' hjl
      generalize L[j] = x at *
      obtain ⟨xa, xb, xc, xd⟩ := x
      simp only at c0 c1 c2 c3 d0 d1 d2 d3
      go_wp2_with fail
      go_quiet (fail)
      rename_i nq
      have HBn : Hid (Below W.heap.size W (World.drewN wr nq)) := below_drewN HB.out nq
      clear c0 c1 c2 c3 d0 d1 d2 d3
      generalize hw : World.drewN _ nq = w2 at HBn ⊢
      clear hw
      go_wp2_with fail
      go_roundw
      case rel => exact ⟨j + 1, by omega, by go_num, HBn.out⟩
      case measure => simp [intOf]; omega
    · have hj2 : ¬ (j : Int) < n := by omega
      go_wp2_with fail
      go_ret
      exact ⟨rfl, HB.out⟩
def encC (c : Ch) : List Value := [.int .i64 c.lo, .int .i64 c.hi, .int .i64 c.fr, .int .i64 c.tt]
theorem encC_len (l : List Ch) : (l.flatMap encC).length = l.length * 4 := by
  induction l with
  | nil => rfl
  | cons c l ih => rw [List.flatMap_cons, List.length_append, ih]; simp [encC]; omega
theorem encC_one (l : List Ch) : ∀ u ∈ l.flatMap encC, u.oneCell' = true := by
  intro u hu
  obtain ⟨r, _, hr⟩ := List.mem_flatMap.1 hu
  simp only [encC, List.mem_cons, List.not_mem_nil, or_false] at hr
  rcases hr with rfl | rfl | rfl | rfl <;> rfl
theorem encC_get : ∀ (l : List Ch) (j : Nat) (h : j < l.length), (l.flatMap encC)[j * 4]? = some (.int .i64 l[j].lo) ∧ (l.flatMap encC)[j * 4 + 1]? = some (.int .i64 l[j].hi) ∧ (l.flatMap encC)[j * 4 + 2]? = some (.int .i64 l[j].fr) ∧ (l.flatMap encC)[j * 4 + 3]? = some (.int .i64 l[j].tt)
  | r :: l, 0, _ => ⟨rfl, rfl, rfl, rfl⟩
  | r :: l, j + 1, h => by
    have ih := encC_get l j (by simpa using h)
    have e : ∀ i, ((r :: l).flatMap encC)[i + 4]? = (l.flatMap encC)[i]? := fun i => rfl
    rw [show (j + 1) * 4 = j * 4 + 4 by omega, show j * 4 + 4 + 1 = j * 4 + 1 + 4 by omega, show j * 4 + 4 + 2 = j * 4 + 2 + 4 by omega, show j * 4 + 4 + 3 = j * 4 + 3 + 4 by omega, e, e, e, e]
    exact ih
theorem IsCs.of_row {W : World} {base : Nat} {v : Value} {l : List Ch} (h : W.ownsRow base 59 4 v l.length (l.flatMap encC)) : IsCs W v l := by
  have hcs := fun g hg => h.cells (g := g) hg
  have hlt := h.lt
  rcases h.2 with ⟨rfl, h0⟩ | ⟨g, cap, cur, rfl, _⟩
  · exact ⟨none, 0, by rw [h0], fun hp => by omega⟩
  · refine ⟨some ⟨g, 0, none⟩, cap, rfl, fun hp => ⟨g, 0, rfl, (hlt g rfl).2, fun j hj => ?_⟩⟩
    obtain ⟨e0, e1, e2, e3⟩ := encC_get l j hj
    have c0 := hcs g rfl _ _ e0
    have c1 := hcs g rfl _ _ e1
    have c2 := hcs g rfl _ _ e2
    have c3 := hcs g rfl _ _ e3
    rw [add_zero'] at c0 c1 c2 c3
    rw [Nat.zero_add]
    exact ⟨c0, c1, c2, c3⟩
/-- the cells of a list of changes, in a row -/
theorem IsCs.news {W : World} {B o n c : Nat} {l : List Ch} (h : IsCs W (.slice (some ⟨B, o, none⟩) n c) l) : ∀ j u, (l.flatMap encC)[j]? = some u → W.cell? ((⟨B, o, none⟩ : Addr).add j) = some u := by
  intro j u hj
  have hlt : j < l.length * 4 := by
    rw [← encC_len]
    exact (List.getElem?_eq_some_iff.1 hj).1
  obtain ⟨B', o', e, c0, c1, c2, c3⟩ := h.at' (j := j / 4) (by omega)
  injection e with e
  injection e with e1 e2
  subst e1; subst e2
  obtain ⟨e0, e1, e2, e3⟩ := encC_get l (j / 4) (by omega)
  rw [show (⟨B, o, none⟩ : Addr).add j = ⟨B, o + j, none⟩ by unfold Addr.add; split <;> simp_all]
  have hr : j % 4 = 0 ∨ j % 4 = 1 ∨ j % 4 = 2 ∨ j % 4 = 3 := by omega
  rcases hr with hr | hr | hr | hr
  · have ej : j = j / 4 * 4 := by omega
    rw [ej, e0] at hj
    rw [ej]; cases hj; exact c0
  · have ej : j = j / 4 * 4 + 1 := by omega
    rw [ej, e1] at hj
    rw [ej, ← Nat.add_assoc]; cases hj; exact c1
  · have ej : j = j / 4 * 4 + 2 := by omega
    rw [ej, e2] at hj
    rw [ej, ← Nat.add_assoc]; cases hj; exact c2
  · have ej : j = j / 4 * 4 + 3 := by omega
    rw [ej, e3] at hj
    rw [ej, ← Nat.add_assoc]; cases hj; exact c3
theorem infoChange : (Try.prog.info? 59).map (fun i => (i.zero, i.size, i.bytes)) = some (some (.agg #[.int .i64 0, .int .i64 0, .int .i64 0, .int .i64 0]), 4, 32) := by kernel_rfl
theorem IsCs.len {W : World} {a : Option Addr} {n c : Nat} {l : List Ch} (h : IsCs W (.slice a n c) l) : n = l.length := by
  obtain ⟨_, _, hv, _⟩ := h
  injection hv
/-- a copy of a list of changes: an append to an empty list -/
theorem wpList_copyC {w3 : World} {ops : Array Oper} {rest : List Oper} {o : Oper} {a : Go.Act} {Q : Exit → Go.Act → World → Prop} (hgd : o.guard = none) (s x : Operand)
    (ho : o.op = .call { callee := .builtin .append, args := #[s, x], argTypes := #[53, 53] }) {cv : Value} {k : List Ch} {m : Nat} (hmk : m = k.length)
    (hs : a.eval s = .slice (some ⟨w3.heap.size, 0, none⟩) 0 0) (hx : a.eval x = cv) (hk : IsCs w3 cv k) (hkv : cv = .slice none 0 0 ∨ ∃ a m c, cv = .slice (some a) m c) (hm : m ≤ 100000)
    (h : ∀ a2 c2 w5, IsCs w5 (.slice a2 m c2) k → Below w3.heap.size w3 w5 → wpList Try.prog ops Q rest (a.put o.dst (.slice a2 m c2)) w5) : wpList Try.prog ops Q (o :: rest) a (w3.alloc (.cells #[] 59)) := by
  obtain ⟨i0, hi0, hz0, hz1, hz2⟩ := info_parts infoChange
  have hown : (w3.alloc (.cells #[] 59)).ownsRow w3.heap.size 59 4 (.slice (some ⟨w3.heap.size, 0, none⟩) 0 0) 0 [] := World.ownsRow_lit w3 #[] 0 (Nat.le_refl _) (by decide) (by simp)
  have hb := alloc_below w3 (.cells #[] 59)
  rcases hkv with rfl | ⟨a0, m0, c0, rfl⟩
  · have hk0 : m = 0 := hmk.trans hk.len.symm
    subst hk0
    refine wpList_append_nil hgd s x _ ho w3.heap.size _ i0 4 Try.underlying53 hi0 _ 0 [] hs hown hx ?_
    have hk1 : k = [] := List.eq_nil_of_length_eq_zero hmk.symm
    subst hk1
    exact h _ _ _ ⟨_, _, rfl, fun h => absurd h (by simp)⟩ hb
  · have hm0 : m0 = m := hk.len.trans hmk.symm
    subst hm0
    have hnw : ∀ j u, (k.flatMap encC)[j]? = some u → (w3.alloc (.cells #[] 59)).cell? (a0.add j) = some u := by
      by_cases hz : k = []
      · subst hz
        intro j u hj
        simp at hj
      · obtain ⟨B, o', e, _⟩ := hk.at' (j := 0) (List.length_pos_iff.2 hz)
        injection e with e
        subst e
        exact (hk.below hb).news
    refine wpList_append_own_at _ hgd s x _ ho w3.heap.size _ i0 _ 4 32 Try.underlying53 hi0 hz0 hz1 hz2 rfl (by decide) _ 0 [] hs hown a0 m0 c0 (k.flatMap encC) hx (by rw [encC_len, hmk]) hnw (encC_one k) (by rw [Nat.zero_add]; exact Nat.le_trans hm (by decide)) (by omega) hb.size ?_
    intro v' w5 hown' hgrow _ _
    rw [Nat.zero_add, List.nil_append, hmk] at hown'
    have hcs := IsCs.of_row hown'
    have hcs0 := hcs
    obtain ⟨a2, c2, rfl, -⟩ := hcs0
    rw [← hmk] at hcs ⊢
    exact h _ _ _ hcs (hb.grown hgrow hb.size (fun j hj => by cases hj; exact Nat.le_refl _))
section
open Go.ChangeShapes Go.WideShapes Go.ChangeAt Go.Deep
theorem four_ch : Try.prog.cellsOf 59 = 4 := by kernel_rfl
section
variable {H : Type} {enc : TypeId × Value → H} {W : World} {base : Nat} {sp : Nat → Bool} {held : Bool}
theorem ch_cells {fuel : Nat} {cs : List Value} {x : DataW H × List MemPlace} (h : DataW.trod enc Try.prog W base sp held fuel 59 cs = some x) :
    ∃ a : Ch, cs[0]? = some (.int .i64 a.lo) ∧ cs[1]? = some (.int .i64 a.hi) ∧ cs[2]? = some (.int .i64 a.fr) ∧ cs[3]? = some (.int .i64 a.tt) ∧ cs.length = 4 := by
  obtain ⟨xs, n, _, _, hl, hx, hg⟩ := DataW.trod_struct Try.underlying59 h
  have hx : xs.length = 4 := hx
  obtain ⟨b0, e0⟩ := fld_int (i := 0) (by omega) (hg 0 _ rfl)
  obtain ⟨b1, e1⟩ := fld_int (i := 1) (by omega) (hg 1 _ rfl)
  obtain ⟨b2, e2⟩ := fld_int (i := 2) (by omega) (hg 2 _ rfl)
  obtain ⟨b3, e3⟩ := fld_int (i := 3) (by omega) (hg 3 _ rfl)
  exact ⟨⟨b0, b1, b2, b3⟩, e0, e1, e2, e3, by rw [hl, four_ch]⟩
/-- a list of changes -/
theorem changes_of {v : Value} {d : DataW H} {p : List MemPlace} (h : DataW.Trod enc Try.prog W 0 (fun _ => true) true 53 v d p) (hv : ∃ a n c, v = .slice a n c) : ∃ l, IsCs W v l ∧ (v = .slice none 0 0 ∨ ∃ a m c, v = .slice (some a) m c) := by
  obtain ⟨a0, len0, cap0, rfl⟩ := hv
  obtain ⟨fuel, hf⟩ := h
  rcases open_slice Try.underlying53 hf with ⟨hcs, _⟩ | ⟨a, len, cap, m, n, D, Pl, hcs, _, hl, _, hm, _, hi⟩
  · simp [Value.cells] at hcs
    obtain ⟨rfl, rfl, rfl⟩ := hcs
    exact ⟨[], ⟨none, 0, rfl, fun h => absurd h (by simp)⟩, .inl rfl⟩
  · simp [Value.cells] at hcs
    obtain ⟨rfl, rfl, rfl⟩ := hcs
    simp only [if_true] at hm
    have hex : ∀ i, i < len0 → ∃ x : Ch, ∀ j, j < 4 → W.cell? ((a.add (i * 4)).add j) = [Value.int .i64 x.lo, .int .i64 x.hi, .int .i64 x.fr, .int .i64 x.tt][j]? := fun i hlt => by
      obtain ⟨cs', hc, ht⟩ := hi i (by omega)
      rw [four_ch] at hc
      obtain ⟨_, hln, hat⟩ := World.cells?_some hc
      obtain ⟨x, e0, e1, e2, e3, _⟩ := ch_cells ht
      refine ⟨x, fun j hj => ?_⟩
      rw [hat j hj]
      have : j = 0 ∨ j = 1 ∨ j = 2 ∨ j = 3 := by omega
      rcases this with rfl | rfl | rfl | rfl
      · exact e0
      · exact e1
      · exact e2
      · exact e3
    obtain ⟨g, hg⟩ : ∃ g : Nat → Ch, ∀ i, i < len0 → ∀ j, j < 4 → W.cell? ((a.add (i * 4)).add j) = [Value.int .i64 (g i).lo, .int .i64 (g i).hi, .int .i64 (g i).fr, .int .i64 (g i).tt][j]? :=
      ⟨fun i => if h : i < len0 then (hex i h).choose else ⟨0, 0, 0, 0⟩, fun i h => by simp only [dif_pos h]; exact (hex i h).choose_spec⟩
    refine ⟨(List.range len0).map g, ⟨some a, cap0, by simp, fun hp => ?_⟩, .inr ⟨_, _, _, rfl⟩⟩
    have hp : 0 < len0 := by simpa using hp
    obtain ⟨b, o, s⟩ := a
    have h00 := hg 0 hp 0 (by decide)
    obtain rfl : s = none := by
      cases s with
      | none => rfl
      | some _ =>
        exfalso
        unfold World.cell? Addr.add at h00
        simp only [if_true] at h00
        split at h00 <;> simp at h00
    refine ⟨b, o, rfl, ?_, fun j hj => ?_⟩
    · have h1 : W.cell? ⟨b, o, none⟩ = some (.int .i64 (g 0).lo) := by simpa [Addr.add] using h00
      exact World.block_lt_of_cell? _ _ h1
    · have hj : j < len0 := by simpa using hj
      have k : ∀ i, i < 4 → W.cell? ⟨b, o + j * 4 + i, none⟩ = [Value.int .i64 (g j).lo, .int .i64 (g j).hi, .int .i64 (g j).fr, .int .i64 (g j).tt][i]? := fun i hi => by
        have := hg j hj i hi
        rwa [addz, addz] at this
      have e : ((List.range len0).map g)[j]'(by simpa using hj) = g j := by simp
      refine ⟨?_, ?_, ?_, ?_⟩
      · rw [e]; exact k 0 (by decide)
      · rw [e]; exact k 1 (by decide)
      · rw [e]; exact k 2 (by decide)
      · rw [e]; exact k 3 (by decide)
end
end
end Go.Proofs.Ytjbenhmpeceaeab
namespace Go.Proofs.Ytjbenhmpeceaeab
open Go Go.RowKit Go.Shelf Gs

attribute [local go_sem] Oper.semAt_some

/-- the changes within one run -/
def diff1 (x : R) (l : List R) : List Ch := (l.filter fun r => decide (r.tag ≠ x.tag)).map fun r => ⟨r.lo, r.hi, x.tag, r.tag⟩
/-- the changes from one list of runs to another -/
def diffE (la lb : List R) : List Ch := la.flatMap fun x => diff1 x (clip x.lo x.hi lb)
theorem diff1_snoc (x : R) (l : List R) (y : R) : diff1 x (l ++ [y]) = diff1 x l ++ (if y.tag = x.tag then [] else [⟨y.lo, y.hi, x.tag, y.tag⟩]) := by
  unfold diff1
  by_cases h : y.tag = x.tag
  · simp [h]
  · simp [h]
theorem diff1_len (x : R) (l : List R) : (diff1 x l).length ≤ l.length := by
  unfold diff1
  rw [List.length_map]
  exact List.length_filter_le _ _
theorem diffE_snoc (la : List R) (x : R) (lb : List R) : diffE (la ++ [x]) lb = diffE la lb ++ diff1 x (clip x.lo x.hi lb) := by
  unfold diffE
  rw [List.flatMap_append, List.flatMap_cons, List.flatMap_nil, List.append_nil]
theorem len_snoc {α : Type} (l : List α) (x : α) : (l ++ [x]).length = l.length + 1 := by simp
theorem cells4_new (w : World) (x y z u : Value) (t : TypeId) : ∀ j v, [x, y, z, u][j]? = some v → (w.alloc (.cells #[x, y, z, u] t)).cell? ((⟨w.heap.size, 0, none⟩ : Addr).add j) = some v := by
  intro j v hj
  match j, hj with
  | 0, hj => simp at hj; subst hj; exact World.cell?_alloc_at _ _ _ _ rfl
  | 1, hj => simp at hj; subst hj; exact World.cell?_alloc_at _ _ _ _ rfl
  | 2, hj => simp at hj; subst hj; exact World.cell?_alloc_at _ _ _ _ rfl
  | 3, hj => simp at hj; subst hj; exact World.cell?_alloc_at _ _ _ _ rfl
theorem infoCh : (Try.prog.info? 59).map (fun i => (i.zero, i.size, i.bytes)) = some (some (.agg #[.int .i64 0, .int .i64 0, .int .i64 0, .int .i64 0]), 4, 32) := by kernel_rfl
/-- a map's box, as a whole object -/
def Mh (W : World) (B : Nat) (p : Option Addr) (size : Int) : Prop := W.heap[B]? = some (.cells #[.pointer p, .int .i64 size] 27 (0, 0))
theorem Mh.lt {W : World} {B : Nat} {p : Option Addr} {size : Int} (h : Mh W B p size) : B < W.heap.size := (Array.getElem?_eq_some_iff.1 h).1
theorem Mh.kept {W W' : World} {row : Option Nat} {B : Nat} {p : Option Addr} {size : Int} (h : Mh W B p size) (hg : W.grownBy W' row) (hne : some B ≠ row) : Mh W' B p size := (hg.block B h.lt hne).trans h
theorem Mh.own (B : Nat) (p : Option Addr) (size : Int) : Own (fun (_ : Unit) W => Mh W B p size) := fun s X Y row hs hg hrow => hs.kept hg fun e' => by
  obtain ⟨o, ho, hc⟩ := hrow B e'.symm
  rw [show X.heap[B]? = _ from hs] at ho; cases ho; cases hc
theorem Mh.cell {W : World} {B : Nat} {p : Option Addr} {size : Int} (h : Mh W B p size) : W.cell? ⟨B, 0, none⟩ = some (.pointer p) := by
  have h' : W.heap[B]? = _ := h
  simp [World.cell?, h']
theorem Mh.alloc {W : World} {B : Nat} {p : Option Addr} {size : Int} (h : Mh W B p size) (o : Obj) : Mh (W.alloc o) B p size := (Below.heap_alloc W o B h.lt).trans h
theorem Rb.alloc {W : World} {B : Nat} {r : R} (h : Rb W B r) (o : Obj) : Rb (W.alloc o) B r := (Below.heap_alloc W o B h.lt).trans h
theorem Mh.other {W : World} {B B' : Nat} {p : Option Addr} {size : Int} (h : Mh W B p size) (hne : B ≠ B') (u : Value) : Mh (W.setCell ⟨B', 0, none⟩ u) B p size := h.kept (grownBy_setCell' W B' u) (fun e => hne (by cases e; rfl))
theorem Rb.other {W : World} {B B' : Nat} {r : R} (h : Rb W B r) (hne : B ≠ B') (u : Value) : Rb (W.setCell ⟨B', 0, none⟩ u) B r := h.kept (grownBy_setCell' W B' u) (fun e => hne (by cases e; rfl))
/-- a box of cells that is no row's block -/
theorem ne_row {W : World} {B : Nat} {cs : Array Value} {t e : TypeId} {fr : Nat × Nat} (h : W.heap[B]? = some (.cells cs t fr)) (hte : t ≠ e) {base size k : Nat} {v : Value} {xs : List Value} (hr : W.ownsRow base e size v k xs) : some B ≠ v.ownBlock := by
  rcases hr.2 with ⟨rfl, _⟩ | ⟨g, cap, cur, rfl, _, hgb, _⟩
  · simp [Value.ownBlock]
  · intro e'
    obtain rfl : B = g := by simpa [Value.ownBlock] using e'
    have := h.symm.trans hgb
    simp at this
    exact hte this.2.1
set_option maxRecDepth 100000 in
set_option maxHeartbeats 4000000 in
theorem Diff_any {f g : Int → Int} {size : Int} {W : World} {p q : Option Addr} (h : IsM f size W p) (h' : IsM g size W q) :
    ∃ La Lb, Gs.Can f 0 La size ∧ Gs.Can g 0 Lb size ∧ Calls Try.prog 19 #[.agg #[.pointer p, .int .i64 size], .agg #[.pointer q, .int .i64 size]] W fun e w' => ∃ v, e = .returned (.tuple #[v, .int .i64 0]) ∧
      Hid (w'.ownsRow W.heap.size 59 4 v (diffE La Lb).length ((diffE La Lb).flatMap encC)) ∧ Below W.heap.size W w' := by
  have hs := h.lo
  obtain ⟨bp, rfl⟩ := h.some
  obtain ⟨bq, rfl⟩ := h'.some
  obtain ⟨ta, a1, a2, a3⟩ := h.tr
  obtain ⟨tb, b1, b2, b3⟩ := h'.tr
  have hcl := Gs.Can.same (clip_can a2 (Int.le_refl 0) (by omega) (Int.le_refl size)) a2
  refine ⟨ta.L, tb.L, a2, b2, ?_⟩
  have hla : ta.L.length ≤ 4096 := by rw [← T.sz_eq]; exact a3
  have HLB : Hid (∀ lo hi, (clip lo hi tb.L).length ≤ 4096) := fun lo hi => Nat.le_trans (clip_len _ _ _) (by rw [← T.sz_eq]; exact b3)
  obtain ⟨w0, HW, hm, hr, hc, hlt, hb⟩ := two_maps W (some bp, size) (some bq, size) 27 27
  have hs0 : w0.heap.size = W.heap.size + 1 + 1 + 1 := by rw [HW]; simp
  have HCK : Hid (Calls Try.prog 42 #[.slice (some ⟨W.heap.size + 1 + 1, 0, none⟩) 2 2] w0 fun e w' => e = .returned (.int .i64 0) ∧ Below w0.heap.size w0 w') :=
    checkSizes_ok (W.heap.size + 1 + 1) 2 [(some bp, size), (some bq, size)] size 0 w0 hlt (fun j hj => by
      have : j = 0 ∨ j = 1 := by simp at hj; omega
      rcases this with rfl | rfl
      · exact ⟨hc 0 _ rfl, hc 1 _ rfl⟩
      · exact ⟨hc 2 _ rfl, hc 3 _ rfl⟩) (by simp) (by simp) (by simp) (hc 1 _ rfl) (fun _ => rfl) (by simp)
  have hmh : Mh w0 (W.heap.size + 1) (some ⟨bq, 0, none⟩) size := by
    have h2 := World.alloc_heap_new (W.alloc (.cells #[.pointer (some ⟨bp, 0, none⟩), .int .i64 size] 27)) (.cells #[.pointer (some ⟨bq, 0, none⟩), .int .i64 size] 27)
    rw [World.size_alloc] at h2
    rw [HW]
    exact (Below.heap_alloc _ _ _ (by simp)).trans h2
  have HM := Lib.hid hm; have HMH := Lib.hid hmh; have HB := Lib.hid hb; have HW' := Lib.hid HW; have HS0 := Lib.hid hs0
  have HTA : Hid (IsTB W.heap.size W ta (some ⟨bp, 0, none⟩)) := IsT.tb a1
  have HTB : Hid (IsTB W.heap.size W tb (some ⟨bq, 0, none⟩)) := IsT.tb b1
  have HA2 := Lib.hid a2; have HB2 := Lib.hid b2; have HCL := Lib.hid hcl
  have HMP : Hid ((MV.p (some bp, size)) = some ⟨bp, 0, none⟩) := rfl
  have HMQ : Hid ((MV.p (some bq, size)) = some ⟨bq, 0, none⟩) := rfl
  have HW2 : Hid (w0 = ((W.alloc (.cells #[.pointer (some ⟨bp, 0, none⟩), .int .i64 size] 27)).alloc (.cells #[.pointer (some ⟨bq, 0, none⟩), .int .i64 size] 27)).alloc (.cells #[.pointer (some ⟨bp, 0, none⟩), .int .i64 size, .pointer (some ⟨bq, 0, none⟩), .int .i64 size] 27)) := HW
  clear h h' a1 a2 a3 b1 b2 b3 hcl hm hr hc hlt hb hs0 hmh HW HW'
  refine (callsIn_wide (n := 20)).1 ?_
  refine callsIn_of_wp_marks Try.func19 rfl trivial ?_ rfl
  simp only [Try.ntmps19, List.size_toArray, List.length_cons, List.length_nil, Nat.reduceAdd, Nat.reduceSub, Array.replicate_succ, Array.replicate_zero, List.push_toArray, List.append_toArray, List.nil_append, List.cons_append]
  gi_wp2_with fail
  rw [← HW2.out]
  refine ⟨trivial, (callsIn_wide.2 HCK.out).mono ?_⟩
  rintro e w1 ⟨rfl, hb⟩
  have HM1 := Lib.hid (HM.out.next hb)
  have HMH1 : Hid (Mh w1 (W.heap.size + 1) (some ⟨bq, 0, none⟩) size) := (hb.block _ HMH.out.lt).trans HMH.out
  have HB1 := Lib.hid (HB.out.trans (hb.mono HB.out.size))
  have hs1 : W.heap.size + 1 + 1 + 1 ≤ w1.heap.size := by have := hb.size; have := HS0.out; omega
  obtain ⟨w2, HW2⟩ : ∃ w2, w2 = w1.alloc (.cells #[.slice none 0 0] 53) := ⟨_, rfl⟩
  have b2 : Below w1.heap.size w1 w2 := by rw [HW2]; exact (Below.refl _ _).alloc (Nat.le_refl _) _
  have o2 : Boxed w2 w1.heap.size 53 (.slice none 0 0) := by rw [HW2]; exact Boxed.new _ _ _
  have s2 : w2.heap.size = w1.heap.size + 1 := by rw [HW2]; simp
  obtain ⟨w3, HW3⟩ : ∃ w3, w3 = w2.alloc (.cells #[.pointer (some ⟨bp, 0, none⟩), .int .i64 size] 27) := ⟨_, rfl⟩
  have b3 : Below w2.heap.size w2 w3 := by rw [HW3]; exact (Below.refl _ _).alloc (Nat.le_refl _) _
  have s3 : w3.heap.size = w1.heap.size + 1 + 1 := by rw [HW3, World.size_alloc, s2]
  obtain ⟨q0, q1, q2, q3, q4⟩ := seq_cells w3 (some ⟨bp, 0, none⟩) 0 size
  rw [s3] at q0 q1 q2 q3
  have b4 := b3.trans (q4.mono b3.size)
  have HO4 : Hid (Boxed (seqW w3 (some ⟨bp, 0, none⟩) 0 size) w1.heap.size 53 (.slice none 0 0)) := (b4.block _ o2.lt).trans o2
  have b5 := b2.trans (b4.mono b2.size)
  have HMH4 : Hid (Mh (seqW w3 (some ⟨bp, 0, none⟩) 0 size) (W.heap.size + 1) (some ⟨bq, 0, none⟩) size) := (b5.block _ HMH1.out.lt).trans HMH1.out
  have HSB := Lib.hid (HB1.out.trans (b5.mono HB1.out.size))
  have HSQ := Lib.hid (seq_stops (n := 19) (n₀ := W.heap.size) (lo := 0) (hi := size) (by rw [q3]; omega) HSB.out.size q0 q1 q2 (HTA.out.below HSB.out) HA2.out)
  have HAL : Hid (CallsIn Fence.wide 19 Try.prog 43 #[.agg #[.pointer (some ⟨bp, 0, none⟩), .int .i64 size]] w2 fun e w' => e = .returned (seqV (w1.heap.size + 1 + 1)) ∧ w' = seqW w3 (some ⟨bp, 0, none⟩) 0 size) := callsIn_wide.2 (by rw [HW3, ← s2]; exact all_any _ _ w2)
  have HM2 := Lib.hid (HM1.out.next b2)
  have k0 := HM2.out.c0; have k1 := HM2.out.c1
  rw [HMP.out] at k0
  have HW2' := Lib.hid HW2
  generalize seqW w3 (some ⟨bp, 0, none⟩) 0 size = w4 at *
  clear hb b2 o2 s2 q0 q1 q2 q3 q4 b3 b4 b5 s3 HW2 HW3
  gi_upto_region 5 with fail
  rw [← HW2'.out]
  gi_wp2_with fail
  refine ⟨trivial, HAL.out.mono ?_⟩
  rintro e w' ⟨rfl, rfl⟩
  gi_wp2_with fail
  have hge : W.heap.size ≤ w'.heap.size := HSB.out.size
  have hBO : w1.heap.size < w'.heap.size := HO4.out.lt
  obtain ⟨i0, hi0, hz0, hz1, hz2⟩ := info_parts infoCh
  refine wpIn_rangeFunc_ownH rfl (by omega) (gf := 55) (lb := #[.pointer (some ⟨w1.heap.size + 1 + 1, 0, none⟩), .pointer (some ⟨w1.heap.size + 1 + 1 + 1, 0, none⟩), .pointer (some ⟨w1.heap.size + 1 + 1 + 1 + 1, 0, none⟩)]) rfl trivial (enters_of Try.func55 (by kernel_rfl) rfl)
    HSQ.out belowK_t (belowK_b hge) (Below.refl _ _) (fun _ => rfl)
    (fun pre W' => ((∃ v, Boxed W' w1.heap.size 53 v ∧ W'.ownsRow W.heap.size 59 4 v (diffE pre tb.L).length ((diffE pre tb.L).flatMap encC) ∧ True) ∧ Mh W' (W.heap.size + 1) (some ⟨bq, 0, none⟩) size ∧ (diffE pre tb.L).length ≤ pre.length * 4096) ∧ Below W.heap.size W W')
    (fun _ _ _ => False)
    (OwnFrom.and (Own.from (fun s A B row hs hg hr => ⟨holdsRow_own W.heap.size w1.heap.size 53 59 4 (fun pre : List R => (diffE pre tb.L).length) (fun pre => (diffE pre tb.L).flatMap encC) (fun _ _ => True) s A B row hs.1 hg hr, Mh.own (W.heap.size + 1) (some ⟨bq, 0, none⟩) size () A B row hs.2.1 hg hr, hs.2.2⟩) _) (ownFrom_below (Nat.le_refl _) hge))
    (fun _ _ _ _ _ hs _ _ => hs)
    ⟨⟨⟨_, HO4.out, World.ownsRow_nil _ _ _ _, trivial⟩, HMH4.out, Nat.zero_le _⟩, HSB.out⟩
    (fun x a' W' => ∃ Bx, w1.heap.size < Bx ∧ Rb W' Bx x ∧ a' = { tmps := #[.agg #[.pointer (some ⟨bp, 0, none⟩), .int .i64 size], .agg #[.pointer (some ⟨bq, 0, none⟩), .int .i64 size], .pointer (some ⟨W.heap.size, 0, none⟩), .pointer (some ⟨W.heap.size + 1, 0, none⟩), .slice none 0 0, .int .i64 0, .int .i64 0, .pointer (some ⟨w1.heap.size, 0, none⟩), .pointer (some ⟨Bx, 0, none⟩), undef, .agg #[.pointer (some ⟨bp, 0, none⟩), .int .i64 size], .agg #[.pointer (some ⟨bq, 0, none⟩), .int .i64 size], .slice (some ⟨W.heap.size + 1 + 1, 0, none⟩) 2 2, .int .i64 0, .int .i64 0, .bool false, undef, .agg #[.pointer (some ⟨bp, 0, none⟩), .int .i64 size], seqV (w1.heap.size + 1 + 1), .agg #[.int .i64 x.lo, .int .i64 x.hi, .int .i64 x.tag], undef, undef, undef, undef, undef, undef, undef, undef, undef, undef, undef, undef, undef, undef, undef, undef, undef, undef, undef, undef, undef, undef, undef, undef, undef, undef], defers := [] })
    (fun x a' => Own.from (fun s A B row hs hg hr => by
      obtain ⟨Bx, h1, h2, h3⟩ := hs
      exact ⟨Bx, h1, Rb.own Bx x () A B row h2 hg hr, h3⟩) _) ?assign ?body ?done ?stop
  case assign =>
    rintro l pre ⟨xa, xb, xc⟩ W' K ⟨⟨⟨v, g1, g2, -⟩, g3, g4⟩, g5⟩ hK
    unfold encR
    gi_wp2
    exact hK _ _ ((KeepsOthers.alloc _ _).from _) ((Below.refl _ W').alloc g5.size _) ⟨⟨⟨v, g1.alloc _, g2.alloc _, trivial⟩, g3.alloc _, g4⟩, g5.alloc g5.size _⟩ ⟨W'.heap.size, g1.lt, Rb.new W' ⟨xa, xb, xc⟩, rfl⟩
  case body =>
    rintro l pre ⟨xa, xb, xc⟩ a' W' hl ⟨r, hr⟩ ⟨⟨⟨v, g1, g2, -⟩, g3, g4⟩, g5⟩ ⟨Bx, hBx, bX, rfl⟩ hlt
    have hla2 : pre.length < 4096 := by rw [HCL.out] at hlt; omega
    have m0 := g3.cell
    obtain ⟨r0, r1, r2⟩ := bX.cells
    simp only at r0 r1 r2
    obtain ⟨q0, q1, q2, q3, q4⟩ := seq_cells W' (some ⟨bq, 0, none⟩) xa xb
    have HWI : Hid (CallsIn Fence.wide 17 Try.prog 39 #[.pointer (some ⟨bq, 0, none⟩), .int .i64 xa, .int .i64 xb] W' fun e w' => e = .returned (seqV W'.heap.size) ∧ w' = seqW W' (some ⟨bq, 0, none⟩) xa xb) := callsIn_wide.2 (within_any _ _ _ W')
    have i1 : Boxed (seqW W' (some ⟨bq, 0, none⟩) xa xb) w1.heap.size 53 v := ((g1.alloc _).alloc _).alloc _
    have i2 : (seqW W' (some ⟨bq, 0, none⟩) xa xb).ownsRow W.heap.size 59 4 v (diffE pre tb.L ++ diff1 ⟨xa, xb, xc⟩ []).length ((diffE pre tb.L ++ diff1 ⟨xa, xb, xc⟩ []).flatMap encC) := by
      rw [show diff1 ⟨xa, xb, xc⟩ [] = [] from rfl, List.append_nil]
      exact ((g2.alloc _).alloc _).alloc _
    have i3 : Mh (seqW W' (some ⟨bq, 0, none⟩) xa xb) (W.heap.size + 1) (some ⟨bq, 0, none⟩) size := ((g3.alloc _).alloc _).alloc _
    have i4 : Rb (seqW W' (some ⟨bq, 0, none⟩) xa xb) Bx ⟨xa, xb, xc⟩ := ((bX.alloc _).alloc _).alloc _
    have i5 : KeepsFrom w'.heap.size W' (seqW W' (some ⟨bq, 0, none⟩) xa xb) := (((KeepsOthers.alloc _ _).trans (KeepsOthers.alloc _ _)).trans (KeepsOthers.alloc _ _)).from _
    have hr' : (seqW W' (some ⟨bq, 0, none⟩) xa xb).heap[l]? = some (.loop r) := (q4.block l (Array.getElem?_eq_some_iff.1 hr).1).trans hr
    have i6 : Below W.heap.size W' (seqW W' (some ⟨bq, 0, none⟩) xa xb) := q4.mono g5.size
    have hsz5 := Nat.le_trans g5.size q4.size
    have i7 : W.heap.size ≤ (seqW W' (some ⟨bq, 0, none⟩) xa xb).heap.size := hsz5
    have i8 : w'.heap.size ≤ W'.heap.size := by have := (Array.getElem?_eq_some_iff.1 hr).1; omega
    have HSQ2 := Lib.hid (seq_stops (n := 17) (n₀ := W.heap.size) (lo := xa) (hi := xb) (w := seqW W' (some ⟨bq, 0, none⟩) xa xb) (B := W'.heap.size) (by rw [q3]; omega) hsz5 q0 q1 q2 (HTB.out.below (g5.trans i6)) HB2.out)
    have G5 := Lib.hid g5
    clear q0 q1 q2 q3 q4 g1 g2 bX hsz5 g5 hlt
    generalize seqW W' (some ⟨bq, 0, none⟩) xa xb = w5 at *
    gi_wp2_with (refine ⟨trivial, ?_⟩; gi_at_call 39; refine (CallsIn.inRound l HWI.out).mono ?_; rintro e w6 ⟨rfl, rfl⟩)
    refine wpIn_rangeFunc_ownN (l₀ := l) (r₀ := r) rfl hr' (by omega) (gf := 55) (lb := #[.pointer (some ⟨W'.heap.size, 0, none⟩), .pointer (some ⟨W'.heap.size + 1, 0, none⟩), .pointer (some ⟨W'.heap.size + 1 + 1, 0, none⟩)]) rfl trivial (enters_of Try.func55 (by kernel_rfl) rfl)
      (HSQ2.out.inRound l) belowK_t (belowK_b i7) (Below.refl _ _) (fun _ => rfl)
      (fun pre' W'' => ((∃ v, Boxed W'' w1.heap.size 53 v ∧ W''.ownsRow W.heap.size 59 4 v (diffE pre tb.L ++ diff1 ⟨xa, xb, xc⟩ pre').length ((diffE pre tb.L ++ diff1 ⟨xa, xb, xc⟩ pre').flatMap encC) ∧ True) ∧ (Mh W'' (W.heap.size + 1) (some ⟨bq, 0, none⟩) size ∧ Rb W'' Bx ⟨xa, xb, xc⟩) ∧ (diffE pre tb.L ++ diff1 ⟨xa, xb, xc⟩ pre').length ≤ pre.length * 4096 + pre'.length) ∧ (Below W.heap.size W' W'' ∧ KeepsFrom w'.heap.size W' W''))
      (fun _ _ _ => False)
      (OwnFrom.and (Own.from (fun s A B row hs hg hr => ⟨holdsRow_own W.heap.size w1.heap.size 53 59 4 (fun pre' : List R => (diffE pre tb.L ++ diff1 ⟨xa, xb, xc⟩ pre').length) (fun pre' => (diffE pre tb.L ++ diff1 ⟨xa, xb, xc⟩ pre').flatMap encC) (fun _ _ => True) s A B row hs.1 hg hr, ⟨Mh.own (W.heap.size + 1) (some ⟨bq, 0, none⟩) size () A B row hs.2.1.1 hg hr, Rb.own Bx ⟨xa, xb, xc⟩ () A B row hs.2.1.2 hg hr⟩, hs.2.2⟩) _) (OwnFrom.and (ownFrom_below G5.out.size i7) (ownFrom_keepsFrom i5.size)))
      (fun _ _ _ _ _ hs _ _ => hs)
      ⟨⟨⟨_, i1, i2, trivial⟩, ⟨i3, i4⟩, by rw [show diff1 ⟨xa, xb, xc⟩ [] = [] from rfl, List.append_nil]; exact g4⟩, i6, i5⟩
      (fun y a'' W'' => ∃ By, w1.heap.size < By ∧ Rb W'' By y ∧ a'' = { tmps := #[.agg #[.pointer (some ⟨bp, 0, none⟩), .int .i64 size], .agg #[.pointer (some ⟨bq, 0, none⟩), .int .i64 size], .pointer (some ⟨W.heap.size, 0, none⟩), .pointer (some ⟨W.heap.size + 1, 0, none⟩), .slice none 0 0, .int .i64 0, .int .i64 0, .pointer (some ⟨w1.heap.size, 0, none⟩), .pointer (some ⟨Bx, 0, none⟩), .pointer (some ⟨By, 0, none⟩), .agg #[.pointer (some ⟨bp, 0, none⟩), .int .i64 size], .agg #[.pointer (some ⟨bq, 0, none⟩), .int .i64 size], .slice (some ⟨W.heap.size + 1 + 1, 0, none⟩) 2 2, .int .i64 0, .int .i64 0, .bool false, undef, .agg #[.pointer (some ⟨bp, 0, none⟩), .int .i64 size], seqV (w1.heap.size + 1 + 1), .agg #[.int .i64 xa, .int .i64 xb, .int .i64 xc], .pointer (some ⟨W.heap.size + 1, 0, none⟩), .pointer (some ⟨bq, 0, none⟩), .pointer (some ⟨Bx, 0, none⟩), .int .i64 xa, .pointer (some ⟨Bx, 1, none⟩), .int .i64 xb, seqV W'.heap.size, .agg #[.int .i64 y.lo, .int .i64 y.hi, .int .i64 y.tag], undef, undef, undef, undef, undef, undef, undef, undef, undef, undef, undef, undef, undef, undef, undef, undef, undef, undef], defers := [] })
      (fun y a'' => Own.from (fun s A B row hs hg hr => by
        obtain ⟨By, h1, h2, h3⟩ := hs
        exact ⟨By, h1, Rb.own By y () A B row h2 hg hr, h3⟩) _) ?assign2 ?body2 ?done2 ?stop2
    case assign2 =>
      rintro l2 pre' ⟨ya, yb, yc⟩ W'' K ⟨⟨⟨v, c1, c2, -⟩, ⟨c3, c4⟩, c5⟩, hBW, hKF⟩ hK
      unfold encR
      gi_wp2
      exact hK _ _ ((KeepsOthers.alloc _ _).from _) ((Below.refl _ W'').alloc (Nat.le_trans G5.out.size hBW.size) _) ⟨⟨⟨v, c1.alloc _, c2.alloc _, trivial⟩, ⟨c3.alloc _, c4.alloc _⟩, c5⟩, hBW.alloc (Nat.le_trans G5.out.size hBW.size) _, hKF.trans ((KeepsOthers.alloc _ _).from _)⟩ ⟨W''.heap.size, c1.lt, Rb.new W'' ⟨ya, yb, yc⟩, rfl⟩
    case body2 =>
      rintro l2 pre' ⟨ya, yb, yc⟩ a'' W'' _ _ ⟨⟨⟨v, c1, c2, -⟩, ⟨c3, c4⟩, c5⟩, hBW, hKF⟩ ⟨By, hBy, bY, rfl⟩ hlt2
      have hl3 := HLB.out xa xb
      obtain ⟨XL, HXL⟩ : ∃ XL, XL = diffE pre tb.L ++ diff1 ⟨xa, xb, xc⟩ pre' := ⟨_, rfl⟩
      rw [← HXL] at c2 c5
      have HXL' := Lib.hid HXL
      clear HXL
      have HXL := HXL'
      clear HXL'
      have hml : XL.length + 1 ≤ maxLen := Nat.le_trans (show _ ≤ 20000000 by omega) (by decide)
      have hsz2 : W.heap.size ≤ W''.heap.size := Nat.le_trans G5.out.size hBW.size
      have hc0 := c1.cell
      obtain ⟨r0, r1, r2⟩ := c4.cells
      obtain ⟨y0, y1, y2⟩ := bY.cells
      simp only at r0 r1 r2 y0 y1 y2
      obtain ⟨va, vc, rfl⟩ := own_slice c2
      have hBXn : Bx ≠ w1.heap.size := by omega
      have hMn : W.heap.size + 1 ≠ w1.heap.size := by omega
      by_cases m : yc = xc
      · subst m
        have c2' : W''.ownsRow W.heap.size 59 4 (.slice va XL.length vc) (diffE pre tb.L ++ diff1 ⟨xa, xb, yc⟩ (pre' ++ [⟨ya, yb, yc⟩])).length ((diffE pre tb.L ++ diff1 ⟨xa, xb, yc⟩ (pre' ++ [⟨ya, yb, yc⟩])).flatMap encC) := by
          rw [diff1_snoc, if_pos rfl, List.append_nil, ← HXL.out]
          exact c2
        have c5' : (diffE pre tb.L ++ diff1 ⟨xa, xb, yc⟩ (pre' ++ [⟨ya, yb, yc⟩])).length ≤ pre.length * 4096 + (pre' ++ [(⟨ya, yb, yc⟩ : R)]).length := by
          rw [diff1_snoc, if_pos rfl, List.append_nil, ← HXL.out, len_snoc pre']
          omega
        clear c2 c5
        gi_wp2
        first
        | exact ⟨KeepsFrom.refl _ _, Below.refl _ _, ⟨⟨_, c1, c2'⟩, ⟨c3, c4⟩, c5'⟩, hBW, hKF⟩
        | exact ⟨KeepsFrom.refl _ _, Below.refl _ _, ⟨⟨_, c1, c2', trivial⟩, ⟨c3, c4⟩, c5'⟩, hBW, hKF⟩
      · have n3 : (yc == xc) = false := beq_eq_false_iff_ne.2 m
        have HM := Lib.hid m
        clear m
        gi_wp2_with (gi_at_builtin; refine wpListIn_append_own _ rfl _ _ 53 rfl W.heap.size 59 i0 (.agg #[.int .i64 0, .int .i64 0, .int .i64 0, .int .i64 0]) 4 32 Try.underlying53 hi0 hz0 hz1 hz2 rfl (by decide) _ _ _ rfl (c2.alloc _) ⟨W''.heap.size, 0, none⟩ 1 1 [.int .i64 ya, .int .i64 yb, .int .i64 xc, .int .i64 yc] rfl rfl (cells4_new _ _ _ _ _ _) (by simp [Value.oneCell']) (by omega) (by omega) (by simp; omega) ?_; intro v' w7 hown' hgrow _; obtain ⟨g', cap', rfl⟩ := ownsRow_succ hown'; obtain ⟨hv1, hv2, hr2, hk2, hb2⟩ := c1.appended (by decide) c2 hsz2 (by omega) hown' hgrow; have hc1 := hv1.cell; have hf1 := hv1.frozen)
        have hr3 : (w7.setCell ⟨w1.heap.size, 0, none⟩ (.slice (some ⟨g', 0, none⟩) (XL.length + 1) cap')).ownsRow W.heap.size 59 4 (.slice (some ⟨g', 0, none⟩) (XL.length + 1) cap') (diffE pre tb.L ++ diff1 ⟨xa, xb, xc⟩ (pre' ++ [⟨ya, yb, yc⟩])).length ((diffE pre tb.L ++ diff1 ⟨xa, xb, xc⟩ (pre' ++ [⟨ya, yb, yc⟩])).flatMap encC) := by
          rw [diff1_snoc, if_neg HM.out, ← List.append_assoc, ← HXL.out, len_snoc, List.flatMap_append (ys := [_])]
          exact hr2
        have c5' : (diffE pre tb.L ++ diff1 ⟨xa, xb, xc⟩ (pre' ++ [⟨ya, yb, yc⟩])).length ≤ pre.length * 4096 + (pre' ++ [(⟨ya, yb, yc⟩ : R)]).length := by
          rw [diff1_snoc, if_neg HM.out, ← List.append_assoc, ← HXL.out, len_snoc, len_snoc pre']
          omega
        have hmh : Mh (w7.setCell ⟨w1.heap.size, 0, none⟩ (.slice (some ⟨g', 0, none⟩) (XL.length + 1) cap')) (W.heap.size + 1) (some ⟨bq, 0, none⟩) size := ((c3.alloc _).kept hgrow (ne_row c3 (by decide) c2)).other hMn _
        have hrb : Rb (w7.setCell ⟨w1.heap.size, 0, none⟩ (.slice (some ⟨g', 0, none⟩) (XL.length + 1) cap')) Bx ⟨xa, xb, xc⟩ := ((c4.alloc _).kept hgrow (ne_row c4 (by decide) c2)).other hBXn _
        first
        | exact ⟨hk2.from _, hb2, ⟨⟨_, hv2, hr3⟩, ⟨hmh, hrb⟩, c5'⟩, hBW.trans hb2, hKF.trans (hk2.from _)⟩
        | exact ⟨hk2.from _, hb2, ⟨⟨_, hv2, hr3, trivial⟩, ⟨hmh, hrb⟩, c5'⟩, hBW.trans hb2, hKF.trans (hk2.from _)⟩
    case done2 =>
      rintro ys' W'' rfl ⟨⟨⟨v, c1, c2, -⟩, ⟨c3, c4⟩, c5⟩, hBW, hKF⟩
      have hl3 := HLB.out xa xb
      have c2' : W''.ownsRow W.heap.size 59 4 v (diffE (pre ++ [⟨xa, xb, xc⟩]) tb.L).length ((diffE (pre ++ [⟨xa, xb, xc⟩]) tb.L).flatMap encC) := by
        rw [diffE_snoc]
        exact c2
      have c5' : (diffE (pre ++ [⟨xa, xb, xc⟩]) tb.L).length ≤ (pre ++ [(⟨xa, xb, xc⟩ : R)]).length * 4096 := by
        rw [diffE_snoc, List.length_append, len_snoc pre, ← List.length_append]
        show (diffE pre tb.L ++ diff1 ⟨xa, xb, xc⟩ (clip xa xb tb.L)).length ≤ _
        omega
      clear c2 c5
      gi_wp2
      first
      | exact ⟨hKF, hBW, ⟨⟨_, c1, c2'⟩, c3, c5'⟩, G5.out.trans hBW⟩
      | exact ⟨hKF, hBW, ⟨⟨_, c1, c2', trivial⟩, c3, c5'⟩, G5.out.trans hBW⟩
    case stop2 =>
      rintro c pre' W'' _ h
      exact h.elim
  case done =>
    rintro D ys W' hD rfl ⟨⟨⟨v, g1, g2, -⟩, g3, g4⟩, g5⟩ hK
    have hc0 := g1.cell
    obtain ⟨va, vc, rfl⟩ := own_slice g2
    have HE := Lib.hid hc0
    have HK := Lib.hid hK
    gi_wp2
    refine ⟨by simp, .inl ⟨_, _, rfl, run_takeDeferred HK.out, ?_⟩⟩
    refine ⟨.tuple #[.slice va (diffE (clip 0 size ta.L) tb.L).length vc, .int .i64 0], by simp [results, Try.results19, go_sem], _, rfl, (by rw [HCL.out] at g2 ⊢; exact ownsRow_putObj g2 _ HK.out rfl), g5.trans (belowK_b (w := W) (Nat.le_refl _) W' D _ _ (by omega) HK.out rfl rfl)⟩
  case stop =>
    rintro D c pre' W' _ _ h _
    exact h.elim
end Go.Proofs.Ytjbenhmpeceaeab
namespace Go.Proofs.Ytjbenhmpeceaeab
open Go Go.RowKit Gs

/-- a list of changes, one behind the other, from f to g; elsewhere the two are the same -/
def Dfs (f g : Int → Int) : Int → List Ch → Int → Prop
  | a, [], b => ∀ p, a ≤ p → p < b → f p = g p
  | a, c :: D, b => a ≤ c.lo ∧ c.lo < c.hi ∧ c.hi ≤ b ∧ (∀ p, a ≤ p → p < c.lo → f p = g p) ∧ (∀ p, c.lo ≤ p → p < c.hi → f p = c.fr ∧ g p = c.tt) ∧ c.fr ≠ c.tt ∧ Dfs f g c.hi D b
theorem Dfs.back {f g : Int → Int} {a a' b : Int} (ha : a ≤ a') (h : ∀ p, a ≤ p → p < a' → f p = g p) : ∀ {D : List Ch}, Dfs f g a' D b → Dfs f g a D b
  | [], hd => fun p p1 p2 => if h' : p < a' then h p p1 h' else hd p (by omega) p2
  | c :: D, hd => by
    obtain ⟨h1, h2, h3, h4, h5, h6, h7⟩ := hd
    exact ⟨by omega, h2, h3, fun p p1 p2 => if h' : p < a' then h p p1 h' else h4 p (by omega) p2, h5, h6, h7⟩
/-- the pair of tags, as one number -/
def pr (f g : Int → Int) (p : Int) : Int := 16 * f p + g p
/-- the changes among runs of pairs -/
def dec (K : List R) : List Ch := (K.filter fun r => decide (r.tag / 16 ≠ r.tag % 16)).map fun r => ⟨r.lo, r.hi, r.tag / 16, r.tag % 16⟩
theorem dec_append (K L : List R) : dec (K ++ L) = dec K ++ dec L := by unfold dec; rw [List.filter_append, List.map_append]
theorem dec_cons (r : R) (K : List R) : dec (r :: K) = (if r.tag / 16 = r.tag % 16 then [] else [⟨r.lo, r.hi, r.tag / 16, r.tag % 16⟩]) ++ dec K := by
  by_cases h : r.tag / 16 = r.tag % 16 <;> simp [dec, h]
theorem dec_dfs {f g : Int → Int} : ∀ {K : List R} {a b : Int}, Fits (pr f g) a K b → (∀ p, a ≤ p → p < b → 0 ≤ f p ∧ f p < 16 ∧ 0 ≤ g p ∧ g p < 16) → Dfs f g a (dec K) b
  | [], a, b, h, _ => fun p p1 p2 => by
    have h : a = b := h
    omega
  | r :: K, a, b, h, hb => by
    have h1 := h.1; have h2 := h.2.1; have h3 := h.2.2.1; have h4 := h.2.2.2
    have hle := h4.le
    have hf : ∀ p, r.lo ≤ p → p < r.hi → f p = r.tag / 16 ∧ g p = r.tag % 16 := fun p p1 p2 => by
      have e := h3 p p1 p2
      have := hb p (by omega) (by omega)
      unfold pr at e
      omega
    have ih := dec_dfs h4 fun p p1 p2 => hb p (by omega) p2
    rw [dec_cons]
    by_cases e : r.tag / 16 = r.tag % 16
    · rw [if_pos e, List.nil_append]
      exact ih.back (by omega) fun p p1 p2 => by
        have := hf p (by omega) p2
        rw [this.1, this.2, e]
    · rw [if_neg e]
      exact ⟨by show a ≤ r.lo; omega, h2, hle, fun p p1 p2 => by have p2 : p < r.lo := p2; omega, hf, e, ih⟩
/-- the runs of pairs -/
def rl (la lb : List R) : List R := la.flatMap fun x => (clip x.lo x.hi lb).map fun r => ⟨r.lo, r.hi, 16 * x.tag + r.tag⟩
theorem Can.map {f h : Int → Int} (s : Int → Int) : ∀ {K : List R} {a b : Int}, Gs.Can f a K b → (∀ p, a ≤ p → p < b → h p = s (f p)) → (∀ p q, a ≤ p → p < b → a ≤ q → q < b → s (f p) = s (f q) → f p = f q) → Gs.Can h a (K.map fun r => ⟨r.lo, r.hi, s r.tag⟩) b
  | [], a, b, hc, _, _ => by
    have e : a = b := hc.1
    subst e
    exact Gs.Can.nil h a
  | r :: K, a, b, hc, hh, hi => by
    have h0 : Gs.Can f a ([] ++ r :: K) b := hc
    obtain ⟨m1, m2, m3, m4, _, m6⟩ := h0.mid
    have ea : a = r.lo := m1.1
    have hle := m2.le
    have ih := Can.map s m2 (fun p p1 p2 => hh p (by omega) p2) (fun p q p1 p2 q1 q2 => hi p q (by omega) p2 (by omega) q2)
    have := Gs.Can.make (f := h) (a := a) (b := b) (l := []) (k := K.map fun r => ⟨r.lo, r.hi, s r.tag⟩) (r := ⟨r.lo, r.hi, s r.tag⟩) (by show Gs.Can h a [] r.lo; rw [← ea]; exact Gs.Can.nil h a) ih m3 (fun p p1 p2 => by
      have p1 : r.lo ≤ p := p1
      have p2 : p < r.hi := p2
      show h p = s r.tag
      rw [hh p (by omega) (by omega), m4 p p1 p2]) (fun h' => by have h' : a < r.lo := h'; omega) (fun h' => by
      have h' : r.hi < b := h'
      show h (r.hi - 1) ≠ h r.hi
      rw [hh (r.hi - 1) (by omega) (by omega), hh r.hi (by omega) h']
      exact fun e => m6 h' (hi _ _ (by omega) (by omega) (by omega) h' e))
    exact this
theorem rl_can {f g : Int → Int} {lb : List R} {size : Int} (hlb : Gs.Can g 0 lb size) : ∀ {la : List R} {a : Int}, Gs.Can f a la size → 0 ≤ a → (∀ p, 0 ≤ p → p < size → 0 ≤ f p ∧ f p < 16 ∧ 0 ≤ g p ∧ g p < 16) → Gs.Can (pr f g) a (rl la lb) size
  | [], a, h, _, _ => by
    have e : a = size := h.1
    subst e
    exact Gs.Can.nil _ _
  | x :: la, a, h, ha, hb => by
    have h0 : Gs.Can f a ([] ++ x :: la) size := h
    obtain ⟨m1, m2, m3, m4, _, m6⟩ := h0.mid
    have ea : a = x.lo := m1.1
    have hle := m2.le
    have ih := rl_can hlb m2 (by omega) hb
    have hc := clip_can (lo := x.lo) (hi := x.hi) hlb (by omega) (by omega) (by omega)
    have hm := Can.map (h := pr f g) (fun t => 16 * x.tag + t) hc (fun p p1 p2 => by
      show 16 * f p + g p = 16 * x.tag + g p
      rw [m4 p p1 p2]) (fun p q _ _ _ _ e => by
      have e : 16 * x.tag + g p = 16 * x.tag + g q := e
      omega)
    rw [ea]
    show Gs.Can (pr f g) x.lo ((clip x.lo x.hi lb).map (fun r => ⟨r.lo, r.hi, 16 * x.tag + r.tag⟩) ++ rl la lb) size
    refine hm.join ih fun _ h' => ?_
    have := m6 h'
    have b1 := hb (x.hi - 1) (by omega) (by omega)
    have b2 := hb x.hi (by omega) h'
    unfold pr
    omega
theorem dec_enc (x : R) (hx : 0 ≤ x.tag ∧ x.tag < 16) : ∀ (l : List R), (∀ r ∈ l, 0 ≤ r.tag ∧ r.tag < 16) → dec (l.map fun r => ⟨r.lo, r.hi, 16 * x.tag + r.tag⟩) = diff1 x l
  | [], _ => rfl
  | r :: l, h => by
    have hr := h r (List.mem_cons_self ..)
    have ih := dec_enc x hx l fun y hy => h y (List.mem_cons_of_mem _ hy)
    rw [List.map_cons, dec_cons, ih]
    have e1 : (16 * x.tag + r.tag) / 16 = x.tag := by omega
    have e2 : (16 * x.tag + r.tag) % 16 = r.tag := by omega
    simp only [e1, e2]
    by_cases e : x.tag = r.tag
    · rw [if_pos e]; simp [diff1, e]
    · rw [if_neg e]; simp [diff1, Ne.symm e]
theorem fits_tags {f : Int → Int} {l : List R} {a b : Int} (h : Fits f a l b) (hb : ∀ p, a ≤ p → p < b → 0 ≤ f p ∧ f p < 16) : ∀ r ∈ l, 0 ≤ r.tag ∧ r.tag < 16 := by
  induction l generalizing a with
  | nil => intro r hr; cases hr
  | cons x l ih =>
    intro r hr
    have h2 := h.2.1; have h3 := h.2.2.1; have h4 := h.2.2.2; have h1 := h.1
    have hle := h4.le
    rcases List.mem_cons.1 hr with e | e
    · subst e
      rw [← h3 r.lo (Int.le_refl _) h2]
      exact hb _ (by omega) (by omega)
    · exact ih h4 (fun p p1 p2 => hb p (by omega) p2) r e
theorem clip_tags {l : List R} {lo hi : Int} (h : ∀ r ∈ l, 0 ≤ r.tag ∧ r.tag < 16) : ∀ r ∈ clip lo hi l, 0 ≤ r.tag ∧ r.tag < 16 := by
  intro r hr
  obtain ⟨x, hx, hr⟩ := List.mem_flatMap.1 hr
  unfold clip1 at hr
  split at hr
  · rw [List.mem_singleton.1 hr]; exact h x hx
  · cases hr
theorem diff_dec {lb : List R} (hb : ∀ r ∈ lb, 0 ≤ r.tag ∧ r.tag < 16) : ∀ {la : List R}, (∀ r ∈ la, 0 ≤ r.tag ∧ r.tag < 16) → diffE la lb = dec (rl la lb)
  | [], _ => rfl
  | x :: la, h => by
    show diff1 x (clip x.lo x.hi lb) ++ diffE la lb = dec ((clip x.lo x.hi lb).map (fun r => ⟨r.lo, r.hi, 16 * x.tag + r.tag⟩) ++ rl la lb)
    rw [dec_append, dec_enc x (h x (List.mem_cons_self ..)) _ (clip_tags hb), diff_dec hb fun y hy => h y (List.mem_cons_of_mem _ hy)]
/-- **the changes lead from f to g** -/
theorem diff_dfs {f g : Int → Int} {la lb : List R} {size : Int} (ha : Gs.Can f 0 la size) (hb : Gs.Can g 0 lb size) (cf : Ctx f 0 size) (cg : Ctx g 0 size) : Dfs f g 0 (diffE la lb) size := by
  have hB : ∀ p, 0 ≤ p → p < size → 0 ≤ f p ∧ f p < 16 ∧ 0 ≤ g p ∧ g p < 16 := fun p p1 p2 => ⟨(cf.2.2 p p1 p2).1, (cf.2.2 p p1 p2).2, (cg.2.2 p p1 p2).1, (cg.2.2 p p1 p2).2⟩
  rw [diff_dec (fits_tags hb.1 cg.2.2) (fits_tags ha.1 cf.2.2)]
  exact dec_dfs (rl_can hb ha (Int.le_refl 0) hB).1 hB
/-- a change the other way -/
def Ch.swap (c : Ch) : Ch := ⟨c.lo, c.hi, c.tt, c.fr⟩
theorem dec_swap : ∀ (K : List R), (∀ r ∈ K, 0 ≤ r.tag ∧ r.tag < 256) → dec (K.map fun r => ⟨r.lo, r.hi, 16 * (r.tag % 16) + r.tag / 16⟩) = (dec K).map Ch.swap
  | [], _ => rfl
  | r :: K, h => by
    have hr := h r (List.mem_cons_self ..)
    have ih := dec_swap K fun y hy => h y (List.mem_cons_of_mem _ hy)
    rw [List.map_cons, dec_cons, dec_cons, ih, List.map_append]
    have e1 : (16 * (r.tag % 16) + r.tag / 16) / 16 = r.tag % 16 := by omega
    have e2 : (16 * (r.tag % 16) + r.tag / 16) % 16 = r.tag / 16 := by omega
    simp only [e1, e2]
    by_cases e : r.tag / 16 = r.tag % 16
    · rw [if_pos e, if_pos e.symm]; rfl
    · rw [if_neg e, if_neg (fun h => e h.symm)]; rfl
/-- **the changes back are the changes exchanged** -/
theorem diff_swap {f g : Int → Int} {la lb : List R} {size : Int} (ha : Gs.Can f 0 la size) (hb : Gs.Can g 0 lb size) (cf : Ctx f 0 size) (cg : Ctx g 0 size) : diffE lb la = (diffE la lb).map Ch.swap := by
  have hB : ∀ p, 0 ≤ p → p < size → 0 ≤ f p ∧ f p < 16 ∧ 0 ≤ g p ∧ g p < 16 := fun p p1 p2 => ⟨(cf.2.2 p p1 p2).1, (cf.2.2 p p1 p2).2, (cg.2.2 p p1 p2).1, (cg.2.2 p p1 p2).2⟩
  have hB' : ∀ p, 0 ≤ p → p < size → 0 ≤ g p ∧ g p < 16 ∧ 0 ≤ f p ∧ f p < 16 := fun p p1 p2 => by have := hB p p1 p2; omega
  rw [diff_dec (fits_tags hb.1 cg.2.2) (fits_tags ha.1 cf.2.2), diff_dec (fits_tags ha.1 cf.2.2) (fits_tags hb.1 cg.2.2)]
  have h1 := rl_can hb ha (Int.le_refl 0) hB
  have h2 := rl_can ha hb (Int.le_refl 0) hB'
  have h3 := Can.map (h := pr g f) (fun t => 16 * (t % 16) + t / 16) h1 (fun p p1 p2 => by
    have := hB p p1 p2
    show 16 * g p + f p = 16 * ((16 * f p + g p) % 16) + (16 * f p + g p) / 16
    omega) (fun p q p1 p2 q1 q2 e => by
    have e : 16 * ((16 * f p + g p) % 16) + (16 * f p + g p) / 16 = 16 * ((16 * f q + g q) % 16) + (16 * f q + g q) / 16 := e
    have b1 := hB p p1 p2
    have b2 := hB q q1 q2
    show 16 * f p + g p = 16 * f q + g q
    omega)
  rw [h2.same h3]
  refine dec_swap _ fun r hr => ?_
  have : ∀ {K : List R} {a : Int}, 0 ≤ a → Fits (pr f g) a K size → ∀ r ∈ K, 0 ≤ r.tag ∧ r.tag < 256 := by
    intro K
    induction K with
    | nil => intro a _ _ r hr; cases hr
    | cons x K ih =>
      intro a ha hF r hr
      have f1 := hF.1; have f2 := hF.2.1; have f3 := hF.2.2.1; have f4 := hF.2.2.2
      have hle := f4.le
      rcases List.mem_cons.1 hr with e | e
      · subst e
        have := hB r.lo (by omega) (by omega)
        have e2 := f3 r.lo (Int.le_refl _) f2
        unfold pr at e2
        omega
      · exact ih (by omega) f4 r e
  exact this (Int.le_refl 0) h1.1 r hr
theorem Dfs.nil_iff {f g : Int → Int} {la lb : List R} {size : Int} (ha : Gs.Can f 0 la size) (hb : Gs.Can g 0 lb size) (h : Dfs f g 0 (diffE la lb) size) : diffE la lb = [] ↔ la = lb := by
  constructor
  · intro e
    rw [e] at h
    exact (ha.congr h).same hb
  · intro e
    subst e
    have hfg : ∀ p, 0 ≤ p → p < size → f p = g p := by
      have : ∀ {l : List R} {a b : Int}, Fits f a l b → Fits g a l b → ∀ p, a ≤ p → p < b → f p = g p := by
        intro l
        induction l with
        | nil => intro a b h1 _ p p1 p2; have h1 : a = b := h1; omega
        | cons x l ih =>
          intro a b h1 h2 p p1 p2
          have e1 := h1.1
          by_cases hp : p < x.hi
          · rw [h1.2.2.1 p (by omega) hp, h2.2.2.1 p (by omega) hp]
          · exact ih h1.2.2.2 h2.2.2.2 p (by omega) p2
      exact this ha.1 hb.1
    cases hD : diffE la la with
    | nil => rfl
    | cons c D =>
      rw [hD] at h
      obtain ⟨h1, h2, h3, _, h5, h6, _⟩ := h
      have e1 := h5 c.lo (Int.le_refl _) h2
      have e2 := hfg c.lo h1 (by omega)
      rw [e1.1, e1.2] at e2
      exact absurd e2 h6
/-- a canonical list is the shortest -/
theorem can_short {f : Int → Int} : ∀ {l k : List R} {a b : Int}, Gs.Can f a k b → Fits f a l b → k.length ≤ l.length
  | [], k, a, b, hk, hl => by
    have e : a = b := hl
    cases k with
    | nil => exact Nat.le_refl _
    | cons r k => have := hk.1.lt; omega
  | s :: l, [], a, b, hk, hl => Nat.zero_le _
  | s :: l, r :: k, a, b, hk, hl => by
    have h0 : Gs.Can f a ([] ++ r :: k) b := hk
    obtain ⟨m1, m2, m3, m4, _, m6⟩ := h0.mid
    have ea : a = r.lo := m1.1
    have hle := m2.le
    have s1 := hl.1; have s2 := hl.2.1; have s3 := hl.2.2.1; have s4 := hl.2.2.2
    have sle := s4.le
    have hsr : s.hi ≤ r.hi := by
      refine Int.not_lt.1 fun hlt => ?_
      have := m6 (by omega)
      rw [s3 (r.hi - 1) (by omega) (by omega), s3 r.hi (by omega) hlt] at this
      exact this rfl
    by_cases e : s.hi = r.hi
    · rw [e] at s4
      have := can_short m2 s4
      simp only [List.length_cons]
      omega
    · have hk2 : Gs.Can f s.hi ([] ++ ⟨s.hi, r.hi, r.tag⟩ :: k) b := Gs.Can.make (r := ⟨s.hi, r.hi, r.tag⟩) (Gs.Can.nil f s.hi) m2 (by show s.hi < r.hi; omega) (fun p p1 p2 => m4 p (by have p1 : s.hi ≤ p := p1; omega) p2) (fun h => by have h : s.hi < s.hi := h; omega) m6
      have := can_short hk2 s4
      simp only [List.nil_append, List.length_cons] at this ⊢
      omega
/-- **applying the changes from f to g to f yields g** -/
theorem apF_dfs {f g : Int → Int} {la lb : List R} {size : Int} (ha : Gs.Can f 0 la size) (hb : Gs.Can g 0 lb size) (cf : Ctx f 0 size) (cg : Ctx g 0 size) (hn : la.length + lb.length ≤ 4096) :
    ∀ {D : List Ch} {a : Int} {h : Int → Int}, 0 ≤ a → a ≤ size → Dfs f g a D size → (∀ p, 0 ≤ p → p < a → h p = g p) → (∀ p, a ≤ p → p < size → h p = f p) → ∃ h', apF size h D = (0, h') ∧ ∀ p, 0 ≤ p → p < size → h' p = g p
  | [], a, h, h0, h1, hd, e1, e2 => ⟨h, rfl, fun p p1 p2 => if hp : p < a then e1 p p1 hp else by rw [e2 p (by omega) p2]; exact hd p (by omega) p2⟩
  | c :: D, a, h, h0, h1, hd, e1, e2 => by
    obtain ⟨d1, d2, d3, d4, d5, d6, d7⟩ := hd
    have hput : ∀ p, 0 ≤ p → p < c.hi → put h c.lo c.hi c.tt p = g p := fun p p1 p2 => by
      unfold put
      by_cases hp : c.lo ≤ p ∧ p < c.hi
      · rw [if_pos hp, (d5 p hp.1 hp.2).2]
      · rw [if_neg hp]
        by_cases hpa : p < a
        · exact e1 p p1 hpa
        · rw [e2 p (by omega) (by omega)]
          exact d4 p (by omega) (by omega)
    have hput2 : ∀ p, c.hi ≤ p → p < size → put h c.lo c.hi c.tt p = f p := fun p p1 p2 => by
      unfold put
      rw [if_neg (by omega)]
      exact e2 p (by omega) p2
    obtain ⟨t1, t2⟩ := d5 c.lo (Int.le_refl _) d2
    have bf := cf.2.2 c.lo (by omega) (by omega)
    have bg := cg.2.2 c.lo (by omega) (by omega)
    have hE : chE size h c = 0 := by
      unfold chE
      rw [if_neg (by omega), if_pos ⟨decide_eq_true (by omega), decide_eq_true (by omega)⟩, if_pos]
      intro x x1 x2
      rw [e2 x (by omega) (by omega), (d5 x x1 x2).1]
    have hK : chK size h c = 0 := by
      unfold chK
      rw [if_neg (fun h => h hE), if_neg]
      rintro ⟨L, hL, hl⟩
      have f1 := clip_fits (lo := 0) (hi := c.hi) hb.1 (by omega)
      have f2 := clip_fits (lo := c.hi) (hi := size) ha.1 (by omega)
      rw [show max (0 : Int) 0 = 0 by omega, show min c.hi size = c.hi by omega] at f1
      rw [show max c.hi 0 = c.hi by omega, show min size size = size by omega] at f2
      have f3 : Fits (put h c.lo c.hi c.tt) 0 (clip 0 c.hi lb ++ clip c.hi size la) size := fits_append.2 ⟨c.hi, f1.congr fun p p1 p2 => (hput p p1 p2).symm, f2.congr fun p p1 p2 => (hput2 p p1 p2).symm⟩
      have := can_short hL f3
      have l1 := clip_len 0 c.hi lb
      have l2 := clip_len c.hi size la
      rw [List.length_append] at this
      omega
    rw [apF_ok hK]
    exact apF_dfs ha hb cf cg hn (by omega) d3 d7 hput hput2
/-- a cut adds one run -/
theorem clip_cut {f : Int → Int} {lo m hi : Int} (h1 : lo ≤ m) (h2 : m ≤ hi) : ∀ {l : List R} {a b : Int}, Fits f a l b → (clip lo m l).length + (clip m hi l).length ≤ (clip lo hi l).length + 1
  | [], _, _, _ => Nat.zero_le _
  | r :: l, a, b, h => by
    have e1 := h.1; have e2 := h.2.1; have e4 := h.2.2.2
    have ih := clip_cut h1 h2 e4
    have hc : ∀ x y : Int, (clip1 x y r).length ≤ 1 := fun x y => by unfold clip1; split <;> simp
    have h1' := hc lo m
    have h2' := hc m hi
    rw [clip_cons, clip_cons, clip_cons, List.length_append, List.length_append, List.length_append]
    by_cases c1 : m ≤ r.lo
    · have n1 : clip1 lo m r = [] := by unfold clip1; rw [if_neg (by omega)]
      have n2 : clip lo m l = [] := clip_out e4 (by omega)
      have n3 : clip1 m hi r = clip1 lo hi r := by
        unfold clip1
        rw [show max m r.lo = r.lo by omega, show max lo r.lo = r.lo by omega]
      have n4 : (clip m hi l).length ≤ (clip lo hi l).length + 1 := by rw [n2] at ih; simpa using ih
      have n5 : clip m hi l = clip lo hi l := by
        have := clip_right (lo := lo) (hi := hi) (m := m) e4 (by omega)
        rw [show max lo m = m by omega] at this
        exact this
      rw [n1, n2, n3, n5]
      simp
    · by_cases c2 : r.hi ≤ m
      · have n1 : clip1 m hi r = [] := by unfold clip1; rw [if_neg (by omega)]
        have n2 : clip1 lo m r = clip1 lo hi r := by
          unfold clip1
          rw [show min r.hi m = r.hi by omega, show min r.hi hi = r.hi by omega]
        rw [n1, n2]
        simp only [List.length_nil]
        omega
      · have n2 : clip lo m l = [] := clip_out e4 (by omega)
        have n5 : clip m hi l = clip lo hi l := by
          have := clip_right (lo := lo) (hi := hi) (m := m) e4 (by omega)
          rw [show max lo m = m by omega] at this
          exact this
        rw [n2, n5]
        simp only [List.length_nil]
        by_cases c3 : max lo r.lo < min r.hi hi
        · have : (clip1 lo hi r).length = 1 := by unfold clip1; rw [if_pos c3]; rfl
          omega
        · by_cases c4 : max lo r.lo < min r.hi m
          · omega
          · have : (clip1 lo m r).length = 0 := by unfold clip1; rw [if_neg c4]; rfl
            omega
theorem fits_map {f h : Int → Int} (s : Int → Int) : ∀ {K : List R} {a b : Int}, Fits f a K b → (∀ p, a ≤ p → p < b → h p = s (f p)) → Fits h a (K.map fun r => ⟨r.lo, r.hi, s r.tag⟩) b
  | [], _, _, h, _ => h
  | r :: K, a, b, hf, hh => by
    obtain ⟨h1, h2, h3, h4⟩ := hf
    have := h4.le
    exact ⟨h1, h2, fun p p1 p2 => by
      have p1 : r.lo ≤ p := p1
      have p2 : p < r.hi := p2
      show h p = s r.tag
      rw [hh p (by omega) (by omega), h3 p p1 p2], fits_map s h4 fun p p1 p2 => hh p (by have p1 : r.hi ≤ p := p1; omega) p2⟩
/-- an update adds two runs at most -/
theorem upd_runs {f h : Int → Int} (s : Int → Int) {lo hi size : Int} {l : List R} (hl : Fits f 0 l size) (h0 : 0 ≤ lo) (h1 : lo ≤ hi) (h2 : hi ≤ size) (hin : ∀ p, lo ≤ p → p < hi → h p = s (f p)) (hout : ∀ p, ¬ (lo ≤ p ∧ p < hi) → h p = f p) :
    ∃ k, Fits h 0 k size ∧ k.length ≤ l.length + 2 := by
  have f1 := clip_fits (lo := 0) (hi := lo) hl (by omega)
  have f2 := clip_fits (lo := lo) (hi := hi) hl (by omega)
  have f3 := clip_fits (lo := hi) (hi := size) hl (by omega)
  rw [show max (0 : Int) 0 = 0 by omega, show min lo size = lo by omega] at f1
  rw [show max lo 0 = lo by omega, show min hi size = hi by omega] at f2
  rw [show max hi 0 = hi by omega, show min size size = size by omega] at f3
  refine ⟨clip 0 lo l ++ ((clip lo hi l).map (fun r => ⟨r.lo, r.hi, s r.tag⟩) ++ clip hi size l), fits_append.2 ⟨lo, f1.congr fun p p1 p2 => (hout p (by omega)).symm, fits_append.2 ⟨hi, fits_map s f2 hin, f3.congr fun p p1 p2 => (hout p (by omega)).symm⟩⟩, ?_⟩
  have c1 := clip_cut (lo := 0) (m := lo) (hi := size) h0 (by omega) hl
  have c2 := clip_cut (lo := lo) (m := hi) (hi := size) h1 h2 hl
  have c3 := clip_len 0 size l
  rw [List.length_append, List.length_append, List.length_map]
  omega
theorem act_runs {size : Int} {f : Int → Int} {a : Act} {l : List R} (hl : Fits f 0 l size) (he : actE size a = 0) : ∃ k, Fits (actF a f) 0 k size ∧ k.length ≤ l.length + 2 := by
  have hr : 0 ≤ a.lo ∧ a.lo ≤ a.hi ∧ a.hi ≤ size := by
    unfold actE errOf at he
    split at he
    · cases he
    · omega
  unfold actF
  split
  · exact upd_runs (fun t => swp (fun _ => t) a.fr.toNat a.tt.toNat 0) hl hr.1 hr.2.1 hr.2.2 (fun p p1 p2 => by
      unfold swr
      rw [if_pos ⟨p1, p2⟩]
      rfl) (fun p hp => by unfold swr; rw [if_neg hp])
  · exact upd_runs (fun _ => a.tt) hl hr.1 hr.2.1 hr.2.2 (fun p p1 p2 => by
      unfold put
      rw [if_pos ⟨p1, p2⟩]) (fun p hp => by unfold put; rw [if_neg hp])
/-- **a map built by n updates has 2n + 1 runs at most** -/
theorem Mo.runs {size : Int} {f0 f : Int → Int} {l : List Act} (h : Mo size f0 l f) (h0 : ∃ k, Fits f0 0 k size ∧ k.length ≤ 1) : ∃ k, Fits f 0 k size ∧ k.length ≤ 2 * l.length + 1 := by
  induction h with
  | nil => simpa using h0
  | snoc _ h1 ih =>
    obtain ⟨k, hk, hl⟩ := ih
    rw [List.length_append, List.length_singleton]
    rcases h1 with ⟨rfl, he, _⟩ | ⟨rfl, _⟩
    · obtain ⟨k', hk', hl'⟩ := act_runs hk he
      exact ⟨k', hk', by omega⟩
    · exact ⟨k, hk, by omega⟩
end Go.Proofs.Ytjbenhmpeceaeab
namespace Go.Proofs.Ytjbenhmpeceaeab
open Go Go.RowKit Gs

set_option maxHeartbeats 1000000 in
theorem built_any {size : Int} {W : World} {v : Value} {l : List Act} (hl : IsAs W v l) :
    Calls Try.prog 10 #[.int .i64 size, v] W fun e w' => ∃ q s ok, e = .returned (.tuple #[.agg #[.pointer q, .int .i64 s], .bool ok]) ∧ Hid (ok = true → l.length ≤ 60 ∧ s = size ∧ ∃ f, IsM f size w' q ∧ Mo size (fun _ => 0) l f) ∧ Hid (ok = false → l.length ≤ 60 → size < 1 ∨ 1099511627776 < size) ∧ Below W.heap.size W w' := by
  have hl0 := hl
  obtain ⟨ao, c, rfl, hcs⟩ := hl
  obtain ⟨w0, HW⟩ : ∃ w0, w0 = W.alloc (.cells #[.pointer none, .int .i64 0] 27) := ⟨_, rfl⟩
  have hm : Mb W.heap.size none 0 w0 := by rw [HW]; exact Mb.new _ _ _ _
  have hb0 : Below W.heap.size W w0 := by rw [HW]; exact (Below.refl _ _).alloc (Nat.le_refl _) _
  have HN := Lib.hid (New_any size w0)
  have HL := Lib.hid hl0
  have HM := Lib.hid hm; have HB := Lib.hid hb0; have HW' := Lib.hid HW
  clear hl0 hcs hm hb0 HW
  obtain ⟨n, hnn⟩ : ∃ n, n = l.length := ⟨_, rfl⟩
  have HLN := Lib.hid hnn
  rw [← hnn] at HL ⊢
  clear hnn
  go_enter Try.func10, Try.ntmps10
  go_wp2_with fail
  rw [← HW'.out]
  refine HN.out.mono ?_
  rintro e w1 ⟨q, s, e2, rfl, HQ, hb⟩
  have HM1 := Lib.hid (HM.out.next hb)
  have HB1 := Lib.hid (HB.out.trans (hb.mono HB.out.size))
  clear hb
  obtain ⟨w2, HW2⟩ : ∃ w2, w2 = w1.alloc (.cells #[.pointer q, .int .i64 s] 27) := ⟨_, rfl⟩
  have hm2 : Mb w1.heap.size q s w2 := by rw [HW2]; exact Mb.new _ _ _ _
  have hb2 : Below w1.heap.size w1 w2 := by rw [HW2]; exact (Below.refl _ _).alloc (Nat.le_refl _) _
  have HM2 := Lib.hid (HM1.out.next hb2)
  have HN2 := Lib.hid hm2
  have HB2 := Lib.hid (HB1.out.trans (hb2.mono HB1.out.size))
  have HW2' := Lib.hid HW2
  have d0 := HM2.out.c0; have d1 := HM2.out.c1; have d2 := HM2.out.f0; have d3 := HM2.out.f1
  have k0 := HN2.out.c0; have k1 := HN2.out.c1
  rcases HQ.out with ⟨rfl, rfl, hq⟩ | ⟨rfl, rfl, rfl, hbad⟩
  · have HI2 := Lib.hid (hq.below hb2)
    clear hq hm2 hb2 HW2
    by_cases hf : n ≤ 60
    · have HFW : Hid (∀ W', Calls Try.prog 22 #[.slice ao n c] W' fun e w' => e = .returned (.bool true) ∧ W' = w') := fun W' => by
        have := few_any ao n c W'
        rwa [decide_eq_true hf] at this
      have HMO : Hid (Calls Try.prog 23 #[.agg #[.pointer q, .int .i64 s], .slice ao n c] w2 fun e w' => ∃ q f', e = .returned (.agg #[.pointer q, .int .i64 s]) ∧ Hid (IsM f' s w' q) ∧ Hid (Mo s (fun _ => 0) l f') ∧ Below w2.heap.size w2 w') := by
        have h1 := HL.out.below HB2.out
        have h2 := HLN.out
        exact more_any HI2.out h1 (by omega)
      go_upto_region 2 with fail
      rw [← HW2'.out]
      go_wp2_with fail
      refine (HFW.out _).mono ?_
      rintro e w3 ⟨rfl, rfl⟩
      go_wp2_with fail
      refine HMO.out.mono ?_
      rintro e w4 ⟨q2, f', rfl, HI4, HMf, hb⟩
      have HM4 := Lib.hid (HM2.out.next hb)
      have HB4 := Lib.hid (HB2.out.trans (hb.mono HB2.out.size))
      clear hb d0 d1 d2 d3 k0 k1
      have d0 := HM4.out.c0; have d1 := HM4.out.c1; have d2 := HM4.out.f0; have d3 := HM4.out.f1
      obtain ⟨u0, u1⟩ : _ ∧ _ := ⟨(HM4.out.put q2 s).c0, (HM4.out.put q2 s).c1⟩
      go_wp2_with fail
      refine bodyPost_ret (v := .tuple #[.agg #[.pointer q2, .int .i64 s], .bool true]) (by simp [results, Try.results10, go_sem, u0, u1]) rfl ?_
      have HI9 : Hid (IsM f' s ((w4.setCell ⟨W.heap.size, 0, none⟩ (.pointer q2)).setCell ⟨W.heap.size, 1, none⟩ (.int .i64 s)) q2) := ⟨HI4.out.lo, HI4.out.ctx, HM4.out.tr HI4.out.tr _ _⟩
      exact ⟨q2, s, true, rfl, fun _ => ⟨hf, rfl, f', HI9, HMf⟩, (fun h => by cases h), below_put HB4.out (B := W.heap.size) (Nat.le_refl _) (.pointer q2) (.int .i64 s)⟩
    · have HFW : Hid (∀ W', Calls Try.prog 22 #[.slice ao n c] W' fun e w' => e = .returned (.bool false) ∧ W' = w') := fun W' => by
        have := few_any ao n c W'
        rwa [decide_eq_false hf] at this
      obtain ⟨u0, u1⟩ : _ ∧ _ := ⟨(HM2.out.put q s).c0, (HM2.out.put q s).c1⟩
      go_upto_region 2 with fail
      rw [← HW2'.out]
      go_wp2_with fail
      refine (HFW.out _).mono ?_
      rintro e w3 ⟨rfl, rfl⟩
      go_wp2_with fail
      refine bodyPost_ret (v := .tuple #[.agg #[.pointer q, .int .i64 s], .bool false]) (by simp [results, Try.results10, go_sem, u0, u1]) rfl ?_
      exact ⟨q, s, false, rfl, (fun h => by cases h), fun _ h => absurd h hf, below_put HB2.out (B := W.heap.size) (Nat.le_refl _) (.pointer q) (.int .i64 s)⟩
  · have HBAD := Lib.hid hbad
    obtain ⟨u0, u1⟩ : _ ∧ _ := ⟨(HM2.out.put none 0).c0, (HM2.out.put none 0).c1⟩
    clear hbad hm2 hb2 HW2
    go_upto_region 2 with fail
    rw [← HW2'.out]
    go_wp2_with fail
    refine bodyPost_ret (v := .tuple #[.agg #[.pointer none, .int .i64 0], .bool false]) (by simp [results, Try.results10, go_sem, u0, u1]) rfl ?_
    exact ⟨none, 0, false, rfl, (fun h => by cases h), fun _ _ => HBAD.out, by first | exact HB2.out | exact below_put HB2.out (B := W.heap.size) (Nat.le_refl _) (.pointer none) (.int .i64 0)⟩
end Go.Proofs.Ytjbenhmpeceaeab
namespace Go.Proofs.Ytjbenhmpeceaeab
open Go Go.RowKit Gs

theorem Diff_same {f g : Int → Int} {size : Int} {W : World} {p q : Option Addr} {La Lb : List R} {N : Nat} (h : IsM f size W p) (h' : IsM g size W q) (ha : Gs.Can f 0 La size) (hb : Gs.Can g 0 Lb size) (hN : N = (diffE La Lb).length) :
    Calls Try.prog 19 #[.agg #[.pointer p, .int .i64 size], .agg #[.pointer q, .int .i64 size]] W fun e w' => ∃ a c, e = .returned (.tuple #[.slice a N c, .int .i64 0]) ∧ Hid (IsCs w' (.slice a N c) (diffE La Lb)) ∧ Below W.heap.size W w' := by
  obtain ⟨La', Lb', h1, h2, h3⟩ := Diff_any h h'
  have e1 := h1.same ha
  have e2 := h2.same hb
  subst e1; subst e2; subst hN
  refine h3.mono ?_
  rintro e w' ⟨v, he, hr, hB⟩
  have hc := IsCs.of_row hr.out
  have hc2 := hc
  obtain ⟨a, c, rfl, -⟩ := hc
  exact ⟨a, c, he, hc2, hB⟩
theorem Apply_same {f g : Int → Int} {size : Int} {W : World} {p a : Option Addr} {c : Nat} {l : List Ch} (h : IsM f size W p) (hl : IsCs W (.slice a l.length c) l) (hn : l.length ≤ 100000) (hg : apF size f l = (0, g)) {N : Nat} (hN : N = l.length) :
    Calls Try.prog 20 #[.agg #[.pointer p, .int .i64 size], .slice a N c] W fun e w' => ∃ q, e = .returned (.tuple #[.agg #[.pointer q, .int .i64 size], .int .i64 0]) ∧ Hid (IsM g size w' q) ∧ Below W.heap.size W w' := by
  subst hN
  refine (Apply_any h hl hn).mono ?_
  rintro e w' ⟨q, s, e2, rfl, hp, hB⟩
  obtain ⟨h1, h2⟩ := hp.out
  rw [hg] at h1 h2
  have h1 : e2 = 0 := h1
  subst h1
  rcases h2 with ⟨h3, _⟩ | ⟨_, rfl, h4⟩
  · exact absurd rfl h3
  · exact ⟨q, rfl, h4, hB⟩
theorem Equal_true {f g : Int → Int} {size : Int} {W : World} {p q : Option Addr} (h : IsM f size W p) (h' : IsM g size W q) (he : ∀ x, 0 ≤ x → x < size → f x = g x) :
    Calls Try.prog 21 #[.agg #[.pointer p, .int .i64 size], .agg #[.pointer q, .int .i64 size]] W fun e w' => e = .returned (.bool true) ∧ Below W.heap.size W w' := by
  obtain ⟨La, Lb, h1, h2, h3⟩ := Equal_any h h'
  refine h3.mono ?_
  rintro e w' ⟨b, rfl, hb, hB⟩
  have := hb.out.2 ((h1.congr he).same h2)
  subst this
  exact ⟨rfl, hB⟩
theorem Equal_same {f g : Int → Int} {size : Int} {W : World} {p q : Option Addr} {La Lb : List R} {E : Bool} (h : IsM f size W p) (h' : IsM g size W q) (ha : Gs.Can f 0 La size) (hb : Gs.Can g 0 Lb size) (he : E = true ↔ La = Lb) :
    Calls Try.prog 21 #[.agg #[.pointer p, .int .i64 size], .agg #[.pointer q, .int .i64 size]] W fun e w' => e = .returned (.bool E) ∧ Below W.heap.size W w' := by
  obtain ⟨La', Lb', h1, h2, h3⟩ := Equal_any h h'
  have e1 := h1.same ha
  have e2 := h2.same hb
  subst e1; subst e2
  refine h3.mono ?_
  rintro e w' ⟨b, rfl, hb, hB⟩
  have : b = E := by
    have h9 := hb.out.trans he.symm
    cases b <;> cases E <;> simp_all
  subst this
  exact ⟨rfl, hB⟩
theorem diffE_len : ∀ (la lb : List R), (diffE la lb).length ≤ la.length * lb.length
  | [], _ => Nat.zero_le _
  | x :: la, lb => by
    have ih := diffE_len la lb
    have h1 := diff1_len x (clip x.lo x.hi lb)
    have h2 := clip_len x.lo x.hi lb
    show (diff1 x (clip x.lo x.hi lb) ++ diffE la lb).length ≤ (la.length + 1) * lb.length
    rw [List.length_append, Nat.succ_mul]
    omega
set_option maxRecDepth 100000 in
set_option maxHeartbeats 4000000 in
theorem spanPatches_walk (size : Int) (v : Value) (l : List Act) (v2 : Value) (k : List Act) (W : World) (hl : IsAs W v l) (hk : IsAs W v2 k) :
    Calls Try.prog 6 #[.int .i64 size, v, v2] W fun e w' => e = .returned (.bool true) ∧ Below W.heap.size W w' := by
  have HBU := Lib.hid (built_any (size := size) hl)
  have HBU2 := Lib.hid (fun W' (h : Below W.heap.size W W') => built_any (size := size) (W := W') (hk.below h))
  have HAW : Hid (∀ W', Below W.heap.size W W' → Calls Try.prog 11 #[] W' fun e w' => e = .returned (.bool true) ∧ Hid (Below W.heap.size W w')) := fun W' h => (awake_any W').mono fun e w' ⟨he, hB⟩ => ⟨he, h.trans (hB.mono h.size)⟩
  obtain ⟨ao, c, rfl, -⟩ := hl
  obtain ⟨ao2, c2, rfl, -⟩ := hk
  obtain ⟨n, hnn⟩ : ∃ n, n = l.length := ⟨_, rfl⟩
  obtain ⟨n2, hnn2⟩ : ∃ n2, n2 = k.length := ⟨_, rfl⟩
  rw [← hnn] at HBU ⊢
  rw [← hnn2] at HBU2 ⊢
  have HN := Lib.hid hnn; have HN2 := Lib.hid hnn2
  clear hnn hnn2
  go_enter Try.func6, Try.ntmps6
  go_wp2_with fail
  refine HBU.out.mono ?_
  rintro e w1 ⟨p, s, ok, rfl, HOK, -, hb⟩
  have HB1 := Lib.hid hb
  clear hb
  obtain ⟨w2, HW2⟩ : ∃ w2, w2 = w1.alloc (.cells #[.pointer p, .int .i64 s] 27) := ⟨_, rfl⟩
  have b2 : Below w1.heap.size w1 w2 := by rw [HW2]; exact (Below.refl _ _).alloc (Nat.le_refl _) _
  have m2 : Mb w1.heap.size p s w2 := by rw [HW2]; exact Mb.new _ _ _ _
  have HB2 := Lib.hid (HB1.out.trans (b2.mono HB1.out.size))
  have HM2 := Lib.hid m2
  have HS2 := Lib.hid b2
  have HW2' := Lib.hid HW2
  clear HW2 b2 m2
  go_upto_region 2 with fail
  rw [← HW2'.out]
  go_wp2_with fail
  refine (HBU2.out w2 HB2.out).mono ?_
  rintro e w3 ⟨q, s2, ok2, rfl, HOK2, -, hb⟩
  have HS3 := Lib.hid hb
  have HB3 := Lib.hid (HB2.out.trans (hb.mono HB2.out.size))
  have HM3 := Lib.hid (HM2.out.next hb)
  clear hb
  obtain ⟨w4, HW4⟩ : ∃ w4, w4 = w3.alloc (.cells #[.pointer q, .int .i64 s2] 27) := ⟨_, rfl⟩
  have b4 : Below w3.heap.size w3 w4 := by rw [HW4]; exact (Below.refl _ _).alloc (Nat.le_refl _) _
  have m4 : Mb w3.heap.size q s2 w4 := by rw [HW4]; exact Mb.new _ _ _ _
  have HB4 := Lib.hid (HB3.out.trans (b4.mono HB3.out.size))
  have HM4 := Lib.hid (HM3.out.next b4)
  have HN4 := Lib.hid m4
  have HS4 := Lib.hid b4
  have HW4' := Lib.hid HW4
  clear HW4 b4 m4
  go_upto_region 3 with fail
  rw [← HW4'.out]
  cases ok with
  | false =>
    go_wp2_with fail
    refine (HAW.out _ HB4.out).mono ?_
    rintro e w9 ⟨rfl, HF⟩
    go_wp2_with fail
    go_ret
    exact ⟨rfl, HF.out⟩
  | true =>
    cases ok2 with
    | false =>
      go_wp2_with fail
      refine (HAW.out _ HB4.out).mono ?_
      rintro e w9 ⟨rfl, HF⟩
      go_wp2_with fail
      go_ret
      exact ⟨rfl, HF.out⟩
    | true =>
      obtain ⟨hl60, hs1, f, hf, hmo⟩ := HOK.out rfl
      obtain ⟨hk60, hs2, g, hg, hmo2⟩ := HOK2.out rfl
      have hs3 : s2 = s := hs2.trans hs1.symm
      rw [← hs2] at hf hg hmo hmo2
      clear hs1 hs2
      subst hs3
      obtain ⟨La, hLa, hla⟩ := hf.can
      obtain ⟨Lb, hLb, hlb⟩ := hg.can
      have hz : ∃ k : List R, Fits (fun _ => (0 : Int)) 0 k s2 ∧ k.length ≤ 1 := ⟨[⟨0, s2, 0⟩], ⟨rfl, by have := hf.lo; show (0 : Int) < s2; omega, fun _ _ _ => rfl, rfl⟩, by simp⟩
      have hcnt2 : La.length ≤ 121 ∧ Lb.length ≤ 121 := by
        obtain ⟨k1, a1, a2⟩ := hmo.runs hz
        obtain ⟨k2, b1, b2⟩ := hmo2.runs hz
        have e1 := can_short hLa a1
        have e2 := can_short hLb b1
        have := HN.out; have := HN2.out
        omega
      have hcnt : La.length + Lb.length ≤ 4096 := by omega
      have hd1 := diff_dfs hLa hLb hf.ctx hg.ctx
      have hd2 := diff_dfs hLb hLa hg.ctx hf.ctx
      have hsw := diff_swap hLa hLb hf.ctx hg.ctx
      have hnil := Dfs.nil_iff hLa hLb hd1
      have hpos := hf.lo
      obtain ⟨g', ap1, ag1⟩ := apF_dfs hLa hLb hf.ctx hg.ctx hcnt (Int.le_refl 0) (by omega) hd1 (fun p h1 h2 => by omega) (fun _ _ _ => rfl)
      obtain ⟨f', ap2, ag2⟩ := apF_dfs hLb hLa hg.ctx hf.ctx (by omega) (Int.le_refl 0) (by omega) hd2 (fun p h1 h2 => by omega) (fun _ _ _ => rfl)
      have hlen : (diffE La Lb).length ≤ 100000 := Nat.le_trans (diffE_len La Lb) (Nat.le_trans (Nat.mul_le_mul hcnt2.1 hcnt2.2) (by decide))
      obtain ⟨D, hD⟩ : ∃ D, D = diffE La Lb := ⟨_, rfl⟩
      obtain ⟨D', hD'⟩ : ∃ D', D' = diffE Lb La := ⟨_, rfl⟩
      obtain ⟨N, hN⟩ : ∃ N, N = D.length := ⟨_, rfl⟩
      have hN' : N = D'.length := by rw [hD', hsw, List.length_map, ← hD, hN]
      obtain ⟨E, hE⟩ : ∃ E, E = ((N : Int) == 0) := ⟨_, rfl⟩
      have hE2 : E = true ↔ La = Lb := by
        rw [hE, beq_iff_eq, ← hnil, ← hD, hN]
        constructor
        · intro h; exact List.eq_nil_of_length_eq_zero (by omega)
        · intro h; rw [h]; rfl
      have hIP : ∀ W', Below w4.heap.size w4 W' → IsM f s2 W' p := fun W' h => ((((hf.below HS2.out).below HS3.out).below HS4.out).below h)
      have hIQ : ∀ W', Below w4.heap.size w4 W' → IsM g s2 W' q := fun W' h => ((hg.below HS4.out).below h)
      have HALL : Hid (∀ W', Below w4.heap.size w4 W' → W'.cell? ⟨w1.heap.size, 0, none⟩ = some (.pointer p) ∧ W'.cell? ⟨w1.heap.size, 1, none⟩ = some (.int .i64 s2) ∧ W'.cell? ⟨w3.heap.size, 0, none⟩ = some (.pointer q) ∧ W'.cell? ⟨w3.heap.size, 1, none⟩ = some (.int .i64 s2)) := fun W' h => ⟨(HM4.out.next h).c0, (HM4.out.next h).c1, (HN4.out.next h).c0, (HN4.out.next h).c1⟩
      have HD : Hid (∀ W', Below w4.heap.size w4 W' → Calls Try.prog 19 #[.agg #[.pointer p, .int .i64 s2], .agg #[.pointer q, .int .i64 s2]] W' fun e w' => ∃ a c, e = .returned (.tuple #[.slice a N c, .int .i64 0]) ∧ Hid (IsCs w' (.slice a N c) D) ∧ Below W'.heap.size W' w') := fun W' h => by
        rw [hD] at hN ⊢
        exact Diff_same (hIP W' h) (hIQ W' h) hLa hLb hN
      have HD2 : Hid (∀ W', Below w4.heap.size w4 W' → Calls Try.prog 19 #[.agg #[.pointer q, .int .i64 s2], .agg #[.pointer p, .int .i64 s2]] W' fun e w' => ∃ a c, e = .returned (.tuple #[.slice a N c, .int .i64 0]) ∧ Hid (IsCs w' (.slice a N c) D') ∧ Below W'.heap.size W' w') := fun W' h => by
        rw [hD'] at hN' ⊢
        exact Diff_same (hIQ W' h) (hIP W' h) hLb hLa hN'
      have HAP : Hid (∀ W' a c, Below w4.heap.size w4 W' → IsCs W' (.slice a N c) D → Calls Try.prog 20 #[.agg #[.pointer p, .int .i64 s2], .slice a N c] W' fun e w' => ∃ q', e = .returned (.tuple #[.agg #[.pointer q', .int .i64 s2], .int .i64 0]) ∧ Hid (IsM g' s2 w' q') ∧ Below W'.heap.size W' w') := fun W' a c h hc => by
        rw [hN] at hc
        exact Apply_same (hIP W' h) hc (by rw [hD]; exact hlen) (by rw [hD]; exact ap1) hN
      have HAP2 : Hid (∀ W' a c, Below w4.heap.size w4 W' → IsCs W' (.slice a N c) D' → Calls Try.prog 20 #[.agg #[.pointer q, .int .i64 s2], .slice a N c] W' fun e w' => ∃ q', e = .returned (.tuple #[.agg #[.pointer q', .int .i64 s2], .int .i64 0]) ∧ Hid (IsM f' s2 w' q') ∧ Below W'.heap.size W' w') := fun W' a c h hc => by
        rw [hN'] at hc
        exact Apply_same (hIQ W' h) hc (by rw [← hN', hN, hD]; exact hlen) (by rw [hD']; exact ap2) hN'
      have HEQ1 : Hid (∀ W' q', Below w4.heap.size w4 W' → IsM g' s2 W' q' → Calls Try.prog 21 #[.agg #[.pointer q', .int .i64 s2], .agg #[.pointer q, .int .i64 s2]] W' fun e w' => e = .returned (.bool true) ∧ Below W'.heap.size W' w') := fun W' q' h hm => Equal_true hm (hIQ W' h) ag1
      have HEQ2 : Hid (∀ W' q', Below w4.heap.size w4 W' → IsM f' s2 W' q' → Calls Try.prog 21 #[.agg #[.pointer q', .int .i64 s2], .agg #[.pointer p, .int .i64 s2]] W' fun e w' => e = .returned (.bool true) ∧ Below W'.heap.size W' w') := fun W' q' h hm => Equal_true hm (hIP W' h) ag2
      have HEQ3 : Hid (∀ W', Below w4.heap.size w4 W' → Calls Try.prog 21 #[.agg #[.pointer p, .int .i64 s2], .agg #[.pointer q, .int .i64 s2]] W' fun e w' => e = .returned (.bool E) ∧ Below W'.heap.size W' w') := fun W' h => Equal_same (hIP W' h) (hIQ W' h) hLa hLb hE2
      have HSW : Hid (∀ j (h : j < D.length) (h' : j < D'.length), D'[j] = ⟨D[j].lo, D[j].hi, D[j].tt, D[j].fr⟩) := fun j h h' => by
        have : D' = D.map Ch.swap := by rw [hD', hsw, hD]
        simp only [this, List.getElem_map]
        rfl
      have hN100 : N ≤ 100000 := by rw [hN, hD]; exact hlen
      have HND := Lib.hid hN; have HND' := Lib.hid hN'
      have hE3 : ((N : Int) == 0) = E := hE.symm
      have HAW4 : Hid (∀ W', Below w4.heap.size w4 W' → Calls Try.prog 11 #[] W' fun e w' => e = .returned (.bool true) ∧ Hid (Below W.heap.size W w')) := fun W' h => HAW.out W' (HB4.out.trans (h.mono HB4.out.size))
      clear hl60 hk60 hf hg hmo hmo2 hLa hla hLb hlb hz hcnt hd1 hd2 hsw hnil hpos ap1 ag1 ap2 ag2 hlen hcnt2 hD hD' hN hN' hE hE2 hIP hIQ HOK HOK2 HM2 HM3 HM4 HN4 HB1 HB2 HB3 HS2 HS3 HS4 HW2' HW4' HBU HBU2
      have HR4 : Hid (Below w4.heap.size w4 w4) := Below.refl _ _
      obtain ⟨k0, k1, k2, k3⟩ := HALL.out w4 HR4.out
      go_wp2_with fail
      refine (HD.out w4 HR4.out).mono ?_
      rintro e w5 ⟨a5, c5, rfl, HC5, hb⟩
      have HR5 := Lib.hid hb
      clear hb k0 k1 k2 k3
      obtain ⟨k0, k1, k2, k3⟩ := HALL.out w5 HR5.out
      go_wp2_with fail
      refine (HAP.out w5 a5 c5 HR5.out HC5.out).mono ?_
      rintro e w6 ⟨qm, rfl, HI6, hb⟩
      have HR6 := Lib.hid (HR5.out.trans (hb.mono HR5.out.size))
      have HC6 := Lib.hid (HC5.out.below hb)
      clear hb k0 k1 k2 k3 HC5 HR5
      obtain ⟨w7, HW7⟩ : ∃ w7, w7 = w6.alloc (.cells #[.pointer qm, .int .i64 s2] 27) := ⟨_, rfl⟩
      have b7 : Below w6.heap.size w6 w7 := by rw [HW7]; exact (Below.refl _ _).alloc (Nat.le_refl _) _
      have m7 : Mb w6.heap.size qm s2 w7 := by rw [HW7]; exact Mb.new _ _ _ _
      have HR7 := Lib.hid (HR6.out.trans (b7.mono HR6.out.size))
      have HC7 := Lib.hid (HC6.out.below b7)
      have HI7 := Lib.hid (HI6.out.below b7)
      have HM7 := Lib.hid m7
      have HW7' := Lib.hid HW7
      clear HW7 b7 m7 HC6 HI6 HR6
      go_upto_region 7 with fail
      rw [← HW7'.out]
      obtain ⟨k0, k1, k2, k3⟩ := HALL.out w7 HR7.out
      go_wp2_with fail
      refine (HD2.out w7 HR7.out).mono ?_
      rintro e w8 ⟨a8, c8, rfl, HE8, hb⟩
      have HR8 := Lib.hid (HR7.out.trans (hb.mono HR7.out.size))
      have HC8 := Lib.hid (HC7.out.below hb)
      have HI8 := Lib.hid (HI7.out.below hb)
      have HM8 := Lib.hid (HM7.out.next hb)
      clear hb k0 k1 k2 k3 HC7 HI7 HM7 HR7 HW7'
      obtain ⟨k0, k1, k2, k3⟩ := HALL.out w8 HR8.out
      go_wp2_with fail
      refine (HAP2.out w8 a8 c8 HR8.out HE8.out).mono ?_
      rintro e w9 ⟨qn, rfl, HJ9, hb⟩
      have HR9 := Lib.hid (HR8.out.trans (hb.mono HR8.out.size))
      have HC9 := Lib.hid (HC8.out.below hb)
      have HE9 := Lib.hid (HE8.out.below hb)
      have HI9 := Lib.hid (HI8.out.below hb)
      have HM9 := Lib.hid (HM8.out.next hb)
      clear hb k0 k1 k2 k3 HC8 HI8 HM8 HR8 HE8
      obtain ⟨w10, HW10⟩ : ∃ w10, w10 = w9.alloc (.cells #[.pointer qn, .int .i64 s2] 27) := ⟨_, rfl⟩
      have b10 : Below w9.heap.size w9 w10 := by rw [HW10]; exact (Below.refl _ _).alloc (Nat.le_refl _) _
      have m10 : Mb w9.heap.size qn s2 w10 := by rw [HW10]; exact Mb.new _ _ _ _
      have HR10 := Lib.hid (HR9.out.trans (b10.mono HR9.out.size))
      have HC10 := Lib.hid (HC9.out.below b10)
      have HE10 := Lib.hid (HE9.out.below b10)
      have HI10 := Lib.hid (HI9.out.below b10)
      have HJ10 := Lib.hid (HJ9.out.below b10)
      have HM10 := Lib.hid (HM9.out.next b10)
      have HN10 := Lib.hid m10
      have HW10' := Lib.hid HW10
      clear HW10 b10 m10 HC9 HE9 HI9 HJ9 HM9 HR9
      go_upto_region 9 with fail
      rw [← HW10'.out]
      obtain ⟨k0, k1, k2, k3⟩ := HALL.out w10 HR10.out
      have x0 := HM10.out.c0; have x1 := HM10.out.c1; have y0 := HN10.out.c0; have y1 := HN10.out.c1
      go_wp2_with fail
      refine (HEQ1.out w10 qm HR10.out HI10.out).mono ?_
      rintro e w11 ⟨rfl, hb⟩
      have HR11 := Lib.hid (HR10.out.trans (hb.mono HR10.out.size))
      have HC11 := Lib.hid (HC10.out.below hb)
      have HE11 := Lib.hid (HE10.out.below hb)
      have HJ11 := Lib.hid (HJ10.out.below hb)
      have HN11 := Lib.hid (HN10.out.next hb)
      clear hb k0 k1 k2 k3 x0 x1 y0 y1 HC10 HE10 HI10 HJ10 HM10 HN10 HR10 HW10'
      obtain ⟨k0, k1, k2, k3⟩ := HALL.out w11 HR11.out
      have y0 := HN11.out.c0; have y1 := HN11.out.c1
      go_wp2_with fail
      refine (HEQ2.out w11 qn HR11.out HJ11.out).mono ?_
      rintro e w12 ⟨rfl, hb⟩
      have HR12 := Lib.hid (HR11.out.trans (hb.mono HR11.out.size))
      have HC12 := Lib.hid (HC11.out.below hb)
      have HE12 := Lib.hid (HE11.out.below hb)
      clear hb k0 k1 k2 k3 y0 y1 HC11 HE11 HJ11 HN11 HR11
      go_wp2_with fail
      go_loopw [19] (fun i wr => ∃ j : Nat, j ≤ N ∧ i = .int .i64 j ∧ Hid (Below w12.heap.size w12 wr)) (fun i _ => N - (intOf i).toNat)
      case atStart => exact ⟨0, by omega, rfl, Below.refl _ _⟩
      case round =>
        obtain ⟨j, hj, rfl, HB⟩ := hrel
        have HRr := Lib.hid (HR12.out.trans (HB.out.mono HR12.out.size))
        by_cases hlt : j < N
        · have hj2 : (j : Int) < N := by omega
          have h1 : j < D.length := by rw [← HND.out]; exact hlt
          have h2 : j < D'.length := by rw [← HND'.out]; exact hlt
          obtain ⟨B1, o1, e1, d0, d1, d2, d3⟩ := IsCs.at' (HC12.out.below HB.out) h1
          obtain ⟨B2, o2, e2, f0, f1, f2, f3⟩ := IsCs.at' (HE12.out.below HB.out) h2
          rw [HSW.out j h1 h2] at f0 f1 f2 f3
          rcases hx : D[j] with ⟨xa, xb, xc, xd⟩
          rw [hx] at d0 d1 d2 d3 f0 f1 f2 f3
          simp only at d0 d1 d2 d3 f0 f1 f2 f3
          clear hx
          subst e1; subst e2
          go_wp2_with fail
          go_quiet (fail)
          rename_i nq
          have HBn : Hid (Below w12.heap.size w12 (World.drewN wr nq)) := below_drewN HB.out nq
          clear d0 d1 d2 d3 f0 f1 f2 f3
          generalize hw : World.drewN _ nq = w13 at HBn ⊢
          clear hw
          go_wp2_with fail
          go_roundw
          case rel => exact ⟨j + 1, by omega, by go_num, HBn⟩
          case measure => simp [intOf]; omega
        · have hlt' : ¬ ((j : Int) < N) := by omega
          obtain ⟨k0, k1, k2, k3⟩ := HALL.out wr HRr.out
          go_wp2_with fail
          refine (HEQ3.out wr HRr.out).mono ?_
          rintro e w14 ⟨rfl, hb⟩
          have HR14 := Lib.hid (HRr.out.trans (hb.mono HRr.out.size))
          clear hb k0 k1 k2 k3
          go_wp2_with fail
          refine (HAW4.out w14 HR14.out).mono ?_
          rintro e w15 ⟨rfl, HF⟩
          go_wp2_with fail
          go_ret
          exact ⟨rfl, HF.out⟩
end Go.Proofs.Ytjbenhmpeceaeab
namespace Go.Proofs.Ytjbenhmpeceaeab
open Go Go.ChangeShapes Go.WideShapes Go.ChangeAt Go.RowKit Gs
set_option linter.unusedVariables false

set_option maxRecDepth 100000 in
theorem spanPatches_lifted (os : Os) (started : os.Started) (H : Type) (enc : TypeId × Value → H) :
    ReturnsInHanded {} Try.checked os 6 .any (Rows.spanPatchesSpec.pre6 enc Try.prog Try.f6 Rows.spanPatchesRow.domain false) (Rows.spanPatchesSpec.post enc Try.prog Try.f6 false true false false) := by
  refine returnsInHanded_of_change (C := Try.checked) own started (by kernel_rfl) Try.func6
    (ChangeSpec.witness6 (enc := enc) (C := Try.checked) false ⟨#[], #[.int .i64 0, .slice none 0 0, .slice none 0 0], []⟩ 8 (by kernel_rfl) (by kernel_rfl) (by kernel_rfl) (by kernel_rfl)) ?_
  intro W base args ds gs before hval0 hW hcnd _
  have hval : ∀ (j : Nat) t v, Try.f6.params[j]? = some t → args[j]? = some v → Value.okWide Try.prog W .any base t v := hval0
  have hW' := hW
  obtain ⟨p, q, hA0, hV, rfl, hfz, hnd⟩ := hW
  have hA : DataW.TrodAll enc Try.prog W 0 (fun _ => true) true Try.f6.params.toList args.toList ds p := hA0
  rw [Try.params6] at hA hval
  obtain ⟨v0, vs0, d0, ds0, p0, q0, hargs, rfl, rfl, h0, r0⟩ := trodAll_cons hA
  obtain ⟨v1, vs1, d1, ds1, p1, q1, rfl, rfl, rfl, h1, r1⟩ := trodAll_cons r0
  obtain ⟨v2, vs2, d2, ds2, p2, q2, rfl, rfl, rfl, h2, r2⟩ := trodAll_cons r1
  obtain ⟨rfl, rfl, rfl⟩ := trodAll_nil r2
  obtain rfl : args = #[v0, v1, v2] := by cases args; simp_all
  obtain ⟨rfl, rfl⟩ := trodVars_none hV
  have k0 := h0
  have lt0 : ∀ x ∈ p0, x.block < W.heap.size := by obtain ⟨m, hm⟩ := k0; exact DataW.trod_lt m _ _ _ hm
  obtain ⟨i0, rfl, rfl, rfl, w0⟩ := open_int Try.underlying3 (hval 0 3 v0 rfl rfl) h0
  have k1 := h1
  have lt1 : ∀ x ∈ p1, x.block < W.heap.size := by obtain ⟨m, hm⟩ := k1; exact DataW.trod_lt m _ _ _ hm
  obtain ⟨l1, hl1⟩ := acts_of h1 (okWide_slice Try.underlying22 (hval 1 22 v1 rfl rfl))
  have k2 := h2
  have lt2 : ∀ x ∈ p2, x.block < W.heap.size := by obtain ⟨m, hm⟩ := k2; exact DataW.trod_lt m _ _ _ hm
  obtain ⟨l2, hl2⟩ := acts_of h2 (okWide_slice Try.underlying22 (hval 2 22 v2 rfl rfl))
  clear hA0 hval0
  refine (spanPatches_walk i0 _ l1 _ l2 W hl1 hl2).mono fun e W' ⟨he, bel⟩ => ?_
  subst he
  exact ⟨_, rfl, _, _, _, [], _, [], hW', trodAll_mk1 (shut_bool Try.underlying4 _), (trodAll_cons_mk (shut_int Try.underlying3 w0) (trodAll_cons_mk (Below.trod laidOut' (by kernel_rfl) (of_decide_eq_true (by kernel_rfl)) k1 bel lt1) (trodAll_cons_mk (Below.trod laidOut' (by kernel_rfl) (of_decide_eq_true (by kernel_rfl)) k2 bel lt2) trodAll_mk0))), rfl, bel.frame _, fun h => by cases h⟩
theorem spanPatches_holds : Rows.SpanPatchesSaid :=
  OpenClaim.holds_of_wide 6 Try.f6 rfl rfl rfl rfl rfl rfl rfl ⟨rfl, rfl, rfl, rfl, rfl⟩ rfl rfl rfl rfl rfl (by kernel_rfl) Try.func6 (by kernel_rfl)
    (of_decide_eq_true (by kernel_rfl)) (by unfold Func.isWrapper; first | (rw [if_pos (by decide +kernel)]; kernel_rfl) | (rw [if_neg (by decide +kernel)]; exact ⟨rfl, rfl⟩))
    (fun os started H enc _ => spanPatches_lifted os started H enc)
#print axioms spanPatches_holds
end Go.Proofs.Ytjbenhmpeceaeab
