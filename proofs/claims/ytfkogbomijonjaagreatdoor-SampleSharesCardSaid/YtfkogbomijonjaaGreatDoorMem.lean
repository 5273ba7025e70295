/- How a number lies in memory, as a slice of its digits. Of no program. -/
import Derived.WalkKit
import Derived.Handy
import Derived.Deep.OwnRows
import Derived.Deep.Draws
import Derived.Lib.Hide
import Derived.Test.YtfkogbomijonjaaGreatDoorTxt
namespace Gu
open Go Go.RowKit

/-- the slice v holds the digits of n to the base B, as integers of kind k, the lowest first, and none beyond -/
def IsN (k : IntKind) (B : Nat) (w : World) (v : Value) (n : Nat) : Prop :=
  (n = 0 ∧ ∃ ao cap, v = .slice ao 0 cap) ∨
  (0 < n ∧ ∃ b o cap, v = .slice (some ⟨b, o, none⟩) (nd B n) cap ∧ ∀ i, i < nd B n → w.cell? ⟨b, o + i, none⟩ = some (.int k (dg B n i)))

theorem IsN.zero (k : IntKind) (B : Nat) (w : World) (ao : Option Addr) (cap : Nat) : IsN k B w (.slice ao 0 cap) 0 := .inl ⟨rfl, ao, cap, rfl⟩
theorem IsN.below {k : IntKind} {B : Nat} {w w' : World} {v : Value} {n : Nat} (h : IsN k B w v n) (hb : Below w.heap.size w w') : IsN k B w' v n := by
  rcases h with h | ⟨h0, b, o, cap, hv, hc⟩
  · exact .inl h
  · refine .inr ⟨h0, b, o, cap, hv, fun i hi => ?_⟩
    have h1 := hc i hi
    have hlt : b < w.heap.size := World.block_lt_of_cell? _ _ h1
    rw [hb.cell (p := ⟨b, o + i, none⟩) hlt]; exact h1
theorem IsN.alike {k : IntKind} {B : Nat} {w w' : World} {v : Value} {n : Nat} (h : IsN k B w v n) (hb : w'.Alike w) : IsN k B w' v n := by
  rcases h with h | ⟨h0, b, o, cap, hv, hc⟩
  · exact .inl h
  · exact .inr ⟨h0, b, o, cap, hv, fun i hi => by rw [hb.cell]; exact hc i hi⟩
/-- the slice's shape: a length that is known, and cells where there are any -/
theorem IsN.shape {k : IntKind} {B : Nat} {w : World} {v : Value} {n : Nat} (h : IsN k B w v n) : ∃ ao cap, v = .slice ao (nd B n) cap ∧ ∀ i, i < nd B n → ∃ b o, ao = some ⟨b, o, none⟩ ∧ w.cell? ⟨b, o + i, none⟩ = some (.int k (dg B n i)) := by
  rcases h with ⟨h0, ao, cap, hv⟩ | ⟨h0, b, o, cap, hv, hc⟩
  · subst h0; exact ⟨ao, cap, by rw [nd_zero]; exact hv, fun i hi => by rw [nd_zero] at hi; omega⟩
  · exact ⟨_, cap, hv, fun i hi => ⟨b, o, rfl, hc i hi⟩⟩

/-- a buffer of m cells that holds the digits of x -/
def Buf (k : IntKind) (B : Nat) (T : TypeId) (w : World) (g m x : Nat) : Prop := w.rowIs g T m (fun i => .int k (dg B x i))

theorem Buf.made (k : IntKind) (B : Nat) (T : TypeId) (w : World) (m : Nat) : Buf k B T (w.alloc (.cells (madeCells #[.int k 0] m) T)) w.heap.size m 0 :=
  (World.rowIs_made w (.int k 0) m T).congr (fun i _ => by rw [dg_zero]; rfl)
theorem Buf.cell {k : IntKind} {B : Nat} {T : TypeId} {w : World} {g m x : Nat} (h : Buf k B T w g m x) {i : Nat} (hi : i < m) : w.cell? ⟨g, i, none⟩ = some (.int k (dg B x i)) := World.rowIs.cell h hi
theorem Buf.frozen {k : IntKind} {B : Nat} {T : TypeId} {w : World} {g m x : Nat} (h : Buf k B T w g m x) (i : Nat) : w.frozen? ⟨g, i, none⟩ = false := World.rowIs.frozen h i
theorem Buf.lt {k : IntKind} {B : Nat} {T : TypeId} {w : World} {g m x : Nat} (h : Buf k B T w g m x) : g < w.heap.size := World.rowIs.lt h
theorem Buf.below {k : IntKind} {B : Nat} {T : TypeId} {w w' : World} {g m x B' : Nat} (h : Buf k B T w g m x) (hb : Below B' w w') (hg : g < B') : Buf k B T w' g m x := World.rowIs.of_block h (hb.block g hg)
theorem Buf.alloc {k : IntKind} {B : Nat} {T : TypeId} {w : World} {g m x : Nat} (h : Buf k B T w g m x) (o : Obj) : Buf k B T (w.alloc o) g m x := World.rowIs.alloc h o
/-- a digit is stored where there was none -/
theorem Buf.put {k : IntKind} {B : Nat} {T : TypeId} {w : World} {g m x j : Nat} (h : Buf k B T w g m x) (hB : 0 < B) (hx : x < B ^ j) {d : Nat} (hd : d < B) : Buf k B T (w.setCell ⟨g, j, none⟩ (.int k d)) g m (x + B ^ j * d) := by
  refine (World.rowIs.set h j (.int k d)).congr (fun i _ => ?_)
  by_cases e : i = j
  · subst e; rw [if_pos rfl, dg_self hB hx hd]
  · rw [if_neg e]
    rcases Nat.lt_or_gt_of_ne e with h' | h'
    · rw [dg_low hB h']
    · rw [dg_high hB hx (by omega), dg_high hB (snoc_lt hx hd) (by omega)]
/-- the filled buffer, cut to the digits that the number has -/
theorem Buf.isN {k : IntKind} {B : Nat} {T : TypeId} {w : World} {g m x : Nat} (h : Buf k B T w g m x) (hB : 2 ≤ B) (hx : x < B ^ m) (cap : Nat) : IsN k B w (.slice (some ⟨g, 0, none⟩) (nd B x) cap) x := by
  rcases Nat.eq_zero_or_pos x with h0 | h0
  · subst h0; rw [nd_zero]; exact IsN.zero _ _ _ _ _
  · refine .inr ⟨h0, g, 0, cap, rfl, fun i hi => ?_⟩
    rw [Nat.zero_add]
    exact h.cell (Nat.lt_of_lt_of_le hi ((nd_le hB).2 hx))
/-- a slice that the call has built by append, of m digits of x -/
def Own (k : IntKind) (B : Nat) (T : TypeId) (w : World) (base : Nat) (v : Value) (m x : Nat) : Prop := w.ownsRow base T 1 v m ((pad B m x).map fun d : Nat => Value.int k (d : Int))

theorem Own.nil (k : IntKind) (B : Nat) (T : TypeId) (w : World) (base : Nat) : Own k B T w base (.slice none 0 0) 0 0 := by
  unfold Own; exact World.ownsRow_nil _ _ _ _
theorem Own.shape {k : IntKind} {B : Nat} {T : TypeId} {w : World} {base : Nat} {v : Value} {m x : Nat} (h : Own k B T w base v m x) :
    (v = .slice none 0 0 ∧ m = 0) ∨ ∃ g cap, v = .slice (some ⟨g, 0, none⟩) m cap ∧ base ≤ g ∧ g < w.heap.size ∧ m ≤ cap ∧ cap ≤ maxLen ∧ (∀ i, i < m → w.cell? ⟨g, i, none⟩ = some (.int k (dg B x i))) := by
  have h' := h
  rcases h.2 with h2 | ⟨g, cap, cur, hv, hb, hg, hm, hc, hs, ht⟩
  · exact .inl h2
  · refine .inr ⟨g, cap, hv, hb, (Array.getElem?_eq_some_iff.1 hg).1, hm, hc, fun i hi => ?_⟩
    subst hv
    rw [World.ownsRow.cellAt h' i (by omega)]
    simp [pad, hi]
theorem Own.isN {k : IntKind} {B : Nat} {T : TypeId} {w : World} {base : Nat} {v : Value} {m x : Nat} (h : Own k B T w base v m x) (hB : 2 ≤ B) (hm : nd B x = m) : IsN k B w v x := by
  rcases h.shape with ⟨hv, h0⟩ | ⟨g, cap, hv, _, _, _, _, hc⟩
  · subst hv h0; rw [(nd_eq_zero hB).1 hm]; exact IsN.zero _ _ _ _ _
  · rcases Nat.eq_zero_or_pos x with h0 | h0
    · subst h0; rw [nd_zero] at hm; subst hm; rw [hv]; exact IsN.zero _ _ _ _ _
    · exact .inr ⟨h0, g, 0, cap, by rw [hm]; exact hv, fun i hi => by rw [Nat.zero_add]; exact hc i (by omega)⟩
/-- one digit of a buffer is stored anew -/
theorem Buf.set {k : IntKind} {B : Nat} {T : TypeId} {w : World} {g m A y Z j : Nat} (h : Buf k B T w g m (A + B ^ j * (y + B * Z))) (hB : 0 < B) (hA : A < B ^ j) (hy : y < B) {d : Nat} (hd : d < B) :
    Buf k B T (w.setCell ⟨g, j, none⟩ (.int k d)) g m (A + B ^ j * (d + B * Z)) := by
  refine (World.rowIs.set h j (.int k d)).congr (fun i _ => ?_)
  rw [dg_mid hB hA hd, dg_mid hB hA hy]
  by_cases e : i = j
  · subst e; rw [if_pos rfl, if_neg (Nat.lt_irrefl _), if_pos rfl]
  · rw [if_neg e]
    simp only [if_neg e]
theorem grownBy_setCell (w : World) (g j : Nat) (v : Value) : w.grownBy (w.setCell ⟨g, j, none⟩ v) (some g) :=
  ⟨rfl, rfl, rfl, by simp [World.setCell], fun k _ hk => Below.heap_setCell _ _ _ _ (fun e => hk (by simp [e]))⟩
theorem grownBy_trans {a b c : World} {row : Option Nat} (h : a.grownBy b row) (h' : b.grownBy c row) : a.grownBy c row :=
  ⟨h'.os.trans h.os, h'.tape.trans h.tape, h'.output.trans h.output, Nat.le_trans h.size h'.size, fun k hk hr => (h'.block k (Nat.lt_of_lt_of_le hk h.size) hr).trans (h.block k hk hr)⟩
theorem grownBy_drewN {a b : World} {row : Option Nat} (h : a.grownBy b row) (q : Nat) : a.grownBy (b.drewN q) row := ⟨h.os, h.tape, h.output, h.size, h.block⟩
theorem grownBy_refl (a : World) (row : Option Nat) : a.grownBy a row := ⟨rfl, rfl, rfl, Nat.le_refl _, fun _ _ _ => rfl⟩
/-- a number in another block than the one that is written -/
theorem IsN.grown {k : IntKind} {B : Nat} {w w' : World} {v : Value} {n g : Nat} (h : IsN k B w v n) (hb : w.grownBy w' (some g)) (hne : ∀ b o c l, v = .slice (some ⟨b, o, none⟩) l c → 0 < n → b ≠ g) : IsN k B w' v n := by
  rcases h with h | ⟨h0, b, o, cap, hv, hc⟩
  · exact .inl h
  · exact .inr ⟨h0, b, o, cap, hv, fun i hi => hb.cell (hc i hi) (by simp; exact hne b o cap _ hv h0)⟩
/-- a store into a cell that holds something else than a digit -/
theorem IsN.setCell {k : IntKind} {B : Nat} {w : World} {v : Value} {n : Nat} (h : IsN k B w v n) {p : Addr} {x : Value} (hp : w.cell? p = some x) (hx : ∀ d : Int, x ≠ .int k d) (u : Value) : IsN k B (w.setCell p u) v n := by
  rcases h with h | ⟨h0, b, o, cap, hv, hc⟩
  · exact .inl h
  · refine .inr ⟨h0, b, o, cap, hv, fun i hi => ?_⟩
    rw [World.cell?_setCell_other]
    · exact hc i hi
    · intro e
      subst e
      rw [hc i hi] at hp
      exact hx _ (Option.some.inj hp).symm
end Gu
