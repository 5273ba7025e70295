/- The contract of the document's own function on numbers that writes the numeral: Text. -/
import Derived.Test.YtfkogbomijonjaaGreatDoorRc
import Derived.Laws.BytesArg
namespace Go.Proofs.YtfkogbomijonjaaGreatDoor
open Go Go.RowKit Gu

theorem Tryz.infoU8 : (Tryz.prog.info? 5).map (fun i => (i.zero, i.size, i.bytes)) = some (some (.int .u8 0), 1, 1) := by kernel_rfl
/-- an own row whose elements are one cell wide, by the index -/
theorem row_of_own {w : World} {base : Nat} {T : TypeId} {v : Value} {n : Nat} {xs : List Value} (h : w.ownsRow base T 1 v n xs) (hn : 0 < n) :
    ∃ g cap f, v = .slice (some ⟨g, 0, none⟩) n cap ∧ base ≤ g ∧ n ≤ cap ∧ w.rowIs g T cap f ∧ ∀ i, i < n → xs[i]? = some (f i) := by
  rcases h.2 with ⟨_, h2⟩ | ⟨g, cap, cur, hv, hb, hh, hle, hm, hs, ht⟩
  · omega
  · refine ⟨g, cap, fun i => (cur[i]?).getD (.bool false), hv, hb, hle, ⟨cur, hh, by omega, fun i hi => ?_⟩, fun i hi => ?_⟩
    · simp [Array.getElem?_eq_getElem (show i < cur.size by omega)]
    · rw [← ht, List.getElem?_take, if_pos (by omega), Array.getElem?_toList]; simp [Array.getElem?_eq_getElem (show i < cur.size by omega)]
/-- the first k decimal digits as bytes, the least first -/
def chs (n k : Nat) : List Value := (List.range k).map fun j => Value.int .u8 ((48 + dg 10 n j : Nat) : Int)
theorem chs_succ (n k : Nat) : chs n (k + 1) = chs n k ++ [Value.int .u8 ((48 + dg 10 n k : Nat) : Int)] := by
  unfold chs; rw [List.range_succ, List.map_append]; rfl
/-- a row of which i places at either end have changed sides -/
def rv {α : Type} (k i : Nat) (f : Nat → α) (p : Nat) : α := if p < k ∧ (p < i ∨ k ≤ p + i) then f (k - 1 - p) else f p
theorem rv_zero {α : Type} (k : Nat) (f : Nat → α) (p : Nat) : rv k 0 f p = f p := by unfold rv; rw [if_neg (by omega)]
theorem rv_in {α : Type} {k i p : Nat} (f : Nat → α) (h1 : i ≤ p) (h2 : p + i < k) : rv k i f p = f p := by unfold rv; rw [if_neg (by omega)]
theorem rv_all {α : Type} {k i p : Nat} (f : Nat → α) (h : k ≤ 2 * i + 1) (h1 : 2 * i ≤ k) (hp : p < k) : rv k i f p = f (k - 1 - p) := by
  unfold rv
  split
  · rfl
  · rw [show k - 1 - p = p from by omega]
theorem rv_next {α : Type} {k i j : Nat} (f : Nat → α) (hj : j + i + 1 = k) (hij : i < j) (p : Nat) :
    (if p = j then f i else if p = i then f j else rv k i f p) = rv k (i + 1) f p := by
  unfold rv
  by_cases h1 : p = j
  · rw [if_pos h1, if_pos (by omega)]; congr 1; omega
  · rw [if_neg h1]
    by_cases h2 : p = i
    · rw [if_pos h2, if_pos (by omega)]; congr 1; omega
    · rw [if_neg h2]
      by_cases h3 : p < k ∧ (p < i ∨ k ≤ p + i)
      · rw [if_pos h3, if_pos (by omega)]
      · rw [if_neg h3, if_neg (by omega)]
theorem dec_rev {n k : Nat} (h : 0 < n) (hk : nd 10 n = k) : (List.range k).map (fun p => UInt8.ofNat (48 + dg 10 n (k - 1 - p))) = Lib.decDigits n := by
  rw [dec_eq_digits h, hk]
  apply List.ext_getElem (by simp [pad])
  intro i h1 h2
  simp only [List.length_map, List.length_range] at h1
  simp only [List.getElem_map, List.getElem_range, List.getElem_reverse, pad_getElem, List.length_map, pad_length]
/-- what the first loop of Text keeps: k digits are out -/
def TxtRel (n : Nat) (w : World) (k : Nat) (av bv : Value) (wr : World) : Prop :=
  k ≤ nd 10 n ∧ R wr av (n / 10 ^ k) ∧ wr.ownsRow w.heap.size 5 1 bv k (chs n k) ∧ Below w.heap.size w wr
theorem nd_ten {n m : Nat} (h : nd 65536 n ≤ m) : nd 10 n ≤ 5 * m := by
  have h1 := (nd_le (by decide : 2 ≤ 65536)).1 h
  apply (nd_le (by decide : 2 ≤ 10)).2
  refine Nat.lt_of_lt_of_le h1 ?_
  rw [Nat.pow_mul]
  exact Nat.pow_le_pow_left (by decide) _
end Go.Proofs.YtfkogbomijonjaaGreatDoor
