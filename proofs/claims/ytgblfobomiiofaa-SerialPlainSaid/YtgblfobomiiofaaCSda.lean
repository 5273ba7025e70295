/- The document's own test of a scheme's form. -/
import Derived.Test.YtgblfobomiiofaaTSerB
namespace Go.Proofs.Ytgblfobomiiofaa
open Go Go.RowKit Go.Shelf Gw Go.Maps

/-- an answer whether P holds, in the same world -/
def OfP (P : Prop) (w : World) (e : Ending) (w' : World) : Prop := ∃ r : Bool, e = .returned (.bool r) ∧ IffB r P ∧ w = w'
set_option maxRecDepth 100000 in
set_option maxHeartbeats 2000000 in
theorem of_any {al t : ByteArray} (hal : al.size ≤ 1000) (ht : t.size ≤ 1000000) (w : World) : Calls Try.prog 59 #[.string al, .string t] w (OfP (OfA t al) w) := by
  have HV := Lib.hid (fun (b : UInt8) (W : World) => Value_any (al := al) b hal W)
  go_enter Try.func59, Try.ntmps59
  go_wp2_with fail
  go_loopw [5] (fun s4 wr => ∃ i : Nat, i ≤ t.size ∧ s4 = .int .i64 i ∧ Hid (w = wr) ∧ Hid (∀ j (h : j < t.size), j < i → t[j] ∈ bys al)) (fun s4 _ => t.size - (intOf s4).toNat)
  case atStart => exact ⟨0, Nat.zero_le _, rfl, rfl, fun j _ h => by omega⟩
  case round =>
    obtain ⟨i, hi, rfl, HWR, HN⟩ := hrel
    obtain rfl := HWR.out
    by_cases q : i < t.size
    · have q1 : (i : Int) < (t.size : Int) := by omega
      have hw : IntKind.i64.wrap ((i : Int) + 1) = ((i + 1 : Nat) : Int) := by rw [IntWalk.i64_in _ (by omega)]; omega
      have hix := fun W => index_str q W
      obtain ⟨y, hy⟩ : ∃ y, y = t[i] := ⟨_, rfl⟩
      rw [← hy] at hix
      obtain ⟨r, hr⟩ : ∃ r, r = Lib.indexByte (bys al) y := ⟨_, rfl⟩
      have HV1 : Hid (∀ W : World, Calls Try.prog 41 #[.string al, .int .u8 (y.toNat : Int)] W fun e w' => e = .returned (.int .i64 r) ∧ W = w') := fun W => by rw [hr]; exact HV.out y W
      by_cases c : y ∈ bys al
      · have hr0 : ¬ r < 0 := by have := indexByte_mem.2 c; rw [hr]; omega
        have HN2 : Hid (∀ j (h : j < t.size), j < i + 1 → t[j] ∈ bys al) := fun j h hj => by
          rcases Nat.lt_succ_iff_lt_or_eq.1 hj with h3 | h3
          · exact HN.out j h h3
          · subst h3; rw [← hy]; exact c
        clear hr hy c
        go_wp2_with (first
          | (go_at_call 41; (with_reducible refine (HV1.out _).mono ?_); rintro e wa ⟨rfl, rfl⟩)
          | fail)
        go_roundw
        case rel => exact ⟨i + 1, q, by go_num, (by first | exact rfl | exact Lib.hid trivial), HN2⟩
        case measure => simp [intOf]; omega
      · have hr0 : r < 0 := by
          have : ¬ 0 ≤ Lib.indexByte (bys al) y := fun h => c (indexByte_mem.1 h)
          rw [hr]; omega
        have HF : Hid (IffB false (OfA t al)) := IffB.no fun h => c (by rw [hy]; exact h _ (bys_at q))
        clear hr hy c
        go_wp2_with (first
          | (go_at_call 41; (with_reducible refine (HV1.out _).mono ?_); rintro e wa ⟨rfl, rfl⟩)
          | fail)
        go_ret
        exact ⟨false, rfl, HF.out, rfl⟩
    · obtain rfl : i = t.size := by omega
      have q1 : ¬ (t.size : Int) < (t.size : Int) := by omega
      have HF : Hid (IffB true (OfA t al)) := IffB.yes fun b hb => by
        obtain ⟨j, hj, rfl⟩ := mem_bys.1 hb
        exact HN.out j hj hj
      go_wp2_with fail
      go_ret
      exact ⟨true, rfl, HF.out, rfl⟩
/-- where a byte lies first, there no byte before it is it -/
theorem index_eq {al : ByteArray} {i : Nat} (hi : i < al.size) : Lib.indexByte (bys al) al[i] = (i : Int) ↔ ∀ j (hj : j < al.size), j < i → al[j] ≠ al[i] := by
  have hm : al[i] ∈ bys al := bys_at hi
  rw [indexByte_idx hm]
  have hl := List.idxOf_lt_length_of_mem hm
  have hg := List.getElem_idxOf hl
  constructor
  · intro h j hj hji e
    have h1 : (bys al).idxOf al[i] = i := by omega
    have h3 : j < (bys al).findIdx (· == al[i]) := by
      show j < (bys al).idxOf al[i]
      omega
    have h4 := List.not_of_lt_findIdx h3
    have h5 : (al[j] == al[i]) = false := h4
    rw [e] at h5
    simp at h5
  · intro h
    have h1 := index_first (l := bys al) (i := i) (b := al[i]) (by rw [bys_len]; exact hi) rfl (fun j hj => h j (by omega) hj)
    rw [indexByte_idx hm] at h1
    exact h1
end Go.Proofs.Ytgblfobomiiofaa
