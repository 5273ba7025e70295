/- The contract of the document's own Raw: the number with given digits. -/
import Derived.Test.YtgjkhbognenajaaGreatDoorRg
namespace Go.Proofs.YtgjkhbognenajaaGreatDoor
open Go Go.RowKit Gu

theorem Trim_none (w : World) : Calls Tryz.prog 41 #[.slice none 0 0] w fun e w' => e = .returned (.slice none 0 0) ∧ w = w' := by
  go_enter Tryz.func41, Tryz.ntmps41
  go_wp2
  go_loop [3] (fun n => n = .int .i64 0) (fun _ => 0)
  case atStart => rfl
  case round =>
    subst hrel
    go_wp2
    go_ret
    exact ⟨rfl, rfl⟩
theorem Trim_own (base k X : Nat) (v : Value) (w : World) (h : Own .i64 65536 3 w base v k X) (hX : X < 65536 ^ k) (hk : k ≤ 4611686018427387904) :
    Calls Tryz.prog 41 #[v] w fun e w' => ∃ r, e = .returned r ∧ R w' r X ∧ w = w' := by
  rcases h.shape with ⟨rfl, rfl⟩ | ⟨g, cap, rfl, _, _, hm, hc, hcell⟩
  · obtain rfl : X = 0 := by rw [Nat.pow_zero] at hX; omega
    exact (Trim_none w).mono fun e w' ⟨he, hw⟩ => ⟨_, he, IsN.zero _ _ _ _ _, hw⟩
  · refine (Trim_any g k cap X w hcell hX hk hm).mono fun e w' ⟨he, hw⟩ => ⟨_, he, ?_, hw⟩
    rw [← hw]
    rcases Nat.eq_zero_or_pos X with h0 | h0
    · subst h0; rw [nd_zero]; exact IsN.zero _ _ _ _ _
    · exact .inr ⟨h0, g, 0, cap, rfl, fun i hi => by rw [Nat.zero_add]; exact hcell i (Nat.lt_of_lt_of_le hi ((nd_le (by decide)).2 hX))⟩
/-- a slice of digits that came in -/
def IsRaw (w : World) (v : Value) (xs : List Nat) : Prop :=
  Dig 65536 xs ∧ ((xs = [] ∧ ∃ ao c, v = .slice ao 0 c) ∨ ∃ b o c, v = .slice (some ⟨b, o, none⟩) xs.length c ∧ ∀ i (h : i < xs.length), w.cell? ⟨b, o + i, none⟩ = some (.int .u16 (xs[i] : Nat)))
theorem IsRaw.shape {w : World} {v : Value} {xs : List Nat} (h : IsRaw w v xs) : ∃ ao c, v = .slice ao xs.length c ∧ ∀ i (h : i < xs.length), ∃ b o, ao = some ⟨b, o, none⟩ ∧ w.cell? ⟨b, o + i, none⟩ = some (.int .u16 (xs[i] : Nat)) := by
  rcases h.2 with ⟨rfl, ao, c, rfl⟩ | ⟨b, o, c, rfl, hc⟩
  · exact ⟨ao, c, rfl, fun i h => by simp at h⟩
  · exact ⟨_, c, rfl, fun i h => ⟨b, o, rfl, hc i h⟩⟩
/-- the number that the first m digits make -/
def rawN (xs : List Nat) (m : Nat) : Nat := val 65536 (xs.take m)
theorem rawN_lt {xs : List Nat} (h : Dig 65536 xs) {k : Nat} (hk : k ≤ xs.length) : rawN xs k < 65536 ^ k := by
  have := val_lt (h.take k)
  rw [List.length_take, Nat.min_eq_left hk] at this
  exact this
theorem rawN_nd {xs : List Nat} (h : Dig 65536 xs) (m : Nat) : nd 65536 (rawN xs m) ≤ m := by
  apply (nd_le (by decide : 2 ≤ 65536)).2
  have := val_lt (h.take m)
  refine Nat.lt_of_lt_of_le this (Nat.pow_le_pow_right (by decide) ?_)
  rw [List.length_take]; omega
/-- what the loop of Raw keeps -/
def RawRel (xs : List Nat) (w : World) (k : Nat) (v : Value) (wr : World) : Prop :=
  Own .i64 65536 3 wr w.heap.size v k (rawN xs k) ∧ Below w.heap.size w wr
end Go.Proofs.YtgjkhbognenajaaGreatDoor
