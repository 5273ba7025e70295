/- The contracts of the program's smallest functions on digits. -/
import Derived.Test.YtfkogbomijonjaaGreatDoorMem
import Derived.Test.YtfkogbomijonjaaGreatDoorChecked
import Derived.WalkLawsBesides
import Derived.WalkSpells
import Derived.Outline
namespace Go.Proofs.YtfkogbomijonjaaGreatDoor
open Go Go.RowKit Gu

/-- the base -/
abbrev B32 : Nat := 4294967296
abbrev D (w : World) (v : Value) (n : Nat) : Prop := IsN .u32 4294967296 w v n

theorem at_any (v : Value) (n i : Nat) (w : World) (h : D w v n) (hn : nd 4294967296 n ≤ 4611686018427387904) :
    Calls Tryz.prog 84 #[v, .int .i64 i] w fun e w' => e = .returned (.int .u64 (dg 4294967296 n i)) ∧ w = w' := by
  rcases h with ⟨h0, ao, cap, hv⟩ | ⟨h0, b, o, cap, hv, hc⟩
  · subst h0; subst hv
    go_enter Tryz.func84, Tryz.ntmps84
    go_wp2
    go_ret
    exact ⟨by rw [dg_zero]; rfl, rfl⟩
  · subst hv
    have hB : 2 ≤ 4294967296 := by decide
    have hx := dg_lt (B := 4294967296) (by decide) n i
    by_cases hlt : i < nd 4294967296 n
    · have hci := hc i hlt
      clear hc
      generalize hd : dg 4294967296 n i = d at *
      generalize hm : nd 4294967296 n = m at *
      clear hd hm
      go_enter Tryz.func84, Tryz.ntmps84
      go_wp2
      go_ret
      exact ⟨rfl, rfl⟩
    · have hz : dg 4294967296 n i = 0 := dg_high (by decide) (nd_lt hB n) (by omega)
      clear hc
      rw [hz]
      generalize hm : nd 4294967296 n = m at *
      clear hm hz hx
      go_enter Tryz.func84, Tryz.ntmps84
      go_wp2
      go_ret
      exact ⟨rfl, rfl⟩
end Go.Proofs.YtfkogbomijonjaaGreatDoor
