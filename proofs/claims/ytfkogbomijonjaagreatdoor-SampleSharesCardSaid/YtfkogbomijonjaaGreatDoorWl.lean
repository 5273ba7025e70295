/- The contracts of New, fitting, lowest, NewFrac, terms, Add. -/
import Derived.Test.YtfkogbomijonjaaGreatDoorWk
namespace Go.Proofs.YtfkogbomijonjaaGreatDoor
open Go Go.RowKit Gu

theorem bcell {W w1 : World} (hb : Below W.heap.size W w1) : (∀ b o, b < W.heap.size → w1.cell? ⟨b, o, none⟩ = W.cell? ⟨b, o, none⟩) ∧ (∀ b o, b < W.heap.size → w1.frozen? ⟨b, o, none⟩ = W.frozen? ⟨b, o, none⟩) :=
  ⟨fun b o h => hb.cell (p := ⟨b, o, none⟩) h, fun b o h => hb.frozen (p := ⟨b, o, none⟩) h⟩
theorem New_any (n : Nat) (w : World) (hn : n ≤ 9223372036854775807) :
    Calls Tryz.prog 45 #[.int .i64 n] w fun e w' => ∃ v, e = .returned (.tuple #[.agg #[v], .int .i64 0]) ∧ D w' v n ∧ Below w.heap.size w w' := by
  have HD := Lib.hid (fun w => digitsOf_any n w (by omega))
  go_enter Tryz.func45, Tryz.ntmps45
  go_wp2_with fail
  refine (HD.out _).mono ?_
  rintro e w' ⟨v, rfl, hv, hbel⟩
  obtain ⟨hc, hf⟩ := bcell hbel
  obtain ⟨ao, cap, rfl, -⟩ := hv.shape
  have HV := Lib.hid hv; have HB := Lib.hid hbel
  have hz := hbel.size
  simp only [World.size_alloc] at hz
  clear hv hbel
  go_wp2
  refine bodyPost_ret (v := .tuple #[.agg #[.slice ao (nd 4294967296 n) cap], .int .i64 0]) (by simp [results, Tryz.results45, go_sem, hc]) rfl ⟨_, rfl, HV.out.setCell ((hc _ _ (by simp)).trans (World.cell?_alloc_at _ _ _ _ rfl)) (by intro d h; cases h) _, ?_⟩
  exact (((Below.refl _ _).alloc (Nat.le_refl _) _).trans (HB.out.mono (by simp))).setCell (Nat.le_refl _) _
end Go.Proofs.YtfkogbomijonjaaGreatDoor
