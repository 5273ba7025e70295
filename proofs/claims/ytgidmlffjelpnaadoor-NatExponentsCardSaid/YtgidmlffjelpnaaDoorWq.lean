/- The contract of Parse. -/
import Derived.Test.YtgidmlffjelpnaaDoorWp
namespace Go.Proofs.YtgidmlffjelpnaaDoor
open Go Go.RowKit Gu

theorem isNum_digits {l : List UInt8} (h : isNum l = true) : l.all isDigit = true := by
  unfold isNum at h; simp only [Bool.and_eq_true] at h; exact h.2
theorem isNum_pos {l : List UInt8} (h : isNum l = true) : 0 < l.length := by
  unfold isNum at h; simp only [Bool.and_eq_true] at h
  cases l with
  | nil => simp at h
  | cons a l => simp
set_option maxHeartbeats 400000 in
/-- Parse of a numeral that is not too long -/
theorem Parse_num (s : ByteArray) (w : World) (hs : s.size ≤ 5463) (hd : isNum s.data.toList = true) :
    Calls Tryd.prog 12 #[.string s] w fun e w' => ∃ r, e = .returned (.tuple #[.agg #[r], .int .i64 (fitE (sval s.data.toList))]) ∧ D w' r (fitN (sval s.data.toList)) ∧ Below w.heap.size w w' := by
  have HI := Lib.hid (fun w => isNumeral_any s w (by omega))
  rw [hd] at HI
  have HR := Lib.hid (fun w => readNumeral_any s w (by have := isNum_pos hd; rw [len_data] at this; exact this) hs (isNum_digits hd))
  clear hd
  go_enter Tryd.func12, Tryd.ntmps12
  go_wp2_with fail
  refine (HI.out _).mono ?_
  rintro e w' ⟨rfl, rfl⟩
  go_wp2_with fail
  refine (HR.out _).mono ?_
  rintro e w5 ⟨r, rfl, hr, hb5⟩
  have d0 : w5.cell? ⟨w.heap.size, 0, none⟩ = some (.slice none 0 0) := (hb5.cell (p := ⟨w.heap.size, 0, none⟩) (by simp)).trans (World.cell?_alloc_at _ _ _ _ rfl)
  have g0 : w5.frozen? ⟨w.heap.size, 0, none⟩ = false := (hb5.frozen (p := ⟨w.heap.size, 0, none⟩) (by simp)).trans (World.frozen?_alloc_at _ _ _ _ rfl)
  have HBF := Lib.hid (((Below.refl w.heap.size w).alloc (Nat.le_refl _) (.cells #[.slice none 0 0] 26)).trans (hb5.mono (by simp)))
  obtain ⟨ro, rc, rfl, -⟩ := hr.shape
  have HR5 := Lib.hid hr; have D0 := Lib.hid d0
  clear hr hb5
  go_wp2
  refine bodyPost_ret (v := .tuple #[.agg #[.slice ro (nd 4294967296 (fitN (sval s.data.toList))) rc], .int .i64 (fitE (sval s.data.toList))]) (by simp [results, Tryd.results12, go_sem, d0]) rfl ⟨_, rfl, HR5.out.setCell D0.out (by intro d h; cases h) _, HBF.out.setCell (Nat.le_refl _) _⟩
end Go.Proofs.YtgidmlffjelpnaaDoor
