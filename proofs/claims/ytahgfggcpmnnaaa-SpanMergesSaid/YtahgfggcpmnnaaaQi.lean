/- The law's compare of a map with the document's. -/
import Derived.Test.YtahgfggcpmnnaaaQf
import Derived.Test.YtahgfggcpmnnaaaZk
namespace Go.Proofs.Ytahgfggcpmnnaaa
open Go Go.RowKit Gs

theorem Runs_full {f : Int → Int} {size : Int} {W : World} {p : Option Addr} {L : List R} (h : IsM f size W p) (hL : Gs.Can f 0 L size) :
    L.length ≤ 4096 ∧ Calls Try.prog 20 #[.agg #[.pointer p, .int .i64 size], .int .i64 0, .int .i64 size, .int .i64 1048576] W fun e w' => ∃ v, e = .returned (.tuple #[v, .int .i64 0]) ∧ Hid (IsRs W.heap.size w' v L) ∧ Below W.heap.size W w' := by
  have hs := h.lo
  obtain ⟨L', h4, h5, h6⟩ := Runs_any (most := 1048576) h (Int.le_refl 0) (by omega) (Int.le_refl size)
  have e := Gs.Can.same h4 hL
  subst e
  have e2 := Gs.Can.same (clip_can h4 (Int.le_refl 0) (by omega) (Int.le_refl size)) h4
  refine ⟨h5, h6.mono ?_⟩
  rintro e w' ⟨v, he, hr, hb⟩
  rw [e2] at hr
  have e1 : L'.take (1048576 : Int).toNat = L' := List.take_of_length_le (Nat.le_trans h5 (by decide))
  rw [e1] at hr
  exact ⟨v, he, IsRs.of_row hr.out, hb⟩
theorem Len_same {f : Int → Int} {size : Int} {W : World} {p : Option Addr} {L : List R} (h : IsM f size W p) (hL : Gs.Can f 0 L size) : Calls Try.prog 41 #[.agg #[.pointer p, .int .i64 size]] W fun e w' => e = .returned (.int .i64 L.length) ∧ Below W.heap.size W w' := by
  obtain ⟨L', h1, _, h2⟩ := Len_any (s := size) h.tr
  have e := Gs.Can.same h1 hL
  subst e
  exact h2
set_option maxHeartbeats 2000000 in
theorem same_ok {f : Int → Int} {size : Int} {W : World} {p : Option Addr} {B : Nat} {v : Value} {L : List R} (h : IsM f size W p) (hL : Gs.Can f 0 L size) (hr : IsRs B W v L) :
    Calls Try.prog 15 #[.agg #[.pointer p, .int .i64 size], .agg #[.int .i64 size, v]] W fun e w' => e = .returned (.bool true) ∧ Hid (Below W.heap.size W w') := by
  have HI := Lib.hid h; have HL := Lib.hid hL; have HRS := Lib.hid hr
  have hlen := (Runs_full h hL).1
  have hne : 0 < L.length := by
    rcases fits_cut hL.1 with ⟨_, e⟩ | ⟨r, k, rfl⟩
    · have := h.lo; omega
    · simp
  obtain ⟨a, c, rfl, -⟩ := hr
  obtain ⟨n, hn⟩ : ∃ n, n = L.length := ⟨_, rfl⟩
  rw [← hn] at HRS hne ⊢
  have HN := Lib.hid hn
  obtain ⟨w0, HW⟩ : ∃ w0, w0 = (W.alloc (.cells #[.pointer p, .int .i64 size] 27)).alloc (.cells #[.int .i64 size, .slice a n c] 33) := ⟨_, rfl⟩
  have hb : Below W.heap.size W w0 := by rw [HW]; exact ((Below.refl _ _).alloc (Nat.le_refl _) _).alloc (by simp) _
  have hm : Mb W.heap.size p size w0 := by rw [HW]; exact (Mb.new W p size 27).next ((Below.refl _ _).alloc (Nat.le_refl _) _)
  have hv : M2 (W.heap.size + 1) (.int .i64 size) (.slice a n c) w0 := by
    have := M2.new (W.alloc (.cells #[.pointer p, .int .i64 size] 27)) (.int .i64 size) (.slice a n c) 33
    rw [← HW, World.size_alloc] at this
    exact this
  have HB := Lib.hid hb; have HM := Lib.hid hm; have HV := Lib.hid hv; have HW' := Lib.hid HW
  have HSZ : Hid (∀ W', Below W.heap.size W W' → Calls Try.prog 40 #[.agg #[.pointer p, .int .i64 size]] W' fun e w' => e = .returned (.int .i64 size) ∧ Below W'.heap.size W' w') := fun W' _ => Size_any p size W'
  have HLN : Hid (∀ W', Below W.heap.size W W' → Calls Try.prog 41 #[.agg #[.pointer p, .int .i64 size]] W' fun e w' => e = .returned (.int .i64 n) ∧ Below W'.heap.size W' w') := fun W' h => by rw [HN.out]; exact Len_same (HI.out.below h) HL.out
  have HRN : Hid (∀ W', Below W.heap.size W W' → Calls Try.prog 20 #[.agg #[.pointer p, .int .i64 size], .int .i64 0, .int .i64 size, .int .i64 1048576] W' fun e w' => ∃ v, e = .returned (.tuple #[v, .int .i64 0]) ∧ Hid (IsRs W'.heap.size w' v L) ∧ Below W'.heap.size W' w') := fun W' h => (Runs_full (HI.out.below h) HL.out).2
  have HUS : Hid (∀ W', Calls Try.prog 42 #[.agg #[.int .i64 size, .slice a n c]] W' fun e w' => e = .returned (.bool true) ∧ Below W'.heap.size W' w') := fun W' => by
    have := RUsable_any size a n c W'
    rwa [decide_eq_true hne] at this
  have HLH := Lib.hid hlen
  clear h hL hlen hne hn hb hm hv HW
  have k0 := HM.out.c0; have k1 := HM.out.c1; have k2 := HV.out.c0; have k3 := HV.out.c1
  go_enter Try.func15, Try.ntmps15
  go_upto_region 1 with fail
  rw [← HW'.out]
  have HALL : Hid (∀ W', Below w0.heap.size w0 W' → W'.cell? ⟨W.heap.size, 0, none⟩ = some (.pointer p) ∧ W'.cell? ⟨W.heap.size, 1, none⟩ = some (.int .i64 size) ∧ W'.cell? ⟨W.heap.size + 1, 0, none⟩ = some (.int .i64 size) ∧ W'.cell? ⟨W.heap.size + 1, 1, none⟩ = some (.slice a n c)) := fun W' h => ⟨(HM.out.next h).c0, (HM.out.next h).c1, (HV.out.next h).c0, (HV.out.next h).c1⟩
  have HSZ2 : Hid (∀ W', Below w0.heap.size w0 W' → Calls Try.prog 40 #[.agg #[.pointer p, .int .i64 size]] W' fun e w' => e = .returned (.int .i64 size) ∧ Below w0.heap.size w0 w') := fun W' h => (HSZ.out W' (HB.out.trans (h.mono HB.out.size))).mono fun e w' ⟨he, hB⟩ => ⟨he, h.trans (hB.mono h.size)⟩
  have HLN2 : Hid (∀ W', Below w0.heap.size w0 W' → Calls Try.prog 41 #[.agg #[.pointer p, .int .i64 size]] W' fun e w' => e = .returned (.int .i64 n) ∧ Below w0.heap.size w0 w') := fun W' h => (HLN.out W' (HB.out.trans (h.mono HB.out.size))).mono fun e w' ⟨he, hB⟩ => ⟨he, h.trans (hB.mono h.size)⟩
  clear k0 k1 k2 k3
  have hs : Below w0.heap.size w0 w0 := Below.refl _ _
  have hs2 := hs.drew
  have hcl := HALL.out _ hs2
  have hc0 := HALL.out _ hs
  go_wp2_with fail
  go_region_held3 (fun W' : World => W'.cell? ⟨W.heap.size, 0, none⟩ = some (.pointer p) ∧ W'.cell? ⟨W.heap.size, 1, none⟩ = some (.int .i64 size) ∧ W'.cell? ⟨W.heap.size + 1, 0, none⟩ = some (.int .i64 size) ∧ W'.cell? ⟨W.heap.size + 1, 1, none⟩ = some (.slice a n c)) (first | assumption | fail) (first
    | (go_at_call 40; with_reducible refine (HSZ2.out _ ?h).mono ?_; (case h => assumption); rintro e w' ⟨rfl, hs1'⟩; have hc1' := HALL.out _ hs1')
    | (go_at_call 41; with_reducible refine (HLN2.out _ ?h).mono ?_; (case h => assumption); rintro e w' ⟨rfl, hs2'⟩; have hc2' := HALL.out _ hs2') | fail)
  have HRN2 : Hid (∀ W', Below w0.heap.size w0 W' → Calls Try.prog 20 #[.agg #[.pointer p, .int .i64 size], .int .i64 0, .int .i64 size, .int .i64 1048576] W' fun e w' => ∃ v, e = .returned (.tuple #[v, .int .i64 0]) ∧ Hid (∃ b, IsRs b w' v L) ∧ Below w0.heap.size w0 w') := fun W' h => (HRN.out W' (HB.out.trans (h.mono HB.out.size))).mono fun e w' ⟨v, he, hr, hB⟩ => ⟨v, he, ⟨_, hr.out⟩, h.trans (hB.mono h.size)⟩
  have HB1 := Lib.hid hs2'
  clear hs hs2 hcl hc0 hs1' hc1' hc2' hs2'
  have hs := HB1.out
  have hs2 := hs.drew
  have hcl := HALL.out _ hs2
  have hc0 := HALL.out _ hs
  go_wp2_with fail
  go_region_held3 (fun W' : World => W'.cell? ⟨W.heap.size, 0, none⟩ = some (.pointer p) ∧ W'.cell? ⟨W.heap.size, 1, none⟩ = some (.int .i64 size) ∧ W'.cell? ⟨W.heap.size + 1, 0, none⟩ = some (.int .i64 size) ∧ W'.cell? ⟨W.heap.size + 1, 1, none⟩ = some (.slice a n c)) (first | assumption | fail) (first
    | (go_at_call 40; with_reducible refine (HSZ2.out _ ?h).mono ?_; (case h => assumption); rintro e w' ⟨rfl, hs1'⟩; have hc1' := HALL.out _ hs1')
    | (go_at_call 20; with_reducible refine (HRN2.out _ ?h).mono ?_; (case h => assumption); rintro e w' ⟨v5, rfl, hr5, hs3'⟩; have hc2' := HALL.out _ hs3') | fail)
  have HB3 := Lib.hid hs3'
  obtain ⟨b5, h5⟩ := hr5.out
  have HR5 := Lib.hid h5
  obtain ⟨a5, c5, rfl, -⟩ := h5
  clear hs hs2 hcl hc0 hs1' hc1' hc2' hs3' hr5
  obtain ⟨k0, k1, k2, k3⟩ := HALL.out _ HB3.out
  have HRV : Hid (IsRs B w' (.slice a n c) L) := HRS.out.below (HB.out.trans (HB3.out.mono HB.out.size))
  go_wp2_with fail
  refine (HUS.out _).mono ?_
  rintro e w6 ⟨rfl, hb⟩
  have HB6 := Lib.hid (HB3.out.trans (hb.mono HB3.out.size))
  have HAK := Lib.hid (RAlike_same (HR5.out.below hb) (HRV.out.below hb) (Nat.le_trans HLH.out (by decide)))
  clear hb k0 k1 k2 k3
  obtain ⟨k0, k1, k2, k3⟩ := HALL.out _ HB6.out
  go_wp2_with fail
  refine HAK.out.mono ?_
  rintro e w7 ⟨rfl, hb⟩
  have HF : Hid (Below W.heap.size W w7) := HB.out.trans ((HB6.out.trans (hb.out.mono HB6.out.size)).mono HB.out.size)
  clear k0 k1 k2 k3
  go_wp2_with fail
  go_ret
  exact ⟨rfl, HF.out⟩
set_option maxHeartbeats 2000000 in
/-- both are unusable -/
theorem same_un (W : World) : Calls Try.prog 15 #[.agg #[.pointer none, .int .i64 0], .agg #[.int .i64 0, .slice none 0 0]] W fun e w' => e = .returned (.bool true) ∧ Hid (Below W.heap.size W w') := by
  obtain ⟨w0, HW⟩ : ∃ w0, w0 = (W.alloc (.cells #[.pointer none, .int .i64 0] 27)).alloc (.cells #[.int .i64 0, .slice none 0 0] 33) := ⟨_, rfl⟩
  have hb : Below W.heap.size W w0 := by rw [HW]; exact ((Below.refl _ _).alloc (Nat.le_refl _) _).alloc (by simp) _
  have hm : Mb W.heap.size none 0 w0 := by rw [HW]; exact (Mb.new W none 0 27).next ((Below.refl _ _).alloc (Nat.le_refl _) _)
  have hv : M2 (W.heap.size + 1) (.int .i64 0) (.slice none 0 0) w0 := by
    have := M2.new (W.alloc (.cells #[.pointer none, .int .i64 0] 27)) (.int .i64 0) (.slice none 0 0) 33
    rw [← HW, World.size_alloc] at this
    exact this
  have HB := Lib.hid hb; have HM := Lib.hid hm; have HV := Lib.hid hv; have HW' := Lib.hid HW
  have HUS : Hid (∀ W', Calls Try.prog 42 #[.agg #[.int .i64 0, .slice none 0 0]] W' fun e w' => e = .returned (.bool false) ∧ Below W'.heap.size W' w') := fun W' => RUsable_any 0 none 0 0 W'
  clear hb hm hv HW
  have HALL : Hid (∀ W', Below w0.heap.size w0 W' → W'.cell? ⟨W.heap.size, 0, none⟩ = some (.pointer none) ∧ W'.cell? ⟨W.heap.size, 1, none⟩ = some (.int .i64 0) ∧ W'.cell? ⟨W.heap.size + 1, 0, none⟩ = some (.int .i64 0) ∧ W'.cell? ⟨W.heap.size + 1, 1, none⟩ = some (.slice none 0 0)) := fun W' h => ⟨(HM.out.next h).c0, (HM.out.next h).c1, (HV.out.next h).c0, (HV.out.next h).c1⟩
  have HSZ2 : Hid (∀ W', Below w0.heap.size w0 W' → Calls Try.prog 40 #[.agg #[.pointer none, .int .i64 0]] W' fun e w' => e = .returned (.int .i64 0) ∧ Below w0.heap.size w0 w') := fun W' h => (Size_any none 0 W').mono fun e w' ⟨he, hB⟩ => ⟨he, h.trans (hB.mono h.size)⟩
  have HLN2 : Hid (∀ W', Below w0.heap.size w0 W' → Calls Try.prog 41 #[.agg #[.pointer none, .int .i64 0]] W' fun e w' => e = .returned (.int .i64 0) ∧ Below w0.heap.size w0 w') := fun W' h => (Len_un 0 W').mono fun e w' ⟨he, hB⟩ => ⟨he, h.trans (hB.mono h.size)⟩
  have HRN2 : Hid (∀ W', Below w0.heap.size w0 W' → Calls Try.prog 20 #[.agg #[.pointer none, .int .i64 0], .int .i64 0, .int .i64 0, .int .i64 1048576] W' fun e w' => e = .returned (.tuple #[.slice none 0 0, .int .i64 1]) ∧ Below w0.heap.size w0 w') := fun W' h => (Runs_un 0 0 0 1048576 W').mono fun e w' ⟨he, hB⟩ => ⟨he, h.trans (hB.mono h.size)⟩
  go_enter Try.func15, Try.ntmps15
  go_upto_region 1 with fail
  rw [← HW'.out]
  have hs : Below w0.heap.size w0 w0 := Below.refl _ _
  have hs2 := hs.drew
  have hcl := HALL.out _ hs2
  have hc0 := HALL.out _ hs
  go_wp2_with fail
  go_region_held3 (fun W' : World => W'.cell? ⟨W.heap.size, 0, none⟩ = some (.pointer none) ∧ W'.cell? ⟨W.heap.size, 1, none⟩ = some (.int .i64 0) ∧ W'.cell? ⟨W.heap.size + 1, 0, none⟩ = some (.int .i64 0) ∧ W'.cell? ⟨W.heap.size + 1, 1, none⟩ = some (.slice none 0 0)) (first | assumption | fail) (first
    | (go_at_call 40; with_reducible refine (HSZ2.out _ ?h).mono ?_; (case h => assumption); rintro e w' ⟨rfl, hs1'⟩; have hc1' := HALL.out _ hs1')
    | (go_at_call 41; with_reducible refine (HLN2.out _ ?h).mono ?_; (case h => assumption); rintro e w' ⟨rfl, hs2'⟩; have hc2' := HALL.out _ hs2') | fail)
  have HB1 := Lib.hid hs2'
  clear hs hs2 hcl hc0 hs1' hc1' hc2' hs2'
  have hs := HB1.out
  have hs2 := hs.drew
  have hcl := HALL.out _ hs2
  have hc0 := HALL.out _ hs
  go_wp2_with fail
  go_region_held3 (fun W' : World => W'.cell? ⟨W.heap.size, 0, none⟩ = some (.pointer none) ∧ W'.cell? ⟨W.heap.size, 1, none⟩ = some (.int .i64 0) ∧ W'.cell? ⟨W.heap.size + 1, 0, none⟩ = some (.int .i64 0) ∧ W'.cell? ⟨W.heap.size + 1, 1, none⟩ = some (.slice none 0 0)) (first | assumption | fail) (first
    | (go_at_call 40; with_reducible refine (HSZ2.out _ ?h).mono ?_; (case h => assumption); rintro e w' ⟨rfl, hs1'⟩; have hc1' := HALL.out _ hs1')
    | (go_at_call 20; with_reducible refine (HRN2.out _ ?h).mono ?_; (case h => assumption); rintro e w' ⟨rfl, hs3'⟩; have hc2' := HALL.out _ hs3') | fail)
  have HB3 := Lib.hid hs3'
  clear hs hs2 hcl hc0 hs1' hc1' hc2' hs3'
  obtain ⟨k0, k1, k2, k3⟩ := HALL.out _ HB3.out
  go_wp2_with fail
  refine (HUS.out _).mono ?_
  rintro e w6 ⟨rfl, hb⟩
  have HF : Hid (Below W.heap.size W w6) := HB.out.trans ((HB3.out.trans (hb.mono HB3.out.size)).mono HB.out.size)
  clear hb k0 k1 k2 k3
  go_wp2_with fail
  go_ret
  exact ⟨rfl, HF.out⟩
end Go.Proofs.Ytahgfggcpmnnaaa
