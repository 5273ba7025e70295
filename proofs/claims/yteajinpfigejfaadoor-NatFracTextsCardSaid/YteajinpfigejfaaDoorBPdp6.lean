/- Contracts and lemmas (several texts merged into one). -/
import Derived.Test.YteajinpfigejfaaDoorBPdp4
import Derived.Test.YteajinpfigejfaaDoorBPdp5
import Derived.Test.YteajinpfigejfaaDoorBPdp3
import Derived.Deep.RegionHeld3
import Derived.Deep.RegionLaw
import Derived.Deep.DeepMust
import Derived.Deep.DeepFit
namespace Go.Proofs.YteajinpfigejfaaDoor
open Go Go.RowKit Gu

theorem isNum_one : isNum [49] = true := by decide
theorem isNum_nil0 : isNum [48] = true := by decide
set_option maxHeartbeats 1000000 in
theorem PF_nA1 (s A B : ByteArray) (w : World) (he : Env w) (hcut : ∀ W, Calls Tryd.prog 30 #[.string s, .string ⟨#[47]⟩] W fun e w' => e = .returned (.tuple #[.string A, .string B, .bool false]) ∧ Below W.heap.size W w') (hA : A.size ≤ 5463) (_hB : B.size ≤ 5463) (nA : isNum A.data.toList = false) :
    Calls Tryd.prog 7 #[.string s] w fun e w' => e = .returned (.tuple #[.agg #[.slice none 0 0, .slice none 0 0], .int .i64 4]) ∧ Below w.heap.size w w' := by
  have HS0 := Lib.hid ((Kq.start he).boxed2 (.slice none 0 0) (.slice none 0 0) 26)
  have HCUT := Lib.hid hcut
  have HIA := Lib.hid (fun W => isNumeral_any A W (by omega))
  rw [nA] at HIA
  clear he hcut nA
  go_enter Tryd.func7, Tryd.ntmps7
  go_wp2_with fail
  refine (HCUT.out _).mono ?_
  rintro e w1 ⟨rfl, hb⟩
  have hs := HS0.out.next hb
  have HX1 := Lib.hid hb
  have d0 : (w1).cell? ⟨w.heap.size, 0, none⟩ = some (.slice none 0 0) := (HX1.out.cell (p := ⟨w.heap.size, 0, none⟩) (by simp)).trans (World.cell?_alloc_at _ _ _ _ rfl)
  have g0 : (w1).frozen? ⟨w.heap.size, 0, none⟩ = false := (HX1.out.frozen (p := ⟨w.heap.size, 0, none⟩) (by simp)).trans (World.frozen?_alloc_at _ _ _ _ rfl)
  have d1 : (w1).cell? ⟨w.heap.size, 1, none⟩ = some (.slice none 0 0) := (HX1.out.cell (p := ⟨w.heap.size, 1, none⟩) (by simp)).trans (World.cell?_alloc_at _ _ _ _ rfl)
  have g1 : (w1).frozen? ⟨w.heap.size, 1, none⟩ = false := (HX1.out.frozen (p := ⟨w.heap.size, 1, none⟩) (by simp)).trans (World.frozen?_alloc_at _ _ _ _ rfl)
  have HS1 := Lib.hid hs
  clear hs hb
  go_wp2_with fail
  refine (HIA.out _).mono ?_
  rintro e w2 ⟨rfl, rfl⟩
  obtain ⟨t0, t1⟩ := read_two d0 d1 (.slice none 0 0) (.slice none 0 0)
  have T0 := Lib.hid t0; have T1 := Lib.hid t1
  clear t0 t1
  go_wp2
  have t0 := T0.out; have t1 := T1.out
  refine bodyPost_ret (v := .tuple #[.agg #[.slice none 0 0, .slice none 0 0], .int .i64 4]) (by simp [results, Tryd.results7, go_sem, t0, t1]) rfl ⟨rfl, (HS1.out.bel.setCell (Nat.le_refl _) _).setCell (Nat.le_refl _) _⟩
set_option maxHeartbeats 1000000 in
theorem PF_nA2 (s A B : ByteArray) (w : World) (he : Env w) (hcut : ∀ W, Calls Tryd.prog 30 #[.string s, .string ⟨#[47]⟩] W fun e w' => e = .returned (.tuple #[.string A, .string B, .bool true]) ∧ Below W.heap.size W w') (hA : A.size ≤ 5463) (_hB : B.size ≤ 5463) (nA : isNum A.data.toList = false) :
    Calls Tryd.prog 7 #[.string s] w fun e w' => e = .returned (.tuple #[.agg #[.slice none 0 0, .slice none 0 0], .int .i64 4]) ∧ Below w.heap.size w w' := by
  have HS0 := Lib.hid ((Kq.start he).boxed2 (.slice none 0 0) (.slice none 0 0) 26)
  have HCUT := Lib.hid hcut
  have HIA := Lib.hid (fun W => isNumeral_any A W (by omega))
  rw [nA] at HIA
  clear he hcut nA
  go_enter Tryd.func7, Tryd.ntmps7
  go_wp2_with fail
  refine (HCUT.out _).mono ?_
  rintro e w1 ⟨rfl, hb⟩
  have hs := HS0.out.next hb
  have HX1 := Lib.hid hb
  have d0 : (w1).cell? ⟨w.heap.size, 0, none⟩ = some (.slice none 0 0) := (HX1.out.cell (p := ⟨w.heap.size, 0, none⟩) (by simp)).trans (World.cell?_alloc_at _ _ _ _ rfl)
  have g0 : (w1).frozen? ⟨w.heap.size, 0, none⟩ = false := (HX1.out.frozen (p := ⟨w.heap.size, 0, none⟩) (by simp)).trans (World.frozen?_alloc_at _ _ _ _ rfl)
  have d1 : (w1).cell? ⟨w.heap.size, 1, none⟩ = some (.slice none 0 0) := (HX1.out.cell (p := ⟨w.heap.size, 1, none⟩) (by simp)).trans (World.cell?_alloc_at _ _ _ _ rfl)
  have g1 : (w1).frozen? ⟨w.heap.size, 1, none⟩ = false := (HX1.out.frozen (p := ⟨w.heap.size, 1, none⟩) (by simp)).trans (World.frozen?_alloc_at _ _ _ _ rfl)
  have HS1 := Lib.hid hs
  clear hs hb
  go_wp2_with fail
  refine (HIA.out _).mono ?_
  rintro e w2 ⟨rfl, rfl⟩
  obtain ⟨t0, t1⟩ := read_two d0 d1 (.slice none 0 0) (.slice none 0 0)
  have T0 := Lib.hid t0; have T1 := Lib.hid t1
  clear t0 t1
  go_wp2
  have t0 := T0.out; have t1 := T1.out
  refine bodyPost_ret (v := .tuple #[.agg #[.slice none 0 0, .slice none 0 0], .int .i64 4]) (by simp [results, Tryd.results7, go_sem, t0, t1]) rfl ⟨rfl, (HS1.out.bel.setCell (Nat.le_refl _) _).setCell (Nat.le_refl _) _⟩
set_option maxHeartbeats 1000000 in
theorem PF_nB (s A B : ByteArray) (w : World) (he : Env w) (hcut : ∀ W, Calls Tryd.prog 30 #[.string s, .string ⟨#[47]⟩] W fun e w' => e = .returned (.tuple #[.string A, .string B, .bool true]) ∧ Below W.heap.size W w') (hA : A.size ≤ 5463) (_hB : B.size ≤ 5463) (nA : isNum A.data.toList = true) (nB : isNum B.data.toList = false) :
    Calls Tryd.prog 7 #[.string s] w fun e w' => e = .returned (.tuple #[.agg #[.slice none 0 0, .slice none 0 0], .int .i64 4]) ∧ Below w.heap.size w w' := by
  have HS0 := Lib.hid ((Kq.start he).boxed2 (.slice none 0 0) (.slice none 0 0) 26)
  have HCUT := Lib.hid hcut
  have HIA := Lib.hid (fun W => isNumeral_any A W (by omega))
  rw [nA] at HIA
  have HIB := Lib.hid (fun W => isNumeral_any B W (by omega))
  rw [nB] at HIB
  clear he hcut nA nB
  go_enter Tryd.func7, Tryd.ntmps7
  go_wp2_with fail
  refine (HCUT.out _).mono ?_
  rintro e w1 ⟨rfl, hb⟩
  have hs := HS0.out.next hb
  have HX1 := Lib.hid hb
  have d0 : (w1).cell? ⟨w.heap.size, 0, none⟩ = some (.slice none 0 0) := (HX1.out.cell (p := ⟨w.heap.size, 0, none⟩) (by simp)).trans (World.cell?_alloc_at _ _ _ _ rfl)
  have g0 : (w1).frozen? ⟨w.heap.size, 0, none⟩ = false := (HX1.out.frozen (p := ⟨w.heap.size, 0, none⟩) (by simp)).trans (World.frozen?_alloc_at _ _ _ _ rfl)
  have d1 : (w1).cell? ⟨w.heap.size, 1, none⟩ = some (.slice none 0 0) := (HX1.out.cell (p := ⟨w.heap.size, 1, none⟩) (by simp)).trans (World.cell?_alloc_at _ _ _ _ rfl)
  have g1 : (w1).frozen? ⟨w.heap.size, 1, none⟩ = false := (HX1.out.frozen (p := ⟨w.heap.size, 1, none⟩) (by simp)).trans (World.frozen?_alloc_at _ _ _ _ rfl)
  have HS1 := Lib.hid hs
  clear hs hb
  go_wp2_with fail
  refine (HIA.out _).mono ?_
  rintro e w2 ⟨rfl, rfl⟩
  go_wp2_with fail
  refine (HIB.out _).mono ?_
  rintro e w2 ⟨rfl, rfl⟩
  obtain ⟨t0, t1⟩ := read_two d0 d1 (.slice none 0 0) (.slice none 0 0)
  have T0 := Lib.hid t0; have T1 := Lib.hid t1
  clear t0 t1
  go_wp2
  have t0 := T0.out; have t1 := T1.out
  refine bodyPost_ret (v := .tuple #[.agg #[.slice none 0 0, .slice none 0 0], .int .i64 4]) (by simp [results, Tryd.results7, go_sem, t0, t1]) rfl ⟨rfl, (HS1.out.bel.setCell (Nat.le_refl _) _).setCell (Nat.le_refl _) _⟩
set_option maxHeartbeats 1000000 in
theorem PF_b0 (s A : ByteArray) (w : World) (he : Env w) (hcut : ∀ W, Calls Tryd.prog 30 #[.string s, .string ⟨#[47]⟩] W fun e w' => e = .returned (.tuple #[.string A, .string ⟨#[48]⟩, .bool true]) ∧ Below W.heap.size W w') (hA : A.size ≤ 5463) (nA : isNum A.data.toList = true) :
    Calls Tryd.prog 7 #[.string s] w fun e w' => e = .returned (.tuple #[.agg #[.slice none 0 0, .slice none 0 0], .int .i64 4]) ∧ Below w.heap.size w w' := by
  have HS0 := Lib.hid ((Kq.start he).boxed2 (.slice none 0 0) (.slice none 0 0) 26)
  have HCUT := Lib.hid hcut
  have HIA := Lib.hid (fun W => isNumeral_any A W (by omega))
  rw [nA] at HIA
  have HIB := Lib.hid (fun W => isNumeral_any (⟨#[48]⟩ : ByteArray) W (by decide))
  rw [show isNum (⟨#[48]⟩ : ByteArray).data.toList = true from by decide] at HIB
  clear he hcut nA
  go_enter Tryd.func7, Tryd.ntmps7
  go_wp2_with fail
  refine (HCUT.out _).mono ?_
  rintro e w1 ⟨rfl, hb⟩
  have hs := HS0.out.next hb
  have HX1 := Lib.hid hb
  have d0 : (w1).cell? ⟨w.heap.size, 0, none⟩ = some (.slice none 0 0) := (HX1.out.cell (p := ⟨w.heap.size, 0, none⟩) (by simp)).trans (World.cell?_alloc_at _ _ _ _ rfl)
  have g0 : (w1).frozen? ⟨w.heap.size, 0, none⟩ = false := (HX1.out.frozen (p := ⟨w.heap.size, 0, none⟩) (by simp)).trans (World.frozen?_alloc_at _ _ _ _ rfl)
  have d1 : (w1).cell? ⟨w.heap.size, 1, none⟩ = some (.slice none 0 0) := (HX1.out.cell (p := ⟨w.heap.size, 1, none⟩) (by simp)).trans (World.cell?_alloc_at _ _ _ _ rfl)
  have g1 : (w1).frozen? ⟨w.heap.size, 1, none⟩ = false := (HX1.out.frozen (p := ⟨w.heap.size, 1, none⟩) (by simp)).trans (World.frozen?_alloc_at _ _ _ _ rfl)
  have HS1 := Lib.hid hs
  clear hs hb
  go_wp2_with fail
  refine (HIA.out _).mono ?_
  rintro e w2 ⟨rfl, rfl⟩
  go_wp2_with fail
  refine (HIB.out _).mono ?_
  rintro e w2 ⟨rfl, rfl⟩
  obtain ⟨t0, t1⟩ := read_two d0 d1 (.slice none 0 0) (.slice none 0 0)
  have T0 := Lib.hid t0; have T1 := Lib.hid t1
  clear t0 t1
  go_wp2
  have t0 := T0.out; have t1 := T1.out
  refine bodyPost_ret (v := .tuple #[.agg #[.slice none 0 0, .slice none 0 0], .int .i64 4]) (by simp [results, Tryd.results7, go_sem, t0, t1]) rfl ⟨rfl, (HS1.out.bel.setCell (Nat.le_refl _) _).setCell (Nat.le_refl _) _⟩
set_option maxHeartbeats 1000000 in
theorem PF_b1 (s A : ByteArray) (w : World) (he : Env w) (hcut : ∀ W, Calls Tryd.prog 30 #[.string s, .string ⟨#[47]⟩] W fun e w' => e = .returned (.tuple #[.string A, .string ⟨#[49]⟩, .bool true]) ∧ Below W.heap.size W w') (hA : A.size ≤ 5463) (nA : isNum A.data.toList = true) :
    Calls Tryd.prog 7 #[.string s] w fun e w' => e = .returned (.tuple #[.agg #[.slice none 0 0, .slice none 0 0], .int .i64 4]) ∧ Below w.heap.size w w' := by
  have HS0 := Lib.hid ((Kq.start he).boxed2 (.slice none 0 0) (.slice none 0 0) 26)
  have HCUT := Lib.hid hcut
  have HIA := Lib.hid (fun W => isNumeral_any A W (by omega))
  rw [nA] at HIA
  have HIB := Lib.hid (fun W => isNumeral_any (⟨#[49]⟩ : ByteArray) W (by decide))
  rw [show isNum (⟨#[49]⟩ : ByteArray).data.toList = true from by decide] at HIB
  clear he hcut nA
  go_enter Tryd.func7, Tryd.ntmps7
  go_wp2_with fail
  refine (HCUT.out _).mono ?_
  rintro e w1 ⟨rfl, hb⟩
  have hs := HS0.out.next hb
  have HX1 := Lib.hid hb
  have d0 : (w1).cell? ⟨w.heap.size, 0, none⟩ = some (.slice none 0 0) := (HX1.out.cell (p := ⟨w.heap.size, 0, none⟩) (by simp)).trans (World.cell?_alloc_at _ _ _ _ rfl)
  have g0 : (w1).frozen? ⟨w.heap.size, 0, none⟩ = false := (HX1.out.frozen (p := ⟨w.heap.size, 0, none⟩) (by simp)).trans (World.frozen?_alloc_at _ _ _ _ rfl)
  have d1 : (w1).cell? ⟨w.heap.size, 1, none⟩ = some (.slice none 0 0) := (HX1.out.cell (p := ⟨w.heap.size, 1, none⟩) (by simp)).trans (World.cell?_alloc_at _ _ _ _ rfl)
  have g1 : (w1).frozen? ⟨w.heap.size, 1, none⟩ = false := (HX1.out.frozen (p := ⟨w.heap.size, 1, none⟩) (by simp)).trans (World.frozen?_alloc_at _ _ _ _ rfl)
  have HS1 := Lib.hid hs
  clear hs hb
  go_wp2_with fail
  refine (HIA.out _).mono ?_
  rintro e w2 ⟨rfl, rfl⟩
  go_wp2_with fail
  refine (HIB.out _).mono ?_
  rintro e w2 ⟨rfl, rfl⟩
  obtain ⟨t0, t1⟩ := read_two d0 d1 (.slice none 0 0) (.slice none 0 0)
  have T0 := Lib.hid t0; have T1 := Lib.hid t1
  clear t0 t1
  go_wp2
  have t0 := T0.out; have t1 := T1.out
  refine bodyPost_ret (v := .tuple #[.agg #[.slice none 0 0, .slice none 0 0], .int .i64 4]) (by simp [results, Tryd.results7, go_sem, t0, t1]) rfl ⟨rfl, (HS1.out.bel.setCell (Nat.le_refl _) _).setCell (Nat.le_refl _) _⟩
set_option maxHeartbeats 1000000 in
theorem PF_fA1 (s A B : ByteArray) (w : World) (he : Env w) (hcut : ∀ W, Calls Tryd.prog 30 #[.string s, .string ⟨#[47]⟩] W fun e w' => e = .returned (.tuple #[.string A, .string B, .bool false]) ∧ Below W.heap.size W w') (hA : A.size ≤ 5463) (_hB : B.size ≤ 5463) (nA : isNum A.data.toList = true) (fA : ¬ nd 2 (sval A.data.toList) ≤ 16384) :
    Calls Tryd.prog 7 #[.string s] w fun e w' => e = .returned (.tuple #[.agg #[.slice none 0 0, .slice none 0 0], .int .i64 3]) ∧ Below w.heap.size w w' := by
  have HS0 := Lib.hid ((Kq.start he).boxed2 (.slice none 0 0) (.slice none 0 0) 26)
  have HCUT := Lib.hid hcut
  have HIA := Lib.hid (fun W => isNumeral_any A W (by omega))
  rw [nA] at HIA
  have HRA := Lib.hid (fun W => readNumeral_any A W (by have := isNum_pos nA; rw [len_data] at this; exact this) hA (isNum_digits nA))
  have hnA : nd 4294967296 (sval A.data.toList) ≤ 5463 := Nat.le_trans (nd_sval (isNum_digits nA)) (by rw [len_data]; exact hA)
  rw [show fitE (sval A.data.toList) = 3 from if_neg fA, show fitN (sval A.data.toList) = 0 from if_neg fA] at HRA
  generalize sval A.data.toList = a at *
  clear he hcut nA fA hnA
  go_enter Tryd.func7, Tryd.ntmps7
  go_wp2_with fail
  refine (HCUT.out _).mono ?_
  rintro e w1 ⟨rfl, hb⟩
  have hs := HS0.out.next hb
  have HX1 := Lib.hid hb
  have d0 : (w1).cell? ⟨w.heap.size, 0, none⟩ = some (.slice none 0 0) := (HX1.out.cell (p := ⟨w.heap.size, 0, none⟩) (by simp)).trans (World.cell?_alloc_at _ _ _ _ rfl)
  have g0 : (w1).frozen? ⟨w.heap.size, 0, none⟩ = false := (HX1.out.frozen (p := ⟨w.heap.size, 0, none⟩) (by simp)).trans (World.frozen?_alloc_at _ _ _ _ rfl)
  have d1 : (w1).cell? ⟨w.heap.size, 1, none⟩ = some (.slice none 0 0) := (HX1.out.cell (p := ⟨w.heap.size, 1, none⟩) (by simp)).trans (World.cell?_alloc_at _ _ _ _ rfl)
  have g1 : (w1).frozen? ⟨w.heap.size, 1, none⟩ = false := (HX1.out.frozen (p := ⟨w.heap.size, 1, none⟩) (by simp)).trans (World.frozen?_alloc_at _ _ _ _ rfl)
  have HS1 := Lib.hid hs
  clear hs hb
  go_wp2_with fail
  refine (HIA.out _).mono ?_
  rintro e w2 ⟨rfl, rfl⟩
  go_wp2_with fail
  refine (HRA.out _).mono ?_
  rintro e w2 ⟨va, rfl, ha, hb⟩
  obtain ⟨ao, ac, rfl, -⟩ := ha.shape
  have hs := ((HS1.out.next hb).addNum ha).boxed (.slice ao (nd 4294967296 0) ac) 39
  clear d0 d1 g0 g1
  have HX2 := Lib.hid ((HX1.out.trans (hb.mono HX1.out.size)).alloc (Nat.le_trans HX1.out.size hb.size) (.cells #[.slice ao (nd 4294967296 0) ac] 39))
  have d0 : (w2.alloc (.cells #[.slice ao (nd 4294967296 0) ac] 39)).cell? ⟨w.heap.size, 0, none⟩ = some (.slice none 0 0) := (HX2.out.cell (p := ⟨w.heap.size, 0, none⟩) (by simp)).trans (World.cell?_alloc_at _ _ _ _ rfl)
  have g0 : (w2.alloc (.cells #[.slice ao (nd 4294967296 0) ac] 39)).frozen? ⟨w.heap.size, 0, none⟩ = false := (HX2.out.frozen (p := ⟨w.heap.size, 0, none⟩) (by simp)).trans (World.frozen?_alloc_at _ _ _ _ rfl)
  have d1 : (w2.alloc (.cells #[.slice ao (nd 4294967296 0) ac] 39)).cell? ⟨w.heap.size, 1, none⟩ = some (.slice none 0 0) := (HX2.out.cell (p := ⟨w.heap.size, 1, none⟩) (by simp)).trans (World.cell?_alloc_at _ _ _ _ rfl)
  have g1 : (w2.alloc (.cells #[.slice ao (nd 4294967296 0) ac] 39)).frozen? ⟨w.heap.size, 1, none⟩ = false := (HX2.out.frozen (p := ⟨w.heap.size, 1, none⟩) (by simp)).trans (World.frozen?_alloc_at _ _ _ _ rfl)
  have HS2 := Lib.hid hs
  clear hs hb ha
  obtain ⟨t0, t1⟩ := read_two d0 d1 (.slice none 0 0) (.slice none 0 0)
  have T0 := Lib.hid t0; have T1 := Lib.hid t1
  clear t0 t1
  go_wp2
  have t0 := T0.out; have t1 := T1.out
  refine bodyPost_ret (v := .tuple #[.agg #[.slice none 0 0, .slice none 0 0], .int .i64 3]) (by simp [results, Tryd.results7, go_sem, t0, t1]) rfl ⟨rfl, (HS2.out.bel.setCell (Nat.le_refl _) _).setCell (Nat.le_refl _) _⟩
set_option maxHeartbeats 1000000 in
theorem PF_ok1 (s A B : ByteArray) (w : World) (he : Env w) (hcut : ∀ W, Calls Tryd.prog 30 #[.string s, .string ⟨#[47]⟩] W fun e w' => e = .returned (.tuple #[.string A, .string B, .bool false]) ∧ Below W.heap.size W w') (hA : A.size ≤ 5463) (_hB : B.size ≤ 5463) (nA : isNum A.data.toList = true) (fA : nd 2 (sval A.data.toList) ≤ 16384) :
    Calls Tryd.prog 7 #[.string s] w fun e w' => ∃ r t, e = .returned (.tuple #[.agg #[r, t], .int .i64 0]) ∧ D w' r (sval A.data.toList) ∧ D w' t (1) ∧ Below w.heap.size w w' := by
  have HS0 := Lib.hid ((Kq.start he).boxed2 (.slice none 0 0) (.slice none 0 0) 26)
  have HCUT := Lib.hid hcut
  have HIA := Lib.hid (fun W => isNumeral_any A W (by omega))
  rw [nA] at HIA
  have HRA := Lib.hid (fun W => readNumeral_any A W (by have := isNum_pos nA; rw [len_data] at this; exact this) hA (isNum_digits nA))
  have hnA : nd 4294967296 (sval A.data.toList) ≤ 5463 := Nat.le_trans (nd_sval (isNum_digits nA)) (by rw [len_data]; exact hA)
  rw [show fitE (sval A.data.toList) = 0 from if_pos fA, show fitN (sval A.data.toList) = sval A.data.toList from if_pos fA] at HRA
  have HRB := Lib.hid (fun W => readNumeral_any ⟨#[49]⟩ W (by decide) (by decide) (by decide))
  rw [show sval (⟨#[49]⟩ : ByteArray).data.toList = 1 from by decide, show fitE 1 = 0 from if_pos (fit_ok (nd_le_self16 (by decide) |> fun h => Nat.le_trans h (by decide))), show fitN 1 = 1 from if_pos (fit_ok (nd_le_self16 (by decide) |> fun h => Nat.le_trans h (by decide)))] at HRB
  obtain ⟨N, hN⟩ : ∃ N, N = 6000 := ⟨_, rfl⟩
  have HDV := Lib.hid (divide_long N (by omega))
  have HG := Lib.hid (fun v u W (h1 : D W v (sval A.data.toList)) (h2 : D W u (1)) => gcd_any HDV.out v u _ _ W h1 h2 ((nd_le (by decide)).1 (by omega)) ((nd_le (by decide)).1 (by have := nd_small (n := 1) (by decide); omega)))
  have HO := Lib.hid (fun v W (h : D W v (Nat.gcd (sval A.data.toList) (1))) => isOne_any v _ W h)
  rw [Nat.gcd_one_right] at HG HO
  rw [show decide ((1 : Nat) = 1) = true from rfl] at HO
  generalize sval A.data.toList = a at *
  clear he hcut nA fA hnA hN HDV
  go_enter Tryd.func7, Tryd.ntmps7
  go_wp2_with fail
  refine (HCUT.out _).mono ?_
  rintro e w1 ⟨rfl, hb⟩
  have hs := HS0.out.next hb
  have HX1 := Lib.hid hb
  have d0 : (w1).cell? ⟨w.heap.size, 0, none⟩ = some (.slice none 0 0) := (HX1.out.cell (p := ⟨w.heap.size, 0, none⟩) (by simp)).trans (World.cell?_alloc_at _ _ _ _ rfl)
  have g0 : (w1).frozen? ⟨w.heap.size, 0, none⟩ = false := (HX1.out.frozen (p := ⟨w.heap.size, 0, none⟩) (by simp)).trans (World.frozen?_alloc_at _ _ _ _ rfl)
  have d1 : (w1).cell? ⟨w.heap.size, 1, none⟩ = some (.slice none 0 0) := (HX1.out.cell (p := ⟨w.heap.size, 1, none⟩) (by simp)).trans (World.cell?_alloc_at _ _ _ _ rfl)
  have g1 : (w1).frozen? ⟨w.heap.size, 1, none⟩ = false := (HX1.out.frozen (p := ⟨w.heap.size, 1, none⟩) (by simp)).trans (World.frozen?_alloc_at _ _ _ _ rfl)
  have HS1 := Lib.hid hs
  clear hs hb
  go_wp2_with fail
  refine (HIA.out _).mono ?_
  rintro e w2 ⟨rfl, rfl⟩
  go_wp2_with fail
  refine (HRA.out _).mono ?_
  rintro e w2 ⟨va, rfl, ha, hb⟩
  obtain ⟨ao, ac, rfl, -⟩ := ha.shape
  have hs := ((HS1.out.next hb).addNum ha).boxed (.slice ao (nd 4294967296 a) ac) 39
  clear d0 d1 g0 g1
  have HX2 := Lib.hid ((HX1.out.trans (hb.mono HX1.out.size)).alloc (Nat.le_trans HX1.out.size hb.size) (.cells #[.slice ao (nd 4294967296 a) ac] 39))
  have d0 : (w2.alloc (.cells #[.slice ao (nd 4294967296 a) ac] 39)).cell? ⟨w.heap.size, 0, none⟩ = some (.slice none 0 0) := (HX2.out.cell (p := ⟨w.heap.size, 0, none⟩) (by simp)).trans (World.cell?_alloc_at _ _ _ _ rfl)
  have g0 : (w2.alloc (.cells #[.slice ao (nd 4294967296 a) ac] 39)).frozen? ⟨w.heap.size, 0, none⟩ = false := (HX2.out.frozen (p := ⟨w.heap.size, 0, none⟩) (by simp)).trans (World.frozen?_alloc_at _ _ _ _ rfl)
  have d1 : (w2.alloc (.cells #[.slice ao (nd 4294967296 a) ac] 39)).cell? ⟨w.heap.size, 1, none⟩ = some (.slice none 0 0) := (HX2.out.cell (p := ⟨w.heap.size, 1, none⟩) (by simp)).trans (World.cell?_alloc_at _ _ _ _ rfl)
  have g1 : (w2.alloc (.cells #[.slice ao (nd 4294967296 a) ac] 39)).frozen? ⟨w.heap.size, 1, none⟩ = false := (HX2.out.frozen (p := ⟨w.heap.size, 1, none⟩) (by simp)).trans (World.frozen?_alloc_at _ _ _ _ rfl)
  have HS2 := Lib.hid hs
  clear hs hb ha
  clear d0 d1 g0 g1
  go_wp2_with fail
  refine (HRB.out _).mono ?_
  rintro e w3 ⟨vb, rfl, hbv, hb⟩
  obtain ⟨bo, bc, rfl, -⟩ := hbv.shape
  have hs := ((HS2.out.next hb).addNum hbv).boxed (.slice bo (nd 4294967296 1) bc) 39
  have HX3 := Lib.hid ((HX2.out.trans (hb.mono HX2.out.size)).alloc (Nat.le_trans HX2.out.size hb.size) (.cells #[.slice bo (nd 4294967296 1) bc] 39))
  have d0 : (w3.alloc (.cells #[.slice bo (nd 4294967296 1) bc] 39)).cell? ⟨w.heap.size, 0, none⟩ = some (.slice none 0 0) := (HX3.out.cell (p := ⟨w.heap.size, 0, none⟩) (by simp)).trans (World.cell?_alloc_at _ _ _ _ rfl)
  have g0 : (w3.alloc (.cells #[.slice bo (nd 4294967296 1) bc] 39)).frozen? ⟨w.heap.size, 0, none⟩ = false := (HX3.out.frozen (p := ⟨w.heap.size, 0, none⟩) (by simp)).trans (World.frozen?_alloc_at _ _ _ _ rfl)
  have d1 : (w3.alloc (.cells #[.slice bo (nd 4294967296 1) bc] 39)).cell? ⟨w.heap.size, 1, none⟩ = some (.slice none 0 0) := (HX3.out.cell (p := ⟨w.heap.size, 1, none⟩) (by simp)).trans (World.cell?_alloc_at _ _ _ _ rfl)
  have g1 : (w3.alloc (.cells #[.slice bo (nd 4294967296 1) bc] 39)).frozen? ⟨w.heap.size, 1, none⟩ = false := (HX3.out.frozen (p := ⟨w.heap.size, 1, none⟩) (by simp)).trans (World.frozen?_alloc_at _ _ _ _ rfl)
  have x0 := hs.cell (g := w2.heap.size) (o := 0) (.tail _ (.head _))
  have x1 := hs.cell (g := w3.heap.size) (o := 0) (.head _)
  have HS3 := Lib.hid hs
  clear hs hb hbv
  go_wp2_with fail
  refine (HG.out _ _ _ (HS3.out.num _ (.tail _ (.head _))) (HS3.out.num _ (.head _))).mono ?_
  rintro e w4 ⟨vg, rfl, hg, hb⟩
  have hs := HS3.out.next hb
  clear d0 d1 g0 g1 x0 x1
  have HX4 := Lib.hid (HX3.out.trans (hb.mono HX3.out.size))
  have d0 : (w4).cell? ⟨w.heap.size, 0, none⟩ = some (.slice none 0 0) := (HX4.out.cell (p := ⟨w.heap.size, 0, none⟩) (by simp)).trans (World.cell?_alloc_at _ _ _ _ rfl)
  have g0 : (w4).frozen? ⟨w.heap.size, 0, none⟩ = false := (HX4.out.frozen (p := ⟨w.heap.size, 0, none⟩) (by simp)).trans (World.frozen?_alloc_at _ _ _ _ rfl)
  have d1 : (w4).cell? ⟨w.heap.size, 1, none⟩ = some (.slice none 0 0) := (HX4.out.cell (p := ⟨w.heap.size, 1, none⟩) (by simp)).trans (World.cell?_alloc_at _ _ _ _ rfl)
  have g1 : (w4).frozen? ⟨w.heap.size, 1, none⟩ = false := (HX4.out.frozen (p := ⟨w.heap.size, 1, none⟩) (by simp)).trans (World.frozen?_alloc_at _ _ _ _ rfl)
  have x0 := hs.cell (g := w2.heap.size) (o := 0) (.tail _ (.head _))
  have x1 := hs.cell (g := w3.heap.size) (o := 0) (.head _)
  have HS4 := Lib.hid hs
  have HGG := Lib.hid hg
  clear hs hb hg
  go_wp2_with fail
  refine (HO.out _ _ HGG.out).mono ?_
  rintro e w5 ⟨rfl, rfl⟩
  obtain ⟨e1, e2, t0, t1, e3⟩ := two_store (w := w) (B := w.heap.size) (HS4.out.num _ (.tail _ (.head _))) (HS4.out.num _ (.head _)) d0 d1 HS4.out.bel (Nat.le_refl _)
  have E1 := Lib.hid e1; have E2 := Lib.hid e2; have E3 := Lib.hid e3; have T0 := Lib.hid t0; have T1 := Lib.hid t1
  clear e1 e2 e3 t0 t1
  go_wp2
  have t0 := T0.out; have t1 := T1.out
  refine bodyPost_ret (v := .tuple #[.agg #[.slice ao (nd 4294967296 a) ac, .slice bo (nd 4294967296 1) bc], .int .i64 0]) (by simp [results, Tryd.results7, go_sem, t0, t1]) rfl ⟨_, _, rfl, E1.out, E2.out, E3.out⟩
set_option maxHeartbeats 1000000 in
theorem PF_fA2 (s A B : ByteArray) (w : World) (he : Env w) (hcut : ∀ W, Calls Tryd.prog 30 #[.string s, .string ⟨#[47]⟩] W fun e w' => e = .returned (.tuple #[.string A, .string B, .bool true]) ∧ Below W.heap.size W w') (hA : A.size ≤ 5463) (_hB : B.size ≤ 5463) (nA : isNum A.data.toList = true) (nB : isNum B.data.toList = true) (b0 : B ≠ ⟨#[48]⟩) (b1 : B ≠ ⟨#[49]⟩) (fA : ¬ nd 2 (sval A.data.toList) ≤ 16384) :
    Calls Tryd.prog 7 #[.string s] w fun e w' => e = .returned (.tuple #[.agg #[.slice none 0 0, .slice none 0 0], .int .i64 3]) ∧ Below w.heap.size w w' := by
  have HS0 := Lib.hid ((Kq.start he).boxed2 (.slice none 0 0) (.slice none 0 0) 26)
  have HCUT := Lib.hid hcut
  have HIA := Lib.hid (fun W => isNumeral_any A W (by omega))
  rw [nA] at HIA
  have HIB := Lib.hid (fun W => isNumeral_any B W (by omega))
  rw [nB] at HIB
  have HRA := Lib.hid (fun W => readNumeral_any A W (by have := isNum_pos nA; rw [len_data] at this; exact this) hA (isNum_digits nA))
  have hnA : nd 4294967296 (sval A.data.toList) ≤ 5463 := Nat.le_trans (nd_sval (isNum_digits nA)) (by rw [len_data]; exact hA)
  rw [show fitE (sval A.data.toList) = 3 from if_neg fA, show fitN (sval A.data.toList) = 0 from if_neg fA] at HRA
  have n0 : (B.toList == [48]) = false := by rw [← toList_one]; exact toList_ne b0
  have n1 : (B.toList == [49]) = false := by rw [← toList_one]; exact toList_ne b1
  generalize sval A.data.toList = a at *
  clear he hcut nA nB fA b0 b1 hnA
  go_enter Tryd.func7, Tryd.ntmps7
  go_wp2_with fail
  refine (HCUT.out _).mono ?_
  rintro e w1 ⟨rfl, hb⟩
  have hs := HS0.out.next hb
  have HX1 := Lib.hid hb
  have d0 : (w1).cell? ⟨w.heap.size, 0, none⟩ = some (.slice none 0 0) := (HX1.out.cell (p := ⟨w.heap.size, 0, none⟩) (by simp)).trans (World.cell?_alloc_at _ _ _ _ rfl)
  have g0 : (w1).frozen? ⟨w.heap.size, 0, none⟩ = false := (HX1.out.frozen (p := ⟨w.heap.size, 0, none⟩) (by simp)).trans (World.frozen?_alloc_at _ _ _ _ rfl)
  have d1 : (w1).cell? ⟨w.heap.size, 1, none⟩ = some (.slice none 0 0) := (HX1.out.cell (p := ⟨w.heap.size, 1, none⟩) (by simp)).trans (World.cell?_alloc_at _ _ _ _ rfl)
  have g1 : (w1).frozen? ⟨w.heap.size, 1, none⟩ = false := (HX1.out.frozen (p := ⟨w.heap.size, 1, none⟩) (by simp)).trans (World.frozen?_alloc_at _ _ _ _ rfl)
  have HS1 := Lib.hid hs
  clear hs hb
  go_wp2_with fail
  refine (HIA.out _).mono ?_
  rintro e w2 ⟨rfl, rfl⟩
  go_wp2_with fail
  refine (HIB.out _).mono ?_
  rintro e w2 ⟨rfl, rfl⟩
  go_wp2_with fail
  refine (HRA.out _).mono ?_
  rintro e w2 ⟨va, rfl, ha, hb⟩
  obtain ⟨ao, ac, rfl, -⟩ := ha.shape
  have hs := ((HS1.out.next hb).addNum ha).boxed (.slice ao (nd 4294967296 0) ac) 39
  clear d0 d1 g0 g1
  have HX2 := Lib.hid ((HX1.out.trans (hb.mono HX1.out.size)).alloc (Nat.le_trans HX1.out.size hb.size) (.cells #[.slice ao (nd 4294967296 0) ac] 39))
  have d0 : (w2.alloc (.cells #[.slice ao (nd 4294967296 0) ac] 39)).cell? ⟨w.heap.size, 0, none⟩ = some (.slice none 0 0) := (HX2.out.cell (p := ⟨w.heap.size, 0, none⟩) (by simp)).trans (World.cell?_alloc_at _ _ _ _ rfl)
  have g0 : (w2.alloc (.cells #[.slice ao (nd 4294967296 0) ac] 39)).frozen? ⟨w.heap.size, 0, none⟩ = false := (HX2.out.frozen (p := ⟨w.heap.size, 0, none⟩) (by simp)).trans (World.frozen?_alloc_at _ _ _ _ rfl)
  have d1 : (w2.alloc (.cells #[.slice ao (nd 4294967296 0) ac] 39)).cell? ⟨w.heap.size, 1, none⟩ = some (.slice none 0 0) := (HX2.out.cell (p := ⟨w.heap.size, 1, none⟩) (by simp)).trans (World.cell?_alloc_at _ _ _ _ rfl)
  have g1 : (w2.alloc (.cells #[.slice ao (nd 4294967296 0) ac] 39)).frozen? ⟨w.heap.size, 1, none⟩ = false := (HX2.out.frozen (p := ⟨w.heap.size, 1, none⟩) (by simp)).trans (World.frozen?_alloc_at _ _ _ _ rfl)
  have HS2 := Lib.hid hs
  clear hs hb ha
  obtain ⟨t0, t1⟩ := read_two d0 d1 (.slice none 0 0) (.slice none 0 0)
  have T0 := Lib.hid t0; have T1 := Lib.hid t1
  clear t0 t1
  go_wp2
  have t0 := T0.out; have t1 := T1.out
  refine bodyPost_ret (v := .tuple #[.agg #[.slice none 0 0, .slice none 0 0], .int .i64 3]) (by simp [results, Tryd.results7, go_sem, t0, t1]) rfl ⟨rfl, (HS2.out.bel.setCell (Nat.le_refl _) _).setCell (Nat.le_refl _) _⟩
set_option maxHeartbeats 1000000 in
theorem PF_fB (s A B : ByteArray) (w : World) (he : Env w) (hcut : ∀ W, Calls Tryd.prog 30 #[.string s, .string ⟨#[47]⟩] W fun e w' => e = .returned (.tuple #[.string A, .string B, .bool true]) ∧ Below W.heap.size W w') (hA : A.size ≤ 5463) (_hB : B.size ≤ 5463) (nA : isNum A.data.toList = true) (nB : isNum B.data.toList = true) (b0 : B ≠ ⟨#[48]⟩) (b1 : B ≠ ⟨#[49]⟩) (fA : nd 2 (sval A.data.toList) ≤ 16384) (fB : ¬ nd 2 (sval B.data.toList) ≤ 16384) :
    Calls Tryd.prog 7 #[.string s] w fun e w' => e = .returned (.tuple #[.agg #[.slice none 0 0, .slice none 0 0], .int .i64 3]) ∧ Below w.heap.size w w' := by
  have HS0 := Lib.hid ((Kq.start he).boxed2 (.slice none 0 0) (.slice none 0 0) 26)
  have HCUT := Lib.hid hcut
  have HIA := Lib.hid (fun W => isNumeral_any A W (by omega))
  rw [nA] at HIA
  have HIB := Lib.hid (fun W => isNumeral_any B W (by omega))
  rw [nB] at HIB
  have HRA := Lib.hid (fun W => readNumeral_any A W (by have := isNum_pos nA; rw [len_data] at this; exact this) hA (isNum_digits nA))
  have hnA : nd 4294967296 (sval A.data.toList) ≤ 5463 := Nat.le_trans (nd_sval (isNum_digits nA)) (by rw [len_data]; exact hA)
  rw [show fitE (sval A.data.toList) = 0 from if_pos fA, show fitN (sval A.data.toList) = sval A.data.toList from if_pos fA] at HRA
  have HRB := Lib.hid (fun W => readNumeral_any B W (by have := isNum_pos nB; rw [len_data] at this; exact this) _hB (isNum_digits nB))
  have hnB : nd 4294967296 (sval B.data.toList) ≤ 5463 := Nat.le_trans (nd_sval (isNum_digits nB)) (by rw [len_data]; exact _hB)
  rw [show fitE (sval B.data.toList) = 3 from if_neg fB, show fitN (sval B.data.toList) = 0 from if_neg fB] at HRB
  have n0 : (B.toList == [48]) = false := by rw [← toList_one]; exact toList_ne b0
  have n1 : (B.toList == [49]) = false := by rw [← toList_one]; exact toList_ne b1
  generalize sval A.data.toList = a at *
  generalize sval B.data.toList = b at *
  clear he hcut nA nB fA fB b0 b1 hnA hnB
  go_enter Tryd.func7, Tryd.ntmps7
  go_wp2_with fail
  refine (HCUT.out _).mono ?_
  rintro e w1 ⟨rfl, hb⟩
  have hs := HS0.out.next hb
  have HX1 := Lib.hid hb
  have d0 : (w1).cell? ⟨w.heap.size, 0, none⟩ = some (.slice none 0 0) := (HX1.out.cell (p := ⟨w.heap.size, 0, none⟩) (by simp)).trans (World.cell?_alloc_at _ _ _ _ rfl)
  have g0 : (w1).frozen? ⟨w.heap.size, 0, none⟩ = false := (HX1.out.frozen (p := ⟨w.heap.size, 0, none⟩) (by simp)).trans (World.frozen?_alloc_at _ _ _ _ rfl)
  have d1 : (w1).cell? ⟨w.heap.size, 1, none⟩ = some (.slice none 0 0) := (HX1.out.cell (p := ⟨w.heap.size, 1, none⟩) (by simp)).trans (World.cell?_alloc_at _ _ _ _ rfl)
  have g1 : (w1).frozen? ⟨w.heap.size, 1, none⟩ = false := (HX1.out.frozen (p := ⟨w.heap.size, 1, none⟩) (by simp)).trans (World.frozen?_alloc_at _ _ _ _ rfl)
  have HS1 := Lib.hid hs
  clear hs hb
  go_wp2_with fail
  refine (HIA.out _).mono ?_
  rintro e w2 ⟨rfl, rfl⟩
  go_wp2_with fail
  refine (HIB.out _).mono ?_
  rintro e w2 ⟨rfl, rfl⟩
  go_wp2_with fail
  refine (HRA.out _).mono ?_
  rintro e w2 ⟨va, rfl, ha, hb⟩
  obtain ⟨ao, ac, rfl, -⟩ := ha.shape
  have hs := ((HS1.out.next hb).addNum ha).boxed (.slice ao (nd 4294967296 a) ac) 39
  clear d0 d1 g0 g1
  have HX2 := Lib.hid ((HX1.out.trans (hb.mono HX1.out.size)).alloc (Nat.le_trans HX1.out.size hb.size) (.cells #[.slice ao (nd 4294967296 a) ac] 39))
  have d0 : (w2.alloc (.cells #[.slice ao (nd 4294967296 a) ac] 39)).cell? ⟨w.heap.size, 0, none⟩ = some (.slice none 0 0) := (HX2.out.cell (p := ⟨w.heap.size, 0, none⟩) (by simp)).trans (World.cell?_alloc_at _ _ _ _ rfl)
  have g0 : (w2.alloc (.cells #[.slice ao (nd 4294967296 a) ac] 39)).frozen? ⟨w.heap.size, 0, none⟩ = false := (HX2.out.frozen (p := ⟨w.heap.size, 0, none⟩) (by simp)).trans (World.frozen?_alloc_at _ _ _ _ rfl)
  have d1 : (w2.alloc (.cells #[.slice ao (nd 4294967296 a) ac] 39)).cell? ⟨w.heap.size, 1, none⟩ = some (.slice none 0 0) := (HX2.out.cell (p := ⟨w.heap.size, 1, none⟩) (by simp)).trans (World.cell?_alloc_at _ _ _ _ rfl)
  have g1 : (w2.alloc (.cells #[.slice ao (nd 4294967296 a) ac] 39)).frozen? ⟨w.heap.size, 1, none⟩ = false := (HX2.out.frozen (p := ⟨w.heap.size, 1, none⟩) (by simp)).trans (World.frozen?_alloc_at _ _ _ _ rfl)
  have HS2 := Lib.hid hs
  clear hs hb ha
  clear d0 d1 g0 g1
  go_wp2_with fail
  refine (HRB.out _).mono ?_
  rintro e w3 ⟨vb, rfl, hbv, hb⟩
  obtain ⟨bo, bc, rfl, -⟩ := hbv.shape
  have hs := ((HS2.out.next hb).addNum hbv).boxed (.slice bo (nd 4294967296 0) bc) 39
  have HX3 := Lib.hid ((HX2.out.trans (hb.mono HX2.out.size)).alloc (Nat.le_trans HX2.out.size hb.size) (.cells #[.slice bo (nd 4294967296 0) bc] 39))
  have d0 : (w3.alloc (.cells #[.slice bo (nd 4294967296 0) bc] 39)).cell? ⟨w.heap.size, 0, none⟩ = some (.slice none 0 0) := (HX3.out.cell (p := ⟨w.heap.size, 0, none⟩) (by simp)).trans (World.cell?_alloc_at _ _ _ _ rfl)
  have g0 : (w3.alloc (.cells #[.slice bo (nd 4294967296 0) bc] 39)).frozen? ⟨w.heap.size, 0, none⟩ = false := (HX3.out.frozen (p := ⟨w.heap.size, 0, none⟩) (by simp)).trans (World.frozen?_alloc_at _ _ _ _ rfl)
  have d1 : (w3.alloc (.cells #[.slice bo (nd 4294967296 0) bc] 39)).cell? ⟨w.heap.size, 1, none⟩ = some (.slice none 0 0) := (HX3.out.cell (p := ⟨w.heap.size, 1, none⟩) (by simp)).trans (World.cell?_alloc_at _ _ _ _ rfl)
  have g1 : (w3.alloc (.cells #[.slice bo (nd 4294967296 0) bc] 39)).frozen? ⟨w.heap.size, 1, none⟩ = false := (HX3.out.frozen (p := ⟨w.heap.size, 1, none⟩) (by simp)).trans (World.frozen?_alloc_at _ _ _ _ rfl)
  have x0 := hs.cell (g := w2.heap.size) (o := 0) (.tail _ (.head _))
  have x1 := hs.cell (g := w3.heap.size) (o := 0) (.head _)
  have HS3 := Lib.hid hs
  clear hs hb hbv
  obtain ⟨t0, t1⟩ := read_two d0 d1 (.slice none 0 0) (.slice none 0 0)
  have T0 := Lib.hid t0; have T1 := Lib.hid t1
  clear t0 t1
  go_wp2
  have t0 := T0.out; have t1 := T1.out
  refine bodyPost_ret (v := .tuple #[.agg #[.slice none 0 0, .slice none 0 0], .int .i64 3]) (by simp [results, Tryd.results7, go_sem, t0, t1]) rfl ⟨rfl, (HS3.out.bel.setCell (Nat.le_refl _) _).setCell (Nat.le_refl _) _⟩
set_option maxHeartbeats 1000000 in
theorem PF_g (s A B : ByteArray) (w : World) (he : Env w) (hcut : ∀ W, Calls Tryd.prog 30 #[.string s, .string ⟨#[47]⟩] W fun e w' => e = .returned (.tuple #[.string A, .string B, .bool true]) ∧ Below W.heap.size W w') (hA : A.size ≤ 5463) (_hB : B.size ≤ 5463) (nA : isNum A.data.toList = true) (nB : isNum B.data.toList = true) (b0 : B ≠ ⟨#[48]⟩) (b1 : B ≠ ⟨#[49]⟩) (fA : nd 2 (sval A.data.toList) ≤ 16384) (fB : nd 2 (sval B.data.toList) ≤ 16384) (gg : Nat.gcd (sval A.data.toList) (sval B.data.toList) ≠ 1) :
    Calls Tryd.prog 7 #[.string s] w fun e w' => e = .returned (.tuple #[.agg #[.slice none 0 0, .slice none 0 0], .int .i64 4]) ∧ Below w.heap.size w w' := by
  have HS0 := Lib.hid ((Kq.start he).boxed2 (.slice none 0 0) (.slice none 0 0) 26)
  have HCUT := Lib.hid hcut
  have HIA := Lib.hid (fun W => isNumeral_any A W (by omega))
  rw [nA] at HIA
  have HIB := Lib.hid (fun W => isNumeral_any B W (by omega))
  rw [nB] at HIB
  have HRA := Lib.hid (fun W => readNumeral_any A W (by have := isNum_pos nA; rw [len_data] at this; exact this) hA (isNum_digits nA))
  have hnA : nd 4294967296 (sval A.data.toList) ≤ 5463 := Nat.le_trans (nd_sval (isNum_digits nA)) (by rw [len_data]; exact hA)
  rw [show fitE (sval A.data.toList) = 0 from if_pos fA, show fitN (sval A.data.toList) = sval A.data.toList from if_pos fA] at HRA
  have HRB := Lib.hid (fun W => readNumeral_any B W (by have := isNum_pos nB; rw [len_data] at this; exact this) _hB (isNum_digits nB))
  have hnB : nd 4294967296 (sval B.data.toList) ≤ 5463 := Nat.le_trans (nd_sval (isNum_digits nB)) (by rw [len_data]; exact _hB)
  rw [show fitE (sval B.data.toList) = 0 from if_pos fB, show fitN (sval B.data.toList) = sval B.data.toList from if_pos fB] at HRB
  have n0 : (B.toList == [48]) = false := by rw [← toList_one]; exact toList_ne b0
  have n1 : (B.toList == [49]) = false := by rw [← toList_one]; exact toList_ne b1
  obtain ⟨N, hN⟩ : ∃ N, N = 6000 := ⟨_, rfl⟩
  have HDV := Lib.hid (divide_long N (by omega))
  have HG := Lib.hid (fun v u W (h1 : D W v (sval A.data.toList)) (h2 : D W u (sval B.data.toList)) => gcd_any HDV.out v u _ _ W h1 h2 ((nd_le (by decide)).1 (by omega)) ((nd_le (by decide)).1 (by omega)))
  have HO := Lib.hid (fun v W (h : D W v (Nat.gcd (sval A.data.toList) (sval B.data.toList))) => isOne_any v _ W h)
  rw [decide_eq_false gg] at HO
  generalize Nat.gcd (sval A.data.toList) (sval B.data.toList) = G at *
  generalize sval A.data.toList = a at *
  generalize sval B.data.toList = b at *
  clear he hcut nA nB fA fB gg b0 b1 hnA hnB hN HDV
  go_enter Tryd.func7, Tryd.ntmps7
  go_wp2_with fail
  refine (HCUT.out _).mono ?_
  rintro e w1 ⟨rfl, hb⟩
  have hs := HS0.out.next hb
  have HX1 := Lib.hid hb
  have d0 : (w1).cell? ⟨w.heap.size, 0, none⟩ = some (.slice none 0 0) := (HX1.out.cell (p := ⟨w.heap.size, 0, none⟩) (by simp)).trans (World.cell?_alloc_at _ _ _ _ rfl)
  have g0 : (w1).frozen? ⟨w.heap.size, 0, none⟩ = false := (HX1.out.frozen (p := ⟨w.heap.size, 0, none⟩) (by simp)).trans (World.frozen?_alloc_at _ _ _ _ rfl)
  have d1 : (w1).cell? ⟨w.heap.size, 1, none⟩ = some (.slice none 0 0) := (HX1.out.cell (p := ⟨w.heap.size, 1, none⟩) (by simp)).trans (World.cell?_alloc_at _ _ _ _ rfl)
  have g1 : (w1).frozen? ⟨w.heap.size, 1, none⟩ = false := (HX1.out.frozen (p := ⟨w.heap.size, 1, none⟩) (by simp)).trans (World.frozen?_alloc_at _ _ _ _ rfl)
  have HS1 := Lib.hid hs
  clear hs hb
  go_wp2_with fail
  refine (HIA.out _).mono ?_
  rintro e w2 ⟨rfl, rfl⟩
  go_wp2_with fail
  refine (HIB.out _).mono ?_
  rintro e w2 ⟨rfl, rfl⟩
  go_wp2_with fail
  refine (HRA.out _).mono ?_
  rintro e w2 ⟨va, rfl, ha, hb⟩
  obtain ⟨ao, ac, rfl, -⟩ := ha.shape
  have hs := ((HS1.out.next hb).addNum ha).boxed (.slice ao (nd 4294967296 a) ac) 39
  clear d0 d1 g0 g1
  have HX2 := Lib.hid ((HX1.out.trans (hb.mono HX1.out.size)).alloc (Nat.le_trans HX1.out.size hb.size) (.cells #[.slice ao (nd 4294967296 a) ac] 39))
  have d0 : (w2.alloc (.cells #[.slice ao (nd 4294967296 a) ac] 39)).cell? ⟨w.heap.size, 0, none⟩ = some (.slice none 0 0) := (HX2.out.cell (p := ⟨w.heap.size, 0, none⟩) (by simp)).trans (World.cell?_alloc_at _ _ _ _ rfl)
  have g0 : (w2.alloc (.cells #[.slice ao (nd 4294967296 a) ac] 39)).frozen? ⟨w.heap.size, 0, none⟩ = false := (HX2.out.frozen (p := ⟨w.heap.size, 0, none⟩) (by simp)).trans (World.frozen?_alloc_at _ _ _ _ rfl)
  have d1 : (w2.alloc (.cells #[.slice ao (nd 4294967296 a) ac] 39)).cell? ⟨w.heap.size, 1, none⟩ = some (.slice none 0 0) := (HX2.out.cell (p := ⟨w.heap.size, 1, none⟩) (by simp)).trans (World.cell?_alloc_at _ _ _ _ rfl)
  have g1 : (w2.alloc (.cells #[.slice ao (nd 4294967296 a) ac] 39)).frozen? ⟨w.heap.size, 1, none⟩ = false := (HX2.out.frozen (p := ⟨w.heap.size, 1, none⟩) (by simp)).trans (World.frozen?_alloc_at _ _ _ _ rfl)
  have HS2 := Lib.hid hs
  clear hs hb ha
  clear d0 d1 g0 g1
  go_wp2_with fail
  refine (HRB.out _).mono ?_
  rintro e w3 ⟨vb, rfl, hbv, hb⟩
  obtain ⟨bo, bc, rfl, -⟩ := hbv.shape
  have hs := ((HS2.out.next hb).addNum hbv).boxed (.slice bo (nd 4294967296 b) bc) 39
  have HX3 := Lib.hid ((HX2.out.trans (hb.mono HX2.out.size)).alloc (Nat.le_trans HX2.out.size hb.size) (.cells #[.slice bo (nd 4294967296 b) bc] 39))
  have d0 : (w3.alloc (.cells #[.slice bo (nd 4294967296 b) bc] 39)).cell? ⟨w.heap.size, 0, none⟩ = some (.slice none 0 0) := (HX3.out.cell (p := ⟨w.heap.size, 0, none⟩) (by simp)).trans (World.cell?_alloc_at _ _ _ _ rfl)
  have g0 : (w3.alloc (.cells #[.slice bo (nd 4294967296 b) bc] 39)).frozen? ⟨w.heap.size, 0, none⟩ = false := (HX3.out.frozen (p := ⟨w.heap.size, 0, none⟩) (by simp)).trans (World.frozen?_alloc_at _ _ _ _ rfl)
  have d1 : (w3.alloc (.cells #[.slice bo (nd 4294967296 b) bc] 39)).cell? ⟨w.heap.size, 1, none⟩ = some (.slice none 0 0) := (HX3.out.cell (p := ⟨w.heap.size, 1, none⟩) (by simp)).trans (World.cell?_alloc_at _ _ _ _ rfl)
  have g1 : (w3.alloc (.cells #[.slice bo (nd 4294967296 b) bc] 39)).frozen? ⟨w.heap.size, 1, none⟩ = false := (HX3.out.frozen (p := ⟨w.heap.size, 1, none⟩) (by simp)).trans (World.frozen?_alloc_at _ _ _ _ rfl)
  have x0 := hs.cell (g := w2.heap.size) (o := 0) (.tail _ (.head _))
  have x1 := hs.cell (g := w3.heap.size) (o := 0) (.head _)
  have HS3 := Lib.hid hs
  clear hs hb hbv
  go_wp2_with fail
  refine (HG.out _ _ _ (HS3.out.num _ (.tail _ (.head _))) (HS3.out.num _ (.head _))).mono ?_
  rintro e w4 ⟨vg, rfl, hg, hb⟩
  have hs := HS3.out.next hb
  clear d0 d1 g0 g1 x0 x1
  have HX4 := Lib.hid (HX3.out.trans (hb.mono HX3.out.size))
  have d0 : (w4).cell? ⟨w.heap.size, 0, none⟩ = some (.slice none 0 0) := (HX4.out.cell (p := ⟨w.heap.size, 0, none⟩) (by simp)).trans (World.cell?_alloc_at _ _ _ _ rfl)
  have g0 : (w4).frozen? ⟨w.heap.size, 0, none⟩ = false := (HX4.out.frozen (p := ⟨w.heap.size, 0, none⟩) (by simp)).trans (World.frozen?_alloc_at _ _ _ _ rfl)
  have d1 : (w4).cell? ⟨w.heap.size, 1, none⟩ = some (.slice none 0 0) := (HX4.out.cell (p := ⟨w.heap.size, 1, none⟩) (by simp)).trans (World.cell?_alloc_at _ _ _ _ rfl)
  have g1 : (w4).frozen? ⟨w.heap.size, 1, none⟩ = false := (HX4.out.frozen (p := ⟨w.heap.size, 1, none⟩) (by simp)).trans (World.frozen?_alloc_at _ _ _ _ rfl)
  have x0 := hs.cell (g := w2.heap.size) (o := 0) (.tail _ (.head _))
  have x1 := hs.cell (g := w3.heap.size) (o := 0) (.head _)
  have HS4 := Lib.hid hs
  have HGG := Lib.hid hg
  clear hs hb hg
  go_wp2_with fail
  refine (HO.out _ _ HGG.out).mono ?_
  rintro e w5 ⟨rfl, rfl⟩
  obtain ⟨t0, t1⟩ := read_two d0 d1 (.slice none 0 0) (.slice none 0 0)
  have T0 := Lib.hid t0; have T1 := Lib.hid t1
  clear t0 t1
  go_wp2
  have t0 := T0.out; have t1 := T1.out
  refine bodyPost_ret (v := .tuple #[.agg #[.slice none 0 0, .slice none 0 0], .int .i64 4]) (by simp [results, Tryd.results7, go_sem, t0, t1]) rfl ⟨rfl, (HS4.out.bel.setCell (Nat.le_refl _) _).setCell (Nat.le_refl _) _⟩
set_option maxHeartbeats 1000000 in
theorem PF_ok2 (s A B : ByteArray) (w : World) (he : Env w) (hcut : ∀ W, Calls Tryd.prog 30 #[.string s, .string ⟨#[47]⟩] W fun e w' => e = .returned (.tuple #[.string A, .string B, .bool true]) ∧ Below W.heap.size W w') (hA : A.size ≤ 5463) (_hB : B.size ≤ 5463) (nA : isNum A.data.toList = true) (nB : isNum B.data.toList = true) (b0 : B ≠ ⟨#[48]⟩) (b1 : B ≠ ⟨#[49]⟩) (fA : nd 2 (sval A.data.toList) ≤ 16384) (fB : nd 2 (sval B.data.toList) ≤ 16384) (gg : Nat.gcd (sval A.data.toList) (sval B.data.toList) = 1) :
    Calls Tryd.prog 7 #[.string s] w fun e w' => ∃ r t, e = .returned (.tuple #[.agg #[r, t], .int .i64 0]) ∧ D w' r (sval A.data.toList) ∧ D w' t (sval B.data.toList) ∧ Below w.heap.size w w' := by
  have HS0 := Lib.hid ((Kq.start he).boxed2 (.slice none 0 0) (.slice none 0 0) 26)
  have HCUT := Lib.hid hcut
  have HIA := Lib.hid (fun W => isNumeral_any A W (by omega))
  rw [nA] at HIA
  have HIB := Lib.hid (fun W => isNumeral_any B W (by omega))
  rw [nB] at HIB
  have HRA := Lib.hid (fun W => readNumeral_any A W (by have := isNum_pos nA; rw [len_data] at this; exact this) hA (isNum_digits nA))
  have hnA : nd 4294967296 (sval A.data.toList) ≤ 5463 := Nat.le_trans (nd_sval (isNum_digits nA)) (by rw [len_data]; exact hA)
  rw [show fitE (sval A.data.toList) = 0 from if_pos fA, show fitN (sval A.data.toList) = sval A.data.toList from if_pos fA] at HRA
  have HRB := Lib.hid (fun W => readNumeral_any B W (by have := isNum_pos nB; rw [len_data] at this; exact this) _hB (isNum_digits nB))
  have hnB : nd 4294967296 (sval B.data.toList) ≤ 5463 := Nat.le_trans (nd_sval (isNum_digits nB)) (by rw [len_data]; exact _hB)
  rw [show fitE (sval B.data.toList) = 0 from if_pos fB, show fitN (sval B.data.toList) = sval B.data.toList from if_pos fB] at HRB
  have n0 : (B.toList == [48]) = false := by rw [← toList_one]; exact toList_ne b0
  have n1 : (B.toList == [49]) = false := by rw [← toList_one]; exact toList_ne b1
  obtain ⟨N, hN⟩ : ∃ N, N = 6000 := ⟨_, rfl⟩
  have HDV := Lib.hid (divide_long N (by omega))
  have HG := Lib.hid (fun v u W (h1 : D W v (sval A.data.toList)) (h2 : D W u (sval B.data.toList)) => gcd_any HDV.out v u _ _ W h1 h2 ((nd_le (by decide)).1 (by omega)) ((nd_le (by decide)).1 (by omega)))
  have HO := Lib.hid (fun v W (h : D W v (Nat.gcd (sval A.data.toList) (sval B.data.toList))) => isOne_any v _ W h)
  rw [gg] at HG HO
  rw [show decide ((1 : Nat) = 1) = true from rfl] at HO
  generalize sval A.data.toList = a at *
  generalize sval B.data.toList = b at *
  clear he hcut nA nB fA fB gg b0 b1 hnA hnB hN HDV
  go_enter Tryd.func7, Tryd.ntmps7
  go_wp2_with fail
  refine (HCUT.out _).mono ?_
  rintro e w1 ⟨rfl, hb⟩
  have hs := HS0.out.next hb
  have HX1 := Lib.hid hb
  have d0 : (w1).cell? ⟨w.heap.size, 0, none⟩ = some (.slice none 0 0) := (HX1.out.cell (p := ⟨w.heap.size, 0, none⟩) (by simp)).trans (World.cell?_alloc_at _ _ _ _ rfl)
  have g0 : (w1).frozen? ⟨w.heap.size, 0, none⟩ = false := (HX1.out.frozen (p := ⟨w.heap.size, 0, none⟩) (by simp)).trans (World.frozen?_alloc_at _ _ _ _ rfl)
  have d1 : (w1).cell? ⟨w.heap.size, 1, none⟩ = some (.slice none 0 0) := (HX1.out.cell (p := ⟨w.heap.size, 1, none⟩) (by simp)).trans (World.cell?_alloc_at _ _ _ _ rfl)
  have g1 : (w1).frozen? ⟨w.heap.size, 1, none⟩ = false := (HX1.out.frozen (p := ⟨w.heap.size, 1, none⟩) (by simp)).trans (World.frozen?_alloc_at _ _ _ _ rfl)
  have HS1 := Lib.hid hs
  clear hs hb
  go_wp2_with fail
  refine (HIA.out _).mono ?_
  rintro e w2 ⟨rfl, rfl⟩
  go_wp2_with fail
  refine (HIB.out _).mono ?_
  rintro e w2 ⟨rfl, rfl⟩
  go_wp2_with fail
  refine (HRA.out _).mono ?_
  rintro e w2 ⟨va, rfl, ha, hb⟩
  obtain ⟨ao, ac, rfl, -⟩ := ha.shape
  have hs := ((HS1.out.next hb).addNum ha).boxed (.slice ao (nd 4294967296 a) ac) 39
  clear d0 d1 g0 g1
  have HX2 := Lib.hid ((HX1.out.trans (hb.mono HX1.out.size)).alloc (Nat.le_trans HX1.out.size hb.size) (.cells #[.slice ao (nd 4294967296 a) ac] 39))
  have d0 : (w2.alloc (.cells #[.slice ao (nd 4294967296 a) ac] 39)).cell? ⟨w.heap.size, 0, none⟩ = some (.slice none 0 0) := (HX2.out.cell (p := ⟨w.heap.size, 0, none⟩) (by simp)).trans (World.cell?_alloc_at _ _ _ _ rfl)
  have g0 : (w2.alloc (.cells #[.slice ao (nd 4294967296 a) ac] 39)).frozen? ⟨w.heap.size, 0, none⟩ = false := (HX2.out.frozen (p := ⟨w.heap.size, 0, none⟩) (by simp)).trans (World.frozen?_alloc_at _ _ _ _ rfl)
  have d1 : (w2.alloc (.cells #[.slice ao (nd 4294967296 a) ac] 39)).cell? ⟨w.heap.size, 1, none⟩ = some (.slice none 0 0) := (HX2.out.cell (p := ⟨w.heap.size, 1, none⟩) (by simp)).trans (World.cell?_alloc_at _ _ _ _ rfl)
  have g1 : (w2.alloc (.cells #[.slice ao (nd 4294967296 a) ac] 39)).frozen? ⟨w.heap.size, 1, none⟩ = false := (HX2.out.frozen (p := ⟨w.heap.size, 1, none⟩) (by simp)).trans (World.frozen?_alloc_at _ _ _ _ rfl)
  have HS2 := Lib.hid hs
  clear hs hb ha
  clear d0 d1 g0 g1
  go_wp2_with fail
  refine (HRB.out _).mono ?_
  rintro e w3 ⟨vb, rfl, hbv, hb⟩
  obtain ⟨bo, bc, rfl, -⟩ := hbv.shape
  have hs := ((HS2.out.next hb).addNum hbv).boxed (.slice bo (nd 4294967296 b) bc) 39
  have HX3 := Lib.hid ((HX2.out.trans (hb.mono HX2.out.size)).alloc (Nat.le_trans HX2.out.size hb.size) (.cells #[.slice bo (nd 4294967296 b) bc] 39))
  have d0 : (w3.alloc (.cells #[.slice bo (nd 4294967296 b) bc] 39)).cell? ⟨w.heap.size, 0, none⟩ = some (.slice none 0 0) := (HX3.out.cell (p := ⟨w.heap.size, 0, none⟩) (by simp)).trans (World.cell?_alloc_at _ _ _ _ rfl)
  have g0 : (w3.alloc (.cells #[.slice bo (nd 4294967296 b) bc] 39)).frozen? ⟨w.heap.size, 0, none⟩ = false := (HX3.out.frozen (p := ⟨w.heap.size, 0, none⟩) (by simp)).trans (World.frozen?_alloc_at _ _ _ _ rfl)
  have d1 : (w3.alloc (.cells #[.slice bo (nd 4294967296 b) bc] 39)).cell? ⟨w.heap.size, 1, none⟩ = some (.slice none 0 0) := (HX3.out.cell (p := ⟨w.heap.size, 1, none⟩) (by simp)).trans (World.cell?_alloc_at _ _ _ _ rfl)
  have g1 : (w3.alloc (.cells #[.slice bo (nd 4294967296 b) bc] 39)).frozen? ⟨w.heap.size, 1, none⟩ = false := (HX3.out.frozen (p := ⟨w.heap.size, 1, none⟩) (by simp)).trans (World.frozen?_alloc_at _ _ _ _ rfl)
  have x0 := hs.cell (g := w2.heap.size) (o := 0) (.tail _ (.head _))
  have x1 := hs.cell (g := w3.heap.size) (o := 0) (.head _)
  have HS3 := Lib.hid hs
  clear hs hb hbv
  go_wp2_with fail
  refine (HG.out _ _ _ (HS3.out.num _ (.tail _ (.head _))) (HS3.out.num _ (.head _))).mono ?_
  rintro e w4 ⟨vg, rfl, hg, hb⟩
  have hs := HS3.out.next hb
  clear d0 d1 g0 g1 x0 x1
  have HX4 := Lib.hid (HX3.out.trans (hb.mono HX3.out.size))
  have d0 : (w4).cell? ⟨w.heap.size, 0, none⟩ = some (.slice none 0 0) := (HX4.out.cell (p := ⟨w.heap.size, 0, none⟩) (by simp)).trans (World.cell?_alloc_at _ _ _ _ rfl)
  have g0 : (w4).frozen? ⟨w.heap.size, 0, none⟩ = false := (HX4.out.frozen (p := ⟨w.heap.size, 0, none⟩) (by simp)).trans (World.frozen?_alloc_at _ _ _ _ rfl)
  have d1 : (w4).cell? ⟨w.heap.size, 1, none⟩ = some (.slice none 0 0) := (HX4.out.cell (p := ⟨w.heap.size, 1, none⟩) (by simp)).trans (World.cell?_alloc_at _ _ _ _ rfl)
  have g1 : (w4).frozen? ⟨w.heap.size, 1, none⟩ = false := (HX4.out.frozen (p := ⟨w.heap.size, 1, none⟩) (by simp)).trans (World.frozen?_alloc_at _ _ _ _ rfl)
  have x0 := hs.cell (g := w2.heap.size) (o := 0) (.tail _ (.head _))
  have x1 := hs.cell (g := w3.heap.size) (o := 0) (.head _)
  have HS4 := Lib.hid hs
  have HGG := Lib.hid hg
  clear hs hb hg
  go_wp2_with fail
  refine (HO.out _ _ HGG.out).mono ?_
  rintro e w5 ⟨rfl, rfl⟩
  obtain ⟨e1, e2, t0, t1, e3⟩ := two_store (w := w) (B := w.heap.size) (HS4.out.num _ (.tail _ (.head _))) (HS4.out.num _ (.head _)) d0 d1 HS4.out.bel (Nat.le_refl _)
  have E1 := Lib.hid e1; have E2 := Lib.hid e2; have E3 := Lib.hid e3; have T0 := Lib.hid t0; have T1 := Lib.hid t1
  clear e1 e2 e3 t0 t1
  go_wp2
  have t0 := T0.out; have t1 := T1.out
  refine bodyPost_ret (v := .tuple #[.agg #[.slice ao (nd 4294967296 a) ac, .slice bo (nd 4294967296 b) bc], .int .i64 0]) (by simp [results, Tryd.results7, go_sem, t0, t1]) rfl ⟨_, _, rfl, E1.out, E2.out, E3.out⟩
end Go.Proofs.YteajinpfigejfaaDoor
namespace Go.Proofs.YteajinpfigejfaaDoor
open Go Go.RowKit Gu

/-- any digit of a buffer is stored anew -/
theorem Buf.at {k : IntKind} {B : Nat} {T : TypeId} {w : World} {g m V : Nat} (h : Buf k B T w g m V) (hB : 0 < B) (j : Nat) {d : Nat} (hd : d < B) :
    Buf k B T (w.setCell ⟨g, j, none⟩ (.int k d)) g m (V % B ^ j + B ^ j * (d + B * (V / B ^ (j + 1)))) := by
  have e : V = V % B ^ j + B ^ j * (dg B V j + B * (V / B ^ (j + 1))) := by
    rw [← div_succ]; exact (Nat.mod_add_div _ _).symm
  rw [e] at h
  exact Buf.set h hB (Nat.mod_lt _ (Nat.pow_pos hB)) (dg_lt hB _ _) hd
/-- .. and what the number is then -/
theorem at_val {B V j d : Nat} : V % B ^ j + B ^ j * (d + B * (V / B ^ (j + 1))) + B ^ j * dg B V j = V + B ^ j * d := by
  have e : V = V % B ^ j + B ^ j * (dg B V j + B * (V / B ^ (j + 1))) := by
    rw [← div_succ]; exact (Nat.mod_add_div _ _).symm
  have e2 : B ^ j * (d + B * (V / B ^ (j + 1))) = B ^ j * d + B ^ j * (B * (V / B ^ (j + 1))) := Nat.mul_add _ _ _
  have e3 : B ^ j * (dg B V j + B * (V / B ^ (j + 1))) = B ^ j * dg B V j + B ^ j * (B * (V / B ^ (j + 1))) := Nat.mul_add _ _ _
  omega
/-- one round of the inner loop -/
theorem mulr_round {B V c i k P a b d q : Nat} (h : V + B ^ (i + k) * c = P + B ^ i * (a * (b % B ^ k))) (hd : d + B * q = c + dg B V (i + k) + a * dg B b k) :
    (V % B ^ (i + k) + B ^ (i + k) * (d + B * (V / B ^ (i + k + 1)))) + B ^ (i + (k + 1)) * q = P + B ^ i * (a * (b % B ^ (k + 1))) := by
  have e := at_val (B := B) (V := V) (j := i + k) (d := d)
  have e1 : B ^ (i + k) * (d + B * q) = B ^ (i + k) * (c + dg B V (i + k) + a * dg B b k) := by rw [hd]
  rw [mod_succ]
  have e2 : B ^ i * (a * (b % B ^ k + B ^ k * dg B b k)) = B ^ i * (a * (b % B ^ k)) + B ^ (i + k) * (a * dg B b k) := by
    rw [Nat.mul_add a, Nat.mul_add (B ^ i), Nat.pow_add, Nat.mul_assoc (B ^ i), Nat.mul_left_comm a]
  have e3 : B ^ (i + (k + 1)) * q = B ^ (i + k) * (B * q) := by rw [← Nat.add_assoc, Nat.pow_succ, Nat.mul_assoc]
  rw [e2, e3]
  rw [Nat.mul_add, Nat.mul_add, Nat.mul_add] at e1
  omega
/-- what the outer loop keeps -/
def MulRel (a b m : Nat) (w : World) (i : Nat) (wr : World) : Prop :=
  Buf .i64 65536 3 wr w.heap.size m ((a % 65536 ^ i) * b) ∧ Below w.heap.size w wr
/-- what the inner loop keeps -/
def RowIn (a b da m : Nat) (w : World) (i k c : Nat) (wr : World) : Prop :=
  c < 65536 ∧ ∃ V, V + 65536 ^ (i + k) * c = (a % 65536 ^ i) * b + 65536 ^ i * (da * (b % 65536 ^ k)) ∧ Buf .i64 65536 3 wr w.heap.size m V ∧ Below w.heap.size w wr
theorem RowIn.next {a b da m : Nat} {w : World} {i k c q : Nat} {wr : World} {V : Nat} (h1 : V + 65536 ^ (i + k) * c = (a % 65536 ^ i) * b + 65536 ^ i * (da * (b % 65536 ^ k))) (h2 : Buf .i64 65536 3 wr w.heap.size m V) (h3 : Below w.heap.size w wr)
    (hc : c < 65536) (ha : da < 65536) (n : Nat) (ht : q = c + dg 65536 V (i + k) + da * dg 65536 b k) : RowIn a b da m w i (k + 1) (q / 65536) ((wr.drewN n).setCell ⟨w.heap.size, i + k, none⟩ (.int .i64 (q % 65536 : Nat))) := by
  have hv := dg_lt (B := 65536) (by decide) V (i + k)
  have hb := dg_lt (B := 65536) (by decide) b k
  have hm : da * dg 65536 b k ≤ 65535 * 65535 := Nat.mul_le_mul (by omega) (by omega)
  refine ⟨by omega, _, mulr_round h1 (show q % 65536 + 65536 * (q / 65536) = _ by rw [Nat.mod_add_div]; exact ht), Buf.at (w := wr.drewN n) h2 (by decide) _ (Nat.mod_lt _ (by decide)), (below_drewN h3 n).setCell (Nat.le_refl _) _⟩
/-- where the inner loop ends, and that it stays inside the row -/
theorem row_in {a b da m : Nat} {w : World} {i k c : Nat} {wr : World} (h : RowIn a b da m w i k c wr) {lb : Nat} (hb : b < 65536 ^ lb) (hda : da < 65536) (hk : lb ≤ k) (hc : 0 < c) : k = lb := by
  obtain ⟨-, V, hV, -, -⟩ := h
  rcases Nat.lt_or_ge lb k with h1 | h1
  · exfalso
    have h2 : 65536 ^ (i + k) ≤ 65536 ^ (i + k) * c := Nat.le_mul_of_pos_right _ hc
    have h3 : (a % 65536 ^ i) * b ≤ 65536 ^ i * b := Nat.mul_le_mul_right _ (Nat.le_of_lt (Nat.mod_lt _ (Nat.pow_pos (by decide))))
    have h4 : 65536 ^ i * (da * (b % 65536 ^ k)) ≤ 65536 ^ i * (65535 * b) := Nat.mul_le_mul_left _ (Nat.mul_le_mul (by omega) (Nat.mod_le _ _))
    have h5 : 65536 ^ i * (65536 * b) < 65536 ^ i * (65536 * 65536 ^ lb) := Nat.mul_lt_mul_of_pos_left (Nat.mul_lt_mul_of_pos_left hb (by decide)) (Nat.pow_pos (by decide))
    have h6 : 65536 ^ i * (65536 * 65536 ^ lb) ≤ 65536 ^ (i + k) := by
      rw [Nat.mul_comm 65536, ← Nat.pow_succ, ← Nat.pow_add]
      exact Nat.pow_le_pow_right (by decide) (by omega)
    have h7 : 65536 ^ i * (65536 * b) = 65536 ^ i * b + 65536 ^ i * (65535 * b) := by
      rw [← Nat.mul_add]; congr 1; omega
    omega
  · omega
theorem RowIn.done {a b m : Nat} {w : World} {i k : Nat} {wr : World} {lb : Nat} (h : RowIn a b (dg 65536 a i) m w i k 0 wr) (hb : b < 65536 ^ lb) (hk : lb ≤ k) : MulRel a b m w (i + 1) wr := by
  obtain ⟨-, V, hV, h1, h2⟩ := h
  have hbk : b % 65536 ^ k = b := Nat.mod_eq_of_lt (Nat.lt_of_lt_of_le hb (Nat.pow_le_pow_right (by decide) hk))
  rw [hbk, Nat.mul_zero, Nat.add_zero] at hV
  refine ⟨?_, h2⟩
  rw [mod_succ, Nat.add_mul, Nat.mul_assoc, ← hV]
  exact h1
end Go.Proofs.YteajinpfigejfaaDoor
namespace Go.Proofs.YteajinpfigejfaaDoor
open Go Go.RowKit Gu

/-- an append to a row of the call's own, as one step of a region that draws its order -/
theorem step_append_own {P : Program} {ops : Array Oper} {o : Oper} {a : Act} {w : World} {K : Act → World → Prop} {Q : Exit → Act → World → Prop} {E : Prop} (hg : o.guard = none) (s x : Operand) (t : TypeId)
    (ho : o.op = Op.call { callee := Callee.builtin Builtin.append, args := #[s, x], argTypes := #[t, t] })
    (base : Nat) (e : TypeId) (i : TypeInfo) (z : Value) (size bytes : Nat) (ht : P.underlying t = some (.slice e)) (hi : P.info? e = some i) (hz : i.zero = some z)
    (hsize : i.size = size) (hby : i.bytes = bytes) (hzs : z.cells.size = size) (hsz : 0 < size)
    (v : Value) (n : Nat) (xs : List Value) (hs : a.eval s = v) (hown : w.ownsRow base e size v n xs)
    (ad : Addr) (m c : Nat) (news : List Value) (hx : a.eval x = .slice (some ad) m c) (hl : news.length = m * size) (hnews : ∀ j u, news[j]? = some u → w.cell? (ad.add j) = some u) (h1 : ∀ u ∈ news, u.oneCell' = true)
    (h63 : n + m ≤ maxLen) (hbytes : (n + m) * bytes ≤ 140737488355328) (hbase : base ≤ w.heap.size)
    (hK : ∀ v' w', w'.ownsRow base e size v' (n + m) (xs ++ news) → w.grownBy w' v.ownBlock → (v' = .slice none 0 0 ↔ v = .slice none 0 0 ∧ m = 0) → K (a.put o.dst v') w') :
    if Region.wanted o (yielded ops a.tmps) = true then Oper.wp P o a w K Q else E := by
  have hw : Region.wanted o (yielded ops a.tmps) = true := by simp [Region.wanted, hg]
  rw [if_pos hw]
  exact wp_append_own w s x t ho base e i z size bytes ht hi hz hsize hby hzs hsz v n xs hs hown ad m c news hx hl hnews h1 h63 hbytes hbase hK
theorem shr_word {B p t da db : Nat} (hB : B = p * t) (hp : 0 < p) (hda : da < B) : ((da + B * db) / p) % B = da / p + db % p * t := by
  subst hB
  have ht : 0 < t := by
    rcases Nat.eq_zero_or_pos t with h | h
    · subst h; omega
    · exact h
  have e1 : (da + p * t * db) / p = da / p + t * db := by
    rw [Nat.mul_assoc, Nat.add_mul_div_left _ _ hp]
  have e2 : t * db = (db % p) * t + p * t * (db / p) := by
    have h := Nat.div_add_mod db p
    have h2 : t * (p * (db / p) + db % p) = t * db := by rw [h]
    rw [Nat.mul_add, ← Nat.mul_assoc, Nat.mul_comm t p, Nat.mul_comm t (db % p)] at h2
    omega
  rw [e1, e2, ← Nat.add_assoc, Nat.add_mul_mod_self_left]
  apply Nat.mod_eq_of_lt
  have h3 : da / p < t := by rw [Nat.div_lt_iff_lt_mul hp, Nat.mul_comm]; exact hda
  have h4 : db % p * t + t ≤ p * t := by rw [← Nat.succ_mul]; exact Nat.mul_le_mul_right _ (Nat.mod_lt _ hp)
  omega
theorem pow_dvd16 {s : Nat} (h : s ≤ 16) : 65536 = 2 ^ s * 2 ^ (16 - s) := by
  rw [← Nat.pow_add, show s + (16 - s) = 16 from by omega]
theorem pow_n {n wh s : Nat} (h : n = 16 * wh + s) : 2 ^ n = 65536 ^ wh * 2 ^ s := by
  rw [h, Nat.pow_add, Nat.pow_mul]
/-- a digit of a number divided by a power of two, as the document makes it -/
theorem shr_dg {a n wh s k : Nat} (h : n = 16 * wh + s) (hs : s < 16) : dg 65536 (a / 2 ^ n) k = dg 65536 a (wh + k) / 2 ^ s + dg 65536 a (wh + k + 1) % 2 ^ s * 2 ^ (16 - s) := by
  rw [pow_n h, shr_digit (by decide) ⟨_, pow_dvd16 (by omega)⟩, Nat.add_comm k wh, shr_word (pow_dvd16 (by omega)) (Nat.pow_pos (by decide)) (dg_lt (by decide) _ _)]
/-- what the loop of Shr keeps -/
def RShrRel (a n : Nat) (w : World) (k : Nat) (v : Value) (wr : World) : Prop :=
  Own .i64 65536 3 wr w.heap.size v k (a / 2 ^ n % 65536 ^ k) ∧ Below w.heap.size w wr
set_option maxHeartbeats 2000000 in
set_option maxRecDepth 100000 in
theorem RShr_any (v : Value) (a n : Nat) (w : World) (hv : R w v a) (ha : nd 65536 a ≤ 1048576) (hn : n ≤ 9223372036854775807) :
    Calls Tryd.prog 71 #[v, .int .i64 n] w fun e w' => ∃ r, e = .returned r ∧ R w' r (a / 2 ^ n) ∧ Below w.heap.size w w' := by
  obtain ⟨i0, hi, hz0, hz1, hz2⟩ := info_parts Tryd.infoInt
  have hB : 2 ≤ 65536 := by decide
  obtain ⟨ao, ac, rfl, hcv⟩ := hv.shape
  have HV := Lib.hid hv
  have HC := Lib.hid hcv
  clear hv hcv
  have HAl := Lib.hid (nd_lt hB a)
  generalize hna : nd 65536 a = la at *
  have HNa : Hid (nd 65536 a ≤ 4611686018427387904) := by show _ ≤ _; omega
  clear hna
  obtain ⟨wh, hwh⟩ : ∃ wh, wh = n / 16 := ⟨_, rfl⟩
  obtain ⟨s, hs⟩ : ∃ s, s = n % 16 := ⟨_, rfl⟩
  have hs16 : s < 16 := by omega
  have q1 : (n : Int) / 16 = wh := by omega
  have q2 : (n : Int) % 16 = s := by omega
  have HNW : Hid (n = 16 * wh + s) := by show _ = _; omega
  have hwl : wh ≤ 576460752303423487 := by omega
  clear hwh hs
  have hpp : 0 < 2 ^ s := Nat.pow_pos (by decide)
  have hpt : 0 < 2 ^ (16 - s) := Nat.pow_pos (by decide)
  have HPT := Lib.hid (pow_dvd16 (show s ≤ 16 by omega))
  have hpl : 2 ^ s ≤ 65536 := Nat.le_trans (Nat.pow_le_pow_right (by decide) (show s ≤ 16 by omega)) (by decide)
  have htl : 2 ^ (16 - s) ≤ 65536 := Nat.le_trans (Nat.pow_le_pow_right (by decide) (show 16 - s ≤ 16 by omega)) (by decide)
  have HP := Lib.hid (fun w => power_any s w (by omega))
  have HDG := Lib.hid (fun k => shr_dg (a := a) (k := k) HNW.out hs16)
  generalize hpe : 2 ^ s = p at *
  generalize hte : 2 ^ (16 - s) = t at *
  clear hpe hte
  have ht : (65536 : Int) / p = t := by
    have : 65536 / p = t := by rw [HPT.out, Nat.mul_div_cancel_left _ hpp]
    rw [show (65536 : Int) / p = ((65536 / p : Nat) : Int) from by simp, this]
  have HTT := Lib.hid ht
  clear ht
  go_enter Tryd.func71, Tryd.ntmps71
  go_wp2_with fail
  refine (HP.out _).mono ?_
  rintro e w' ⟨rfl, rfl⟩
  go_wp2
  go_loopg [5, 7] (la - wh) (fun m out x wr => ∃ k, Hid (wh + k + m = max la wh) ∧ x = .int .i64 ((wh + k : Nat) : Int) ∧ RShrRel a n w k out wr)
  case atStart => exact ⟨0, by show _ = _; omega, rfl, by simpa [RShrRel, Nat.mod_one] using ⟨Own.nil _ _ _ _ _, Below.refl _ _⟩⟩
  case round =>
    obtain ⟨k, HK, rfl, hown, hbel⟩ := hrel
    by_cases hlt : wh + k < la
    · have h1 : ((wh + k : Nat) : Int) < la := by omega
      obtain ⟨gb, go, rfl, hca⟩ := HC.out (wh + k) hlt
      have hgb0 : gb < w.heap.size := World.block_lt_of_cell? _ _ hca
      have hkb : k ≤ 1048576 := by omega
      have hca' : wr.cell? ⟨gb, go + (wh + k), none⟩ = some (.int .i64 (dg 65536 a (wh + k) : Nat)) := by
        rw [hbel.cell (p := ⟨gb, go + (wh + k), none⟩) (World.block_lt_of_cell? _ _ hca)]; exact hca
      have HA := Lib.hid (fun q => Rat_any _ a (wh + k + 1) (wr.drewN q) (HV.out.below (below_drewN hbel q)) HNa.out)
      have hd := HDG.out k
      have hda := dg_lt (B := 65536) (by decide) a (wh + k)
      have hdb := dg_lt (B := 65536) (by decide) a (wh + k + 1)
      have hdx := dg_lt (B := 65536) (by decide) (a / 2 ^ n) k
      have HPS : Hid (pad 65536 (k + 1) (a / 2 ^ n % 65536 ^ (k + 1)) = pad 65536 k (a / 2 ^ n % 65536 ^ k) ++ [dg 65536 (a / 2 ^ n) k]) := by
        show _ = _
        rw [mod_succ]
        exact pad_succ (by decide) (Nat.mod_lt _ (Nat.pow_pos (by decide))) hdx
      have HB := Lib.hid hbel
      have hltw := hown.lt
      have HLT := Lib.hid hltw
      have hsz := hbel.size
      unfold Own at hown
      clear hca hbel hltw
      generalize dg 65536 (a / 2 ^ n) k = dx at *
      have HDX := Lib.hid hd
      clear hd
      obtain ⟨j, hj⟩ : ∃ j, j = wh + k := ⟨_, rfl⟩
      rw [← hj] at h1 hca' HA hda hdb HDX hlt ⊢
      have HJ := Lib.hid hj
      clear hj
      generalize dg 65536 a j = da at *
      generalize dg 65536 a (j + 1) = db at *
      have hp0 : ¬ (p : Int) = 0 := by omega
      have hp1 : ¬ p = 0 := by omega
      have hdp : da / p ≤ da := Nat.div_le_self _ _
      have hmp : db % p < p := Nat.mod_lt _ hpp
      have hmul : db % p * t ≤ 65535 * 65536 := Nat.mul_le_mul (by omega) htl
      have HX : Hid (IntKind.i64.wrap (IntKind.i64.wrap ((da : Int) / p) + IntKind.i64.wrap (((db : Int).tmod p) * (IntKind.i64.wrap (Int.tdiv 65536 (p : Int))))) = (dx : Int)) := by
        show _ = _
        have hdx' := HDX.out
        rw [Int.tdiv_eq_ediv_of_nonneg (by omega), HTT.out, IntWalk.i64_in (t : Int) (by omega), Int.tmod_eq_emod_of_nonneg (by omega), show (da : Int) / p = ((da / p : Nat) : Int) from by simp, show (db : Int) % p = ((db % p : Nat) : Int) from by simp,
          show ((db % p : Nat) : Int) * (t : Int) = ((db % p * t : Nat) : Int) from by simp]
        generalize da / p = y1 at *
        generalize db % p * t = y2 at *
        rw [IntWalk.i64_in (y1 : Int) (by omega), IntWalk.i64_in (y2 : Int) (by omega), IntWalk.i64_in _ (by omega)]
        omega
      clear hdp hmp hmul
      have HONE : Hid (∀ x : Int, ∀ u ∈ [Value.int .i64 x], u.oneCell' = true) := by intro x u hu; simp at hu; subst hu; rfl
      have HML : Hid (k + 1 ≤ maxLen) := by show _ ≤ _; unfold maxLen; omega
      have HBY : Hid ((k + 1) * 8 ≤ 140737488355328) := by show _ ≤ _; omega
      have HBS : Hid (∀ o, w.heap.size ≤ (wr.drew.alloc o).heap.size) := fun o => Nat.le_trans hsz (by rw [World.size_alloc]; exact Nat.le_succ _)
      have hwj : IntKind.i64.wrap ((j : Int) + 1) = (j : Int) + 1 := IntWalk.i64_in _ (by omega)
      have hlw : (j : Int) < la := by omega
      have hlw2 : (0 : Int) ≤ (j : Int) := by omega
      have hca2 : wr.drew.cell? ⟨gb, go + (j), none⟩ = some (.int .i64 (da : Nat)) := hca'
      have HA2 : Hid (Calls Tryd.prog 69 #[.slice (some ⟨gb, go, none⟩) la ac, .int .i64 ((j : Int) + 1)] wr.drew fun e w' => e = .returned (.int .i64 (db : Nat)) ∧ wr.drew = w') := HA.out 1
      clear HA
      have hgb : gb < wr.heap.size := World.block_lt_of_cell? _ _ hca'
      have HAL : Hid (∀ o, (wr.drew.alloc o).cell? ⟨gb, go + (j), none⟩ = some (.int .i64 (da : Nat))) := fun o => (((Below.refl wr.drew.heap.size wr.drew).alloc (Nat.le_refl _) o).cell (p := ⟨gb, go + (j), none⟩) hgb).trans hca'
      go_wp2
      go_region_held3 (fun W : World => W.cell? ⟨gb, go + (j), none⟩ = some (.int .i64 (da : Nat))) (first | assumption | exact HAL.out _) (first
        | (go_at_call 69; go_must (go_fit HA2.out); rintro e w' ⟨rfl, rfl⟩)
        | (refine step_append_own rfl (.tmp 19) (.tmp 36) 30 rfl w.heap.size 3 i0 (.int .i64 0) 1 8 Tryd.underlying30 hi hz0 hz1 hz2 rfl (by decide) _ _ _ (by rfl) (hown.drew.alloc _) ⟨wr.heap.size, 0, none⟩ 1 1 [_] rfl rfl (cell_one_new _ _ _) (HONE.out _) HML.out HBY.out (HBS.out _) ?_; intro v' w4 hown4 hgrow hnil; have hca4 : w4.cell? ⟨gb, go + j, none⟩ = some (.int .i64 (da : Nat)) := hgrow.cell (HAL.out _) (fun e => Nat.not_lt_of_le (HLT.out _ e.symm).1 hgb0)) | fail)
      have HFIN : Hid (RShrRel a n w (k + 1) v' w4) := by
        refine ⟨?_, ?_⟩
        · unfold Own
          rw [HPS.out, List.map_append]
          rw [HX.out] at hown4
          exact hown4
        · refine Below.grown (HB.out.drew.alloc hsz _) hgrow (by rw [World.size_alloc]; exact Nat.le_succ_of_le hsz) ?_
          intro j hj
          exact (HLT.out _ hj).1
      clear hown4 hgrow hnil hown hca4 HX
      go_wp2
      go_roundg (la - wh - (k + 1))
      case measure => have h1 := HK.out; have h2 := HJ.out; have h3 : max la wh = la := Nat.max_eq_left (by omega); rw [h3] at h1; omega
      case rel => exact ⟨k + 1, by have h1 := HK.out; have h2 := HJ.out; have h3 : max la wh = la := Nat.max_eq_left (by omega); rw [h3] at h1; show _ = max la wh; rw [h3]; omega, by rw [HJ.out]; go_num, HFIN.out⟩
    · have hnl : ¬ ((wh + k : Nat) : Int) < la := by omega
      have hxl : a / 2 ^ n < 65536 ^ k := by
        rw [pow_n HNW.out, ← Nat.div_div_eq_div_mul]
        refine Nat.lt_of_le_of_lt (Nat.div_le_self _ _) ?_
        rw [Nat.div_lt_iff_lt_mul (Nat.pow_pos (by decide)), ← Nat.pow_add]
        exact Nat.lt_of_lt_of_le HAl.out (Nat.pow_le_pow_right (by decide) (by omega))
      rw [Nat.mod_eq_of_lt hxl] at hown
      have hkk : k ≤ 4611686018427387904 := by
        have h1 := HK.out
        rcases Nat.le_total la wh with h | h
        · rw [Nat.max_eq_right h] at h1; omega
        · rw [Nat.max_eq_left h] at h1; omega
      have HT := Lib.hid (Trim_own _ _ _ _ _ hown hxl hkk)
      have HB := Lib.hid hbel
      clear hown hbel hxl hlt
      go_wp2_with fail
      refine HT.out.mono ?_
      rintro e w5 ⟨r, rfl, hr, rfl⟩
      obtain ⟨ro, rc, rfl, -⟩ := hr.shape
      have HR := Lib.hid hr
      clear hr
      go_wp2
      go_ret
      exact ⟨_, rfl, HR.out, HB.out⟩
theorem pad_wh {wh k X d : Nat} (hX : X < 65536 ^ k) (hd : d < 65536) : pad 65536 (wh + k + 1) (65536 ^ wh * (X + 65536 ^ k * d)) = pad 65536 (wh + k) (65536 ^ wh * X) ++ [d] := by
  rw [Nat.mul_add, ← Nat.mul_assoc, ← Nat.pow_add]
  refine pad_succ (by decide) ?_ hd
  rw [Nat.pow_add]
  exact Nat.mul_lt_mul_of_pos_left hX (Nat.pow_pos (by decide))
/-- what the loop of Shl keeps -/
def RShlRel (a s wh : Nat) (w : World) (k X c : Nat) (v : Value) (wr : World) : Prop :=
  c < 2 ^ s ∧ X < 65536 ^ k ∧ X + 65536 ^ k * c = (a % 65536 ^ k) * 2 ^ s ∧ Own .i64 65536 3 wr w.heap.size v (wh + k) (65536 ^ wh * X) ∧ Below w.heap.size w wr
theorem own_zeros {w : World} (wh : Nat) (hwh : wh ≤ 1048576) : Own .i64 65536 3 (w.alloc (.cells (madeCells #[.int .i64 0] wh) 3)) w.heap.size (.slice (some ⟨w.heap.size, 0, none⟩) wh wh) wh 0 := by
  unfold Own
  refine ⟨by simp [pad], .inr ⟨w.heap.size, wh, _, rfl, Nat.le_refl _, heap_alloc_new w _, Nat.le_refl _, by unfold maxLen; omega, by rw [size_madeCells, Nat.mul_one], ?_⟩⟩
  rw [pad_zero, Nat.mul_one]
  simp only [madeCells, Array.toList_map, Array.toList_range, List.size_toArray]
  rw [List.take_of_length_le (by simp)]
  apply List.ext_getElem (by simp)
  intro i h1 h2
  simp [Nat.mod_one]
set_option maxHeartbeats 2000000 in
set_option maxRecDepth 100000 in
theorem RShl_any (v : Value) (a n : Nat) (w : World) (hv : R w v a) (ha : nd 65536 a ≤ 500000) (hn : n ≤ 8000000) :
    Calls Tryd.prog 73 #[v, .int .i64 n] w fun e w' => ∃ r, e = .returned r ∧ R w' r (a * 2 ^ n) ∧ Below w.heap.size w w' := by
  obtain ⟨i0, hi, hz0, hz1, hz2⟩ := info_parts Tryd.infoInt
  have hB : 2 ≤ 65536 := by decide
  obtain ⟨ao, ac, rfl, hcv⟩ := hv.shape
  have HC := Lib.hid hcv
  clear hv hcv
  have HAl := Lib.hid (nd_lt hB a)
  generalize hna : nd 65536 a = la at *
  clear hna
  obtain ⟨wh, hwh⟩ : ∃ wh, wh = n / 16 := ⟨_, rfl⟩
  obtain ⟨s, hs⟩ : ∃ s, s = n % 16 := ⟨_, rfl⟩
  have hs16 : s < 16 := by omega
  have q1 : (n : Int) / 16 = wh := by omega
  have q2 : (n : Int) % 16 = s := by omega
  have HNW : Hid (n = 16 * wh + s) := by show _ = _; omega
  have hwl : wh ≤ 500000 := by omega
  clear hwh hs
  have hpp : 0 < 2 ^ s := Nat.pow_pos (by decide)
  have hpl : 2 ^ s ≤ 65536 := Nat.le_trans (Nat.pow_le_pow_right (by decide) (show s ≤ 16 by omega)) (by decide)
  have HP := Lib.hid (fun w => power_any s w (by omega))
  obtain ⟨p, hpe⟩ : ∃ p, p = 2 ^ s := ⟨_, rfl⟩
  have HPE := Lib.hid hpe
  rw [← hpe] at HP hpp hpl
  clear hpe
  have hmk := made_int wh (by omega)
  go_enter Tryd.func73, Tryd.ntmps73
  go_wp2_with fail
  refine (HP.out _).mono ?_
  rintro e w' ⟨rfl, rfl⟩
  have HPD : Hid (∀ c d : Nat, c < p → d < 65536 → c + d * p < 8589934592) := by
    intro c d h1 h2
    have h3 : d * p ≤ 65535 * 65536 := Nat.mul_le_mul (by omega) hpl
    omega
  go_wp2
  go_loopg [5, 6, 8] la (fun m out c x wr => ∃ k X cc : Nat, Hid (k + m = la) ∧ x = .int .i64 k ∧ c = .int .i64 cc ∧ RShlRel a s wh w k X cc out wr)
  case atStart => exact ⟨0, 0, 0, by show _ = _; omega, rfl, rfl, by rw [← HPE.out]; exact hpp, by simp, by simp [Nat.mod_one], by simpa using own_zeros wh (by omega), (Below.refl _ _).alloc (Nat.le_refl _) _⟩
  case round =>
    obtain ⟨k, X, c, HK, rfl, rfl, hc1, hX, hsum, hown, hbel⟩ := hrel
    have hkl : k ≤ la := by have := HK.out; omega
    rw [← HPE.out] at hc1 hsum
    by_cases hlt : k < la
    · have hlt' : (k : Int) < la := by omega
      obtain ⟨gb, go, rfl, hca⟩ := HC.out k hlt
      have hca' : wr.cell? ⟨gb, go + k, none⟩ = some (.int .i64 (dg 65536 a k : Nat)) := by
        rw [hbel.cell (p := ⟨gb, go + k, none⟩) (World.block_lt_of_cell? _ _ hca)]; exact hca
      have hda := dg_lt (B := 65536) (by decide) a k
      have hq := HPD.out c _ hc1 hda
      obtain ⟨q, hqe⟩ : ∃ q, q = c + dg 65536 a k * p := ⟨_, rfl⟩
      have hX2 : X + 65536 ^ k * (q % 65536) < 65536 ^ (k + 1) := snoc_lt hX (Nat.mod_lt _ (by decide))
      have hsum2 : (X + 65536 ^ k * (q % 65536)) + 65536 ^ (k + 1) * (q / 65536) = a % 65536 ^ (k + 1) * p := by rw [hqe]; exact shl_round hsum
      have hc2 : q / 65536 < p := by rw [hqe]; exact shl_carry hc1 hda
      have HPS := Lib.hid (pad_wh (wh := wh) hX (show q % 65536 < 65536 from Nat.mod_lt _ (by decide)))
      have HE : Hid (wrap64 ((c : Int) + wrap64 ((dg 65536 a k : Nat) * (p : Int))) = (q : Int)) := by
        show _ = _
        have hq2 := hqe
        have hq3 := hq
        rw [show ((dg 65536 a k : Nat) : Int) * (p : Int) = ((dg 65536 a k * p : Nat) : Int) from by simp]
        generalize dg 65536 a k * p = y at hq2 hq3 ⊢
        rw [IntWalk.wrap64_in (y : Int) (by omega), IntWalk.wrap64_in _ (by omega)]
        omega
      rw [← hqe] at hq
      have HS2 := Lib.hid (And.intro hc2 (And.intro hX2 hsum2))
      have HB := Lib.hid hbel
      have hltw := hown.lt
      have HLT := Lib.hid hltw
      have hsz := hbel.size
      unfold Own at hown
      have HONE : Hid (∀ x : Int, ∀ u ∈ [Value.int .i64 x], u.oneCell' = true) := by intro x u hu; simp at hu; subst hu; rfl
      clear hca hbel hltw hX hsum hqe hc2 hX2 hsum2
      generalize dg 65536 a k = da at *
      go_wp2_with (at_builtin; go_must (refine wpList_append_own _ rfl _ _ 30 rfl w.heap.size 3 i0 (.int .i64 0) 1 8 Tryd.underlying30 hi hz0 hz1 hz2 rfl (by decide) _ _ _ rfl (hown.alloc _) ⟨wr.heap.size, 0, none⟩ 1 1 [_] rfl rfl (cell_one_new _ _ _) (HONE.out _) ?c3 ?c4 ?c5 ?_))
      case c3 => unfold maxLen; omega
      case c4 => omega
      case c5 => simp; omega
      intro v' w4 hown4 hgrow hnil
      have hq0 : (q : Int).tmod 65536 = ((q % 65536 : Nat) : Int) := by rw [Int.tmod_eq_emod_of_nonneg (by omega)]; omega
      have hq4 : (q : Int).tdiv 65536 = ((q / 65536 : Nat) : Int) := by rw [Int.tdiv_eq_ediv_of_nonneg (by omega)]; omega
      have HFIN : Hid (RShlRel a s wh w (k + 1) (X + 65536 ^ k * (q % 65536)) (q / 65536) v' w4) := by
        rw [HE.out, hq0] at hown4
        refine ⟨by rw [← HPE.out]; exact HS2.out.1, HS2.out.2.1, by rw [← HPE.out]; exact HS2.out.2.2, ?_, ?_⟩
        · unfold Own
          rw [← Nat.add_assoc, HPS.out, List.map_append]
          exact hown4
        · refine Below.grown (HB.out.alloc (by omega) _) hgrow (by simp; omega) ?_
          intro j hj
          exact (HLT.out _ hj).1
      have HQ4 := Lib.hid hq4
      clear hown4 hgrow hnil hown hq0 hq4
      go_wp2
      rw [HE.out, HQ4.out]
      go_roundg (la - (k + 1))
      case measure => have := HK.out; omega
      case rel => exact ⟨k + 1, _, q / 65536, by have := HK.out; show _ = _; omega, by go_num, by first | rfl | (rw [IntWalk.wrap64_in _ (by omega)]) | go_num, HFIN.out⟩
    · obtain rfl : k = la := by omega
      have hnl : ¬ ((k : Int) < k) := by omega
      rw [Nat.mod_eq_of_lt HAl.out] at hsum
      have hval : 65536 ^ wh * (X + 65536 ^ k * c) = a * 2 ^ n := by
        rw [hsum, HPE.out, pow_n HNW.out, Nat.mul_left_comm]
      have hxl : a * 2 ^ n < 65536 ^ (wh + k + 1) := by
        rw [← hval, Nat.add_assoc, Nat.pow_add 65536 wh]
        exact Nat.mul_lt_mul_of_pos_left (snoc_lt hX (by omega)) (Nat.pow_pos (by decide))
      have HPS := Lib.hid (pad_wh (wh := wh) (d := c) hX (by omega))
      rw [hval] at HPS
      have HT := Lib.hid (fun v' w4 (h : Own .i64 65536 3 w4 w.heap.size v' (wh + k + 1) (a * 2 ^ n)) => Trim_own _ _ _ _ _ h hxl (by omega))
      have HB := Lib.hid hbel
      have hltw := hown.lt
      have HLT := Lib.hid hltw
      have hsz := hbel.size
      have HONE : Hid (∀ x : Int, ∀ u ∈ [Value.int .i64 x], u.oneCell' = true) := by intro x u hu; simp at hu; subst hu; rfl
      unfold Own at hown
      clear hbel hltw hX hsum hval hxl hlt
      go_wp2_with (at_builtin; go_must (refine wpList_append_own _ rfl _ _ 30 rfl w.heap.size 3 i0 (.int .i64 0) 1 8 Tryd.underlying30 hi hz0 hz1 hz2 rfl (by decide) _ _ _ rfl (hown.alloc _) ⟨wr.heap.size, 0, none⟩ 1 1 [_] rfl rfl (cell_one_new _ _ _) (HONE.out _) ?d3 ?d4 ?d5 ?_))
      case d3 => unfold maxLen; omega
      case d4 => omega
      case d5 => first | omega | (simp; omega)
      intro v' w4 hown4 hgrow hnil
      have HT2 : Hid (Below w.heap.size w w4) := by
        refine Below.grown (HB.out.alloc (by omega) _) hgrow (by simp; omega) ?_
        intro j hj
        exact (HLT.out _ hj).1
      have HO4 : Hid (Own .i64 65536 3 w4 w.heap.size v' (wh + k + 1) (a * 2 ^ n)) := by
        show Own _ _ _ _ _ _ _ _
        unfold Own
        rw [HPS.out, List.map_append]
        exact hown4
      clear hown4 hgrow hnil hown
      go_wp2_with fail
      refine (HT.out _ _ HO4.out).mono ?_
      rintro e w5 ⟨r, rfl, hr, rfl⟩
      obtain ⟨ro, rc, rfl, -⟩ := hr.shape
      have HR := Lib.hid hr
      clear hr
      go_wp2
      go_ret
      exact ⟨_, rfl, HR.out, HT2.out⟩
end Go.Proofs.YteajinpfigejfaaDoor
