/- WHAT IS PROVED: for any three sizes and any three lists of updates: SpanMerges returns true, and its arguments read as before. Conditions: none but the row's own. -/
import Derived.Test.YtahgfggcpmnnaaaTKup5
import Derived.Deep.RegionHeld3
import Derived.Test.YtahgfggcpmnnaaaTKup2
import Derived.WideShapes
import Derived.ShutString
import Derived.ChangeOld
import Derived.Below
namespace Go.Proofs.Ytahgfggcpmnnaaa
open Go Go.RowKit Gs

set_option maxRecDepth 100000 in
set_option maxHeartbeats 8000000 in
theorem spanMerges_walk (s0 s1 s2 : Int) (v : Value) (l : List Act) (v2 : Value) (k : List Act) (v3 : Value) (k3 : List Act) (W : World) (hl : IsAs W v l) (hk : IsAs W v2 k) (hk3 : IsAs W v3 k3)
    (hv1 : v = .slice none 0 0 ∨ ∃ a m c, v = .slice (some a) m c) (hv2 : v2 = .slice none 0 0 ∨ ∃ a m c, v2 = .slice (some a) m c) (hv3 : v3 = .slice none 0 0 ∨ ∃ a m c, v3 = .slice (some a) m c) :
    Calls Try.prog 8 #[.agg #[.int .i64 s0, .int .i64 s1, .int .i64 s2], v, v2, v3] W fun e w' => e = .returned (.bool true) ∧ Below W.heap.size W w' := by
  have HAW := Lib.hid (fun W' => awake_any W')
  have HAS := Lib.hid hl; have HBS := Lib.hid hk; have HCS := Lib.hid hk3
  have HV1 := Lib.hid hv1; have HV2 := Lib.hid hv2; have HV3 := Lib.hid hv3
  obtain ⟨ao, c, rfl, -⟩ := hl
  obtain ⟨bo, d, rfl, -⟩ := hk
  obtain ⟨go, g, rfl, -⟩ := hk3
  obtain ⟨n, hnn⟩ : ∃ n, n = l.length := ⟨_, rfl⟩
  obtain ⟨m, hmm⟩ : ∃ m, m = k.length := ⟨_, rfl⟩
  obtain ⟨r, hrr⟩ : ∃ r, r = k3.length := ⟨_, rfl⟩
  have HN := Lib.hid hnn; have HM := Lib.hid hmm; have HR := Lib.hid hrr
  rw [← hnn] at HAS HV1 ⊢
  rw [← hmm] at HBS HV2 ⊢
  rw [← hrr] at HCS HV3 ⊢
  obtain ⟨w0, HW0⟩ : ∃ w0, w0 = W.alloc (.cells #[.int .i64 s0, .int .i64 s1, .int .i64 s2] 78) := ⟨_, rfl⟩
  have hb0 : Below W.heap.size W w0 := by rw [HW0]; exact alloc_below _ _
  have n0 : Bx W.heap.size [.int .i64 s0, .int .i64 s1, .int .i64 s2] w0 := by rw [HW0]; exact Bx.new W [.int .i64 s0, .int .i64 s1, .int .i64 s2] 78 (by simp)
  have HB0 := Lib.hid hb0; have G0 := Lib.hid n0; have HW0' := Lib.hid HW0
  clear hnn hmm hrr hv1 hv2 hv3 hb0 n0 HW0
  by_cases hf : ((n : Int) > 40 ∨ (m : Int) > 40 ∨ (r : Int) > 40)
  · clear HAS HBS HCS HV1 HV2 HV3 HN HM HR
    by_cases hf1 : (n : Int) > 40
    · clear hf
      go_enter Try.func8, Try.ntmps8
      go_upto_region 1 with fail
      rw [← HW0'.out]
      go_wp2_with fail
      refine (HAW.out _).mono ?_
      rintro e w2 ⟨rfl, hb⟩
      have HB2 := Lib.hid (HB0.out.trans (hb.mono HB0.out.size))
      clear hb
      go_wp2_with fail
      go_ret
      exact ⟨rfl, HB2.out⟩
    · by_cases hf2 : (m : Int) > 40
      · clear hf
        go_enter Try.func8, Try.ntmps8
        go_upto_region 1 with fail
        rw [← HW0'.out]
        go_wp2_with fail
        refine (HAW.out _).mono ?_
        rintro e w2 ⟨rfl, hb⟩
        have HB2 := Lib.hid (HB0.out.trans (hb.mono HB0.out.size))
        clear hb
        go_wp2_with fail
        go_ret
        exact ⟨rfl, HB2.out⟩
      · have hf3 : (r : Int) > 40 := by omega
        clear hf
        go_enter Try.func8, Try.ntmps8
        go_upto_region 1 with fail
        rw [← HW0'.out]
        go_wp2_with fail
        refine (HAW.out _).mono ?_
        rintro e w2 ⟨rfl, hb⟩
        have HB2 := Lib.hid (HB0.out.trans (hb.mono HB0.out.size))
        clear hb
        go_wp2_with fail
        go_ret
        exact ⟨rfl, HB2.out⟩
  · have hf1 : ¬ ((n : Int) > 40) := fun h => hf (.inl h)
    have hf2 : ¬ ((m : Int) > 40) := fun h => hf (.inr (.inl h))
    have hf3 : ¬ ((r : Int) > 40) := fun h => hf (.inr (.inr h))
    have HF1 : Hid (n ≤ 40) := by show _ ≤ _; omega
    have HF2 : Hid (m ≤ 40) := by show _ ≤ _; omega
    have HF3 : Hid (r ≤ 40) := by show _ ≤ _; omega
    have HPL := Lib.hid (played_any (size := s0) (HAS.out.below HB0.out) (by have := HF1.out; have := HN.out; omega))
    have x0 := (G0.out.c 0 _ rfl).1
    clear hf
    go_enter Try.func8, Try.ntmps8
    go_upto_region 1 with fail
    rw [← HW0'.out]
    go_wp2_with fail
    refine HPL.out.mono ?_
    rintro e w2 ⟨p, z, s, v', rfl, hd, hb⟩
    obtain ⟨va, vn, vc, rfl⟩ := hd.out.shape
    obtain ⟨w3, HW3⟩ : ∃ w3, w3 = (w2.alloc (.cells #[.pointer p, .int .i64 z] 27)).alloc (.cells #[.int .i64 s, .slice va vn vc] 33) := ⟨_, rfl⟩
    have b3 : Below w2.heap.size w2 w3 := by rw [HW3]; exact (alloc_below _ _).alloc (by simp) _
    have n2 : Bx w2.heap.size [.pointer p, .int .i64 z] w3 := by rw [HW3]; exact (Bx.new w2 [.pointer p, .int .i64 z] 27 (by simp)).next (alloc_below _ _)
    have n3 : Bx (w2.heap.size + 1) [.int .i64 s, .slice va vn vc] w3 := by
      have := Bx.new (w2.alloc (.cells #[.pointer p, .int .i64 z] 27)) [.int .i64 s, .slice va vn vc] 33 (by simp)
      rw [World.size_alloc, ← HW3] at this
      exact this
    have HD3 := Lib.hid (hd.out.below b3)
    have b03 := hb.trans (b3.mono hb.size)
    have G2 := Lib.hid n2; have G3 := Lib.hid n3
    have HB3 := Lib.hid b03
    have HW3' := Lib.hid HW3
    clear hb HW3 b3 n2 n3 hd b03
    go_upto_region 4 with fail
    rw [← HW3'.out]
    clear HW3'
    have HBW : Hid (Below W.heap.size W w3) := HB0.out.trans (HB3.out.mono HB0.out.size)
    have HCEL : Hid (∀ w, Kw w3 w → w.cell? ⟨W.heap.size, 1, none⟩ = some (.int .i64 s1)) := fun w h => ((G0.out.next HB3.out).next h).c 1 _ rfl |>.1
    have G03 := Lib.hid (G0.out.next HB3.out)
    clear x0 hf1 hf2 hf3 HPL
    go_cut [12, 13, 14] from 46 to 57 (fun ra rb rc wz => ∃ X Y q1 z1 t1 a1 n1 c1, ra = .pointer (some ⟨X, 0, none⟩) ∧ rb = .pointer (some ⟨Y, 0, none⟩) ∧ rc = .bool true ∧ Hid (Dual 0 wz q1 z1 t1 (.slice a1 n1 c1)) ∧ Hid (Bx X [.pointer q1, .int .i64 z1] wz) ∧ Hid (Bx Y [.int .i64 t1, .slice a1 n1 c1] wz) ∧ Hid (Kw w3 wz))
    case first =>
      refine region_own w3 17 (fun x => ⟨#[.agg #[.int .i64 s0, .int .i64 s1, .int .i64 s2], .slice ao n c, .slice bo m d, .slice go r g, .pointer (some ⟨W.heap.size, 0, none⟩), undef, undef, undef, .bool false, .pointer (some ⟨w2.heap.size, 0, none⟩), .pointer (some ⟨w2.heap.size + 1, 0, none⟩), .bool true, x 12, x 13, x 16, undef, undef, undef, undef, undef, undef, undef, undef, undef, .slice ao n c, .int .i64 n, .bool false, .bool false, .slice bo m d, .int .i64 m, .bool false, .bool false, .bool false, .slice go r g, .int .i64 r, .bool false, .bool false, undef, .tuple #[.agg #[.pointer p, .int .i64 z], .agg #[.int .i64 s, .slice va vn vc], .bool true], .pointer (some ⟨W.heap.size, 0, none⟩), .int .i64 s0, .slice ao n c, .tuple #[.agg #[.pointer p, .int .i64 z], .agg #[.int .i64 s, .slice va vn vc], .bool true], .agg #[.pointer p, .int .i64 z], .agg #[.int .i64 s, .slice va vn vc], .bool true, x 8, x 0, x 1, x 2, x 3, x 4, x 5, x 6, x 7, x 9, x 10, x 11, undef, undef, undef, undef, undef, undef, undef, undef, undef, undef, undef, undef, undef, undef, undef, undef, undef, undef, undef, undef, undef, undef, undef, undef, undef, undef, undef, undef, undef, undef, undef, undef, undef, undef, undef, undef, undef, undef, undef, undef, undef, undef, undef, undef, undef, undef, undef, undef, undef, undef, undef, undef, undef], []⟩) (TM w3 (.pointer (some ⟨W.heap.size, 1, none⟩)) s1 (.slice ao n c) (.slice bo m d) l k) killM (fun _ => undef) rfl (by kernel_rfl) (of_decide_eq_true (by kernel_rfl)) (of_decide_eq_true (by kernel_rfl)) (of_decide_eq_true (by kernel_rfl)) (TM.congr (of_decide_eq_true (by kernel_rfl)) (of_decide_eq_true (by kernel_rfl)) (of_decide_eq_true (by kernel_rfl)) (of_decide_eq_true (by kernel_rfl)) (of_decide_eq_true (by kernel_rfl)) (of_decide_eq_true (by kernel_rfl)) (of_decide_eq_true (by kernel_rfl)) (of_decide_eq_true (by kernel_rfl)) (of_decide_eq_true (by kernel_rfl))) ?_ ?_
      · intro i hi
        have hi2 : i = 0 ∨ i = 1 ∨ i = 2 ∨ i = 3 ∨ i = 4 ∨ i = 5 ∨ i = 6 ∨ i = 7 ∨ i = 8 ∨ i = 9 ∨ i = 10 ∨ i = 11 ∨ i = 12 ∨ i = 13 ∨ i = 14 ∨ i = 15 ∨ i = 16 := by omega
        clear hi
        rcases hi2 with rfl | rfl | rfl | rfl | rfl | rfl | rfl | rfl | rfl | rfl | rfl | rfl | rfl | rfl | rfl | rfl | rfl
        · refine ⟨_, rfl, fun x w hk hd K' hK => ?_⟩
          clear hd
          go_simp
          exact hK _ w (upd_same x 0 _) hk (fun j _ _ _ _ y t => t)
        · refine ⟨_, rfl, fun x w hk hd K' hK => ?_⟩
          have e0 : x 0 = _ := (hd 0 (of_decide_eq_true (by kernel_rfl)) (.inl rfl))
          have c0 := HCEL.out w hk
          clear hd
          simp only [e0]
          go_simp
          have hK2 := hK _ w (upd_same x 1 _) hk (fun j _ _ _ _ y t => t)
          simp (config := {decide := true}) only [upd, if_true, if_false, e0] at hK2
          exact hK2
        · refine ⟨_, rfl, fun x w hk hd K' hK => ?_⟩
          clear hd
          go_simp
          have hro : (w.alloc (.cells #[] 42)).ownsRow w3.heap.size 42 5 (.slice (some ⟨w.heap.size, 0, none⟩) 0 0) 0 [] := World.ownsRow_lit w #[] 0 (Below.size hk) (by decide) (by simp)
          exact hK _ _ ⟨⟨_, upd_same x 2 _⟩, by rw [upd_same]; exact hro⟩ (hk.next (alloc_below _ _)) (fun j _ _ _ _ y t => TM.next (alloc_below _ _) j y t)
        · refine ⟨_, rfl, fun x w hk hd K' hK => ?_⟩
          clear hd
          go_simp
          exact hK _ w (upd_same x 3 _) hk (fun j _ _ _ _ y t => t)
        · refine ⟨_, rfl, fun x w hk hd K' hK => ?_⟩
          obtain ⟨-, hr⟩ := (hd 2 (of_decide_eq_true (by kernel_rfl)) (.inr rfl))
          have e3 : x 3 = _ := (hd 3 (of_decide_eq_true (by kernel_rfl)) (.inl rfl))
          rw [if_pos (show Region.wanted _ _ = true from rfl)]
          refine wp_append_acts (Operand.tmp 49) (Operand.tmp 50) rfl (n := 0) (m := l.length) (l := []) (k := l) rfl rfl hr rfl (by show IsAs w (x 3) l; rw [e3]; exact HAS.out.below (HBW.out.trans (Below.mono hk HBW.out.size))) (by show x 3 = _ ∨ ∃ a m c, x 3 = _; rw [e3]; exact HV1.out) (by have := HF1.out; have := HN.out; omega) (Below.size hk) ?_
          intro a2 c2 w5 hown hg
          rw [Nat.zero_add, List.nil_append] at hown
          simp only [Nat.zero_add]
          exact hK _ w5 ⟨⟨a2, c2, upd_same x 4 _⟩, by rw [upd_same]; exact hown⟩ (hk.grown hr hg) (fun j hj hne hnr hkl y t => by
            have hjj : j = 0 ∨ j = 1 ∨ j = 3 ∨ j = 5 ∨ j = 12 ∨ j = 13 := by
              rcases (by omega : j = 0 ∨ j = 1 ∨ j = 2 ∨ j = 3 ∨ j = 5 ∨ j = 6 ∨ j = 7 ∨ j = 8 ∨ j = 9 ∨ j = 10 ∨ j = 11 ∨ j = 12 ∨ j = 13 ∨ j = 14 ∨ j = 15 ∨ j = 16) with rfl | rfl | rfl | rfl | rfl | rfl | rfl | rfl | rfl | rfl | rfl | rfl | rfl | rfl | rfl | rfl
              · decide
              · decide
              · exact absurd rfl (hkl 4 rfl).1
              · decide
              · decide
              · exact absurd (of_decide_eq_true (by kernel_rfl)) hnr
              · exact absurd (of_decide_eq_true (by kernel_rfl)) hnr
              · exact absurd (of_decide_eq_true (by kernel_rfl)) hnr
              · exact absurd (of_decide_eq_true (by kernel_rfl)) hnr
              · exact absurd (of_decide_eq_true (by kernel_rfl)) hnr
              · exact absurd (of_decide_eq_true (by kernel_rfl)) hnr
              · decide
              · decide
              · exact absurd (of_decide_eq_true (by kernel_rfl)) hnr
              · exact absurd (of_decide_eq_true (by kernel_rfl)) hnr
              · exact absurd (of_decide_eq_true (by kernel_rfl)) hnr
            exact TM.grown hr hg hjj y t)
        · refine ⟨_, rfl, fun x w hk hd K' hK => ?_⟩
          clear hd
          go_simp
          exact hK _ w (upd_same x 5 _) hk (fun j _ _ _ _ y t => t)
        · refine ⟨_, rfl, fun x w hk hd K' hK => ?_⟩
          obtain ⟨-, hr⟩ := (hd 4 (of_decide_eq_true (by kernel_rfl)) (.inr rfl))
          have e5 : x 5 = _ := (hd 5 (of_decide_eq_true (by kernel_rfl)) (.inl rfl))
          rw [if_pos (show Region.wanted _ _ = true from rfl)]
          refine wp_append_acts (Operand.tmp 51) (Operand.tmp 52) rfl (n := l.length) (m := k.length) (l := l) (k := k) rfl rfl hr rfl (by show IsAs w (x 5) k; rw [e5]; exact HBS.out.below (HBW.out.trans (Below.mono hk HBW.out.size))) (by show x 5 = _ ∨ ∃ a m c, x 5 = _; rw [e5]; exact HV2.out) (by have := HF1.out; have := HN.out; have := HF2.out; have := HM.out; omega) (Below.size hk) ?_
          intro a2 c2 w5 hown hg
          exact hK _ w5 ⟨⟨a2, c2, upd_same x 6 _⟩, by rw [upd_same]; exact IsAs.of_row (by rw [List.length_append]; exact hown)⟩ (hk.grown hr hg) (fun j hj hne hnr hkl y t => by
            have hjj : j = 0 ∨ j = 1 ∨ j = 3 ∨ j = 5 ∨ j = 12 ∨ j = 13 := by
              rcases (by omega : j = 0 ∨ j = 1 ∨ j = 2 ∨ j = 3 ∨ j = 4 ∨ j = 5 ∨ j = 7 ∨ j = 8 ∨ j = 9 ∨ j = 10 ∨ j = 11 ∨ j = 12 ∨ j = 13 ∨ j = 14 ∨ j = 15 ∨ j = 16) with rfl | rfl | rfl | rfl | rfl | rfl | rfl | rfl | rfl | rfl | rfl | rfl | rfl | rfl | rfl | rfl
              · decide
              · decide
              · exact absurd (of_decide_eq_true (by kernel_rfl)) (hkl 4 rfl).2
              · decide
              · exact absurd rfl (hkl 6 rfl).1
              · decide
              · exact absurd (of_decide_eq_true (by kernel_rfl)) hnr
              · exact absurd (of_decide_eq_true (by kernel_rfl)) hnr
              · exact absurd (of_decide_eq_true (by kernel_rfl)) hnr
              · exact absurd (of_decide_eq_true (by kernel_rfl)) hnr
              · exact absurd (of_decide_eq_true (by kernel_rfl)) hnr
              · decide
              · decide
              · exact absurd (of_decide_eq_true (by kernel_rfl)) hnr
              · exact absurd (of_decide_eq_true (by kernel_rfl)) hnr
              · exact absurd (of_decide_eq_true (by kernel_rfl)) hnr
            exact TM.grown hr hg hjj y t)
        · refine ⟨_, rfl, fun x w hk hd K' hK => ?_⟩
          have e1 : x 1 = _ := (hd 1 (of_decide_eq_true (by kernel_rfl)) (.inl rfl))
          obtain ⟨⟨a6, c6, e6⟩, h6⟩ := (hd 6 (of_decide_eq_true (by kernel_rfl)) (.inr rfl))
          have HC := Lib.hid (played_any (size := s1) (by rw [e6] at h6; exact h6) (by rw [List.length_append]; have := HF1.out; have := HN.out; have := HF2.out; have := HM.out; omega))
          clear hd h6
          simp only [e1, e6]
          go_simp
          refine HC.out.mono ?_
          rintro e w' ⟨q1, z1, t1, v1, rfl, hd1, hB⟩
          obtain ⟨a1, n1, c1, rfl⟩ := hd1.out.shape
          have hK2 := hK _ w' ⟨q1, z1, t1, a1, n1, c1, upd_same x 7 _, hd1.out⟩ (hk.next hB) (fun j _ _ _ _ y t => TM.next hB j y t)
          simp (config := {decide := true}) only [upd, if_true, if_false, e1, e6] at hK2
          exact hK2
        · refine ⟨_, rfl, fun x w hk hd K' hK => ?_⟩
          obtain ⟨q1, z1, t1, a1, n1, c1, e7, h7⟩ := (hd 7 (of_decide_eq_true (by kernel_rfl)) (.inl rfl))
          clear hd
          go_simp
          have hK2 := hK (x 7) w ⟨rfl, q1, z1, t1, a1, n1, c1, (upd_same x 8 _).trans e7⟩ hk (fun j _ _ _ _ y t => t)
          simp (config := {decide := true}) only [upd, if_true, if_false, e7] at hK2 ⊢
          exact hK2
        · refine ⟨_, rfl, fun x w hk hd K' hK => ?_⟩
          obtain ⟨-, q1, z1, t1, a1, n1, c1, e8⟩ := (hd 8 (of_decide_eq_true (by kernel_rfl)) (.inl rfl))
          clear hd
          simp only [e8]
          go_simp
          have hK2 := hK _ w (show upd x 9 _ 9 = tupAt 0 (x 8) from (upd_same x 9 _).trans (by rw [e8] <;> rfl)) hk (fun j _ _ _ _ y t => t)
          simp (config := {decide := true}) only [upd, if_true, if_false, e8] at hK2
          exact hK2
        · refine ⟨_, rfl, fun x w hk hd K' hK => ?_⟩
          obtain ⟨-, q1, z1, t1, a1, n1, c1, e8⟩ := (hd 8 (of_decide_eq_true (by kernel_rfl)) (.inl rfl))
          clear hd
          simp only [e8]
          go_simp
          have hK2 := hK _ w (show upd x 10 _ 10 = tupAt 1 (x 8) from (upd_same x 10 _).trans (by rw [e8] <;> rfl)) hk (fun j _ _ _ _ y t => t)
          simp (config := {decide := true}) only [upd, if_true, if_false, e8] at hK2
          exact hK2
        · refine ⟨_, rfl, fun x w hk hd K' hK => ?_⟩
          obtain ⟨-, q1, z1, t1, a1, n1, c1, e8⟩ := (hd 8 (of_decide_eq_true (by kernel_rfl)) (.inl rfl))
          clear hd
          simp only [e8]
          go_simp
          have hK2 := hK _ w (show upd x 11 _ 11 = tupAt 2 (x 8) from (upd_same x 11 _).trans (by rw [e8] <;> rfl)) hk (fun j _ _ _ _ y t => t)
          simp (config := {decide := true}) only [upd, if_true, if_false, e8] at hK2
          exact hK2
        · refine ⟨_, rfl, fun x w hk hd K' hK => ?_⟩
          clear hd
          go_simp
          exact hK _ _ ⟨_, upd_same x 12 _, Zb.new hk _ _⟩ (hk.next (alloc_below _ _)) (fun j _ _ _ _ y t => TM.next (alloc_below _ _) j y t)
        · refine ⟨_, rfl, fun x w hk hd K' hK => ?_⟩
          clear hd
          go_simp
          exact hK _ _ ⟨_, upd_same x 13 _, Zb.new hk _ _⟩ (hk.next (alloc_below _ _)) (fun j _ _ _ _ y t => TM.next (alloc_below _ _) j y t)
        · refine ⟨_, rfl, fun x w hk hd K' hK => ?_⟩
          obtain ⟨X, eb, hz⟩ := (hd 12 (of_decide_eq_true (by kernel_rfl)) (.inr rfl))
          have e9 : x 9 = _ := (hd 9 (of_decide_eq_true (by kernel_rfl)) (.inl rfl))
          obtain ⟨-, q1, z1, t1, a1, n1, c1, e8⟩ := (hd 8 (of_decide_eq_true (by kernel_rfl)) (.inl rfl))
          rw [e8] at e9
          have e9 : x 9 = .agg #[.pointer q1, .int .i64 z1] := e9
          obtain ⟨k0, k1, k2, k3⟩ := hz.bx.c2
          clear hd
          simp only [e9, eb]
          go_simp
          have hK2 := hK undef ((w.setCell ⟨X, 0, none⟩ (.pointer q1)).setCell ⟨X, 1, none⟩ (.int .i64 z1)) ⟨X, q1, z1, eb, e9, hz.bx.two _ _⟩ (Below.setCell (Below.setCell hk (p := ⟨X, 0, none⟩) hz.ge _) (p := ⟨X, 1, none⟩) hz.ge _) (fun j hj hne hnr hkl y t => by
            have hjj : j = 0 ∨ j = 1 ∨ j = 3 ∨ j = 5 ∨ j = 7 ∨ j = 8 ∨ j = 9 ∨ j = 10 ∨ j = 11 ∨ j = 13 ∨ j = 16 := by
              rcases (by omega : j = 0 ∨ j = 1 ∨ j = 2 ∨ j = 3 ∨ j = 4 ∨ j = 5 ∨ j = 6 ∨ j = 7 ∨ j = 8 ∨ j = 9 ∨ j = 10 ∨ j = 11 ∨ j = 12 ∨ j = 13 ∨ j = 15 ∨ j = 16) with rfl | rfl | rfl | rfl | rfl | rfl | rfl | rfl | rfl | rfl | rfl | rfl | rfl | rfl | rfl | rfl
              · decide
              · decide
              · exact absurd (of_decide_eq_true (by kernel_rfl)) (hkl 4 rfl).2
              · decide
              · exact absurd (of_decide_eq_true (by kernel_rfl)) (hkl 6 rfl).2
              · decide
              · exact absurd (of_decide_eq_true (by kernel_rfl)) (hkl 7 rfl).2
              · decide
              · decide
              · decide
              · decide
              · decide
              · exact absurd rfl (hkl 14 rfl).1
              · decide
              · exact absurd (of_decide_eq_true (by kernel_rfl)) hnr
              · decide
            exact TM.storeM hz q1 z1 hjj y t)
          simp (config := {decide := true}) only [upd, if_true, if_false, eb, e9, e8] at hK2
          exact hK2
        · refine ⟨_, rfl, fun x w hk hd K' hK => ?_⟩
          obtain ⟨X, eb, hz⟩ := (hd 13 (of_decide_eq_true (by kernel_rfl)) (.inr rfl))
          have e9 : x 10 = _ := (hd 10 (of_decide_eq_true (by kernel_rfl)) (.inl rfl))
          obtain ⟨-, q1, z1, t1, a1, n1, c1, e8⟩ := (hd 8 (of_decide_eq_true (by kernel_rfl)) (.inl rfl))
          rw [e8] at e9
          have e9 : x 10 = .agg #[.int .i64 t1, .slice a1 n1 c1] := e9
          obtain ⟨k0, k1, k2, k3⟩ := hz.bx.c2
          clear hd
          simp only [e9, eb]
          go_simp
          have hK2 := hK undef ((w.setCell ⟨X, 0, none⟩ (.int .i64 t1)).setCell ⟨X, 1, none⟩ (.slice a1 n1 c1)) ⟨X, t1, a1, n1, c1, eb, e9, hz.bx.two _ _⟩ (Below.setCell (Below.setCell hk (p := ⟨X, 0, none⟩) hz.ge _) (p := ⟨X, 1, none⟩) hz.ge _) (fun j hj hne hnr hkl y t => by
            have hjj : j = 0 ∨ j = 1 ∨ j = 3 ∨ j = 5 ∨ j = 7 ∨ j = 8 ∨ j = 9 ∨ j = 10 ∨ j = 11 ∨ j = 14 ∨ j = 16 := by
              rcases (by omega : j = 0 ∨ j = 1 ∨ j = 2 ∨ j = 3 ∨ j = 4 ∨ j = 5 ∨ j = 6 ∨ j = 7 ∨ j = 8 ∨ j = 9 ∨ j = 10 ∨ j = 11 ∨ j = 12 ∨ j = 13 ∨ j = 14 ∨ j = 16) with rfl | rfl | rfl | rfl | rfl | rfl | rfl | rfl | rfl | rfl | rfl | rfl | rfl | rfl | rfl | rfl
              · decide
              · decide
              · exact absurd (of_decide_eq_true (by kernel_rfl)) (hkl 4 rfl).2
              · decide
              · exact absurd (of_decide_eq_true (by kernel_rfl)) (hkl 6 rfl).2
              · decide
              · exact absurd (of_decide_eq_true (by kernel_rfl)) (hkl 7 rfl).2
              · decide
              · decide
              · decide
              · decide
              · decide
              · exact absurd (of_decide_eq_true (by kernel_rfl)) (hkl 14 rfl).2
              · exact absurd rfl (hkl 15 rfl).1
              · decide
              · decide
            exact TM.storeR hz t1 a1 n1 c1 hjj y t)
          simp (config := {decide := true}) only [upd, if_true, if_false, eb, e9, e8] at hK2
          exact hK2
        · refine ⟨_, rfl, fun x w hk hd K' hK => ?_⟩
          clear hd
          go_simp
          exact hK _ w (show upd x 16 _ 16 = x 11 from upd_same x 16 _) hk (fun j _ _ _ _ y t => t)
      · intro x w listed hk hT hl
        subst hl
        have t7 := hT 7 (by decide) rfl
        have t8 := hT 8 (by decide) rfl
        have t11 := hT 11 (by decide) rfl
        have t14 := hT 14 (by decide) rfl
        have t15 := hT 15 (by decide) rfl
        have t16 := hT 16 (by decide) rfl
        obtain ⟨q1, z1, t1, a1, n1, c1, e7, hdu⟩ := t7
        obtain ⟨e8, -⟩ := t8
        obtain ⟨X, q2, z2, e12, e9, hbx⟩ := t14
        obtain ⟨Y, t2, a2, n2, c2, e13, e10, hby⟩ := t15
        have e11 : x 11 = .bool true := Eq.trans t11 (by rw [e8, e7]; rfl)
        have e16 : x 16 = .bool true := Eq.trans t16 e11
        have e9b : x 9 = .agg #[.pointer q1, .int .i64 z1] := Eq.trans (hT 9 (by decide) rfl) (by rw [e8, e7]; rfl)
        have e10b : x 10 = .agg #[.int .i64 t1, .slice a1 n1 c1] := Eq.trans (hT 10 (by decide) rfl) (by rw [e8, e7]; rfl)
        rw [e9b] at e9; rw [e10b] at e10
        injection e9 with e9; injection e9 with e9; injection e9 with e9a e9c; injection e9c with e9c _; injection e9a with e9a; injection e9c with _ e9c
        injection e10 with e10; injection e10 with e10; injection e10 with e10a e10c; injection e10c with e10c _; injection e10a with _ e10a; injection e10c with g1 g2 g3
        subst e9a; subst e9c; subst e10a; subst g1; subst g2; subst g3
        clear hT t11 t16
        simp only [e12, e13, e16]
        refine wpAny_done (by kernel_rfl) ?_ _
        have HDU := Lib.hid hdu; have HBX := Lib.hid hbx; have HBY := Lib.hid hby; have HKW := Lib.hid hk
        clear e7 e8 e9b e10b e11 e12 e13 e16 hdu hbx hby hk
        go_wp2_with fail
        go_meet
        case rel => exact ⟨_, _, _, _, _, _, _, _, rfl, rfl, rfl, HDU, HBX, HBY, HKW⟩
    case rest =>
      obtain ⟨X, Y, q1, z1, t1, a1, n1, c1, rfl, rfl, rfl, HD4, G4, G5, HKW⟩ := hcut
      obtain ⟨w4, hw4⟩ : ∃ w4, w4 = wc := ⟨_, rfl⟩
      subst hw4
      have HBX2 := Lib.hid (HBW.out.trans (HKW.out.mono HBW.out.size))
      clear HBW
      have HBW := HBX2
      clear HBX2
      have L2 := Lib.hid (G2.out.next HKW.out)
      have L3 := Lib.hid (G3.out.next HKW.out)
      have L0 := Lib.hid (G03.out.next HKW.out)
      have HDP := Lib.hid (HD3.out.below HKW.out)
      clear HCEL G2 G3 G03 HD3 HKW HB3 HB0 G0 HW0'
      have HCEL : Hid (∀ w, Kw w4 w → w.cell? ⟨W.heap.size, 2, none⟩ = some (.int .i64 s2)) := fun w h => (L0.out.next h).c 2 _ rfl |>.1
      go_upto_region 5 with fail
      go_cut [15, 16, 17] from 58 to 69 (fun ra rb rc wz => ∃ X Y q1 z1 t1 a1 n1 c1, ra = .pointer (some ⟨X, 0, none⟩) ∧ rb = .pointer (some ⟨Y, 0, none⟩) ∧ rc = .bool true ∧ Hid (Dual 0 wz q1 z1 t1 (.slice a1 n1 c1)) ∧ Hid (Bx X [.pointer q1, .int .i64 z1] wz) ∧ Hid (Bx Y [.int .i64 t1, .slice a1 n1 c1] wz) ∧ Hid (Kw w4 wz))
      case first =>
        refine region_own w4 17 (fun x => ⟨#[.agg #[.int .i64 s0, .int .i64 s1, .int .i64 s2], .slice ao n c, .slice bo m d, .slice go r g, .pointer (some ⟨W.heap.size, 0, none⟩), undef, undef, undef, .bool false, .pointer (some ⟨w2.heap.size, 0, none⟩), .pointer (some ⟨w2.heap.size + 1, 0, none⟩), .bool true, .pointer (some ⟨X, 0, none⟩), .pointer (some ⟨Y, 0, none⟩), .bool true, x 12, x 13, x 16, undef, undef, undef, undef, undef, undef, .slice ao n c, .int .i64 n, .bool false, .bool false, .slice bo m d, .int .i64 m, .bool false, .bool false, .bool false, .slice go r g, .int .i64 r, .bool false, .bool false, undef, .tuple #[.agg #[.pointer p, .int .i64 z], .agg #[.int .i64 s, .slice va vn vc], .bool true], .pointer (some ⟨W.heap.size, 0, none⟩), .int .i64 s0, .slice ao n c, .tuple #[.agg #[.pointer p, .int .i64 z], .agg #[.int .i64 s, .slice va vn vc], .bool true], .agg #[.pointer p, .int .i64 z], .agg #[.int .i64 s, .slice va vn vc], .bool true, u46, u47, u48, u49, u50, u51, u52, u53, u54, u55, u56, u57, x 8, x 0, x 1, x 2, x 3, x 4, x 5, x 6, x 7, x 9, x 10, x 11, undef, undef, undef, undef, undef, undef, undef, undef, undef, undef, undef, undef, undef, undef, undef, undef, undef, undef, undef, undef, undef, undef, undef, undef, undef, undef, undef, undef, undef, undef, undef, undef, undef, undef, undef, undef, undef, undef, undef, undef, undef], []⟩) (TM w4 (.pointer (some ⟨W.heap.size, 2, none⟩)) s2 (.slice ao n c) (.slice go r g) l k3) killM (fun _ => undef) rfl (by kernel_rfl) (of_decide_eq_true (by kernel_rfl)) (of_decide_eq_true (by kernel_rfl)) (of_decide_eq_true (by kernel_rfl)) (TM.congr (of_decide_eq_true (by kernel_rfl)) (of_decide_eq_true (by kernel_rfl)) (of_decide_eq_true (by kernel_rfl)) (of_decide_eq_true (by kernel_rfl)) (of_decide_eq_true (by kernel_rfl)) (of_decide_eq_true (by kernel_rfl)) (of_decide_eq_true (by kernel_rfl)) (of_decide_eq_true (by kernel_rfl)) (of_decide_eq_true (by kernel_rfl))) ?_ ?_
        · intro i hi
          have hi2 : i = 0 ∨ i = 1 ∨ i = 2 ∨ i = 3 ∨ i = 4 ∨ i = 5 ∨ i = 6 ∨ i = 7 ∨ i = 8 ∨ i = 9 ∨ i = 10 ∨ i = 11 ∨ i = 12 ∨ i = 13 ∨ i = 14 ∨ i = 15 ∨ i = 16 := by omega
          clear hi
          rcases hi2 with rfl | rfl | rfl | rfl | rfl | rfl | rfl | rfl | rfl | rfl | rfl | rfl | rfl | rfl | rfl | rfl | rfl
          · refine ⟨_, rfl, fun x w hk hd K' hK => ?_⟩
            clear hd
            go_simp
            exact hK _ w (upd_same x 0 _) hk (fun j _ _ _ _ y t => t)
          · refine ⟨_, rfl, fun x w hk hd K' hK => ?_⟩
            have e0 : x 0 = _ := (hd 0 (of_decide_eq_true (by kernel_rfl)) (.inl rfl))
            have c0 := HCEL.out w hk
            clear hd
            simp only [e0]
            go_simp
            have hK2 := hK _ w (upd_same x 1 _) hk (fun j _ _ _ _ y t => t)
            simp (config := {decide := true}) only [upd, if_true, if_false, e0] at hK2
            exact hK2
          · refine ⟨_, rfl, fun x w hk hd K' hK => ?_⟩
            clear hd
            go_simp
            have hro : (w.alloc (.cells #[] 42)).ownsRow w4.heap.size 42 5 (.slice (some ⟨w.heap.size, 0, none⟩) 0 0) 0 [] := World.ownsRow_lit w #[] 0 (Below.size hk) (by decide) (by simp)
            exact hK _ _ ⟨⟨_, upd_same x 2 _⟩, by rw [upd_same]; exact hro⟩ (hk.next (alloc_below _ _)) (fun j _ _ _ _ y t => TM.next (alloc_below _ _) j y t)
          · refine ⟨_, rfl, fun x w hk hd K' hK => ?_⟩
            clear hd
            go_simp
            exact hK _ w (upd_same x 3 _) hk (fun j _ _ _ _ y t => t)
          · refine ⟨_, rfl, fun x w hk hd K' hK => ?_⟩
            obtain ⟨-, hr⟩ := (hd 2 (of_decide_eq_true (by kernel_rfl)) (.inr rfl))
            have e3 : x 3 = _ := (hd 3 (of_decide_eq_true (by kernel_rfl)) (.inl rfl))
            rw [if_pos (show Region.wanted _ _ = true from rfl)]
            refine wp_append_acts (Operand.tmp 61) (Operand.tmp 62) rfl (n := 0) (m := l.length) (l := []) (k := l) rfl rfl hr rfl (by show IsAs w (x 3) l; rw [e3]; exact HAS.out.below (HBW.out.trans (Below.mono hk HBW.out.size))) (by show x 3 = _ ∨ ∃ a m c, x 3 = _; rw [e3]; exact HV1.out) (by have := HF1.out; have := HN.out; omega) (Below.size hk) ?_
            intro a2 c2 w5 hown hg
            rw [Nat.zero_add, List.nil_append] at hown
            simp only [Nat.zero_add]
            exact hK _ w5 ⟨⟨a2, c2, upd_same x 4 _⟩, by rw [upd_same]; exact hown⟩ (hk.grown hr hg) (fun j hj hne hnr hkl y t => by
              have hjj : j = 0 ∨ j = 1 ∨ j = 3 ∨ j = 5 ∨ j = 12 ∨ j = 13 := by
                rcases (by omega : j = 0 ∨ j = 1 ∨ j = 2 ∨ j = 3 ∨ j = 5 ∨ j = 6 ∨ j = 7 ∨ j = 8 ∨ j = 9 ∨ j = 10 ∨ j = 11 ∨ j = 12 ∨ j = 13 ∨ j = 14 ∨ j = 15 ∨ j = 16) with rfl | rfl | rfl | rfl | rfl | rfl | rfl | rfl | rfl | rfl | rfl | rfl | rfl | rfl | rfl | rfl
                · decide
                · decide
                · exact absurd rfl (hkl 4 rfl).1
                · decide
                · decide
                · exact absurd (of_decide_eq_true (by kernel_rfl)) hnr
                · exact absurd (of_decide_eq_true (by kernel_rfl)) hnr
                · exact absurd (of_decide_eq_true (by kernel_rfl)) hnr
                · exact absurd (of_decide_eq_true (by kernel_rfl)) hnr
                · exact absurd (of_decide_eq_true (by kernel_rfl)) hnr
                · exact absurd (of_decide_eq_true (by kernel_rfl)) hnr
                · decide
                · decide
                · exact absurd (of_decide_eq_true (by kernel_rfl)) hnr
                · exact absurd (of_decide_eq_true (by kernel_rfl)) hnr
                · exact absurd (of_decide_eq_true (by kernel_rfl)) hnr
              exact TM.grown hr hg hjj y t)
          · refine ⟨_, rfl, fun x w hk hd K' hK => ?_⟩
            clear hd
            go_simp
            exact hK _ w (upd_same x 5 _) hk (fun j _ _ _ _ y t => t)
          · refine ⟨_, rfl, fun x w hk hd K' hK => ?_⟩
            obtain ⟨-, hr⟩ := (hd 4 (of_decide_eq_true (by kernel_rfl)) (.inr rfl))
            have e5 : x 5 = _ := (hd 5 (of_decide_eq_true (by kernel_rfl)) (.inl rfl))
            rw [if_pos (show Region.wanted _ _ = true from rfl)]
            refine wp_append_acts (Operand.tmp 63) (Operand.tmp 64) rfl (n := l.length) (m := k3.length) (l := l) (k := k3) rfl rfl hr rfl (by show IsAs w (x 5) k3; rw [e5]; exact HCS.out.below (HBW.out.trans (Below.mono hk HBW.out.size))) (by show x 5 = _ ∨ ∃ a m c, x 5 = _; rw [e5]; exact HV3.out) (by have := HF1.out; have := HN.out; have := HF3.out; have := HR.out; omega) (Below.size hk) ?_
            intro a2 c2 w5 hown hg
            exact hK _ w5 ⟨⟨a2, c2, upd_same x 6 _⟩, by rw [upd_same]; exact IsAs.of_row (by rw [List.length_append]; exact hown)⟩ (hk.grown hr hg) (fun j hj hne hnr hkl y t => by
              have hjj : j = 0 ∨ j = 1 ∨ j = 3 ∨ j = 5 ∨ j = 12 ∨ j = 13 := by
                rcases (by omega : j = 0 ∨ j = 1 ∨ j = 2 ∨ j = 3 ∨ j = 4 ∨ j = 5 ∨ j = 7 ∨ j = 8 ∨ j = 9 ∨ j = 10 ∨ j = 11 ∨ j = 12 ∨ j = 13 ∨ j = 14 ∨ j = 15 ∨ j = 16) with rfl | rfl | rfl | rfl | rfl | rfl | rfl | rfl | rfl | rfl | rfl | rfl | rfl | rfl | rfl | rfl
                · decide
                · decide
                · exact absurd (of_decide_eq_true (by kernel_rfl)) (hkl 4 rfl).2
                · decide
                · exact absurd rfl (hkl 6 rfl).1
                · decide
                · exact absurd (of_decide_eq_true (by kernel_rfl)) hnr
                · exact absurd (of_decide_eq_true (by kernel_rfl)) hnr
                · exact absurd (of_decide_eq_true (by kernel_rfl)) hnr
                · exact absurd (of_decide_eq_true (by kernel_rfl)) hnr
                · exact absurd (of_decide_eq_true (by kernel_rfl)) hnr
                · decide
                · decide
                · exact absurd (of_decide_eq_true (by kernel_rfl)) hnr
                · exact absurd (of_decide_eq_true (by kernel_rfl)) hnr
                · exact absurd (of_decide_eq_true (by kernel_rfl)) hnr
              exact TM.grown hr hg hjj y t)
          · refine ⟨_, rfl, fun x w hk hd K' hK => ?_⟩
            have e1 : x 1 = _ := (hd 1 (of_decide_eq_true (by kernel_rfl)) (.inl rfl))
            obtain ⟨⟨a6, c6, e6⟩, h6⟩ := (hd 6 (of_decide_eq_true (by kernel_rfl)) (.inr rfl))
            have HC := Lib.hid (played_any (size := s2) (by rw [e6] at h6; exact h6) (by rw [List.length_append]; have := HF1.out; have := HN.out; have := HF3.out; have := HR.out; omega))
            clear hd h6
            simp only [e1, e6]
            go_simp
            refine HC.out.mono ?_
            rintro e w' ⟨q1, z1, t1, v1, rfl, hd1, hB⟩
            obtain ⟨a1, n1, c1, rfl⟩ := hd1.out.shape
            have hK2 := hK _ w' ⟨q1, z1, t1, a1, n1, c1, upd_same x 7 _, hd1.out⟩ (hk.next hB) (fun j _ _ _ _ y t => TM.next hB j y t)
            simp (config := {decide := true}) only [upd, if_true, if_false, e1, e6] at hK2
            exact hK2
          · refine ⟨_, rfl, fun x w hk hd K' hK => ?_⟩
            obtain ⟨q1, z1, t1, a1, n1, c1, e7, h7⟩ := (hd 7 (of_decide_eq_true (by kernel_rfl)) (.inl rfl))
            clear hd
            go_simp
            have hK2 := hK (x 7) w ⟨rfl, q1, z1, t1, a1, n1, c1, (upd_same x 8 _).trans e7⟩ hk (fun j _ _ _ _ y t => t)
            simp (config := {decide := true}) only [upd, if_true, if_false, e7] at hK2 ⊢
            exact hK2
          · refine ⟨_, rfl, fun x w hk hd K' hK => ?_⟩
            obtain ⟨-, q1, z1, t1, a1, n1, c1, e8⟩ := (hd 8 (of_decide_eq_true (by kernel_rfl)) (.inl rfl))
            clear hd
            simp only [e8]
            go_simp
            have hK2 := hK _ w (show upd x 9 _ 9 = tupAt 0 (x 8) from (upd_same x 9 _).trans (by rw [e8] <;> rfl)) hk (fun j _ _ _ _ y t => t)
            simp (config := {decide := true}) only [upd, if_true, if_false, e8] at hK2
            exact hK2
          · refine ⟨_, rfl, fun x w hk hd K' hK => ?_⟩
            obtain ⟨-, q1, z1, t1, a1, n1, c1, e8⟩ := (hd 8 (of_decide_eq_true (by kernel_rfl)) (.inl rfl))
            clear hd
            simp only [e8]
            go_simp
            have hK2 := hK _ w (show upd x 10 _ 10 = tupAt 1 (x 8) from (upd_same x 10 _).trans (by rw [e8] <;> rfl)) hk (fun j _ _ _ _ y t => t)
            simp (config := {decide := true}) only [upd, if_true, if_false, e8] at hK2
            exact hK2
          · refine ⟨_, rfl, fun x w hk hd K' hK => ?_⟩
            obtain ⟨-, q1, z1, t1, a1, n1, c1, e8⟩ := (hd 8 (of_decide_eq_true (by kernel_rfl)) (.inl rfl))
            clear hd
            simp only [e8]
            go_simp
            have hK2 := hK _ w (show upd x 11 _ 11 = tupAt 2 (x 8) from (upd_same x 11 _).trans (by rw [e8] <;> rfl)) hk (fun j _ _ _ _ y t => t)
            simp (config := {decide := true}) only [upd, if_true, if_false, e8] at hK2
            exact hK2
          · refine ⟨_, rfl, fun x w hk hd K' hK => ?_⟩
            clear hd
            go_simp
            exact hK _ _ ⟨_, upd_same x 12 _, Zb.new hk _ _⟩ (hk.next (alloc_below _ _)) (fun j _ _ _ _ y t => TM.next (alloc_below _ _) j y t)
          · refine ⟨_, rfl, fun x w hk hd K' hK => ?_⟩
            clear hd
            go_simp
            exact hK _ _ ⟨_, upd_same x 13 _, Zb.new hk _ _⟩ (hk.next (alloc_below _ _)) (fun j _ _ _ _ y t => TM.next (alloc_below _ _) j y t)
          · refine ⟨_, rfl, fun x w hk hd K' hK => ?_⟩
            obtain ⟨X, eb, hz⟩ := (hd 12 (of_decide_eq_true (by kernel_rfl)) (.inr rfl))
            have e9 : x 9 = _ := (hd 9 (of_decide_eq_true (by kernel_rfl)) (.inl rfl))
            obtain ⟨-, q1, z1, t1, a1, n1, c1, e8⟩ := (hd 8 (of_decide_eq_true (by kernel_rfl)) (.inl rfl))
            rw [e8] at e9
            have e9 : x 9 = .agg #[.pointer q1, .int .i64 z1] := e9
            obtain ⟨k0, k1, k2, k3⟩ := hz.bx.c2
            clear hd
            simp only [e9, eb]
            go_simp
            have hK2 := hK undef ((w.setCell ⟨X, 0, none⟩ (.pointer q1)).setCell ⟨X, 1, none⟩ (.int .i64 z1)) ⟨X, q1, z1, eb, e9, hz.bx.two _ _⟩ (Below.setCell (Below.setCell hk (p := ⟨X, 0, none⟩) hz.ge _) (p := ⟨X, 1, none⟩) hz.ge _) (fun j hj hne hnr hkl y t => by
              have hjj : j = 0 ∨ j = 1 ∨ j = 3 ∨ j = 5 ∨ j = 7 ∨ j = 8 ∨ j = 9 ∨ j = 10 ∨ j = 11 ∨ j = 13 ∨ j = 16 := by
                rcases (by omega : j = 0 ∨ j = 1 ∨ j = 2 ∨ j = 3 ∨ j = 4 ∨ j = 5 ∨ j = 6 ∨ j = 7 ∨ j = 8 ∨ j = 9 ∨ j = 10 ∨ j = 11 ∨ j = 12 ∨ j = 13 ∨ j = 15 ∨ j = 16) with rfl | rfl | rfl | rfl | rfl | rfl | rfl | rfl | rfl | rfl | rfl | rfl | rfl | rfl | rfl | rfl
                · decide
                · decide
                · exact absurd (of_decide_eq_true (by kernel_rfl)) (hkl 4 rfl).2
                · decide
                · exact absurd (of_decide_eq_true (by kernel_rfl)) (hkl 6 rfl).2
                · decide
                · exact absurd (of_decide_eq_true (by kernel_rfl)) (hkl 7 rfl).2
                · decide
                · decide
                · decide
                · decide
                · decide
                · exact absurd rfl (hkl 14 rfl).1
                · decide
                · exact absurd (of_decide_eq_true (by kernel_rfl)) hnr
                · decide
              exact TM.storeM hz q1 z1 hjj y t)
            simp (config := {decide := true}) only [upd, if_true, if_false, eb, e9, e8] at hK2
            exact hK2
          · refine ⟨_, rfl, fun x w hk hd K' hK => ?_⟩
            obtain ⟨X, eb, hz⟩ := (hd 13 (of_decide_eq_true (by kernel_rfl)) (.inr rfl))
            have e9 : x 10 = _ := (hd 10 (of_decide_eq_true (by kernel_rfl)) (.inl rfl))
            obtain ⟨-, q1, z1, t1, a1, n1, c1, e8⟩ := (hd 8 (of_decide_eq_true (by kernel_rfl)) (.inl rfl))
            rw [e8] at e9
            have e9 : x 10 = .agg #[.int .i64 t1, .slice a1 n1 c1] := e9
            obtain ⟨k0, k1, k2, k3⟩ := hz.bx.c2
            clear hd
            simp only [e9, eb]
            go_simp
            have hK2 := hK undef ((w.setCell ⟨X, 0, none⟩ (.int .i64 t1)).setCell ⟨X, 1, none⟩ (.slice a1 n1 c1)) ⟨X, t1, a1, n1, c1, eb, e9, hz.bx.two _ _⟩ (Below.setCell (Below.setCell hk (p := ⟨X, 0, none⟩) hz.ge _) (p := ⟨X, 1, none⟩) hz.ge _) (fun j hj hne hnr hkl y t => by
              have hjj : j = 0 ∨ j = 1 ∨ j = 3 ∨ j = 5 ∨ j = 7 ∨ j = 8 ∨ j = 9 ∨ j = 10 ∨ j = 11 ∨ j = 14 ∨ j = 16 := by
                rcases (by omega : j = 0 ∨ j = 1 ∨ j = 2 ∨ j = 3 ∨ j = 4 ∨ j = 5 ∨ j = 6 ∨ j = 7 ∨ j = 8 ∨ j = 9 ∨ j = 10 ∨ j = 11 ∨ j = 12 ∨ j = 13 ∨ j = 14 ∨ j = 16) with rfl | rfl | rfl | rfl | rfl | rfl | rfl | rfl | rfl | rfl | rfl | rfl | rfl | rfl | rfl | rfl
                · decide
                · decide
                · exact absurd (of_decide_eq_true (by kernel_rfl)) (hkl 4 rfl).2
                · decide
                · exact absurd (of_decide_eq_true (by kernel_rfl)) (hkl 6 rfl).2
                · decide
                · exact absurd (of_decide_eq_true (by kernel_rfl)) (hkl 7 rfl).2
                · decide
                · decide
                · decide
                · decide
                · decide
                · exact absurd (of_decide_eq_true (by kernel_rfl)) (hkl 14 rfl).2
                · exact absurd rfl (hkl 15 rfl).1
                · decide
                · decide
              exact TM.storeR hz t1 a1 n1 c1 hjj y t)
            simp (config := {decide := true}) only [upd, if_true, if_false, eb, e9, e8] at hK2
            exact hK2
          · refine ⟨_, rfl, fun x w hk hd K' hK => ?_⟩
            clear hd
            go_simp
            exact hK _ w (show upd x 16 _ 16 = x 11 from upd_same x 16 _) hk (fun j _ _ _ _ y t => t)
        · intro x w listed hk hT hl
          subst hl
          have t7 := hT 7 (by decide) rfl
          have t8 := hT 8 (by decide) rfl
          have t11 := hT 11 (by decide) rfl
          have t14 := hT 14 (by decide) rfl
          have t15 := hT 15 (by decide) rfl
          have t16 := hT 16 (by decide) rfl
          obtain ⟨q1, z1, t1, a1, n1, c1, e7, hdu⟩ := t7
          obtain ⟨e8, -⟩ := t8
          obtain ⟨X, q2, z2, e12, e9, hbx⟩ := t14
          obtain ⟨Y, t2, a2, n2, c2, e13, e10, hby⟩ := t15
          have e11 : x 11 = .bool true := Eq.trans t11 (by rw [e8, e7]; rfl)
          have e16 : x 16 = .bool true := Eq.trans t16 e11
          have e9b : x 9 = .agg #[.pointer q1, .int .i64 z1] := Eq.trans (hT 9 (by decide) rfl) (by rw [e8, e7]; rfl)
          have e10b : x 10 = .agg #[.int .i64 t1, .slice a1 n1 c1] := Eq.trans (hT 10 (by decide) rfl) (by rw [e8, e7]; rfl)
          rw [e9b] at e9; rw [e10b] at e10
          injection e9 with e9; injection e9 with e9; injection e9 with e9a e9c; injection e9c with e9c _; injection e9a with e9a; injection e9c with _ e9c
          injection e10 with e10; injection e10 with e10; injection e10 with e10a e10c; injection e10c with e10c _; injection e10a with _ e10a; injection e10c with g1 g2 g3
          subst e9a; subst e9c; subst e10a; subst g1; subst g2; subst g3
          clear hT t11 t16
          simp only [e12, e13, e16]
          refine wpAny_done (by kernel_rfl) ?_ _
          have HDU := Lib.hid hdu; have HBX := Lib.hid hbx; have HBY := Lib.hid hby; have HKW := Lib.hid hk
          clear e7 e8 e9b e10b e11 e12 e13 e16 hdu hbx hby hk
          go_wp2_with fail
          go_meet
          case rel => exact ⟨_, _, _, _, _, _, _, _, rfl, rfl, rfl, HDU, HBX, HBY, HKW⟩
      case rest =>
      obtain ⟨X2, Y2, q2, z2, t2, a2, n2, c2, rfl, rfl, rfl, HD5, G6, G7, HKW⟩ := hcut
      obtain ⟨CX, DX, HM1, HM2, HC, HD, HE⟩ := both_Merge (HDP.out.below HKW.out) (HD4.out.below HKW.out) HD5.out
      have HBW2 := Lib.hid (HBW.out.trans (HKW.out.mono HBW.out.size))
      have HAL : Hid (∀ W', Below wc.heap.size wc W' → (W'.cell? ⟨w2.heap.size, 0, none⟩ = some (.pointer p) ∧ W'.cell? ⟨w2.heap.size, 1, none⟩ = some (.int .i64 z)) ∧ (W'.cell? ⟨w2.heap.size + 1, 0, none⟩ = some (.int .i64 s) ∧ W'.cell? ⟨w2.heap.size + 1, 1, none⟩ = some (.slice va vn vc)) ∧ (W'.cell? ⟨X, 0, none⟩ = some (.pointer q1) ∧ W'.cell? ⟨X, 1, none⟩ = some (.int .i64 z1)) ∧ (W'.cell? ⟨Y, 0, none⟩ = some (.int .i64 t1) ∧ W'.cell? ⟨Y, 1, none⟩ = some (.slice a1 n1 c1)) ∧ (W'.cell? ⟨X2, 0, none⟩ = some (.pointer q2) ∧ W'.cell? ⟨X2, 1, none⟩ = some (.int .i64 z2)) ∧ (W'.cell? ⟨Y2, 0, none⟩ = some (.int .i64 t2) ∧ W'.cell? ⟨Y2, 1, none⟩ = some (.slice a2 n2 c2))) := fun W' h =>
        ⟨⟨((L2.out.next HKW.out).next h).c2.1, ((L2.out.next HKW.out).next h).c2.2.1⟩, ⟨((L3.out.next HKW.out).next h).c2.1, ((L3.out.next HKW.out).next h).c2.2.1⟩, ⟨((G4.out.next HKW.out).next h).c2.1, ((G4.out.next HKW.out).next h).c2.2.1⟩, ⟨((G5.out.next HKW.out).next h).c2.1, ((G5.out.next HKW.out).next h).c2.2.1⟩, ⟨(G6.out.next h).c2.1, (G6.out.next h).c2.2.1⟩, (G7.out.next h).c2.1, (G7.out.next h).c2.2.1⟩
      clear HD5 G6 G7 HKW HDP HD4 L2 L3 G4 G5 L0 HBW HCEL HAS HBS HCS HV1 HV2 HV3 HN HM HR HF1 HF2 HF3
      have HR0 : Hid (Below wc.heap.size wc wc) := Below.refl _ _
      obtain ⟨⟨k0, k1⟩, ⟨k2, k3⟩, ⟨k4, k5⟩, ⟨k6, k7⟩, ⟨k8, k9⟩, k10, k11⟩ := HAL.out wc HR0.out
      go_wp2_with fail
      refine (HM1.out wc HR0.out).mono ?_
      rintro e x1 ⟨mp, ms, ma, mn, mc, E, rfl, HCX, hb⟩
      obtain ⟨x2, HX2⟩ : ∃ x2, x2 = x1.alloc (.cells #[.pointer mp, .int .i64 ms] 27) := ⟨_, rfl⟩
      have b2 : Below x1.heap.size x1 x2 := by rw [HX2]; exact alloc_below _ _
      have n2' : Bx x1.heap.size [.pointer mp, .int .i64 ms] x2 := by rw [HX2]; exact Bx.new x1 [.pointer mp, .int .i64 ms] 27 (by simp)
      have HR2 := Lib.hid (hb.trans (b2.mono hb.size))
      have HCX2 := Lib.hid (HC.out _ _ _ _ _ _ HCX.out b2)
      have J2 := Lib.hid n2'
      have HX2' := Lib.hid HX2
      clear HX2 b2 n2' hb k0 k1 k2 k3 k4 k5 k6 k7 k8 k9 k10 k11 HCX HM1
      go_upto_region 7 with fail
      rw [← HX2'.out]
      clear HX2'
      obtain ⟨⟨k0, k1⟩, ⟨k2, k3⟩, ⟨k4, k5⟩, ⟨k6, k7⟩, ⟨k8, k9⟩, k10, k11⟩ := HAL.out x2 HR2.out
      go_wp2_with fail
      refine (HM2.out x2 HR2.out).mono ?_
      rintro e x3 ⟨rs, ra, rn, rc, ka, kn, kc, E', rfl, HDX, hb⟩
      obtain ⟨x4, HX4⟩ : ∃ x4, x4 = x3.alloc (.cells #[.int .i64 rs, .slice ra rn rc] 33) := ⟨_, rfl⟩
      have b4 : Below x3.heap.size x3 x4 := by rw [HX4]; exact alloc_below _ _
      have n4' : Bx x3.heap.size [.int .i64 rs, .slice ra rn rc] x4 := by rw [HX4]; exact Bx.new x3 [.int .i64 rs, .slice ra rn rc] 33 (by simp)
      have b24 := hb.trans (b4.mono hb.size)
      have HR4 := Lib.hid (HR2.out.trans (b24.mono HR2.out.size))
      obtain ⟨he, hdu, K, hK, hc1, hc2⟩ := HE.out _ _ _ _ _ _ _ _ _ (HC.out _ _ _ _ _ _ HCX2.out b24) (HD.out _ _ _ _ _ _ HDX.out b4)
      have J4 := Lib.hid n4'
      have J2' := Lib.hid (J2.out.next b24)
      have HDU := Lib.hid hdu; have HKL := Lib.hid hK; have HC1 := Lib.hid hc1; have HC2 := Lib.hid hc2
      have HB4 := Lib.hid (HBW2.out.trans (HR4.out.mono HBW2.out.size))
      have HX4' := Lib.hid HX4
      clear HX4 b4 n4' hb b24 k0 k1 k2 k3 k4 k5 k6 k7 k8 k9 k10 k11 HDX HM2 HCX2 HC HD HE J2 hdu hK hc1 hc2 HR2 HR4 HAL HR0 HBW2
      subst he
      go_upto_region 8 with fail
      rw [← HX4'.out]
      clear HX4'
      have k0 := J2'.out.c2.1; have k1 := J2'.out.c2.2.1; have k2 := J4.out.c2.1; have k3 := J4.out.c2.2.1
      have HSM := Lib.hid (same_dual HDU.out)
      go_wp2_with fail
      refine HSM.out.mono ?_
      rintro e x5 ⟨rfl, hb⟩
      have HB5 := Lib.hid (HB4.out.trans (hb.out.mono HB4.out.size))
      have HCH := Lib.hid (RChanged_same (HC1.out.below hb.out) (HC2.out.below hb.out) HKL.out)
      clear hb k0 k1 k2 k3
      go_wp2_with fail
      refine HCH.out.mono ?_
      rintro e x6 ⟨rfl, hb⟩
      have HB6 := Lib.hid (HB5.out.trans (hb.out.mono HB5.out.size))
      clear hb
      go_wp2_with fail
      refine (HAW.out _).mono ?_
      rintro e x7 ⟨rfl, hb⟩
      have HB7 := Lib.hid (HB6.out.trans (hb.mono HB6.out.size))
      clear hb
      go_wp2_with fail
      go_ret
      exact ⟨rfl, HB7.out⟩
end Go.Proofs.Ytahgfggcpmnnaaa
namespace Go.Proofs.Ytahgfggcpmnnaaa
open Go Go.ChangeShapes Go.WideShapes Go.ChangeAt Go.RowKit Go.Deep Gs

theorem three_ints : Try.prog.cellsOf 78 = 3 := by kernel_rfl
section
variable {H : Type} {enc : TypeId × Value → H} {W : World} {base : Nat} {sp : Nat → Bool} {held : Bool}
set_option maxRecDepth 100000 in
theorem three_of {v : Value} {d : DataW H} {p : List MemPlace} {r : Reach} {b : Nat} (hv : Value.okWide Try.prog W r b 78 v) (h : DataW.Trod enc Try.prog W base sp held 78 v d p) : ∃ q0 q1 q2, v = .agg #[.int .i64 q0, .int .i64 q1, .int .i64 q2] := by
  have h0 : ∃ cs, v = .agg cs ∧ cs.size = Try.prog.cellsOf 78 := by
    simp only [Value.okWide, Try.underlying78] at hv
    obtain ⟨cs, h1, h2, _⟩ := hv
    exact ⟨cs, h1, h2⟩
  obtain ⟨cs, rfl, _⟩ := h0
  obtain ⟨fuel, hf⟩ := h
  obtain ⟨xs, n, _, _, hl, hx, hg⟩ := DataW.trod_array Try.underlying78 hf
  have hx : xs.length = 3 := hx
  have g : ∀ i, i < 3 → ∃ k, (Value.agg cs).cells.toList[i]? = some (.int .i64 k) := fun i hi => by
    have := hg i hi
    rw [one_int, Nat.mul_one] at this
    refine fld_int (enc := enc) (W := W) (base := base) (sp := sp) (held := held) (xs := xs) (i := i) (by omega) (n := n) ?_
    rw [one_int]
    exact this
  obtain ⟨b0, e0⟩ := g 0 (by decide)
  obtain ⟨b1, e1⟩ := g 1 (by decide)
  obtain ⟨b2, e2⟩ := g 2 (by decide)
  refine ⟨b0, b1, b2, ?_⟩
  obtain ⟨l⟩ := cs
  rw [three_ints] at hl
  simp only [Value.cells] at e0 e1 e2 hl
  clear g hg hx hf hv
  rcases l with _ | ⟨c0, _ | ⟨c1, _ | ⟨c2, _ | ⟨c3, l⟩⟩⟩⟩
  · simp at hl
  · simp at hl
  · simp at hl
  · simp at e0 e1 e2
    subst e0; subst e1; subst e2
    rfl
  · simp at hl
theorem acts_of2 {v : Value} {d : DataW H} {p : List MemPlace} (h : DataW.Trod enc Try.prog W 0 (fun _ => true) true 22 v d p) (hv : ∃ a n c, v = .slice a n c) : ∃ l, IsAs W v l ∧ (v = .slice none 0 0 ∨ ∃ a m c, v = .slice (some a) m c) := by
  obtain ⟨l, hl⟩ := acts_of h hv
  refine ⟨l, hl, ?_⟩
  obtain ⟨a0, len0, cap0, rfl⟩ := hv
  obtain ⟨fuel, hf⟩ := h
  rcases open_slice Try.underlying22 hf with ⟨hcs, _⟩ | ⟨a, len, cap, m, n, D, Pl, hcs, _⟩
  · simp [Value.cells] at hcs
    obtain ⟨rfl, rfl, rfl⟩ := hcs
    exact .inl rfl
  · simp [Value.cells] at hcs
    obtain ⟨rfl, rfl, rfl⟩ := hcs
    exact .inr ⟨_, _, _, rfl⟩
end
end Go.Proofs.Ytahgfggcpmnnaaa
namespace Go.Proofs.Ytahgfggcpmnnaaa
open Go Go.ChangeShapes Go.WideShapes Go.ChangeAt Go.RowKit Gs
set_option linter.unusedVariables false

set_option maxRecDepth 100000 in
theorem spanMerges_lifted (os : Os) (started : os.Started) (H : Type) (enc : TypeId × Value → H) :
    ReturnsInHanded {} Try.checked os 8 .any (Rows.spanMergesSpec.pre6 enc Try.prog Try.f8 Rows.spanMergesRow.domain false) (Rows.spanMergesSpec.post enc Try.prog Try.f8 false true false false) := by
  refine returnsInHanded_of_change (C := Try.checked) own started (by kernel_rfl) Try.func8
    (ChangeSpec.witness6 (enc := enc) (C := Try.checked) false ⟨#[], #[.agg #[.int .i64 0, .int .i64 0, .int .i64 0], .slice none 0 0, .slice none 0 0, .slice none 0 0], []⟩ 8 (by kernel_rfl) (by kernel_rfl) (by kernel_rfl) (by kernel_rfl)) ?_
  intro W base args ds gs before hval0 hW hcnd _
  have hval : ∀ (j : Nat) t v, Try.f8.params[j]? = some t → args[j]? = some v → Value.okWide Try.prog W .any base t v := hval0
  have hW' := hW
  obtain ⟨p, q, hA0, hV, rfl, hfz, hnd⟩ := hW
  have hA : DataW.TrodAll enc Try.prog W 0 (fun _ => true) true Try.f8.params.toList args.toList ds p := hA0
  rw [Try.params8] at hA hval
  obtain ⟨v0, vs0, d0, ds0, p0, q0, hargs, rfl, rfl, h0, r0⟩ := trodAll_cons hA
  obtain ⟨v1, vs1, d1, ds1, p1, q1, rfl, rfl, rfl, h1, r1⟩ := trodAll_cons r0
  obtain ⟨v2, vs2, d2, ds2, p2, q2, rfl, rfl, rfl, h2, r2⟩ := trodAll_cons r1
  obtain ⟨v3, vs3, d3, ds3, p3, q3, rfl, rfl, rfl, h3, r3⟩ := trodAll_cons r2
  obtain ⟨rfl, rfl, rfl⟩ := trodAll_nil r3
  obtain rfl : args = #[v0, v1, v2, v3] := by cases args; simp_all
  obtain ⟨rfl, rfl⟩ := trodVars_none hV
  have k0 := h0
  have lt0 : ∀ x ∈ p0, x.block < W.heap.size := by obtain ⟨m, hm⟩ := k0; exact DataW.trod_lt m _ _ _ hm
  obtain ⟨x0, y0, z0, rfl⟩ := three_of (hval 0 78 v0 rfl rfl) h0
  have k1 := h1
  have lt1 : ∀ x ∈ p1, x.block < W.heap.size := by obtain ⟨m, hm⟩ := k1; exact DataW.trod_lt m _ _ _ hm
  obtain ⟨l1, hl1, hv1⟩ := acts_of2 h1 (okWide_slice Try.underlying22 (hval 1 22 v1 rfl rfl))
  have k2 := h2
  have lt2 : ∀ x ∈ p2, x.block < W.heap.size := by obtain ⟨m, hm⟩ := k2; exact DataW.trod_lt m _ _ _ hm
  obtain ⟨l2, hl2, hv2⟩ := acts_of2 h2 (okWide_slice Try.underlying22 (hval 2 22 v2 rfl rfl))
  have k3 := h3
  have lt3 : ∀ x ∈ p3, x.block < W.heap.size := by obtain ⟨m, hm⟩ := k3; exact DataW.trod_lt m _ _ _ hm
  obtain ⟨l3, hl3, hv3⟩ := acts_of2 h3 (okWide_slice Try.underlying22 (hval 3 22 v3 rfl rfl))
  clear hA0 hval0
  refine (spanMerges_walk x0 y0 z0 _ l1 _ l2 _ l3 W hl1 hl2 hl3 hv1 hv2 hv3).mono fun e W' ⟨he, bel⟩ => ?_
  subst he
  exact ⟨_, rfl, _, _, _, [], _, [], hW', trodAll_mk1 (shut_bool Try.underlying4 _), (trodAll_cons_mk (Below.trod laidOut' (by kernel_rfl) (of_decide_eq_true (by kernel_rfl)) k0 bel lt0) (trodAll_cons_mk (Below.trod laidOut' (by kernel_rfl) (of_decide_eq_true (by kernel_rfl)) k1 bel lt1) (trodAll_cons_mk (Below.trod laidOut' (by kernel_rfl) (of_decide_eq_true (by kernel_rfl)) k2 bel lt2) (trodAll_cons_mk (Below.trod laidOut' (by kernel_rfl) (of_decide_eq_true (by kernel_rfl)) k3 bel lt3) trodAll_mk0)))), rfl, bel.frame _, fun h => by cases h⟩
theorem spanMerges_holds : Rows.SpanMergesSaid :=
  OpenClaim.holds_of_wide 8 Try.f8 rfl rfl rfl rfl rfl rfl rfl ⟨rfl, rfl, rfl, rfl, rfl⟩ rfl rfl rfl rfl rfl (by kernel_rfl) Try.func8 (by kernel_rfl)
    (of_decide_eq_true (by kernel_rfl)) (by unfold Func.isWrapper; first | (rw [if_pos (by decide +kernel)]; kernel_rfl) | (rw [if_neg (by decide +kernel)]; exact ⟨rfl, rfl⟩))
    (fun os started H enc _ => spanMerges_lifted os started H enc)
#print axioms spanMerges_holds
end Go.Proofs.Ytahgfggcpmnnaaa
