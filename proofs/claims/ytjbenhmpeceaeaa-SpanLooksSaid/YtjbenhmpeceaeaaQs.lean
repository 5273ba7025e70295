/- The law SpanLooks: its walk. -/
import Derived.Test.YtjbenhmpeceaeaaQp
import Derived.Test.YtjbenhmpeceaeaaQf
namespace Go.Proofs.Ytjbenhmpeceaeaa
open Go Go.RowKit Gs

theorem IsRs.take' {base : Nat} {W : World} {a : Option Addr} {n c : Nat} {l : List R} (h : IsRs base W (.slice a n c) l) (m : Nat) (hm : m ≤ n) : IsRs base W (.slice a m c) (l.take m) := by
  obtain ⟨a', c', hv, hcs⟩ := h
  injection hv with h1 h2 h3
  subst h1; subst h3
  refine ⟨a, c, by rw [List.length_take, ← h2, Nat.min_eq_left hm], fun hp => ?_⟩
  rw [List.length_take] at hp
  obtain ⟨B, e, hB, hc⟩ := hcs (by omega)
  refine ⟨B, e, hB, fun j hj => ?_⟩
  rw [List.length_take] at hj
  have := hc j (by omega)
  rw [List.getElem_take]
  exact this
set_option maxRecDepth 100000 in
set_option maxHeartbeats 4000000 in
theorem spanLooks_walk (size : Int) (v : Value) (l : List Act) (qa ql qh qm qt qk : Int) (W : World) (hl : IsAs W v l) (hqk : qk ≤ 9223372036854775807) :
    Calls Try.prog 4 #[.int .i64 size, v, .agg #[.int .i64 qa, .int .i64 ql, .int .i64 qh, .int .i64 qm, .int .i64 qt, .int .i64 qk]] W fun e w' => e = .returned (.bool true) ∧ Below W.heap.size W w' := by
  obtain ⟨w0, HW⟩ : ∃ w0, w0 = W.alloc (.cells #[.int .i64 qa, .int .i64 ql, .int .i64 qh, .int .i64 qm, .int .i64 qt, .int .i64 qk] 45) := ⟨_, rfl⟩
  have hb : Below W.heap.size W w0 := by rw [HW]; exact alloc_below _ _
  have n1 : Bx W.heap.size [.int .i64 qa, .int .i64 ql, .int .i64 qh, .int .i64 qm, .int .i64 qt, .int .i64 qk] w0 := by rw [HW]; exact Bx.new W [.int .i64 qa, .int .i64 ql, .int .i64 qh, .int .i64 qm, .int .i64 qt, .int .i64 qk] 45 (by simp)
  have HAW := Lib.hid (fun W' => awake_any W')
  have HAS := Lib.hid (hl.below hb)
  obtain ⟨ao, c, rfl, -⟩ := hl
  obtain ⟨n, hnn⟩ : ∃ n, n = l.length := ⟨_, rfl⟩
  have HN := Lib.hid hnn
  rw [← hnn] at HAS ⊢
  have H1 := Lib.hid n1; have HB := Lib.hid hb; have HW' := Lib.hid HW; have HQK := Lib.hid hqk
  clear hnn hb n1 HW hqk
  by_cases hf : n ≤ 60
  · have HFW : Hid (∀ W', Calls Try.prog 11 #[.slice ao n c] W' fun e w' => e = .returned (.bool true) ∧ W' = w') := fun W' => by
      have := few_any ao n c W'
      rwa [decide_eq_true hf] at this
    have HPL := Lib.hid (played_any (size := size) HAS.out (by have := HN.out; omega))
    go_enter Try.func4, Try.ntmps4
    go_upto_region 1 with fail
    rw [← HW'.out]
    go_wp2_with fail
    refine (HFW.out _).mono ?_
    rintro e w1 ⟨rfl, rfl⟩
    go_wp2_with fail
    refine HPL.out.mono ?_
    rintro e w2 ⟨p, z, s, v', rfl, hd, hb⟩
    obtain ⟨va, vn, vc, rfl⟩ := hd.out.shape
    obtain ⟨w3, HW3⟩ : ∃ w3, w3 = (w2.alloc (.cells #[.pointer p, .int .i64 z] 27)).alloc (.cells #[.int .i64 s, .slice va vn vc] 33) := ⟨_, rfl⟩
    have b3 : Below w2.heap.size w2 w3 := by rw [HW3]; exact (alloc_below _ _).alloc (by simp) _
    have n2 : Bx w2.heap.size [.pointer p, .int .i64 z] w3 := by rw [HW3]; exact (Bx.new w2 [.pointer p, .int .i64 z] 27 (by simp)).next (alloc_below _ _)
    have n3 : Bx (w2.heap.size + 1) [.int .i64 s, .slice va vn vc] w3 := by
      have := Bx.new (w2.alloc (.cells #[.pointer p, .int .i64 z] 27)) [.int .i64 s, .slice va vn vc] 33 (by simp)
      rw [World.size_alloc, ← HW3] at this
      exact this
    have hd3 := hd.out.below b3
    obtain ⟨T, E1, HG1, HG2⟩ := both_Get hd3 qa
    obtain ⟨K, E2, hkl, hr1, hr2⟩ := both_Runs hd3 ql qh qm
    obtain ⟨kn, hkn⟩ : ∃ kn, kn = K.length := ⟨_, rfl⟩
    obtain ⟨km, hkm⟩ : ∃ km : Nat, km = min kn qm.toNat := ⟨_, rfl⟩
    have htk : K.take qm.toNat = K.take km := by
      rw [hkm]
      by_cases h : kn ≤ qm.toNat
      · rw [Nat.min_eq_left h, List.take_of_length_le (by omega), List.take_of_length_le (by omega)]
      · rw [Nat.min_eq_right (by omega)]
    have hlk : (K.take km).length = km := by rw [List.length_take]; omega
    have HR1 : Hid (∀ W', Below w3.heap.size w3 W' → Calls Try.prog 20 #[.agg #[.pointer p, .int .i64 z], .int .i64 ql, .int .i64 qh, .int .i64 qm] W' fun e w' => ∃ b c, e = .returned (.tuple #[.slice b km c, .int .i64 E2]) ∧ Hid (IsRs W'.heap.size w' (.slice b km c) (K.take km)) ∧ Below W'.heap.size W' w') := fun W' hW => (hr1.out W' hW).mono fun e w' ⟨v', he, hr, hB⟩ => by
      rw [htk] at hr
      have hr0 := hr.out
      obtain ⟨b, c, rfl, -⟩ := hr0
      rw [hlk] at he hr
      exact ⟨b, c, he, hr, hB⟩
    have HR2 : Hid (∀ W', Below w3.heap.size w3 W' → Calls Try.prog 21 #[.agg #[.int .i64 s, .slice va vn vc], .int .i64 ql, .int .i64 qh] W' fun e w' => ∃ b c, e = .returned (.tuple #[.slice b kn c, .int .i64 E2]) ∧ Hid (IsRs W'.heap.size w' (.slice b kn c) K) ∧ kn ≤ c ∧ Below W'.heap.size W' w') := fun W' hW => (hr2.out W' hW).mono fun e w' ⟨v', he, hr, hB⟩ => by
      obtain ⟨hr0, b, c, rfl, hc⟩ := hr.out
      rw [← hkn] at he hr0 hc
      exact ⟨b, c, he, hr0, hc, hB⟩
    have HKM : Hid (km = min kn qm.toNat ∧ kn ≤ 4096 ∧ (K.take km).length = km) := ⟨hkm, by omega, hlk⟩
    obtain ⟨N, E3, HC1, HC2⟩ := both_Count hd3 ql qh qt
    obtain ⟨FP, HU, HF1, HF2⟩ := both_Find hd3 qt qk HQK.out
    have b03 := hb.trans (b3.mono hb.size)
    have G1 := Lib.hid (H1.out.next b03); have G2 := Lib.hid n2; have G3 := Lib.hid n3
    have HB3 := Lib.hid (HB.out.trans (b03.mono HB.out.size))
    have HALL : Hid (∀ W', Below w3.heap.size w3 W' → (W'.cell? ⟨W.heap.size, 0, none⟩ = some (.int .i64 qa) ∧ W'.cell? ⟨W.heap.size, 1, none⟩ = some (.int .i64 ql) ∧ W'.cell? ⟨W.heap.size, 2, none⟩ = some (.int .i64 qh) ∧ W'.cell? ⟨W.heap.size, 3, none⟩ = some (.int .i64 qm) ∧ W'.cell? ⟨W.heap.size, 4, none⟩ = some (.int .i64 qt) ∧ W'.cell? ⟨W.heap.size, 5, none⟩ = some (.int .i64 qk)) ∧ (W'.cell? ⟨w2.heap.size, 0, none⟩ = some (.pointer p) ∧ W'.cell? ⟨w2.heap.size, 1, none⟩ = some (.int .i64 z)) ∧ (W'.cell? ⟨w2.heap.size + 1, 0, none⟩ = some (.int .i64 s) ∧ W'.cell? ⟨w2.heap.size + 1, 1, none⟩ = some (.slice va vn vc))) := fun W' h =>
      have g := G1.out.next h
      ⟨⟨(g.c 0 _ rfl).1, (g.c 1 _ rfl).1, (g.c 2 _ rfl).1, (g.c 3 _ rfl).1, (g.c 4 _ rfl).1, (g.c 5 _ rfl).1⟩, ⟨(G2.out.next h).c2.1, (G2.out.next h).c2.2.1⟩, ⟨(G3.out.next h).c2.1, (G3.out.next h).c2.2.1⟩⟩
    have HW3' := Lib.hid HW3
    clear hb HW3 b3 n2 n3 hd3 hd b03 hkl hkn hkm htk hlk hr1 hr2
    go_upto_region 4 with fail
    rw [← HW3'.out]
    clear HW3' HW' HAS HN
    obtain ⟨⟨c0, c1, c2, c3, c4, c5⟩, ⟨m0, m1⟩, ⟨r0, r1⟩⟩ := HALL.out _ (Below.refl _ _)
    go_wp2_with fail
    refine (HG1.out _ (Below.refl _ _)).mono ?_
    rintro e x1 ⟨rfl, hb⟩
    have B1 := Lib.hid hb
    clear hb c0 c1 c2 c3 c4 c5 m0 m1 r0 r1
    obtain ⟨⟨c0, c1, c2, c3, c4, c5⟩, ⟨m0, m1⟩, ⟨r0, r1⟩⟩ := HALL.out _ B1.out
    go_wp2_with fail
    refine (HG2.out _ B1.out).mono ?_
    rintro e x2 ⟨rfl, hb⟩
    have B2 := Lib.hid (B1.out.trans (hb.mono B1.out.size))
    clear hb c0 c1 c2 c3 c4 c5 m0 m1 r0 r1
    obtain ⟨⟨c0, c1, c2, c3, c4, c5⟩, ⟨m0, m1⟩, ⟨r0, r1⟩⟩ := HALL.out _ B2.out
    go_wp2_with fail
    refine (HR1.out _ B2.out).mono ?_
    rintro e x3 ⟨a1, d1, rfl, R1, hb⟩
    have B3 := Lib.hid (B2.out.trans (hb.mono B2.out.size))
    clear hb c0 c1 c2 c3 c4 c5 m0 m1 r0 r1
    obtain ⟨⟨c0, c1, c2, c3, c4, c5⟩, ⟨m0, m1⟩, ⟨r0, r1⟩⟩ := HALL.out _ B3.out
    go_wp2_with fail
    refine (HR2.out _ B3.out).mono ?_
    rintro e x4 ⟨a2, d2, rfl, R2, hcap, hb⟩
    have B4 := Lib.hid (B3.out.trans (hb.mono B3.out.size))
    have R1' := Lib.hid (R1.out.below hb)
    clear hb c0 c1 c2 c3 c4 c5 m0 m1 r0 r1 R1
    obtain ⟨⟨c0, c1, c2, c3, c4, c5⟩, ⟨m0, m1⟩, ⟨r0, r1⟩⟩ := HALL.out _ B4.out
    go_wp2_with fail
    refine (HC1.out _ B4.out).mono ?_
    rintro e x5 ⟨rfl, hb⟩
    have B5 := Lib.hid (B4.out.trans (hb.mono B4.out.size))
    have S1 := Lib.hid (R1'.out.below hb); have S2 := Lib.hid (R2.out.below hb)
    clear hb c0 c1 c2 c3 c4 c5 m0 m1 r0 r1 R1' R2
    obtain ⟨⟨c0, c1, c2, c3, c4, c5⟩, ⟨m0, m1⟩, ⟨r0, r1⟩⟩ := HALL.out _ B5.out
    go_wp2_with fail
    refine (HC2.out _ B5.out).mono ?_
    rintro e x6 ⟨rfl, hb⟩
    have B6 := Lib.hid (B5.out.trans (hb.mono B5.out.size))
    have T1 := Lib.hid (S1.out.below hb); have T2 := Lib.hid (S2.out.below hb)
    clear hb c0 c1 c2 c3 c4 c5 m0 m1 r0 r1 S1 S2
    obtain ⟨⟨c0, c1, c2, c3, c4, c5⟩, ⟨m0, m1⟩, ⟨r0, r1⟩⟩ := HALL.out _ B6.out
    go_wp2_with fail
    refine (HF1.out _ B6.out).mono ?_
    rintro e x7 ⟨fx, fb, rfl, hfx, hb⟩
    have B7 := Lib.hid (B6.out.trans (hb.mono B6.out.size))
    have U1 := Lib.hid (T1.out.below hb); have U2 := Lib.hid (T2.out.below hb)
    clear hb c0 c1 c2 c3 c4 c5 m0 m1 r0 r1 T1 T2
    obtain ⟨⟨c0, c1, c2, c3, c4, c5⟩, ⟨m0, m1⟩, ⟨r0, r1⟩⟩ := HALL.out _ B7.out
    go_wp2_with fail
    refine (HF2.out _ B7.out).mono ?_
    rintro e x8 ⟨fy, fc, rfl, hfy, hb⟩
    obtain ⟨rfl, rfl⟩ := HU.out _ _ _ _ hfx.out hfy.out
    have B8 := Lib.hid (B7.out.trans (hb.mono B7.out.size))
    have V1 := Lib.hid (U1.out.below hb); have V2 := Lib.hid (U2.out.below hb)
    clear hb c0 c1 c2 c3 c4 c5 m0 m1 r0 r1 U1 U2 hfx hfy
    obtain ⟨⟨c0, c1, c2, c3, c4, c5⟩, ⟨m0, m1⟩, ⟨r0, r1⟩⟩ := HALL.out _ B8.out
    have HAK := Lib.hid (RAlike_same V1.out (V2.out.take' km (by have := HKM.out; omega)) (by rw [HKM.out.2.2]; have := HKM.out; omega))
    have hkm := HKM.out.1
    have hkb := HKM.out.2.1
    have hq1 : (if (kn : Int) < qm then (kn : Int) else qm) = min (kn : Int) qm := by split <;> omega
    have hq2 : (if qm < (kn : Int) then qm else (kn : Int)) = min (kn : Int) qm := by split <;> omega
    have hle : km ≤ kn := by omega
    by_cases hpos : 0 < min (kn : Int) qm
    · have hmi : (km : Int) = min (kn : Int) qm := by omega
      have hmx : (if (0 : Int) < min (kn : Int) qm then min (kn : Int) qm else 0) = (km : Int) := by rw [if_pos hpos]; exact hmi.symm
      have hmx2 : max 0 (min (kn : Int) qm) = (km : Int) := by omega
      rw [← hmi] at hpos
      have hc0 : (0 : Int) ≤ (km : Int) := by omega
      have hc1 : (km : Int) ≤ (d2 : Int) := by omega
      have e9 : (min (kn : Int) qm).toNat = km := by omega
      have HAK2 : Hid (Calls Try.prog 26 #[.slice a1 km d1, .slice a2 (min (kn : Int) qm).toNat d2] x8 fun e w' => e = .returned (.bool true) ∧ Hid (Below x8.heap.size x8 w')) := by rw [e9]; exact HAK.out
      clear hkm e9
      go_wp2_with fail
      refine HAK2.out.mono ?_
      rintro e x9 ⟨rfl, hb⟩
      have B9 := Lib.hid (B8.out.trans (hb.out.mono B8.out.size))
      clear hb c0 c1 c2 c3 c4 c5 m0 m1 r0 r1
      go_wp2_with fail
      refine (HAW.out _).mono ?_
      rintro e x10 ⟨rfl, hb⟩
      have HF := Lib.hid (HB3.out.trans ((B9.out.trans (hb.mono B9.out.size)).mono HB3.out.size))
      clear hb
      go_wp2_with fail
      go_ret
      exact ⟨rfl, HF.out⟩
    · have hmi : km = 0 := by omega
      subst hmi
      clear hkm
      go_wp2_with fail
      refine HAK.out.mono ?_
      rintro e x9 ⟨rfl, hb⟩
      have B9 := Lib.hid (B8.out.trans (hb.out.mono B8.out.size))
      clear hb c0 c1 c2 c3 c4 c5 m0 m1 r0 r1
      go_wp2_with fail
      refine (HAW.out _).mono ?_
      rintro e x10 ⟨rfl, hb⟩
      have HF := Lib.hid (HB3.out.trans ((B9.out.trans (hb.mono B9.out.size)).mono HB3.out.size))
      clear hb
      go_wp2_with fail
      go_ret
      exact ⟨rfl, HF.out⟩
  · have HFW : Hid (∀ W', Calls Try.prog 11 #[.slice ao n c] W' fun e w' => e = .returned (.bool false) ∧ W' = w') := fun W' => by
      have := few_any ao n c W'
      rwa [decide_eq_false hf] at this
    go_enter Try.func4, Try.ntmps4
    go_upto_region 1 with fail
    rw [← HW'.out]
    go_wp2_with fail
    refine (HFW.out _).mono ?_
    rintro e w1 ⟨rfl, rfl⟩
    go_wp2_with fail
    refine (HAW.out _).mono ?_
    rintro e w2 ⟨rfl, hb⟩
    have HB2 := Lib.hid (HB.out.trans (hb.mono HB.out.size))
    clear hb
    go_wp2_with fail
    go_ret
    exact ⟨rfl, HB2.out⟩
end Go.Proofs.Ytjbenhmpeceaeaa
