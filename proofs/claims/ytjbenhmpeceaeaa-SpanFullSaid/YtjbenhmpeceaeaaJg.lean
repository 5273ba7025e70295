/- The law SpanFull: its walk. -/
import Derived.Test.YtjbenhmpeceaeaaJe
namespace Gs
/-- the runs of the law's map -/
def runG (i : Nat) : R := ⟨3 * i, 3 * i + 3, ((i % 3 : Nat) : Int)⟩
theorem runG_chk : ∀ (k s : Nat) (last : Int), last ≠ ((s % 3 : Nat) : Int) → chk (3 * s) last ((List.range' s k).map runG) = some (3 * ((s + k : Nat) : Int))
  | 0, s, last, _ => by
    show some _ = some _
    rw [Nat.add_zero]
  | k + 1, s, last, h => by
    show chk (3 * (s : Int)) last (runG s :: (List.range' (s + 1) k).map runG) = _
    rw [chk_yes (by
      show ¬ ((3 * (s : Int)) ≠ 3 * s ∨ (3 * (s : Int)) + 3 ≤ 3 * s ∨ ¬ (0 ≤ ((s % 3 : Nat) : Int) ∧ ((s % 3 : Nat) : Int) < 16) ∨ ((s % 3 : Nat) : Int) = last)
      omega)]
    have := runG_chk k (s + 1) ((s % 3 : Nat) : Int) (by omega)
    rw [show (3 * (((s + 1 : Nat)) : Int)) = 3 * (s : Int) + 3 by omega, show s + 1 + k = s + (k + 1) by omega] at this
    exact this
end Gs
namespace Go.Proofs.Ytjbenhmpeceaeaa
open Go Go.RowKit Gs

theorem runG_snoc (j : Nat) : ((List.range' 0 (j + 1)).map runG).flatMap encL = ((List.range' 0 j).map runG).flatMap encL ++ encL (runG j) := by
  rw [List.range'_1_concat, List.map_append, List.flatMap_append, Nat.zero_add]
  simp
theorem len_dual {base : Nat} {W : World} {p : Option Addr} {z s : Int} {a : Option Addr} {n c : Nat} (h : Dual base W p z s (.slice a n c)) : Calls Try.prog 41 #[.agg #[.pointer p, .int .i64 z]] W fun e w' => e = .returned (.int .i64 n) ∧ Below W.heap.size W w' := by
  rcases h with ⟨rfl, rfl, rfl, h⟩ | ⟨f, L, h1, h2, ⟨_, _, h3, _⟩, rfl⟩
  · injection h with _ h _
    subst h
    exact Len_un 0 W
  · injection h3 with _ h3 _
    rw [h3]
    exact Len_same h1 h2
set_option maxRecDepth 100000 in
set_option maxHeartbeats 8000000 in
theorem spanFull_walk (nn : Int) (v : Value) (l : List Act) (W : World) (hl : IsAs W v l) (hn0 : 0 ≤ nn) (hn1 : nn ≤ 255) :
    Calls Try.prog 10 #[.int .u8 nn, v] W fun e w' => e = .returned (.bool true) ∧ Below W.heap.size W w' := by
  have HAW := Lib.hid (fun W' => awake_any W')
  have HAS := Lib.hid hl
  obtain ⟨ao, c, rfl, -⟩ := hl
  obtain ⟨n, hnn⟩ : ∃ n, n = l.length := ⟨_, rfl⟩
  have HN := Lib.hid hnn
  rw [← hnn] at HAS ⊢
  have HR : Hid (Below W.heap.size W W) := Below.refl _ _
  clear hnn
  by_cases hf : 12 < n
  · have hf2 : (n : Int) > 12 := by omega
    go_enter Try.func10, Try.ntmps10
    go_wp2_with fail
    refine (HAW.out _).mono ?_
    rintro e w2 ⟨rfl, hb⟩
    have HB2 := Lib.hid hb
    clear hb
    go_wp2_with fail
    go_ret
    exact ⟨rfl, HB2.out⟩
  · have hf2 : ¬ (n : Int) > 12 := by omega
    obtain ⟨N, hN⟩ : ∃ N : Nat, N = 4096 - (nn.toNat % 8) := ⟨_, rfl⟩
    have hNb : 4089 ≤ N ∧ N ≤ 4096 := by omega
    have hm1 : nn.tmod 8 = ((nn.toNat % 8 : Nat) : Int) := by
      rw [Int.tmod_eq_emod_of_nonneg hn0]
      omega
    have hm2 : nn % 8 = ((nn.toNat % 8 : Nat) : Int) := by omega
    have hw0 : IntKind.u8.wrap ((nn.toNat % 8 : Nat) : Int) = ((nn.toNat % 8 : Nat) : Int) := by
      have : nn.toNat % 8 < 8 := Nat.mod_lt _ (by decide)
      simp [IntKind.wrap, IntKind.bits, IntKind.signed]
      omega
    have hw1 : IntKind.i64.wrap ((nn.toNat % 8 : Nat) : Int) = ((nn.toNat % 8 : Nat) : Int) := IntWalk.i64_in _ (by omega)
    have hw2 : IntKind.i64.wrap (4096 - ((nn.toNat % 8 : Nat) : Int)) = (N : Int) := by rw [IntWalk.i64_in _ (by omega)]; omega
    have hw3 : (4096 : Int) - ((nn.toNat % 8 : Nat) : Int) = (N : Int) := by omega
    have HNB := Lib.hid hNb
    have HMX : Hid (4096 - max nn 0 % 8 = (N : Int)) := by show _ = _; omega
    clear hN
    go_enter Try.func10, Try.ntmps10
    go_wp2_with fail
    rw [HMX.out]
    clear hm1 hm2 hw0 hw1 hw2 hw3 hn0 hn1 HMX
    obtain ⟨i0, hi0, hz0, hz1, hz2⟩ := info_parts infoRun
    have HIN := Lib.hid hi0; have HZ0 := Lib.hid hz0; have HZ1 := Lib.hid hz1; have HZ2 := Lib.hid hz2
    clear hi0 hz0 hz1 hz2
    go_loopw [6, 7] (fun ov iv wr => ∃ j : Nat, j ≤ N ∧ iv = .int .i64 j ∧ Hid (wr.ownsRow W.heap.size 64 3 ov j (((List.range' 0 j).map runG).flatMap encL)) ∧ Hid (Below W.heap.size W wr)) (fun _ i _ => N - (intOf i).toNat)
    case atStart => exact ⟨0, by omega, rfl, World.ownsRow_nil _ _ _ _, HR.out⟩
    case round =>
      obtain ⟨j, hj, rfl, HO, HB⟩ := hrel
      by_cases hlt : j < N
      · have hj2 : (j : Int) < N := by omega
        have e1 : IntKind.i64.wrap (3 * (j : Int)) = 3 * (j : Int) := IntWalk.i64_in _ (by omega)
        have e2 : IntKind.i64.wrap (3 * (j : Int) + 3) = 3 * (j : Int) + 3 := IntWalk.i64_in _ (by omega)
        have e3 : (j : Int).tmod 3 = ((j % 3 : Nat) : Int) := by rw [Int.tmod_eq_emod_of_nonneg (by omega)]; omega
        have e5 : IntKind.i64.wrap (((j % 3 : Nat) : Int)) = ((j % 3 : Nat) : Int) := IntWalk.i64_in _ (by omega)
        have e6 : IntKind.i64.wrap ((j : Int).tmod 3) = ((j % 3 : Nat) : Int) := by rw [e3]; exact e5
        obtain ⟨va, vc, hva⟩ := own_slice HO.out
        subst hva
        have HJ : Hid (j ≤ 4096) := by have := HNB.out; show _ ≤ _; omega
        go_wp2_with (at_builtin; refine wpList_append_own_at _ rfl _ _ 31 rfl W.heap.size 64 i0 (.agg #[.int .i64 0, .int .i64 0, .int .i64 0]) 3 24 Try.underlying31 HIN.out HZ0.out HZ1.out HZ2.out rfl (by decide) _ _ _ rfl (HO.out.alloc _) ⟨wr.heap.size, 0, none⟩ 1 1 [.int .i64 (3 * (j : Int)), .int .i64 (3 * (j : Int) + 3), .int .i64 ((j : Int) % 3)] rfl rfl ?c1 ?c2 ?c3 ?c4 ?c5 ?_)
        case c1 => exact cells3_new _ _ _ _ _
        case c2 => intro u hu; simp at hu; rcases hu with rfl | rfl | rfl <;> rfl
        case c3 => exact Nat.le_trans (show j + 1 ≤ 5000 by have := HJ.out; omega) (by decide)
        case c4 => have := HJ.out; omega
        case c5 => have := HB.out.size; simp; omega
        intro v' w4 hown4 hgrow _ _
        have HO4 : Hid (w4.ownsRow W.heap.size 64 3 v' (j + 1) (((List.range' 0 (j + 1)).map runG).flatMap encL)) := by
          rw [runG_snoc]
          have e : encL (runG j) = [.int .i64 (3 * (j : Int)), .int .i64 (3 * (j : Int) + 3), .int .i64 ((j : Int) % 3)] := by show [Value.int .i64 _, .int .i64 _, .int .i64 ((j % 3 : Nat) : Int)] = _; rw [show ((j % 3 : Nat) : Int) = (j : Int) % 3 by omega]; rfl
          rw [e]; exact hown4
        have HB4 := Lib.hid (((HB.out.alloc HB.out.size _).grown hgrow (by have := HB.out.size; simp; omega) (fun q hq => (HO.out.lt q hq).1)))
        clear hown4 hgrow
        go_wp2_with fail
        go_roundw
        case rel => exact ⟨j + 1, by omega, by go_num, HO4.out, HB4.out⟩
        case measure => simp [intOf]; omega
      · have hj2 : ¬ (j : Int) < N := by omega
        obtain rfl : j = N := by omega
        have hNN := HNB.out
        obtain ⟨va, vc, hva⟩ := own_slice HO.out
        subst hva
        obtain ⟨k, hk⟩ : ∃ k, k = (List.range' 0 j).map runG := ⟨_, rfl⟩
        have hkl : k.length = j := by rw [hk]; simp
        rw [← hk] at HO
        have HKL := Lib.hid hkl
        have hcap := row_cap HO.out
        have HGD : Hid (good (3 * (j : Int)) k) := ⟨by omega, by omega, by
          have := runG_chk j 0 (-1) (by decide)
          rw [hk]
          simpa using this⟩
        have HIN2 : Hid (IsRo wr (.slice va j vc) k) := by
          have hrs := IsRs.of_row (l := k) (v := .slice va j vc) (by rw [hkl]; exact HO.out)
          obtain ⟨a', c', hv, hcs⟩ := hrs
          injection hv with hv1 _ hv3
          subst hv1; subst hv3
          refine ⟨va, vc, by rw [hkl], by rw [hkl]; exact hcap, fun hp => ?_⟩
          obtain ⟨B, e, h1, h2⟩ := hcs hp
          refine ⟨B, 0, e, h1.2, fun j hj => ?_⟩
          rw [Nat.zero_add]
          exact h2 j hj
        have HVA : Hid (Value.slice va j vc = .slice none 0 0 ∨ ∃ a m c, Value.slice va j vc = .slice (some a) m c) := by
          rcases HO.out.2 with ⟨_, h0⟩ | ⟨g, _, _, h, _⟩
          · omega
          · exact .inr ⟨_, _, _, h⟩
        have HFR := Lib.hid (From_any (size := 3 * (j : Int)) HIN2.out (by omega))
        have e1 : IntKind.i64.wrap (3 * (j : Int)) = 3 * (j : Int) := IntWalk.i64_in _ (by omega)
        clear hk hkl hcap HO HIN HZ0 HZ1 HZ2 hNN
        go_wp2_with fail
        refine HFR.out.mono ?_
        rintro e w2 ⟨q, s2, e2, rfl, HFP, hb⟩
        obtain ⟨w3, HW3⟩ : ∃ w3, w3 = w2.alloc (.cells #[.pointer q, .int .i64 s2] 27) := ⟨_, rfl⟩
        have b3 : Below w2.heap.size w2 w3 := by rw [HW3]; exact alloc_below _ _
        have n3 : Bx w2.heap.size [.pointer q, .int .i64 s2] w3 := by rw [HW3]; exact Bx.new w2 [.pointer q, .int .i64 s2] 27 (by simp)
        have b13 := hb.trans (b3.mono hb.size)
        have HRF := Lib.hid (RFrom_any (size := 3 * (j : Int)) (HIN2.out.below b13) HVA.out (by have := HKL.out; have := HNB.out; omega))
        have HFP3 := Lib.hid (HFP.out.below b3)
        have G3 := Lib.hid n3
        have HB3 := Lib.hid (HB.out.trans (b13.mono HB.out.size))
        have HSZ0 : Hid (W.heap.size ≤ w2.heap.size) := Nat.le_trans HB.out.size hb.size
        have HW3' := Lib.hid HW3
        clear HW3 b3 n3 b13 hb
        go_upto_region 10 with fail
        rw [← HW3'.out]
        clear HW3'
        go_wp2_with fail
        refine HRF.out.mono ?_
        rintro e w4 ⟨s', v', e', rfl, HRP, hb⟩
        obtain ⟨va2, vn, vc2, rfl⟩ := HRP.out.shape
        obtain ⟨w5, HW5⟩ : ∃ w5, w5 = w4.alloc (.cells #[.int .i64 s', .slice va2 vn vc2] 33) := ⟨_, rfl⟩
        have b5 : Below w4.heap.size w4 w5 := by rw [HW5]; exact alloc_below _ _
        have n5 : Bx w4.heap.size [.int .i64 s', .slice va2 vn vc2] w5 := by rw [HW5]; exact Bx.new w4 [.int .i64 s', .slice va2 vn vc2] 33 (by simp)
        have b35 := hb.trans (b5.mono hb.size)
        obtain ⟨hee, hdu⟩ := from_dual (HFP3.out.below b35) (HRP.out.below b5)
        have hez : e2 = 0 := by
          rcases HFP3.out with ⟨_, _, _, h⟩ | ⟨_, _, _, _, h⟩ | ⟨h, _⟩
          · exact absurd HGD.out h
          · have := HKL.out; have := HNB.out; omega
          · exact h
        have HDU := Lib.hid (hdu.mono (Nat.zero_le _))
        have G5 := Lib.hid n5
        have G35 := Lib.hid (G3.out.next b35)
        have HB5 := Lib.hid (HB3.out.trans (b35.mono HB3.out.size))
        have HSZ : Hid (W.heap.size ≤ w2.heap.size ∧ w2.heap.size < w4.heap.size) := ⟨HSZ0.out, Nat.lt_of_lt_of_le G3.out.lt hb.size⟩
        have HW5' := Lib.hid HW5
        clear HW5 b5 n5 b35 hb hdu
        subst hee
        subst hez
        go_upto_region 11 with fail
        rw [← HW5'.out]
        clear HW5'
        go_wp2_with fail
        have HAS5 := Lib.hid (HAS.out.below HB5.out)
        go_loopg [12, 13] n (fun kk ov iv wr => ∃ (i : Nat) (q : Option Addr) (s s' : Int) (va : Option Addr) (vn vc : Nat), Hid (kk + i = n) ∧ ov = .bool true ∧ iv = .int .i64 i ∧ Hid (Bx w2.heap.size [.pointer q, .int .i64 s] wr) ∧ Hid (Bx w4.heap.size [.int .i64 s', .slice va vn vc] wr) ∧ Hid (Dual 0 wr q s s' (.slice va vn vc)) ∧ Hid (Below W.heap.size W wr))
        case atStart => exact ⟨0, q, s2, s', va2, vn, vc2, by show _ = _; omega, rfl, rfl, G35, G5, HDU, HB5⟩
        case round =>
          obtain ⟨i, q, s, s', va, vn, vc, HK, rfl, rfl, F3, F4, HD, HBr⟩ := hrel
          clear HDU G35 G5 HB5
          have hjn : i ≤ n := by have := HK.out; omega
          by_cases hlt : i < n
          · have hlt2 : (i : Int) < n := by omega
            have hjl : i < l.length := by have := HN.out; omega
            obtain ⟨B, o, rfl, g0, g1, g2, g3, g4⟩ := (HAS.out.below HBr.out).at' hjl
            generalize l[i] = a at *
            obtain ⟨asw, alo, ahi, afr, att⟩ := a
            simp only at g0 g1 g2 g3 g4
            obtain ⟨m0, m1, -, -⟩ := F3.out.c2
            obtain ⟨r0, r1, -, -⟩ := F4.out.c2
            have bd : Below wr.heap.size wr wr.drew := (Below.refl _ _).drew
            have F3d := Lib.hid (F3.out.next bd); have F4d := Lib.hid (F4.out.next bd); have HDd := Lib.hid (HD.out.below bd)
            have HBd := Lib.hid (HBr.out.trans (bd.mono HBr.out.size))
            clear bd
            have HDO : Hid (Calls Try.prog 16 #[.agg #[.pointer q, .int .i64 s], .agg #[.int .i64 s', .slice va vn vc], .agg #[.bool asw, .int .i64 alo, .int .i64 ahi, .int .i64 afr, .int .i64 att]] wr.drew fun e w' => ∃ q2 s2 va2 vn2 vc2, e = .returned (.tuple #[.agg #[.pointer q2, .int .i64 s], .agg #[.int .i64 s2, .slice va2 vn2 vc2], .bool true]) ∧ Hid (Dual 0 w' q2 s s2 (.slice va2 vn2 vc2)) ∧ Hid (Bx w2.heap.size [.pointer q, .int .i64 s] w') ∧ Hid (Bx w4.heap.size [.int .i64 s', .slice va vn vc] w') ∧ Hid (Below W.heap.size W w')) :=
              (do_any asw alo ahi afr att HDd.out (Nat.zero_le _)).mono fun e w' ⟨q2, s2, v2, he, hd, hb⟩ => by
                obtain ⟨va2, vn2, vc2, rfl⟩ := hd.out.shape
                exact ⟨q2, s2, va2, vn2, vc2, he, hd, F3d.out.next hb, F4d.out.next hb, HBd.out.trans (hb.mono HBd.out.size)⟩
            have HOT : Hid (∀ w' x y, Bx w4.heap.size [.int .i64 s', .slice va vn vc] w' → Bx w4.heap.size [.int .i64 s', .slice va vn vc] ((w'.setCell ⟨w2.heap.size, 0, none⟩ x).setCell ⟨w2.heap.size, 1, none⟩ y)) := fun w' x y h => (h.other (by have := HSZ.out; omega) _).other (by have := HSZ.out; omega) _
            clear F3d F4d HDd HBd
            go_upto_region 17 with fail
            go_cut [12] from 58 to 84 (fun s12 wx => ∃ q2 s2 va2 vn2 vc2, s12 = .bool true ∧ Hid (Bx w2.heap.size [.pointer q2, .int .i64 s] wx) ∧ Hid (Bx w4.heap.size [.int .i64 s2, .slice va2 vn2 vc2] wx) ∧ Hid (Dual 0 wx q2 s s2 (.slice va2 vn2 vc2)) ∧ Hid (Below W.heap.size W wx))
            case first =>
              go_region_with (go_at_call 16; with_reducible refine HDO.out.mono ?_; rintro e w6 ⟨q2, s2, va2, vn2, vc2, rfl, hd2, K3, K4, HB6⟩; obtain ⟨m0, m1, m2, m3⟩ := K3.out.c2; obtain ⟨r0, r1, r2, r3⟩ := (HOT.out _ (.pointer q2) (.int .i64 s) K4.out).c2)
              all_goals
                clear m0 m1 m2 m3 r0 r1 r2 r3 g0 g1 g2 g3 g4
                go_wp2_with fail
                go_meet
                case rel =>
                  have hsz := HSZ.out
                  have KR := HOT.out _ (.pointer q2) (.int .i64 s) K4.out
                  have KM := K3.out.two (.pointer q2) (.int .i64 s)
                  exact ⟨q2, s2, va2, vn2, vc2, rfl, (KM.other (by omega) _).other (by omega) _, KR.two _ _, (hd2.out.setM K3.out q2 (.int .i64 s)).setR KR (.int .i64 s2) (.slice va2 vn2 vc2), below_put (below_put HB6.out (by omega) _ _) (by omega) _ _⟩
            case rest =>
              obtain ⟨q2, s2, va2, vn2, vc2, rfl, KM, KR, HD2, HB6⟩ := hcut
              clear m0 m1 r0 r1 g0 g1 g2 g3 g4
              have HALL : Hid (∀ W', Below wc.heap.size wc W' → W'.cell? ⟨w2.heap.size, 0, none⟩ = some (.pointer q2) ∧ W'.cell? ⟨w2.heap.size, 1, none⟩ = some (.int .i64 s) ∧ W'.cell? ⟨w4.heap.size, 1, none⟩ = some (.slice va2 vn2 vc2)) := fun W' h => ⟨(KM.out.next h).c2.1, (KM.out.next h).c2.2.1, (KR.out.next h).c2.2.1⟩
              have HLN : Hid (∀ W', Below wc.heap.size wc W' → Calls Try.prog 41 #[.agg #[.pointer q2, .int .i64 s]] W' fun e w' => e = .returned (.int .i64 vn2) ∧ Below wc.heap.size wc w') := fun W' h => (len_dual (HD2.out.below h)).mono fun e w' ⟨he, hB⟩ => ⟨he, h.trans (hB.mono h.size)⟩
              have hs : Below wc.heap.size wc wc := Below.refl _ _
              have hs2 := hs.drew
              have hcl := HALL.out _ hs2
              have hc0 := HALL.out _ hs
              go_wp2_with fail
              go_region_held3 (fun W' : World => W'.cell? ⟨w2.heap.size, 0, none⟩ = some (.pointer q2) ∧ W'.cell? ⟨w2.heap.size, 1, none⟩ = some (.int .i64 s) ∧ W'.cell? ⟨w4.heap.size, 1, none⟩ = some (.slice va2 vn2 vc2)) (first | assumption | fail) (first
                | (go_at_call 41; with_reducible refine (HLN.out _ ?h).mono ?_; (case h => assumption); rintro e w' ⟨rfl, hs1'⟩; have hc1' := HALL.out _ hs1') | fail)
              all_goals
                have KM2 := Lib.hid (KM.out.next hs1'); have KR2 := Lib.hid (KR.out.next hs1'); have HD3 := Lib.hid (HD2.out.below hs1'); have HB7 := Lib.hid (HB6.out.trans (hs1'.mono HB6.out.size))
                clear hs hs2 hcl hc0 hs1' hc1'
                go_wp2_with fail
                go_roundg (n - (i + 1))
                case measure => have := HK.out; omega
                case rel => exact ⟨i + 1, q2, s, s2, va2, vn2, vc2, by show _ = _; omega, rfl, by go_num, KM2, KR2, HD3, HB7⟩
          · have hlt3 : ¬ (i : Int) < n := by omega
            obtain ⟨m0, m1, -, -⟩ := F3.out.c2
            obtain ⟨r0, r1, -, -⟩ := F4.out.c2
            go_wp2_with fail
            refine (same_dual HD.out).mono ?_
            rintro e x1 ⟨rfl, hb⟩
            have B1 := Lib.hid (HBr.out.trans (hb.out.mono HBr.out.size))
            clear hb m0 m1 r0 r1
            go_wp2_with fail
            refine (HAW.out _).mono ?_
            rintro e x2 ⟨rfl, hb⟩
            have HF := Lib.hid (B1.out.trans (hb.mono B1.out.size))
            clear hb
            go_wp2_with fail
            go_ret
            exact ⟨rfl, HF.out⟩
end Go.Proofs.Ytjbenhmpeceaeaa
