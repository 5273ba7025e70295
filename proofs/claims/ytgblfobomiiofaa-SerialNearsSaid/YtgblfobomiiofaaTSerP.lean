/- Contracts and lemmas (several texts merged into one). -/
import Derived.Test.YtgblfobomiiofaaTSerO
import Derived.Test.YtgblfobomiiofaaTSerL
import Derived.Test.YtgblfobomiiofaaTSerK
import Derived.Test.YtgblfobomiiofaaTSerC
import Derived.Test.YtgblfobomiiofaaTSerI
namespace Go.Proofs.Ytgblfobomiiofaa
open Go Go.RowKit Go.Shelf Gw Go.Maps

/-- a word and one letter more -/
def extW (A : Nat) (u : List Nat) : List (List Nat) := (List.range A).map fun c => u ++ [c]
theorem extW_cons (A v : Nat) (u : List Nat) : (extW A u).map (v :: ·) = extW A (v :: u) := by
  unfold extW
  rw [List.map_map]
  rfl
theorem allW_snoc (A : Nat) : ∀ k, allW A (k + 1) = (allW A k).flatMap (extW A)
  | 0 => by
    show ((List.range A).flatMap fun v => [[]].map (v :: ·)) = [[]].flatMap (extW A)
    simp [extW]
    induction List.range A with
    | nil => rfl
    | cons a l ih => simp [ih]
  | k + 1 => by
    show ((List.range A).flatMap fun v => (allW A (k + 1)).map (v :: ·)) = ((List.range A).flatMap fun v => (allW A k).map (v :: ·)).flatMap (extW A)
    rw [List.flatMap_assoc]
    refine flat_congr fun v _ => ?_
    rw [allW_snoc A k, List.map_flatMap, List.flatMap_map]
    refine flat_congr fun u _ => ?_
    exact extW_cons A v u
theorem wD_filter (s : Sch) : ∀ (n i : Nat), wD s n i = (allW s.al.size n).filter fun u => (run (fD s) i u).isSome
  | 0, _ => rfl
  | n + 1, i => by
    show words _ _ _ _ (List.replicate (n + 1) none) i 0 = ((List.range s.al.size).flatMap fun v => (allW s.al.size n).map (v :: ·)).filter _
    rw [List.replicate_succ, words_cons, filter_flat]
    refine flat_congr fun v _ => ?_
    rw [stepW_trm, List.filter_map]
    cases hf : fD s i v with
    | none => simp [Function.comp_def, run, hf]
    | some j =>
      have ih := wD_filter s n j
      simp only [Function.comp_def, run, hf, Option.bind_some]
      rw [ih]
open Classical in
/-- the document's list is the program's -/
theorem wordsS_filter {s : Sch} (h : WellF s) : wordsS s = (allW s.al.size (nS s)).filter fun u => decide (AllowW (bansS s) u) := by
  rw [← wD_words h, wD_filter]
  refine List.filter_congr fun u _ => ?_
  have h3 := run_autD (nodesD h) u [] (allow_nil (bans_ne h))
  rw [stOf_nilD (nodesD h), List.nil_append] at h3
  unfold fD
  rw [h3]
  by_cases c : AllowW (bansS s) u <;> simp [c]
end Go.Proofs.Ytgblfobomiiofaa
namespace Go.Proofs.Ytgblfobomiiofaa
open Go Go.RowKit Go.Shelf Gw Go.Maps

/-- a row of strings of the call's own -/
structure StrR (base : Nat) (al : ByteArray) (ck : Bool) (v : Value) (ln : Nat) (LL : List (List Nat)) (W : World) : Prop where
  own : W.ownsRow base 9 1 v ln (LL.map fun u => .string (serB al ck u))
  len : ln = LL.length
theorem StrR.isS {base ln : Nat} {al : ByteArray} {ck : Bool} {v : Value} {LL : List (List Nat)} {W : World} (h : StrR base al ck v ln LL W) : IsSs W v (LL.map (serB al ck)) := by
  have h1 := h.own
  rw [h.len] at h1
  have e9 : LL.map (fun u => Value.string (serB al ck u)) = (LL.map (serB al ck)).map Value.string := by rw [List.map_map]; rfl
  rw [e9] at h1
  have e8 : LL.length = (LL.map (serB al ck)).length := by rw [List.length_map]
  rw [e8] at h1
  exact isSs_of_row h1
theorem StrR.below {base ln : Nat} {al : ByteArray} {ck : Bool} {v : Value} {LL : List (List Nat)} {W W' : World} (h : StrR base al ck v ln LL W) (hb : Below W.heap.size W W') : StrR base al ck v ln LL W' := ⟨ownsRow_below h.own hb, h.len⟩
theorem filter_take {α : Type} (p : α → Bool) (L : List α) {j : Nat} (hj : j < L.length) : (L.take (j + 1)).filter p = (L.take j).filter p ++ (if p L[j] then [L[j]] else []) := by
  rw [List.take_add_one, List.getElem?_eq_getElem hj, List.filter_append]
  cases h : p L[j] <;> simp [h]
theorem allW_mem {A : Nat} : ∀ {k : Nat} {u : List Nat}, u ∈ allW A k → u.length = k ∧ ∀ v ∈ u, v < A
  | 0, u, h => by
    have h' : u = [] := List.mem_singleton.1 h
    subst h'
    exact ⟨rfl, fun v hv => by simp at hv⟩
  | k + 1, u, h => by
    obtain ⟨v, hv, h2⟩ := List.mem_flatMap.1 h
    obtain ⟨u', hu', rfl⟩ := List.mem_map.1 h2
    obtain ⟨h3, h4⟩ := allW_mem hu'
    refine ⟨by simp [h3], fun x hx => ?_⟩
    rcases List.mem_cons.1 hx with rfl | hx
    · exact List.mem_range.1 hv
    · exact h4 x hx
theorem extW_take (A : Nat) (u : List Nat) {c : Nat} (hc : c < A) : (extW A u).take (c + 1) = (extW A u).take c ++ [u ++ [c]] := by
  have hl : c < (extW A u).length := by unfold extW; simpa using hc
  rw [List.take_add_one, List.getElem?_eq_getElem hl]
  simp [extW]
theorem extW_len (A : Nat) (u : List Nat) : (extW A u).length = A := by simp [extW]
theorem flat_take (A : Nat) (L : List (List Nat)) {k : Nat} (hk : k < L.length) : (L.take (k + 1)).flatMap (extW A) = (L.take k).flatMap (extW A) ++ extW A L[k] := by
  rw [List.take_add_one, List.getElem?_eq_getElem hk, List.flatMap_append]
  simp
theorem flat_ext_len (A : Nat) : ∀ L : List (List Nat), (L.flatMap (extW A)).length = L.length * A
  | [] => by simp
  | u :: L => by rw [List.flatMap_cons, List.length_append, extW_len, flat_ext_len A L, List.length_cons, Nat.succ_mul, Nat.add_comm]
theorem pow_le4 {A i n : Nat} (hA : 2 ≤ A) (h : A ^ n ≤ 4000) (hi : i ≤ n) : A ^ i ≤ 4000 := Nat.le_trans (Nat.pow_le_pow_right (by omega) hi) h
set_option maxRecDepth 100000 in
set_option maxHeartbeats 8000000 in
theorem RAll_any {s : Sch} {bv : Value} {w : World} (hW : WellF s) (hs : IsSs w bv s.bl) (hsm : s.al.size ^ nS s ≤ 4000) : Calls Try.prog 36 #[schV s bv] w fun e w' => ∃ v, e = .returned v ∧ Hid (IsSs w' v ((wordsS s).map (serB s.al s.ck))) ∧ Hid (Below w.heap.size w w') := by
  obtain ⟨i0, hi0, hz0, hz1, hz2⟩ := info_parts Try.infoStrS
  obtain ⟨w1, hw1⟩ : ∃ w1, w1 = w.alloc (.cells #[.string s.al, .int .i64 s.len, bv, .bool s.ck] 24) := ⟨_, rfl⟩
  have hb1 : Below w.heap.size w w1 := by rw [hw1]; exact below_al _ _
  have H4 : Hid (B4 w.heap.size (.string s.al) (.int .i64 s.len) bv (.bool s.ck) w1) := by rw [hw1]; exact B4.new _ _ _ _ _ _
  obtain ⟨w2, hw2⟩ : ∃ w2, w2 = w1.alloc (.cells #[.string ⟨#[]⟩] 9) := ⟨_, rfl⟩
  have hb2 : Below w1.heap.size w1 w2 := by rw [hw2]; exact below_al _ _
  have HSS : Hid (IsSs w2 (.slice (some ⟨w1.heap.size, 0, none⟩) 1 1) ((allW s.al.size 0).map (serB s.al false))) := by rw [hw2]; exact isSs_one w1 ⟨#[]⟩ 9
  have hs1' : w1.heap.size = w.heap.size + 1 := by rw [hw1, World.size_alloc]
  have H42 := Lib.hid (H4.out.below hb2)
  have HV2 := Lib.hid ((hs.below hb1).below (hb2.mono (Nat.le_refl _)))
  have HB2 := Lib.hid (hb1.trans (hb2.mono hb1.size))
  have HW1 := Lib.hid hw1; have HW2 := Lib.hid hw2
  have HWF := Lib.hid hW
  have hlen : s.len = (nS s : Int) := by have := hW.2.1; unfold nS; omega
  have hn16 : nS s ≤ 16 := by have := hW.2.2.1; unfold nS; omega
  have hA2 : 2 ≤ s.al.size := hW.1.1
  have hA36 : s.al.size ≤ 36 := hW.1.2.1
  have HSM := Lib.hid hsm
  have hALr : ∀ (V : World) (x : ByteArray), IsSs V bv s.bl → x.size ≤ 500 → OfA x s.al → Calls Try.prog 44 #[schV s bv, .string x] V fun e w' => e = .returned (.bool (decide (AllowW (bansS s) (wordN s.al x)))) ∧ Hid (Below V.heap.size V w') := fun V x hB hx ho => allowW_call hW hB hx ho
  have hSEr : ∀ (V : World) (u : List Nat), (∀ v ∈ u, v < s.al.size) → u.length ≤ 500 → Calls Try.prog 43 #[schV s bv, .string (serB s.al false u)] V fun e w' => e = .returned (.string (serB s.al s.ck u)) ∧ Hid (Below V.heap.size V w') := fun V u hu hl => RSerial_any hW hu hl
  obtain ⟨n, hn⟩ : ∃ n, n = nS s := ⟨_, rfl⟩
  obtain ⟨A, hA⟩ : ∃ A, A = s.al.size := ⟨_, rfl⟩
  obtain ⟨al, hal⟩ : ∃ al, al = s.al := ⟨_, rfl⟩
  obtain ⟨ck, hck⟩ : ∃ ck, ck = s.ck := ⟨_, rfl⟩
  unfold schV at hALr hSEr ⊢
  rw [← hn] at hlen hn16
  rw [← hn, ← hA] at HSM
  rw [hlen, ← hal, ← hck] at H42 HW1 hALr hSEr ⊢
  rw [← hA, ← hal] at HSS
  have HSS2 := HSS
  rw [hs1'] at HSS2
  have HSZ : Hid (∀ (t ty : TypeId), Try.prog.underlying t = some .string → ∀ W, (Builtin.len_ #[t] ty #[.string al]).run Try.prog W = .ok (.int .i64 (A : Int)) W) := fun t ty ht W => by rw [run_len_string _ _ _ _ ht, hA, hal]; rfl
  have hls := HSZ.out
  rw [← hA] at hA2 hA36
  have HALR := Lib.hid hALr; have HSER := Lib.hid hSEr
  have HN := Lib.hid hn; have HA := Lib.hid hA; have HAL := Lib.hid hal; have HCK := Lib.hid hck
  clear HSS hs1' hw1 hb1 hw2 hb2 hW hs hsm hlen hn hA hal hck hALr hSEr H4
  have k0 := H42.out.c0; have k1 := H42.out.c1; have k2 := H42.out.c2; have k3 := H42.out.c3
  go_enter Try.func36, Try.ntmps36
  go_upto_region 2 with fail
  rw [← HW1.out, ← HW2.out]
  go_wp2_with fail
  go_loopw [3, 4] (fun s3 s4 wr => ∃ (i m : Nat) (bo : Option Addr) (bc : Nat), i ≤ n ∧ s3 = .slice bo m bc ∧ s4 = .int .i64 i ∧ Hid (m = (allW A i).length) ∧ Hid (IsSs wr (.slice bo m bc) ((allW A i).map (serB al false))) ∧ Hid (Below w2.heap.size w2 wr)) (fun _ s4 _ => n - (intOf s4).toNat)
  case atStart => exact ⟨0, 1, _, _, Nat.zero_le _, rfl, rfl, rfl, HSS2, Below.refl _ _⟩
  case round =>
    obtain ⟨i, m, bo, bc, hi, rfl, rfl, HM, HBO, HBR⟩ := hrel
    clear k0 k1 k2 k3
    have h4r := H42.out.below HBR.out
    have k1 := h4r.c1
    by_cases q : i < n
    · have q1 : (i : Int) < (n : Int) := by omega
      obtain ⟨i1, hi1⟩ : ∃ i1, i1 = i + 1 := ⟨_, rfl⟩
      have hwi : IntKind.i64.wrap ((i : Int) + 1) = (i1 : Int) := by rw [IntWalk.i64_in _ (by omega)]; omega
      have hmm : n - i1 < n - i := by omega
      have hi1n : i1 ≤ n := by omega
      have HI1 := Lib.hid hi1
      have H4r := Lib.hid h4r
      have hm4 : m ≤ 4000 := by rw [HM.out, allW_len]; exact pow_le4 hA2 HSM.out hi
      have HTOT : Hid (m * A ≤ 4000) := by
        show _ ≤ _
        rw [HM.out, allW_len]
        have h5 := pow_le4 hA2 HSM.out hi1n
        rw [hi1, Nat.pow_succ] at h5
        exact h5
      obtain ⟨wo, hwo⟩ : ∃ wo, wo = wr := ⟨_, rfl⟩
      subst hwo
      clear hi1 h4r
      go_wp2_with fail
      go_loopw [5, 6] (fun s5 s6 wr => ∃ (k ln : Nat) (no : Option Addr) (nc : Nat), k ≤ m ∧ s5 = .slice no ln nc ∧ s6 = .int .i64 k ∧ Hid (StrR wo.heap.size al false (.slice no ln nc) ln (((allW A i).take k).flatMap (extW A)) wr) ∧ Hid (Below wo.heap.size wo wr)) (fun _ s6 _ => m - (intOf s6).toNat)
      case atStart => exact ⟨0, 0, none, 0, Nat.zero_le _, rfl, rfl, ⟨by simp; exact World.ownsRow_nil _ _ _ _, by simp⟩, Below.refl _ _⟩
      case round =>
        obtain ⟨k, ln, no, nc, hk, rfl, rfl, HR, HBk⟩ := hrel
        clear k1
        by_cases p : k < m
        · have p1 : (k : Int) < (m : Int) := by omega
          have hkl : k < (allW A i).length := by rw [← HM.out]; exact p
          obtain ⟨u, hu⟩ : ∃ u, u = (allW A i)[k] := ⟨_, rfl⟩
          have hum := allW_mem (List.getElem_mem hkl)
          rw [← hu] at hum
          obtain ⟨B, o_, hbo, d1⟩ := HBO.out.at' (j := k) (by rw [List.length_map]; exact hkl)
          rw [List.getElem_map, ← hu] at d1
          have HD1 : Hid (∀ V, Below wo.heap.size wo V → V.cell? ⟨B, o_ + k, none⟩ = some (.string (serB al false u)) ∧ V.cell? ⟨w.heap.size, 0, none⟩ = some (.string al)) := fun V hV => ⟨(hV.cell (p := ⟨B, o_ + k, none⟩) (World.block_lt_of_cell? _ _ d1)).trans d1, (H4r.out.below hV).c0⟩
          have HUM := Lib.hid hum
          have hxs : (serB al false u).size ≤ 16 := by
            rw [serB_size al i false hum.1]
            unfold szN
            simp
            omega
          obtain ⟨X, hX⟩ : ∃ X, X = serB al false u := ⟨_, rfl⟩
          rw [← hX] at HD1 hxs
          have HX := Lib.hid hX
          obtain ⟨k1, hk1⟩ : ∃ k1, k1 = k + 1 := ⟨_, rfl⟩
          have hwk : IntKind.i64.wrap ((k : Int) + 1) = (k1 : Int) := by rw [IntWalk.i64_in _ (by omega)]; omega
          have hkm : m - k1 < m - k := by omega
          have hk1m : k1 ≤ m := by omega
          have HFT : Hid (((allW A i).take k1).flatMap (extW A) = ((allW A i).take k).flatMap (extW A) ++ extW A u) := by
            show _ = _
            rw [hk1, flat_take A _ hkl, hu]
          obtain ⟨PRE, hPRE⟩ : ∃ PRE, PRE = ((allW A i).take k).flatMap (extW A) := ⟨_, rfl⟩
          rw [← hPRE] at HR HFT
          have HPL : Hid (PRE.length + A ≤ 4000) := by
            have h5 : (((allW A i).take k1).flatMap (extW A)).length ≤ m * A := by
              rw [flat_ext_len, List.length_take]
              exact Nat.mul_le_mul_right _ (by rw [← HM.out]; omega)
            rw [HFT.out, List.length_append, extW_len] at h5
            have := HTOT.out
            show _ ≤ _
            omega
          subst hbo
          clear d1 hu hum hX hkl hk1 hPRE
          go_wp2_with fail
          go_loopw [5, 7] (fun s5 s7 wr => ∃ (c ln : Nat) (no : Option Addr) (nc : Nat), c ≤ A ∧ s5 = .slice no ln nc ∧ s7 = .int .i64 c ∧ Hid (StrR wo.heap.size al false (.slice no ln nc) ln (PRE ++ (extW A u).take c) wr) ∧ Hid (Below wo.heap.size wo wr)) (fun _ s7 _ => A - (intOf s7).toNat)
          case atStart => exact ⟨0, ln, no, nc, Nat.zero_le _, rfl, rfl, by rw [List.take_zero, List.append_nil]; exact HR, HBk⟩
          case round =>
            obtain ⟨c, lc, no, nc, hc, rfl, rfl, HRc, HBc⟩ := hrel
            obtain ⟨d1, k0⟩ := HD1.out _ HBc.out
            by_cases r : c < A
            · have r1 : (c : Int) < (A : Int) := by omega
              obtain ⟨cc, hcc⟩ : ∃ cc, cc = c + 1 := ⟨_, rfl⟩
              have hwc : IntKind.i64.wrap ((c : Int) + 1) = (cc : Int) := by rw [IntWalk.i64_in _ (by omega)]; omega
              have hcs : c < al.size := by rw [HAL.out, ← HA.out]; exact r
              have hs2 : ∀ W, (Instr.slice 9 (.string al) (some (.int .i64 (c : Int))) (some (.int .i64 (cc : Int))) none).run Try.prog W = .ok (.string (al.extract c cc)) W := fun W => slice_in (by omega) (by omega) W
              obtain ⟨Z, hZ⟩ : ∃ Z, Z = X ++ al.extract c cc := ⟨_, rfl⟩
              have hl2 : (al.extract c cc).size ≤ 1 := by rw [ByteArray.size_extract]; omega
              have ha1 : ∀ W : World, (Op.stringOp .add X (al.extract c cc)).run Try.prog W = .ok (.string Z) W := fun W => by rw [run_string_add_sum W _ _ (by omega), hZ]
              have HZZ : Hid (Z = serB al false (u ++ [c])) := by show _ = _; rw [hZ, HX.out, hcc, serB_snoc u hcs]
              have hcm : A - cc < A - c := by omega
              have hcl : cc ≤ A := by omega
              have hlc : lc ≤ 4000 := by
                have h5 := HRc.out.len
                rw [List.length_append, List.length_take, extW_len] at h5
                have := HPL.out
                omega
              obtain ⟨xs, hxs2⟩ : ∃ xs, xs = (PRE ++ (extW A u).take c).map fun u => Value.string (serB al false u) := ⟨_, rfl⟩
              have HOW : Hid (wr.ownsRow wo.heap.size 9 1 (.slice no lc nc) lc xs) := by rw [hxs2]; exact HRc.out.own
              have HNX : Hid (∀ (w8 : World) v', w8.ownsRow wo.heap.size 9 1 v' (lc + 1) (xs ++ [.string Z]) → StrR wo.heap.size al false v' (lc + 1) (PRE ++ (extW A u).take cc) w8) := fun w8 v' h8 => by
                refine ⟨?_, ?_⟩
                · rw [hcc, extW_take A u r, ← List.append_assoc, List.map_append, ← hxs2]
                  simpa [HZZ.out] using h8
                · rw [hcc, extW_take A u r, ← List.append_assoc, List.length_append, ← HRc.out.len]
                  rfl
              have HO4 : Hid (∀ o, (wr.drew.alloc o).ownsRow wo.heap.size 9 1 (.slice no lc nc) lc xs) := fun o => World.ownsRow.alloc (w := wr.drew) HOW.out o
              have HZ4 : Hid (∀ o, wo.heap.size ≤ (wr.drew.alloc o).heap.size) := fun o => Nat.le_trans HBc.out.size (by rw [World.size_alloc]; exact Nat.le_succ _)
              have HBD : Hid (∀ o, Below wo.heap.size wo (wr.drew.alloc o)) := fun o => HBc.out.trans (((below_dr wr 1).trans (below_al wr.drew o)).mono HBc.out.size)
              have HG4 : Hid (∀ o w8, (wr.drew.alloc o).grownBy w8 (Value.slice no lc nc).ownBlock → Below wo.heap.size wo w8) := fun o w8 hg => (HBD.out o).grown hg (HZ4.out o) (fun y hy => (HOW.out.lt y hy).1)
              have HSC : Hid (∀ o, (wr.drew.alloc o).cell? ⟨B, o_ + k, none⟩ = some (.string X) ∧ (wr.drew.alloc o).cell? ⟨w.heap.size, 0, none⟩ = some (.string al)) := fun o => HD1.out _ (HBD.out o)
              have HML : Hid (lc + 1 ≤ maxLen) := by show _ ≤ _; unfold maxLen; omega
              have HBY : Hid ((lc + 1) * 16 ≤ 140737488355328) := by show _ ≤ _; omega
              have HONE : Hid (∀ u ∈ [Value.string Z], u.oneCell' = true) := by intro u hu; simp at hu; subst hu; rfl
              have HCC := Lib.hid hcc
              clear hZ hxs2 hcc hcs hl2 hlc
              go_upto_region 12 with fail
              have g0 : wr.drew.cell? ⟨w.heap.size, 0, none⟩ = some (.string al) := k0
              have g1 : wr.drew.cell? ⟨B, o_ + k, none⟩ = some (.string X) := d1
              clear k0 d1
              go_region_held3 (fun V : World => V.cell? ⟨B, o_ + k, none⟩ = some (.string X) ∧ V.cell? ⟨w.heap.size, 0, none⟩ = some (.string al)) (first | assumption | exact HSC.out _ | exact ⟨by assumption, by assumption⟩) (first
                | (refine step_app_at rfl (.tmp 30) (.tmp 42) 22 rfl wo.heap.size 9 i0 (.string ⟨#[]⟩) 1 16 Try.underlying22 hi0 hz0 hz1 hz2 rfl (by decide) (.slice no lc nc) lc xs (by rfl) (HO4.out _) ⟨wr.drew.heap.size, 0, none⟩ 1 1 [.string Z] rfl rfl (cell_one_new _ _ _) HONE.out HML.out HBY.out (HZ4.out _) ?_; intro v' w8 hown hgrow _; obtain ⟨no2, nc2, rfl⟩ := row_sl hown; have HB8 := Lib.hid (HG4.out _ _ hgrow); have hS8 := HD1.out _ HB8.out; have HO8 := Lib.hid (HNX.out _ _ hown); clear hown hgrow)
                | fail)
              go_wp2_with fail
              go_roundw
              case rel => exact ⟨cc, _, no2, nc2, hcl, rfl, by go_num, HO8, HB8⟩
              case measure => simp [intOf]; omega
            · obtain rfl : c = A := by omega
              have r1 : ¬ (c : Int) < (c : Int) := by omega
              go_wp2_with fail
              go_roundw
              case rel => exact ⟨k1, lc, no, nc, hk1m, rfl, by go_num, by rw [HFT.out]; have h5 := HRc.out; rw [List.take_of_length_le (by rw [extW_len]; exact Nat.le_refl _)] at h5; exact h5, HBc⟩
              case measure => simp [intOf]; omega
        · obtain rfl : k = m := by omega
          have p1 : ¬ (k : Int) < (k : Int) := by omega
          have hfin : ((allW A i).take k).flatMap (extW A) = allW A i1 := by
            rw [List.take_of_length_le (by rw [HM.out]; exact Nat.le_refl _), HI1.out, allW_snoc]
          have HR2 := HR.out
          rw [hfin] at HR2
          have HLN : Hid (ln = (allW A i1).length) := HR2.len
          have HIS : Hid (IsSs wr (.slice no ln nc) ((allW A i1).map (serB al false))) := HR2.isS
          have HBX := Lib.hid (HBR.out.trans (HBk.out.mono HBR.out.size))
          clear hfin HR2
          go_wp2_with fail
          go_roundw
          case rel => exact ⟨i1, ln, no, nc, hi1n, rfl, by go_num, HLN, HIS, HBX⟩
          case measure => simp [intOf]; omega
    · obtain rfl : i = n := by omega
      have q1 : ¬ (i : Int) < (i : Int) := by omega
      have H4r := Lib.hid h4r
      have hm4 : m ≤ 4000 := by rw [HM.out, allW_len]; exact pow_le4 hA2 HSM.out (Nat.le_refl _)
      obtain ⟨pp, hpp, hpw⟩ : ∃ pp : List Nat → Bool, (∀ u, pp u = true ↔ AllowW (bansS s) u) ∧ wordsS s = (allW A i).filter pp := by
        classical
        refine ⟨fun u => decide (AllowW (bansS s) u), fun u => by simp, ?_⟩
        have h5 := wordsS_filter HWF.out
        rw [HA.out, HN.out, h5]
      have HPP := Lib.hid hpp; have HPW := Lib.hid hpw
      obtain ⟨wo, hwo⟩ : ∃ wo, wo = wr := ⟨_, rfl⟩
      subst hwo
      have HVo := Lib.hid (HV2.out.below HBR.out)
      clear h4r hpp hpw
      go_wp2_with fail
      go_loopw [8, 9] (fun s8 s9 wr => ∃ (j lo : Nat) (oo : Option Addr) (oc : Nat), j ≤ m ∧ s8 = .slice oo lo oc ∧ s9 = .int .i64 j ∧ Hid (StrR wo.heap.size al ck (.slice oo lo oc) lo (((allW A i).take j).filter pp) wr) ∧ Hid (Below wo.heap.size wo wr)) (fun _ s9 _ => m - (intOf s9).toNat)
      case atStart => exact ⟨0, 0, none, 0, Nat.zero_le _, rfl, rfl, ⟨by simp; exact World.ownsRow_nil _ _ _ _, by simp⟩, Below.refl _ _⟩
      case round =>
        obtain ⟨j, lo, oo, oc, hj, rfl, rfl, HR, HB⟩ := hrel
        clear k1
        by_cases r : j < m
        · have r1 : (j : Int) < (m : Int) := by omega
          have hjl : j < (allW A i).length := by rw [← HM.out]; exact r
          obtain ⟨u, hu⟩ : ∃ u, u = (allW A i)[j] := ⟨_, rfl⟩
          have hum := allW_mem (List.getElem_mem hjl)
          rw [← hu] at hum
          obtain ⟨B, o_, hbo, d1⟩ := HBO.out.at' (j := j) (by rw [List.length_map]; exact hjl)
          rw [List.getElem_map, ← hu] at d1
          obtain ⟨X, hX⟩ : ∃ X, X = serB al false u := ⟨_, rfl⟩
          rw [← hX] at d1
          have hus : ∀ v ∈ u, v < s.al.size := by rw [← HA.out]; exact hum.2
          have hXs : X.size ≤ 500 := by
            rw [hX, serB_size al i false hum.1]
            unfold szN
            simp
            omega
          have hXo : OfA X al := by rw [hX, HAL.out]; exact serB_of HWF.out.1.1 false hus
          have hwu : wordN al X = u := by rw [hX, HAL.out]; exact serB_word HWF.out.1 false hus
          have HD1 : Hid (∀ V, Below wo.heap.size wo V → V.cell? ⟨B, o_ + j, none⟩ = some (.string X) ∧ V.cell? ⟨w.heap.size, 0, none⟩ = some (.string al) ∧ V.cell? ⟨w.heap.size, 1, none⟩ = some (.int .i64 (i : Int)) ∧ V.cell? ⟨w.heap.size, 2, none⟩ = some bv ∧ V.cell? ⟨w.heap.size, 3, none⟩ = some (.bool ck)) := fun V hV => by
            have h4 := H4r.out.below hV
            exact ⟨(hV.cell (p := ⟨B, o_ + j, none⟩) (World.block_lt_of_cell? _ _ d1)).trans d1, h4.c0, h4.c1, h4.c2, h4.c3⟩
          have HAWU : Hid (∀ V, Below wo.heap.size wo V → Calls Try.prog 44 #[.agg #[.string al, .int .i64 (i : Int), bv, .bool ck], .string X] V fun e w' => e = .returned (.bool (pp u)) ∧ Hid (Below V.heap.size V w')) := fun V hV => by
            refine (HALR.out V X (HVo.out.below hV) hXs hXo).mono ?_
            rintro e w' ⟨rfl, hb⟩
            refine ⟨?_, hb⟩
            rw [hwu]
            by_cases c : AllowW (bansS s) u
            · rw [decide_eq_true c, (HPP.out u).2 c]
            · rw [decide_eq_false c]
              cases h9 : pp u with
              | false => rfl
              | true => exact absurd ((HPP.out u).1 h9) c
          have HSEU : Hid (∀ V, Calls Try.prog 43 #[.agg #[.string al, .int .i64 (i : Int), bv, .bool ck], .string X] V fun e w' => e = .returned (.string (serB al ck u)) ∧ Hid (Below V.heap.size V w')) := fun V => by
            have h5 := HSER.out V u (by rw [HAL.out]; exact hus) (by rw [hum.1]; omega)
            rw [← hX] at h5
            exact h5
          obtain ⟨j1, hj1⟩ : ∃ j1, j1 = j + 1 := ⟨_, rfl⟩
          have hwj : IntKind.i64.wrap ((j : Int) + 1) = (j1 : Int) := by rw [IntWalk.i64_in _ (by omega)]; omega
          have hjm : m - j1 < m - j := by omega
          have hj1m : j1 ≤ m := by omega
          have HFT : Hid (((allW A i).take j1).filter pp = ((allW A i).take j).filter pp ++ (if pp u then [u] else [])) := by
            show _ = _
            rw [hj1, filter_take pp _ hjl, ← hu]
          have hlo : lo ≤ 4000 := by
            have h5 := HR.out.len
            have h6 : (((allW A i).take j).filter pp).length ≤ ((allW A i).take j).length := List.length_filter_le _ _
            rw [List.length_take] at h6
            omega
          have HBDr := Lib.hid (HB.out.trans ((below_dr wr 1).mono HB.out.size))
          have HBD : Hid (∀ V, Below wr.drew.heap.size wr.drew V → Below wo.heap.size wo V) := fun V hV => HBDr.out.trans (hV.mono HBDr.out.size)
          have HJ1 := Lib.hid hj1
          obtain ⟨f0, f1, f2, f3, f4⟩ := HD1.out _ HB.out
          obtain ⟨Y, hY⟩ : ∃ Y, Y = serB al ck u := ⟨_, rfl⟩
          rw [← hY] at HSEU
          have HY := Lib.hid hY
          subst hbo
          clear d1 hu hum hX hjl hj1 hus hXs hXo hwu hY
          cases hpu : pp u with
            | false =>
              have HFT2 : Hid (((allW A i).take j1).filter pp = ((allW A i).take j).filter pp) := by
                have h5 := HFT.out
                rw [hpu] at h5
                show _ = _
                simpa using h5
              have HAB : Hid (Calls Try.prog 44 #[.agg #[.string al, .int .i64 (i : Int), bv, .bool ck], .string X] wr.drew fun e w' => e = .returned (.bool false) ∧ Hid (Below wr.drew.heap.size wr.drew w')) := by
                have h5 := HAWU.out wr.drew HBDr.out
                rw [hpu] at h5
                exact h5
              clear hpu
              go_upto_region 18 with fail
              have g0 : wr.drew.cell? ⟨B, o_ + j, none⟩ = some (.string X) := f0
              have g1 : wr.drew.cell? ⟨w.heap.size, 0, none⟩ = some (.string al) := f1
              have g2 : wr.drew.cell? ⟨w.heap.size, 1, none⟩ = some (.int .i64 (i : Int)) := f2
              have g3 : wr.drew.cell? ⟨w.heap.size, 2, none⟩ = some bv := f3
              have g4 : wr.drew.cell? ⟨w.heap.size, 3, none⟩ = some (.bool ck) := f4
              clear f0 f1 f2 f3 f4
              go_region_held3 (fun V : World => V.cell? ⟨B, o_ + j, none⟩ = some (.string X) ∧ V.cell? ⟨w.heap.size, 0, none⟩ = some (.string al) ∧ V.cell? ⟨w.heap.size, 1, none⟩ = some (.int .i64 (i : Int)) ∧ V.cell? ⟨w.heap.size, 2, none⟩ = some bv ∧ V.cell? ⟨w.heap.size, 3, none⟩ = some (.bool ck)) (first | assumption | exact ⟨by assumption, by assumption, by assumption, by assumption, by assumption⟩) (first
                | (go_at_call 44; (with_reducible refine HAB.out.mono ?_); rintro e w5 ⟨rfl, HBq⟩; have HB5 := Lib.hid (HBD.out _ HBq.out); have hS5 := HD1.out _ HB5.out; have HR5 := Lib.hid ((HR.out.below (below_dr wr 1)).below HBq.out))
                | fail)
              go_wp2_with fail
              go_roundw
              case rel => exact ⟨j1, lo, oo, oc, hj1m, rfl, by go_num, by rw [HFT2.out]; exact HR5.out, HB5⟩
              case measure => simp [intOf]; omega
            | true =>
              have HFT2 : Hid (((allW A i).take j1).filter pp = ((allW A i).take j).filter pp ++ [u]) := by
                have h5 := HFT.out
                rw [hpu] at h5
                show _ = _
                simpa using h5
              have HAB : Hid (Calls Try.prog 44 #[.agg #[.string al, .int .i64 (i : Int), bv, .bool ck], .string X] wr.drew fun e w' => e = .returned (.bool true) ∧ Hid (Below wr.drew.heap.size wr.drew w')) := by
                have h5 := HAWU.out wr.drew HBDr.out
                rw [hpu] at h5
                exact h5
              clear hpu
              go_upto_region 18 with fail
              have g0 : wr.drew.cell? ⟨B, o_ + j, none⟩ = some (.string X) := f0
              have g1 : wr.drew.cell? ⟨w.heap.size, 0, none⟩ = some (.string al) := f1
              have g2 : wr.drew.cell? ⟨w.heap.size, 1, none⟩ = some (.int .i64 (i : Int)) := f2
              have g3 : wr.drew.cell? ⟨w.heap.size, 2, none⟩ = some bv := f3
              have g4 : wr.drew.cell? ⟨w.heap.size, 3, none⟩ = some (.bool ck) := f4
              clear f0 f1 f2 f3 f4
              go_region_held3 (fun V : World => V.cell? ⟨B, o_ + j, none⟩ = some (.string X) ∧ V.cell? ⟨w.heap.size, 0, none⟩ = some (.string al) ∧ V.cell? ⟨w.heap.size, 1, none⟩ = some (.int .i64 (i : Int)) ∧ V.cell? ⟨w.heap.size, 2, none⟩ = some bv ∧ V.cell? ⟨w.heap.size, 3, none⟩ = some (.bool ck)) (first | assumption | exact ⟨by assumption, by assumption, by assumption, by assumption, by assumption⟩) (first
                | (go_at_call 44; (with_reducible refine HAB.out.mono ?_); rintro e w5 ⟨rfl, HBq⟩; have HB5 := Lib.hid (HBD.out _ HBq.out); have hS5 := HD1.out _ HB5.out; have HR5 := Lib.hid ((HR.out.below (below_dr wr 1)).below HBq.out))
                | fail)
              obtain ⟨xs, hxs2⟩ : ∃ xs, xs = (((allW A i).take j).filter pp).map fun u => Value.string (serB al ck u) := ⟨_, rfl⟩
              have HOW : Hid (w5.ownsRow wo.heap.size 9 1 (.slice oo lo oc) lo xs) := by rw [hxs2]; exact HR5.out.own
              have HNX : Hid (∀ (w8 : World) v', w8.ownsRow wo.heap.size 9 1 v' (lo + 1) (xs ++ [.string Y]) → StrR wo.heap.size al ck v' (lo + 1) (((allW A i).take j1).filter pp) w8) := fun w8 v' h8 => by
                refine ⟨?_, ?_⟩
                · rw [HFT2.out, List.map_append, ← hxs2]
                  simpa [HY.out] using h8
                · rw [HFT2.out, List.length_append, ← HR5.out.len]
                  rfl
              have HBDr5 := Lib.hid (HB5.out.trans ((below_dr w5 1).mono HB5.out.size))
              have HBD5 : Hid (∀ V, Below w5.drew.heap.size w5.drew V → Below wo.heap.size wo V) := fun V hV => HBDr5.out.trans (hV.mono HBDr5.out.size)
              have HML : Hid (lo + 1 ≤ maxLen) := by show _ ≤ _; unfold maxLen; omega
              have HBY : Hid ((lo + 1) * 16 ≤ 140737488355328) := by show _ ≤ _; omega
              have HONE : Hid (∀ u ∈ [Value.string Y], u.oneCell' = true) := by intro u hu; simp at hu; subst hu; rfl
              clear hxs2 hlo g0 g1 g2 g3 g4
              obtain ⟨f0, f1, f2, f3, f4⟩ := hS5
              go_upto_region 19 with fail
              have g0 : w5.drew.cell? ⟨B, o_ + j, none⟩ = some (.string X) := f0
              have g1 : w5.drew.cell? ⟨w.heap.size, 0, none⟩ = some (.string al) := f1
              have g2 : w5.drew.cell? ⟨w.heap.size, 1, none⟩ = some (.int .i64 (i : Int)) := f2
              have g3 : w5.drew.cell? ⟨w.heap.size, 2, none⟩ = some bv := f3
              have g4 : w5.drew.cell? ⟨w.heap.size, 3, none⟩ = some (.bool ck) := f4
              clear f0 f1 f2 f3 f4
              go_region_held3 (fun V : World => V.cell? ⟨B, o_ + j, none⟩ = some (.string X) ∧ V.cell? ⟨w.heap.size, 0, none⟩ = some (.string al) ∧ V.cell? ⟨w.heap.size, 1, none⟩ = some (.int .i64 (i : Int)) ∧ V.cell? ⟨w.heap.size, 2, none⟩ = some bv ∧ V.cell? ⟨w.heap.size, 3, none⟩ = some (.bool ck)) (first | assumption | exact HSC6.out _ | exact ⟨by assumption, by assumption, by assumption, by assumption, by assumption⟩) (first
                | (go_at_call 43; (with_reducible refine (HSEU.out _).mono ?_); rintro e w6 ⟨rfl, HBq6⟩; have hS6 := HD1.out _ (HBD5.out _ HBq6.out); have HSC6 : Hid (∀ o, (w6.alloc o).cell? ⟨B, o_ + j, none⟩ = some (.string X) ∧ (w6.alloc o).cell? ⟨w.heap.size, 0, none⟩ = some (.string al) ∧ (w6.alloc o).cell? ⟨w.heap.size, 1, none⟩ = some (.int .i64 (i : Int)) ∧ (w6.alloc o).cell? ⟨w.heap.size, 2, none⟩ = some bv ∧ (w6.alloc o).cell? ⟨w.heap.size, 3, none⟩ = some (.bool ck)) := fun o => HD1.out _ ((HBD5.out _ HBq6.out).trans ((below_al w6 o).mono (HBD5.out _ HBq6.out).size)); have HO6 : Hid (∀ o, (w6.alloc o).ownsRow wo.heap.size 9 1 (.slice oo lo oc) lo xs) := fun o => (ownsRow_below (ownsRow_below HOW.out (below_dr w5 1)) HBq6.out).alloc o; have HZ6 : Hid (∀ o, wo.heap.size ≤ (w6.alloc o).heap.size) := fun o => Nat.le_trans (HBD5.out _ HBq6.out).size (by rw [World.size_alloc]; exact Nat.le_succ _); have HG6 : Hid (∀ o w8, (w6.alloc o).grownBy w8 (Value.slice oo lo oc).ownBlock → Below wo.heap.size wo w8) := fun o w8 hg => ((HBD5.out _ HBq6.out).trans ((below_al w6 o).mono (HBD5.out _ HBq6.out).size)).grown hg (HZ6.out o) (fun y hy => (HOW.out.lt y hy).1))
                | (refine step_app_at rfl (.tmp 57) (.tmp 64) 22 rfl wo.heap.size 9 i0 (.string ⟨#[]⟩) 1 16 Try.underlying22 hi0 hz0 hz1 hz2 rfl (by decide) (.slice oo lo oc) lo xs (by rfl) (HO6.out _) ⟨w6.heap.size, 0, none⟩ 1 1 [.string Y] rfl rfl (cell_one_new _ _ _) HONE.out HML.out HBY.out (HZ6.out _) ?_; intro v' w8 hown hgrow _; obtain ⟨oo2, oc2, rfl⟩ := row_sl hown; have HB8 := Lib.hid (HG6.out _ _ hgrow); have hS8 := HD1.out _ HB8.out; have HO8 := Lib.hid (HNX.out _ _ hown); clear hown hgrow)
                | fail)
              go_wp2_with fail
              go_roundw
              case rel => exact ⟨j1, _, oo2, oc2, hj1m, rfl, by go_num, HO8, HB8⟩
              case measure => simp [intOf]; omega
        · obtain rfl : j = m := by omega
          have r1 : ¬ (j : Int) < (j : Int) := by omega
          have HIS : Hid (IsSs wr (.slice oo lo oc) ((wordsS s).map (serB al ck))) := by
            have h5 := HR.out
            rw [List.take_of_length_le (by rw [HM.out]; exact Nat.le_refl _), ← HPW.out] at h5
            exact h5.isS
          have HBX := Lib.hid (HB2.out.trans ((HBR.out.trans (HB.out.mono HBR.out.size)).mono HB2.out.size))
          go_wp2_with fail
          go_ret
          exact ⟨_, rfl, HIS, HBX⟩
end Go.Proofs.Ytgblfobomiiofaa
namespace Go.Proofs.Ytgblfobomiiofaa
open Go Go.RowKit Go.Shelf Gw Go.Maps

theorem fitsW_of : ∀ {ms : List (Option Nat)} {u : List Nat} (hl : ms.length = u.length), (∀ i (h : i < u.length), ms[i]'(by omega) = none ∨ ms[i]'(by omega) = some u[i]) → fitsW ms u = true
  | [], [], _, _ => rfl
  | m :: ms, v :: u, hl, h => by
    have h1 : fitsW (m :: ms) (v :: u) = (fitsM m v && fitsW ms u) := rfl
    have h0 := h 0 (by simp)
    rw [h1, fitsW_of (by simpa using hl) (fun i hi => h (i + 1) (Nat.succ_lt_succ hi)), Bool.and_true]
    unfold fitsM
    rcases h0 with e | e
    · have e' : m = none := e
      subst e'; rfl
    · have e' : m = some v := e
      subst e'; simp
theorem mat_at {s : Sch} {t : ByteArray} {u : List Nat} (hV : ValidS s) (ht : IsMask s t) (hu : u.length = nS s) (huA : ∀ v ∈ u, v < s.al.size) (hm : MatT t (serB s.al s.ck u)) {i : Nat} (hi : i < t.size) : (maskN s.al t)[i]'(by rw [maskN_len]; exact hi) = none ∨ (maskN s.al t)[i]'(by rw [maskN_len]; exact hi) = some ((serU s.al s.ck u)[i]'(by rw [serU_len _ _ _ hu, ← ht.1]; exact hi)) := by
  have e3 : (maskN s.al t)[i]'(by rw [maskN_len]; exact hi) = (fun b => if b = 63 then none else some ((bys s.al).idxOf b)) ((bys t)[i]'(by rw [bys_len]; exact hi)) := List.getElem_map _
  have e4 : (maskN s.al t)[i]'(by rw [maskN_len]; exact hi) = if t[i] = 63 then none else some ((bys s.al).idxOf t[i]) := e3
  have h2 : i < (serB s.al s.ck u).size := by rw [serB_size _ _ _ hu, ← ht.1]; exact hi
  rw [e4]
  by_cases c0 : t[i] = 63
  · exact .inl (if_pos c0)
  · right
    rw [if_neg c0]
    rcases hm i hi h2 with c | c
    · exact absurd c c0
    · have hw := serB_word hV.1.1 s.ck huA
      have h5 := List.getElem_of_eq hw.symm (i := i) (by rw [serU_len _ _ _ hu, ← ht.1]; exact hi)
      rw [h5, c]
      have e5 : (wordN s.al (serB s.al s.ck u))[i]'(by rw [wordN_len]; exact h2) = (fun b => (bys s.al).idxOf b) ((bys (serB s.al s.ck u))[i]'(by rw [bys_len]; exact h2)) := List.getElem_map _
      rw [e5]
      rfl
theorem match_pass {s : Sch} {t : ByteArray} {u : List Nat} (hV : ValidS s) (ht : IsMask s t) (hu : u.length = nS s) (huA : ∀ v ∈ u, v < s.al.size) (hm : MatT t (serB s.al s.ck u)) : passM s t u = true := by
  have hle := le_szN (nS s) s.ck
  unfold passM
  rw [Bool.and_eq_true]
  refine ⟨fitsW_of (by rw [List.length_take, maskN_len, ht.1]; omega) (fun i hi => ?_), ?_⟩
  · have h1 := mat_at hV ht hu huA hm (i := i) (by rw [ht.1]; omega)
    have h2 : (serU s.al s.ck u)[i]'(by rw [serU_len _ _ _ hu]; omega) = u[i] := by
      have h3 := serU_take s.al s.ck hu
      have h4 := List.getElem_of_eq h3.symm (i := i) hi
      rw [h4, List.getElem_take]
    rw [h2] at h1
    simpa [List.getElem_take] using h1
  · unfold finL
    cases hck : s.ck with
    | false => unfold lastM; simp [hck]
    | true =>
      have h1 := mat_at hV ht hu huA hm (i := nS s) (by rw [ht.1, hck]; unfold szN; simp)
      rw [lastM_at ht hck]
      rcases h1 with e | e
      · simp [e]
      · rw [e]
        have h3 : (serU s.al s.ck u)[nS s]'(by rw [serU_len _ _ _ hu, hck]; unfold szN; simp) = lcN s.al.size (chk (ncN s.al.size) s.al.size u) := by
          simp [serU, hck, ← hu]
        rw [h3]
        simp
theorem pass_iff {s : Sch} {t : ByteArray} {u : List Nat} (hV : ValidS s) (ht : IsMask s t) (hu : u ∈ wordsS s) : passM s t u = true ↔ MatT t (serB s.al s.ck u) := by
  obtain ⟨h1, h2, _⟩ := wordsS_mem hu
  exact ⟨fun h => pass_match hV ht h1 h2 h, fun h => match_pass hV ht h1 h2 h⟩
set_option maxRecDepth 100000 in
set_option maxHeartbeats 4000000 in
theorem RMask_any {s : Sch} {bv : Value} {t : ByteArray} {w : World} (hW : WellF s) (hl : t.size ≤ 500) : Calls Try.prog 35 #[schV s bv, .string t] w fun e w' => ∃ r : Bool, e = .returned (.bool r) ∧ Hid (r = true ↔ IsMask s t) ∧ Hid (Below w.heap.size w w') := by
  obtain ⟨w1, hw1⟩ : ∃ w1, w1 = w.alloc (.cells #[.string s.al, .int .i64 s.len, bv, .bool s.ck] 24) := ⟨_, rfl⟩
  have hb1 : Below w.heap.size w w1 := by rw [hw1]; exact below_al _ _
  have H4 : Hid (B4 w.heap.size (.string s.al) (.int .i64 s.len) bv (.bool s.ck) w1) := by rw [hw1]; exact B4.new _ _ _ _ _ _
  have HB1 := Lib.hid hb1
  have HW1 := Lib.hid hw1
  have hlen : s.len = (nS s : Int) := by have := hW.2.1; unfold nS; omega
  have hn16 : nS s ≤ 16 := by have := hW.2.2.1; unfold nS; omega
  have HL := Lib.hid (fun (V : World) => Long_any (s := s) (bv := bv) (w := V) hlen hn16)
  have hA36 : s.al.size ≤ 36 := hW.1.2.1
  unfold schV at HL ⊢
  obtain ⟨Z, hZ⟩ : ∃ Z, Z = szN (nS s) s.ck := ⟨_, rfl⟩
  rw [← hZ] at HL
  have hZl : Z ≤ 500 := by rw [hZ]; unfold szN; split <;> omega
  have HZ := Lib.hid hZ
  have HMI : Hid (IsMask s t ↔ (t.size = Z ∧ MaskOf t s.al)) := by show _ ↔ _; rw [hZ]; exact Iff.rfl
  obtain ⟨al, hal⟩ : ∃ al, al = s.al := ⟨_, rfl⟩
  obtain ⟨len, hln⟩ : ∃ len, len = s.len := ⟨_, rfl⟩
  obtain ⟨ck, hck⟩ : ∃ ck, ck = s.ck := ⟨_, rfl⟩
  rw [← hal] at hA36 HMI
  rw [← hal, ← hln, ← hck] at H4 HW1 HL ⊢
  obtain ⟨z, hz⟩ : ∃ z, z = t.size := ⟨_, rfl⟩
  have hls : ∀ (a b : TypeId), Try.prog.underlying a = some .string → ∀ W, (Builtin.len_ #[a] b #[.string t]).run Try.prog W = .ok (.int .i64 (z : Int)) W := fun a b ht W => by rw [run_len_string _ _ _ _ ht, hz]; rfl
  have hzl : z ≤ 500 := by rw [hz]; exact hl
  have HT := Lib.hid hz
  rw [← hz] at HMI
  clear hw1 hb1 hlen hal hln hck hZ hz hl hW
  have k0 := H4.out.c0; have k1 := H4.out.c1; have k2 := H4.out.c2; have k3 := H4.out.c3
  by_cases c : z = Z
  case neg =>
    have c1 : ((z : Int) != (Z : Int)) = true := by rw [bne_iff_ne]; omega
    have HNO : Hid (¬ IsMask s t) := fun h => c (HMI.out.1 h).1
    clear c
    go_enter Try.func35, Try.ntmps35
    go_upto_region 1 with fail
    rw [← HW1.out]
    go_wp2_with (first
      | (go_at_call 40; (with_reducible refine (HL.out _).mono ?_); rintro e w2 ⟨rfl, hb⟩; have HB2 := Lib.hid (HB1.out.trans (hb.out.mono HB1.out.size)))
      | fail)
    go_ret
    exact ⟨false, rfl, ⟨fun h => (by cases h), fun h => absurd h HNO.out⟩, HB2⟩
  have c1 : ((z : Int) != (Z : Int)) = false := by rw [c]; simp
  have HC := Lib.hid c
  clear c
  go_enter Try.func35, Try.ntmps35
  go_upto_region 1 with fail
  rw [← HW1.out]
  go_wp2_with (first
    | (go_at_call 40; (with_reducible refine (HL.out _).mono ?_); rintro e w2 ⟨rfl, hb⟩; have HB2 := Lib.hid (HB1.out.trans (hb.out.mono HB1.out.size)); have H42 := Lib.hid (H4.out.below hb.out))
    | fail)
  clear k0 k1 k2 k3 c1
  go_loopw [5] (fun s5 wr => ∃ i : Nat, i ≤ z ∧ s5 = .int .i64 i ∧ Hid (∀ j (h : j < t.size), j < i → t[j] ∈ bys al ∨ t[j] = 63) ∧ Hid (Below w2.heap.size w2 wr)) (fun s5 _ => z - (intOf s5).toNat)
  case atStart => exact ⟨0, Nat.zero_le _, rfl, fun j _ h => absurd h (Nat.not_lt_zero j), Below.refl _ _⟩
  case round =>
    obtain ⟨i, hi, rfl, HJ, HBR⟩ := hrel
    have k0 := (H42.out.below HBR.out).c0
    have HBX := Lib.hid (HB2.out.trans (HBR.out.mono HB2.out.size))
    by_cases q : i < z
    · have q1 : (i : Int) < (z : Int) := by omega
      have hit : i < t.size := by rw [← HT.out]; exact q
      have hix := fun W => index_str hit W
      obtain ⟨b, hb⟩ : ∃ b, b = t[i] := ⟨_, rfl⟩
      rw [← hb] at hix
      obtain ⟨i1, hi1⟩ : ∃ i1, i1 = i + 1 := ⟨_, rfl⟩
      have hwi : IntKind.i64.wrap ((i : Int) + 1) = (i1 : Int) := by rw [IntWalk.i64_in _ (by omega)]; omega
      have him : z - i1 < z - i := by omega
      have hi1z : i1 ≤ z := by omega
      have HNX : Hid ((b ∈ bys al ∨ b = 63) → ∀ j (h : j < t.size), j < i1 → t[j] ∈ bys al ∨ t[j] = 63) := fun hbb j h hj => by
        by_cases e : j < i
        · exact HJ.out j h e
        · obtain rfl : j = i := by omega
          rw [← hb]; exact hbb
      have HMM : Hid (IsMask s t → b ∈ bys al ∨ b = 63) := fun h => by
        rw [hb]; exact (HMI.out.1 h).2 _ (bys_at hit)
      by_cases c63 : b = 63
      · have hbi : (b.toNat : Int) = 63 := by rw [c63]; rfl
        have HN2 := Lib.hid (HNX.out (.inr c63))
        rw [hbi] at hix
        have hne : ((63 : Int) != 63) = false := by decide
        clear hb hi1 c63 hbi hit
        go_upto_region 6 with fail
        go_quiet (fail)
        have HBq := Lib.hid (HBR.out.trans ((below_dr wr nq).mono HBR.out.size))
        clear k0 hix
        generalize World.drewN wr nq = wq at *
        go_wp2_with fail
        go_roundw
        case rel => exact ⟨i1, hi1z, by go_num, HN2, HBq⟩
        case measure => simp [intOf]; omega
      · have hbi : ((b.toNat : Int) != 63) = true := by
          rw [bne_iff_ne]
          intro e
          exact c63 (UInt8.toNat_inj.1 (by show b.toNat = 63; omega))
        obtain ⟨r, hr⟩ : ∃ r, r = Lib.indexByte (bys al) b := ⟨_, rfl⟩
        have HV1d : Hid (∀ q, Calls Try.prog 41 #[.string al, .int .u8 (b.toNat : Int)] (wr.drewN q) fun e w' => e = .returned (.int .i64 r) ∧ ∃ k, w' = wr.drewN k) := fun q => (Value_any (al := al) b (by omega) (wr.drewN q)).mono fun e w' ⟨h1, h2⟩ => ⟨by rw [h1, hr], q, h2.symm⟩
        by_cases cm : b ∈ bys al
        · have hr0 : ¬ r < 0 := by have := indexByte_mem.2 cm; rw [hr]; omega
          have HN2 := Lib.hid (HNX.out (.inl cm))
          generalize (b.toNat : Int) = vb at *
          clear hb hi1 c63 hit hr cm
          go_upto_region 6 with fail
          go_quiet (first | (go_at_call 41; with_reducible exact HV1d.out _) | fail)
          have HBq := Lib.hid (HBR.out.trans ((below_dr wr nq).mono HBR.out.size))
          clear k0 hix HV1d
          generalize World.drewN wr nq = wq at *
          go_wp2_with fail
          go_roundw
          case rel => exact ⟨i1, hi1z, by go_num, HN2, HBq⟩
          case measure => simp [intOf]; omega
        · have hr0 : r < 0 := by
            have : ¬ 0 ≤ Lib.indexByte (bys al) b := fun h => cm (indexByte_mem.1 h)
            rw [hr]; omega
          have HNO : Hid (¬ IsMask s t) := fun h => by
            rcases HMM.out h with e | e
            · exact cm e
            · exact c63 e
          generalize (b.toNat : Int) = vb at *
          clear hb hi1 c63 hit hr cm
          go_upto_region 6 with fail
          go_quiet (first | (go_at_call 41; with_reducible exact HV1d.out _) | fail)
          have HBq := Lib.hid (HBX.out.trans ((below_dr wr nq).mono HBX.out.size))
          clear k0 hix HV1d
          generalize World.drewN wr nq = wq at *
          go_wp2_with fail
          go_ret
          exact ⟨false, rfl, ⟨fun h => (by cases h), fun h => absurd h HNO.out⟩, HBq⟩
    · obtain rfl : i = z := by omega
      have q1 : ¬ (i : Int) < (i : Int) := by omega
      go_wp2_with fail
      go_ret
      have HYES : Hid (IsMask s t) := HMI.out.2 ⟨HC.out, fun b hb => by
        obtain ⟨j, hj, rfl⟩ := List.mem_iff_getElem.1 hb
        rw [bys_len] at hj
        exact HJ.out j hj (by rw [HT.out]; exact hj)⟩
      exact .inr ⟨rfl, HYES, HBX⟩
end Go.Proofs.Ytgblfobomiiofaa
namespace Go.Proofs.Ytgblfobomiiofaa
open Go Go.RowKit Go.Shelf Gw Go.Maps

/-- how many of the first i a mask lets through -/
def cntM (s : Sch) (t : ByteArray) (i : Nat) : Nat := (((wordsS s).take i).filter (passM s t)).length
theorem cntM_zero (s : Sch) (t : ByteArray) : cntM s t 0 = 0 := by unfold cntM; simp
theorem cntM_yes {s : Sch} {t : ByteArray} {i : Nat} (h : i < (wordsS s).length) (hp : passM s t (wordsS s)[i] = true) : cntM s t (i + 1) = cntM s t i + 1 := by
  unfold cntM
  rw [filter_take _ _ h, if_pos hp]
  simp
theorem cntM_no {s : Sch} {t : ByteArray} {i : Nat} (h : i < (wordsS s).length) (hp : ¬ passM s t (wordsS s)[i] = true) : cntM s t (i + 1) = cntM s t i := by
  unfold cntM
  rw [filter_take _ _ h, if_neg hp]
  simp
theorem cntM_all {s : Sch} {t : ByteArray} (ht : IsMask s t) {i : Nat} (h : (wordsS s).length ≤ i) : cntM s t i = (wordsM s t).length := by
  unfold cntM
  rw [List.take_of_length_le h, wordsM_filter ht]
theorem cntM_le (s : Sch) (t : ByteArray) (i : Nat) : cntM s t i ≤ i := by
  unfold cntM
  have h1 := List.length_filter_le (passM s t) ((wordsS s).take i)
  rw [List.length_take] at h1
  omega
/-- the next that a mask lets through -/
theorem wordsM_at {s : Sch} {t : ByteArray} (ht : IsMask s t) {i : Nat} (h : i < (wordsS s).length) (hp : passM s t (wordsS s)[i] = true) : (wordsM s t)[cntM s t i]? = some (wordsS s)[i] := by
  have e : wordsS s = (wordsS s).take i ++ (wordsS s)[i] :: (wordsS s).drop (i + 1) := by
    rw [← List.drop_eq_getElem_cons h, List.take_append_drop]
  rw [wordsM_filter ht]
  have e2 : (wordsS s).filter (passM s t) = ((wordsS s).take i).filter (passM s t) ++ (wordsS s)[i] :: ((wordsS s).drop (i + 1)).filter (passM s t) := by
    conv => lhs; rw [e]
    rw [List.filter_append, List.filter_cons, if_pos hp]
  rw [e2]
  unfold cntM
  rw [List.getElem?_append_right (Nat.le_refl _), Nat.sub_self]
  rfl
/-- the k-th, once it is found -/
def wantB (s : Sch) (t : ByteArray) (k : Int) (c : Nat) : ByteArray := if 0 ≤ k ∧ k < (c : Int) then serB s.al s.ck ((wordsM s t).getD k.toNat []) else ⟨#[]⟩
theorem wantB_zero (s : Sch) (t : ByteArray) (k : Int) : wantB s t k 0 = ⟨#[]⟩ := by
  unfold wantB
  rw [if_neg (by omega)]
theorem wantB_hit {s : Sch} {t : ByteArray} (ht : IsMask s t) {i : Nat} (h : i < (wordsS s).length) (hp : passM s t (wordsS s)[i] = true) {k : Int} (hk : (cntM s t i : Int) = k) : wantB s t k (cntM s t i + 1) = serB s.al s.ck (wordsS s)[i] := by
  unfold wantB
  rw [if_pos (by omega)]
  have e : k.toNat = cntM s t i := by omega
  rw [e, List.getD_eq_getElem?_getD, wordsM_at ht h hp]
  rfl
theorem wantB_miss {s : Sch} {t : ByteArray} {k : Int} {c : Nat} (hk : (c : Int) ≠ k) : wantB s t k (c + 1) = wantB s t k c := by
  unfold wantB
  by_cases h : 0 ≤ k ∧ k < (c : Int)
  · rw [if_pos h, if_pos (by omega)]
  · rw [if_neg h, if_neg (by omega)]
theorem wantB_end {s : Sch} {t : ByteArray} {K c : Nat} {u : List Nat} (hc : K < c) (hu : (wordsM s t)[K]? = some u) : wantB s t (K : Int) c = serB s.al s.ck u := by
  unfold wantB
  rw [if_pos (by omega), Int.toNat_natCast, List.getD_eq_getElem?_getD, hu]
  rfl
/-- below the N-th lie those of the first N -/
theorem bel_cnt {s : Sch} {t : ByteArray} (ht : IsMask s t) {N : Nat} (h : N < (wordsS s).length) : bel (wordsM s t) (wordsS s)[N] = cntM s t N := by
  have hs : (wordsS s).Pairwise ltW := sorted_words _ _ _
  rw [List.pairwise_iff_getElem] at hs
  have e : wordsS s = (wordsS s).take N ++ (wordsS s).drop N := (List.take_append_drop _ _).symm
  unfold bel cntM
  rw [wordsM_filter ht, List.countP_filter]
  obtain ⟨b, hb⟩ : ∃ b, b = (wordsS s)[N] := ⟨_, rfl⟩
  rw [← hb]
  conv => lhs; rw [e]
  rw [List.countP_append]
  have z : ((wordsS s).drop N).countP (fun u => decide (ltW u b) && passM s t u) = 0 := by
    rw [List.countP_eq_zero]
    intro u hu
    obtain ⟨j, hj, rfl⟩ := List.mem_iff_getElem.1 hu
    rw [List.length_drop] at hj
    rw [List.getElem_drop]
    have hn : ¬ ltW (wordsS s)[N + j] b := by
      rw [hb]
      intro c
      by_cases q : j = 0
      · subst q; exact ltW_irrefl _ c
      · exact ltW_irrefl _ (ltW_trans c (hs N (N + j) h (by omega) (by omega)))
    simp [hn]
  rw [z, Nat.add_zero, ← List.countP_eq_length_filter]
  refine List.countP_congr fun u hu => ?_
  obtain ⟨j, hj, rfl⟩ := List.mem_iff_getElem.1 hu
  rw [List.length_take] at hj
  rw [List.getElem_take]
  have hy : ltW (wordsS s)[j] b := by rw [hb]; exact hs j N (by omega) h (by omega)
  simp [hy]
end Go.Proofs.Ytgblfobomiiofaa
