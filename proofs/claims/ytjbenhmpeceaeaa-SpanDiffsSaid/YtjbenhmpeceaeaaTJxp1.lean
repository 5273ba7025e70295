/- Contracts and lemmas (several texts merged into one). -/
import Derived.Test.YtjbenhmpeceaeaaQp
import Derived.Deep.CutRange
import Derived.Deep.Cut
import Derived.BigQuiet
import Derived.Test.YtjbenhmpeceaeaaZk
import Derived.RangeFuncBox
import Derived.RangeFuncNested
import Derived.Test.YtjbenhmpeceaeaaZl
import Derived.Test.YtjbenhmpeceaeaaYv
import Derived.Test.YtjbenhmpeceaeaaZo
import Derived.Test.YtjbenhmpeceaeaaZq
import Derived.Test.YtjbenhmpeceaeaaYk
import Derived.Test.YtjbenhmpeceaeaaQl
import Derived.Test.YtjbenhmpeceaeaaYx
import Derived.Test.YtjbenhmpeceaeaaQr
import Derived.Test.YtjbenhmpeceaeaaQe
import Derived.Test.YtjbenhmpeceaeaaQf
import Derived.Maps.AppendAt
import Derived.Test.YtjbenhmpeceaeaaZg
namespace Go.Proofs.Ytjbenhmpeceaeaa
open Go Go.RowKit Gs

set_option maxHeartbeats 1000000 in
theorem RAlike_ne {B1 B2 : Nat} {W : World} {u v : Value} {L K : List R} (h1 : IsRs B1 W u L) (h2 : IsRs B2 W v K) (hlen : L.length ≤ 100000) (hlen2 : K.length ≤ 100000) (hLK : L ≠ K) : Calls Try.prog 26 #[u, v] W fun e w' => e = .returned (.bool false) ∧ Hid (Below W.heap.size W w') := by
  have HU := Lib.hid h1; have HV := Lib.hid h2
  obtain ⟨a, c, rfl, -⟩ := h1
  obtain ⟨a', c', rfl, -⟩ := h2
  obtain ⟨n, hn⟩ : ∃ n, n = L.length := ⟨_, rfl⟩
  obtain ⟨m, hm⟩ : ∃ m, m = K.length := ⟨_, rfl⟩
  rw [← hn] at HU ⊢
  rw [← hm] at HV ⊢
  have hnb : n ≤ 100000 := by omega
  have hmb : m ≤ 100000 := by omega
  have HN := Lib.hid hn; have HM := Lib.hid hm; have HLK := Lib.hid hLK
  clear hn hm hlen hlen2 hLK
  by_cases hnm : n = m
  · subst hnm
    go_enter Try.func26, Try.ntmps26
    go_wp2_with fail
    go_loopw [5] (fun iv wr => ∃ j : Nat, j ≤ n ∧ iv = .int .i64 j ∧ Hid (L.take j = K.take j) ∧ Hid (Below W.heap.size W wr)) (fun i _ => n - (intOf i).toNat)
    case atStart => exact ⟨0, by omega, rfl, rfl, Below.refl _ _⟩
    case round =>
      obtain ⟨j, hj, rfl, HT, HB⟩ := hrel
      by_cases hlt : j < n
      · have hj2 : (j : Int) < n := by omega
        have hj0 : (0 : Int) ≤ (j : Int) := by omega
        have hjl : j < L.length := by rw [← HN.out]; exact hlt
        have hjk : j < K.length := by rw [← HM.out]; exact hlt
        obtain ⟨b, d, hv, hcs⟩ := HU.out.below HB.out
        injection hv with hv1 hv2 hv3
        clear hv2 hv3
        subst hv1
        obtain ⟨G, e1, -, hcs2⟩ := hcs (by omega)
        clear hcs
        subst e1
        obtain ⟨c0, c1, c2⟩ := hcs2 j hjl
        clear hcs2
        obtain ⟨b', d', hv, hcs⟩ := HV.out.below HB.out
        injection hv with hv1 hv2 hv3
        clear hv2 hv3
        subst hv1
        obtain ⟨G', e1, -, hcs2⟩ := hcs (by omega)
        clear hcs
        subst e1
        obtain ⟨d0, d1, d2⟩ := hcs2 j hjk
        clear hcs2
        rcases hx : L[j] with ⟨xa, xb, xc⟩
        rcases hy : K[j] with ⟨ya, yb, yc⟩
        have HX := Lib.hid hx; have HY := Lib.hid hy
        rw [hx] at c0 c1 c2
        rw [hy] at d0 d1 d2
        simp only at c0 c1 c2 d0 d1 d2
        clear hx hy
        by_cases m1 : xa = ya
        · by_cases m2 : xb = yb
          · by_cases m3 : xc = yc
            · subst m1; subst m2; subst m3
              have HT2 : Hid (L.take (j + 1) = K.take (j + 1)) := by
                show L.take (j + 1) = K.take (j + 1)
                rw [List.take_succ_eq_append_getElem hjl, List.take_succ_eq_append_getElem hjk, HT.out, HX.out, HY.out]
              clear HX HY
              go_wp2_with fail
              go_quiet (fail)
              rename_i nq
              have HBn : Hid (Below W.heap.size W (World.drewN wr nq)) := below_drewN HB.out nq
              clear c0 c1 c2 d0 d1 d2
              generalize hw : World.drewN _ nq = w2 at HBn ⊢
              clear hw
              go_wp2_with fail
              go_roundw
              case rel => exact ⟨j + 1, by omega, by go_num, HT2, HBn⟩
              case measure => simp [intOf]; omega
            · subst m1; subst m2
              have n3 : (xc == yc) = false := beq_eq_false_iff_ne.2 m3
              clear HX HY m3
              go_wp2_with fail
              go_quiet (fail)
              rename_i nq
              have HBn : Hid (Below W.heap.size W (World.drewN wr nq)) := below_drewN HB.out nq
              clear c0 c1 c2 d0 d1 d2
              generalize hw : World.drewN _ nq = w2 at HBn ⊢
              clear hw
              go_wp2_with fail
              go_ret
              exact ⟨rfl, HBn.out⟩
          · subst m1
            have n2 : (xb == yb) = false := beq_eq_false_iff_ne.2 m2
            clear HX HY m2
            go_wp2_with fail
            go_quiet (fail)
            rename_i nq
            have HBn : Hid (Below W.heap.size W (World.drewN wr nq)) := below_drewN HB.out nq
            clear c0 c1 c2 d0 d1 d2
            generalize hw : World.drewN _ nq = w2 at HBn ⊢
            clear hw
            go_wp2_with fail
            go_ret
            exact ⟨rfl, HBn.out⟩
        · skip
          have n1 : (xa == ya) = false := beq_eq_false_iff_ne.2 m1
          clear HX HY m1
          go_wp2_with fail
          go_quiet (fail)
          rename_i nq
          have HBn : Hid (Below W.heap.size W (World.drewN wr nq)) := below_drewN HB.out nq
          clear c0 c1 c2 d0 d1 d2
          generalize hw : World.drewN _ nq = w2 at HBn ⊢
          clear hw
          go_wp2_with fail
          go_ret
          exact ⟨rfl, HBn.out⟩
      · have hj2 : ¬ (j : Int) < n := by omega
        exfalso
        have e : j = n := by omega
        have h1 := HT.out
        rw [e, List.take_of_length_le (by have := HN.out; omega), List.take_of_length_le (by have := HM.out; omega)] at h1
        exact HLK.out h1
  · have hne : ((n : Int) == (m : Int)) = false := beq_eq_false_iff_ne.2 (by omega)
    have HBr : Hid (Below W.heap.size W W) := Below.refl _ _
    clear hnm
    go_enter Try.func26, Try.ntmps26
    go_wp2_with fail
    go_ret
    exact ⟨rfl, HBr.out⟩
/-- ref.Same, of two maps -/
theorem RSame_any {B1 B2 : Nat} {W : World} {u v : Value} {L K : List R} {s s2 : Int} {E : Bool} (h1 : IsRs B1 W u L) (h2 : IsRs B2 W v K) (hlen : L.length ≤ 100000) (hlen2 : K.length ≤ 100000) (hE : E = true ↔ s = s2 ∧ L = K) :
    Calls Try.prog 33 #[.agg #[.int .i64 s, u], .agg #[.int .i64 s2, v]] W fun e w' => e = .returned (.bool E) ∧ Hid (Below W.heap.size W w') := by
  obtain ⟨w1, HW1⟩ : ∃ w1, w1 = W.alloc (.cells #[.int .i64 s, u] 33) := ⟨_, rfl⟩
  obtain ⟨w2, HW2⟩ : ∃ w2, w2 = w1.alloc (.cells #[.int .i64 s2, v] 33) := ⟨_, rfl⟩
  have b1 : Below W.heap.size W w1 := by rw [HW1]; exact (Below.refl _ _).alloc (Nat.le_refl _) _
  have b2 : Below w1.heap.size w1 w2 := by rw [HW2]; exact (Below.refl _ _).alloc (Nat.le_refl _) _
  have s1 : w1.heap.size = W.heap.size + 1 := by rw [HW1]; simp
  have hb := b1.trans (b2.mono b1.size)
  have k0 : w2.cell? ⟨W.heap.size, 0, none⟩ = some (.int .i64 s) := (b2.cell (p := ⟨W.heap.size, 0, none⟩) (by show W.heap.size < _; omega)).trans (by rw [HW1]; exact World.cell?_alloc_at _ _ _ _ rfl)
  have k1 : w2.cell? ⟨W.heap.size, 1, none⟩ = some u := (b2.cell (p := ⟨W.heap.size, 1, none⟩) (by show W.heap.size < _; omega)).trans (by rw [HW1]; exact World.cell?_alloc_at _ _ _ _ rfl)
  have k2 : w2.cell? ⟨W.heap.size + 1, 0, none⟩ = some (.int .i64 s2) := by rw [HW2, ← s1]; exact World.cell?_alloc_at _ _ _ _ rfl
  have k3 : w2.cell? ⟨W.heap.size + 1, 1, none⟩ = some v := by rw [HW2, ← s1]; exact World.cell?_alloc_at _ _ _ _ rfl
  have HB := Lib.hid hb
  rw [HW1] at HW2
  have HW2' := Lib.hid HW2
  have HA : Hid (s = s2 → Calls Try.prog 26 #[u, v] w2 fun e w' => e = .returned (.bool E) ∧ Hid (Below w2.heap.size w2 w')) := fun e => by
    by_cases hLK : L = K
    · have : E = true := hE.2 ⟨e, hLK⟩
      subst hLK
      rw [this]
      exact RAlike_same (h1.below hb) (h2.below hb) hlen
    · have : E = false := by
        cases hEE : E with
        | false => rfl
        | true => exact absurd (hE.1 hEE).2 hLK
      rw [this]
      exact RAlike_ne (h1.below hb) (h2.below hb) hlen hlen2 hLK
  have HF : Hid (s ≠ s2 → E = false) := fun e => by
    cases hEE : E with
    | false => rfl
    | true => exact absurd (hE.1 hEE).1 e
  obtain ⟨a1, n1, c1, hu⟩ : ∃ a n c, u = .slice a n c := by obtain ⟨a, c, rfl, _⟩ := h1; exact ⟨_, _, _, rfl⟩
  obtain ⟨a2, n2, c2, hv⟩ : ∃ a n c, v = .slice a n c := by obtain ⟨a, c, rfl, _⟩ := h2; exact ⟨_, _, _, rfl⟩
  subst hu; subst hv
  clear HW1 HW2 b1 b2 s1 hb h1 h2 hE
  by_cases hs : s = s2
  · have HA2 := Lib.hid (HA.out hs)
    clear HA HF
    subst hs
    go_enter Try.func33, Try.ntmps33
    go_wp2_with fail
    rw [← HW2'.out]
    go_wp2_with fail
    refine HA2.out.mono ?_
    rintro e w3 ⟨rfl, HB3⟩
    have HB4 : Hid (Below W.heap.size W w3) := HB.out.trans (HB3.out.mono HB.out.size)
    go_wp2_with fail
    go_ret
    exact ⟨rfl, HB4.out⟩
  · have hne : (s == s2) = false := beq_eq_false_iff_ne.2 hs
    have HE := Lib.hid (HF.out hs)
    clear hs HA HF
    go_enter Try.func33, Try.ntmps33
    go_upto_region 1 with fail
    rw [← HW2'.out]
    go_wp2_with fail
    go_ret
    exact ⟨by rw [HE.out]; rfl, HB.out⟩
end Go.Proofs.Ytjbenhmpeceaeaa
namespace Go.Proofs.Ytjbenhmpeceaeaa
open Go Go.RowKit Gs

/-- none of the maps is unusable: E tells whether they have one size -/
theorem checkSizes_ok (B c : Nat) (ms : List MV) (s E : Int) (W : World) (hB : B < W.heap.size) (hc : ∀ j (h : j < ms.length), W.cell? ⟨B, j * 2, none⟩ = some (.pointer ms[j].p) ∧ W.cell? ⟨B, j * 2 + 1, none⟩ = some (.int .i64 ms[j].2)) (hn : ms.length ≤ 4)
    (hu : ∀ m ∈ ms, m.1 ≠ none) (h0 : 0 < ms.length) (hs : W.cell? ⟨B, 1, none⟩ = some (.int .i64 s)) (he : (∀ m ∈ ms, m.2 = s) → E = 0) (he2 : (∃ m ∈ ms, m.2 ≠ s) → E = 2) :
    Calls Try.prog 57 #[.slice (some ⟨B, 0, none⟩) ms.length c] W fun e w' => e = .returned (.int .i64 E) ∧ Below W.heap.size W w' := by
  have HUS := Lib.hid (fun b size W' => isUsable_any b size W')
  have HC : Hid (∀ W' j (h : j < ms.length), Below W.heap.size W W' → W'.cell? ⟨B, j * 2, none⟩ = some (.pointer ms[j].p) ∧ W'.cell? ⟨B, j * 2 + 1, none⟩ = some (.int .i64 ms[j].2)) := fun W' j h hb => ⟨(hb.cell (p := ⟨B, j * 2, none⟩) hB).trans (hc j h).1, (hb.cell (p := ⟨B, j * 2 + 1, none⟩) hB).trans (hc j h).2⟩
  have HS : Hid (∀ W', Below W.heap.size W W' → W'.cell? ⟨B, 1, none⟩ = some (.int .i64 s)) := fun W' hb => (hb.cell (p := ⟨B, 1, none⟩) hB).trans hs
  have HU := Lib.hid hu; have HE := Lib.hid he; have HE2 := Lib.hid he2
  have HA : Hid (∀ (W' : World) o, Below W'.heap.size W' (W'.alloc o)) := fun W' o => (Below.refl _ _).alloc (Nat.le_refl _) _
  have HNEW : Hid (∀ (W' : World) x y t, (W'.alloc (.cells #[x, y] t)).cell? ⟨W'.heap.size, 1, none⟩ = some y) := fun W' x y t => World.cell?_alloc_at _ _ _ _ rfl
  clear hc hu he he2 hs
  obtain ⟨n, hnn⟩ : ∃ n, n = ms.length := ⟨_, rfl⟩
  have HN := Lib.hid hnn
  rw [← hnn] at hn h0 ⊢
  clear hnn
  go_enter Try.func57, Try.ntmps57
  go_wp2_with fail
  go_loopw [9] (fun i wr => ∃ j : Nat, j ≤ n ∧ i = .int .i64 j ∧ Hid (Below W.heap.size W wr)) (fun i _ => n - (intOf i).toNat)
  case atStart => exact ⟨0, by omega, rfl, Below.refl _ _⟩
  case round =>
    obtain ⟨j, hj, rfl, HB⟩ := hrel
    by_cases hlt : j < n
    · have hj2 : (j : Int) < n := by omega
      have hjn : j < ms.length := by rw [← HN.out]; exact hlt
      obtain ⟨hc0, hc1⟩ := HC.out wr j hjn HB.out
      have hnn := HU.out ms[j] (List.getElem_mem hjn)
      rcases hm : ms[j] with ⟨mp, z⟩
      rw [hm] at hc0 hc1 hnn
      cases mp with
      | none => exact absurd rfl hnn
      | some b =>
        have hc0 : wr.cell? ⟨B, j * 2, none⟩ = some (.pointer (some ⟨b, 0, none⟩)) := hc0
        simp only at hc1
        clear hm hnn
        go_wp2_with fail
        refine (HUS.out _ _ _).mono ?_
        rintro e w3 ⟨rfl, hb⟩
        have HB3 := Lib.hid (HB.out.trans ((((HA.out _ _).trans (hb.mono (HA.out _ _).size)).mono HB.out.size)))
        clear hb
        go_wp2_with fail
        go_roundw
        case rel => exact ⟨j + 1, by omega, by go_num, HB3⟩
        case measure => simp [intOf]; omega
    · have hjn : j = n := by omega
      subst hjn
      have hlt' : ¬ ((j : Int) < j) := by omega
      go_wp2_with fail
      go_loopw [19] (fun i wr => ∃ k : Nat, k ≤ j ∧ i = .int .i64 k ∧ Hid (∀ i (h : i < ms.length), i < k → ms[i].2 = s) ∧ Hid (Below W.heap.size W wr)) (fun i _ => j - (intOf i).toNat)
      case atStart => exact ⟨0, by omega, rfl, fun k _ h => absurd h (by omega), HB.out⟩
      case round =>
        clear HB
        obtain ⟨k, hk, rfl, HK, HB⟩ := hrel
        by_cases hlt2 : k < j
        · have hk2 : (k : Int) < j := by omega
          have hkn : k < ms.length := by rw [← HN.out]; exact hlt2
          obtain ⟨hc0, hc1⟩ := HC.out wr k hkn HB.out
          have HEQ := Lib.hid (HE2.out)
          have HMM := Lib.hid (List.getElem_mem hkn)
          rcases hm : ms[k] with ⟨mp, z⟩
          have HM := Lib.hid hm
          rw [hm] at hc0 hc1
          obtain ⟨pp, hpp⟩ : ∃ pp, pp = MV.p (mp, z) := ⟨_, rfl⟩
          rw [← hpp] at hc0
          simp only at hc1
          clear hm hpp
          obtain ⟨w9, HW9⟩ : ∃ w9, w9 = wr.alloc (.cells #[.pointer pp, .int .i64 z] 27) := ⟨_, rfl⟩
          have HW9' := Lib.hid HW9
          have n1 : w9.cell? ⟨wr.heap.size, 1, none⟩ = some (.int .i64 z) := by rw [HW9]; exact HNEW.out _ _ _ _
          have hb9 : Below W.heap.size W w9 := by rw [HW9]; exact HB.out.trans ((HA.out _ _).mono HB.out.size)
          have HB9 := Lib.hid hb9
          have n2 := HS.out w9 hb9
          clear HW9 hb9
          go_upto_region 10 with fail
          rw [← HW9'.out]
          by_cases hz : z = s
          · subst hz
            have HK2 : Hid (∀ i (h : i < ms.length), i < k + 1 → ms[i].2 = z) := fun i h hi => by
              by_cases e : i = k
              · subst e; rw [HM.out]
              · exact HK.out i h (by omega)
            clear HM
            go_wp2_with fail
            go_quiet (fail)
            rename_i nq
            have HBn : Hid (Below W.heap.size W (World.drewN w9 nq)) := below_drewN HB9.out nq
            clear n1 n2
            generalize hw : World.drewN _ nq = w2 at HBn ⊢
            clear hw
            go_wp2_with fail
            go_roundw
            case rel => exact ⟨k + 1, by omega, by go_num, HK2, HBn⟩
            case measure => simp [intOf]; omega
          · have hz' : (z == s) = false := beq_eq_false_iff_ne.2 hz
            have HE3 : Hid (E = 2) := HE2.out ⟨ms[k], HMM.out, by rw [HM.out]; exact hz⟩
            clear HM hz
            go_wp2_with fail
            go_quiet (fail)
            rename_i nq
            have HBn : Hid (Below W.heap.size W (World.drewN w9 nq)) := below_drewN HB9.out nq
            clear n1 n2
            generalize hw : World.drewN _ nq = w2 at HBn ⊢
            clear hw
            go_wp2_with fail
            go_ret
            exact ⟨by rw [HE3.out]; rfl, HBn.out⟩
        · have hlt' : ¬ ((k : Int) < j) := by omega
          have HE3 : Hid (E = 0) := HE.out fun m hm => by
            obtain ⟨i, hi, rfl⟩ := List.getElem_of_mem hm
            exact HK.out i hi (by have := HN.out; omega)
          go_wp2_with fail
          go_ret
          exact ⟨by rw [HE3.out]; rfl, HB.out⟩
end Go.Proofs.Ytjbenhmpeceaeaa
namespace Go.Proofs.Ytjbenhmpeceaeaa
open Go Go.RowKit Go.Shelf Gs

attribute [local go_sem] Oper.semAt_some

set_option maxHeartbeats 1000000 in
theorem Equal_ne (p q : Option Addr) (s t : Int) (W : World) (hne : s ≠ t) : Calls Try.prog 32 #[.agg #[.pointer p, .int .i64 s], .agg #[.pointer q, .int .i64 t]] W fun e w' => e = .returned (.bool false) ∧ Below W.heap.size W w' := by
  have hne2 : (s == t) = false := beq_eq_false_iff_ne.2 hne
  have HB : Hid (∀ o o2 o3, Below W.heap.size W (((W.alloc o).alloc o2).alloc o3)) := fun o o2 o3 => (((Below.refl _ _).alloc (Nat.le_refl _) _).alloc (by simp) _).alloc (by simp; omega) _
  refine (callsIn_wide (n := 9)).1 ?_
  refine callsIn_of_wp_marks Try.func32 rfl trivial ?_ rfl
  simp only [Try.ntmps32, List.size_toArray, List.length_cons, List.length_nil, Nat.reduceAdd, Nat.reduceSub, Array.replicate_succ, Array.replicate_zero, List.push_toArray, List.append_toArray, List.nil_append, List.cons_append]
  gi_wp2
  refine ⟨.bool false, by simp [results, Try.results32, go_sem], rfl, HB.out _ _ _⟩
set_option maxRecDepth 100000 in
set_option maxHeartbeats 2000000 in
theorem Equal_un (q : Option Addr) (s : Int) (W : World) : Calls Try.prog 32 #[.agg #[.pointer none, .int .i64 s], .agg #[.pointer q, .int .i64 s]] W fun e w' => e = .returned (.bool true) ∧ Below W.heap.size W w' := by
  obtain ⟨w0, HW⟩ : ∃ w0, w0 = ((W.alloc (.cells #[.pointer none, .int .i64 s] 27)).alloc (.cells #[.pointer q, .int .i64 s] 27)).alloc (.cells #[.bool false] 4) := ⟨_, rfl⟩
  have hsz : w0.heap.size = W.heap.size + 1 + 1 + 1 := by rw [HW]; simp
  have hc : w0.cell? ⟨W.heap.size + 1 + 1, 0, none⟩ = some (.bool false) := by rw [HW]; exact World.cell?_alloc_at _ _ _ _ (by simp)
  have hf : w0.frozen? ⟨W.heap.size + 1 + 1, 0, none⟩ = false := by rw [HW]; exact World.frozen?_alloc_at _ _ _ _ (by simp)
  have hb : Below W.heap.size W w0 := by rw [HW]; exact (((Below.refl _ _).alloc (Nat.le_refl _) _).alloc (by simp) _).alloc (by simp; omega) _
  obtain ⟨w1, HW1⟩ : ∃ w1, w1 = w0.alloc (.cells #[.pointer none, .int .i64 s] 27) := ⟨_, rfl⟩
  have b1 : Below w0.heap.size w0 w1 := by rw [HW1]; exact (Below.refl _ _).alloc (Nat.le_refl _) _
  have e1 : w1.heap.size = w0.heap.size + 1 := by rw [HW1]; simp
  obtain ⟨q0, q1, q2, q3, q4⟩ := seq_cells w1 none 0 s
  have b2 := b1.trans (q4.mono b1.size)
  have hc2 := (b2.cell (p := ⟨W.heap.size + 1 + 1, 0, none⟩) (by show _ + 1 + 1 < _; omega)).trans hc
  have hf2 := (b2.frozen (p := ⟨W.heap.size + 1 + 1, 0, none⟩) (by show _ + 1 + 1 < _; omega)).trans hf
  have hb2 : Below W.heap.size W (seqW w1 none 0 s) := hb.trans (b2.mono hb.size)
  have HAL : Hid (CallsIn Fence.wide 8 Try.prog 58 #[.agg #[.pointer none, .int .i64 s]] w0 fun e w' => e = .returned (seqV w1.heap.size) ∧ w' = seqW w1 none 0 s) := callsIn_wide.2 (by rw [e1, HW1]; exact all_any none s w0)
  have hge : W.heap.size ≤ (seqW w1 none 0 s).heap.size := hb2.size
  have HSQ : Hid _ := seq_nil Fence.wide 8 trivial rfl trivial rfl w1.heap.size W.heap.size 0 s (seqW w1 none 0 s) (by rw [q3]; omega) q0 q1 q2
  have HW' := Lib.hid HW
  rw [hsz] at e1
  rw [e1] at HSQ HAL
  generalize seqW w1 none 0 s = w2 at *
  clear q0 q1 q2 q3 q4 b1 b2 HW hc hf hb HW1 e1 hsz
  refine (callsIn_wide (n := 9)).1 ?_
  refine callsIn_of_wp_marks Try.func32 rfl trivial ?_ rfl
  simp only [Try.ntmps32, List.size_toArray, List.length_cons, List.length_nil, Nat.reduceAdd, Nat.reduceSub, Array.replicate_succ, Array.replicate_zero, List.push_toArray, List.append_toArray, List.nil_append, List.cons_append]
  gi_wp2_with (refine ⟨trivial, ?_⟩; gi_at_call 58; rw [← HW'.out]; refine HAL.out.mono ?_; rintro e w' ⟨rfl, rfl⟩)
  refine wpIn_rangeFunc_ownH rfl (by omega) (gf := 72) (lb := #[.pointer (some ⟨W.heap.size + 1 + 1 + 1 + 1, 0, none⟩), .pointer (some ⟨W.heap.size + 1 + 1 + 1 + 1 + 1, 0, none⟩), .pointer (some ⟨W.heap.size + 1 + 1 + 1 + 1 + 1 + 1, 0, none⟩)]) rfl trivial (enters_of Try.func72 (by kernel_rfl) rfl)
    HSQ.out belowK_t (belowK_b hge) (Below.refl _ _) (fun _ => rfl)
    (fun pre W' => (W'.cell? ⟨W.heap.size + 1 + 1, 0, none⟩ = some (.bool false) ∧ W'.frozen? ⟨W.heap.size + 1 + 1, 0, none⟩ = false) ∧ Below W.heap.size W W')
    (fun _ _ _ => False)
    (OwnFrom.and (Own.from (fun s A B row hs hg hr => ⟨cell_kept hs.1 hg hr, (frozen_kept hs.1 hg hr).trans hs.2⟩) _) (ownFrom_below (Nat.le_refl _) hge))
    (fun _ _ _ _ _ hs _ _ => hs)
    ⟨⟨hc2, hf2⟩, hb2⟩ (fun _ _ _ => True) (fun _ _ _ _ _ _ _ _ _ => trivial) ?assign ?body ?done ?stop
  case assign =>
    rintro l pre ⟨xa, xb, xc⟩ W' K ⟨⟨h1, h2⟩, h3⟩ hK
    unfold encR
    gi_wp2
    exact hK _ _ ((KeepsOthers.alloc _ _).from _) ((Below.refl _ W').alloc h3.size _) ⟨⟨cell_kept h1 (World.grownBy_alloc W' _ none) (fun r e => by cases e), (frozen_kept h1 (World.grownBy_alloc W' _ none) (fun r e => by cases e)).trans h2⟩, h3.alloc h3.size _⟩ trivial
  case body =>
    intro l pre x a' W' _ _ _ _ hlt
    exact absurd hlt (Nat.not_lt_zero _)
  case done =>
    rintro D ys W' hD hys ⟨⟨h1, h2⟩, h3⟩ hK
    gi_wp2
    have hK2 := (KeepsOthers.setCell W' ⟨W.heap.size + 1 + 1, 0, none⟩ (.bool true)).same D _ hK rfl
    have hcell := cell_kept (World.cell?_setCell_same _ _ (.bool true) h1) (grownBy_putObj' _ D (.deferred none)) (fun r e => by cases e; exact ⟨_, hK2, rfl⟩)
    refine ⟨by simp, .inl ⟨_, _, rfl, run_takeDeferred hK2, ?_⟩⟩
    refine ⟨.bool true, by simp [results, Try.results32, go_sem, hcell], rfl, ?_⟩
    exact (h3.setCell (p := ⟨W.heap.size + 1 + 1, 0, none⟩) (by show _ ≤ W.heap.size + 1 + 1; omega) _).trans (belowK_b (w := W) (Nat.le_refl _) _ D _ _ (by omega) hK2 rfl rfl)
  case stop =>
    rintro D c pre W' _ h _
    exact h.elim
end Go.Proofs.Ytjbenhmpeceaeaa
namespace Go.Proofs.Ytjbenhmpeceaeaa
open Go Go.RowKit Go.Shelf Gs

attribute [local go_sem] Oper.semAt_some

/-- of lists that cover the same pieces, one whose runs are all among the other's is the other -/
theorem fits_sub {f g : Int → Int} : ∀ {l k : List R} {a b : Int}, Fits f a l b → Fits g a k b → (∀ r ∈ l, r ∈ k) → l = k
  | [], k, a, b, h, h', _ => by
    have h : a = b := h
    subst h
    cases k with
    | nil => rfl
    | cons s k => have := h'.lt; omega
  | r :: l, k, a, b, h, h', hs => by
    have hlt := h.lt
    cases k with
    | nil => have h' : a = b := h'; omega
    | cons s k =>
      have hr := hs r (List.mem_cons_self ..)
      have e1 := h.1; have s1 := h'.1; have s2 := h'.2.1
      have hrs : r = s := by
        rcases List.mem_cons.1 hr with h1 | h1
        · exact h1
        · exfalso
          have : ∀ {k : List R} {c : Int}, Fits g c k b → ∀ x ∈ k, c ≤ x.lo := by
            intro k
            induction k with
            | nil => intro c _ x hx; cases hx
            | cons y k ih =>
              intro c hc x hx
              rcases List.mem_cons.1 hx with h2 | h2
              · subst h2; have := hc.1; omega
              · have := ih hc.2.2.2 x h2; have := hc.1; have := hc.2.1; omega
          have := this h'.2.2.2 r h1
          omega
      subst hrs
      have hno : ∀ {l : List R} {c : Int}, Fits f c l b → ∀ x ∈ l, c ≤ x.lo := by
        intro l
        induction l with
        | nil => intro c _ x hx; cases hx
        | cons y k ih =>
          intro c hc x hx
          rcases List.mem_cons.1 hx with h2 | h2
          · subst h2; have := hc.1; omega
          · have := ih hc.2.2.2 x h2; have := hc.1; have := hc.2.1; omega
      rw [fits_sub h.2.2.2 h'.2.2.2 fun x hx => by
        rcases List.mem_cons.1 (hs x (List.mem_cons_of_mem _ hx)) with h2 | h2
        · exfalso
          have q1 := hno h.2.2.2 x hx
          have q2 := h.2.1
          rw [h2] at q1
          omega
        · exact h2]
/-- two runs that hold a piece are one -/
theorem fits_one {f : Int → Int} : ∀ {l : List R} {a b : Int} {r s : R} {p : Int}, Fits f a l b → r ∈ l → s ∈ l → r.lo ≤ p → p < r.hi → s.lo ≤ p → p < s.hi → r = s
  | [], _, _, _, _, _, _, hr, _, _, _, _, _ => by cases hr
  | x :: l, a, b, r, s, p, h, hr, hs, r1, r2, s1, s2 => by
    have hno : ∀ {l : List R} {c : Int}, Fits f c l b → ∀ x ∈ l, c ≤ x.lo := by
      intro l
      induction l with
      | nil => intro c _ x hx; cases hx
      | cons y k ih =>
        intro c hc x hx
        rcases List.mem_cons.1 hx with h2 | h2
        · subst h2; have := hc.1; omega
        · have := ih hc.2.2.2 x h2; have := hc.1; have := hc.2.1; omega
    rcases List.mem_cons.1 hr with h1 | h1
    · rcases List.mem_cons.1 hs with h2 | h2
      · rw [h1, h2]
      · have := hno h.2.2.2 s h2; rw [h1] at r2; omega
    · rcases List.mem_cons.1 hs with h2 | h2
      · have := hno h.2.2.2 r h1; rw [h2] at s2; omega
      · exact fits_one h.2.2.2 h1 h2 r1 r2 s1 s2
theorem fits_find {f : Int → Int} : ∀ {l : List R} {a b : Int} {p : Int}, Fits f a l b → a ≤ p → p < b → ∃ r ∈ l, r.lo ≤ p ∧ p < r.hi
  | [], a, b, p, h, h1, h2 => by have h : a = b := h; omega
  | x :: l, a, b, p, h, h1, h2 => by
    have e := h.1
    by_cases hp : p < x.hi
    · exact ⟨x, List.mem_cons_self .., by omega, hp⟩
    · obtain ⟨r, hr, h3⟩ := fits_find h.2.2.2 (by omega) h2
      exact ⟨r, List.mem_cons_of_mem _ hr, h3⟩
theorem fits_rng {f : Int → Int} : ∀ {l : List R} {a b : Int}, Fits f a l b → ∀ r ∈ l, a ≤ r.lo ∧ r.lo < r.hi ∧ r.hi ≤ b
  | [], _, _, _, _, hr => by cases hr
  | x :: l, a, b, h, r, hr => by
    have h1 := h.1; have h2 := h.2.1; have h3 := h.2.2.2.le
    rcases List.mem_cons.1 hr with e | e
    · subst e; omega
    · have := fits_rng h.2.2.2 r e; omega
set_option maxHeartbeats 1000000 in
/-- the iterator's contract, where a round is told that its run is one of the range's -/
theorem seqP_stops {f : Int → Int} {t : T} {p : Option Addr} {a b lo hi : Int} {B n₀ n : Nat} {w : World} (C : List R) (hC : clip lo hi t.L = C) (hB : B + 1 + 1 < w.heap.size) (hn : n₀ ≤ w.heap.size)
    (c0 : w.cell? ⟨B, 0, none⟩ = some (.pointer p)) (c1 : w.cell? ⟨B + 1, 0, none⟩ = some (.int .i64 lo)) (c2 : w.cell? ⟨B + 1 + 1, 0, none⟩ = some (.int .i64 hi)) (ht : IsTB n₀ w t p) (hc : Gs.Can f a t.L b) :
    SeqStopsK Fence.wide n Try.prog 72 #[.pointer (some ⟨B, 0, none⟩), .pointer (some ⟨B + 1, 0, none⟩), .pointer (some ⟨B + 1 + 1, 0, none⟩)] (fun x : { r : R // r ∈ C } => encR x.1) (Below n₀) (fun ys => ys.map (·.1) = C) (fun q => q.map (·.1) <+: C) C.length w := fun l J Jx W hW hJ hJx hY h0 => by
  have hp := visitP_in (fun r => r ∈ C) f l n₀ C.length (fun pre W => ∃ us : List { r : R // r ∈ C }, us.map (·.1) = pre ∧ J us W) (fun pre W => ∃ us : List { r : R // r ∈ C }, us.map (·.1) = pre ∧ Jx us W)
    (fun s W W' ⟨us, e, hs⟩ hg => ⟨us, e, hJ us W W' none hs hg (fun r e => by cases e)⟩) (fun s W W' ⟨us, e, hs⟩ hg => ⟨us, e, hJx us W W' none hs hg (fun r e => by cases e)⟩)
    (fun m pre x W1 ⟨us, e, hj⟩ hl hx => YieldAt.mono (YieldAt.deep rfl m (hY us ⟨x, hx⟩ W1 hj (by rw [← e, List.length_map] at hl; exact hl))) fun e' W2 h => h.elim (fun ⟨he, hj2, hk⟩ => .inl ⟨he, ⟨us ++ [⟨x, hx⟩], by rw [List.map_append, e]; rfl, hj2⟩, hk⟩) fun ⟨he, hj2⟩ => .inr ⟨he, ⟨us ++ [⟨x, hx⟩], by rw [List.map_append, e]; rfl, hj2⟩⟩)
    t (n - 1) p a b lo hi [] W (ht.below (hW.mono hn)) (Nat.le_trans hn hW.size) hc ⟨[], rfl, h0⟩ (by simp [hC]) (fun x hx => by rw [hC] at hx; exact hx)
  rw [hC] at hp
  have k0 : W.cell? ⟨B, 0, none⟩ = some (.pointer p) := (hW.cell (p := ⟨B, 0, none⟩) (by show B < _; omega)).trans c0
  have k1 : W.cell? ⟨B + 1, 0, none⟩ = some (.int .i64 lo) := (hW.cell (p := ⟨B + 1, 0, none⟩) (by show B + 1 < _; omega)).trans c1
  have k2 : W.cell? ⟨B + 1 + 1, 0, none⟩ = some (.int .i64 hi) := (hW.cell (p := ⟨B + 1 + 1, 0, none⟩) (by show B + 1 + 1 < _; omega)).trans c2
  clear c0 c1 c2 hW hY hC
  refine callsIn_of_wp Try.func72 rfl trivial ?_ rfl
  simp only [Try.ntmps72, List.size_toArray, List.length_cons, List.length_nil, Nat.reduceAdd, Nat.reduceSub, Array.replicate_succ, Array.replicate_zero, List.push_toArray, List.append_toArray, List.nil_append, List.cons_append]
  gi_wp2_with fail
  refine ⟨trivial, (fun h => by cases h), hp.mono ?_⟩
  rintro e W1 (⟨rfl, ⟨us, h1, h2⟩, _⟩ | ⟨rfl, q, hq, us, h1, h2⟩)
  · gi_wp2_with fail
    go_end0
    exact ⟨⟨_, rfl⟩, .inl ⟨us, by simpa using h1, h2⟩⟩
  · gi_wp2_with fail
    go_end0
    exact ⟨⟨_, rfl⟩, .inr ⟨us, by rw [h1]; simpa using hq, h2⟩⟩
theorem IsM.tree {f : Int → Int} {size : Int} {W : World} {p : Option Addr} (h : IsM f size W p) : ∃ t, IsT W t (.pointer p) ∧ Gs.Can f 0 t.L size := by
  obtain ⟨t, t1, t2, _⟩ := h.tr
  exact ⟨t, t1, t2⟩
set_option maxRecDepth 100000 in
set_option maxHeartbeats 2000000 in
theorem Equal_any {f g : Int → Int} {size : Int} {W : World} {p q : Option Addr} (h : IsM f size W p) (h' : IsM g size W q) :
    ∃ La Lb, Gs.Can f 0 La size ∧ Gs.Can g 0 Lb size ∧ Calls Try.prog 32 #[.agg #[.pointer p, .int .i64 size], .agg #[.pointer q, .int .i64 size]] W fun e w' => ∃ b, e = .returned (.bool b) ∧ Hid (b = true ↔ La = Lb) ∧ Below W.heap.size W w' := by
  have hs := h.lo
  obtain ⟨ta, a1, a2⟩ := IsM.tree h
  obtain ⟨tb, b1, b2⟩ := IsM.tree h'
  have hcl := Gs.Can.same (clip_can a2 (Int.le_refl 0) (by omega) (Int.le_refl size)) a2
  refine ⟨ta.L, tb.L, a2, b2, ?_⟩
  obtain ⟨w0, HW⟩ : ∃ w0, w0 = ((W.alloc (.cells #[.pointer p, .int .i64 size] 27)).alloc (.cells #[.pointer q, .int .i64 size] 27)).alloc (.cells #[.bool false] 4) := ⟨_, rfl⟩
  have hsz : w0.heap.size = W.heap.size + 1 + 1 + 1 := by rw [HW]; simp
  have hc : Boxed w0 (W.heap.size + 1 + 1) 4 (.bool false) := by
    have := Boxed.new ((W.alloc (.cells #[.pointer p, .int .i64 size] 27)).alloc (.cells #[.pointer q, .int .i64 size] 27)) 4 (.bool false)
    rw [← HW] at this
    simpa using this
  have hq : w0.heap[W.heap.size + 1]? = some (.cells #[.pointer q, .int .i64 size] 27 (0, 0)) := by
    rw [HW, Below.heap_alloc _ _ _ (by simp)]
    have := World.alloc_heap_new (W.alloc (.cells #[.pointer p, .int .i64 size] 27)) (.cells #[.pointer q, .int .i64 size] 27)
    rwa [World.size_alloc] at this
  have hb : Below W.heap.size W w0 := by rw [HW]; exact (((Below.refl _ _).alloc (Nat.le_refl _) _).alloc (by simp) _).alloc (by simp; omega) _
  obtain ⟨w1, HW1⟩ : ∃ w1, w1 = w0.alloc (.cells #[.pointer p, .int .i64 size] 27) := ⟨_, rfl⟩
  have c1 : Below w0.heap.size w0 w1 := by rw [HW1]; exact (Below.refl _ _).alloc (Nat.le_refl _) _
  have e1 : w1.heap.size = w0.heap.size + 1 := by rw [HW1]; simp
  obtain ⟨q0, q1, q2, q3, q4⟩ := seq_cells w1 p 0 size
  have c2 := c1.trans (q4.mono c1.size)
  have hc2 : Boxed (seqW w1 p 0 size) (W.heap.size + 1 + 1) 4 (.bool false) := (c2.block _ (by omega)).trans hc
  have hq2 : (seqW w1 p 0 size).heap[W.heap.size + 1]? = some (.cells #[.pointer q, .int .i64 size] 27 (0, 0)) := (c2.block _ (by omega)).trans hq
  have hb2 : Below W.heap.size W (seqW w1 p 0 size) := hb.trans (c2.mono hb.size)
  have HAL : Hid (CallsIn Fence.wide 8 Try.prog 58 #[.agg #[.pointer p, .int .i64 size]] w0 fun e w' => e = .returned (seqV w1.heap.size) ∧ w' = seqW w1 p 0 size) := callsIn_wide.2 (by rw [e1, HW1]; exact all_any p size w0)
  have hge : W.heap.size ≤ (seqW w1 p 0 size).heap.size := hb2.size
  have HSQ := Lib.hid (seqP_stops (n := 8) (n₀ := W.heap.size) (lo := 0) (hi := size) ta.L hcl (by rw [q3]; omega) hge q0 q1 q2 ((IsT.tb a1).below hb2) a2)
  have HATB : Hid (∀ W' x, Below W.heap.size W W' → 0 ≤ x → x < size → CallsIn Fence.wide 6 Try.prog 45 #[.pointer q, .int .i64 x] W' fun e w' => ∃ lo hi tag, e = .returned (.agg #[.int .i64 lo, .int .i64 hi, .int .i64 tag]) ∧ Hid ((⟨lo, hi, tag⟩ : R) ∈ tb.L ∧ lo ≤ x ∧ x < hi) ∧ Below W'.heap.size W' w') := fun W' x hB x1 x2 => callsIn_wide.2 ((at_any g 0 size tb q W' x (IsT.below hB b1) b2 x1 x2).mono fun e w' ⟨l, lo, hi, tag, k, he, hk, hB⟩ => ⟨lo, hi, tag, he, ⟨by rw [hk.out.1]; simp, hk.out.2⟩, hB⟩)
  have HFA := Lib.hid a2
  have HFB := Lib.hid b2
  have HW' := Lib.hid HW
  rw [hsz] at e1
  rw [e1] at HSQ HAL
  generalize seqW w1 p 0 size = w2 at *
  clear h h' hs q0 q1 q2 q3 q4 c1 c2 HW hc hq hb HW1 e1 hsz a1 a2 b1 b2 hcl
  refine (callsIn_wide (n := 9)).1 ?_
  refine callsIn_of_wp_marks Try.func32 rfl trivial ?_ rfl
  simp only [Try.ntmps32, List.size_toArray, List.length_cons, List.length_nil, Nat.reduceAdd, Nat.reduceSub, Array.replicate_succ, Array.replicate_zero, List.push_toArray, List.append_toArray, List.nil_append, List.cons_append]
  gi_wp2_with (refine ⟨trivial, ?_⟩; gi_at_call 58; rw [← HW'.out]; refine HAL.out.mono ?_; rintro e w' ⟨rfl, rfl⟩)
  refine wpIn_rangeFunc_ownH rfl (by omega) (gf := 72) (lb := #[.pointer (some ⟨W.heap.size + 1 + 1 + 1 + 1, 0, none⟩), .pointer (some ⟨W.heap.size + 1 + 1 + 1 + 1 + 1, 0, none⟩), .pointer (some ⟨W.heap.size + 1 + 1 + 1 + 1 + 1 + 1, 0, none⟩)]) rfl trivial (enters_of Try.func72 (by kernel_rfl) rfl)
    HSQ.out belowK_t (belowK_b hge) (Below.refl _ _) (fun _ => rfl)
    (fun pre W' => ((Boxed W' (W.heap.size + 1 + 1) 4 (.bool false) ∧ W'.heap[W.heap.size + 1]? = some (.cells #[.pointer q, .int .i64 size] 27 (0, 0))) ∧ ∀ r ∈ pre, r.1 ∈ tb.L) ∧ Below W.heap.size W W')
    (fun c pre' W' => (c = .ret ∧ Boxed W' (W.heap.size + 1 + 1) 4 (.bool false) ∧ ∃ r ∈ pre', r.1 ∉ tb.L) ∧ Below W.heap.size W W')
    (OwnFrom.and (Own.from (fun s A B row hs hg hr => ⟨⟨boxed_own (W.heap.size + 1 + 1) 4 (fun (_ : Unit) => .bool false) () A B row hs.1.1 hg hr, (hg.block _ (Array.getElem?_eq_some_iff.1 hs.1.2).1 (fun e => by obtain ⟨o, ho, hc⟩ := hr _ e.symm; rw [hs.1.2] at ho; cases ho; cases hc)).trans hs.1.2⟩, hs.2⟩) _) (ownFrom_below (Nat.le_refl _) hge))
    (fun c => OwnFrom.and (Own.from (fun s A B row hs hg hr => ⟨hs.1, boxed_own (W.heap.size + 1 + 1) 4 (fun (_ : Unit) => .bool false) () A B row hs.2.1 hg hr, hs.2.2⟩) _) (ownFrom_below (Nat.le_refl _) hge))
    ⟨⟨⟨hc2, hq2⟩, fun r hr => by cases hr⟩, hb2⟩
    (fun x a' W' => ∃ Bx, W.heap.size + 1 + 1 < Bx ∧ Rb W' Bx x.1 ∧ a' = { tmps := #[.agg #[.pointer p, .int .i64 size], .agg #[.pointer q, .int .i64 size], .pointer (some ⟨W.heap.size, 0, none⟩), .pointer (some ⟨W.heap.size + 1, 0, none⟩), .pointer (some ⟨W.heap.size + 1 + 1, 0, none⟩), .pointer (some ⟨Bx, 0, none⟩), .pointer (some ⟨W.heap.size, 1, none⟩), .int .i64 size, .pointer (some ⟨W.heap.size + 1, 1, none⟩), .int .i64 size, .bool false, .agg #[.pointer p, .int .i64 size], seqV (W.heap.size + 1 + 1 + 1 + 1), .agg #[.int .i64 x.1.lo, .int .i64 x.1.hi, .int .i64 x.1.tag], undef, undef, undef, undef, undef, undef, undef], defers := [] })
    (fun x a' => Own.from (fun s A B row hs hg hr => by
      obtain ⟨Bx, h1, h2, h3⟩ := hs
      exact ⟨Bx, h1, Rb.own Bx x.1 () A B row h2 hg hr, h3⟩) _) ?assign ?body ?done ?stop
  case assign =>
    rintro l pre ⟨⟨xa, xb, xc⟩, hxm⟩ W' K ⟨⟨⟨g1, g2⟩, g3⟩, g4⟩ hK
    unfold encR
    gi_wp2
    exact hK _ _ ((KeepsOthers.alloc _ _).from _) ((Below.refl _ W').alloc g4.size _) ⟨⟨⟨g1.alloc _, ((Below.refl W'.heap.size W').alloc (Nat.le_refl _) _).block _ (Nat.lt_trans (Nat.lt_succ_self _) g1.lt) |>.trans g2⟩, g3⟩, g4.alloc g4.size _⟩ ⟨W'.heap.size, g1.lt, Rb.new W' ⟨xa, xb, xc⟩, rfl⟩
  case body =>
    rintro l pre ⟨⟨xa, xb, xc⟩, hxm⟩ a' W' hl ⟨r, hr⟩ ⟨⟨⟨g1, g2⟩, g3⟩, g4⟩ ⟨Bx, hBx, bX, rfl⟩ hlt
    have hrg := fits_rng HFA.out.1 _ hxm
    simp only at hrg
    have hc0 := g1.cell; have hf0 := g1.frozen
    have k0 : W'.cell? ⟨W.heap.size + 1, 0, none⟩ = some (.pointer q) := by simp [World.cell?, g2]
    obtain ⟨r0, r1, r2⟩ := bX.cells
    simp only at r0 r1 r2
    obtain ⟨⟨ya, yb, yc⟩, hym, hy1, hy2⟩ := fits_find (p := xa) HFB.out.1 hrg.1 (by omega)
    simp only at hy1 hy2
    have HAT : Hid (CallsIn Fence.wide 6 Try.prog 45 #[.pointer q, .int .i64 xa] W'.drew fun e w' => e = .returned (.agg #[.int .i64 ya, .int .i64 yb, .int .i64 yc]) ∧ Below W'.drew.heap.size W'.drew w') := (HATB.out W'.drew xa g4.drew hrg.1 (by omega)).mono fun e w' ⟨lo, hi, tag, he, hm, hB⟩ => by
      have := fits_one HFB.out.1 hm.out.1 hym hm.out.2.1 hm.out.2.2 hy1 hy2
      cases this
      exact ⟨he, hB⟩
    have HXC : Hid (∀ w5, Below W'.drew.heap.size W'.drew w5 → w5.cell? ⟨Bx, 0, none⟩ = some (.int .i64 xa) ∧ w5.cell? ⟨Bx, 1, none⟩ = some (.int .i64 xb) ∧ w5.cell? ⟨Bx, 2, none⟩ = some (.int .i64 xc)) := fun w5 h => ⟨(h.cell (p := ⟨Bx, 0, none⟩) bX.lt).trans r0, (h.cell (p := ⟨Bx, 1, none⟩) bX.lt).trans r1, (h.cell (p := ⟨Bx, 2, none⟩) bX.lt).trans r2⟩
    have HNEXT : Hid ((⟨xa, xb, xc⟩ : R) = ⟨ya, yb, yc⟩ → ∀ r ∈ pre ++ [(⟨⟨xa, xb, xc⟩, hxm⟩ : { r : R // r ∈ ta.L })], r.1 ∈ tb.L) := fun e r hr => by
      rcases List.mem_append.1 hr with h1 | h1
      · exact g3 r h1
      · rw [List.mem_singleton.1 h1]; show (⟨xa, xb, xc⟩ : R) ∈ tb.L; rw [e]; exact hym
    have HSTOP : Hid ((⟨xa, xb, xc⟩ : R) ≠ ⟨ya, yb, yc⟩ → ∃ r ∈ pre ++ [(⟨⟨xa, xb, xc⟩, hxm⟩ : { r : R // r ∈ ta.L })], r.1 ∉ tb.L) := fun e => ⟨⟨⟨xa, xb, xc⟩, hxm⟩, List.mem_append_right _ (List.mem_singleton.2 rfl), fun h => e (fits_one HFB.out.1 h hym (Int.le_refl _) hrg.2.1 hy1 hy2)⟩
    have hG1 := Lib.hid g1; have hG2 := Lib.hid g2; have hG4 := Lib.hid g4
    have HBX : Hid (∀ w5, Below W'.drew.heap.size W'.drew w5 → Boxed w5 (W.heap.size + 1 + 1) 4 (.bool false)) := fun w5 h => (h.block _ g1.lt).trans g1
    by_cases m1 : xa = ya
    · by_cases m2 : xb = yb
      · by_cases m3 : xc = yc
        · subst m1; subst m2; subst m3
          gi_wp2_with fail
          gi_region_with (first | (refine ⟨trivial, ?_⟩; with_reducible refine (CallsIn.inRound l HAT.out).mono ?_; clear HAT; rintro e w5 ⟨rfl, hb5⟩; obtain ⟨s0, s1, s2⟩ := HXC.out _ hb5; obtain ⟨b0, b1⟩ : _ ∧ _ := ⟨(HBX.out _ hb5).cell, (HBX.out _ hb5).frozen⟩) | fail)
          all_goals
            have HB5 := Lib.hid hb5
            clear s0 s1 s2 hb5
            go_simp
            gi_wp2_with fail
            exact ⟨⟨HB5.out.size, fun j o _ hj _ => (HB5.out.block j (Array.getElem?_eq_some_iff.1 hj).1).trans hj⟩, (Below.refl W'.heap.size W').drew.trans HB5.out |>.mono hG4.out.size, ⟨⟨HBX.out _ HB5.out, (HB5.out.block _ (Array.getElem?_eq_some_iff.1 hG2.out).1).trans hG2.out⟩, HNEXT.out (by first | rfl | trivial)⟩, hG4.out.trans ((Below.refl W'.heap.size W').drew.trans HB5.out |>.mono hG4.out.size)⟩
        · have n3 : (xc == yc) = false := beq_eq_false_iff_ne.2 m3
          have HNE : Hid ((⟨xa, xb, xc⟩ : R) ≠ ⟨ya, yb, yc⟩) := fun e => m3 (by injection e)
          subst m1; subst m2
          clear m3
          gi_wp2_with fail
          gi_region_with (first | (refine ⟨trivial, ?_⟩; with_reducible refine (CallsIn.inRound l HAT.out).mono ?_; clear HAT; rintro e w5 ⟨rfl, hb5⟩; obtain ⟨s0, s1, s2⟩ := HXC.out _ hb5; obtain ⟨b0, b1⟩ : _ ∧ _ := ⟨(HBX.out _ hb5).cell, (HBX.out _ hb5).frozen⟩) | fail)
          all_goals
            have HB5 := Lib.hid hb5
            clear s0 s1 s2 hb5
            go_simp
            gi_wp2_with fail
            have hK5 : KeepsFrom w'.heap.size W' w5 := ⟨HB5.out.size, fun j o _ hj _ => (HB5.out.block j (Array.getElem?_eq_some_iff.1 hj).1).trans hj⟩
            have hI5 := hG4.out.trans ((Below.refl W'.heap.size W').drew.trans HB5.out |>.mono hG4.out.size)
            first
            | exact ⟨hK5, ⟨rfl, HBX.out _ HB5.out, HSTOP.out HNE.out⟩, hI5⟩
            | exact ⟨hK5.trans ((KeepsOthers.setCell w5 _ _).from _), ⟨rfl, (HBX.out _ HB5.out).set _, HSTOP.out HNE.out⟩, hI5.setCell (p := ⟨W.heap.size + 1 + 1, 0, none⟩) (by show _ ≤ W.heap.size + 1 + 1; omega) _⟩
      · have n2 : (xb == yb) = false := beq_eq_false_iff_ne.2 m2
        have HNE : Hid ((⟨xa, xb, xc⟩ : R) ≠ ⟨ya, yb, yc⟩) := fun e => m2 (by injection e)
        subst m1
        clear m2
        gi_wp2_with fail
        gi_region_with (first | (refine ⟨trivial, ?_⟩; with_reducible refine (CallsIn.inRound l HAT.out).mono ?_; clear HAT; rintro e w5 ⟨rfl, hb5⟩; obtain ⟨s0, s1, s2⟩ := HXC.out _ hb5; obtain ⟨b0, b1⟩ : _ ∧ _ := ⟨(HBX.out _ hb5).cell, (HBX.out _ hb5).frozen⟩) | fail)
        all_goals
          have HB5 := Lib.hid hb5
          clear s0 s1 s2 hb5
          go_simp
          gi_wp2_with fail
          have hK5 : KeepsFrom w'.heap.size W' w5 := ⟨HB5.out.size, fun j o _ hj _ => (HB5.out.block j (Array.getElem?_eq_some_iff.1 hj).1).trans hj⟩
          have hI5 := hG4.out.trans ((Below.refl W'.heap.size W').drew.trans HB5.out |>.mono hG4.out.size)
          first
          | exact ⟨hK5, ⟨rfl, HBX.out _ HB5.out, HSTOP.out HNE.out⟩, hI5⟩
          | exact ⟨hK5.trans ((KeepsOthers.setCell w5 _ _).from _), ⟨rfl, (HBX.out _ HB5.out).set _, HSTOP.out HNE.out⟩, hI5.setCell (p := ⟨W.heap.size + 1 + 1, 0, none⟩) (by show _ ≤ W.heap.size + 1 + 1; omega) _⟩
    · have n1 : (xa == ya) = false := beq_eq_false_iff_ne.2 m1
      have HNE : Hid ((⟨xa, xb, xc⟩ : R) ≠ ⟨ya, yb, yc⟩) := fun e => m1 (by injection e)
      clear m1
      gi_wp2_with fail
      gi_region_with (first | (refine ⟨trivial, ?_⟩; with_reducible refine (CallsIn.inRound l HAT.out).mono ?_; clear HAT; rintro e w5 ⟨rfl, hb5⟩; obtain ⟨s0, s1, s2⟩ := HXC.out _ hb5; obtain ⟨b0, b1⟩ : _ ∧ _ := ⟨(HBX.out _ hb5).cell, (HBX.out _ hb5).frozen⟩) | fail)
      all_goals
        have HB5 := Lib.hid hb5
        clear s0 s1 s2 hb5
        go_simp
        gi_wp2_with fail
        have hK5 : KeepsFrom w'.heap.size W' w5 := ⟨HB5.out.size, fun j o _ hj _ => (HB5.out.block j (Array.getElem?_eq_some_iff.1 hj).1).trans hj⟩
        have hI5 := hG4.out.trans ((Below.refl W'.heap.size W').drew.trans HB5.out |>.mono hG4.out.size)
        first
        | exact ⟨hK5, ⟨rfl, HBX.out _ HB5.out, HSTOP.out HNE.out⟩, hI5⟩
        | exact ⟨hK5.trans ((KeepsOthers.setCell w5 _ _).from _), ⟨rfl, (HBX.out _ HB5.out).set _, HSTOP.out HNE.out⟩, hI5.setCell (p := ⟨W.heap.size + 1 + 1, 0, none⟩) (by show _ ≤ W.heap.size + 1 + 1; omega) _⟩
  case done =>
    rintro D ys W' hD hys ⟨⟨⟨g1, g2⟩, g3⟩, g4⟩ hK
    have hcell := g1.cell; have hfr := g1.frozen
    have HEQ : Hid (ta.L = tb.L) := fits_sub HFA.out.1 HFB.out.1 fun r hr => by
      rw [← hys] at hr
      obtain ⟨x, hx, rfl⟩ := List.mem_map.1 hr
      exact g3 x hx
    have HD := Lib.hid hD; have HK := Lib.hid hK; have H4 := Lib.hid g4; have H1 := Lib.hid g1.cell
    clear hys g1 g2 g3 g4 hK hD
    gi_wp2
    have hK2 := (KeepsOthers.setCell W' ⟨W.heap.size + 1 + 1, 0, none⟩ (.bool true)).same D _ HK.out rfl
    have hcell2 := cell_kept (World.cell?_setCell_same _ _ (.bool true) H1.out) (grownBy_putObj' _ D (.deferred none)) (fun r e => by cases e; exact ⟨_, hK2, rfl⟩)
    refine ⟨by simp, .inl ⟨_, _, rfl, run_takeDeferred hK2, ?_⟩⟩
    refine ⟨.bool true, by simp [results, Try.results32, go_sem, hcell2], true, rfl, ⟨fun _ => HEQ.out, fun _ => rfl⟩, ?_⟩
    exact (H4.out.setCell (p := ⟨W.heap.size + 1 + 1, 0, none⟩) (by show _ ≤ W.heap.size + 1 + 1; omega) _).trans (belowK_b (w := W) (Nat.le_refl _) _ D _ _ (by have := HD.out; have := hge; omega) hK2 rfl rfl)
  case stop =>
    rintro D c pre' W' hD hSp ⟨⟨rfl, g1, g2⟩, g4⟩ hK
    have HNE : Hid (¬ ta.L = tb.L) := fun e => by
      obtain ⟨r, _, hr⟩ := g2
      exact hr (by rw [← e]; exact r.2)
    have HD := Lib.hid hD; have HK := Lib.hid hK; have H4 := Lib.hid g4; have H1 := Lib.hid g1.cell
    clear hSp g1 g2 g4 hK hD
    gi_wp2
    have hcell2 := cell_kept H1.out (grownBy_putObj' _ D (.deferred none)) (fun r e => by cases e; exact ⟨_, HK.out, rfl⟩)
    refine ⟨by simp, .inl ⟨_, _, rfl, run_takeDeferred HK.out, ?_⟩⟩
    refine ⟨.bool false, by simp [results, Try.results32, go_sem, hcell2], false, rfl, ⟨fun h => (by cases h), fun h => absurd h HNE.out⟩, ?_⟩
    exact H4.out.trans (belowK_b (w := W) (Nat.le_refl _) _ D _ _ (by have := HD.out; have := hge; omega) HK.out rfl rfl)
end Go.Proofs.Ytjbenhmpeceaeaa
namespace Go.Proofs.Ytjbenhmpeceaeaa
open Go Go.RowKit Gs

structure Ch where
  lo : Int
  hi : Int
  fr : Int
  tt : Int
deriving DecidableEq
/-- a list of changes lies at a slice -/
def IsCs (W : World) (v : Value) (l : List Ch) : Prop :=
  ∃ ao c, v = .slice ao l.length c ∧ (0 < l.length → ∃ B o, ao = some ⟨B, o, none⟩ ∧ B < W.heap.size ∧ ∀ j (h : j < l.length),
    W.cell? ⟨B, o + j * 4, none⟩ = some (.int .i64 l[j].lo) ∧ W.cell? ⟨B, o + j * 4 + 1, none⟩ = some (.int .i64 l[j].hi) ∧ W.cell? ⟨B, o + j * 4 + 2, none⟩ = some (.int .i64 l[j].fr) ∧ W.cell? ⟨B, o + j * 4 + 3, none⟩ = some (.int .i64 l[j].tt))
theorem IsCs.below {W W' : World} {v : Value} {l : List Ch} (h : IsCs W v l) (hb : Below W.heap.size W W') : IsCs W' v l := by
  obtain ⟨ao, c, hv, h⟩ := h
  refine ⟨ao, c, hv, fun hp => ?_⟩
  obtain ⟨B, o, e, hB, hc⟩ := h hp
  refine ⟨B, o, e, Nat.lt_of_lt_of_le hB hb.size, fun j hj => ?_⟩
  obtain ⟨h0, h1, h2, h3⟩ := hc j hj
  exact ⟨(hb.cell (p := ⟨B, _, none⟩) hB).trans h0, (hb.cell (p := ⟨B, _, none⟩) hB).trans h1, (hb.cell (p := ⟨B, _, none⟩) hB).trans h2, (hb.cell (p := ⟨B, _, none⟩) hB).trans h3⟩
theorem IsCs.at' {W : World} {a : Option Addr} {n c : Nat} {l : List Ch} (h : IsCs W (.slice a n c) l) {j : Nat} (hj : j < l.length) :
    ∃ B o, a = some ⟨B, o, none⟩ ∧ W.cell? ⟨B, o + j * 4, none⟩ = some (.int .i64 l[j].lo) ∧ W.cell? ⟨B, o + j * 4 + 1, none⟩ = some (.int .i64 l[j].hi) ∧ W.cell? ⟨B, o + j * 4 + 2, none⟩ = some (.int .i64 l[j].fr) ∧ W.cell? ⟨B, o + j * 4 + 3, none⟩ = some (.int .i64 l[j].tt) := by
  obtain ⟨a', c', hv, hcs⟩ := h
  injection hv with hv1 hv2 hv3
  subst hv1
  obtain ⟨B, o, e1, -, hcs2⟩ := hcs (by omega)
  exact ⟨B, o, e1, hcs2 j hj⟩
open Classical in
/-- what is wrong with a change -/
noncomputable def chE (size : Int) (f : Int → Int) (c : Ch) : Int :=
  if ¬ (0 ≤ c.lo ∧ c.lo < c.hi ∧ c.hi ≤ size) then 3 else if isT c.fr = true ∧ isT c.tt = true then (if ∀ x, c.lo ≤ x → x < c.hi → f x = c.fr then 0 else 30) else 2
/-- the boxes of change -/
theorem boxes_ch (W : World) (x0 x1 : Value) (zs : List Value) (hz : zs.length ≤ 22) (T1 T3 : TypeId) : ∃ w0, w0 = ((W.alloc (.cells #[x0, x1] T1)).alloc (.cells zs.toArray T3)).alloc (.cells #[.pointer none, .int .i64 0] T1) ∧
    Bx W.heap.size [x0, x1] w0 ∧ Bx (W.heap.size + 1) zs w0 ∧ Bx (W.heap.size + 1 + 1) [.pointer none, .int .i64 0] w0 ∧ Below W.heap.size W w0 ∧ w0.heap.size = W.heap.size + 3 := by
  obtain ⟨w1, e1⟩ : ∃ w1, w1 = W.alloc (.cells #[x0, x1] T1) := ⟨_, rfl⟩
  obtain ⟨w2, e2⟩ : ∃ w2, w2 = w1.alloc (.cells zs.toArray T3) := ⟨_, rfl⟩
  obtain ⟨w3, e3⟩ : ∃ w3, w3 = w2.alloc (.cells #[.pointer none, .int .i64 0] T1) := ⟨_, rfl⟩
  have s1 : w1.heap.size = W.heap.size + 1 := by rw [e1]; simp
  have s2 : w2.heap.size = W.heap.size + 1 + 1 := by rw [e2]; simp [s1]
  have s3 : w3.heap.size = W.heap.size + 1 + 1 + 1 := by rw [e3]; simp [s2]
  have a1 : Below W.heap.size W w1 := by rw [e1]; exact alloc_below _ _
  have a2 : Below w1.heap.size w1 w2 := by rw [e2]; exact alloc_below _ _
  have a3 : Below w2.heap.size w2 w3 := by rw [e3]; exact alloc_below _ _
  have n1 : Bx W.heap.size [x0, x1] w1 := by rw [e1]; exact Bx.new W [x0, x1] T1 (by simp)
  have n2 : Bx w1.heap.size zs w2 := by rw [e2]; exact Bx.new w1 zs T3 hz
  have n3 : Bx w2.heap.size [.pointer none, .int .i64 0] w3 := by rw [e3]; exact Bx.new w2 [.pointer none, .int .i64 0] T1 (by simp)
  rw [s1] at n2; rw [s2] at n3
  have a23 := a2.trans (a3.mono a2.size)
  rw [← e1, ← e2, ← e3]
  exact ⟨w3, rfl, n1.next a23, n2.next a3, n3, a1.trans (a23.mono a1.size), s3⟩
set_option maxRecDepth 100000 in
set_option maxHeartbeats 4000000 in
theorem change_any {f : Int → Int} {size : Int} {W : World} {p : Option Addr} (h : IsM f size W p) (lo hi fr tt : Int) :
    Calls Try.prog 61 #[.agg #[.pointer p, .int .i64 size], .agg #[.int .i64 lo, .int .i64 hi, .int .i64 fr, .int .i64 tt]] W fun e w' => ∃ q s e2, e = .returned (.tuple #[.agg #[.pointer q, .int .i64 s], .int .i64 e2]) ∧ Hid (Upd f (put f lo hi tt) size (chE size f ⟨lo, hi, fr, tt⟩) q s e2 w') ∧ Below W.heap.size W w' := by
  obtain ⟨w0, HW, n1, n2, n3, hb, hs0⟩ := boxes_ch W (.pointer p) (.int .i64 size) [.int .i64 lo, .int .i64 hi, .int .i64 fr, .int .i64 tt] (by simp) 27 107
  have H1 := Lib.hid n1; have H2 := Lib.hid n2; have H3 := Lib.hid n3; have HB := Lib.hid hb; have HS0 := Lib.hid hs0; have HW' := Lib.hid HW
  have c0 := (n2.c 0 _ rfl).1; have c1 := (n2.c 1 _ rfl).1; have c2 := (n2.c 2 _ rfl).1; have c3 := (n2.c 3 _ rfl).1
  have HBF : Hid (∀ W' x y, Below W.heap.size W W' → Below W.heap.size W ((W'.setCell ⟨W.heap.size + 1 + 1, 0, none⟩ x).setCell ⟨W.heap.size + 1 + 1, 1, none⟩ y)) := fun W' x y h => below_put h (by omega) _ _
  by_cases he : lo = hi
  · subst he
    have HE : Hid (chE size f ⟨lo, lo, fr, tt⟩ = 3) := by show chE _ _ _ = 3; unfold chE; rw [if_pos (by simp)]
    obtain ⟨x0, x1, x2, x3⟩ := n3.c2
    obtain ⟨u0, u1, -, -⟩ := (n3.two (.pointer none) (.int .i64 0)).c2
    clear n1 n2 n3 hb hs0 HW h
    go_enter Try.func61, Try.ntmps61
    go_upto_region 1 with fail
    rw [← HW'.out]
    go_wp2_with fail
    refine bodyPost_ret (v := .tuple #[.agg #[.pointer none, .int .i64 0], .int .i64 3]) (by simp [results, Try.results61, go_sem, u0, u1]) rfl ?_
    have HU : ∀ W', Upd f (put f lo lo tt) size (chE size f ⟨lo, lo, fr, tt⟩) none 0 3 W' := fun W' => .inl ⟨by rw [HE.out]; decide, HE.out.symm, rfl, rfl⟩
    first
    | exact ⟨none, 0, 3, rfl, HU _, HB.out⟩
    | exact ⟨none, 0, 3, rfl, HU _, HBF.out _ _ _ HB.out⟩
  · obtain ⟨b, rfl⟩ := h.some
    have hlb : (lo == hi) = false := beq_eq_false_iff_ne.2 he
    obtain ⟨w1, HW1⟩ : ∃ w1, w1 = w0.alloc (.cells #[.int .i64 fr, .int .i64 tt] 3) := ⟨_, rfl⟩
    have b1 : Below w0.heap.size w0 w1 := by rw [HW1]; exact alloc_below _ _
    have hck : Calls Try.prog 46 #[.agg #[.pointer (some ⟨b, 0, none⟩), .int .i64 size], .int .i64 lo, .int .i64 hi, .slice (some ⟨w0.heap.size, 0, none⟩) 2 2] w1 fun e w' => e = .returned (.int .i64 (errOf size lo hi [fr, tt])) ∧ Below w1.heap.size w1 w' :=
      check_any b w0.heap.size 2 size lo hi [fr, tt] w1 (by rw [HW1]; simp) (fun i hi => by
        have : i = 0 ∨ i = 1 := by simp at hi; omega
        rw [HW1]
        rcases this with rfl | rfl
        · exact World.cell?_alloc_at _ _ _ _ rfl
        · exact World.cell?_alloc_at _ _ _ _ rfl) (by simp)
    have G1 := Lib.hid (n1.next b1); have G2 := Lib.hid (n2.next b1); have G3 := Lib.hid (n3.next b1)
    have HB1 := Lib.hid (hb.trans (b1.mono hb.size))
    have HW1' := Lib.hid HW1
    obtain ⟨m0, m1, -, -⟩ := n1.c2
    by_cases her : errOf size lo hi [fr, tt] = 0
    · rw [her] at hck
      obtain ⟨r1, r2, r3, r4⟩ := errOf_zero her
      have r5 := r4 fr (by simp); have r6 := r4 tt (by simp)
      obtain ⟨t, t1, t2, t3⟩ := h.tr
      have HAT : Hid (∀ W', Below W.heap.size W W' → Calls Try.prog 45 #[.pointer (some ⟨b, 0, none⟩), .int .i64 lo] W' fun e w' => ∃ rlo rhi rtag, e = .returned (.agg #[.int .i64 rlo, .int .i64 rhi, .int .i64 rtag]) ∧ Hid (∃ l k, t.L = l ++ ⟨rlo, rhi, rtag⟩ :: k ∧ rlo ≤ lo ∧ lo < rhi) ∧ Below W'.heap.size W' w') := fun W' hW => (at_any f 0 size t _ W' lo (IsT.below hW t1) t2 r1 (by omega)).mono fun e w' ⟨l, a1, a2, a3, k, he, hp, hB⟩ => ⟨a1, a2, a3, he, ⟨l, k, hp.out⟩, hB⟩
      have HCAN := Lib.hid t2
      have hst : errOf size lo hi [tt] = 0 := by unfold errOf; rw [if_neg (by omega)]; simp [isT, r6]
      have HST : Hid (∀ W', Below W.heap.size W W' → Calls Try.prog 38 #[.agg #[.pointer (some ⟨b, 0, none⟩), .int .i64 size], .int .i64 lo, .int .i64 hi, .int .i64 tt] W' fun e w' => ∃ q s e2, e = .returned (.tuple #[.agg #[.pointer q, .int .i64 s], .int .i64 e2]) ∧ Hid (Upd f (put f lo hi tt) size 0 q s e2 w') ∧ Below W'.heap.size W' w') := fun W' hW => by
        have := Set_any (h.below hW) (lo := lo) (hi := hi) (tag := tt)
        rw [hst] at this
        exact this
      have HCH : Hid (chE size f ⟨lo, hi, fr, tt⟩ = open Classical in if ∀ x, lo ≤ x → x < hi → f x = fr then 0 else 30) := by
        show chE _ _ _ = _
        unfold chE
        rw [if_neg (by simp; omega), if_pos ⟨decide_eq_true r5, decide_eq_true r6⟩]
      have HCK := Lib.hid hck
      have HLH : Hid (0 ≤ lo ∧ lo < hi ∧ hi ≤ size) := ⟨r1, by omega, r3⟩
      clear n1 n2 n3 hb hs0 HW h HW1 b1 hck her r1 r2 r3 r4 r5 r6 t1 t2 t3 hst he
      go_enter Try.func61, Try.ntmps61
      go_upto_region 1 with fail
      rw [← HW'.out]
      go_wp2_with fail
      rw [← HW1'.out]
      refine HCK.out.mono ?_
      rintro e w2 ⟨rfl, hb⟩
      have F1 := Lib.hid (G1.out.next hb); have F2 := Lib.hid (G2.out.next hb); have F3 := Lib.hid (G3.out.next hb)
      have HB2 := Lib.hid (HB1.out.trans (hb.mono HB1.out.size))
      clear hb m0 m1 c0 c1 c2 c3 G1 G2 G3 HB1
      obtain ⟨m0, m1, -, -⟩ := F1.out.c2
      have c0 := (F2.out.c 0 _ rfl).1; have c1 := (F2.out.c 1 _ rfl).1; have c2 := (F2.out.c 2 _ rfl).1; have c3 := (F2.out.c 3 _ rfl).1
      go_wp2_with fail
      refine (HAT.out _ HB2.out).mono ?_
      rintro e w3 ⟨rlo, rhi, rtag, rfl, HRN, hb⟩
      obtain ⟨w4, HW4⟩ : ∃ w4, w4 = w3.alloc (.cells #[.int .i64 rlo, .int .i64 rhi, .int .i64 rtag] 64) := ⟨_, rfl⟩
      have b4 : Below w3.heap.size w3 w4 := by rw [HW4]; exact alloc_below _ _
      have n4 : Bx w3.heap.size [.int .i64 rlo, .int .i64 rhi, .int .i64 rtag] w4 := by rw [HW4]; exact Bx.new w3 [.int .i64 rlo, .int .i64 rhi, .int .i64 rtag] 64 (by simp)
      have b34 := hb.trans (b4.mono hb.size)
      have K1 := Lib.hid (F1.out.next b34); have K2 := Lib.hid (F2.out.next b34); have K3 := Lib.hid (F3.out.next b34); have K4 := Lib.hid n4
      have HB4 := Lib.hid (HB2.out.trans (b34.mono HB2.out.size))
      have HW4' := Lib.hid HW4
      clear HW4 b4 n4 b34 hb m0 m1 c0 c1 c2 c3 F1 F2 F3 HB2
      go_upto_region 7 with fail
      rw [← HW4'.out]
      obtain ⟨m0, m1, -, -⟩ := K1.out.c2
      have c0 := (K2.out.c 0 _ rfl).1; have c1 := (K2.out.c 1 _ rfl).1; have c2 := (K2.out.c 2 _ rfl).1; have c3 := (K2.out.c 3 _ rfl).1
      have d1 := (K4.out.c 1 _ rfl).1; have d2 := (K4.out.c 2 _ rfl).1
      obtain ⟨x0, x1, x2, x3⟩ := K3.out.c2
      by_cases g1 : rtag = fr
      · have hbe : (rtag == fr) = true := by rw [g1]; exact beq_self_eq_true _
        by_cases g2 : rhi < hi
        · have HE : Hid (chE size f ⟨lo, hi, fr, tt⟩ = 30) := by
            obtain ⟨l, k, hL, q1, q2⟩ := HRN.out
            have hc := HCAN.out
            rw [hL] at hc
            obtain ⟨_, _, a3, a4, _, a6⟩ := hc.mid
            have e1 := a6 (by show rhi < size; have := HLH.out; omega)
            have e2 := a4 (rhi - 1) (by show rlo ≤ _; omega) (by show _ < rhi; omega)
            show chE _ _ _ = 30
            rw [HCH.out, if_neg]
            intro hall
            have e3 := hall rhi (by omega) g2
            have e1 : f (rhi - 1) ≠ f rhi := e1
            have e2 : f (rhi - 1) = rtag := e2
            exact e1 (by rw [e2, e3, g1])
          obtain ⟨u0, u1, -, -⟩ := (K3.out.two (.pointer none) (.int .i64 0)).c2
          clear hbe
          subst g1
          go_wp2_with fail
          refine bodyPost_ret (v := .tuple #[.agg #[.pointer none, .int .i64 0], .int .i64 30]) (by simp [results, Try.results61, go_sem, u0, u1]) rfl ?_
          have HU : ∀ W', Upd f (put f lo hi tt) size (chE size f ⟨lo, hi, rtag, tt⟩) none 0 30 W' := fun W' => .inl ⟨by rw [HE.out]; decide, HE.out.symm, rfl, rfl⟩
          first
          | exact ⟨none, 0, 30, rfl, HU _, HB4.out⟩
          | exact ⟨none, 0, 30, rfl, HU _, HBF.out _ _ _ HB4.out⟩
        · have HE : Hid (chE size f ⟨lo, hi, fr, tt⟩ = 0) := by
            obtain ⟨l, k, hL, q1, q2⟩ := HRN.out
            have hc := HCAN.out
            rw [hL] at hc
            obtain ⟨_, _, a3, a4, _, a6⟩ := hc.mid
            show chE _ _ _ = 0
            rw [HCH.out, if_pos]
            intro x x1 x2
            rw [← g1]
            exact a4 x (by show rlo ≤ x; omega) (by show x < rhi; omega)
          clear hbe
          subst g1
          go_wp2_with fail
          refine (HST.out _ HB4.out).mono ?_
          rintro e w5 ⟨q, s, e2, rfl, HU, hb⟩
          have K5 := Lib.hid (K3.out.next hb)
          have HB5 := Lib.hid (HB4.out.trans (hb.mono HB4.out.size))
          obtain ⟨y0, y1, y2, y3⟩ := K5.out.c2
          obtain ⟨u0, u1, -, -⟩ := (K5.out.two (.pointer q) (.int .i64 s)).c2
          have HUF : Hid (Upd f (put f lo hi tt) size (chE size f ⟨lo, hi, rtag, tt⟩) q s e2 ((w5.setCell ⟨W.heap.size + 1 + 1, 0, none⟩ (.pointer q)).setCell ⟨W.heap.size + 1 + 1, 1, none⟩ (.int .i64 s))) := by
            show Upd _ _ _ (chE _ _ _) _ _ _ _
            rw [HE.out]
            rcases HU.out with g | g | ⟨g1, g2, g3, g4⟩
            · exact .inl g
            · exact .inr (.inl g)
            · exact .inr (.inr ⟨g1, g2, g3, g4.lo, g4.ctx, (g4.tr.set K5.out.c22 _).set (K5.out.put (i := 0) (by simp) (by decide) _).c22 _⟩)
          clear hb m0 m1 c0 c1 c2 c3 d1 d2 x0 x1 x2 x3
          go_wp2_with fail
          refine bodyPost_ret (v := .tuple #[.agg #[.pointer q, .int .i64 s], .int .i64 e2]) (by simp [results, Try.results61, go_sem, u0, u1]) rfl ?_
          exact ⟨q, s, e2, rfl, HUF, HBF.out _ _ _ HB5.out⟩
      · have hbe : (rtag == fr) = false := beq_eq_false_iff_ne.2 g1
        have HE : Hid (chE size f ⟨lo, hi, fr, tt⟩ = 30) := by
          obtain ⟨l, k, hL, q1, q2⟩ := HRN.out
          have hc := HCAN.out
          rw [hL] at hc
          obtain ⟨_, _, a3, a4, _, a6⟩ := hc.mid
          show chE _ _ _ = 30
          rw [HCH.out, if_neg]
          intro hall
          exact g1 ((a4 lo q1 q2).symm.trans (hall lo (Int.le_refl _) HLH.out.2.1))
        obtain ⟨u0, u1, -, -⟩ := (K3.out.two (.pointer none) (.int .i64 0)).c2
        go_wp2_with fail
        refine bodyPost_ret (v := .tuple #[.agg #[.pointer none, .int .i64 0], .int .i64 30]) (by simp [results, Try.results61, go_sem, u0, u1]) rfl ?_
        have HU : ∀ W', Upd f (put f lo hi tt) size (chE size f ⟨lo, hi, fr, tt⟩) none 0 30 W' := fun W' => .inl ⟨by rw [HE.out]; decide, HE.out.symm, rfl, rfl⟩
        first
        | exact ⟨none, 0, 30, rfl, HU _, HB4.out⟩
        | exact ⟨none, 0, 30, rfl, HU _, HBF.out _ _ _ HB4.out⟩
    · have HE : Hid (chE size f ⟨lo, hi, fr, tt⟩ = errOf size lo hi [fr, tt]) := by
        show chE _ _ _ = _
        unfold errOf at her ⊢
        unfold chE
        by_cases hv : lo < 0 ∨ hi < lo ∨ size < hi
        · rw [if_pos (by simp; omega), if_pos hv]
        · rw [if_neg (by simp; omega), if_neg hv]
          rw [if_neg hv] at her
          by_cases ht : isT fr = true ∧ isT tt = true
          · exfalso
            apply her
            rw [if_pos (by simp [ht])]
          · rw [if_neg ht, if_neg]
            intro h
            apply ht
            simpa using h
      have hne : (errOf size lo hi [fr, tt] == 0) = false := beq_eq_false_iff_ne.2 her
      have HER := Lib.hid her
      have HCK := Lib.hid hck
      clear n1 n2 n3 hb hs0 HW h HW1 b1 hck her he
      generalize errOf size lo hi [fr, tt] = er at *
      go_enter Try.func61, Try.ntmps61
      go_upto_region 1 with fail
      rw [← HW'.out]
      go_wp2_with fail
      rw [← HW1'.out]
      refine HCK.out.mono ?_
      rintro e w2 ⟨rfl, hb⟩
      have F3 := Lib.hid (G3.out.next hb)
      have HB2 := Lib.hid (HB1.out.trans (hb.mono HB1.out.size))
      clear hb m0 m1 c0 c1 c2 c3 G1 G2 G3 HB1
      obtain ⟨x0, x1, x2, x3⟩ := F3.out.c2
      obtain ⟨u0, u1, -, -⟩ := (F3.out.two (.pointer none) (.int .i64 0)).c2
      go_wp2_with fail
      refine bodyPost_ret (v := .tuple #[.agg #[.pointer none, .int .i64 0], .int .i64 er]) (by simp [results, Try.results61, go_sem, u0, u1]) rfl ?_
      have HU : ∀ W', Upd f (put f lo hi tt) size (chE size f ⟨lo, hi, fr, tt⟩) none 0 er W' := fun W' => .inl ⟨by rw [HE.out]; exact HER.out, HE.out.symm, rfl, rfl⟩
      first
      | exact ⟨none, 0, er, rfl, HU _, HB2.out⟩
      | exact ⟨none, 0, er, rfl, HU _, HBF.out _ _ _ HB2.out⟩
open Classical in
/-- what a change answers -/
noncomputable def chK (size : Int) (f : Int → Int) (c : Ch) : Int :=
  if chE size f c ≠ 0 then chE size f c else if ∃ L, Gs.Can (put f c.lo c.hi c.tt) 0 L size ∧ 4096 < L.length then 5 else 0
open Classical in
/-- what several changes answer: the first error, or what the function becomes -/
noncomputable def apF (size : Int) : (Int → Int) → List Ch → Int × (Int → Int)
  | f, [] => (0, f)
  | f, c :: l => if chK size f c = 0 then apF size (put f c.lo c.hi c.tt) l else (chK size f c, f)
theorem apF_nil (size : Int) (f : Int → Int) : apF size f [] = (0, f) := rfl
theorem apF_ok {size : Int} {f : Int → Int} {c : Ch} {l : List Ch} (h : chK size f c = 0) : apF size f (c :: l) = apF size (put f c.lo c.hi c.tt) l := by
  show (if _ then _ else _) = _
  rw [if_pos h]
theorem apF_err {size : Int} {f : Int → Int} {c : Ch} {l : List Ch} (h : chK size f c ≠ 0) : apF size f (c :: l) = (chK size f c, f) := by
  show (if _ then _ else _) = _
  rw [if_neg h]
theorem upd_chK {f : Int → Int} {size : Int} {c : Ch} {q : Option Addr} {s e : Int} {W : World} (h : Upd f (put f c.lo c.hi c.tt) size (chE size f c) q s e W) :
    e = chK size f c ∧ ((e ≠ 0 ∧ q = none ∧ s = 0) ∨ (e = 0 ∧ s = size ∧ IsM (put f c.lo c.hi c.tt) size W q)) := by
  rcases h with ⟨h1, rfl, h3, h4⟩ | ⟨h1, rfl, h3, h4, L, hL, hl⟩ | ⟨h1, rfl, h3, h4⟩
  · refine ⟨?_, .inl ⟨h1, h3, h4⟩⟩
    unfold chK
    rw [if_pos h1]
  · refine ⟨?_, .inl ⟨by decide, h3, h4⟩⟩
    unfold chK
    rw [if_neg (fun h => h h1), if_pos ⟨L, hL, hl⟩]
  · refine ⟨?_, .inr ⟨rfl, h3, h4⟩⟩
    unfold chK
    rw [if_neg (fun h => h h1), if_neg]
    rintro ⟨L, hL, hl⟩
    obtain ⟨K, hK, hk⟩ := h4.can
    have := hK.same hL
    subst this
    omega
/-- what Apply answers -/
def ApP (size : Int) (r : Int × (Int → Int)) (q : Option Addr) (s e : Int) (W : World) : Prop :=
  e = r.1 ∧ ((e ≠ 0 ∧ q = none ∧ s = 0) ∨ (e = 0 ∧ s = size ∧ IsM r.2 size W q))
theorem ApP.below {size : Int} {r : Int × (Int → Int)} {q : Option Addr} {s e : Int} {W W' : World} (h : ApP size r q s e W) (hb : Below W.heap.size W W') : ApP size r q s e W' := by
  obtain ⟨h1, h | ⟨h2, h3, h4⟩⟩ := h
  · exact ⟨h1, .inl h⟩
  · exact ⟨h1, .inr ⟨h2, h3, h4.below hb⟩⟩
theorem IsM.set {f : Int → Int} {size : Int} {W : World} {p : Option Addr} (h : IsM f size W p) {X : Nat} (h22 : W.cell? ⟨X, 22, none⟩ = none) (i : Nat) (u : Value) : IsM f size (W.setCell ⟨X, i, none⟩ u) p := ⟨h.lo, h.ctx, h.tr.set h22 u⟩
theorem IsM.two {f : Int → Int} {size : Int} {W : World} {p : Option Addr} (h : IsM f size W p) {X : Nat} {x y : Value} (hb : Bx X [x, y] W) (u v : Value) : IsM f size ((W.setCell ⟨X, 0, none⟩ u).setCell ⟨X, 1, none⟩ v) p :=
  (h.set hb.c22 0 u).set (hb.put (i := 0) (by simp) (by decide) u).c22 1 v
set_option maxRecDepth 100000 in
set_option maxHeartbeats 4000000 in
theorem Apply_any {f : Int → Int} {size : Int} {W : World} {p : Option Addr} {v : Value} {l : List Ch} (h : IsM f size W p) (hl : IsCs W v l) (hn : l.length ≤ 100000) :
    Calls Try.prog 34 #[.agg #[.pointer p, .int .i64 size], v] W fun e w' => ∃ q s e2, e = .returned (.tuple #[.agg #[.pointer q, .int .i64 s], .int .i64 e2]) ∧ Hid (ApP size (apF size f l) q s e2 w') ∧ Below W.heap.size W w' := by
  have HCS := Lib.hid hl
  obtain ⟨ao, c, rfl, -⟩ := hl
  obtain ⟨n, hnn⟩ : ∃ n, n = l.length := ⟨_, rfl⟩
  have HN := Lib.hid hnn
  rw [← hnn] at hn HCS ⊢
  obtain ⟨b, rfl⟩ := h.some
  obtain ⟨w0, HW⟩ : ∃ w0, w0 = (W.alloc (.cells #[.pointer (some ⟨b, 0, none⟩), .int .i64 size] 27)).alloc (.cells #[.pointer none, .int .i64 0] 27) := ⟨_, rfl⟩
  have hb : Below W.heap.size W w0 := by rw [HW]; exact (alloc_below _ _).alloc (by simp) _
  have n1 : Bx W.heap.size [.pointer (some ⟨b, 0, none⟩), .int .i64 size] w0 := by rw [HW]; exact (Bx.new W [.pointer (some ⟨b, 0, none⟩), .int .i64 size] 27 (by simp)).next (alloc_below _ _)
  have n2 : Bx (W.heap.size + 1) [.pointer none, .int .i64 0] w0 := by
    have := Bx.new (W.alloc (.cells #[.pointer (some ⟨b, 0, none⟩), .int .i64 size] 27)) [.pointer none, .int .i64 0] 27 (by simp)
    rw [World.size_alloc, ← HW] at this
    exact this
  have HUS := Lib.hid (fun W' => isUsable_any b size W')
  have H1 := Lib.hid n1; have H2 := Lib.hid n2; have HB := Lib.hid hb; have HW' := Lib.hid HW; have HI := Lib.hid (h.below hb)
  obtain ⟨m0, m1, -, -⟩ := n1.c2
  clear hnn hb n1 n2 HW h
  go_enter Try.func34, Try.ntmps34
  go_upto_region 1 with fail
  rw [← HW'.out]
  go_wp2_with fail
  refine (HUS.out _).mono ?_
  rintro e w1 ⟨rfl, hb⟩
  have G1 := Lib.hid (H1.out.next hb); have G2 := Lib.hid (H2.out.next hb); have HB1 := Lib.hid (HB.out.trans (hb.mono HB.out.size)); have HI1 := Lib.hid (HI.out.below hb)
  clear hb m0 m1 H1 H2 HB HI HW'
  go_wp2_with fail
  go_loopg [16] n (fun k i wr => ∃ (j : Nat) (q : Option Addr) (g : Int → Int), Hid (k + j = n) ∧ i = .int .i64 j ∧ Hid (apF size f l = apF size g (l.drop j)) ∧ Hid (IsM g size wr q) ∧ Hid (Bx W.heap.size [.pointer q, .int .i64 size] wr) ∧ Hid (Bx (W.heap.size + 1) [.pointer none, .int .i64 0] wr) ∧ Hid (Below W.heap.size W wr))
  case atStart => exact ⟨0, some ⟨b, 0, none⟩, f, by show _ = _; omega, rfl, rfl, HI1, G1, G2, HB1⟩
  case round =>
    obtain ⟨j, q, g, HK, rfl, HAP, HI', F1, F2, HBr⟩ := hrel
    clear HI1 G1 G2 HB1
    have hjn : j ≤ n := by have := HK.out; omega
    by_cases hlt : j < n
    · have hlt2 : (j : Int) < n := by omega
      have hjl : j < l.length := by have := HN.out; omega
      obtain ⟨B, o, rfl, g0, g1, g2, g3⟩ := (HCS.out.below HBr.out).at' hjl
      have HDR : Hid (l.drop j = l[j] :: l.drop (j + 1)) := List.drop_eq_getElem_cons hjl
      generalize l[j] = a at *
      obtain ⟨alo, ahi, afr, att⟩ := a
      simp only at g0 g1 g2 g3
      obtain ⟨w2, HW2⟩ : ∃ w2, w2 = wr.alloc (.cells #[.int .i64 alo, .int .i64 ahi, .int .i64 afr, .int .i64 att] 107) := ⟨_, rfl⟩
      have b2 : Below wr.heap.size wr w2 := by rw [HW2]; exact alloc_below _ _
      have n3 : Bx wr.heap.size [.int .i64 alo, .int .i64 ahi, .int .i64 afr, .int .i64 att] w2 := by rw [HW2]; exact Bx.new wr [.int .i64 alo, .int .i64 ahi, .int .i64 afr, .int .i64 att] 107 (by simp)
      have HCH := Lib.hid (change_any (HI'.out.below b2) alo ahi afr att)
      have K1 := Lib.hid (F1.out.next b2); have K2 := Lib.hid (F2.out.next b2)
      have HB2 := Lib.hid (HBr.out.trans (b2.mono HBr.out.size))
      have c0 := (n3.c 0 _ rfl).1; have c1 := (n3.c 1 _ rfl).1; have c2 := (n3.c 2 _ rfl).1; have c3 := (n3.c 3 _ rfl).1
      have HW2' := Lib.hid HW2
      clear HW2 n3
      go_upto_region 6 with fail
      rw [← HW2'.out]
      clear g0 g1 g2 g3
      obtain ⟨m0, m1, -, -⟩ := K1.out.c2
      go_wp2_with fail
      refine HCH.out.mono ?_
      rintro e w3 ⟨q2, s2, e2, rfl, HU, hb⟩
      obtain ⟨w4, HW4⟩ : ∃ w4, w4 = w3.alloc (.cells #[.pointer q2, .int .i64 s2] 27) := ⟨_, rfl⟩
      have b4 : Below w3.heap.size w3 w4 := by rw [HW4]; exact alloc_below _ _
      have n4 : Bx w3.heap.size [.pointer q2, .int .i64 s2] w4 := by rw [HW4]; exact Bx.new w3 [.pointer q2, .int .i64 s2] 27 (by simp)
      have b34 := hb.trans (b4.mono hb.size)
      have L1 := Lib.hid (K1.out.next b34); have L2 := Lib.hid (K2.out.next b34); have L4 := Lib.hid n4
      have HB4 := Lib.hid (HB2.out.trans (b34.mono HB2.out.size))
      have HHU := Lib.hid (upd_chK (HU.out.below b4))
      have HCK := Lib.hid HHU.out.1
      have HSZ : Hid (wr.heap.size ≤ w3.heap.size) := Nat.le_trans b2.size hb.size
      have HW4' := Lib.hid HW4
      clear HW4 b4 n4 b34 hb m0 m1 c0 c1 c2 c3 K1 K2 HB2 b2
      go_upto_region 7 with fail
      rw [← HW4'.out]
      clear HW4' HW2'
      rcases HHU.out.2 with ⟨h1, rfl, rfl⟩ | ⟨rfl, rfl, h3⟩
      · have HF : Hid (ApP size (apF size f l) none 0 e2 w4) := by
          show ApP _ (apF _ _ _) _ _ _ _
          rw [HAP.out, HDR.out, apF_err (by rw [← HCK.out]; exact h1)]
          exact ⟨HCK.out, .inl ⟨h1, rfl, rfl⟩⟩
        have hne : (e2 == 0) = false := beq_eq_false_iff_ne.2 h1
        obtain ⟨x0, x1, x2, x3⟩ := L2.out.c2
        obtain ⟨u0, u1, -, -⟩ := (L2.out.two (.pointer none) (.int .i64 0)).c2
        clear h1
        go_wp2_with fail
        refine bodyPost_ret (v := .tuple #[.agg #[.pointer none, .int .i64 0], .int .i64 e2]) (by simp [results, Try.results34, go_sem, u0, u1]) rfl ?_
        obtain ⟨f1, f2⟩ := HF.out
        have hF : ∀ W', ApP size (apF size f l) none 0 e2 W' := fun W' => ⟨f1, by rcases f2 with f2 | ⟨_, f3, f4⟩; exact .inl f2; exact absurd f4.lo (by omega)⟩
        first
        | exact ⟨none, 0, e2, rfl, hF _, HB4.out⟩
        | exact ⟨none, 0, e2, rfl, hF _, below_put HB4.out (by omega) _ _⟩
      · have HA2 : Hid (apF s2 f l = apF s2 (put g alo ahi att) (l.drop (j + 1))) := by
          show _ = _
          rw [HAP.out, HDR.out, apF_ok HCK.out.symm]
        have HI2 := Lib.hid h3
        obtain ⟨p0, p1, -, -⟩ := L4.out.c2
        obtain ⟨m0, m1, m2, m3⟩ := L1.out.c2
        have hlt4 : W.heap.size + 1 < w3.heap.size := Nat.lt_of_lt_of_le F2.out.lt HSZ.out
        clear h3
        go_wp2_with fail
        go_roundg (n - (j + 1))
        case measure => have := HK.out; omega
        case rel => exact ⟨j + 1, q2, _, by show _ = _; omega, by go_num, HA2, HI2.out.two L1.out _ _, L1.out.two _ _, (L2.out.other (by omega) _).other (by omega) _, below_put HB4.out (Nat.le_refl _) _ _⟩
    · have hlt3 : ¬ (j : Int) < n := by omega
      have hdr : l.drop j = [] := List.drop_eq_nil_of_le (by have := HN.out; omega)
      have HF : Hid (apF size f l = (0, g)) := by
        show _ = _
        rw [HAP.out, hdr, apF_nil]
      clear hdr
      obtain ⟨m0, m1, -, -⟩ := F1.out.c2
      obtain ⟨x0, x1, x2, x3⟩ := F2.out.c2
      obtain ⟨u0, u1, -, -⟩ := (F2.out.two (.pointer q) (.int .i64 size)).c2
      have HI9 := Lib.hid (HI'.out.two F2.out (.pointer q) (.int .i64 size))
      go_wp2_with fail
      refine bodyPost_ret (v := .tuple #[.agg #[.pointer q, .int .i64 size], .int .i64 0]) (by simp [results, Try.results34, go_sem, u0, u1]) rfl ?_
      exact ⟨q, size, 0, rfl, by rw [HF.out]; exact ⟨rfl, .inr ⟨rfl, rfl, HI9.out⟩⟩, below_put HBr.out (by omega) _ _⟩
end Go.Proofs.Ytjbenhmpeceaeaa
namespace Go.Proofs.Ytjbenhmpeceaeaa
open Go Go.RowKit Gs

theorem cnt_full {g : Int → Int} {k : Int} : ∀ {l : List R} {a b : Int}, Fits g a l b → (cnt k l = b - a ↔ ∀ x, a ≤ x → x < b → g x = k)
  | [], a, b, h => by
    have h : a = b := h
    subst h
    exact ⟨fun _ x h1 h2 => absurd h2 (by omega), fun _ => by show 0 = _; omega⟩
  | r :: l, a, b, h => by
    have ih := cnt_full (k := k) h.2.2.2
    have hbd := cb_bd 0 k h.2.2.2
    obtain ⟨h1, h2, h3, h4⟩ := h
    have hle := h4.le
    show (if r.tag = k then r.hi - r.lo else 0) + cnt k l = _ ↔ _
    constructor
    · intro he x x1 x2
      by_cases ht : r.tag = k
      · rw [if_pos ht] at he
        by_cases hx : x < r.hi
        · rw [h3 x (by omega) hx, ht]
        · exact ih.1 (by omega) x (by omega) x2
      · rw [if_neg ht] at he
        omega
    · intro hall
      have ht : r.tag = k := by rw [← h3 a (by omega) (by omega)]; exact hall a (Int.le_refl _) (by omega)
      rw [if_pos ht, ih.2 fun x x1 x2 => hall x (by omega) x2]
      omega
theorem gS_all {g : Int → Int} {lo hi fr tt : Int} (h : ∀ x, lo ≤ x → x < hi → g x = fr) : gS g lo hi fr tt false = put g lo hi tt := by
  funext x
  show (if lo ≤ x ∧ x < hi ∧ (false = true ∨ g x = fr) then tt else g x) = if lo ≤ x ∧ x < hi then tt else g x
  by_cases hx : lo ≤ x ∧ x < hi
  · rw [if_pos hx, if_pos ⟨hx.1, hx.2, .inr (h x hx.1 hx.2)⟩]
  · rw [if_neg hx, if_neg fun h => hx ⟨h.1, h.2.1⟩]
/-- what the document's Apply answers -/
def RApP (size : Int) (r : Int × (Int → Int)) (s : Int) (v : Value) (e : Int) (W : World) : Prop :=
  e = r.1 ∧ ((e ≠ 0 ∧ s = 0 ∧ v = .slice none 0 0) ∨ (e = 0 ∧ s = size ∧ ∃ L, Gs.Can r.2 0 L size ∧ IsRs 0 W v L))
/-- what one change makes of the document's map -/
theorem ru_chK {f : Int → Int} {size : Int} {c : Ch} {L : List R} {B : Nat} {s : Int} {v : Value} {n e : Int} {W : World} (h0 : chE size f c = 0) (hg : gS f c.lo c.hi c.fr c.tt false = put f c.lo c.hi c.tt) (h : RU f size c.lo c.hi c.fr c.tt false L B s v n e W) :
    e = chK size f c ∧ ((e ≠ 0 ∧ s = 0 ∧ v = .slice none 0 0) ∨ (e = 0 ∧ s = size ∧ ∃ L, Gs.Can (put f c.lo c.hi c.tt) 0 L size ∧ IsRs 0 W v L ∧ L.length ≤ 4096)) := by
  obtain ⟨L', hL, h⟩ := h
  rw [hg] at hL
  rcases h with ⟨h1, rfl, rfl, rfl, rfl⟩ | ⟨h1, rfl, rfl, h2, _⟩
  · refine ⟨?_, .inl ⟨by decide, rfl, rfl⟩⟩
    unfold chK
    rw [if_neg (fun h => h h0), if_pos ⟨L', hL, h1⟩]
  · refine ⟨?_, .inr ⟨rfl, rfl, L', hL, h2.mono (Nat.zero_le _), h1⟩⟩
    unfold chK
    rw [if_neg (fun h => h h0), if_neg]
    rintro ⟨K, hK, hk⟩
    have := hK.same hL
    subst this
    omega
set_option maxRecDepth 100000 in
set_option maxHeartbeats 8000000 in
theorem RApply_any {f : Int → Int} {size : Int} {base : Nat} {W : World} {v cv : Value} {L : List R} {l : List Ch} (hrs : IsRs base W v L) (hL : Gs.Can f 0 L size) (hx : Ctx f 0 size) (h1 : 1 ≤ size) (hlen : L.length ≤ 4096) (hl : IsCs W cv l) (hn : l.length ≤ 100000) :
    Calls Try.prog 35 #[.agg #[.int .i64 size, v], cv] W fun e w' => ∃ s v' e2, e = .returned (.tuple #[.agg #[.int .i64 s, v'], .int .i64 e2]) ∧ Hid (RApP size (apF size f l) s v' e2 w') ∧ Below W.heap.size W w' := by
  have HCS := Lib.hid hl
  have hne : 0 < L.length := by
    rcases fits_cut hL.1 with ⟨_, e⟩ | ⟨r, k, rfl⟩
    · omega
    · simp
  obtain ⟨ao, c, rfl, -⟩ := hl
  have hrs0 := hrs
  obtain ⟨va, vc, rfl, -⟩ := hrs0
  obtain ⟨vn, hvn⟩ : ∃ vn, vn = L.length := ⟨_, rfl⟩
  rw [← hvn] at hrs hne ⊢
  obtain ⟨n, hnn⟩ : ∃ n, n = l.length := ⟨_, rfl⟩
  have HN := Lib.hid hnn
  rw [← hnn] at hn HCS ⊢
  obtain ⟨w0, HW⟩ : ∃ w0, w0 = (W.alloc (.cells #[.int .i64 size, .slice va vn vc] 33)).alloc (.cells #[.int .i64 0, .slice none 0 0] 33) := ⟨_, rfl⟩
  have hb : Below W.heap.size W w0 := by rw [HW]; exact (alloc_below _ _).alloc (by simp) _
  have n1 : Bx W.heap.size [.int .i64 size, .slice va vn vc] w0 := by rw [HW]; exact (Bx.new W [.int .i64 size, .slice va vn vc] 33 (by simp)).next (alloc_below _ _)
  have n2 : Bx (W.heap.size + 1) [.int .i64 0, .slice none 0 0] w0 := by
    have := Bx.new (W.alloc (.cells #[.int .i64 size, .slice va vn vc] 33)) [.int .i64 0, .slice none 0 0] 33 (by simp)
    rw [World.size_alloc, ← HW] at this
    exact this
  have HUS : Hid (∀ W', Calls Try.prog 42 #[.agg #[.int .i64 size, .slice va vn vc]] W' fun e w' => e = .returned (.bool true) ∧ Below W'.heap.size W' w') := fun W' => by
    have := RUsable_any size va vn vc W'
    rwa [decide_eq_true hne] at this
  have HRS := Lib.hid ((hrs.mono (Nat.zero_le _)).below hb)
  have HST : Hid (Gs.Can f 0 L size ∧ Ctx f 0 size ∧ L.length ≤ 4096) := ⟨hL, hx, hlen⟩
  have HSZ : Hid (1 ≤ size ∧ size ≤ 1099511627776) := ⟨h1, hx.2.1⟩
  have H1 := Lib.hid n1; have H2 := Lib.hid n2; have HB := Lib.hid hb; have HW' := Lib.hid HW
  obtain ⟨m0, m1, -, -⟩ := n1.c2
  clear hnn hb n1 n2 HW hrs hL hx h1 hlen hne hvn
  go_enter Try.func35, Try.ntmps35
  go_upto_region 1 with fail
  rw [← HW'.out]
  go_wp2_with fail
  refine (HUS.out _).mono ?_
  rintro e w1 ⟨rfl, hb⟩
  have G1 := Lib.hid (H1.out.next hb); have G2 := Lib.hid (H2.out.next hb); have HB1 := Lib.hid (HB.out.trans (hb.mono HB.out.size)); have HRS1 := Lib.hid (HRS.out.below hb)
  clear hb m0 m1 H1 H2 HB HRS HW' HUS
  go_wp2_with fail
  go_loopg [6] n (fun k i wr => ∃ (j : Nat) (va : Option Addr) (vn vc : Nat) (g : Int → Int) (L : List R), Hid (k + j = n) ∧ i = .int .i64 j ∧ Hid (apF size f l = apF size g (l.drop j)) ∧ Hid (IsRs 0 wr (.slice va vn vc) L) ∧ Hid (Gs.Can g 0 L size ∧ Ctx g 0 size ∧ L.length ≤ 4096) ∧ Hid (Bx W.heap.size [.int .i64 size, .slice va vn vc] wr) ∧ Hid (Bx (W.heap.size + 1) [.int .i64 0, .slice none 0 0] wr) ∧ Hid (Below W.heap.size W wr))
  case atStart => exact ⟨0, va, vn, vc, f, L, by show _ = _; omega, rfl, rfl, HRS1, HST, G1, G2, HB1⟩
  case round =>
    obtain ⟨j, va, vn, vc, g, L, HK, rfl, HAP, HRS, HST, F1, F2, HBr⟩ := hrel
    clear HRS1 G1 G2 HB1
    have hjn : j ≤ n := by have := HK.out; omega
    by_cases hlt : j < n
    · have hlt2 : (j : Int) < n := by omega
      have hjl : j < l.length := by have := HN.out; omega
      obtain ⟨B, o, rfl, g0, g1, g2, g3⟩ := (HCS.out.below HBr.out).at' hjl
      have HDR : Hid (l.drop j = l[j] :: l.drop (j + 1)) := List.drop_eq_getElem_cons hjl
      generalize l[j] = a at *
      obtain ⟨alo, ahi, afr, att⟩ := a
      simp only at g0 g1 g2 g3
      obtain ⟨w2, HW2⟩ : ∃ w2, w2 = wr.alloc (.cells #[.int .i64 alo, .int .i64 ahi, .int .i64 afr, .int .i64 att] 107) := ⟨_, rfl⟩
      have b2 : Below wr.heap.size wr w2 := by rw [HW2]; exact alloc_below _ _
      have n3 : Bx wr.heap.size [.int .i64 alo, .int .i64 ahi, .int .i64 afr, .int .i64 att] w2 := by rw [HW2]; exact Bx.new wr [.int .i64 alo, .int .i64 ahi, .int .i64 afr, .int .i64 att] 107 (by simp)
      have K1 := Lib.hid (F1.out.next b2); have K2 := Lib.hid (F2.out.next b2); have K3 := Lib.hid n3
      have HB2 := Lib.hid (HBr.out.trans (b2.mono HBr.out.size))
      have HRS2 := Lib.hid (HRS.out.below b2)
      have HSR : Hid (W.heap.size + 1 < wr.heap.size) := F2.out.lt
      have HW2' := Lib.hid HW2
      have HERR : Hid (∀ e0 : Int, e0 ≠ 0 → chE size g ⟨alo, ahi, afr, att⟩ = e0 → ∀ W', RApP size (apF size f l) 0 (.slice none 0 0) e0 W') := fun e0 h0 he W' => by
        have hk : chK size g ⟨alo, ahi, afr, att⟩ = e0 := by unfold chK; rw [if_pos (by rw [he]; exact h0), he]
        show RApP _ (apF _ _ _) _ _ _ _
        rw [HAP.out, HDR.out, apF_err (by rw [hk]; exact h0), hk]
        exact ⟨rfl, .inl ⟨h0, rfl, rfl⟩⟩
      have HBF : Hid (∀ W' x y, Below W.heap.size W W' → Below W.heap.size W ((W'.setCell ⟨W.heap.size + 1, 0, none⟩ x).setCell ⟨W.heap.size + 1, 1, none⟩ y)) := fun W' x y h => below_put h (by omega) _ _
      clear HW2 n3 b2
      go_upto_region 7 with fail
      rw [← HW2'.out]
      clear g0 g1 g2 g3 HW2'
      obtain ⟨m0, m1, -, -⟩ := K1.out.c2
      have c0 := (K3.out.c 0 _ rfl).1; have c1 := (K3.out.c 1 _ rfl).1; have c2 := (K3.out.c 2 _ rfl).1; have c3 := (K3.out.c 3 _ rfl).1
      by_cases h1 : 0 ≤ alo
      · by_cases h2 : alo < ahi
        · by_cases h3 : ahi ≤ size
          · have HV : Hid (0 ≤ alo ∧ alo < ahi ∧ ahi ≤ size) := ⟨h1, h2, h3⟩
            by_cases ht : isT afr = true
            · have HT1 : Hid (∀ W', Calls Try.prog 51 #[.int .i64 afr] W' fun e w' => e = .returned (.bool true) ∧ W' = w') := fun W' => by
                have := RTag_any afr W'
                rwa [ht] at this
              by_cases ht2 : isT att = true
              · have HT2 : Hid (∀ W', Calls Try.prog 51 #[.int .i64 att] W' fun e w' => e = .returned (.bool true) ∧ W' = w') := fun W' => by
                  have := RTag_any att W'
                  rwa [ht2] at this
                have HTT : Hid (isT afr = true ∧ isT att = true) := ⟨ht, ht2⟩
                obtain ⟨N, hN⟩ : ∃ N, N = cnt afr (clip alo ahi L) := ⟨_, rfl⟩
                have hvn : vn = L.length := by
                  obtain ⟨_, _, hv, _⟩ := HRS.out
                  injection hv with _ h _
                have hL0 : 0 < L.length := by
                  rcases fits_cut HST.out.1.1 with ⟨_, e⟩ | ⟨r, k, rfl⟩
                  · have := HSZ.out; omega
                  · simp
                have HCN : Hid (∀ W', Below w2.heap.size w2 W' → Calls Try.prog 23 #[.agg #[.int .i64 size, .slice va vn vc], .int .i64 alo, .int .i64 ahi, .int .i64 afr] W' fun e w' => e = .returned (.tuple #[.int .i64 N, .int .i64 0]) ∧ Below W'.heap.size W' w') := fun W' hW => by
                  rw [hN]
                  exact RCount_ok (HRS2.out.below hW) HST.out.1 HST.out.2.1 hL0 HST.out.2.2 HV.out.1 (by have := HV.out; omega) HV.out.2.2 HTT.out.1
                have HSW : Hid (∀ W', Below w2.heap.size w2 W' → Calls Try.prog 43 #[.agg #[.int .i64 size, .slice va vn vc], .int .i64 alo, .int .i64 ahi, .int .i64 afr, .int .i64 att, .bool false] W' fun e w' => ∃ s v' n e2, e = .returned (.tuple #[.agg #[.int .i64 s, v'], .int .i64 n, .int .i64 e2]) ∧ Hid (RU g size alo ahi afr att false L W'.heap.size s v' n e2 w') ∧ Below W'.heap.size W' w') := fun W' hW =>
                  RSwap_from (HRS2.out.below hW) HST.out.1 HST.out.2.1 hL0 HST.out.2.2 HV.out.1 (by have := HV.out; omega) HV.out.2.2 HTT.out.2 HTT.out.1
                have HIF : Hid (N = ahi - alo ↔ ∀ x, alo ≤ x → x < ahi → g x = afr) := by
                  rw [hN]
                  exact cnt_full (clip_can HST.out.1 HV.out.1 (by have := HV.out; omega) HV.out.2.2).1
                have hE : chE size g ⟨alo, ahi, afr, att⟩ = open Classical in if ∀ x, alo ≤ x → x < ahi → g x = afr then 0 else 30 := by
                  unfold chE
                  rw [if_neg (by simp; omega), if_pos ⟨ht, ht2⟩]
                have HE := Lib.hid hE
                have hw1 : IntKind.i64.wrap (ahi - alo) = ahi - alo := IntWalk.i64_in _ (by have := HSZ.out; omega)
                clear hN hvn hL0 hE ht ht2
                go_wp2_with fail
                refine (HT1.out _).mono ?_
                rintro e w3 ⟨rfl, rfl⟩
                go_wp2_with fail
                refine (HT2.out _).mono ?_
                rintro e w3 ⟨rfl, rfl⟩
                go_wp2_with fail
                refine (HCN.out _ (Below.refl _ _)).mono ?_
                rintro e w3 ⟨rfl, hb⟩
                have M1 := Lib.hid (K1.out.next hb); have M2' := Lib.hid (K2.out.next hb); have M3 := Lib.hid (K3.out.next hb)
                have HB3 := Lib.hid (HB2.out.trans (hb.mono HB2.out.size))
                have HB23 := Lib.hid hb
                clear hb m0 m1 c0 c1 c2 c3
                obtain ⟨m0, m1, -, -⟩ := M1.out.c2
                have c0 := (M3.out.c 0 _ rfl).1; have c1 := (M3.out.c 1 _ rfl).1; have c2 := (M3.out.c 2 _ rfl).1; have c3 := (M3.out.c 3 _ rfl).1
                by_cases hfull : N = ahi - alo
                · have HALLT := Lib.hid (HIF.out.1 hfull)
                  have HE0 : Hid (chE size g ⟨alo, ahi, afr, att⟩ = 0) := by
                    show chE _ _ _ = 0
                    rw [HE.out, if_pos HALLT.out]
                  clear HIF
                  subst hfull
                  go_wp2_with fail
                  refine (HSW.out _ HB23.out).mono ?_
                  rintro e w4 ⟨s2, v2, n2, e2, rfl, HRU, hb⟩
                  have HHU := Lib.hid (ru_chK (c := ⟨alo, ahi, afr, att⟩) HE0.out (gS_all HALLT.out) HRU.out)
                  have HV2 : Hid (∃ a n c, v2 = .slice a n c) := by
                    rcases HHU.out.2 with ⟨_, _, h⟩ | ⟨_, _, _, _, ⟨_, _, h, _⟩, _⟩
                    · exact ⟨_, _, _, h⟩
                    · exact ⟨_, _, _, h⟩
                  obtain ⟨va2, vn2, vc2, rfl⟩ := HV2.out
                  obtain ⟨w5, HW5⟩ : ∃ w5, w5 = w4.alloc (.cells #[.int .i64 s2, .slice va2 vn2 vc2] 33) := ⟨_, rfl⟩
                  have b5 : Below w4.heap.size w4 w5 := by rw [HW5]; exact alloc_below _ _
                  have n5 : Bx w4.heap.size [.int .i64 s2, .slice va2 vn2 vc2] w5 := by rw [HW5]; exact Bx.new w4 [.int .i64 s2, .slice va2 vn2 vc2] 33 (by simp)
                  have b45 := hb.trans (b5.mono hb.size)
                  have L1 := Lib.hid (M1.out.next b45); have L2 := Lib.hid (M2'.out.next b45); have L5 := Lib.hid n5
                  have HB5 := Lib.hid (HB3.out.trans (b45.mono HB3.out.size))
                  have HLT5 : Hid (W.heap.size + 1 < w4.heap.size) := Nat.lt_of_lt_of_le M2'.out.lt hb.size
                  have HBB5 := Lib.hid b5
                  have HW5' := Lib.hid HW5
                  clear HW5 b5 n5 b45 hb m0 m1 c0 c1 c2 c3 M1 M2' M3 HB3 HRU HV2 h1 h2 h3 hw1
                  go_upto_region 15 with fail
                  rw [← HW5'.out]
                  clear HW5'
                  rcases HHU.out.2 with ⟨h1, rfl, h9⟩ | ⟨rfl, rfl, L', h3, h4, h5⟩
                  · injection h9 with h91 h92 h93
                    subst h91; subst h92; subst h93
                    have HX : Hid (∀ W', RApP size (apF size f l) 0 (.slice none 0 0) e2 W') := fun W' => by
                      show RApP _ (apF _ _ _) _ _ _ _
                      rw [HAP.out, HDR.out, apF_err (by rw [← HHU.out.1]; exact h1)]
                      exact ⟨HHU.out.1, .inl ⟨h1, rfl, rfl⟩⟩
                    have hne : (e2 == 0) = false := beq_eq_false_iff_ne.2 h1
                    obtain ⟨x0, x1, x2, x3⟩ := L2.out.c2
                    obtain ⟨u0, u1, -, -⟩ := (L2.out.two (.int .i64 0) (.slice none 0 0)).c2
                    clear h1
                    go_wp2_with fail
                    refine bodyPost_ret (v := .tuple #[.agg #[.int .i64 0, .slice none 0 0], .int .i64 e2]) (by simp [results, Try.results35, go_sem, u0, u1]) rfl ?_
                    first
                    | exact ⟨0, _, e2, rfl, HX.out _, HB5.out⟩
                    | exact ⟨0, _, e2, rfl, HX.out _, HBF.out _ _ _ HB5.out⟩
                  · have HA2 : Hid (apF s2 f l = apF s2 (put g alo ahi att) (l.drop (j + 1))) := by
                      show _ = _
                      rw [HAP.out, HDR.out, apF_ok HHU.out.1.symm]
                    have HI5 : Hid (IsRs 0 w5 (.slice va2 vn2 vc2) L') := h4.below HBB5.out
                    have HST2 : Hid (Gs.Can (put g alo ahi att) 0 L' s2 ∧ Ctx (put g alo ahi att) 0 s2 ∧ L'.length ≤ 4096) := ⟨h3, put_ctx HST.out.2.1 (of_decide_eq_true HTT.out.2).1 (of_decide_eq_true HTT.out.2).2, h5⟩
                    obtain ⟨p0, p1, -, -⟩ := L5.out.c2
                    obtain ⟨m0, m1, m2, m3⟩ := L1.out.c2
                    clear h3 h4 h5
                    go_wp2_with fail
                    go_roundg (n - (j + 1))
                    case measure => have := HK.out; omega
                    case rel => exact ⟨j + 1, va2, vn2, vc2, _, L', by show _ = _; omega, by go_num, HA2, (HI5.out.apart (.inr fun x e => by rw [L1.out.c2.2.1] at e; cases e)).apart (.inr fun x e => by rw [((L1.out.put (i := 0) (by simp) (by decide) _).c 1 _ rfl).1] at e; cases e), HST2, L1.out.two _ _, (L2.out.other (by omega) _).other (by omega) _, below_put HB5.out (Nat.le_refl _) _ _⟩
                · have HALLT : Hid (¬ ∀ x, alo ≤ x → x < ahi → g x = afr) := fun h => hfull (HIF.out.2 h)
                  have hbe : (N == ahi - alo) = false := beq_eq_false_iff_ne.2 hfull
                  have HX := Lib.hid (HERR.out 30 (by decide) (by rw [HE.out, if_neg HALLT.out]))
                  obtain ⟨x0, x1, x2, x3⟩ := M2'.out.c2
                  obtain ⟨u0, u1, -, -⟩ := (M2'.out.two (.int .i64 0) (.slice none 0 0)).c2
                  go_wp2_with fail
                  refine bodyPost_ret (v := .tuple #[.agg #[.int .i64 0, .slice none 0 0], .int .i64 30]) (by simp [results, Try.results35, go_sem, u0, u1]) rfl ?_
                  first
                  | exact ⟨0, _, 30, rfl, HX.out _, HB3.out⟩
                  | exact ⟨0, _, 30, rfl, HX.out _, HBF.out _ _ _ HB3.out⟩
              · have ht2 := Bool.eq_false_iff.2 ht2
                have HT2 : Hid (∀ W', Calls Try.prog 51 #[.int .i64 att] W' fun e w' => e = .returned (.bool false) ∧ W' = w') := fun W' => by
                  have := RTag_any att W'
                  rwa [ht2] at this
                have HEE : Hid (chE size g ⟨alo, ahi, afr, att⟩ = 2) := by
                  show chE _ _ _ = 2
                  unfold chE
                  rw [if_neg (by simp; omega), if_neg (by simp [ht2])]
                clear ht ht2
                go_wp2_with fail
                refine (HT1.out _).mono ?_
                rintro e w3 ⟨rfl, rfl⟩
                go_wp2_with fail
                refine (HT2.out _).mono ?_
                rintro e w3 ⟨rfl, rfl⟩
                have HX := Lib.hid (HERR.out 2 (by decide) HEE.out)
                obtain ⟨x0, x1, x2, x3⟩ := K2.out.c2
                obtain ⟨u0, u1, -, -⟩ := (K2.out.two (.int .i64 0) (.slice none 0 0)).c2
                go_wp2_with fail
                refine bodyPost_ret (v := .tuple #[.agg #[.int .i64 0, .slice none 0 0], .int .i64 2]) (by simp [results, Try.results35, go_sem, u0, u1]) rfl ?_
                first
                | exact ⟨0, _, 2, rfl, HX.out _, HB2.out⟩
                | exact ⟨0, _, 2, rfl, HX.out _, HBF.out _ _ _ HB2.out⟩
            · have ht := Bool.eq_false_iff.2 ht
              have HT1 : Hid (∀ W', Calls Try.prog 51 #[.int .i64 afr] W' fun e w' => e = .returned (.bool false) ∧ W' = w') := fun W' => by
                have := RTag_any afr W'
                rwa [ht] at this
              have HEE : Hid (chE size g ⟨alo, ahi, afr, att⟩ = 2) := by
                show chE _ _ _ = 2
                unfold chE
                rw [if_neg (by simp; omega), if_neg (by simp [ht])]
              clear ht
              go_wp2_with fail
              refine (HT1.out _).mono ?_
              rintro e w3 ⟨rfl, rfl⟩
              have HX := Lib.hid (HERR.out 2 (by decide) HEE.out)
              obtain ⟨x0, x1, x2, x3⟩ := K2.out.c2
              obtain ⟨u0, u1, -, -⟩ := (K2.out.two (.int .i64 0) (.slice none 0 0)).c2
              go_wp2_with fail
              refine bodyPost_ret (v := .tuple #[.agg #[.int .i64 0, .slice none 0 0], .int .i64 2]) (by simp [results, Try.results35, go_sem, u0, u1]) rfl ?_
              first
              | exact ⟨0, _, 2, rfl, HX.out _, HB2.out⟩
              | exact ⟨0, _, 2, rfl, HX.out _, HBF.out _ _ _ HB2.out⟩
          · have HEE : Hid (chE size g ⟨alo, ahi, afr, att⟩ = 3) := by show chE _ _ _ = 3; unfold chE; rw [if_pos (by simp; omega)]
            have HX := Lib.hid (HERR.out 3 (by decide) HEE.out)
            obtain ⟨x0, x1, x2, x3⟩ := K2.out.c2
            obtain ⟨u0, u1, -, -⟩ := (K2.out.two (.int .i64 0) (.slice none 0 0)).c2
            go_wp2_with fail
            refine bodyPost_ret (v := .tuple #[.agg #[.int .i64 0, .slice none 0 0], .int .i64 3]) (by simp [results, Try.results35, go_sem, u0, u1]) rfl ?_
            first
            | exact ⟨0, _, 3, rfl, HX.out _, HB2.out⟩
            | exact ⟨0, _, 3, rfl, HX.out _, HBF.out _ _ _ HB2.out⟩
        · have HEE : Hid (chE size g ⟨alo, ahi, afr, att⟩ = 3) := by show chE _ _ _ = 3; unfold chE; rw [if_pos (by simp; omega)]
          have HX := Lib.hid (HERR.out 3 (by decide) HEE.out)
          obtain ⟨x0, x1, x2, x3⟩ := K2.out.c2
          obtain ⟨u0, u1, -, -⟩ := (K2.out.two (.int .i64 0) (.slice none 0 0)).c2
          go_wp2_with fail
          refine bodyPost_ret (v := .tuple #[.agg #[.int .i64 0, .slice none 0 0], .int .i64 3]) (by simp [results, Try.results35, go_sem, u0, u1]) rfl ?_
          first
          | exact ⟨0, _, 3, rfl, HX.out _, HB2.out⟩
          | exact ⟨0, _, 3, rfl, HX.out _, HBF.out _ _ _ HB2.out⟩
      · have HEE : Hid (chE size g ⟨alo, ahi, afr, att⟩ = 3) := by show chE _ _ _ = 3; unfold chE; rw [if_pos (by simp; omega)]
        have HX := Lib.hid (HERR.out 3 (by decide) HEE.out)
        obtain ⟨x0, x1, x2, x3⟩ := K2.out.c2
        obtain ⟨u0, u1, -, -⟩ := (K2.out.two (.int .i64 0) (.slice none 0 0)).c2
        go_wp2_with fail
        refine bodyPost_ret (v := .tuple #[.agg #[.int .i64 0, .slice none 0 0], .int .i64 3]) (by simp [results, Try.results35, go_sem, u0, u1]) rfl ?_
        first
        | exact ⟨0, _, 3, rfl, HX.out _, HB2.out⟩
        | exact ⟨0, _, 3, rfl, HX.out _, HBF.out _ _ _ HB2.out⟩
    · have hlt3 : ¬ (j : Int) < n := by omega
      have hdr : l.drop j = [] := List.drop_eq_nil_of_le (by have := HN.out; omega)
      have HF : Hid (apF size f l = (0, g)) := by
        show _ = _
        rw [HAP.out, hdr, apF_nil]
      clear hdr
      obtain ⟨m0, m1, -, -⟩ := F1.out.c2
      obtain ⟨x0, x1, x2, x3⟩ := F2.out.c2
      obtain ⟨u0, u1, -, -⟩ := (F2.out.two (.int .i64 size) (.slice va vn vc)).c2
      have HI9 : Hid (IsRs 0 ((wr.setCell ⟨W.heap.size + 1, 0, none⟩ (.int .i64 size)).setCell ⟨W.heap.size + 1, 1, none⟩ (.slice va vn vc)) (.slice va vn vc) L) := (HRS.out.apart (.inr fun x e => by rw [F2.out.c2.2.1] at e; cases e)).apart (.inr fun x e => by rw [((F2.out.put (i := 0) (by simp) (by decide) _).c 1 _ rfl).1] at e; cases e)
      go_wp2_with fail
      refine bodyPost_ret (v := .tuple #[.agg #[.int .i64 size, .slice va vn vc], .int .i64 0]) (by simp [results, Try.results35, go_sem, u0, u1]) rfl ?_
      exact ⟨size, _, 0, rfl, by rw [HF.out]; exact ⟨rfl, .inr ⟨rfl, rfl, L, HST.out.1, HI9.out⟩⟩, below_put HBr.out (by omega) _ _⟩
end Go.Proofs.Ytjbenhmpeceaeaa
namespace Go.Proofs.Ytjbenhmpeceaeaa
open Go Go.RowKit Gs

set_option maxHeartbeats 1000000 in
/-- ref.Changed, of two lists that are the same -/
theorem RChanged_same {W : World} {u v : Value} {L : List Ch} (h1 : IsCs W u L) (h2 : IsCs W v L) (hlen : L.length ≤ 100000) : Calls Try.prog 31 #[u, v] W fun e w' => e = .returned (.bool true) ∧ Hid (Below W.heap.size W w') := by
  have HU := Lib.hid h1; have HV := Lib.hid h2
  obtain ⟨a, c, rfl, -⟩ := h1
  obtain ⟨a', c', rfl, -⟩ := h2
  obtain ⟨n, hn⟩ : ∃ n, n = L.length := ⟨_, rfl⟩
  rw [← hn] at HU HV ⊢
  have hnb : n ≤ 100000 := by omega
  have HN := Lib.hid hn
  clear hn hlen
  go_enter Try.func31, Try.ntmps31
  go_wp2_with fail
  go_loopw [5] (fun iv wr => ∃ j : Nat, j ≤ n ∧ iv = .int .i64 j ∧ Hid (Below W.heap.size W wr)) (fun i _ => n - (intOf i).toNat)
  case atStart => exact ⟨0, by omega, rfl, Below.refl _ _⟩
  case round =>
    obtain ⟨j, hj, rfl, HB⟩ := hrel
    by_cases hlt : j < n
    · have hj2 : (j : Int) < n := by omega
      have hj0 : (0 : Int) ≤ (j : Int) := by omega
      have hjl : j < L.length := by rw [← HN.out]; exact hlt
      obtain ⟨G, o, rfl, c0, c1, c2, c3⟩ := (HU.out.below HB.out).at' hjl
      obtain ⟨G', o', rfl, d0, d1, d2, d3⟩ := (HV.out.below HB.out).at' hjl
      generalize L[j] = x at *
      obtain ⟨xa, xb, xc, xd⟩ := x
      simp only at c0 c1 c2 c3 d0 d1 d2 d3
      go_wp2_with fail
      go_quiet (fail)
      rename_i nq
      have HBn : Hid (Below W.heap.size W (World.drewN wr nq)) := below_drewN HB.out nq
      clear c0 c1 c2 c3 d0 d1 d2 d3
      generalize hw : World.drewN _ nq = w2 at HBn ⊢
      clear hw
      go_wp2_with fail
      go_roundw
      case rel => exact ⟨j + 1, by omega, by go_num, HBn.out⟩
      case measure => simp [intOf]; omega
    · have hj2 : ¬ (j : Int) < n := by omega
      go_wp2_with fail
      go_ret
      exact ⟨rfl, HB.out⟩
theorem RApply_un (v : Value) (W : World) : Calls Try.prog 35 #[.agg #[.int .i64 0, .slice none 0 0], v] W fun e w' => e = .returned (.tuple #[.agg #[.int .i64 0, .slice none 0 0], .int .i64 1]) ∧ Below W.heap.size W w' := by
  obtain ⟨w0, HW⟩ : ∃ w0, w0 = (W.alloc (.cells #[.int .i64 0, .slice none 0 0] 33)).alloc (.cells #[.int .i64 0, .slice none 0 0] 33) := ⟨_, rfl⟩
  have hb : Below W.heap.size W w0 := by rw [HW]; exact (alloc_below _ _).alloc (by simp) _
  have n1 : Bx W.heap.size [.int .i64 0, .slice none 0 0] w0 := by rw [HW]; exact (Bx.new W [.int .i64 0, .slice none 0 0] 33 (by simp)).next (alloc_below _ _)
  have n2 : Bx (W.heap.size + 1) [.int .i64 0, .slice none 0 0] w0 := by
    have := Bx.new (W.alloc (.cells #[.int .i64 0, .slice none 0 0] 33)) [.int .i64 0, .slice none 0 0] 33 (by simp)
    rw [World.size_alloc, ← HW] at this
    exact this
  have HUS : Hid (∀ W', Calls Try.prog 42 #[.agg #[.int .i64 0, .slice none 0 0]] W' fun e w' => e = .returned (.bool false) ∧ Below W'.heap.size W' w') := fun W' => RUsable_any 0 none 0 0 W'
  have H2 := Lib.hid n2; have HB := Lib.hid hb; have HW' := Lib.hid HW
  obtain ⟨m0, m1, -, -⟩ := n1.c2
  clear hb n1 n2 HW
  go_enter Try.func35, Try.ntmps35
  go_upto_region 1 with fail
  rw [← HW'.out]
  go_wp2_with fail
  refine (HUS.out _).mono ?_
  rintro e w1 ⟨rfl, hb⟩
  have G2 := Lib.hid (H2.out.next hb); have HB1 := Lib.hid (HB.out.trans (hb.mono HB.out.size))
  clear hb m0 m1
  obtain ⟨x0, x1, x2, x3⟩ := G2.out.c2
  obtain ⟨u0, u1, -, -⟩ := (G2.out.two (.int .i64 0) (.slice none 0 0)).c2
  go_wp2_with fail
  refine bodyPost_ret (v := .tuple #[.agg #[.int .i64 0, .slice none 0 0], .int .i64 1]) (by simp [results, Try.results35, go_sem, u0, u1]) rfl ?_
  first
  | exact ⟨rfl, HB1.out⟩
  | exact ⟨rfl, below_put HB1.out (by omega) _ _⟩
/-- both Applies -/
theorem both_Apply {base : Nat} {W : World} {p : Option Addr} {z s : Int} {v : Value} {l : List Ch} (h : Dual base W p z s v) (hn : l.length ≤ 100000) : ∃ (CX : Option Addr → Int → Int → World → Prop) (DX : Int → Value → Int → World → Prop),
    Hid (∀ W' cv, Below W.heap.size W W' → IsCs W' cv l → Calls Try.prog 34 #[.agg #[.pointer p, .int .i64 z], cv] W' fun e w' => ∃ q s2 e2, e = .returned (.tuple #[.agg #[.pointer q, .int .i64 s2], .int .i64 e2]) ∧ Hid (CX q s2 e2 w') ∧ Below W'.heap.size W' w') ∧
    Hid (∀ W' cv, Below W.heap.size W W' → IsCs W' cv l → Calls Try.prog 35 #[.agg #[.int .i64 s, v], cv] W' fun e w' => ∃ s' b n c e2, e = .returned (.tuple #[.agg #[.int .i64 s', .slice b n c], .int .i64 e2]) ∧ Hid (DX s' (.slice b n c) e2 w') ∧ Below W'.heap.size W' w') ∧
    Hid (∀ q s2 e2 W1 W2, CX q s2 e2 W1 → Below W1.heap.size W1 W2 → CX q s2 e2 W2) ∧
    Hid (∀ q s2 e2 s' v' e' W1, CX q s2 e2 W1 → DX s' v' e' W1 → e2 = e' ∧ Dual 0 W1 q s2 s' v') := by
  rcases h.open with ⟨rfl, rfl, rfl, rfl⟩ | ⟨f, L, h1, h2, h3, rfl, h5, h6⟩
  · refine ⟨fun q s2 e2 _ => q = none ∧ s2 = 0 ∧ e2 = 1, fun s' v' e' _ => s' = 0 ∧ v' = .slice none 0 0 ∧ e' = 1, fun W' cv _ hc => ?_, fun W' cv _ hc => ?_, fun _ _ _ _ _ h _ => h, ?_⟩
    · obtain ⟨a, c, rfl, -⟩ := hc
      refine (Apply_un 0 a _ c W').mono ?_
      rintro e w' ⟨rfl, hB⟩
      exact ⟨none, 0, 1, rfl, ⟨rfl, rfl, rfl⟩, hB⟩
    · refine (RApply_un cv W').mono ?_
      rintro e w' ⟨rfl, hB⟩
      exact ⟨0, none, 0, 0, 1, rfl, ⟨rfl, rfl, rfl⟩, hB⟩
    · rintro q s2 e2 s' v' e' W1 ⟨rfl, rfl, rfl⟩ ⟨rfl, rfl, rfl⟩
      exact ⟨rfl, .inl ⟨rfl, rfl, rfl, rfl⟩⟩
  · refine ⟨fun q s2 e2 W => ApP s (apF s f l) q s2 e2 W, fun s' v' e' W => RApP s (apF s f l) s' v' e' W, fun W' cv hW hc => Apply_any (h1.below hW) hc hn, fun W' cv hW hc => ?_, fun _ _ _ _ _ h hb => h.below hb, ?_⟩
    · refine (RApply_any (h3.below hW) h2 h1.ctx h1.lo h6 hc hn).mono ?_
      rintro e w' ⟨s', v', e2, rfl, hr, hB⟩
      have hv : ∃ a n c, v' = .slice a n c := by
        rcases hr.out.2 with ⟨_, _, h⟩ | ⟨_, _, _, _, ⟨_, _, h, _⟩⟩
        · exact ⟨_, _, _, h⟩
        · exact ⟨_, _, _, h⟩
      obtain ⟨b, n, c, rfl⟩ := hv
      exact ⟨s', b, n, c, e2, rfl, hr, hB⟩
    · rintro q s2 e2 s' v' e' W1 ⟨g1, g2⟩ ⟨k1, k2⟩
      refine ⟨g1.trans k1.symm, ?_⟩
      rcases g2 with ⟨a1, rfl, rfl⟩ | ⟨a1, rfl, a3⟩
      · rcases k2 with ⟨b1, rfl, rfl⟩ | ⟨b1, _⟩
        · exact .inl ⟨rfl, rfl, rfl, rfl⟩
        · exact absurd (g1.trans (k1.symm.trans b1)) a1
      · rcases k2 with ⟨b1, _⟩ | ⟨b1, rfl, L', b3, b4⟩
        · exact absurd (k1.trans (g1.symm.trans a1)) b1
        · exact .inr ⟨_, L', a3, b3, b4, rfl⟩

def encC (c : Ch) : List Value := [.int .i64 c.lo, .int .i64 c.hi, .int .i64 c.fr, .int .i64 c.tt]
theorem encC_len (l : List Ch) : (l.flatMap encC).length = l.length * 4 := by
  induction l with
  | nil => rfl
  | cons c l ih => rw [List.flatMap_cons, List.length_append, ih]; simp [encC]; omega
theorem encC_one (l : List Ch) : ∀ u ∈ l.flatMap encC, u.oneCell' = true := by
  intro u hu
  obtain ⟨r, _, hr⟩ := List.mem_flatMap.1 hu
  simp only [encC, List.mem_cons, List.not_mem_nil, or_false] at hr
  rcases hr with rfl | rfl | rfl | rfl <;> rfl
theorem encC_get : ∀ (l : List Ch) (j : Nat) (h : j < l.length), (l.flatMap encC)[j * 4]? = some (.int .i64 l[j].lo) ∧ (l.flatMap encC)[j * 4 + 1]? = some (.int .i64 l[j].hi) ∧ (l.flatMap encC)[j * 4 + 2]? = some (.int .i64 l[j].fr) ∧ (l.flatMap encC)[j * 4 + 3]? = some (.int .i64 l[j].tt)
  | r :: l, 0, _ => ⟨rfl, rfl, rfl, rfl⟩
  | r :: l, j + 1, h => by
    have ih := encC_get l j (by simpa using h)
    have e : ∀ i, ((r :: l).flatMap encC)[i + 4]? = (l.flatMap encC)[i]? := fun i => rfl
    rw [show (j + 1) * 4 = j * 4 + 4 by omega, show j * 4 + 4 + 1 = j * 4 + 1 + 4 by omega, show j * 4 + 4 + 2 = j * 4 + 2 + 4 by omega, show j * 4 + 4 + 3 = j * 4 + 3 + 4 by omega, e, e, e, e]
    exact ih
theorem IsCs.of_row {W : World} {base : Nat} {v : Value} {l : List Ch} (h : W.ownsRow base 107 4 v l.length (l.flatMap encC)) : IsCs W v l := by
  have hcs := fun g hg => h.cells (g := g) hg
  have hlt := h.lt
  rcases h.2 with ⟨rfl, h0⟩ | ⟨g, cap, cur, rfl, _⟩
  · exact ⟨none, 0, by rw [h0], fun hp => by omega⟩
  · refine ⟨some ⟨g, 0, none⟩, cap, rfl, fun hp => ⟨g, 0, rfl, (hlt g rfl).2, fun j hj => ?_⟩⟩
    obtain ⟨e0, e1, e2, e3⟩ := encC_get l j hj
    have c0 := hcs g rfl _ _ e0
    have c1 := hcs g rfl _ _ e1
    have c2 := hcs g rfl _ _ e2
    have c3 := hcs g rfl _ _ e3
    rw [add_zero'] at c0 c1 c2 c3
    rw [Nat.zero_add]
    exact ⟨c0, c1, c2, c3⟩
/-- the cells of a list of changes, in a row -/
theorem IsCs.news {W : World} {B o n c : Nat} {l : List Ch} (h : IsCs W (.slice (some ⟨B, o, none⟩) n c) l) : ∀ j u, (l.flatMap encC)[j]? = some u → W.cell? ((⟨B, o, none⟩ : Addr).add j) = some u := by
  intro j u hj
  have hlt : j < l.length * 4 := by
    rw [← encC_len]
    exact (List.getElem?_eq_some_iff.1 hj).1
  obtain ⟨B', o', e, c0, c1, c2, c3⟩ := h.at' (j := j / 4) (by omega)
  injection e with e
  injection e with e1 e2
  subst e1; subst e2
  obtain ⟨e0, e1, e2, e3⟩ := encC_get l (j / 4) (by omega)
  rw [show (⟨B, o, none⟩ : Addr).add j = ⟨B, o + j, none⟩ by unfold Addr.add; split <;> simp_all]
  have hr : j % 4 = 0 ∨ j % 4 = 1 ∨ j % 4 = 2 ∨ j % 4 = 3 := by omega
  rcases hr with hr | hr | hr | hr
  · have ej : j = j / 4 * 4 := by omega
    rw [ej, e0] at hj
    rw [ej]; cases hj; exact c0
  · have ej : j = j / 4 * 4 + 1 := by omega
    rw [ej, e1] at hj
    rw [ej, ← Nat.add_assoc]; cases hj; exact c1
  · have ej : j = j / 4 * 4 + 2 := by omega
    rw [ej, e2] at hj
    rw [ej, ← Nat.add_assoc]; cases hj; exact c2
  · have ej : j = j / 4 * 4 + 3 := by omega
    rw [ej, e3] at hj
    rw [ej, ← Nat.add_assoc]; cases hj; exact c3
theorem infoChange : (Try.prog.info? 107).map (fun i => (i.zero, i.size, i.bytes)) = some (some (.agg #[.int .i64 0, .int .i64 0, .int .i64 0, .int .i64 0]), 4, 32) := by kernel_rfl
theorem IsCs.len {W : World} {a : Option Addr} {n c : Nat} {l : List Ch} (h : IsCs W (.slice a n c) l) : n = l.length := by
  obtain ⟨_, _, hv, _⟩ := h
  injection hv
/-- a copy of a list of changes: an append to an empty list -/
theorem wpList_copyC {w3 : World} {ops : Array Oper} {rest : List Oper} {o : Oper} {a : Go.Act} {Q : Exit → Go.Act → World → Prop} (hgd : o.guard = none) (s x : Operand)
    (ho : o.op = .call { callee := .builtin .append, args := #[s, x], argTypes := #[66, 66] }) {cv : Value} {k : List Ch} {m : Nat} (hmk : m = k.length)
    (hs : a.eval s = .slice (some ⟨w3.heap.size, 0, none⟩) 0 0) (hx : a.eval x = cv) (hk : IsCs w3 cv k) (hkv : cv = .slice none 0 0 ∨ ∃ a m c, cv = .slice (some a) m c) (hm : m ≤ 100000)
    (h : ∀ a2 c2 w5, IsCs w5 (.slice a2 m c2) k → Below w3.heap.size w3 w5 → wpList Try.prog ops Q rest (a.put o.dst (.slice a2 m c2)) w5) : wpList Try.prog ops Q (o :: rest) a (w3.alloc (.cells #[] 107)) := by
  obtain ⟨i0, hi0, hz0, hz1, hz2⟩ := info_parts infoChange
  have hown : (w3.alloc (.cells #[] 107)).ownsRow w3.heap.size 107 4 (.slice (some ⟨w3.heap.size, 0, none⟩) 0 0) 0 [] := World.ownsRow_lit w3 #[] 0 (Nat.le_refl _) (by decide) (by simp)
  have hb := alloc_below w3 (.cells #[] 107)
  rcases hkv with rfl | ⟨a0, m0, c0, rfl⟩
  · have hk0 : m = 0 := hmk.trans hk.len.symm
    subst hk0
    refine wpList_append_nil hgd s x _ ho w3.heap.size _ i0 4 Try.underlying66 hi0 _ 0 [] hs hown hx ?_
    have hk1 : k = [] := List.eq_nil_of_length_eq_zero hmk.symm
    subst hk1
    exact h _ _ _ ⟨_, _, rfl, fun h => absurd h (by simp)⟩ hb
  · have hm0 : m0 = m := hk.len.trans hmk.symm
    subst hm0
    have hnw : ∀ j u, (k.flatMap encC)[j]? = some u → (w3.alloc (.cells #[] 107)).cell? (a0.add j) = some u := by
      by_cases hz : k = []
      · subst hz
        intro j u hj
        simp at hj
      · obtain ⟨B, o', e, _⟩ := hk.at' (j := 0) (List.length_pos_iff.2 hz)
        injection e with e
        subst e
        exact (hk.below hb).news
    refine wpList_append_own_at _ hgd s x _ ho w3.heap.size _ i0 _ 4 32 Try.underlying66 hi0 hz0 hz1 hz2 rfl (by decide) _ 0 [] hs hown a0 m0 c0 (k.flatMap encC) hx (by rw [encC_len, hmk]) hnw (encC_one k) (by rw [Nat.zero_add]; exact Nat.le_trans hm (by decide)) (by omega) hb.size ?_
    intro v' w5 hown' hgrow _ _
    rw [Nat.zero_add, List.nil_append, hmk] at hown'
    have hcs := IsCs.of_row hown'
    have hcs0 := hcs
    obtain ⟨a2, c2, rfl, -⟩ := hcs0
    rw [← hmk] at hcs ⊢
    exact h _ _ _ hcs (hb.grown hgrow hb.size (fun j hj => by cases hj; exact Nat.le_refl _))
set_option maxRecDepth 100000 in
set_option maxHeartbeats 4000000 in
theorem spanApplies_walk (size : Int) (v : Value) (l : List Act) (cv : Value) (k : List Ch) (W : World) (hl : IsAs W v l) (hk : IsCs W cv k) (hkv : cv = .slice none 0 0 ∨ ∃ a m c, cv = .slice (some a) m c) :
    Calls Try.prog 7 #[.int .i64 size, v, cv] W fun e w' => e = .returned (.bool true) ∧ Below W.heap.size W w' := by
  have HAW := Lib.hid (fun W' => awake_any W')
  have HAS := Lib.hid hl
  have HCS := Lib.hid hk
  obtain ⟨ao, c, rfl, -⟩ := hl
  obtain ⟨n, hnn⟩ : ∃ n, n = l.length := ⟨_, rfl⟩
  have HN := Lib.hid hnn
  rw [← hnn] at HAS ⊢
  have hk0 := hk
  obtain ⟨ka, kc, rfl, -⟩ := hk0
  obtain ⟨m, hmm⟩ : ∃ m, m = k.length := ⟨_, rfl⟩
  have HM := Lib.hid hmm
  rw [← hmm] at HCS hkv ⊢
  have HKV := Lib.hid hkv
  have HR : Hid (Below W.heap.size W W) := Below.refl _ _
  clear hnn hmm hk hkv
  by_cases hf : n ≤ 60
  · have HFW : Hid (∀ W', Calls Try.prog 11 #[.slice ao n c] W' fun e w' => e = .returned (.bool true) ∧ W' = w') := fun W' => by
      have := few_any ao n c W'
      rwa [decide_eq_true hf] at this
    by_cases hm60 : (m : Int) > 60
    · go_enter Try.func7, Try.ntmps7
      go_wp2_with fail
      refine (HFW.out _).mono ?_
      rintro e w1 ⟨rfl, rfl⟩
      go_wp2_with fail
      refine (HAW.out _).mono ?_
      rintro e w2 ⟨rfl, hb⟩
      have HB2 := Lib.hid hb
      clear hb
      go_wp2_with fail
      go_ret
      exact ⟨rfl, HB2.out⟩
    · have HPL := Lib.hid (played_any (size := size) HAS.out (by have := HN.out; omega))
      have HMB : Hid (m ≤ 60) := by show _ ≤ _; omega
      go_enter Try.func7, Try.ntmps7
      go_wp2_with fail
      refine (HFW.out _).mono ?_
      rintro e w1 ⟨rfl, rfl⟩
      go_wp2_with fail
      refine HPL.out.mono ?_
      rintro e w2 ⟨p, z, s, v', rfl, hd, hb⟩
      obtain ⟨va, vn, vc, rfl⟩ := hd.out.shape
      obtain ⟨w3, HW3⟩ : ∃ w3, w3 = (w2.alloc (.cells #[.pointer p, .int .i64 z] 27)).alloc (.cells #[.int .i64 s, .slice va vn vc] 33) := ⟨_, rfl⟩
      have b3 : Below w2.heap.size w2 w3 := by rw [HW3]; exact (alloc_below _ _).alloc (by simp) _
      have n2 : Bx w2.heap.size [.pointer p, .int .i64 z] w3 := by rw [HW3]; exact (Bx.new w2 [.pointer p, .int .i64 z] 27 (by simp)).next (alloc_below _ _)
      have n3 : Bx (w2.heap.size + 1) [.int .i64 s, .slice va vn vc] w3 := by
        have := Bx.new (w2.alloc (.cells #[.pointer p, .int .i64 z] 27)) [.int .i64 s, .slice va vn vc] 33 (by simp)
        rw [World.size_alloc, ← HW3] at this
        exact this
      have HD3 := Lib.hid (hd.out.below b3)
      have b03 := hb.trans (b3.mono hb.size)
      have G2 := Lib.hid n2; have G3 := Lib.hid n3
      have HB3 := Lib.hid b03
      have HC3 := Lib.hid (HCS.out.below b03)
      have HW3' := Lib.hid HW3
      clear hb HW3 b3 n2 n3 hd b03
      go_upto_region 4 with fail
      rw [← HW3'.out]
      clear HW3'
      have HMB2 : Hid (m ≤ 100000) := by have := HMB.out; show _ ≤ _; omega
      go_wp2_with (at_builtin; refine wpList_copyC rfl _ _ rfl (w3 := w3) HM.out rfl rfl HC3.out HKV.out HMB2.out ?_)
      intro a2 c2 w5 hcs5 hb5
      have F2 := Lib.hid (G2.out.next hb5); have F3 := Lib.hid (G3.out.next hb5); have HD5 := Lib.hid (HD3.out.below hb5); have HC5 := Lib.hid (HC3.out.below hb5)
      have HCN := Lib.hid hcs5
      have HB5 := Lib.hid (HB3.out.trans (hb5.mono HB3.out.size))
      obtain ⟨CX, DX, HA1, HA2, HCB, HAG⟩ := both_Apply (l := k) HD5.out (by have := HMB.out; have := HM.out; omega)
      clear hb5 hcs5 G2 G3 HD3 HC3 HB3
      obtain ⟨m0, m1, -, -⟩ := F2.out.c2
      go_wp2_with fail
      refine (HA1.out _ _ (Below.refl _ _) HCN.out).mono ?_
      rintro e w6 ⟨q, s2, e2, rfl, HCX, hb⟩
      obtain ⟨w7, HW7⟩ : ∃ w7, w7 = w6.alloc (.cells #[.pointer q, .int .i64 s2] 27) := ⟨_, rfl⟩
      have b7 : Below w6.heap.size w6 w7 := by rw [HW7]; exact alloc_below _ _
      have n7 : Bx w6.heap.size [.pointer q, .int .i64 s2] w7 := by rw [HW7]; exact Bx.new w6 [.pointer q, .int .i64 s2] 27 (by simp)
      have b57 := hb.trans (b7.mono hb.size)
      have K2 := Lib.hid (F2.out.next b57); have K3 := Lib.hid (F3.out.next b57); have K7 := Lib.hid n7
      have HC7 := Lib.hid (HC5.out.below b57); have HCN7 := Lib.hid (HCN.out.below b57); have HD7 := Lib.hid (HD5.out.below b57)
      have HCX7 := Lib.hid (HCB.out _ _ _ _ _ HCX.out b7)
      have HB57 := Lib.hid b57
      have HB7 := Lib.hid (HB5.out.trans (b57.mono HB5.out.size))
      have HW7' := Lib.hid HW7
      clear HW7 b7 n7 b57 hb m0 m1 F2 F3 HC5 HCN HD5 HCX HB5 HA1
      go_upto_region 6 with fail
      rw [← HW7'.out]
      clear HW7'
      obtain ⟨r0, r1, -, -⟩ := K3.out.c2
      go_wp2_with fail
      refine (HA2.out _ _ HB57.out HC7.out).mono ?_
      rintro e w8 ⟨s', b8, n8, c8, e', rfl, HDX, hb⟩
      obtain ⟨he, hdu⟩ := HAG.out _ _ _ _ _ _ _ (HCB.out _ _ _ _ _ HCX7.out hb) HDX.out
      obtain ⟨w9, HW9⟩ : ∃ w9, w9 = w8.alloc (.cells #[.int .i64 s', .slice b8 n8 c8] 33) := ⟨_, rfl⟩
      have b9 : Below w8.heap.size w8 w9 := by rw [HW9]; exact alloc_below _ _
      have n9 : Bx w8.heap.size [.int .i64 s', .slice b8 n8 c8] w9 := by rw [HW9]; exact Bx.new w8 [.int .i64 s', .slice b8 n8 c8] 33 (by simp)
      have b79 := hb.trans (b9.mono hb.size)
      have L2 := Lib.hid (K2.out.next b79); have L3 := Lib.hid (K3.out.next b79); have L7 := Lib.hid (K7.out.next b79); have L9 := Lib.hid n9
      have HC9 := Lib.hid (HC7.out.below b79); have HCN9 := Lib.hid (HCN7.out.below b79); have HD9 := Lib.hid (HD7.out.below b79)
      have HDU := Lib.hid (hdu.below b9)
      have HB9 := Lib.hid (HB7.out.trans (b79.mono HB7.out.size))
      have HW9' := Lib.hid HW9
      subst he
      clear HW9 b9 n9 b79 hb r0 r1 K2 K3 K7 HC7 HCN7 HD7 HB7 HCX7 HDX hdu HA2 HAG HCB HB57
      have HALL : Hid (∀ W', Below w9.heap.size w9 W' → (W'.cell? ⟨w2.heap.size, 0, none⟩ = some (.pointer p) ∧ W'.cell? ⟨w2.heap.size, 1, none⟩ = some (.int .i64 z)) ∧ (W'.cell? ⟨w2.heap.size + 1, 0, none⟩ = some (.int .i64 s) ∧ W'.cell? ⟨w2.heap.size + 1, 1, none⟩ = some (.slice va vn vc)) ∧ (W'.cell? ⟨w6.heap.size, 0, none⟩ = some (.pointer q) ∧ W'.cell? ⟨w6.heap.size, 1, none⟩ = some (.int .i64 s2)) ∧ (W'.cell? ⟨w8.heap.size, 0, none⟩ = some (.int .i64 s') ∧ W'.cell? ⟨w8.heap.size, 1, none⟩ = some (.slice b8 n8 c8))) := fun W' h =>
        ⟨⟨(L2.out.next h).c2.1, (L2.out.next h).c2.2.1⟩, ⟨(L3.out.next h).c2.1, (L3.out.next h).c2.2.1⟩, ⟨(L7.out.next h).c2.1, (L7.out.next h).c2.2.1⟩, ⟨(L9.out.next h).c2.1, (L9.out.next h).c2.2.1⟩⟩
      go_upto_region 7 with fail
      rw [← HW9'.out]
      clear HW9'
      obtain ⟨⟨a0, a1⟩, ⟨a2, a3⟩, ⟨a4, a5⟩, ⟨a6, a7⟩⟩ := HALL.out _ (Below.refl _ _)
      go_wp2_with fail
      refine (same_dual HDU.out).mono ?_
      rintro e x1 ⟨rfl, hb⟩
      have B1 := Lib.hid hb.out
      clear hb a0 a1 a2 a3 a4 a5 a6 a7
      obtain ⟨⟨a0, a1⟩, ⟨a2, a3⟩, ⟨a4, a5⟩, ⟨a6, a7⟩⟩ := HALL.out _ B1.out
      go_wp2_with fail
      refine (same_dual (HD9.out.below B1.out)).mono ?_
      rintro e x2 ⟨rfl, hb⟩
      have B2 := Lib.hid (B1.out.trans (hb.out.mono B1.out.size))
      clear hb a0 a1 a2 a3 a4 a5 a6 a7
      go_wp2_with fail
      refine (RChanged_same (HCN9.out.below B2.out) (HC9.out.below B2.out) (by have := HM.out; have := HMB.out; omega)).mono ?_
      rintro e x3 ⟨rfl, hb⟩
      have B3 := Lib.hid (B2.out.trans (hb.out.mono B2.out.size))
      clear hb
      go_wp2_with fail
      refine (HAW.out _).mono ?_
      rintro e x4 ⟨rfl, hb⟩
      have HF := Lib.hid (HB9.out.trans ((B3.out.trans (hb.mono B3.out.size)).mono HB9.out.size))
      clear hb
      go_wp2_with fail
      go_ret
      exact ⟨rfl, HF.out⟩
  · have HFW : Hid (∀ W', Calls Try.prog 11 #[.slice ao n c] W' fun e w' => e = .returned (.bool false) ∧ W' = w') := fun W' => by
      have := few_any ao n c W'
      rwa [decide_eq_false hf] at this
    go_enter Try.func7, Try.ntmps7
    go_wp2_with fail
    refine (HFW.out _).mono ?_
    rintro e w1 ⟨rfl, rfl⟩
    go_wp2_with fail
    refine (HAW.out _).mono ?_
    rintro e w2 ⟨rfl, hb⟩
    have HB2 := Lib.hid hb
    clear hb
    go_wp2_with fail
    go_ret
    exact ⟨rfl, HB2.out⟩
section
open Go.ChangeShapes Go.WideShapes Go.ChangeAt Go.Deep
theorem four_ch : Try.prog.cellsOf 107 = 4 := by kernel_rfl
section
variable {H : Type} {enc : TypeId × Value → H} {W : World} {base : Nat} {sp : Nat → Bool} {held : Bool}
theorem ch_cells {fuel : Nat} {cs : List Value} {x : DataW H × List MemPlace} (h : DataW.trod enc Try.prog W base sp held fuel 107 cs = some x) :
    ∃ a : Ch, cs[0]? = some (.int .i64 a.lo) ∧ cs[1]? = some (.int .i64 a.hi) ∧ cs[2]? = some (.int .i64 a.fr) ∧ cs[3]? = some (.int .i64 a.tt) ∧ cs.length = 4 := by
  obtain ⟨xs, n, _, _, hl, hx, hg⟩ := DataW.trod_struct Try.underlying107 h
  have hx : xs.length = 4 := hx
  obtain ⟨b0, e0⟩ := fld_int (i := 0) (by omega) (hg 0 _ rfl)
  obtain ⟨b1, e1⟩ := fld_int (i := 1) (by omega) (hg 1 _ rfl)
  obtain ⟨b2, e2⟩ := fld_int (i := 2) (by omega) (hg 2 _ rfl)
  obtain ⟨b3, e3⟩ := fld_int (i := 3) (by omega) (hg 3 _ rfl)
  exact ⟨⟨b0, b1, b2, b3⟩, e0, e1, e2, e3, by rw [hl, four_ch]⟩
/-- a list of changes -/
theorem changes_of {v : Value} {d : DataW H} {p : List MemPlace} (h : DataW.Trod enc Try.prog W 0 (fun _ => true) true 66 v d p) (hv : ∃ a n c, v = .slice a n c) : ∃ l, IsCs W v l ∧ (v = .slice none 0 0 ∨ ∃ a m c, v = .slice (some a) m c) := by
  obtain ⟨a0, len0, cap0, rfl⟩ := hv
  obtain ⟨fuel, hf⟩ := h
  rcases open_slice Try.underlying66 hf with ⟨hcs, _⟩ | ⟨a, len, cap, m, n, D, Pl, hcs, _, hl, _, hm, _, hi⟩
  · simp [Value.cells] at hcs
    obtain ⟨rfl, rfl, rfl⟩ := hcs
    exact ⟨[], ⟨none, 0, rfl, fun h => absurd h (by simp)⟩, .inl rfl⟩
  · simp [Value.cells] at hcs
    obtain ⟨rfl, rfl, rfl⟩ := hcs
    simp only [if_true] at hm
    have hex : ∀ i, i < len0 → ∃ x : Ch, ∀ j, j < 4 → W.cell? ((a.add (i * 4)).add j) = [Value.int .i64 x.lo, .int .i64 x.hi, .int .i64 x.fr, .int .i64 x.tt][j]? := fun i hlt => by
      obtain ⟨cs', hc, ht⟩ := hi i (by omega)
      rw [four_ch] at hc
      obtain ⟨_, hln, hat⟩ := World.cells?_some hc
      obtain ⟨x, e0, e1, e2, e3, _⟩ := ch_cells ht
      refine ⟨x, fun j hj => ?_⟩
      rw [hat j hj]
      have : j = 0 ∨ j = 1 ∨ j = 2 ∨ j = 3 := by omega
      rcases this with rfl | rfl | rfl | rfl
      · exact e0
      · exact e1
      · exact e2
      · exact e3
    obtain ⟨g, hg⟩ : ∃ g : Nat → Ch, ∀ i, i < len0 → ∀ j, j < 4 → W.cell? ((a.add (i * 4)).add j) = [Value.int .i64 (g i).lo, .int .i64 (g i).hi, .int .i64 (g i).fr, .int .i64 (g i).tt][j]? :=
      ⟨fun i => if h : i < len0 then (hex i h).choose else ⟨0, 0, 0, 0⟩, fun i h => by simp only [dif_pos h]; exact (hex i h).choose_spec⟩
    refine ⟨(List.range len0).map g, ⟨some a, cap0, by simp, fun hp => ?_⟩, .inr ⟨_, _, _, rfl⟩⟩
    have hp : 0 < len0 := by simpa using hp
    obtain ⟨b, o, s⟩ := a
    have h00 := hg 0 hp 0 (by decide)
    obtain rfl : s = none := by
      cases s with
      | none => rfl
      | some _ =>
        exfalso
        unfold World.cell? Addr.add at h00
        simp only [if_true] at h00
        split at h00 <;> simp at h00
    refine ⟨b, o, rfl, ?_, fun j hj => ?_⟩
    · have h1 : W.cell? ⟨b, o, none⟩ = some (.int .i64 (g 0).lo) := by simpa [Addr.add] using h00
      exact World.block_lt_of_cell? _ _ h1
    · have hj : j < len0 := by simpa using hj
      have k : ∀ i, i < 4 → W.cell? ⟨b, o + j * 4 + i, none⟩ = [Value.int .i64 (g j).lo, .int .i64 (g j).hi, .int .i64 (g j).fr, .int .i64 (g j).tt][i]? := fun i hi => by
        have := hg j hj i hi
        rwa [addz, addz] at this
      have e : ((List.range len0).map g)[j]'(by simpa using hj) = g j := by simp
      refine ⟨?_, ?_, ?_, ?_⟩
      · rw [e]; exact k 0 (by decide)
      · rw [e]; exact k 1 (by decide)
      · rw [e]; exact k 2 (by decide)
      · rw [e]; exact k 3 (by decide)
end
end
end Go.Proofs.Ytjbenhmpeceaeaa
