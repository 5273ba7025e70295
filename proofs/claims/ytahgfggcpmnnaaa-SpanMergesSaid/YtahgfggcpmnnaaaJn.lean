/- checkSizes, of maps that are all usable. -/
import Derived.Deep.CutRange
import Derived.Deep.Cut
import Derived.BigQuiet
import Derived.Test.YtahgfggcpmnnaaaZk
namespace Go.Proofs.Ytahgfggcpmnnaaa
open Go Go.RowKit Gs

/-- none of the maps is unusable: E tells whether they have one size -/
theorem checkSizes_ok (B c : Nat) (ms : List MV) (s E : Int) (W : World) (hB : B < W.heap.size) (hc : ∀ j (h : j < ms.length), W.cell? ⟨B, j * 2, none⟩ = some (.pointer ms[j].p) ∧ W.cell? ⟨B, j * 2 + 1, none⟩ = some (.int .i64 ms[j].2)) (hn : ms.length ≤ 4)
    (hu : ∀ m ∈ ms, m.1 ≠ none) (h0 : 0 < ms.length) (hs : W.cell? ⟨B, 1, none⟩ = some (.int .i64 s)) (he : (∀ m ∈ ms, m.2 = s) → E = 0) (he2 : (∃ m ∈ ms, m.2 ≠ s) → E = 2) :
    Calls Try.prog 57 #[.slice (some ⟨B, 0, none⟩) ms.length c] W fun e w' => e = .returned (.int .i64 E) ∧ Below W.heap.size W w' := by
  have HUS := Lib.hid (fun b size W' => isUsable_any b size W')
  have HC : Hid (∀ W' j (h : j < ms.length), Below W.heap.size W W' → W'.cell? ⟨B, j * 2, none⟩ = some (.pointer ms[j].p) ∧ W'.cell? ⟨B, j * 2 + 1, none⟩ = some (.int .i64 ms[j].2)) := fun W' j h hb => ⟨(hb.cell (p := ⟨B, j * 2, none⟩) hB).trans (hc j h).1, (hb.cell (p := ⟨B, j * 2 + 1, none⟩) hB).trans (hc j h).2⟩
  have HS : Hid (∀ W', Below W.heap.size W W' → W'.cell? ⟨B, 1, none⟩ = some (.int .i64 s)) := fun W' hb => (hb.cell (p := ⟨B, 1, none⟩) hB).trans hs
  have HU := Lib.hid hu; have HE := Lib.hid he; have HE2 := Lib.hid he2
  have HA : Hid (∀ (W' : World) o, Below W'.heap.size W' (W'.alloc o)) := fun W' o => (Below.refl _ _).alloc (Nat.le_refl _) _
  have HNEW : Hid (∀ (W' : World) x y t, (W'.alloc (.cells #[x, y] t)).cell? ⟨W'.heap.size, 1, none⟩ = some y) := fun W' x y t => World.cell?_alloc_at _ _ _ _ rfl
  clear hc hu he he2 hs
  obtain ⟨n, hnn⟩ : ∃ n, n = ms.length := ⟨_, rfl⟩
  have HN := Lib.hid hnn
  rw [← hnn] at hn h0 ⊢
  clear hnn
  go_enter Try.func57, Try.ntmps57
  go_wp2_with fail
  go_loopw [9] (fun i wr => ∃ j : Nat, j ≤ n ∧ i = .int .i64 j ∧ Hid (Below W.heap.size W wr)) (fun i _ => n - (intOf i).toNat)
  case atStart => exact ⟨0, by omega, rfl, Below.refl _ _⟩
  case round =>
    obtain ⟨j, hj, rfl, HB⟩ := hrel
    by_cases hlt : j < n
    · have hj2 : (j : Int) < n := by omega
      have hjn : j < ms.length := by rw [← HN.out]; exact hlt
      obtain ⟨hc0, hc1⟩ := HC.out wr j hjn HB.out
      have hnn := HU.out ms[j] (List.getElem_mem hjn)
      rcases hm : ms[j] with ⟨mp, z⟩
      rw [hm] at hc0 hc1 hnn
      cases mp with
      | none => exact absurd rfl hnn
      | some b =>
        have hc0 : wr.cell? ⟨B, j * 2, none⟩ = some (.pointer (some ⟨b, 0, none⟩)) := hc0
        simp only at hc1
        clear hm hnn
        go_wp2_with fail
        refine (HUS.out _ _ _).mono ?_
        rintro e w3 ⟨rfl, hb⟩
        have HB3 := Lib.hid (HB.out.trans ((((HA.out _ _).trans (hb.mono (HA.out _ _).size)).mono HB.out.size)))
        clear hb
        go_wp2_with fail
        go_roundw
        case rel => exact ⟨j + 1, by omega, by go_num, HB3⟩
        case measure => simp [intOf]; omega
    · have hjn : j = n := by omega
      subst hjn
      have hlt' : ¬ ((j : Int) < j) := by omega
      go_wp2_with fail
      go_loopw [19] (fun i wr => ∃ k : Nat, k ≤ j ∧ i = .int .i64 k ∧ Hid (∀ i (h : i < ms.length), i < k → ms[i].2 = s) ∧ Hid (Below W.heap.size W wr)) (fun i _ => j - (intOf i).toNat)
      case atStart => exact ⟨0, by omega, rfl, fun k _ h => absurd h (by omega), HB.out⟩
      case round =>
        clear HB
        obtain ⟨k, hk, rfl, HK, HB⟩ := hrel
        by_cases hlt2 : k < j
        · have hk2 : (k : Int) < j := by omega
          have hkn : k < ms.length := by rw [← HN.out]; exact hlt2
          obtain ⟨hc0, hc1⟩ := HC.out wr k hkn HB.out
          have HEQ := Lib.hid (HE2.out)
          have HMM := Lib.hid (List.getElem_mem hkn)
          rcases hm : ms[k] with ⟨mp, z⟩
          have HM := Lib.hid hm
          rw [hm] at hc0 hc1
          obtain ⟨pp, hpp⟩ : ∃ pp, pp = MV.p (mp, z) := ⟨_, rfl⟩
          rw [← hpp] at hc0
          simp only at hc1
          clear hm hpp
          obtain ⟨w9, HW9⟩ : ∃ w9, w9 = wr.alloc (.cells #[.pointer pp, .int .i64 z] 27) := ⟨_, rfl⟩
          have HW9' := Lib.hid HW9
          have n1 : w9.cell? ⟨wr.heap.size, 1, none⟩ = some (.int .i64 z) := by rw [HW9]; exact HNEW.out _ _ _ _
          have hb9 : Below W.heap.size W w9 := by rw [HW9]; exact HB.out.trans ((HA.out _ _).mono HB.out.size)
          have HB9 := Lib.hid hb9
          have n2 := HS.out w9 hb9
          clear HW9 hb9
          go_upto_region 10 with fail
          rw [← HW9'.out]
          by_cases hz : z = s
          · subst hz
            have HK2 : Hid (∀ i (h : i < ms.length), i < k + 1 → ms[i].2 = z) := fun i h hi => by
              by_cases e : i = k
              · subst e; rw [HM.out]
              · exact HK.out i h (by omega)
            clear HM
            go_wp2_with fail
            go_quiet (fail)
            rename_i nq
            have HBn : Hid (Below W.heap.size W (World.drewN w9 nq)) := below_drewN HB9.out nq
            clear n1 n2
            generalize hw : World.drewN _ nq = w2 at HBn ⊢
            clear hw
            go_wp2_with fail
            go_roundw
            case rel => exact ⟨k + 1, by omega, by go_num, HK2, HBn⟩
            case measure => simp [intOf]; omega
          · have hz' : (z == s) = false := beq_eq_false_iff_ne.2 hz
            have HE3 : Hid (E = 2) := HE2.out ⟨ms[k], HMM.out, by rw [HM.out]; exact hz⟩
            clear HM hz
            go_wp2_with fail
            go_quiet (fail)
            rename_i nq
            have HBn : Hid (Below W.heap.size W (World.drewN w9 nq)) := below_drewN HB9.out nq
            clear n1 n2
            generalize hw : World.drewN _ nq = w2 at HBn ⊢
            clear hw
            go_wp2_with fail
            go_ret
            exact ⟨by rw [HE3.out]; rfl, HBn.out⟩
        · have hlt' : ¬ ((k : Int) < j) := by omega
          have HE3 : Hid (E = 0) := HE.out fun m hm => by
            obtain ⟨i, hi, rfl⟩ := List.getElem_of_mem hm
            exact HK.out i hi (by have := HN.out; omega)
          go_wp2_with fail
          go_ret
          exact ⟨by rw [HE3.out]; rfl, HB.out⟩
end Go.Proofs.Ytahgfggcpmnnaaa
