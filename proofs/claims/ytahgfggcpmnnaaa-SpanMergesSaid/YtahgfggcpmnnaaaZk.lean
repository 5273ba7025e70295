/- checkSizes, Diff, Merge and Runs, of a map that is unusable. -/
import Derived.Test.YtahgfggcpmnnaaaZj
namespace Go.Proofs.Ytahgfggcpmnnaaa
open Go Go.RowKit Gs

/-- a map as a value: the block of its root, and its size -/
abbrev MV := Option Nat × Int
def MV.p (m : MV) : Option Addr := m.1.map fun b => ⟨b, 0, none⟩
def MV.v (m : MV) : Value := .agg #[.pointer m.p, .int .i64 m.2]
/-- one of the maps is unusable -/
theorem checkSizes_bad (B c : Nat) (ms : List MV) (W : World) (hB : B < W.heap.size) (hc : ∀ j (h : j < ms.length), W.cell? ⟨B, j * 2, none⟩ = some (.pointer ms[j].p) ∧ W.cell? ⟨B, j * 2 + 1, none⟩ = some (.int .i64 ms[j].2)) (hn : ms.length ≤ 4) (hbad : ∃ m ∈ ms, m.1 = none) :
    Calls Try.prog 57 #[.slice (some ⟨B, 0, none⟩) ms.length c] W fun e w' => e = .returned (.int .i64 1) ∧ Below W.heap.size W w' := by
  have HUS := Lib.hid (fun b size W' => isUsable_any b size W')
  have HUN := Lib.hid (fun size W' => isUsable_none size W')
  have HC : Hid (∀ W' j (h : j < ms.length), Below W.heap.size W W' → W'.cell? ⟨B, j * 2, none⟩ = some (.pointer ms[j].p) ∧ W'.cell? ⟨B, j * 2 + 1, none⟩ = some (.int .i64 ms[j].2)) := fun W' j h hb => ⟨(hb.cell (p := ⟨B, j * 2, none⟩) hB).trans (hc j h).1, (hb.cell (p := ⟨B, j * 2 + 1, none⟩) hB).trans (hc j h).2⟩
  have HBAD := Lib.hid hbad
  have HA : Hid (∀ (W' : World) o, Below W'.heap.size W' (W'.alloc o)) := fun W' o => (Below.refl _ _).alloc (Nat.le_refl _) _
  clear hc hbad
  obtain ⟨n, hnn⟩ : ∃ n, n = ms.length := ⟨_, rfl⟩
  have HN := Lib.hid hnn
  rw [← hnn] at hn ⊢
  clear hnn
  go_enter Try.func57, Try.ntmps57
  go_wp2_with fail
  go_loopw [9] (fun i wr => ∃ j : Nat, j ≤ n ∧ i = .int .i64 j ∧ Hid (∀ k (h : k < ms.length), k < j → ms[k].1 ≠ none) ∧ Hid (Below W.heap.size W wr)) (fun i _ => n - (intOf i).toNat)
  case atStart => exact ⟨0, by omega, rfl, fun k _ h => absurd h (by omega), Below.refl _ _⟩
  case round =>
    obtain ⟨j, hj, rfl, HK, HB⟩ := hrel
    by_cases hlt : j < n
    · have hj2 : (j : Int) < n := by omega
      have hjn : j < ms.length := by rw [← HN.out]; exact hlt
      obtain ⟨hc0, hc1⟩ := HC.out wr j hjn HB.out
      rcases hm : ms[j] with ⟨mp, s⟩
      rw [hm] at hc0 hc1
      cases mp with
      | none =>
        have hc0 : wr.cell? ⟨B, j * 2, none⟩ = some (.pointer none) := hc0
        simp only at hc1
        clear hm HK
        go_wp2_with fail
        refine (HUN.out _ _).mono ?_
        rintro e w3 ⟨rfl, hb⟩
        have HB3 := Lib.hid (HB.out.trans ((((HA.out _ _).trans (hb.mono (HA.out _ _).size)).mono HB.out.size)))
        clear hb
        go_wp2_with fail
        go_ret
        exact ⟨rfl, HB3.out⟩
      | some b =>
        have hc0 : wr.cell? ⟨B, j * 2, none⟩ = some (.pointer (some ⟨b, 0, none⟩)) := hc0
        simp only at hc1
        have HK2 : Hid (∀ k (h : k < ms.length), k < j + 1 → ms[k].1 ≠ none) := fun k h hk => by
          by_cases e : k = j
          · subst e; rw [hm]; exact fun h => by cases h
          · exact HK.out k h (by omega)
        clear hm HK
        go_wp2_with fail
        refine (HUS.out _ _ _).mono ?_
        rintro e w3 ⟨rfl, hb⟩
        have HB3 := Lib.hid (HB.out.trans ((((HA.out _ _).trans (hb.mono (HA.out _ _).size)).mono HB.out.size)))
        clear hb
        go_wp2_with fail
        go_roundw
        case rel => exact ⟨j + 1, by omega, by go_num, HK2, HB3⟩
        case measure => simp [intOf]; omega
    · exfalso
      obtain ⟨m, hm, he⟩ := HBAD.out
      obtain ⟨k, hk, rfl⟩ := List.getElem_of_mem hm
      exact HK.out k hk (by have := HN.out; omega) he
/-- the boxes of Diff's two maps, and their list -/
theorem two_maps (W : World) (x y : MV) (Ty Tl : TypeId) : ∃ w0, w0 = ((W.alloc (.cells #[.pointer x.p, .int .i64 x.2] Ty)).alloc (.cells #[.pointer y.p, .int .i64 y.2] Ty)).alloc (.cells #[.pointer x.p, .int .i64 x.2, .pointer y.p, .int .i64 y.2] Tl) ∧ Mb W.heap.size x.p x.2 w0 ∧ Mb (W.heap.size + 1) y.p y.2 w0 ∧ (∀ i v, #[Value.pointer x.p, .int .i64 x.2, .pointer y.p, .int .i64 y.2][i]? = some v → w0.cell? ⟨W.heap.size + 1 + 1, i, none⟩ = some v) ∧ W.heap.size + 1 + 1 < w0.heap.size ∧ Below W.heap.size W w0 := by
  have h1 := Mb.new W x.p x.2 Ty
  have h2 := Mb.new (W.alloc (.cells #[.pointer x.p, .int .i64 x.2] Ty)) y.p y.2 Ty
  rw [show (W.alloc (.cells #[.pointer x.p, .int .i64 x.2] Ty)).heap.size = W.heap.size + 1 by simp] at h2
  refine ⟨_, rfl, (h1.next ((Below.refl _ _).alloc (Nat.le_refl _) _)).next ((Below.refl _ _).alloc (Nat.le_refl _) _), h2.next ((Below.refl _ _).alloc (Nat.le_refl _) _), fun i v hv => (World.cell?_alloc_at _ _ _ _ (by simp)).trans hv, by simp, (((Below.refl _ _).alloc (Nat.le_refl _) _).alloc (by simp) _).alloc (by simp; omega) _⟩
theorem Diff_un (x y : MV) (W : World) (h : x.1 = none ∨ y.1 = none) :
    Calls Try.prog 29 #[x.v, y.v] W fun e w' => e = .returned (.tuple #[.slice none 0 0, .int .i64 1]) ∧ Below W.heap.size W w' := by
  obtain ⟨w0, HW, hm, hr, hc, hlt, hb⟩ := two_maps W x y 27 27
  have HCK : Hid (Calls Try.prog 57 #[.slice (some ⟨W.heap.size + 1 + 1, 0, none⟩) 2 2] w0 fun e w' => e = .returned (.int .i64 1) ∧ Below w0.heap.size w0 w') :=
    checkSizes_bad (W.heap.size + 1 + 1) 2 [x, y] w0 hlt (fun j hj => by
      have : j = 0 ∨ j = 1 := by simp at hj; omega
      rcases this with rfl | rfl
      · exact ⟨hc 0 _ rfl, hc 1 _ rfl⟩
      · exact ⟨hc 2 _ rfl, hc 3 _ rfl⟩) (by simp) (by rcases h with h | h <;> simp [h])
  have HB := Lib.hid hb; have HW' := Lib.hid HW
  clear hm hr hc hlt hb HW h
  unfold MV.v
  obtain ⟨xp, hxp⟩ : ∃ xp, xp = x.p := ⟨_, rfl⟩
  obtain ⟨yp, hyp⟩ : ∃ yp, yp = y.p := ⟨_, rfl⟩
  rw [← hxp, ← hyp] at HW' ⊢
  clear hxp hyp
  go_enter Try.func29, Try.ntmps29
  go_wp2_with fail
  rw [← HW'.out]
  refine HCK.out.mono ?_
  rintro e w1 ⟨rfl, hb⟩
  have HB1 := Lib.hid (HB.out.trans (hb.mono HB.out.size))
  clear hb
  go_wp2_with fail
  refine bodyPost_ret (v := .tuple #[.slice none 0 0, .int .i64 1]) (by simp [results, Try.results29, go_sem]) rfl ?_
  exact ⟨rfl, HB1.out⟩
theorem Runs_un (size lo hi most : Int) (W : World) : Calls Try.prog 20 #[.agg #[.pointer none, .int .i64 size], .int .i64 lo, .int .i64 hi, .int .i64 most] W fun e w' => e = .returned (.tuple #[.slice none 0 0, .int .i64 1]) ∧ Below W.heap.size W w' := by
  have HCK := Lib.hid (fun a n c W' => check_none size lo hi a n c W')
  have HB : Hid (∀ o o2, Below W.heap.size W ((W.alloc o).alloc o2)) := fun o o2 => ((Below.refl _ _).alloc (Nat.le_refl _) _).alloc (by simp) _
  go_enter Try.func20, Try.ntmps20
  go_wp2_with fail
  refine (HCK.out _ _ _ _).mono ?_
  rintro e w1 ⟨rfl, hb⟩
  have HB1 := Lib.hid ((HB.out _ _).trans (hb.mono (HB.out _ _).size))
  clear hb
  go_wp2_with fail
  refine bodyPost_ret (v := .tuple #[.slice none 0 0, .int .i64 1]) (by simp [results, Try.results20, go_sem]) rfl ?_
  exact ⟨rfl, HB1.out⟩
/-- the boxes of Merge's three maps, its result's, and the list of the maps -/
theorem three_maps (W : World) (x y z : MV) (Ty Tl : TypeId) : ∃ w0, w0 = ((((W.alloc (.cells #[.pointer x.p, .int .i64 x.2] Ty)).alloc (.cells #[.pointer y.p, .int .i64 y.2] Ty)).alloc (.cells #[.pointer z.p, .int .i64 z.2] Ty)).alloc (.cells #[.pointer none, .int .i64 0] Ty)).alloc (.cells #[.pointer x.p, .int .i64 x.2, .pointer y.p, .int .i64 y.2, .pointer z.p, .int .i64 z.2] Tl) ∧ Mb W.heap.size x.p x.2 w0 ∧ Mb (W.heap.size + 1) y.p y.2 w0 ∧ Mb (W.heap.size + 1 + 1) z.p z.2 w0 ∧ Mb (W.heap.size + 1 + 1 + 1) none 0 w0 ∧ (∀ i v, #[Value.pointer x.p, .int .i64 x.2, .pointer y.p, .int .i64 y.2, .pointer z.p, .int .i64 z.2][i]? = some v → w0.cell? ⟨W.heap.size + 1 + 1 + 1 + 1, i, none⟩ = some v) ∧ W.heap.size + 1 + 1 + 1 + 1 < w0.heap.size ∧ Below W.heap.size W w0 := by
  obtain ⟨w1, h1⟩ : ∃ w1, w1 = W.alloc (.cells #[.pointer x.p, .int .i64 x.2] Ty) := ⟨_, rfl⟩
  obtain ⟨w2, h2⟩ : ∃ w2, w2 = w1.alloc (.cells #[.pointer y.p, .int .i64 y.2] Ty) := ⟨_, rfl⟩
  obtain ⟨w3, h3⟩ : ∃ w3, w3 = w2.alloc (.cells #[.pointer z.p, .int .i64 z.2] Ty) := ⟨_, rfl⟩
  obtain ⟨w4, h4⟩ : ∃ w4, w4 = w3.alloc (.cells #[.pointer none, .int .i64 0] Ty) := ⟨_, rfl⟩
  have e1 : w1.heap.size = W.heap.size + 1 := by rw [h1]; simp
  have e2 : w2.heap.size = W.heap.size + 1 + 1 := by rw [h2, World.size_alloc, e1]
  have e3 : w3.heap.size = W.heap.size + 1 + 1 + 1 := by rw [h3, World.size_alloc, e2]
  have e4 : w4.heap.size = W.heap.size + 1 + 1 + 1 + 1 := by rw [h4, World.size_alloc, e3]
  have m1 : Mb W.heap.size x.p x.2 w1 := by rw [h1]; exact Mb.new _ _ _ _
  have m2 : Mb (W.heap.size + 1) y.p y.2 w2 := by rw [← e1, h2]; exact Mb.new _ _ _ _
  have m3 : Mb (W.heap.size + 1 + 1) z.p z.2 w3 := by rw [← e2, h3]; exact Mb.new _ _ _ _
  have m4 : Mb (W.heap.size + 1 + 1 + 1) none 0 w4 := by rw [← e3, h4]; exact Mb.new _ _ _ _
  have b1 : Below W.heap.size W w1 := by rw [h1]; exact (Below.refl _ _).alloc (Nat.le_refl _) _
  have b2 : Below w1.heap.size w1 w2 := by rw [h2]; exact (Below.refl _ _).alloc (Nat.le_refl _) _
  have b3 : Below w2.heap.size w2 w3 := by rw [h3]; exact (Below.refl _ _).alloc (Nat.le_refl _) _
  have b4 : Below w3.heap.size w3 w4 := by rw [h4]; exact (Below.refl _ _).alloc (Nat.le_refl _) _
  have b5 : ∀ o, Below w4.heap.size w4 (w4.alloc o) := fun o => (Below.refl _ _).alloc (Nat.le_refl _) _
  rw [← h1, ← h2, ← h3, ← h4]
  exact ⟨_, rfl, (((m1.next b2).next b3).next b4).next (b5 _), ((m2.next b3).next b4).next (b5 _), (m3.next b4).next (b5 _), m4.next (b5 _), fun i v hv => (World.cell?_alloc_at _ _ _ _ e4.symm).trans hv, by simp [e4], b1.trans ((b2.trans ((b3.trans ((b4.trans ((b5 _).mono b4.size)).mono b3.size)).mono b2.size)).mono b1.size)⟩
theorem Merge_un (x y z : MV) (W : World) (h : x.1 = none ∨ y.1 = none ∨ z.1 = none) :
    Calls Try.prog 36 #[x.v, y.v, z.v] W fun e w' => e = .returned (.tuple #[.agg #[.pointer none, .int .i64 0], .slice none 0 0, .int .i64 1]) ∧ Below W.heap.size W w' := by
  obtain ⟨w0, HW, -, -, -, hr, hc, hlt, hb⟩ := three_maps W x y z 27 27
  have HCK : Hid (Calls Try.prog 57 #[.slice (some ⟨W.heap.size + 1 + 1 + 1 + 1, 0, none⟩) 3 3] w0 fun e w' => e = .returned (.int .i64 1) ∧ Below w0.heap.size w0 w') :=
    checkSizes_bad (W.heap.size + 1 + 1 + 1 + 1) 3 [x, y, z] w0 hlt (fun j hj => by
      have : j = 0 ∨ j = 1 ∨ j = 2 := by simp at hj; omega
      rcases this with rfl | rfl | rfl
      · exact ⟨hc 0 _ rfl, hc 1 _ rfl⟩
      · exact ⟨hc 2 _ rfl, hc 3 _ rfl⟩
      · exact ⟨hc 4 _ rfl, hc 5 _ rfl⟩) (by simp) (by rcases h with h | h | h <;> simp [h])
  have HR := Lib.hid hr; have HB := Lib.hid hb; have HW' := Lib.hid HW
  clear hr hc hlt hb HW h
  unfold MV.v
  obtain ⟨xp, hxp⟩ : ∃ xp, xp = x.p := ⟨_, rfl⟩
  obtain ⟨yp, hyp⟩ : ∃ yp, yp = y.p := ⟨_, rfl⟩
  obtain ⟨zp, hzp⟩ : ∃ zp, zp = z.p := ⟨_, rfl⟩
  rw [← hxp, ← hyp, ← hzp] at HW' ⊢
  clear hxp hyp hzp
  go_enter Try.func36, Try.ntmps36
  go_wp2_with fail
  rw [← HW'.out]
  refine HCK.out.mono ?_
  rintro e w1 ⟨rfl, hb⟩
  have HR1 := Lib.hid (HR.out.next hb)
  have HB1 := Lib.hid (HB.out.trans (hb.mono HB.out.size))
  have d0 := HR1.out.c0; have d1 := HR1.out.c1; have d2 := HR1.out.f0; have d3 := HR1.out.f1
  obtain ⟨u0, u1⟩ : _ ∧ _ := ⟨(HR1.out.put none 0).c0, (HR1.out.put none 0).c1⟩
  clear hb
  go_wp2_with fail
  refine bodyPost_ret (v := .tuple #[.agg #[.pointer none, .int .i64 0], .slice none 0 0, .int .i64 1]) (by simp [results, Try.results36, go_sem, u0, u1]) rfl ?_
  have HBF := below_put HB1.out (B := W.heap.size + 1 + 1 + 1) (by omega) (.pointer none) (.int .i64 0)
  exact ⟨rfl, by first | exact HB1.out | exact HBF⟩
end Go.Proofs.Ytahgfggcpmnnaaa
