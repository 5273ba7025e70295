/- The document's Get, and Runs. -/
import Derived.Test.YtjbenhmpeceaeaaQb
import Derived.Test.YtjbenhmpeceaeaaQc
namespace Go.Proofs.Ytjbenhmpeceaeaa
open Go Go.RowKit Gs

/-- a run of a list at a slice -/
theorem IsRs.at' {base : Nat} {W : World} {a : Option Addr} {n c : Nat} {L : List R} (h : IsRs base W (.slice a n c) L) {j : Nat} (hj : j < L.length) :
    ∃ G, a = some ⟨G, 0, none⟩ ∧ W.cell? ⟨G, j * 3, none⟩ = some (.int .i64 L[j].lo) ∧ W.cell? ⟨G, j * 3 + 1, none⟩ = some (.int .i64 L[j].hi) ∧ W.cell? ⟨G, j * 3 + 2, none⟩ = some (.int .i64 L[j].tag) := by
  obtain ⟨a', c', hv, hcs⟩ := h
  injection hv with hv1 hv2 hv3
  subst hv1
  obtain ⟨G, e1, -, hcs2⟩ := hcs (by omega)
  exact ⟨G, e1, hcs2 j hj⟩
theorem fits_at {f : Int → Int} : ∀ {l : List R} {a b : Int}, Fits f a l b → ∀ j (h : j < l.length), a ≤ l[j].lo ∧ l[j].lo < l[j].hi ∧ l[j].hi ≤ b ∧ ∀ p, l[j].lo ≤ p → p < l[j].hi → f p = l[j].tag
  | r :: l, a, b, h, 0, _ => by
    have hle := h.2.2.2.le
    exact ⟨by have := h.1; show a ≤ r.lo; omega, h.2.1, hle, h.2.2.1⟩
  | r :: l, a, b, h, j + 1, hj => by
    have := fits_at h.2.2.2 j (by simpa using hj)
    have h1 := h.1; have h2 := h.2.1
    exact ⟨by show a ≤ (l[j]'(by simpa using hj)).lo; omega, this.2⟩
theorem fits_idx {f : Int → Int} {x : Int} : ∀ {l : List R} {a b : Int}, Fits f a l b → a ≤ x → x < b → ∃ j, ∃ h : j < l.length, l[j].lo ≤ x ∧ x < l[j].hi
  | [], a, b, h, h1, h2 => by
    have h : a = b := h
    omega
  | r :: l, a, b, h, h1, h2 => by
    by_cases hx : x < r.hi
    · exact ⟨0, by simp, by have := h.1; show r.lo ≤ x; omega, hx⟩
    · obtain ⟨j, hj, h3⟩ := fits_idx h.2.2.2 (by omega) h2
      exact ⟨j + 1, by simpa using hj, h3⟩
def getE (size x : Int) : Int := if 0 ≤ x ∧ x < size then 0 else 3
def getT (f : Int → Int) (size x : Int) : Int := if 0 ≤ x ∧ x < size then f x else 0
set_option maxHeartbeats 1000000 in
/-- the document's Get, of a usable map -/
theorem RGet_any {f : Int → Int} {size x : Int} {base : Nat} {v : Value} {L : List R} {W : World} (hrs : IsRs base W v L) (hL : Gs.Can f 0 L size) (h1 : 1 ≤ size) (hlen : L.length ≤ 4096) :
    Calls Try.prog 19 #[.agg #[.int .i64 size, v], .int .i64 x] W fun e w' => e = .returned (.tuple #[.int .i64 (getT f size x), .int .i64 (getE size x)]) ∧ Below W.heap.size W w' := by
  have hne : 0 < L.length := by
    rcases fits_cut hL.1 with ⟨_, e⟩ | ⟨r, k, rfl⟩
    · omega
    · simp
  have HRS := Lib.hid hrs
  obtain ⟨a, c, rfl, -⟩ := hrs
  obtain ⟨n, hn⟩ : ∃ n, n = L.length := ⟨_, rfl⟩
  rw [← hn] at HRS hne ⊢
  have hnb : n ≤ 4096 := by omega
  have HN := Lib.hid hn
  obtain ⟨w0, HW⟩ : ∃ w0, w0 = W.alloc (.cells #[.int .i64 size, .slice a n c] 33) := ⟨_, rfl⟩
  have hm : M2 W.heap.size (.int .i64 size) (.slice a n c) w0 := by rw [HW]; exact M2.new _ _ _ _
  have hb : Below W.heap.size W w0 := by rw [HW]; exact (Below.refl _ _).alloc (Nat.le_refl _) _
  have HUS : Hid (∀ W', Calls Try.prog 42 #[.agg #[.int .i64 size, .slice a n c]] W' fun e w' => e = .returned (.bool true) ∧ Below W'.heap.size W' w') := fun W' => by
    have := RUsable_any size a n c W'
    rwa [decide_eq_true hne] at this
  have HM := Lib.hid hm; have HB := Lib.hid hb; have HW' := Lib.hid HW; have HL := Lib.hid hL
  have k0 := HM.out.c0; have k1 := HM.out.c1
  clear hm hb HW hL hn hlen
  go_enter Try.func19, Try.ntmps19
  go_upto_region 1 with fail
  rw [← HW'.out]
  go_wp2_with fail
  refine (HUS.out _).mono ?_
  rintro e w1 ⟨rfl, hb⟩
  have HM1 := Lib.hid (HM.out.next hb)
  have HB1 := Lib.hid (HB.out.trans (hb.mono HB.out.size))
  clear hb k0 k1
  go_wp2_with fail
  go_loopw [6] (fun iv wr => ∃ j : Nat, j ≤ n ∧ iv = .int .i64 j ∧ Hid (∀ k (h : k < L.length), k < j → ¬ (L[k].lo ≤ x ∧ x < L[k].hi)) ∧ Hid (M2 W.heap.size (.int .i64 size) (.slice a n c) wr) ∧ Hid (Below W.heap.size W wr)) (fun i _ => n - (intOf i).toNat)
  case atStart => exact ⟨0, by omega, rfl, fun k _ h => absurd h (by omega), HM1.out, HB1.out⟩
  case round =>
    obtain ⟨j, hj, rfl, HK, HMr, HBr⟩ := hrel
    have k0 := HMr.out.c0; have k1 := HMr.out.c1
    by_cases hlt : j < n
    · have hj2 : (j : Int) < n := by omega
      have hjl : j < L.length := by rw [← HN.out]; exact hlt
      obtain ⟨G, rfl, c0, c1, c2⟩ := (HRS.out.below HBr.out).at' hjl
      have hat := fits_at HL.out.1 j hjl
      have HAT := Lib.hid hat
      have HK2 : ¬ (L[j].lo ≤ x ∧ x < L[j].hi) → Hid (∀ k (h : k < L.length), k < j + 1 → ¬ (L[k].lo ≤ x ∧ x < L[k].hi)) := fun h k hk hkj => by
        by_cases e : k = j
        · subst e; exact h
        · exact HK.out k hk (by omega)
      have HK3 := Lib.hid HK2
      clear HK2 hat
      generalize L[j] = r at *
      obtain ⟨ra, rb, rc⟩ := r
      simp only at c0 c1 c2
      by_cases h1 : ra ≤ x
      · by_cases h2 : x < rb
        · have HF : Hid (getT f size x = rc ∧ getE size x = 0) := by
            obtain ⟨q1, q2, q3, q4⟩ := HAT.out
            simp only at q1 q2 q3 q4
            have hin : 0 ≤ x ∧ x < size := by omega
            exact ⟨by unfold getT; rw [if_pos hin]; exact q4 x h1 h2, by unfold getE; rw [if_pos hin]⟩
          go_wp2_with fail
          refine bodyPost_ret (v := .tuple #[.int .i64 rc, .int .i64 0]) (by simp [results, Try.results19, go_sem]) rfl ?_
          exact ⟨by rw [HF.out.1, HF.out.2], HBr.out⟩
        · have HK4 := HK3.out (fun h => h2 h.2)
          go_wp2_with fail
          go_roundw
          case rel => exact ⟨j + 1, by omega, by go_num, HK4, HMr, HBr⟩
          case measure => simp [intOf]; omega
      · have HK4 := HK3.out (fun h => h1 h.1)
        go_wp2_with fail
        go_roundw
        case rel => exact ⟨j + 1, by omega, by go_num, HK4, HMr, HBr⟩
        case measure => simp [intOf]; omega
    · have hj2 : ¬ (j : Int) < n := by omega
      have HF : Hid (getT f size x = 0 ∧ getE size x = 3) := by
        have hin : ¬ (0 ≤ x ∧ x < size) := fun h => by
          obtain ⟨k, hk, h3⟩ := fits_idx HL.out.1 h.1 h.2
          exact HK.out k hk (by have := HN.out; omega) h3
        exact ⟨by unfold getT; rw [if_neg hin], by unfold getE; rw [if_neg hin]⟩
      go_wp2_with fail
      refine bodyPost_ret (v := .tuple #[.int .i64 0, .int .i64 3]) (by simp [results, Try.results19, go_sem]) rfl ?_
      exact ⟨by rw [HF.out.1, HF.out.2], HBr.out⟩
/-- of an unusable map -/
theorem RGet_un (x : Int) (W : World) : Calls Try.prog 19 #[.agg #[.int .i64 0, .slice none 0 0], .int .i64 x] W fun e w' => e = .returned (.tuple #[.int .i64 0, .int .i64 1]) ∧ Below W.heap.size W w' := by
  obtain ⟨w0, HW⟩ : ∃ w0, w0 = W.alloc (.cells #[.int .i64 0, .slice none 0 0] 33) := ⟨_, rfl⟩
  have hb : Below W.heap.size W w0 := by rw [HW]; exact (Below.refl _ _).alloc (Nat.le_refl _) _
  have hm : M2 W.heap.size (.int .i64 0) (.slice none 0 0) w0 := by rw [HW]; exact M2.new _ _ _ _
  have HUS : Hid (∀ W', Calls Try.prog 42 #[.agg #[.int .i64 0, .slice none 0 0]] W' fun e w' => e = .returned (.bool false) ∧ Below W'.heap.size W' w') := fun W' => RUsable_any 0 none 0 0 W'
  have HB := Lib.hid hb; have HW' := Lib.hid HW
  have k0 := hm.c0; have k1 := hm.c1
  clear hm hb HW
  go_enter Try.func19, Try.ntmps19
  go_upto_region 1 with fail
  rw [← HW'.out]
  go_wp2_with fail
  refine (HUS.out _).mono ?_
  rintro e w1 ⟨rfl, hb⟩
  have HB1 := Lib.hid (HB.out.trans (hb.mono HB.out.size))
  clear hb k0 k1
  go_wp2_with fail
  refine bodyPost_ret (v := .tuple #[.int .i64 0, .int .i64 1]) (by simp [results, Try.results19, go_sem]) rfl ?_
  exact ⟨rfl, HB1.out⟩
end Go.Proofs.Ytjbenhmpeceaeaa
