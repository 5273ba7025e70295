/- The contract of newNode. -/
import Derived.Test.YtahgfggcpmnnaaaYe
import Derived.RegionTactic
import Derived.ChangeAlike
namespace Go.Proofs.Ytahgfggcpmnnaaa
open Go Go.RowKit Gs

section
variable {W : World} {G : Nat} {x y : Value} {r : R} {h n : Nat} {c : Nat → Int}
theorem node_new (W : World) (x y : Value) (r : R) : (W.alloc (.cells #[x, .int .i64 r.lo, .int .i64 r.hi, .int .i64 r.tag, y, .int .i64 1, .int .i64 1, .int .i64 0, .int .i64 0, .int .i64 0, .int .i64 0, .int .i64 0, .int .i64 0, .int .i64 0, .int .i64 0, .int .i64 0, .int .i64 0, .int .i64 0, .int .i64 0, .int .i64 0, .int .i64 0, .int .i64 0, .int .i64 0] 120)).rowIs W.heap.size 120 23 (nodeF x r y 1 1 fun _ => 0) := by
  refine World.rowIs_alloc W _ _ _ fun i hi => ?_
  have hi' : i < 23 := hi
  match i, hi' with
  | 0, _ | 1, _ | 2, _ | 3, _ | 4, _ | 5, _ | 6, _ | 7, _ | 8, _ | 9, _ | 10, _ | 11, _ | 12, _ | 13, _ | 14, _ | 15, _ | 16, _ | 17, _ | 18, _ | 19, _ | 20, _ | 21, _ | 22, _ => rfl
  | k + 23, hk => omega
theorem node_piece (hr : W.rowIs G 120 23 (nodeF x r y h n c)) (i : Nat) (v : Int) : (W.setCell ⟨G, 7 + i, none⟩ (.int .i64 v)).rowIs G 120 23 (nodeF x r y h n fun q => if q = i then v else c q) := by
  refine (hr.set (7 + i) (.int .i64 v)).congr fun j _ => ?_
  match j with
  | 0 | 1 | 2 | 3 | 4 | 5 | 6 => rw [if_neg (by omega)]; rfl
  | k + 7 =>
    by_cases e : k = i
    · subst e; simp [nodeF, Nat.add_comm]
    · rw [if_neg (by omega)]; simp [nodeF, e]
theorem node_tall (hr : W.rowIs G 120 23 (nodeF x r y h n c)) (m : Nat) : (W.setCell ⟨G, 5, none⟩ (.int .i64 m)).rowIs G 120 23 (nodeF x r y m n c) := by
  refine (hr.set 5 (.int .i64 m)).congr fun j _ => ?_
  match j with
  | 0 | 1 | 2 | 3 | 4 | 5 | 6 => rfl
  | k + 7 => rw [if_neg (by omega)]; rfl
theorem node_runs (hr : W.rowIs G 120 23 (nodeF x r y h n c)) (m : Nat) : (W.setCell ⟨G, 6, none⟩ (.int .i64 m)).rowIs G 120 23 (nodeF x r y h m c) := by
  refine (hr.set 6 (.int .i64 m)).congr fun j _ => ?_
  match j with
  | 0 | 1 | 2 | 3 | 4 | 5 | 6 => rfl
  | k + 7 => rw [if_neg (by omega)]; rfl
end
/-- what has been summed up when j of the two parts have been gone through -/
def hJ (l k : T) : Nat → Nat
  | 0 => 1
  | 1 => max 1 (1 + l.tall)
  | _ => max (max 1 (1 + l.tall)) (1 + k.tall)
def nJ (l k : T) : Nat → Nat
  | 0 => 1
  | 1 => 1 + l.sz
  | _ => 1 + l.sz + k.sz
def cJ (l : T) (r : R) (k : T) : Nat → Nat → Int
  | 0, i => if r.tag = i then r.hi - r.lo else 0
  | 1, i => (if r.tag = i then r.hi - r.lo else 0) + cnt i l.L
  | _, i => (if r.tag = i then r.hi - r.lo else 0) + cnt i l.L + cnt i k.L
theorem hJ_pos (l k : T) (j : Nat) : 1 ≤ hJ l k j := by
  match j with
  | 0 | 1 | j + 2 => simp only [hJ]; omega
theorem cJ_bd {l k : T} {r : R} (hb : Bd (l.L ++ r :: k.L)) (j i : Nat) : 0 ≤ cJ l r k j i ∧ cJ l r k j i ≤ 329853488332800000 := by
  have h1 := hb.left.cnt i
  have h2 := hb.right.tail.cnt i
  have h3 := hb.right.head
  unfold Bd1 at h3
  match j with
  | 0 | 1 | j + 2 => simp only [cJ]; split <;> omega
theorem hJ_all (l k : T) (r : R) : hJ l k 2 = (T.node l r k).tall := by simp only [hJ, T.tall]; omega
theorem nJ_all (l k : T) (r : R) : nJ l k 2 = (T.node l r k).sz := rfl
theorem cJ_all (l k : T) (r : R) (i : Nat) : cJ l r k 2 i = cnt i (T.node l r k).L := by simp only [cJ, T.L, cnt_append, cnt]; omega
/-- the j-th part, and what it adds -/
theorem part_of {W : World} {l k : T} {r : R} {x y : Value} {j : Nat} (hj : j < 2) (hl : IsT W l x) (hk : IsT W k y) (hb : Bd (l.L ++ r :: k.L)) :
    ∃ t z, IsT W t z ∧ Bd t.L ∧ (∀ w : World, (Instr.index 128 (.agg #[x, y]) (.int .i64 j)).run Try.prog w = .ok z w) ∧ hJ l k (j + 1) = max (hJ l k j) (1 + t.tall) ∧ nJ l k (j + 1) = nJ l k j + t.sz ∧ (∀ i, cJ l r k (j + 1) i = cJ l r k j i + cnt i t.L) ∧ t.tall ≤ 100000 ∧ t.sz ≤ 100000 ∧ hJ l k j ≤ 100001 ∧ nJ l k j ≤ 100001 := by
  have h1 := hb.1
  have h2 := l.sz_eq; have h3 := k.sz_eq; have h4 := l.tall_le; have h5 := k.tall_le
  simp at h1
  have h01 : j = 0 ∨ j = 1 := by omega
  rcases h01 with rfl | rfl
  · exact ⟨l, x, hl, hb.left, fun _ => by kernel_rfl, rfl, rfl, fun _ => rfl, by omega, by omega, by simp only [hJ]; omega, by simp only [nJ]; omega⟩
  · exact ⟨k, y, hk, hb.right.tail, fun _ => by kernel_rfl, rfl, rfl, fun _ => rfl, by omega, by omega, by simp only [hJ]; omega, by simp only [nJ]; omega⟩
set_option maxHeartbeats 1000000 in
theorem newNode_any (l k : T) (lo hi tag : Int) (x y : Value) (W : World) (hl : IsT W l x) (hk : IsT W k y) (hb : Bd (l.L ++ ⟨lo, hi, tag⟩ :: k.L)) :
    Calls Try.prog 74 #[x, .agg #[.int .i64 lo, .int .i64 hi, .int .i64 tag], y] W fun e w' => ∃ b, e = .returned (.pointer (some ⟨b, 0, none⟩)) ∧ IsT w' (.node l ⟨lo, hi, tag⟩ k) (.pointer (some ⟨b, 0, none⟩)) ∧ Below W.heap.size W w' := by
  obtain ⟨b0, b1, b2, b3, b4⟩ := hb.right.head
  simp only at b0 b1 b2 b3 b4
  obtain ⟨g, rfl⟩ : ∃ g : Nat, tag = g := ⟨tag.toNat, by omega⟩
  have HBD := Lib.hid hb
  have HL := Lib.hid hl
  have HK := Lib.hid hk
  obtain ⟨px, rfl⟩ := hl.ptr
  obtain ⟨py, rfl⟩ := hk.ptr
  have hg : g < 16 := by omega
  have HG : Hid (∀ B, (((W.alloc (.cells #[.int .i64 lo, .int .i64 hi, .int .i64 g] B)).alloc (.cells #[.pointer px, .int .i64 lo, .int .i64 hi, .int .i64 g, .pointer py, .int .i64 1, .int .i64 1, .int .i64 0, .int .i64 0, .int .i64 0, .int .i64 0, .int .i64 0, .int .i64 0, .int .i64 0, .int .i64 0, .int .i64 0, .int .i64 0, .int .i64 0, .int .i64 0, .int .i64 0, .int .i64 0, .int .i64 0, .int .i64 0] 120))).rowIs (W.heap.size + 1) 120 23 (nodeF (.pointer px) ⟨lo, hi, g⟩ (.pointer py) 1 1 fun _ => 0)) := fun B => by
    have := node_new (W.alloc (.cells #[.int .i64 lo, .int .i64 hi, .int .i64 g] B)) (.pointer px) (.pointer py) ⟨lo, hi, g⟩
    rwa [World.size_alloc] at this
  clear hl hk hb b3 b4
  go_enter Try.func74, Try.ntmps74
  go_wp2_with fail
  obtain ⟨w2, HW2⟩ : ∃ w2, w2 = ((W.alloc (.cells #[.int .i64 lo, .int .i64 hi, .int .i64 g] 64)).alloc (.cells #[.pointer px, .int .i64 lo, .int .i64 hi, .int .i64 g, .pointer py, .int .i64 1, .int .i64 1, .int .i64 0, .int .i64 0, .int .i64 0, .int .i64 0, .int .i64 0, .int .i64 0, .int .i64 0, .int .i64 0, .int .i64 0, .int .i64 0, .int .i64 0, .int .i64 0, .int .i64 0, .int .i64 0, .int .i64 0, .int .i64 0] 120)) := ⟨_, rfl⟩
  have HB2 : Hid (Below W.heap.size W w2) := by
    rw [HW2]; exact ((Below.refl _ _).alloc (Nat.le_refl _) _).alloc (by simp) _
  have HR2 : Hid (w2.rowIs (W.heap.size + 1) 120 23 (nodeF (.pointer px) ⟨lo, hi, g⟩ (.pointer py) 1 1 fun _ => 0)) := by
    rw [HW2]; exact HG.out _
  have d0 : w2.cell? ⟨W.heap.size, 0, none⟩ = some (.int .i64 lo) := by
    rw [HW2]; exact (World.cell?_alloc_past _ _ _ (by simp)).trans (World.cell?_alloc_at _ _ _ _ (by simp))
  have d1 : w2.cell? ⟨W.heap.size, 1, none⟩ = some (.int .i64 hi) := by
    rw [HW2]; exact (World.cell?_alloc_past _ _ _ (by simp)).trans (World.cell?_alloc_at _ _ _ _ (by simp))
  have d2 : w2.cell? ⟨W.heap.size, 2, none⟩ = some (.int .i64 g) := by
    rw [HW2]; exact (World.cell?_alloc_past _ _ _ (by simp)).trans (World.cell?_alloc_at _ _ _ _ (by simp))
  rw [← HW2]
  clear HW2 HG
  have d3 : w2.cell? ⟨W.heap.size + 1, 7 + g, none⟩ = some (.int .i64 0) := by
    have := HR2.out.cell (i := 7 + g) (by omega)
    rw [Nat.add_comm 7 g] at this ⊢
    exact this
  have d4 := HR2.out.frozen (7 + g)
  have d5 : (g : Int) < 16 := by omega
  go_region
  have HS0 : Hid ((w2.drew.setCell ⟨W.heap.size + 1, 7 + g, none⟩ (.int .i64 (hi - lo))).rowIs (W.heap.size + 1) 120 23 (nodeF (.pointer px) ⟨lo, hi, g⟩ (.pointer py) (hJ l k 0) (nJ l k 0) (cJ l ⟨lo, hi, g⟩ k 0))) := by
    refine (node_piece (W := w2.drew) (HR2.out.drew) g (hi - lo)).congr fun j _ => ?_
    match j with
    | 0 | 1 | 2 | 3 | 4 | 5 | 6 => rfl
    | q + 7 =>
      simp only [nodeF, cJ]
      by_cases e : q = g
      · subst e; simp
      · rw [if_neg e, if_neg (by omega)]
  have HB0 : Hid (Below W.heap.size W (w2.drew.setCell ⟨W.heap.size + 1, 7 + g, none⟩ (.int .i64 (hi - lo)))) := HB2.out.drew.setCell (by show W.heap.size ≤ W.heap.size + 1; omega) _
  clear d0 d1 d2 d3 d4 HR2 HB2
  go_wp2_with fail
  go_loopw [30] (fun i wr => ∃ j : Nat, j ≤ 2 ∧ i = .int .i64 j ∧ Hid (wr.rowIs (W.heap.size + 1) 120 23 (nodeF (.pointer px) ⟨lo, hi, g⟩ (.pointer py) (hJ l k j) (nJ l k j) (cJ l ⟨lo, hi, g⟩ k j))) ∧ Hid (Below W.heap.size W wr)) (fun i _ => 2 - (intOf i).toNat)
  case atStart => exact ⟨0, by omega, rfl, HS0, HB0⟩
  case round =>
    obtain ⟨j, hj, rfl, HS, HB⟩ := hrel
    clear HS0 HB0
    by_cases hlt : j < 2
    · obtain ⟨t, z, ht, htb, hix, e1, e2, e3, b5, b6, b7, b8⟩ := part_of hlt HL.out HK.out HBD.out
      have ht_bd : Hid (∀ i : Nat, 0 ≤ cnt i t.L ∧ cnt i t.L ≤ 109951162777600000) := fun i => htb.cnt i
      clear htb
      have HE := Lib.hid e1; have HE2 := Lib.hid e2; have HE3 := Lib.hid e3
      clear e1 e2 e3
      have hj2 : (j : Int) < 2 := by omega
      have h1j := hJ_pos l k j
      cases t with
      | nil =>
        obtain rfl := ht
        have HF : Hid (wr.rowIs (W.heap.size + 1) 120 23 (nodeF (.pointer px) ⟨lo, hi, g⟩ (.pointer py) (hJ l k (j + 1)) (nJ l k (j + 1)) (cJ l ⟨lo, hi, g⟩ k (j + 1)))) := by
          refine HS.out.congr fun q _ => ?_
          rw [HE.out, HE2.out]
          match q with
          | 0 | 1 | 2 | 3 | 4 | 6 => rfl
          | 5 => simp only [nodeF, T.tall]; rw [Nat.max_eq_left (by omega)]
          | q + 7 => simp only [nodeF, HE3.out, T.L, cnt, Int.add_zero]
        clear HS
        go_wp2_with fail
        go_roundw
        case rel => exact ⟨j + 1, by omega, by go_num, HF, HB⟩
        case measure => simp [intOf]; omega
      | node tl tr tk =>
        obtain ⟨b, x', y', rfl, hr, -, -⟩ := ht
        have hbl := hr.lt
        have HR := Lib.hid hr
        have HN : Hid (∀ w', Below W.heap.size W w' → w'.rowIs b 120 23 (nodeF x' tr y' (T.node tl tr tk).tall (T.node tl tr tk).sz fun i => cnt i (T.node tl tr tk).L)) := fun w' h => HR.out.of_block (h.block b hbl)
        have c1 := HS.out.cell (i := 5) (by decide)
        have c2 := HS.out.frozen 5
        have c3 := (HN.out wr HB.out).cell (i := 5) (by decide)
        simp only [nodeF] at c1 c3
        clear hr HR
        have HTB : Hid (∀ i : Nat, 0 ≤ cnt i (T.node tl tr tk).L ∧ cnt i (T.node tl tr tk).L ≤ 109951162777600000) := fun i => ht_bd.out i
        generalize (T.node tl tr tk).tall = th at *
        generalize (T.node tl tr tk).sz = tz at *
        generalize (T.node tl tr tk).L = tL at *
        generalize HHJ : hJ l k j = hj' at *
        generalize HNJ : nJ l k j = nj' at *
        have HHJ' := Lib.hid HHJ; have HNJ' := Lib.hid HNJ
        clear HHJ HNJ
        go_wp2_with fail
        go_region
        have HMX : Hid ((if (hj' : Int) < 1 + th then 1 + th else hj' : Int) = ((max hj' (1 + th) : Nat) : Int)) := by
          show _ = _
          split <;> omega
        generalize (if (hj' : Int) < 1 + th then 1 + th else hj' : Int) = mx at *
        obtain ⟨w3, HW3⟩ : ∃ w3, w3 = (wr.setCell ⟨W.heap.size + 1, 5, none⟩ (.int .i64 mx)).drew := ⟨_, rfl⟩
        rw [← HW3]
        have HB3 : Hid (Below W.heap.size W w3) := by
          rw [HW3]; exact (HB.out.setCell (by show W.heap.size ≤ W.heap.size + 1; omega) _).drew
        have HS3 : Hid (w3.rowIs (W.heap.size + 1) 120 23 (nodeF (.pointer px) ⟨lo, hi, g⟩ (.pointer py) (hJ l k (j + 1)) nj' (cJ l ⟨lo, hi, g⟩ k j))) := by
          rw [HW3, HE.out, HMX.out]
          exact (node_tall HS.out _).drew
        clear HW3 c1 c2 c3 HS HB HE HHJ' HMX
        have c1 := HS3.out.cell (i := 6) (by decide)
        have c2 := HS3.out.frozen 6
        have c3 := (HN.out w3 HB3.out).cell (i := 6) (by decide)
        simp only [nodeF] at c1 c3
        go_wp2_with fail
        go_region
        obtain ⟨w4, HW4⟩ : ∃ w4, w4 = (w3.setCell ⟨W.heap.size + 1, 6, none⟩ (.int .i64 ((nj' : Int) + tz))).drew := ⟨_, rfl⟩
        rw [← HW4]
        have HB4 : Hid (Below W.heap.size W w4) := by
          rw [HW4]; exact (HB3.out.setCell (by show W.heap.size ≤ W.heap.size + 1; omega) _).drew
        have HS4 : Hid (w4.rowIs (W.heap.size + 1) 120 23 (nodeF (.pointer px) ⟨lo, hi, g⟩ (.pointer py) (hJ l k (j + 1)) (nJ l k (j + 1)) fun q => if q < 0 then cJ l ⟨lo, hi, g⟩ k (j + 1) q else cJ l ⟨lo, hi, g⟩ k j q)) := by
          rw [HW4, HE2.out, show ((nj' : Int) + tz) = ((nj' + tz : Nat) : Int) from by omega]
          exact ((node_runs HS3.out _).drew).congr fun q _ => by
            match q with
            | 0 | 1 | 2 | 3 | 4 | 5 | 6 => rfl
            | q + 7 => simp [nodeF]
        clear HW4 c1 c2 c3 HS3 HB3 HE2 HNJ'
        have HCB : Hid (∀ i : Nat, 0 ≤ cJ l ⟨lo, hi, g⟩ k j i ∧ cJ l ⟨lo, hi, g⟩ k j i ≤ 329853488332800000) := fun i => cJ_bd HBD.out j i
        go_wp2_with fail
        obtain ⟨wo, rfl⟩ : ∃ wo : World, wo = wr := ⟨_, rfl⟩
        go_loopw [59] (fun s wr => ∃ i : Nat, i ≤ 16 ∧ s = .int .i64 i ∧ Hid (wr.rowIs (W.heap.size + 1) 120 23 (nodeF (.pointer px) ⟨lo, hi, g⟩ (.pointer py) (hJ l k (j + 1)) (nJ l k (j + 1)) fun q => if q < i then cJ l ⟨lo, hi, g⟩ k (j + 1) q else cJ l ⟨lo, hi, g⟩ k j q)) ∧ Hid (Below W.heap.size W wr)) (fun s _ => 16 - (intOf s).toNat)
        case atStart => exact ⟨0, by omega, rfl, HS4, HB4⟩
        case round =>
          obtain ⟨i, hi16, rfl, HS, HB⟩ := hrel
          clear HS4 HB4
          by_cases hlt2 : i < 16
          · have hi2 : (i : Int) < 16 := by omega
            have c1 := HS.out.cell (i := i + 7) (by omega)
            have c2 := HS.out.frozen (7 + i)
            have c3 := (HN.out wr HB.out).cell (i := i + 7) (by omega)
            simp only [nodeF] at c1 c3
            rw [if_neg (Nat.lt_irrefl i)] at c1
            rw [Nat.add_comm i 7] at c1 c3
            have b1 := HCB.out i
            have b2 := HTB.out i
            have HQ := Lib.hid (HE3.out i)
            generalize HC1 : cJ l ⟨lo, hi, g⟩ k j i = v1 at *
            generalize cnt (i : Int) tL = v2 at *
            have HC1' := Lib.hid HC1
            clear HC1
            obtain ⟨b1, b1'⟩ := b1
            obtain ⟨b2, b2'⟩ := b2
            go_wp2_with fail
            go_region
            have HF : Hid ((wr.setCell ⟨W.heap.size + 1, 7 + i, none⟩ (.int .i64 (v1 + v2))).drew.rowIs (W.heap.size + 1) 120 23 (nodeF (.pointer px) ⟨lo, hi, g⟩ (.pointer py) (hJ l k (j + 1)) (nJ l k (j + 1)) fun q => if q < i + 1 then cJ l ⟨lo, hi, g⟩ k (j + 1) q else cJ l ⟨lo, hi, g⟩ k j q)) := by
              refine ((node_piece HS.out i (v1 + v2)).drew).congr fun q _ => ?_
              match q with
              | 0 | 1 | 2 | 3 | 4 | 5 | 6 => rfl
              | q + 7 =>
                simp only [nodeF]
                rcases Nat.lt_trichotomy q i with h | h | h
                · rw [if_neg (by omega), if_pos h, if_pos (by omega)]
                · subst h; rw [if_pos rfl, if_pos (by omega), HQ.out]
                · rw [if_neg (by omega), if_neg (by omega), if_neg (by omega)]
            have HBF : Hid (Below W.heap.size W (wr.setCell ⟨W.heap.size + 1, 7 + i, none⟩ (.int .i64 (v1 + v2))).drew) := (HB.out.setCell (by show W.heap.size ≤ W.heap.size + 1; omega) _).drew
            clear c1 c2 c3 HS HB
            go_wp2_with fail
            go_roundw
            case rel => exact ⟨i + 1, by omega, by go_num, HF, HBF⟩
            case measure => simp [intOf]; omega
          · obtain rfl : i = 16 := by omega
            have HF : Hid (wr.rowIs (W.heap.size + 1) 120 23 (nodeF (.pointer px) ⟨lo, hi, g⟩ (.pointer py) (hJ l k (j + 1)) (nJ l k (j + 1)) (cJ l ⟨lo, hi, g⟩ k (j + 1)))) := by
              refine HS.out.congr fun q hq => ?_
              match q, hq with
              | 0, _ | 1, _ | 2, _ | 3, _ | 4, _ | 5, _ | 6, _ => rfl
              | q + 7, hq => simp only [nodeF]; rw [if_pos (by omega)]
            clear HS
            go_wp2_with fail
            go_roundw
            case rel => exact ⟨j + 1, by omega, by go_num, HF, HB⟩
            case measure => simp [intOf]; omega
    · obtain rfl : j = 2 := by omega
      go_wp2_with fail
      go_ret
      refine ⟨W.heap.size + 1, rfl, ⟨W.heap.size + 1, _, _, rfl, ?_, HL.out.below HB.out, HK.out.below HB.out⟩, HB.out⟩
      refine HS.out.congr fun q _ => ?_
      rw [hJ_all _ _ ⟨lo, hi, g⟩, nJ_all _ _ ⟨lo, hi, g⟩]
      match q with
      | 0 | 1 | 2 | 3 | 4 | 5 | 6 => rfl
      | q + 7 => simp only [nodeF, cJ_all]
end Go.Proofs.Ytahgfggcpmnnaaa
