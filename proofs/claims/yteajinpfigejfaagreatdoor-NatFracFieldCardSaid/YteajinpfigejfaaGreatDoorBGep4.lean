/- Contracts and lemmas (several texts merged into one). -/
import Derived.Test.YteajinpfigejfaaGreatDoorBGep3
import Derived.Test.YteajinpfigejfaaGreatDoorBGep2
import Derived.Test.YteajinpfigejfaaGreatDoorShelf
import Derived.Lib.CutLaws
import Derived.Lib.IndexLaws
import Derived.Laws.Strings
import Derived.Deep.RegionHeld3
import Derived.Laws.MathBits
import Derived.WalkMore
import Derived.Deep.LoopGhost
import Derived.Laws.CopyOwn
import Derived.Deep.DeepMust
import Derived.Lib.ItoaNum
namespace Go.Proofs.YteajinpfigejfaaGreatDoor
open Go Go.RowKit Gu

theorem toList_ne {a b : ByteArray} (h : a ≠ b) : (a.toList == b.toList) = false :=
  beq_eq_false_iff_ne.2 (fun e => h (by rw [ByteArray.toList_eq, ByteArray.toList_eq] at e; exact ByteArray.ext (Array.toList_inj.1 e)))
theorem toList_one (c : UInt8) : (⟨#[c]⟩ : ByteArray).toList = [c] := by rw [ByteArray.toList_eq]
set_option maxHeartbeats 400000 in
theorem Index_slash (s : ByteArray) (w : World) :
    Calls Tryz.prog 97 #[.string s, .string ⟨#[47]⟩] w fun e w' => e = .returned (.int .i64 (Lib.indexByte s.data.toList 47)) ∧ w = w' := by
  by_cases h : s = ⟨#[47]⟩
  · subst h
    go_enter Tryz.func97, Tryz.ntmps97
    have e0 : Lib.indexByte (⟨#[47]⟩ : ByteArray).data.toList 47 = 0 := by decide
    rw [e0]
    go_wp2
    go_ret
    exact ⟨by simp, rfl⟩
  · have hne : ([47] == s.toList) = false := by rw [← toList_one]; exact toList_ne (fun e => h e.symm)
    have HI := Lib.hid (fun w => Tryz.stringslite_IndexByte s 47 w)
    clear h
    go_enter Tryz.func97, Tryz.ntmps97
    go_wp2_with fail
    refine (HI.out _).mono ?_
    rintro e w' ⟨rfl, rfl⟩
    go_wp2
    go_ret
    exact ⟨rfl, rfl⟩
theorem slash_some {s : ByteArray} {i : Nat} (h : Lib.indexByte s.data.toList 47 = i) : ∃ hi : i < s.size, s[i] = 47 ∧ ∀ j (hj : j < s.size), j < i → s[j] ≠ 47 := by
  obtain ⟨h1, h2⟩ := Lib.indexByte_some h
  have hi : i < s.data.toList.length := by
    rcases Nat.lt_or_ge i s.data.toList.length with h3 | h3
    · exact h3
    · rw [List.getElem?_eq_none h3] at h1; cases h1
  have hi' : i < s.size := by rw [← len_data]; exact hi
  refine ⟨hi', ?_, fun j hj hji e => h2 j hji ?_⟩
  · rw [List.getElem?_eq_getElem hi] at h1
    rw [← byte_at s i hi']; exact Option.some.inj h1
  · rw [List.getElem?_eq_getElem (by rw [len_data]; exact hj)]
    rw [← e, ← byte_at s j hj]
theorem slash_none {s : ByteArray} (h : Lib.indexByte s.data.toList 47 = -1) : ∀ j (hj : j < s.size), s[j] ≠ 47 := fun j hj e =>
  Lib.indexByte_none h j (by rw [List.getElem?_eq_getElem (by rw [len_data]; exact hj), ← e, ← byte_at s j hj])
theorem slash_cases (s : ByteArray) : Lib.indexByte s.data.toList 47 = -1 ∨ ∃ i : Nat, Lib.indexByte s.data.toList 47 = i := by
  have h := Lib.indexByte_ge s.data.toList 47
  by_cases h1 : Lib.indexByte s.data.toList 47 = -1
  · exact .inl h1
  · exact .inr ⟨(Lib.indexByte s.data.toList 47).toNat, by omega⟩
set_option maxHeartbeats 400000 in
theorem lCut_none (s : ByteArray) (w : World) (h : Lib.indexByte s.data.toList 47 = -1) :
    Calls Tryz.prog 83 #[.string s, .string ⟨#[47]⟩] w fun e w' => e = .returned (.tuple #[.string s, .string ⟨#[]⟩, .bool false]) ∧ Below w.heap.size w w' := by
  have HI := Lib.hid (fun w => Index_slash s w)
  rw [h] at HI
  clear h
  go_enter Tryz.func83, Tryz.ntmps83
  go_wp2_with fail
  refine (HI.out _).mono ?_
  rintro e w' ⟨rfl, rfl⟩
  go_wp2
  go_ret3
  exact ⟨rfl, Below.refl _ _⟩
set_option maxHeartbeats 400000 in
theorem lCut_some (s : ByteArray) (i : Nat) (w : World) (h : Lib.indexByte s.data.toList 47 = i) (hi : i < s.size) (hs : s.size ≤ 1048576) :
    Calls Tryz.prog 83 #[.string s, .string ⟨#[47]⟩] w fun e w' => e = .returned (.tuple #[.string (s.extract 0 i), .string (s.extract (i + 1) s.size), .bool true]) ∧ Below w.heap.size w w' := by
  have HI := Lib.hid (fun w => Index_slash s w)
  rw [h] at HI
  clear h
  have c1 : (0 : Int) ≤ ↑i := by omega
  have c2 : (↑i : Int) ≤ ↑s.size := by omega
  have c3 : (0 : Int) ≤ ↑i + 1 := by omega
  have c4 : (↑i + 1 : Int) ≤ ↑s.size := by omega
  go_enter Tryz.func83, Tryz.ntmps83
  go_wp2_with fail
  refine (HI.out _).mono ?_
  rintro e w' ⟨rfl, rfl⟩
  go_wp2_with fail
  go_region
  go_wp2
  go_ret3
  exact ⟨rfl, (Below.refl _ _).drew⟩
theorem Cut_none (s : ByteArray) (w : World) (h : Lib.indexByte s.data.toList 47 = -1) :
    Calls Tryz.prog 52 #[.string s, .string ⟨#[47]⟩] w fun e w' => e = .returned (.tuple #[.string s, .string ⟨#[]⟩, .bool false]) ∧ Below w.heap.size w w' := by
  have HI := Lib.hid (fun w => lCut_none s w h)
  clear h
  go_enter Tryz.func52, Tryz.ntmps52
  go_wp2_with fail
  refine (HI.out _).mono ?_
  rintro e w' ⟨rfl, hb⟩
  go_wp2
  go_ret3
  exact ⟨rfl, hb⟩
theorem Cut_some (s : ByteArray) (i : Nat) (w : World) (h : Lib.indexByte s.data.toList 47 = i) (hi : i < s.size) (hs : s.size ≤ 1048576) :
    Calls Tryz.prog 52 #[.string s, .string ⟨#[47]⟩] w fun e w' => e = .returned (.tuple #[.string (s.extract 0 i), .string (s.extract (i + 1) s.size), .bool true]) ∧ Below w.heap.size w w' := by
  have HI := Lib.hid (fun w => lCut_some s i w h hi hs)
  clear h
  go_enter Tryz.func52, Tryz.ntmps52
  go_wp2_with fail
  refine (HI.out _).mono ?_
  rintro e w' ⟨rfl, hb⟩
  go_wp2
  go_ret3
  exact ⟨rfl, hb⟩
end Go.Proofs.YteajinpfigejfaaGreatDoor
namespace Go.Proofs.YteajinpfigejfaaGreatDoor
open Go Go.RowKit Gu

/-- what the inner loop of Parse keeps: k digits of ten times the number, and one decimal digit more -/
def TenRel (N la : Nat) (w : World) (d k X c : Nat) (v : Value) (wr : World) : Prop :=
  c ≤ 10 ∧ k ≤ la + 1 ∧ X < 65536 ^ k ∧ X + 65536 ^ k * c = 10 * (N % 65536 ^ k) + d ∧ (k = la + 1 → c = 0 ∧ 65536 ^ la ≤ X) ∧ Own .i64 65536 3 wr w.heap.size v k X ∧ Below w.heap.size w wr
theorem ten_next {N la d k X c q : Nat} (hN : N < 65536 ^ la) (hk : k ≤ la) (hX : X < 65536 ^ k) (hc : c ≤ 10) (hsum : X + 65536 ^ k * c = 10 * (N % 65536 ^ k) + d) (hq : q = c + 10 * dg 65536 N k) (hcont : k < la ∨ 0 < c) :
    q / 65536 ≤ 10 ∧ X + 65536 ^ k * (q % 65536) < 65536 ^ (k + 1) ∧ (X + 65536 ^ k * (q % 65536)) + 65536 ^ (k + 1) * (q / 65536) = 10 * (N % 65536 ^ (k + 1)) + d ∧ (k + 1 = la + 1 → q / 65536 = 0 ∧ 65536 ^ la ≤ X + 65536 ^ k * (q % 65536)) := by
  have hd := dg_lt (B := 65536) (by decide) N k
  have e := Nat.mod_add_div q 65536
  have hs : (X + 65536 ^ k * (q % 65536)) + 65536 ^ (k + 1) * (q / 65536) = 10 * (N % 65536 ^ (k + 1)) + d := by
    have e1 : 65536 ^ (k + 1) * (q / 65536) = 65536 ^ k * (65536 * (q / 65536)) := by rw [Nat.pow_succ, Nat.mul_assoc]
    have e2 : 65536 ^ k * (q % 65536) + 65536 ^ k * (65536 * (q / 65536)) = 65536 ^ k * q := by rw [← Nat.mul_add, e]
    have e3 : 65536 ^ k * q = 65536 ^ k * c + 10 * (65536 ^ k * dg 65536 N k) := by rw [hq, Nat.mul_add, Nat.mul_left_comm]
    rw [e1, mod_succ, Nat.mul_add]
    omega
  refine ⟨by omega, snoc_lt hX (Nat.mod_lt _ (by decide)), hs, fun h => ?_⟩
  obtain rfl : k = la := by omega
  have hz : dg 65536 N k = 0 := dg_high (by decide) hN (Nat.le_refl _)
  rw [hz] at hq
  have h1 : q = c := by omega
  have hc0 : 0 < c := by omega
  rw [h1]
  refine ⟨by omega, ?_⟩
  rw [Nat.mod_eq_of_lt (show c < 65536 by omega)]
  have : 65536 ^ k * 1 ≤ 65536 ^ k * c := Nat.mul_le_mul_left _ hc0
  omega
theorem ten_len {N la X k : Nat} (hla : nd 65536 N = la) (hX : X < 65536 ^ k) (hle : N ≤ X) (hk : la ≤ k) (h1 : k = la + 1 → 65536 ^ la ≤ X) (hk2 : k ≤ la + 1) : nd 65536 X = k := by
  have h2 : nd 65536 X ≤ k := (nd_le (by decide)).2 hX
  have h3 := nd_mono (B := 65536) (by decide) hle
  rcases Nat.eq_or_lt_of_le hk with h | h
  · omega
  · have hk3 : k = la + 1 := by omega
    have h4 := h1 hk3
    rcases Nat.lt_or_ge (nd 65536 X) k with h5 | h5
    · have h6 : X < 65536 ^ la := (nd_le (by decide)).1 (by omega)
      omega
    · omega
end Go.Proofs.YteajinpfigejfaaGreatDoor
namespace Go.Proofs.YteajinpfigejfaaGreatDoor
open Go Go.RowKit Gu

theorem nd_sval16 {l : List UInt8} (h : l.all isDigit = true) : nd 65536 (sval l) ≤ l.length :=
  (nd_le (by decide)).2 (Nat.lt_of_lt_of_le (sval_lt l h) (Nat.pow_le_pow_left (by decide) _))
end Go.Proofs.YteajinpfigejfaaGreatDoor
namespace Go.Proofs.YteajinpfigejfaaGreatDoor
open Go Go.RowKit Gu

/-- a number of an earlier world, a step on -/
theorem rchain {W W' : World} {v : Value} {n : Nat} (hb : Below W.heap.size W W') (h : R W v n) : R W' v n := h.below hb
theorem dchain {W W' : World} {v : Value} {n : Nat} (hb : Below W.heap.size W W') (h : D W v n) : D W' v n := h.below hb
/-- boxes, the program's numbers, the document's numbers -/
structure Kp (cs : List (Nat × Value)) (ns rs : List (Value × Nat)) (w W : World) : Prop where
  num : ∀ p ∈ ns, D W p.1 p.2
  dig : ∀ p ∈ rs, R W p.1 p.2
  box : ∀ p ∈ cs, p.1 < W.heap.size ∧ W.cell? ⟨p.1, 0, none⟩ = some p.2
  env : Env W
  bel : Below w.heap.size w W
theorem IsRaw.below {w w' : World} {v : Value} {xs : List Nat} (h : IsRaw w v xs) (hb : Below w.heap.size w w') : IsRaw w' v xs := by
  refine ⟨h.1, ?_⟩
  rcases h.2 with h1 | ⟨b, o, c, hv, hc⟩
  · exact .inl h1
  · refine .inr ⟨b, o, c, hv, fun i hi => ?_⟩
    rw [hb.cell (p := ⟨b, o + i, none⟩) (World.block_lt_of_cell? _ _ (hc i hi))]
    exact hc i hi
section
variable {cs : List (Nat × Value)} {ns rs : List (Value × Nat)} {w W W' : World}
theorem Kp.start (he : Env w) : Kp [] [] [] w w := ⟨fun _ h => by simp at h, fun _ h => by simp at h, fun _ h => by simp at h, he, Below.refl _ _⟩
theorem Kp.next (h : Kp cs ns rs w W) (hb : Below W.heap.size W W') : Kp cs ns rs w W' :=
  ⟨fun p hp => (h.num p hp).below hb, fun p hp => (h.dig p hp).below hb, fun p hp => ⟨Nat.lt_of_lt_of_le (h.box p hp).1 hb.size, (hb.cell (p := ⟨p.1, 0, none⟩) (h.box p hp).1).trans (h.box p hp).2⟩, h.env.below hb, h.bel.trans (hb.mono h.bel.size)⟩
theorem Kp.drewN (h : Kp cs ns rs w W) (q : Nat) : Kp cs ns rs w (W.drewN q) := h.next (below_drewN (Below.refl _ _) q)
theorem Kp.drew (h : Kp cs ns rs w W) : Kp cs ns rs w W.drew := h.next (Below.refl _ _).drew
theorem Kp.addNum (h : Kp cs ns rs w W) {v : Value} {n : Nat} (hv : D W v n) : Kp cs ((v, n) :: ns) rs w W :=
  ⟨fun p hp => by
    rcases List.mem_cons.1 hp with rfl | hp
    · exact hv
    · exact h.num p hp, h.dig, h.box, h.env, h.bel⟩
theorem Kp.addDig (h : Kp cs ns rs w W) {v : Value} {n : Nat} (hv : R W v n) : Kp cs ns ((v, n) :: rs) w W :=
  ⟨h.num, fun p hp => by
    rcases List.mem_cons.1 hp with rfl | hp
    · exact hv
    · exact h.dig p hp, h.box, h.env, h.bel⟩
theorem Kp.alloc (h : Kp cs ns rs w W) (o : Obj) : Kp cs ns rs w (W.alloc o) := h.next ((Below.refl _ _).alloc (Nat.le_refl _) _)
/-- a variable gets its box -/
theorem Kp.boxed (h : Kp cs ns rs w W) (v : Value) (T : TypeId) : Kp ((W.heap.size, v) :: cs) ns rs w (W.alloc (.cells #[v] T)) :=
  ⟨(h.alloc _).num, (h.alloc _).dig, fun p hp => by
    rcases List.mem_cons.1 hp with rfl | hp
    · exact ⟨by simp, World.cell?_alloc_at _ _ _ _ rfl⟩
    · exact (h.alloc _).box p hp, (h.alloc _).env, (h.alloc _).bel⟩
theorem Kp.cell (h : Kp cs ns rs w W) {g : Nat} {v : Value} (hm : (g, v) ∈ cs) : W.cell? ⟨g, 0, none⟩ = some v := (h.box _ hm).2
theorem NCmp_K {v u : Value} {a b : Nat} (h : Kp cs ns rs w W) (h1 : (v, a) ∈ ns) (h2 : (u, b) ∈ ns) (ha : nd 4294967296 a ≤ 1048576) (hb : nd 4294967296 b ≤ 1048576) :
    Calls Tryz.prog 19 #[.agg #[v], .agg #[u]] W fun e w' => e = .returned (.int .i64 (cmpN a b)) ∧ Kp cs ns rs w w' :=
  (NCmp_any _ _ a b W (h.num _ h1) (h.num _ h2) ha hb).mono fun _ _ ⟨he, hB⟩ => ⟨he, h.next hB⟩
theorem RCmp_K {v u : Value} {a b : Nat} (h : Kp cs ns rs w W) (h1 : (v, a) ∈ rs) (h2 : (u, b) ∈ rs) (ha : nd 65536 a ≤ 1048576) (hb : nd 65536 b ≤ 1048576) :
    Calls Tryz.prog 10 #[v, u] W fun e w' => e = .returned (.int .i64 (cmpN a b)) ∧ Kp cs ns rs w w' :=
  (RCmp_any _ _ a b W (h.dig _ h1) (h.dig _ h2) ha hb).mono fun _ _ ⟨he, k, hw⟩ => ⟨he, by rw [hw]; exact h.drewN k⟩
theorem awake_K (h : Kp cs ns rs w W) : Calls Tryz.prog 7 #[] W fun e w' => e = .returned (.bool true) ∧ Kp cs ns rs w w' :=
  (awake_any W h.env).mono fun _ _ ⟨he, hB⟩ => ⟨he, h.next hB⟩
theorem Parse_dec (n : Nat) (hn : nd 65536 n ≤ 1024) :
    Calls Tryz.prog 31 #[.string ⟨(Lib.decDigits n).toArray⟩] W fun e w' => ∃ r, e = .returned (.tuple #[.agg #[r], .int .i64 0]) ∧ D w' r n ∧ Below W.heap.size W w' := by
  have hlen := dec_len_le (by decide) (lt_ten (t := 342) (by omega : nd 65536 n ≤ 3 * 342))
  have HP := Parse_num ⟨(Lib.decDigits n).toArray⟩ W (by rw [← len_data]; exact Nat.le_trans hlen (by decide)) (isNum_dec n)
  have hsv : sval (Lib.decDigits n) = n := sval_dec n
  have hd : (⟨(Lib.decDigits n).toArray⟩ : ByteArray).data.toList = Lib.decDigits n := rfl
  rw [hd, hsv, show fitE n = 0 from if_pos (fit_ok hn), show fitN n = n from if_pos (fit_ok hn)] at HP
  exact HP
theorem String_K {v : Value} {n : Nat} (h : Kp cs ns rs w W) (hv : (v, n) ∈ ns) (hn : nd 4294967296 n ≤ 100000) :
    Calls Tryz.prog 33 #[.agg #[v]] W fun e w' => e = .returned (.string ⟨(Lib.decDigits n).toArray⟩) ∧ Kp cs ns rs w w' :=
  (String_any v n W (h.num _ hv) hn h.env).mono fun _ _ ⟨he, hB⟩ => ⟨he, h.next hB⟩
theorem BitLen_K {v : Value} {n : Nat} (h : Kp cs ns rs w W) (hv : (v, n) ∈ ns) (hn : nd 4294967296 n ≤ 1048576) :
    Calls Tryz.prog 26 #[.agg #[v]] W fun e w' => e = .returned (.int .i64 (nd 2 n)) ∧ Kp cs ns rs w w' :=
  (BitLen_any v n W (h.num _ hv) hn).mono fun _ _ ⟨he, hB⟩ => ⟨he, h.next hB⟩
end
end Go.Proofs.YteajinpfigejfaaGreatDoor
namespace Go.Proofs.YteajinpfigejfaaGreatDoor
open Go Go.RowKit Gu

def parE (l : List UInt8) : Int := if isNum l = true then fitE (sval l) else 4
def parN (l : List UInt8) : Nat := if isNum l = true then fitN (sval l) else 0
theorem sval_top {l : List UInt8} (h : isNum l = true) (h1 : 1 < l.length) : 10 ^ (l.length - 1) ≤ sval l := by
  cases l with
  | nil => simp at h1
  | cons c l =>
    unfold isNum at h
    simp only [Bool.and_eq_true, List.all_cons] at h
    obtain ⟨⟨-, h2⟩, h3, -⟩ := h
    have h4 : c ≠ 48 := by
      intro e
      subst e
      have h6 : decide (1 < (48 :: l : List UInt8).length) = true := decide_eq_true h1
      rw [h6] at h2
      exact absurd h2 (by simp)
    obtain ⟨d1, d2⟩ := (digit_iff c).1 h3
    have h5 : c.toNat ≠ 48 := fun e => h4 (UInt8.toNat_inj.1 (by rw [e]; rfl))
    have e1 : sval (c :: l) = sval [c] * 10 ^ l.length + sval l := sval_append [c] l
    have e2 : sval [c] = c.toNat - 48 := by simp [sval]
    rw [e1, e2, List.length_cons, Nat.add_sub_cancel]
    have e3 : 1 * 10 ^ l.length ≤ (c.toNat - 48) * 10 ^ l.length := Nat.mul_le_mul_right _ (by omega)
    omega
theorem sval_big {l : List UInt8} (h : isNum l = true) (h1 : 5000 < l.length) : 16384 < nd 2 (sval l) := by
  have h2 := sval_top h (by omega)
  rcases Nat.lt_or_ge 16384 (nd 2 (sval l)) with h3 | h3
  · exact h3
  · exfalso
    obtain ⟨k, hk⟩ : ∃ k, k = 178 := ⟨_, rfl⟩
    have h4 : sval l < 2 ^ (93 * k) := (nd_le (by decide)).1 (by omega)
    have h5 : 2 ^ (93 * k) ≤ 10 ^ (28 * k) := by rw [Nat.pow_mul, Nat.pow_mul]; exact Nat.pow_le_pow_left (by decide) _
    have h6 : 10 ^ (28 * k) ≤ 10 ^ (l.length - 1) := Nat.pow_le_pow_right (by decide) (by omega)
    omega
set_option maxHeartbeats 400000 in
theorem readNumeral_long (s : ByteArray) (w : World) (hs : s.size ≤ 1048576) (hl : 5463 < s.size) :
    Calls Tryz.prog 54 #[.string s] w fun e w' => e = .returned (.tuple #[.agg #[.slice none 0 0], .int .i64 3]) ∧ Below w.heap.size w w' := by
  have hl' : (5463 : Int) < s.size := by omega
  go_enter Tryz.func54, Tryz.ntmps54
  go_wp2
  refine bodyPost_ret (v := .tuple #[.agg #[.slice none 0 0], .int .i64 3]) (by simp [results, Tryz.results54, go_sem]) rfl ⟨rfl, (Below.refl _ _).alloc (Nat.le_refl _) _⟩
set_option maxHeartbeats 400000 in
theorem Parse_no (s : ByteArray) (w : World) (hs : s.size ≤ 1048576) (hd : isNum s.data.toList = false) :
    Calls Tryz.prog 31 #[.string s] w fun e w' => e = .returned (.tuple #[.agg #[.slice none 0 0], .int .i64 4]) ∧ Below w.heap.size w w' := by
  have HI := Lib.hid (fun w => isNumeral_any s w hs)
  rw [hd] at HI
  clear hd
  go_enter Tryz.func31, Tryz.ntmps31
  go_wp2_with fail
  refine (HI.out _).mono ?_
  rintro e w' ⟨rfl, rfl⟩
  go_wp2
  refine bodyPost_ret (v := .tuple #[.agg #[.slice none 0 0], .int .i64 4]) (by simp [results, Tryz.results31, go_sem]) rfl ⟨rfl, (Below.refl _ _).alloc (Nat.le_refl _) _⟩
set_option maxHeartbeats 400000 in
theorem Parse_long (s : ByteArray) (w : World) (hs : s.size ≤ 1048576) (hl : 5463 < s.size) (hd : isNum s.data.toList = true) :
    Calls Tryz.prog 31 #[.string s] w fun e w' => e = .returned (.tuple #[.agg #[.slice none 0 0], .int .i64 3]) ∧ Below w.heap.size w w' := by
  have HI := Lib.hid (fun w => isNumeral_any s w hs)
  rw [hd] at HI
  have HR := Lib.hid (fun w => readNumeral_long s w hs hl)
  clear hd
  go_enter Tryz.func31, Tryz.ntmps31
  go_wp2_with fail
  refine (HI.out _).mono ?_
  rintro e w' ⟨rfl, rfl⟩
  go_wp2_with fail
  refine (HR.out _).mono ?_
  rintro e w5 ⟨rfl, hb5⟩
  have d0 : w5.cell? ⟨w.heap.size, 0, none⟩ = some (.slice none 0 0) := (hb5.cell (p := ⟨w.heap.size, 0, none⟩) (by simp)).trans (World.cell?_alloc_at _ _ _ _ rfl)
  have g0 : w5.frozen? ⟨w.heap.size, 0, none⟩ = false := (hb5.frozen (p := ⟨w.heap.size, 0, none⟩) (by simp)).trans (World.frozen?_alloc_at _ _ _ _ rfl)
  have HBF := Lib.hid (((Below.refl w.heap.size w).alloc (Nat.le_refl _) (.cells #[.slice none 0 0] 42)).trans (hb5.mono (by simp)))
  clear hb5
  go_wp2
  refine bodyPost_ret (v := .tuple #[.agg #[.slice none 0 0], .int .i64 3]) (by simp [results, Tryz.results31, go_sem, d0]) rfl ⟨rfl, HBF.out.setCell (Nat.le_refl _) _⟩
theorem Parse_all (s : ByteArray) (w : World) (hs : s.size ≤ 1048576) :
    Calls Tryz.prog 31 #[.string s] w fun e w' => ∃ r, e = .returned (.tuple #[.agg #[r], .int .i64 (parE s.data.toList)]) ∧ D w' r (parN s.data.toList) ∧ Below w.heap.size w w' := by
  unfold parE parN
  by_cases hn : isNum s.data.toList = true
  · rw [if_pos hn, if_pos hn]
    by_cases hl : s.size ≤ 5463
    · exact Parse_num s w hl hn
    · have hb := sval_big hn (by rw [len_data]; omega)
      rw [show fitE (sval s.data.toList) = 3 from if_neg (by omega), show fitN (sval s.data.toList) = 0 from if_neg (by omega)]
      exact (Parse_long s w hs (by omega) hn).mono fun e w' ⟨he, hB⟩ => ⟨_, he, IsN.zero _ _ _ _ _, hB⟩
  · rw [if_neg hn, if_neg hn]
    exact (Parse_no s w hs (by simpa using hn)).mono fun e w' ⟨he, hB⟩ => ⟨_, he, IsN.zero _ _ _ _ _, hB⟩
theorem par_cases (l : List UInt8) : (parE l = 0 ∧ nd 2 (parN l) ≤ 16384) ∨ (parE l ≠ 0 ∧ parN l = 0) := by
  unfold parE parN fitE fitN
  split
  · split
    · exact .inl ⟨rfl, by assumption⟩
    · exact .inr ⟨by decide, rfl⟩
  · exact .inr ⟨by decide, rfl⟩
end Go.Proofs.YteajinpfigejfaaGreatDoor
namespace Go.Proofs.YteajinpfigejfaaGreatDoor
open Go Go.RowKit Gu

/-- one digit shifted left, laid over a carry -/
theorem shl_digits (c d s : Nat) (hs : s < 32) (hc : c < 2 ^ s) (hd : d < 4294967296) : bits BinOp.or IntKind.u64 (c : Int) (IntKind.u64.wrap ((d : Int) * 2 ^ s)) = ((c + d * 2 ^ s : Nat) : Int) := by
  have hp : (2 : Nat) ^ s ≤ 2147483648 := Nat.le_trans (Nat.pow_le_pow_right (by decide) (show s ≤ 31 by omega)) (by decide)
  have h1 : d * 2 ^ s ≤ 4294967295 * 2147483648 := Nat.mul_le_mul (by omega) hp
  have e := bits_or_u64_nat c (d * 2 ^ s) (by omega) (by omega)
  have e2 : c ||| (d * 2 ^ s) = c + d * 2 ^ s := by
    have := Nat.two_pow_add_eq_or_of_lt (i := s) (b := c) hc d
    rw [Nat.or_comm, Nat.mul_comm d, ← this, Nat.add_comm]
  rw [e2] at e
  have e3 : IntKind.u64.wrap ((d : Int) * 2 ^ s) = ((d * 2 ^ s : Nat) : Int) := by
    rw [wrap_u64, show (d : Int) * 2 ^ s = ((d * 2 ^ s : Nat) : Int) by simp]
    omega
  rw [e3]
  exact e
/-- what the loop of shiftLeft keeps -/
def ShlRel (a s wh m : Nat) (w : World) (k X c : Nat) (wr : World) : Prop :=
  c < 2 ^ s ∧ X < 4294967296 ^ k ∧ X + 4294967296 ^ k * c = (a % 4294967296 ^ k) * 2 ^ s ∧ Buf .u32 4294967296 92 wr w.heap.size m (0 + 4294967296 ^ wh * X) ∧ Below w.heap.size w wr
theorem buf_shift {g m wh k X d : Nat} {wr : World} (h : Buf .u32 4294967296 92 wr g m (0 + 4294967296 ^ wh * X)) (hX : X < 4294967296 ^ k) (hd : d < 4294967296) :
    Buf .u32 4294967296 92 (wr.setCell ⟨g, k + wh, none⟩ (.int .u32 d)) g m (0 + 4294967296 ^ wh * (X + 4294967296 ^ k * d)) := by
  have := h.put (by decide) (show 0 + 4294967296 ^ wh * X < 4294967296 ^ (k + wh) by rw [Nat.add_comm k]; exact win_lt (Nat.pow_pos (by decide)) hX) hd
  have e : 0 + 4294967296 ^ wh * (X + 4294967296 ^ k * d) = (0 + 4294967296 ^ wh * X) + 4294967296 ^ (k + wh) * d := by
    rw [Nat.mul_add, Nat.add_comm k wh, Nat.pow_add, Nat.mul_assoc, Nat.add_assoc]
  rw [e]; exact this
theorem ShlRel.next {a s wh m : Nat} {w : World} {k X c : Nat} {wr : World} (h : ShlRel a s wh m w k X c wr) :
    ShlRel a s wh m w (k + 1) (X + 4294967296 ^ k * ((c + dg 4294967296 a k * 2 ^ s) % 4294967296)) ((c + dg 4294967296 a k * 2 ^ s) / 4294967296)
      (wr.setCell ⟨w.heap.size, k + wh, none⟩ (.int .u32 (((c + dg 4294967296 a k * 2 ^ s) % 4294967296 : Nat) : Int))) := by
  obtain ⟨h1, h2, h3, h4, h5⟩ := h
  have hda := dg_lt (B := 4294967296) (by decide) a k
  have hd : (c + dg 4294967296 a k * 2 ^ s) % 4294967296 < 4294967296 := Nat.mod_lt _ (by decide)
  exact ⟨shl_carry h1 hda, snoc_lt h2 hd, shl_round h3, buf_shift h4 h2 hd, h5.setCell (Nat.le_refl _) _⟩
set_option maxHeartbeats 1000000 in
set_option maxRecDepth 100000 in
theorem shiftLeft_any (v : Value) (a n : Nat) (w : World) (hv : D w v a) (ha : nd 4294967296 a ≤ 500000) (hn : n ≤ 16000000) :
    Calls Tryz.prog 105 #[v, .int .i64 n] w fun e w' => ∃ r, e = .returned r ∧ D w' r (a * 2 ^ n) ∧ Below w.heap.size w w' := by
  have hB : 2 ≤ 4294967296 := by decide
  obtain ⟨ao, ac, hv', hcv⟩ := hv.shape
  have hla := nd_lt hB a
  subst hv'
  clear hv
  generalize hm : nd 4294967296 a = m at *
  clear hm
  obtain ⟨wh, hwh⟩ : ∃ wh, wh = n / 32 := ⟨_, rfl⟩
  obtain ⟨s, hs⟩ : ∃ s, s = n % 32 := ⟨_, rfl⟩
  have hs32 : s < 32 := by omega
  have hwl : wh ≤ 500000 := by omega
  have q1 : (n : Int) / 32 = wh := by omega
  have q2 : (n : Int) % 32 = s := by omega
  have HNW : Hid (n = 32 * wh + s) := by show _ = _; omega
  clear hwh hs
  have hmk := made_u32 (m + wh + 1) (by omega)
  rw [show (((m + wh + 1 : Nat)) : Int) = (m : Int) + wh + 1 from by omega] at hmk
  have HL := Lib.hid hla; clear hla
  have hpos : 0 < 2 ^ s := Nat.pow_pos (by decide)
  have hp31 : (2 : Nat) ^ s ≤ 2147483648 := Nat.le_trans (Nat.pow_le_pow_right (by decide) (show s ≤ 31 by omega)) (by decide)
  go_enter Tryz.func105, Tryz.ntmps105
  go_wp2
  simp only [q2]
  go_loopw [8, 22] (fun c t wr => ∃ k X cc : Nat, k ≤ m ∧ t = .int .i64 k ∧ c = .int .u64 cc ∧ ShlRel a s wh (m + wh + 1) w k X cc wr) (fun _ t _ => m - (intOf t).toNat)
  case atStart => exact ⟨0, 0, 0, Nat.zero_le _, rfl, rfl, hpos, by simp, by simp [Nat.mod_one], by simpa using Buf.made _ _ _ _ _, (Below.refl _ _).alloc (Nat.le_refl _) _⟩
  case round =>
    obtain ⟨k, X, c, hk, rfl, rfl, hrel⟩ := hrel
    have hbel := hrel.2.2.2.2
    have hbuf := hrel.2.2.2.1
    have hc1 : c < 2 ^ s := hrel.1
    by_cases hlt : k < m
    · obtain ⟨gb, go, rfl, hca⟩ := hcv k hlt
      have hca' : wr.cell? ⟨gb, go + k, none⟩ = some (.int .u32 (dg 4294967296 a k : Nat)) := by
        rw [hbel.cell (p := ⟨gb, go + k, none⟩) (World.block_lt_of_cell? _ _ hca)]; exact hca
      have hcell := hbuf.cell (i := k + wh) (by omega)
      have hfr := hbuf.frozen (k + wh)
      have HR := Lib.hid hrel.next
      clear hrel hbuf hbel hca hcv
      have hda := dg_lt (B := 4294967296) (by decide) a k
      have hkl : (k : Int) < m := by omega
      generalize dg 4294967296 (0 + 4294967296 ^ wh * X) (k + wh) = dx at *
      generalize dg 4294967296 a k = d at *
      have HSD := Lib.hid (shl_digits c d s hs32 hc1 hda)
      generalize hte : c + d * 2 ^ s = t at *
      clear hte
      go_wp2
      rw [HSD.out]
      go_roundw
      case rel => exact ⟨k + 1, X + 4294967296 ^ k * (t % 4294967296), t / 4294967296, by omega, by go_num, by go_num, HR.out⟩
      case measure => simp [intOf]; omega
    · obtain rfl : k = m := by omega
      clear hlt hk
      have hcell := hbuf.cell (i := k + wh) (by omega)
      have hfr := hbuf.frozen (k + wh)
      obtain ⟨-, hX, hsum, -, -⟩ := hrel
      rw [Nat.mod_eq_of_lt HL.out] at hsum
      have hc4 : c < 4294967296 := by omega
      have hput := buf_shift hbuf hX hc4
      have hlt : 0 + 4294967296 ^ wh * (X + 4294967296 ^ k * c) < 4294967296 ^ (wh + (k + 1)) := win_lt (Nat.pow_pos (by decide)) (snoc_lt hX hc4)
      have hval : 0 + 4294967296 ^ wh * (X + 4294967296 ^ k * c) = a * 2 ^ n := by
        rw [hsum, HNW.out, Nat.pow_add, Nat.pow_mul, Nat.zero_add, Nat.mul_left_comm]
      rw [hval] at hput hlt
      rw [show wh + (k + 1) = k + wh + 1 from by omega] at hlt
      have hbel' := hbel.setCell (p := ⟨w.heap.size, k + wh, none⟩) (Nat.le_refl _) (.int .u32 c)
      have HP := Lib.hid hput; have HLT := Lib.hid hlt; have HBel := Lib.hid hbel'
      clear hsum hX hbuf hbel hput hlt hbel' hval hcv
      generalize dg 4294967296 (0 + 4294967296 ^ wh * X) (k + wh) = dx at *
      go_wp2_with fail
      refine (trim_buf _ _ _ (a * 2 ^ n) _ HP.out HLT.out (by omega) (by omega)).mono ?_
      rintro e w' ⟨rfl, rfl⟩
      go_wp2
      go_ret
      exact ⟨_, rfl, HP.out.isN hB HLT.out _, HBel.out⟩
/-- a word of two digits, shifted right -/
theorem shr_digits (x y s : Nat) (hs : s < 32) (hx : x < 4294967296) (hy : y < 4294967296) : bits BinOp.or IntKind.u64 (x : Int) ((y : Int) * 4294967296) / 2 ^ s % 4294967296 = (((x + 4294967296 * y) / 2 ^ s % 4294967296 : Nat) : Int) := by
  have e := bits_or_u64_nat x (y * 4294967296) (by omega) (by omega)
  have e2 : x ||| (y * 4294967296) = x + 4294967296 * y := by
    have := Nat.two_pow_add_eq_or_of_lt (i := 32) (b := x) hx y
    rw [Nat.or_comm, Nat.mul_comm y, show (4294967296 : Nat) = 2 ^ 32 from by decide, ← this, Nat.add_comm]
  rw [e2] at e
  have e3 : (y : Int) * 4294967296 = ((y * 4294967296 : Nat) : Int) := by simp
  rw [e3, e]
  generalize x + 4294967296 * y = t
  have := hs
  simp
theorem pow_n32 {n wh s : Nat} (h : n = 32 * wh + s) : 2 ^ n = 4294967296 ^ wh * 2 ^ s := by
  rw [h, Nat.pow_add, Nat.pow_mul]
theorem pow_dvd32 {s : Nat} (h : s ≤ 32) : 4294967296 = 2 ^ s * 2 ^ (32 - s) := by
  rw [← Nat.pow_add, show s + (32 - s) = 32 from by omega]
/-- what the loop of shiftRight keeps -/
def ShrRel (a n m : Nat) (w : World) (k : Nat) (wr : World) : Prop :=
  Buf .u32 4294967296 92 wr w.heap.size m (a / 2 ^ n % 4294967296 ^ k) ∧ Below w.heap.size w wr
set_option maxHeartbeats 1000000 in
set_option maxRecDepth 100000 in
theorem shiftRight_any (v : Value) (a n : Nat) (w : World) (hv : D w v a) (ha : nd 4294967296 a ≤ 1048576) (hn : n ≤ 9223372036854775807) :
    Calls Tryz.prog 107 #[v, .int .i64 n] w fun e w' => ∃ r, e = .returned r ∧ D w' r (a / 2 ^ n) ∧ Below w.heap.size w w' := by
  have hB : 2 ≤ 4294967296 := by decide
  obtain ⟨ao, ac, hv', -⟩ := hv.shape
  have hla := nd_lt hB a
  have HV := Lib.hid hv
  subst hv'
  clear hv
  generalize hm : nd 4294967296 a = m at *
  have HNA := Lib.hid hm
  clear hm
  obtain ⟨wh, hwh⟩ : ∃ wh, wh = n / 32 := ⟨_, rfl⟩
  obtain ⟨s, hs⟩ : ∃ s, s = n % 32 := ⟨_, rfl⟩
  have hs32 : s < 32 := by omega
  have hwl : wh ≤ 288230376151711743 := by omega
  have q1 : (n : Int) / 32 = wh := by omega
  have q2 : (n : Int) % 32 = s := by omega
  have HNW : Hid (n = 32 * wh + s) := by show _ = _; omega
  clear hwh hs
  have HL := Lib.hid hla; clear hla
  by_cases hge : m ≤ wh
  · have HZ : Hid (a / 2 ^ n = 0) := by
      show _ = _
      apply Nat.div_eq_of_lt
      rw [pow_n32 HNW.out]
      have h1 : 4294967296 ^ m ≤ 4294967296 ^ wh := Nat.pow_le_pow_right (by decide) hge
      have h2 : 4294967296 ^ wh ≤ 4294967296 ^ wh * 2 ^ s := Nat.le_mul_of_pos_right _ (Nat.pow_pos (by decide))
      have := HL.out
      omega
    go_enter Tryz.func107, Tryz.ntmps107
    go_wp2
    go_ret
    exact ⟨_, rfl, by rw [HZ.out]; exact IsN.zero _ _ _ _ _, Below.refl _ _⟩
  · obtain ⟨j, rfl⟩ : ∃ j, m = j + wh := ⟨m - wh, by omega⟩
    have hmk := made_u32 j (by omega)
    have hsub : ((j + wh : Nat) : Int) - wh = j := by omega
    have HD := Lib.hid (fun k => shr_digit (B := 4294967296) (a := a) (w := wh) (s := 2 ^ s) (i := k) (by decide) ⟨_, pow_dvd32 (by omega)⟩)
    rw [← pow_n32 HNW.out] at HD
    go_enter Tryz.func107, Tryz.ntmps107
    go_wp2
    simp only [q2]
    go_loopw [25] (fun t wr => ∃ k : Nat, k ≤ j ∧ t = .int .i64 k ∧ ShrRel a n j w k wr) (fun t _ => j - (intOf t).toNat)
    case atStart => exact ⟨0, Nat.zero_le _, rfl, by simpa [Nat.mod_one] using Buf.made _ _ _ _ _, (Below.refl _ _).alloc (Nat.le_refl _) _⟩
    case round =>
      obtain ⟨k, hk, rfl, hbuf, hbel⟩ := hrel
      by_cases hlt : k < j
      · have HA := Lib.hid (at_any _ a (k + wh) wr (HV.out.below hbel) (by rw [HNA.out]; omega))
        have HB' := Lib.hid (at_any _ a (k + wh + 1) wr (HV.out.below hbel) (by rw [HNA.out]; omega))
        have hcell := hbuf.cell (i := k) (by omega)
        have hfr := hbuf.frozen k
        have hda := dg_lt (B := 4294967296) (by decide) a (k + wh)
        have hdb := dg_lt (B := 4294967296) (by decide) a (k + wh + 1)
        have hW := shr_digits _ _ s hs32 hda hdb
        rw [← HD.out k] at hW
        have HN : Hid (ShrRel a n j w (k + 1) (wr.setCell ⟨w.heap.size, k, none⟩ (.int .u32 (dg 4294967296 (a / 2 ^ n) k : Nat)))) := by
          refine ⟨?_, hbel.setCell (Nat.le_refl _) _⟩
          rw [mod_succ]
          exact hbuf.put (by decide) (Nat.mod_lt _ (Nat.pow_pos (by decide))) (dg_lt (by decide) _ _)
        have HW := Lib.hid hW
        clear hbuf hbel hW
        have hkl : (k : Int) < j := by omega
        generalize dg 4294967296 (a / 2 ^ n) k = dn at *
        generalize dg 4294967296 (a / 2 ^ n % 4294967296 ^ k) k = dx at *
        generalize dg 4294967296 a (k + wh) = da at *
        generalize dg 4294967296 a (k + wh + 1) = db at *
        go_wp2_with fail
        refine HA.out.mono ?_
        rintro e w' ⟨rfl, rfl⟩
        go_wp2_with fail
        refine HB'.out.mono ?_
        rintro e w' ⟨rfl, rfl⟩
        go_wp2
        rw [HW.out]
        go_roundw
        case rel => exact ⟨k + 1, by omega, by go_num, HN.out⟩
        case measure => simp [intOf]; omega
      · obtain rfl : k = j := by omega
        have hlt2 : a / 2 ^ n < 4294967296 ^ k := by
          rw [pow_n32 HNW.out, ← Nat.div_div_eq_div_mul]
          refine Nat.lt_of_le_of_lt (Nat.div_le_self _ _) ?_
          rw [Nat.div_lt_iff_lt_mul (Nat.pow_pos (by decide)), ← Nat.pow_add]
          exact HL.out
        rw [Nat.mod_eq_of_lt hlt2] at hbuf
        have HBuf := Lib.hid hbuf; have HBel := Lib.hid hbel; have HX := Lib.hid hlt2
        clear hbuf hbel hlt hk hlt2
        go_wp2_with fail
        refine (trim_buf _ _ _ (a / 2 ^ n) _ HBuf.out HX.out (by omega) (by omega)).mono ?_
        rintro e w' ⟨rfl, rfl⟩
        go_wp2
        go_ret
        exact ⟨_, rfl, HBuf.out.isN hB HX.out _, HBel.out⟩
end Go.Proofs.YteajinpfigejfaaGreatDoor
namespace Go.Proofs.YteajinpfigejfaaGreatDoor
open Go Go.RowKit Gu

/-- one digit of a row times a digit, with a carry, as the machine makes it -/
theorem sub_t (c d f : Nat) (h1 : c < 4294967296) (h2 : d < 4294967296) (h3 : f < 4294967296) :
    IntKind.u64.wrap ((c : Int) + IntKind.u64.wrap ((d : Int) * f)) = ((c + d * f : Nat) : Int) ∧ c + d * f < 18446744073709551616 := by
  have h : d * f ≤ 4294967295 * 4294967295 := Nat.mul_le_mul (by omega) (by omega)
  refine ⟨?_, by omega⟩
  simp only [wrap_u64]
  rw [show ((d : Int) * f) = ((d * f : Nat) : Int) by simp]
  generalize d * f = p at *
  omega
/-- what the loop of subtractRow keeps -/
def SubRel (g M o n L W H r f : Nat) (w : World) (k X c br : Nat) (wr : World) : Prop :=
  c < 4294967296 ∧ br ≤ 1 ∧ X < 4294967296 ^ k ∧ X + f * (r % 4294967296 ^ k) = W % 4294967296 ^ k + 4294967296 ^ k * c + 4294967296 ^ k * br ∧
  Buf .u32 4294967296 92 wr g M (L + 4294967296 ^ o * (X + 4294967296 ^ k * (W / 4294967296 ^ k + 4294967296 ^ (n - k) * H))) ∧ w.grownBy wr (some g)
theorem SubRel.next {g M o n L W H r f : Nat} {w : World} {k X c br t d br' : Nat} {wr : World} (h : SubRel g M o n L W H r f w k X c br wr) (hL : L < 4294967296 ^ o) (hk : k < n) (_hf : f < 4294967296)
    (ht : t = c + dg 4294967296 r k * f) (htl : t < 18446744073709551616) (hd : d + t % 4294967296 + br = dg 4294967296 W k + 4294967296 * br') (hd1 : d < 4294967296) (hbr : br' ≤ 1) :
    SubRel g M o n L W H r f w (k + 1) (X + 4294967296 ^ k * d) (t / 4294967296) br' (wr.setCell ⟨g, o + k, none⟩ (.int .u32 (d : Nat))) := by
  obtain ⟨h1, h2, h3, h4, h5, h6⟩ := h
  have hdw := dg_lt (B := 4294967296) (by decide) W k
  have e : t % 4294967296 + 4294967296 * (t / 4294967296) = c + dg 4294967296 r k * f := by rw [← ht]; exact Nat.mod_add_div _ _
  rw [win_split hk] at h5
  refine ⟨by omega, hbr, snoc_lt h3 hd1, subrow_round h4 e hd, ?_, grownBy_trans h6 (grownBy_setCell _ _ _ _)⟩
  rw [← win_join hk]
  exact Buf.set h5 (by decide) (win_lt hL h3) hdw hd1
set_option maxHeartbeats 1000000 in
theorem subtractRow_any (g M o n cap L W H r f : Nat) (v : Value) (w : World) (hb : Buf .u32 4294967296 92 w g M (L + 4294967296 ^ o * (W + 4294967296 ^ n * H))) (hL : L < 4294967296 ^ o) (hW : W < 4294967296 ^ n) (hM : o + n ≤ M) (hn : n ≤ 1048576)
    (hr : D w v r) (hrn : nd 4294967296 r = n) (hne : ∀ b o c l, v = .slice (some ⟨b, o, none⟩) l c → 0 < r → b ≠ g) (hf : f < 4294967296) :
    Calls Tryz.prog 118 #[.slice (some ⟨g, o, none⟩) n cap, v, .int .u32 f] w fun e w' => ∃ X c : Nat, e = .returned (.int .u32 c) ∧ c < 4294967296 ∧ X < 4294967296 ^ n ∧ X + f * r = W + 4294967296 ^ n * c ∧
      Buf .u32 4294967296 92 w' g M (L + 4294967296 ^ o * (X + 4294967296 ^ n * H)) ∧ w.grownBy w' (some g) := by
  have hB : 2 ≤ 4294967296 := by decide
  have hstart : SubRel g M o n L W H r f w 0 0 0 0 w := ⟨by decide, by decide, by simp, by simp [Nat.mod_one], by simpa using hb, grownBy_refl _ _⟩
  have hrlt : r < 4294967296 ^ n := by rw [← hrn]; exact nd_lt hB r
  have HE : Hid (∀ X c br wr, SubRel g M o n L W H r f w n X c br wr → c + br < 4294967296 ∧ X < 4294967296 ^ n ∧ X + f * r = W + 4294967296 ^ n * (c + br) ∧ Buf .u32 4294967296 92 wr g M (L + 4294967296 ^ o * (X + 4294967296 ^ n * H)) ∧ w.grownBy wr (some g)) := by
    rintro X c br wr ⟨-, -, h2, h3, h4, h5⟩
    rw [Nat.mod_eq_of_lt hW, Nat.mod_eq_of_lt hrlt] at h3
    rw [Nat.div_eq_of_lt hW, Nat.sub_self, Nat.pow_zero, Nat.one_mul, Nat.zero_add] at h4
    have e : X + f * r = W + 4294967296 ^ n * (c + br) := by rw [Nat.mul_add]; omega
    refine ⟨?_, h2, e, h4, h5⟩
    have h6 : f * r ≤ 4294967295 * 4294967296 ^ n := Nat.mul_le_mul (by omega) (by omega)
    have h7 : 4294967296 ^ n * (c + br) < 4294967296 ^ n * 4294967296 := by
      rw [Nat.mul_comm _ 4294967296]
      generalize 4294967296 ^ n * (c + br) = z at *
      generalize f * r = y at *
      generalize (4294967296 : Nat) ^ n = p at *
      omega
    exact Nat.lt_of_mul_lt_mul_left h7
  have HR := Lib.hid hr
  have HNE := Lib.hid hne
  have hr0 : 0 < n → 0 < r := by
    intro h
    rcases Nat.eq_zero_or_pos r with h' | h'
    · subst h'; rw [nd_zero] at hrn; omega
    · exact h'
  obtain ⟨ao, ac, rfl, hcv⟩ := hr.shape
  rw [hrn] at hcv HR HNE ⊢
  have HS := Lib.hid hstart
  have HL := Lib.hid hL
  clear hb hW hr hne hstart hrlt hL hrn
  go_enter Tryz.func118, Tryz.ntmps118
  go_wp2
  go_loopw [7, 8, 13] (fun c b t wr => ∃ k X cc br : Nat, k ≤ n ∧ t = .int .i64 k ∧ c = .int .u64 cc ∧ b = .int .u64 br ∧ SubRel g M o n L W H r f w k X cc br wr) (fun _ _ t _ => n - (intOf t).toNat)
  case atStart => exact ⟨0, 0, 0, 0, Nat.zero_le _, rfl, rfl, rfl, HS.out⟩
  case round =>
    obtain ⟨k, X, c, br, hk, rfl, rfl, rfl, hrel⟩ := hrel
    have hc1 := hrel.1
    have hbr := hrel.2.1
    by_cases hlt : k < n
    · have HRR := Lib.hid hrel
      obtain ⟨-, -, h2, -, h4, h5⟩ := hrel
      rw [win_split hlt] at h4
      have hcell := h4.cell (i := o + k) (by omega)
      have hfr := h4.frozen (o + k)
      rw [dg_mid (by decide) (win_lt HL.out h2) (dg_lt (by decide) _ _), if_neg (Nat.lt_irrefl _), if_pos rfl] at hcell
      obtain ⟨gb, go, rfl, hca⟩ := hcv k hlt
      have hca' : wr.cell? ⟨gb, go + k, none⟩ = some (.int .u32 (dg 4294967296 r k : Nat)) := h5.cell hca (by
        simp only [Option.some.injEq, ne_eq]
        refine HNE.out gb go ac n rfl ?_
        exact hr0 (by omega))
      clear h2 h4 h5 hca hcv
      have hdr := dg_lt (B := 4294967296) (by decide) r k
      have hdw := dg_lt (B := 4294967296) (by decide) W k
      have hkl : (k : Int) < n := by omega
      have htl := (sub_t c _ f hc1 hdr hf).2
      have HNX := Lib.hid (fun d br' e3 e4 e5 => HRR.out.next (t := c + dg 4294967296 r k * f) (d := d) (br' := br') HL.out hlt hf rfl htl e3 e4 e5)
      have hte : (c : Int) + (dg 4294967296 r k : Int) * f = ((c + dg 4294967296 r k * f : Nat) : Int) := by simp
      have HTE := Lib.hid hte
      clear hte HRR
      generalize dg 4294967296 r k = dr at *
      generalize dg 4294967296 W k = dw at *
      go_wp2
      rw [HTE.out]
      generalize c + dr * f = t at *
      rw [and_low32 _ (by omega) (by omega), show (t : Int) % 4294967296 = ((t % 4294967296 : Nat) : Int) from by omega]
      obtain ⟨d, br', e1, e2, e3, e4, e5⟩ := sub_digits dw (t % 4294967296) br hdw (Nat.mod_lt _ (by decide)) hbr
      rw [e1, e2]
      have HN := HNX.out d br' e3 e4 e5
      clear HNX HTE
      go_roundw
      case rel => exact ⟨k + 1, _, t / 4294967296, br', by omega, by go_num, by go_num, rfl, HN⟩
      case measure => simp [intOf]; omega
    · obtain rfl : k = n := by omega
      have HF := HE.out X c br wr hrel
      have hcb := HF.1
      have HF2 := Lib.hid HF.2
      clear hrel hcv hlt hk HF
      go_wp2
      go_ret
      exact ⟨X, c + br, by first | rfl | (congr 2; omega), hcb, HF2.out⟩
end Go.Proofs.YteajinpfigejfaaGreatDoor
namespace Go.Proofs.YteajinpfigejfaaGreatDoor
open Go Go.RowKit Gu

/-- what the loop of estimate keeps -/
def EstRel (f s high next : Nat) (g r : Nat) : Prop := g * f + r = high ∧ est 4294967296 (high * 4294967296 + next) (f * 4294967296 + s) ≤ g ∧ r < 4294967296
theorem est_or (h n : Nat) (hh : h < 4294967296) (hn : n < 4294967296) : bits BinOp.or IntKind.u64 ((h : Int) * 4294967296) n = ((h * 4294967296 + n : Nat) : Int) := or_digits h n hh hn
set_option maxHeartbeats 1000000 in
theorem estimate_any (g o n cap bb bo bc w1 w0 x f s : Nat) (w : World) (hn : 2 ≤ n) (hn2 : n ≤ 1048576)
    (c1 : w.cell? ⟨g, o + n, none⟩ = some (.int .u32 w1)) (c2 : w.cell? ⟨g, o + (n - 1), none⟩ = some (.int .u32 w0)) (c3 : w.cell? ⟨g, o + (n - 2), none⟩ = some (.int .u32 x))
    (d1 : w.cell? ⟨bb, bo + (n - 1), none⟩ = some (.int .u32 f)) (d2 : w.cell? ⟨bb, bo + (n - 2), none⟩ = some (.int .u32 s))
    (hf : 0 < f) (hf2 : f < 4294967296) (hs : s < 4294967296) (h1 : w1 ≤ f) (h0 : w0 < 4294967296) (hx : x < 4294967296) :
    Calls Tryz.prog 117 #[.slice (some ⟨g, o, none⟩) (n + 1) cap, .slice (some ⟨bb, bo, none⟩) n bc] w fun e w' => e = .returned (.int .u32 (est 4294967296 ((w1 * 4294967296 + w0) * 4294967296 + x) (f * 4294967296 + s) : Nat)) ∧ ∃ q, w' = w.drewN q := by
  have hor := est_or w1 w0 (by omega) h0
  have hhigh : w1 * 4294967296 + w0 < 18446744073709551616 := by omega
  obtain ⟨high, hh⟩ : ∃ high, high = w1 * 4294967296 + w0 := ⟨_, rfl⟩
  have HH := Lib.hid hh
  have HEQ : Hid (∀ q r, q * f + r = high → 4294967296 ≤ r → est 4294967296 (high * 4294967296 + x) (f * 4294967296 + s) ≤ q → q = est 4294967296 (high * 4294967296 + x) (f * 4294967296 + s)) :=
    fun q r h1' h2' h3' => est_stop hf (by decide) hs hh h1 h0 h1' h2' h3'
  rw [← hh] at hor hhigh ⊢
  have HOR := Lib.hid hor
  clear hor hh
  have hn1 : ((n : Int) - 1) = ((n - 1 : Nat) : Int) := by omega
  have hn3 : ((n : Int) - 2) = ((n - 2 : Nat) : Int) := by omega
  have HST : Hid (EstRel f s high x (high / f) (high % f)) := ⟨by rw [Nat.mul_comm]; exact Nat.div_add_mod _ _, est_first hf (by decide) hx, Nat.lt_trans (Nat.mod_lt _ hf) hf2⟩
  go_enter Tryz.func117, Tryz.ntmps117
  go_wp2
  go_step3
  go_wp2
  go_quiet (fail)
  go_wp2
  go_quiet (fail)
  rw [HOR.out]
  go_wp2
  have hf0 : ¬ (f : Int) = 0 := by omega
  clear c1 c2 c3 d1 d2 HOR hn1 hn3
  go_quiet (fail)
  go_wp2
  go_step3
  go_wp2
  simp only [World.drewN_drewN]
  rw [show (high : Int) / f = ((high / f : Nat) : Int) from by simp, show (high : Int) % f = ((high % f : Nat) : Int) from by simp]
  have hg0 : high / f < 18446744073709551616 := Nat.lt_of_le_of_lt (Nat.div_le_self _ _) hhigh
  have hw0 : IntKind.u64.wrap ((high / f : Nat) : Int) = ((high / f : Nat) : Int) := by
    generalize high / f = z at *
    rw [wrap_u64]; omega
  rw [hw0]
  clear hw0
  generalize high / f = g0 at *
  generalize high % f = r0 at *
  go_loopg [10, 11] g0 (fun m gs rs wr => ∃ r : Nat, gs = .int .u64 m ∧ rs = .int .u64 r ∧ EstRel f s high x m r ∧ ∃ q, wr = w.drewN q)
  case atStart => exact ⟨r0, rfl, rfl, HST.out, _, rfl⟩
  case round =>
    obtain ⟨r, rfl, rfl, ⟨e1, e2, e3⟩, q, rfl⟩ := hrel
    have E1 := Lib.hid e1; have E2 := Lib.hid e2
    have hgk : gk < 18446744073709551616 := by
      have : gk ≤ gk * f := Nat.le_mul_of_pos_right _ hf
      omega
    clear e1 e2
    have hor2 := or_digits r x e3 hx
    have HOR2 := Lib.hid hor2
    clear hor2
    have HDN : Hid (4294967296 ≤ gk ∨ r * 4294967296 + x < gk * s → est 4294967296 (high * 4294967296 + x) (f * 4294967296 + s) ≤ gk - 1 ∧ 0 < gk) := fun h => est_down (by decide) E1.out h E2.out
    have HE1 : Hid (0 < gk → (gk - 1) * f + (r + f) = high) := fun h => by
      have := E1.out
      obtain ⟨j, rfl⟩ : ∃ j, gk = j + 1 := ⟨gk - 1, by omega⟩
      rw [Nat.add_mul, Nat.one_mul] at this
      rw [Nat.add_sub_cancel]; omega
    by_cases hbig : 4294967295 < gk
    · have hbig' : (4294967295 : Int) < gk := by omega
      have hd := HDN.out (.inl (by omega))
      have HQ := Lib.hid (HE1.out hd.2)
      have HD := Lib.hid hd.1
      clear hd HDN HE1 HOR2
      by_cases hr : 4294967295 < r + f
      · have hr' : (4294967295 : Int) < r + f := by omega
        have HX := Lib.hid (HEQ.out _ _ HQ.out (by omega) HD.out)
        have hlt : gk - 1 < 4294967296 := by
          rw [HX.out]; exact Nat.lt_of_le_of_lt (Nat.min_le_left _ _) (by decide)
        go_wp2
        try rw [Exit.noGoto_ret]
        go_ret
        exact ⟨ret_int' (by rw [← HX.out]; omega), q, rfl⟩
      · have hr' : ¬ (4294967295 : Int) < r + f := by omega
        go_wp2
        go_roundg (gk - 1)
        case measure => omega
        case rel => exact ⟨r + f, by go_num, by go_num, ⟨HQ.out, HD.out, by omega⟩, q, rfl⟩
    · have hgs : gk * s ≤ 4294967295 * 4294967295 := Nat.mul_le_mul (by omega) (by omega)
      have hgs2 : gk * s < 18446744073709551616 := by omega
      have hsm : ¬ (4294967295 : Int) < gk := by omega
      have hpe : (gk : Int) * s = ((gk * s : Nat) : Int) := by simp
      by_cases hp : r * 4294967296 + x < gk * s
      · have hd := HDN.out (.inr hp)
        have HQ := Lib.hid (HE1.out hd.2)
        have HD := Lib.hid hd.1
        have hgk0 := hd.2
        clear hd HDN HE1
        have hcmp : bits BinOp.or IntKind.u64 ((r : Int) * 4294967296) x < (gk : Int) * s := by rw [HOR2.out]; omega
        clear hpe
        by_cases hr : 4294967295 < r + f
        · have hr' : (4294967295 : Int) < r + f := by omega
          have HX := Lib.hid (HEQ.out _ _ HQ.out (by omega) HD.out)
          have hlt : gk - 1 < 4294967296 := by omega
          go_wp2
          try rw [Exit.noGoto_ret]
          go_ret
          exact ⟨ret_int' (by rw [← HX.out]; omega), q, rfl⟩
        · have hr' : ¬ (4294967295 : Int) < r + f := by omega
          go_wp2
          go_roundg (gk - 1)
          case measure => omega
          case rel => exact ⟨r + f, by go_num, by go_num, ⟨HQ.out, HD.out, by omega⟩, q, rfl⟩
      · have hcmp : ¬ bits BinOp.or IntKind.u64 ((r : Int) * 4294967296) x < (gk : Int) * s := by rw [HOR2.out]; omega
        have HX := Lib.hid (est_found (B := 4294967296) (s := s) hf (by decide) E1.out (by omega) (by omega) E2.out)
        have hlt : gk < 4294967296 := by omega
        clear hpe HDN HE1
        go_wp2
        try rw [Exit.noGoto_ret]
        go_ret
        exact ⟨ret_int' (by rw [← HX.out]), q, rfl⟩
end Go.Proofs.YteajinpfigejfaaGreatDoor
namespace Go.Proofs.YteajinpfigejfaaGreatDoor
open Go Go.RowKit Gu

/-- the two highest digits of a number, and what is below -/
theorem top_two {B d n : Nat} (hn : 2 ≤ n) (hd : d < B ^ n) : d / B ^ (n - 2) = dg B d (n - 1) * B + dg B d (n - 2) := by
  have e1 := div_succ B d (n - 2)
  rw [show n - 2 + 1 = n - 1 from by omega] at e1
  have e2 := div_succ B d (n - 1)
  rw [show n - 1 + 1 = n from by omega, Nat.div_eq_of_lt hd, Nat.mul_zero, Nat.add_zero] at e2
  rw [e1, e2, Nat.mul_comm B]; omega
/-- the three highest digits of a window -/
theorem top_three {B W n : Nat} (hn : 2 ≤ n) : W / B ^ (n - 2) = (W / B ^ n * B + dg B W (n - 1)) * B + dg B W (n - 2) := by
  have e1 := div_succ B W (n - 2)
  rw [show n - 2 + 1 = n - 1 from by omega] at e1
  have e2 := div_succ B W (n - 1)
  rw [show n - 1 + 1 = n from by omega] at e2
  rw [e1, e2, Nat.mul_comm B (dg B W (n - 1) + B * (W / B ^ n)), Nat.mul_comm B (W / B ^ n), Nat.add_comm (dg B W (n - 1))]; omega
/-- the estimate is the quotient, or one more -/
theorem win_est {B W d n : Nat} (hB : 1 < B) (hn : 2 ≤ n) (hd : d < B ^ n) (ht : 0 < dg B d (n - 1)) (hW : W < d * B) :
    ∃ e, e = est B ((W / B ^ n * B + dg B W (n - 1)) * B + dg B W (n - 2)) (dg B d (n - 1) * B + dg B d (n - 2)) ∧ (e = W / d ∨ e = W / d + 1) := by
  have hP : 0 < B ^ (n - 2) := Nat.pow_pos (by omega)
  have hv : B ≤ dg B d (n - 1) * B + dg B d (n - 2) := by
    have : B ≤ dg B d (n - 1) * B := Nat.le_mul_of_pos_left _ ht
    omega
  have eW : W = B ^ (n - 2) * ((W / B ^ n * B + dg B W (n - 1)) * B + dg B W (n - 2)) + W % B ^ (n - 2) := by
    rw [← top_three hn]; exact (Nat.div_add_mod _ _).symm
  have ed : d = B ^ (n - 2) * (dg B d (n - 1) * B + dg B d (n - 2)) + d % B ^ (n - 2) := by
    rw [← top_two hn hd]; exact (Nat.div_add_mod _ _).symm
  have h1 := Nat.mod_lt W hP
  have h2 := Nat.mod_lt d hP
  generalize (W / B ^ n * B + dg B W (n - 1)) * B + dg B W (n - 2) = u at *
  generalize dg B d (n - 1) * B + dg B d (n - 2) = v at *
  generalize W % B ^ (n - 2) = wl at *
  generalize d % B ^ (n - 2) = dl at *
  generalize B ^ (n - 2) = P at *
  have hlt : P * u + wl < (P * v + dl) * B := by rw [← eW, ← ed]; exact hW
  have hq : W / d = (P * u + wl) / (P * v + dl) := by rw [← eW, ← ed]
  have g1 := est_ge (by omega) (by omega) h1 hlt hq
  have g2 := est_le hP hv (by omega) h2 hlt hq
  exact ⟨_, rfl, by omega⟩
theorem win_top {B W d n : Nat} (hB : 0 < B) (hn : 1 ≤ n) (hd : d < B ^ n) (hW : W < d * B) : W / B ^ n ≤ dg B d (n - 1) := by
  have e2 := div_succ B d (n - 1)
  rw [show n - 1 + 1 = n from by omega, Nat.div_eq_of_lt hd, Nat.mul_zero, Nat.add_zero] at e2
  rw [← e2]
  have h : W / B ^ n ≤ d * B / B ^ n := Nat.div_le_div_right (Nat.le_of_lt hW)
  have e3 : d * B / B ^ n = d / B ^ (n - 1) := by
    have : B ^ n = B ^ (n - 1 + 1) := by rw [show n - 1 + 1 = n from by omega]
    rw [this, Nat.pow_succ, Nat.mul_div_mul_right _ _ hB]
  rw [e3] at h
  exact h
/-- the cells of a window -/
theorem buf_win {g M o n L W H i : Nat} {T : TypeId} {w : World} (h : Buf .u32 4294967296 T w g M (L + 4294967296 ^ o * (W + 4294967296 ^ (n + 1) * H))) (hL : L < 4294967296 ^ o) (hM : o + n + 1 ≤ M) (hi : i < n + 1) :
    w.cell? ⟨g, o + i, none⟩ = some (.int .u32 (dg 4294967296 W i : Nat)) := by
  rw [h.cell (by omega), dg_up (by decide) hL, dg_low (by decide) hi]
theorem dg_topw {B W n : Nat} (hW : W < B ^ (n + 1)) : dg B W n = W / B ^ n := by
  have e := div_succ B W n
  rw [Nat.div_eq_of_lt hW, Nat.mul_zero, Nat.add_zero] at e
  exact e.symm
theorem win_shape {B L W H o n : Nat} : L + B ^ o * (W + B ^ (n + 1) * H) = L + B ^ o * (W % B ^ n + B ^ n * (W / B ^ n + B * H)) := by
  have e : W + B ^ (n + 1) * H = W % B ^ n + B ^ n * (W / B ^ n + B * H) := by
    have := Nat.mod_add_div W (B ^ n)
    rw [Nat.mul_add, Nat.pow_succ, Nat.mul_assoc]
    omega
  rw [e]
theorem buf_top {g M o n L X wn H : Nat} {T : TypeId} {w : World} (h : Buf .u32 4294967296 T w g M (L + 4294967296 ^ o * (X + 4294967296 ^ n * (wn + 4294967296 * H)))) (hL : L < 4294967296 ^ o) (hX : X < 4294967296 ^ n) (hw : wn < 4294967296) (hM : o + n + 1 ≤ M) :
    w.cell? ⟨g, o + n, none⟩ = some (.int .u32 (wn : Nat)) := by
  rw [h.cell (by omega), dg_up (by decide) hL]
  have := dg_up (B := 4294967296) (i := 0) (y := wn + 4294967296 * H) (by decide) hX
  rw [Nat.add_zero] at this
  rw [this]; simp [dg, Nat.add_mul_mod_self_left, Nat.mod_eq_of_lt hw]
set_option maxHeartbeats 2000000 in
set_option maxRecDepth 100000 in
theorem divideWindow_any (g M o n cap L W H d : Nat) (v : Value) (w : World) (hb : Buf .u32 4294967296 92 w g M (L + 4294967296 ^ o * (W + 4294967296 ^ (n + 1) * H))) (hL : L < 4294967296 ^ o) (hW : W < d * 4294967296) (hM : o + n + 1 ≤ M) (hn2 : 2 ≤ n) (hn : n ≤ 1048576) (hcap : n + 1 ≤ cap)
    (hr : D w v d) (hrn : nd 4294967296 d = n) (hne : ∀ b o c l, v = .slice (some ⟨b, o, none⟩) l c → 0 < d → b ≠ g) :
    Calls Tryz.prog 106 #[.slice (some ⟨g, o, none⟩) (n + 1) cap, v] w fun e w' => e = .returned (.int .u32 (W / d : Nat)) ∧ W / d < 4294967296 ∧
      Buf .u32 4294967296 92 w' g M (L + 4294967296 ^ o * (W % d + 4294967296 ^ n * (W / 4294967296 ^ n + 4294967296 * H))) ∧ w.grownBy w' (some g) := by
  have hB : 2 ≤ 4294967296 := by decide
  have hd0 : 0 < d := by omega
  have hdn : d < 4294967296 ^ n := by rw [← hrn]; exact nd_lt hB d
  have htop : 0 < dg 4294967296 d (n - 1) := by rw [← hrn]; exact dg_top hB hd0
  obtain ⟨E, hE, hEq⟩ := win_est (B := 4294967296) (by decide) hn2 hdn htop hW
  have hq : W / d < 4294967296 := by rw [Nat.div_lt_iff_lt_mul hd0, Nat.mul_comm]; exact hW
  have hWn : W < 4294967296 ^ (n + 1) := by
    rw [Nat.pow_succ]
    exact Nat.lt_of_lt_of_le hW (Nat.mul_le_mul_right _ (Nat.le_of_lt hdn))
  have htw := win_top (B := 4294967296) (by decide) (by omega) hdn hW
  have hdtl := dg_lt (B := 4294967296) (by decide) d (n - 1)
  have hE1 : E < 4294967296 := by rw [hE]; exact Nat.lt_of_le_of_lt (Nat.min_le_left _ _) (by decide)
  have c1 := buf_win hb hL hM (i := n) (by omega)
  rw [dg_topw hWn] at c1
  have c2 := buf_win hb hL hM (i := n - 1) (by omega)
  have c3 := buf_win hb hL hM (i := n - 2) (by omega)
  obtain ⟨ao, ac, rfl, hcv⟩ := hr.shape
  rw [hrn] at hcv hr hne ⊢
  obtain ⟨bb, bo, rfl, d1⟩ := hcv (n - 1) (by omega)
  obtain ⟨bb', bo', hbb, d2⟩ := hcv (n - 2) (by omega)
  simp only [Option.some.injEq, Addr.mk.injEq, and_true] at hbb
  obtain ⟨rfl, rfl⟩ := hbb
  have HEST := Lib.hid (fun q => estimate_any g o n cap bb bo ac _ _ _ _ _ (w.drewN q) hn2 hn c1 c2 c3 d1 d2 htop hdtl (dg_lt (by decide) _ _) htw (dg_lt (by decide) _ _) (dg_lt (by decide) _ _))
  rw [← hE] at HEST
  rw [win_shape] at hb
  have hwn : W / 4294967296 ^ n < 4294967296 := by omega
  have hWl : W % 4294967296 ^ n < 4294967296 ^ n := Nat.mod_lt _ (Nat.pow_pos (by decide))
  have HWD : Hid (W = W % 4294967296 ^ n + 4294967296 ^ n * (W / 4294967296 ^ n)) := (Nat.mod_add_div _ _).symm
  have HEQ := Lib.hid hEq
  have HDN := Lib.hid hdn
  have HNE := Lib.hid hne
  have HR := Lib.hid hr
  have HQ := Lib.hid hq
  have hnd : nd 4294967296 d = n := hrn
  have HND := Lib.hid hnd
  have HSUB := Lib.hid (fun q => subtractRow_any g M o n n L (W % 4294967296 ^ n) (W / 4294967296 ^ n + 4294967296 * H) d E (.slice (some ⟨bb, bo, none⟩) n ac) (w.drewN q).drew hb hL hWl (by omega) hn ((IsN.drewN hr q).below (Below.refl _ _).drew) hnd hne hE1)
  have HTOP := Lib.hid (fun W1 X (h : Buf .u32 4294967296 92 W1 g M (L + 4294967296 ^ o * (X + 4294967296 ^ n * (W / 4294967296 ^ n + 4294967296 * H)))) (h2 : X < 4294967296 ^ n) => buf_top h hL h2 hwn (by omega))
  have HDG := Lib.hid (fun q W1 (h : (w.drewN q).drew.grownBy W1 (some g)) => IsN.grown (IsN.below (IsN.drewN hr q) (Below.refl _ _).drew) h (fun b o c l he h0 => hne b o c l he h0))
  have HADD := Lib.hid (fun X W1 (h1 : Buf .u32 4294967296 92 W1 g M (L + 4294967296 ^ o * (X + 4294967296 ^ n * (W / 4294967296 ^ n + 4294967296 * H)))) (h2 : X < 4294967296 ^ n) (h3 : D W1 (.slice (some ⟨bb, bo, none⟩) n ac) d) => addRow_any g M o n n L X (W / 4294967296 ^ n + 4294967296 * H) d 1 (.slice (some ⟨bb, bo, none⟩) n ac) W1 h1 hL h2 (by omega) hn h3 hnd hne (by decide))
  clear hb hWl hE hEq hdn htop hW hWn htw hdtl c2 c3 d1 d2 hcv hr hne hrn hq hnd hL
  have HDP := Lib.hid hd0
  clear hd0
  generalize W / 4294967296 ^ n = wn at *
  generalize W % 4294967296 ^ n = Wl at *
  go_enter Tryz.func106, Tryz.ntmps106
  go_wp2
  go_quiet ((go_at_call 117; exact Calls.quiet_of (HEST.out _)))
  go_wp2
  have c1' : (w.drewN nq).drew.cell? ⟨g, o + n, none⟩ = some (.int .u32 (wn : Nat)) := c1
  have HS1 := Lib.hid (HSUB.out nq)
  have hi1 : (0 : Int) ≤ n := by omega
  have hi2 : (n : Int) < ((n + 1 : Nat) : Int) := by omega
  have hi3 : (n : Int) < (n : Int) + 1 := by omega
  clear HSUB c1
  go_region_held3 (fun W : World => W.cell? ⟨g, o + n, none⟩ = some (.int .u32 (wn : Nat))) (assumption) (first | (go_at_call 118; refine HS1.out.mono ?_; rintro e w' ⟨X, c, rfl, hc, hX, hsum, hbf, hgr⟩; have hc2 := HTOP.out _ _ hbf hX))
  have HG1 : Hid (w.grownBy w' (some g)) := grownBy_trans (grownBy_drewN (grownBy_drewN (grownBy_refl _ _) nq) 1) hgr
  by_cases hcw : wn < c
  · have hE0 : 0 < E := by
      rcases Nat.eq_zero_or_pos E with h | h
      · subst h
        have h1 : 4294967296 ^ n * 1 ≤ 4294967296 ^ n * c := Nat.mul_le_mul_left _ (by omega)
        omega
      · exact h
    have HA := Lib.hid (HADD.out X w' hbf hX (HDG.out nq w' hgr))
    have HB1 : Hid (∀ Y k, Y < 4294967296 ^ n → Y + 4294967296 ^ n * k = X + 1 * d → E = W / d + 1 ∧ Y = W % d) := fun Y k hY hback => window_back hX HDN.out HWD.out hsum HEQ.out HDP.out hcw hY hback
    clear hsum hbf hgr hX hc2 HADD HS1
    go_wp2_with fail
    refine HA.out.mono ?_
    rintro e w2 ⟨Y, k, rfl, hk, hY, hback, hbf2, hgr2⟩
    have HB2 := Lib.hid (HB1.out Y k hY hback)
    have HBF := Lib.hid hbf2
    have HG2 := Lib.hid (grownBy_trans HG1.out hgr2)
    clear hback hbf2 hgr2 hY
    go_wp2
    go_ret
    exact ⟨ret_int' (by have := HB2.out.1; omega), HQ.out, by rw [← HB2.out.2]; exact HBF.out, HG2.out⟩
  · have HB2 := Lib.hid (window_ok HDN.out HWD.out hsum HEQ.out HDP.out (by omega))
    have HBF := Lib.hid hbf
    clear hsum hbf hgr hX hc2 HADD HS1
    go_wp2
    go_ret
    exact ⟨ret_int' (by have := HB2.out.1; omega), HQ.out, by rw [← HB2.out.2]; exact HBF.out, HG1.out⟩
end Go.Proofs.YteajinpfigejfaaGreatDoor
namespace Go.Proofs.YteajinpfigejfaaGreatDoor
open Go Go.RowKit Gu

/-- a number's digits copied over a row of zeros -/
theorem copy_row {cur : List Value} {m x : Nat} (hz : ∀ i, i < m → cur[i]? = some (.int .u32 0)) (hx : x < 4294967296 ^ m) (i : Nat) (hi : i < m) :
    ((splice cur 0 ((pad 4294967296 (nd 4294967296 x) x).map fun d : Nat => Value.int .u32 (d : Int))).toArray)[i]? = some (.int .u32 (dg 4294967296 x i : Nat)) := by
  have hnd : nd 4294967296 x ≤ m := (nd_le (by decide)).2 hx
  have hl : ((pad 4294967296 (nd 4294967296 x) x).map fun d : Nat => Value.int .u32 (d : Int)).length = nd 4294967296 x := by simp [pad]
  simp only [splice, List.take_zero, List.nil_append, List.getElem?_toArray]
  by_cases h : i < nd 4294967296 x
  · rw [List.getElem?_append_left (by rw [hl]; exact h)]
    simp [pad, h]
  · rw [List.getElem?_append_right (by rw [hl]; omega), hl, List.getElem?_drop, show 0 + nd 4294967296 x + (i - nd 4294967296 x) = i from by omega, hz i hi]
    rw [dg_high (by decide) (nd_lt (by decide) x) (by omega)]
    rfl
theorem lz_pow {t : Nat} (h0 : 0 < t) (h : t < 4294967296) : Go.Lib.bitLen t ≤ 32 ∧ 0 < Go.Lib.bitLen t ∧ t * 2 ^ (32 - Go.Lib.bitLen t) < 4294967296 := by
  have h1 : Go.Lib.bitLen t ≤ 32 := Go.Lib.bitLen_le t 32 (by decide) (by simpa using h)
  have h2 : t < 2 ^ Go.Lib.bitLen t := (Go.Lib.bitLenAux_bounds 64 t (by omega) (by omega)).2.2
  refine ⟨h1, ?_, ?_⟩
  · rcases Nat.eq_zero_or_pos (Go.Lib.bitLen t) with h' | h'
    · rw [h'] at h2; simp at h2; omega
    · exact h'
  · have h3 : t * 2 ^ (32 - Go.Lib.bitLen t) < 2 ^ Go.Lib.bitLen t * 2 ^ (32 - Go.Lib.bitLen t) := Nat.mul_lt_mul_of_pos_right h2 (Nat.pow_pos (by decide))
    rw [← Nat.pow_add, show Go.Lib.bitLen t + (32 - Go.Lib.bitLen t) = 32 from by omega] at h3
    simpa using h3
/-- the divisor, shifted, has as many digits -/
theorem shl_nd {b s n : Nat} (hn : nd 4294967296 b = n) (hn2 : 2 ≤ n) (hs : dg 4294967296 b (n - 1) * 2 ^ s < 4294967296) (hs32 : s ≤ 32) : nd 4294967296 (b * 2 ^ s) = n := by
  have hB : 2 ≤ 4294967296 := by decide
  have hp : 0 < 2 ^ s := Nat.pow_pos (by decide)
  have h1 := nd_lt hB b
  rw [hn] at h1
  have hle : nd 4294967296 b ≤ nd 4294967296 (b * 2 ^ s) := nd_mono hB (Nat.le_mul_of_pos_right _ hp)
  have hge : nd 4294967296 (b * 2 ^ s) ≤ n := by
    apply (nd_le hB).2
    have e1 := div_succ 4294967296 b (n - 1)
    rw [show n - 1 + 1 = n from by omega, Nat.div_eq_of_lt h1, Nat.mul_zero, Nat.add_zero] at e1
    rw [← e1] at hs
    have e2 : b < (b / 4294967296 ^ (n - 1) + 1) * 4294967296 ^ (n - 1) := by
      have := Nat.lt_div_mul_add (Nat.pow_pos (n := n - 1) (by decide : 0 < 4294967296)) (a := b)
      rw [Nat.add_mul, Nat.one_mul]; exact this
    have e3 : b * 2 ^ s < ((b / 4294967296 ^ (n - 1) + 1) * 4294967296 ^ (n - 1)) * 2 ^ s := Nat.mul_lt_mul_of_pos_right e2 hp
    have e4 : (b / 4294967296 ^ (n - 1) + 1) * 2 ^ s ≤ 4294967296 := by
      have e6 := pow_dvd32 hs32
      have e7 : b / 4294967296 ^ (n - 1) * 2 ^ s < 2 ^ (32 - s) * 2 ^ s := by rw [Nat.mul_comm (2 ^ (32 - s)), ← e6]; exact hs
      have e8 := Nat.lt_of_mul_lt_mul_right e7
      have e9 : (b / 4294967296 ^ (n - 1) + 1) * 2 ^ s ≤ 2 ^ (32 - s) * 2 ^ s := Nat.mul_le_mul_right _ e8
      rw [Nat.mul_comm (2 ^ (32 - s)), ← e6] at e9
      exact e9
    have e5 : ((b / 4294967296 ^ (n - 1) + 1) * 4294967296 ^ (n - 1)) * 2 ^ s ≤ 4294967296 ^ n := by
      rw [Nat.mul_right_comm]
      refine Nat.le_trans (Nat.mul_le_mul_right _ e4) ?_
      rw [Nat.mul_comm, ← Nat.pow_succ]
      exact Nat.pow_le_pow_right (by decide) (by omega)
    omega
  omega
theorem Buf.grown {k : IntKind} {B : Nat} {T : TypeId} {w w' : World} {g gq m x : Nat} (h : Buf k B T w gq m x) (hb : w.grownBy w' (some g)) (hne : gq ≠ g) : Buf k B T w' gq m x :=
  World.rowIs.of_block h (hb.block gq (Buf.lt h) (by simp only [ne_eq, Option.some.injEq]; intro e; exact hne e))
/-- the arithmetic of one round -/
theorem long_digit {B x d k : Nat} (hd : 0 < d) : (x / B ^ k) % d = (dg B x k + B * ((x / B ^ (k + 1)) % d)) % d ∧ (x / B ^ k) / d = (dg B x k + B * ((x / B ^ (k + 1)) % d)) / d + B * ((x / B ^ (k + 1)) / d) := by
  have e1 := div_succ B x k
  have e2 := Nat.div_add_mod (x / B ^ (k + 1)) d
  generalize x / B ^ (k + 1) = y at *
  have e3 : x / B ^ k = dg B x k + B * (y % d) + d * (B * (y / d)) := by
    rw [e1]
    have : B * y = B * (d * (y / d)) + B * (y % d) := by rw [← Nat.mul_add, e2]
    rw [this, Nat.mul_left_comm]; omega
  rw [e3]
  exact ⟨Nat.add_mul_mod_self_left _ _ _, Nat.add_mul_div_left _ _ hd⟩
theorem long_lt {B x d k : Nat} (hB : 0 < B) (hd : 0 < d) : dg B x k + B * ((x / B ^ (k + 1)) % d) < d * B := by
  have h1 := dg_lt hB x k
  have h2 := Nat.mod_lt (x / B ^ (k + 1)) hd
  have h3 : B * ((x / B ^ (k + 1)) % d) + B ≤ B * d := by rw [← Nat.mul_succ]; exact Nat.mul_le_mul_left _ h2
  rw [Nat.mul_comm d]; omega
theorem long_shape {B x R n H k : Nat} : x % B ^ (k + 1) + B ^ (k + 1) * (R + B ^ n * H) = x % B ^ k + B ^ k * ((dg B x k + B * R) + B ^ (n + 1) * H) := by
  rw [mod_succ, Nat.pow_succ, Nat.mul_assoc, Nat.mul_add B, Nat.mul_add (B ^ k), Nat.mul_add (B ^ k), Nat.mul_add (B ^ k), Nat.pow_succ, Nat.mul_comm (B ^ n) B, Nat.mul_assoc B]
  omega
/-- what the loop of divideLong keeps: k digits of the quotient are still to come -/
def LongRel (x d n m : Nat) (g gq : Nat) (w : World) (k : Nat) (wr : World) : Prop :=
  ∃ H, Buf .u32 4294967296 92 wr g (m + n) (x % 4294967296 ^ k + 4294967296 ^ k * ((x / 4294967296 ^ k) % d + 4294967296 ^ n * H)) ∧
    Buf .u32 4294967296 92 wr gq m (0 + 4294967296 ^ k * ((x / 4294967296 ^ k) / d)) ∧ Below w.heap.size w wr
/-- what stands when the loop has ended -/
structure LongEnd (g gq n m q r : Nat) (w1 W : World) : Prop where
  bq : Buf .u32 4294967296 92 W gq m q
  br : ∀ i, i < n → W.cell? ⟨g, i, none⟩ = some (.int .u32 (dg 4294967296 r i : Nat))
  bel : Below w1.heap.size w1 W
  lt : g < W.heap.size
theorem LongEnd.next {g gq n m q r : Nat} {w1 W W' : World} (h : LongEnd g gq n m q r w1 W) (hb : Below W.heap.size W W') : LongEnd g gq n m q r w1 W' :=
  ⟨Gu.Buf.below h.bq hb (Gu.Buf.lt h.bq), fun i hi => (hb.cell (p := ⟨g, i, none⟩) h.lt).trans (h.br i hi), h.bel.trans (hb.mono h.bel.size), Nat.lt_of_lt_of_le h.lt hb.size⟩
theorem LongEnd.rest {g gq n m q r : Nat} {w1 W : World} (h : LongEnd g gq n m q r w1 W) (hr : r < 4294967296 ^ n) (cap : Nat) : D W (.slice (some ⟨g, 0, none⟩) (nd 4294967296 r) cap) r := by
  rcases Nat.eq_zero_or_pos r with h0 | h0
  · subst h0; rw [nd_zero]; exact IsN.zero _ _ _ _ _
  · exact .inr ⟨h0, g, 0, cap, rfl, fun i hi => by rw [Nat.zero_add]; exact h.br i (Nat.lt_of_lt_of_le hi ((nd_le (by decide)).2 hr))⟩
set_option maxHeartbeats 2000000 in
set_option maxRecDepth 100000 in
theorem divideLong_any (v u : Value) (a b : Nat) (w : World) (hv : D w v a) (hu : D w u b) (hab : b ≤ a) (hb2 : 2 ≤ nd 4294967296 b) (ha : nd 4294967296 a ≤ 400000) :
    Calls Tryz.prog 94 #[v, u] w fun e w' => ∃ q r, e = .returned (.tuple #[q, r]) ∧ D w' q (a / b) ∧ D w' r (a % b) ∧ Below w.heap.size w w' := by
  have hB : 2 ≤ 4294967296 := by decide
  have hnm := nd_mono hB hab
  have hb0 : 0 < b := by
    rcases Nat.eq_zero_or_pos b with h | h
    · subst h; rw [nd_zero] at hb2; omega
    · exact h
  have htop := dg_top hB hb0
  have htl := dg_lt (B := 4294967296) (by decide) b (nd 4294967296 b - 1)
  obtain ⟨l1, l2, l3⟩ := lz_pow htop htl
  obtain ⟨s, hs⟩ : ∃ s, s = 32 - Go.Lib.bitLen (dg 4294967296 b (nd 4294967296 b - 1)) := ⟨_, rfl⟩
  have hlz : (32 : Int) - (Go.Lib.bitLen (dg 4294967296 b (nd 4294967296 b - 1)) : Int) = s := by omega
  rw [← hs] at l3
  have hs31 : s ≤ 31 := by omega
  have hdn := shl_nd rfl hb2 l3 (by omega)
  have HLZ := Lib.hid (fun w => (Tryz.bits_LeadingZeros32 (dg 4294967296 b (nd 4294967296 b - 1) : Nat) w (by omega) (by omega)).mono (fun _ _ h => And.intro h.1 h.2.symm))
  rw [Int.toNat_natCast, hlz] at HLZ
  have HSB := Lib.hid (shiftLeft_any u b s w hu (by omega) (by omega))
  have HSA := Lib.hid (fun W (h : D W v a) => shiftLeft_any v a s W h (by omega) (by omega))
  have HV := Lib.hid hv
  obtain ⟨bo, bc, rfl, hcu⟩ := hu.shape
  obtain ⟨gb, go, rfl, hcb⟩ := hcu (nd 4294967296 b - 1) (by omega)
  obtain ⟨ao, ac, rfl, -⟩ := hv.shape
  have HDN := Lib.hid hdn
  clear hv hu hcu hab hs l1 l2 l3 hlz hdn
  have HND : Hid (nd 4294967296 a = nd 4294967296 a) := rfl
  generalize hna : nd 4294967296 a = la at *
  generalize hnb : nd 4294967296 b = n at *
  have HNA := Lib.hid hna; have HNB := Lib.hid hnb
  clear hna hnb HND
  generalize dg 4294967296 b (n - 1) = t at *
  have hmk1 := made_u32 (la + 1) (by omega)
  rw [show (((la + 1 : Nat)) : Int) = (la : Int) + 1 from by omega] at hmk1
  have hmk2 := made_u32 (la - n + 1) (by omega)
  rw [show (((la - n + 1 : Nat)) : Int) = (la : Int) - n + 1 from by omega] at hmk2
  go_enter Tryz.func94, Tryz.ntmps94
  go_wp2_with fail
  refine (HLZ.out _).mono ?_
  rintro e w' ⟨rfl, rfl⟩
  go_wp2_with fail
  refine HSB.out.mono ?_
  rintro e w1 ⟨dv, rfl, hd, hbel⟩
  have hz1 := hbel.size
  have HV1 := Lib.hid (HV.out.below (hbel.alloc hbel.size (.cells (madeCells #[.int .u32 0] (la + 1)) 92)))
  have hdb : ∀ bb o c l, dv = .slice (some ⟨bb, o, none⟩) l c → 0 < b * 2 ^ s → bb ≠ w1.heap.size := by
    intro bb o c l he h0
    rcases hd with ⟨h, _⟩ | ⟨_, b', o', c', he', hc'⟩
    · omega
    · rw [he'] at he
      simp only [Value.slice.injEq, Option.some.injEq, Addr.mk.injEq, and_true] at he
      obtain ⟨⟨rfl, rfl⟩, _, _⟩ := he
      have := World.block_lt_of_cell? _ _ (hc' 0 (nd_pos hB h0))
      exact Nat.ne_of_lt this
  have HDB := Lib.hid hdb
  clear hdb
  obtain ⟨d0, dc, rfl, -⟩ := hd.shape
  rw [HDN.out] at hd HDB ⊢
  have HD1 := Lib.hid hd
  have HB1 := Lib.hid hbel
  clear hd hbel hcb
  go_wp2_with fail
  refine (HSA.out _ HV1.out).mono ?_
  rintro e w2 ⟨av, rfl, hav, hbel⟩
  obtain ⟨a0, acc, rfl, -⟩ := hav.shape
  have hxl : a * 2 ^ s < 4294967296 ^ (la + 1) := by
    have h1 := nd_lt hB a
    rw [HNA.out] at h1
    rw [Nat.pow_succ]
    exact Nat.mul_lt_mul_of_lt_of_le h1 (Nat.le_trans (Nat.pow_le_pow_right (by decide) (show s ≤ 32 by omega)) (by decide)) (by decide)
  have hrow : Buf .u32 4294967296 92 w2 w1.heap.size (la + 1) 0 := (Buf.made .u32 4294967296 92 w1 (la + 1)).below hbel (by simp)
  obtain ⟨cur, hcur, hcsz, hcz⟩ := hrow
  have hcur' : w2.heap[w1.heap.size]? = some (.cells cur.toList.toArray 92 (0, 0)) := by rw [Array.toArray_toList]; exact hcur
  have HB12 := Lib.hid (((Below.refl w1.heap.size w1).alloc (Nat.le_refl _) (.cells (madeCells #[.int .u32 0] (la + 1)) 92)).trans (hbel.mono (by simp)))
  have HXL := Lib.hid hxl
  have HCPY := Lib.hid (fun i hi => copy_row (cur := cur.toList) (m := la + 1) (x := a * 2 ^ s) (fun i hi => by rw [Array.getElem?_toList, hcz i hi]; simp only [dg_zero]; rfl) hxl i hi)
  have HAV := Lib.hid hav
  have hnx : nd 4294967296 (a * 2 ^ s) ≤ la + 1 := (nd_le hB).2 hxl
  have hcl : cur.toList.length = la + 1 := by rw [Array.length_toList]; exact hcsz
  have hz2 := hbel.size
  simp only [World.size_alloc] at hz2
  clear hav hbel hxl hcur hcz hcsz HV1 HSA HLZ HV
  obtain ⟨CS, hCS⟩ : ∃ CS, CS = (pad 4294967296 (nd 4294967296 (a * 2 ^ s)) (a * 2 ^ s)).map fun d : Nat => Value.int .u32 (d : Int) := ⟨_, rfl⟩
  have hCSl : CS.length = nd 4294967296 (a * 2 ^ s) := by rw [hCS]; simp [pad]
  have HCS := Lib.hid hCS
  rw [← hCS] at HCPY
  have H1C : Hid (∀ v ∈ CS, v.oneCell' = true) := by rw [HCS.out]; exact newsU32 _ _
  have HSRC : Hid (0 < CS.length → ∃ ad, a0 = some ad ∧ ∀ j v, CS[j]? = some v → w2.cell? (ad.add j) = some v) := by
    intro h0
    rcases HAV.out with ⟨h1, -⟩ | ⟨h1, gb, go, cc, he, hc⟩
    · rw [hCSl, h1, nd_zero] at h0; omega
    · simp only [Value.slice.injEq] at he
      refine ⟨_, he.1, fun j v hj => ?_⟩
      have hjl : j < nd 4294967296 (a * 2 ^ s) := by
        rw [← hCSl]; exact (List.getElem?_eq_some_iff.1 hj).1
      have := hc j hjl
      rw [Addr.add_lit, this]
      rw [HCS.out] at hj
      simp [pad, hjl] at hj
      rw [← hj]
  have HNL := Lib.hid hCSl
  clear hCS hCSl
  generalize nd 4294967296 (a * 2 ^ s) = nx at *
  have hsz1 : (Tryz.prog.info? 92).map (·.size) = some 1 := by kernel_rfl
  go_wp2_with ((with_reducible show wpList _ _ _ _ _ _); go_must (refine wpList_copy_splice rfl (.tmp 29) (.tmp 32) 23 24 rfl 92 Tryz.underlying23 hsz1 (some ⟨w1.heap.size, 0, none⟩) a0 (la + 1) (la + 1) nx acc (by rfl) (by rfl) w1.heap.size 0 cur.toList 92 hcur' CS ?c0 ?c1 ?c2 H1C.out w1.heap.size w2 (Below.refl _ _) ?c3 ?_))
  case c0 => rw [HNL.out]; exact (Nat.min_eq_left hnx).symm
  case c1 => intro h0; first | exact ⟨rfl, HSRC.out h0⟩ | exact HSRC.out h0
  case c2 => rw [HNL.out, hcl]; omega
  case c3 => exact Nat.le_refl _
  intro w3 hrow3 hb3
  have HROW : Hid (Buf .u32 4294967296 92 w3 w1.heap.size (la + 1) (a * 2 ^ s)) := by
    refine ⟨_, hrow3.out, ?_, HCPY.out⟩
    rw [List.size_toArray, length_splice _ _ _ (by rw [HNL.out, hcl]; omega), hcl]
  have hz3 := hb3.size
  have hb13 := HB12.out.trans hb3
  have HB3 := Lib.hid hb13
  have hz13 := hb13.size
  clear hb13
  clear hrow3 hb3 hcl hcur' HCPY HNL HSRC HCS H1C HB12 hsz1
  have HBA : Hid (b * 2 ^ s ≠ 0) := Nat.ne_of_gt (Nat.mul_pos hb0 (Nat.pow_pos (by decide)))
  have HLN := Lib.hid (nd_lt hB b)
  have HPW : Hid (4294967296 ^ (n - 1) ≤ b) := by show _ ≤ _; rw [← HNB.out]; exact nd_pow_le hB hb0
  have HDP : Hid (0 < b * 2 ^ s) := Nat.pos_of_ne_zero HBA.out
  obtain ⟨m, hm⟩ : ∃ m, m = la - n + 1 := ⟨_, rfl⟩
  have hmi : (la : Int) - n + 1 = m := by omega
  have hla : la + 1 = m + n := by omega
  have HQ0 : Hid (a * 2 ^ s / 4294967296 ^ m < b * 2 ^ s) := by
    show _ < _
    rw [Nat.div_lt_iff_lt_mul (Nat.pow_pos (by decide)), Nat.mul_right_comm]
    refine Nat.mul_lt_mul_of_pos_right ?_ (Nat.pow_pos (by decide))
    have h1 := nd_lt hB a
    rw [HNA.out] at h1
    refine Nat.lt_of_lt_of_le h1 (Nat.le_trans ?_ (Nat.mul_le_mul_right _ HPW.out))
    rw [← Nat.pow_add]
    exact Nat.pow_le_pow_right (by decide) (by omega)
  have HMI := Lib.hid hmi
  have HMM := Lib.hid hm
  have HROW2 := HROW.out
  rw [hla] at HROW2
  have HR3 := Lib.hid HROW2
  clear HROW2 HROW hmi hm
  go_wp2
  rw [HMI.out, ← HMM.out]
  have hw3a : Below w3.heap.size w3 (w3.alloc (.cells (madeCells #[.int .u32 0] m) 92)) := (Below.refl _ _).alloc (Nat.le_refl _) _
  have HST : Hid (LongRel (a * 2 ^ s) (b * 2 ^ s) n m w1.heap.size w3.heap.size w1 m (w3.alloc (.cells (madeCells #[.int .u32 0] m) 92))) := by
    refine ⟨0, ?_, ?_, HB3.out.trans (hw3a.mono hz13)⟩
    · rw [Nat.mul_zero, Nat.add_zero, Nat.mod_eq_of_lt HQ0.out, Nat.mod_add_div]
      exact HR3.out.below hw3a (by omega)
    · rw [Nat.div_eq_of_lt HQ0.out, Nat.mul_zero]
      exact Buf.made _ _ _ _ _
  rw [show ((la - n : Nat) : Int) + 1 = m from by have := HMM.out; omega]
  have hgq : w1.heap.size < w3.heap.size := by omega
  have HLA := Lib.hid hla
  have hml : m ≤ 400001 := by omega
  clear hla hw3a HB3 HR3 HMI HMM hmk1 hmk2 hz13 hz2 hz3 hz1 hnx HSB HXL HAV
  obtain ⟨x, hx⟩ : ∃ x, x = a * 2 ^ s := ⟨_, rfl⟩
  obtain ⟨d, hd⟩ : ∃ d, d = b * 2 ^ s := ⟨_, rfl⟩
  have HX := Lib.hid hx; have HDE := Lib.hid hd
  rw [← hx, ← hd] at HST HQ0
  rw [← hd] at HD1 HDB HDN HDP
  clear hx hd
  go_loopw [42] (fun t wr => ∃ j k : Nat, Hid (j + k = m) ∧ t = .int .i64 j ∧ LongRel x d n m w1.heap.size w3.heap.size w1 k wr) (fun t _ => m - (intOf t).toNat)
  case atStart => exact ⟨0, m, by show _ = _; omega, rfl, HST.out⟩
  case round =>
    obtain ⟨j, k, HJK, rfl, H, hbuf, hq, hbel⟩ := hrel
    cases k with
    | zero =>
      have hjm : j = m := by have := HJK.out; omega
      rw [Nat.pow_zero, Nat.div_one, Nat.mod_one, Nat.zero_add, Nat.one_mul] at hbuf
      rw [Nat.pow_zero, Nat.div_one, Nat.zero_add, Nat.one_mul] at hq
      have HQL : Hid (x / d < 4294967296 ^ m) := by
        show _ < _
        rw [Nat.div_lt_iff_lt_mul HDP.out, Nat.mul_comm]
        exact (Nat.div_lt_iff_lt_mul (Nat.pow_pos (by decide))).1 HQ0.out
      have HRL : Hid (x % d < 4294967296 ^ n) := by
        have := nd_lt hB d
        rw [HDN.out] at this
        exact Nat.lt_trans (Nat.mod_lt _ HDP.out) this
      have hend : LongEnd w1.heap.size w3.heap.size n m (x / d) (x % d) w1 wr := ⟨hq, fun i hi => by rw [Gu.Buf.cell hbuf (by omega), dg_low (by decide) hi], hbel, Gu.Buf.lt hbuf⟩
      clear hbuf hq hbel
      subst hjm
      have HT1 := Lib.hid (fun W (h : LongEnd w1.heap.size w3.heap.size n j (x / d) (x % d) w1 W) => trim_buf w3.heap.size j j (x / d) W h.bq HQL.out (by omega) (Nat.le_refl _))
      have HT2 := Lib.hid (fun W (h : LongEnd w1.heap.size w3.heap.size n j (x / d) (x % d) w1 W) => trim_any w1.heap.size n (la + 1) (x % d) W h.br HRL.out (by omega) (by omega))
      have HSR := Lib.hid (fun W (h : LongEnd w1.heap.size w3.heap.size n j (x / d) (x % d) w1 W) => (shiftRight_any (.slice (some ⟨w1.heap.size, 0, none⟩) (nd 4294967296 (x % d)) (nd 4294967296 (x % d))) (x % d) s W (h.rest HRL.out _) (by have := (nd_le hB).2 HRL.out; omega) (by omega)).mono fun e w' ⟨r, he, hr, hb⟩ =>
        (show ∃ ro rl rc, e = Ending.returned (.slice ro rl rc) ∧ D w' (.slice ro rl rc) (x % d / 2 ^ s) ∧ LongEnd w1.heap.size w3.heap.size n j (x / d) (x % d) w1 w' from by
          obtain ⟨ro, rc, rfl, -⟩ := hr.shape
          exact ⟨ro, _, rc, he, hr, h.next hb⟩))
      have hsx : nd 4294967296 (x / d) ≤ j := (nd_le hB).2 HQL.out
      have hend2 := hend.next (Below.refl wr.heap.size wr).drew
      clear hend
      have HXD : Hid (x / d = a / b ∧ x % d / 2 ^ s = a % b) := by
        have hp : 0 < 2 ^ s := Nat.pow_pos (by decide)
        refine ⟨?_, ?_⟩
        · rw [HX.out, HDE.out, Nat.mul_div_mul_right _ _ hp]
        · rw [HX.out, HDE.out, Nat.mul_mod_mul_right, Nat.mul_div_cancel _ hp]
      obtain ⟨rr, hrr⟩ : ∃ rr, rr = x % d / 2 ^ s := ⟨_, rfl⟩
      rw [← hrr] at HSR HXD
      clear hrr
      have hi1 : (0 : Int) ≤ n := by omega
      have hi2 : (n : Int) ≤ (la : Int) + 1 := by omega
      have hi3 : (n : Int) ≤ ((la + 1 : Nat) : Int) := by omega
      have hi4 : n ≤ la + 1 := by omega
      go_wp2_with fail
      go_region_held3 (fun W : World => LongEnd w1.heap.size w3.heap.size n j (x / d) (x % d) w1 W) (assumption) (first
        | (go_at_call 107; refine (HSR.out _ ?h).mono ?_; (case h => assumption); rintro e w' ⟨ro, rl, rc, rfl, hr, hs'⟩)
        | (go_at_call 67; with_reducible refine (HT1.out _ ?h).mono ?_; (case h => assumption); rintro e w' ⟨rfl, rfl⟩)
        | (go_at_call 67; with_reducible refine (HT2.out _ ?h).mono ?_; (case h => assumption); rintro e w' ⟨rfl, rfl⟩))
      all_goals go_wp2
      all_goals go_ret2
      all_goals exact ⟨_, _, rfl, by rw [← HXD.out.1]; exact hs'.bq.isN hB HQL.out _, by rw [← HXD.out.2]; exact hr, HB1.out.trans (hs'.bel.mono HB1.out.size)⟩
    | succ k =>
      have hjm : j < m := by have := HJK.out; omega
      have hjm2 : (j : Int) < m := by omega
      have e1 : (m : Int) - 1 - j = k := by have := HJK.out; omega
      rw [long_shape] at hbuf
      have HW := Lib.hid (divideWindow_any w1.heap.size (m + n) k n (n + 1) (x % 4294967296 ^ k) (dg 4294967296 x k + 4294967296 * ((x / 4294967296 ^ (k + 1)) % d)) H d (.slice d0 n dc) wr hbuf (Nat.mod_lt _ (Nat.pow_pos (by decide))) (long_lt (by decide) HDP.out) (by have := HJK.out; omega) hb2 (by omega) (Nat.le_refl _) (HD1.out.below hbel) HDN.out HDB.out)
      clear hbuf
      have hkm : k < m := by have := HJK.out; omega
      have hkl : k + n ≤ la := by have := HLA.out; omega
      have hcell := hq.cell (i := k) hkm
      have hfr := hq.frozen k
      have HQ := Lib.hid hq; have HBEL := Lib.hid hbel
      clear hq hbel
      have hwlt := long_lt (B := 4294967296) (x := x) (k := k) (by decide) HDP.out
      obtain ⟨LD1, LD2⟩ := long_digit (B := 4294967296) (x := x) (k := k) HDP.out
      have hL1 := Lib.hid LD1; have hL2 := Lib.hid LD2
      clear LD1 LD2
      obtain ⟨W, hWe⟩ : ∃ W, W = dg 4294967296 x k + 4294967296 * ((x / 4294967296 ^ (k + 1)) % d) := ⟨_, rfl⟩
      rw [← hWe] at HW hL1 hL2
      have HLQ := Lib.hid (fun (h : W / d < 4294967296) => h)
      clear hwlt hWe
      generalize dg 4294967296 (0 + 4294967296 ^ (k + 1) * ((x / 4294967296 ^ (k + 1)) / d)) k = dq at *
      go_wp2_with fail
      rw [show k + n + 1 - k = n + 1 from by omega]
      refine HW.out.mono ?_
      rintro e w' ⟨rfl, hql, hbf, hgr⟩
      have hq2 := Buf.grown HQ.out hgr (by omega)
      have hcell2 := Gu.Buf.cell hq2 (i := k) hkm
      have hfr2 := Gu.Buf.frozen hq2 k
      have HNEW : Hid (LongRel x d n m w1.heap.size w3.heap.size w1 k (w'.setCell ⟨w3.heap.size, k, none⟩ (.int .u32 (W / d : Nat)))) := by
        refine ⟨W / 4294967296 ^ n + 4294967296 * H, ?_, ?_, ?_⟩
        · rw [hL1.out]
          exact World.rowIs.of_block hbf (Below.heap_setCell _ _ _ _ (by simp only [ne_eq]; omega))
        · rw [hL2.out]
          have e : 0 + 4294967296 ^ (k + 1) * ((x / 4294967296 ^ (k + 1)) / d) = 0 + 4294967296 ^ k * (0 + 4294967296 * ((x / 4294967296 ^ (k + 1)) / d)) := by rw [Nat.pow_succ, Nat.mul_assoc, Nat.zero_add, Nat.zero_add, Nat.zero_add]
          rw [e] at hq2
          exact Buf.set hq2 (by decide) (Nat.pow_pos (by decide)) (by decide) hql
        · have hsz := HBEL.out.size
          exact (HBEL.out.grown hgr (by omega) (fun j hj => by simp only [Option.some.injEq] at hj; omega)).setCell (by show w1.heap.size ≤ w3.heap.size; omega) _
      clear hbf hgr hq2 HQ HBEL HW hL1 hL2
      generalize dg 4294967296 (0 + 4294967296 ^ (k + 1) * ((x / 4294967296 ^ (k + 1)) / d)) k = dq2 at *
      generalize W / d = qd at *
      go_wp2
      go_roundw
      case rel => exact ⟨j + 1, k, by have := HJK.out; show _ = _; omega, by go_num, HNEW.out⟩
      case measure => simp [intOf]; omega
set_option maxHeartbeats 800000 in
theorem divide_long (N : Nat) (hN : N ≤ 400000) : DivOK (4294967296 ^ N) := by
  intro v u a b w hv hu hb ha hbN
  have hB : 2 ≤ 4294967296 := by decide
  have hna : nd 4294967296 a ≤ N := (nd_le hB).2 ha
  have hnb : nd 4294967296 b ≤ N := (nd_le hB).2 hbN
  have hnb0 := nd_pos hB hb
  clear ha hbN
  have HC := Lib.hid (compare_any v u a b w hv hu (by omega) (by omega))
  by_cases hlt : a < b
  · have HCl := Lib.hid (fun q => clone_any v a (w.drewN q) (IsN.drewN hv q) (by omega))
    have HE : Hid (a / b = 0 ∧ a % b = a) := ⟨Nat.div_eq_of_lt hlt, Nat.mod_eq_of_lt hlt⟩
    rw [cmpN_lt (by omega)] at HC
    obtain ⟨ao, ac, rfl, -⟩ := hv.shape
    obtain ⟨bo, bc, rfl, -⟩ := hu.shape
    clear hv hu hna hnb hb hlt hnb0
    go_enter Tryz.func71, Tryz.ntmps71
    go_wp2_with fail
    refine HC.out.mono ?_
    rintro e w' ⟨rfl, q, rfl⟩
    go_wp2_with fail
    refine (HCl.out q).mono ?_
    rintro e w' ⟨r, rfl, hr, hbel⟩
    go_wp2
    go_ret2
    exact ⟨.slice none 0 0, r, rfl, by rw [HE.out.1]; exact IsN.zero _ _ _ _ _, by rw [HE.out.2]; exact hr, (below_drewN (Below.refl _ _) q).trans hbel⟩
  · have hcmp : ¬ cmpN a b < 0 := by
      unfold cmpN; rw [if_neg (by omega)]; split <;> omega
    by_cases h1 : nd 4294967296 b = 1
    · have hb1 : b < 4294967296 := by
        have := nd_lt hB b
        rw [h1] at this; simpa using this
      have HD := Lib.hid (fun q => divideByDigit_any v a b (w.drewN q) (IsN.drewN hv q) (by omega) hb hb1)
      rcases hu with ⟨h0, _⟩ | ⟨_, bb, bo, bc, rfl, hcu⟩
      · omega
      have hcell : w.cell? ⟨bb, bo, none⟩ = some (.int .u32 (b : Nat)) := by
        have := hcu 0 (by omega)
        rw [Nat.add_zero] at this
        rw [this]; simp [dg, Nat.mod_eq_of_lt hb1]
      rw [h1] at HC ⊢
      have hmod := Nat.mod_lt a hb
      generalize cmpN a b = cc at *
      have HDG := Lib.hid (fun w => digitsOf_any (a % b) w (by omega))
      generalize hmm : a % b = mm at *
      have HMM := Lib.hid hmm; clear hmm
      obtain ⟨ao, ac, rfl, -⟩ := hv.shape
      clear hv hna hnb hlt hcu h1
      go_enter Tryz.func71, Tryz.ntmps71
      go_wp2_with fail
      refine HC.out.mono ?_
      rintro e w' ⟨rfl, q, rfl⟩
      go_wp2_with fail
      refine (HD.out q).mono ?_
      rintro e w' ⟨r, rfl, hr, hbel⟩
      go_wp2_with fail
      refine (HDG.out _).mono ?_
      rintro e w2 ⟨r2, rfl, hr2, hbel2⟩
      go_wp2
      go_ret2
      exact ⟨r, r2, rfl, hr.below hbel2, hr2, ((below_drewN (Below.refl _ _) q).trans hbel).trans (hbel2.mono hbel.size)⟩
    · have HD := Lib.hid (fun q => divideLong_any v u a b (w.drewN q) (IsN.drewN hv q) (IsN.drewN hu q) (by omega) (by omega) (by omega))
      have hne : (((nd 4294967296 b : Nat) : Int) == 1) = false := by simp; omega
      generalize cmpN a b = cc at *
      obtain ⟨ao, ac, rfl, -⟩ := hv.shape
      obtain ⟨bo, bc, rfl, -⟩ := hu.shape
      clear hv hu hna hnb hlt
      go_enter Tryz.func71, Tryz.ntmps71
      go_wp2_with fail
      refine HC.out.mono ?_
      rintro e w' ⟨rfl, q, rfl⟩
      go_wp2_with fail
      refine (HD.out q).mono ?_
      rintro e w' ⟨qv, r, rfl, hq, hr, hbel⟩
      go_wp2
      go_ret2
      exact ⟨qv, r, rfl, hq, hr, (below_drewN (Below.refl _ _) q).trans hbel⟩
end Go.Proofs.YteajinpfigejfaaGreatDoor
namespace Go.Proofs.YteajinpfigejfaaGreatDoor
open Go Go.RowKit Gu

def divE (b : Nat) : Int := if b = 0 then 11 else 0
def modN (a b : Nat) : Nat := if b = 0 then 0 else a % b
end Go.Proofs.YteajinpfigejfaaGreatDoor
namespace Go.Proofs.YteajinpfigejfaaGreatDoor
open Go Go.RowKit Gu

theorem am_gm {r t m : Nat} (h : r + t ≤ 2 * m) : r * t ≤ m * m := by
  rcases Nat.le_total r m with h1 | h1
  · obtain ⟨d, rfl⟩ := Nat.exists_eq_add_of_le h1
    have e1 : r * t ≤ r * (r + 2 * d) := Nat.mul_le_mul_left _ (by omega)
    have e2 : r * (r + 2 * d) = r * r + 2 * (r * d) := by rw [Nat.mul_add, Nat.mul_left_comm]
    have e3 : (r + d) * (r + d) = r * r + r * d + (r * d + d * d) := by rw [Nat.add_mul, Nat.mul_add, Nat.mul_add, Nat.mul_comm d r]
    omega
  · obtain ⟨d, rfl⟩ := Nat.exists_eq_add_of_le h1
    obtain ⟨x, rfl⟩ : ∃ x, m = t + x := ⟨m - t, by omega⟩
    have e1 : (t + x + d) * t = t * t + t * x + t * d := by rw [Nat.add_mul, Nat.add_mul, Nat.mul_comm x t, Nat.mul_comm d t]
    have e2 : (t + x) * (t + x) = t * t + t * x + (t * x + x * x) := by rw [Nat.add_mul, Nat.mul_add, Nat.mul_add, Nat.mul_comm x t]
    have e3 : t * d ≤ t * x := Nat.mul_le_mul_left _ (by omega)
    omega
theorem newton {a r : Nat} (hr : 0 < r) (ha : 0 < a) : 0 < (r + a / r) / 2 ∧ a < ((r + a / r) / 2 + 1) * ((r + a / r) / 2 + 1) ∧ (r ≤ (r + a / r) / 2 → r * r ≤ a) := by
  have h1 : a < r * (a / r + 1) := Nat.lt_mul_div_succ a hr
  have h2 : r * (a / r) ≤ a := Nat.mul_div_le a r
  have h3 : r = 1 → a / r = a := fun h => by rw [h, Nat.div_one]
  generalize a / r = q at *
  refine ⟨?_, ?_, fun h => ?_⟩
  · rcases Nat.lt_or_ge 1 r with h | h
    · omega
    · have := h3 (by omega); omega
  · exact Nat.lt_of_lt_of_le h1 (am_gm (by omega))
  · exact Nat.le_trans (Nat.mul_le_mul_left _ (by omega)) h2
theorem sqrt_start {a : Nat} (_ha : 0 < a) : a < (1 * 2 ^ ((nd 2 a + 1) / 2) + 1) * (1 * 2 ^ ((nd 2 a + 1) / 2) + 1) := by
  have h := nd_lt (B := 2) (by decide) a
  rw [Nat.one_mul]
  have h1 : 2 ^ nd 2 a ≤ 2 ^ ((nd 2 a + 1) / 2) * 2 ^ ((nd 2 a + 1) / 2) := by rw [← Nat.pow_add]; exact Nat.pow_le_pow_right (by decide) (by omega)
  have h2 : 2 ^ ((nd 2 a + 1) / 2) * 2 ^ ((nd 2 a + 1) / 2) ≤ (2 ^ ((nd 2 a + 1) / 2) + 1) * (2 ^ ((nd 2 a + 1) / 2) + 1) := Nat.mul_le_mul (by omega) (by omega)
  omega
theorem sqrt_room {a : Nat} (ha : 0 < a) : 1 * 2 ^ ((nd 2 a + 1) / 2) < 4294967296 ^ (nd 4294967296 a + 1) := by
  have h1 := nd_pow_le (B := 2) (by decide) ha
  have h0 := nd_pos (B := 2) (by decide) ha
  have h2 := nd_lt (B := 4294967296) (by decide) a
  have h3 : 2 ^ ((nd 2 a + 1) / 2) ≤ 2 ^ (nd 2 a - 1 + 1) := Nat.pow_le_pow_right (by decide) (by omega)
  rw [Nat.pow_succ] at h3
  rw [Nat.pow_succ, Nat.one_mul]
  omega
/-- what a region keeps whose calls make memory: a number, and all that lay there when it began -/
structure St1 (W0 : World) (v : Value) (a : Nat) (W : World) : Prop where
  num : D W v a
  bel : Below W0.heap.size W0 W
theorem St1.next {W0 W W' : World} {v : Value} {a : Nat} (h : St1 W0 v a W) (hb : Below W.heap.size W W') : St1 W0 v a W' :=
  ⟨h.num.below hb, h.bel.trans (hb.mono h.bel.size)⟩
theorem St1.cell {W0 W : World} {v : Value} {a k : Nat} {x : Value} (h : St1 W0 v a W) (hk : k < W0.heap.size) (hc : W0.cell? ⟨k, 0, none⟩ = some x) : W.cell? ⟨k, 0, none⟩ = some x :=
  (h.bel.cell (p := ⟨k, 0, none⟩) hk).trans hc
theorem St1.frozen {W0 W : World} {v : Value} {a k : Nat} (h : St1 W0 v a W) (hk : k < W0.heap.size) (hc : W0.frozen? ⟨k, 0, none⟩ = false) : W.frozen? ⟨k, 0, none⟩ = false :=
  (h.bel.frozen (p := ⟨k, 0, none⟩) hk).trans hc
end Go.Proofs.YteajinpfigejfaaGreatDoor
