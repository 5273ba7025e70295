/- Contracts and lemmas (several texts merged into one). -/
import Derived.Test.YtcmancfdlfhgbaaGreatDoorNum
import Derived.Test.YtcmancfdlfhgbaaGreatDoorTSz2
import Derived.Laws.Bits64
import Derived.Deep.LoopGhost
import Derived.Test.YtcmancfdlfhgbaaGreatDoorTSz3
import Derived.Maps.Own
import Derived.Maps.Views
import Derived.Shelf.SlIterI.Nil
import Derived.Shelf.SortM.Plain
import Derived.Shelf.SortM.SortNone
import Derived.Ground.GgzProg
import Derived.Ground.SlgmProg
import Derived.Test.YtcmancfdlfhgbaaGreatDoorProg
import Derived.Lib.SlKeysI
import Derived.BigQuiet
namespace Gu

/-- the next state -/
def gstep (s : Nat) : Nat := (s + 11400714819323198485) % 18446744073709551616
def mix1 (z : Nat) : Nat := ((z ^^^ z / 1073741824) * 13787848793156543929) % 18446744073709551616
def mix2 (z : Nat) : Nat := ((z ^^^ z / 134217728) * 10723151780598845931) % 18446744073709551616
/-- the word of a state -/
def gword (s : Nat) : Nat := mix2 (mix1 s) ^^^ mix2 (mix1 s) / 2147483648
theorem gstep_lt (s : Nat) : gstep s < 18446744073709551616 := Nat.mod_lt _ (by decide)
theorem gword_zero : gword 0 = 0 := by decide
theorem xor_lt {a b : Nat} (ha : a < 18446744073709551616) (hb : b < 18446744073709551616) : a ^^^ b < 18446744073709551616 :=
  Nat.xor_lt_two_pow (n := 64) ha hb
theorem mix2_lt (z : Nat) : mix2 z < 18446744073709551616 := Nat.mod_lt _ (by decide)
theorem mix1_lt (z : Nat) : mix1 z < 18446744073709551616 := Nat.mod_lt _ (by decide)
theorem gword_lt (s : Nat) : gword s < 18446744073709551616 := xor_lt (mix2_lt _) (Nat.lt_of_le_of_lt (Nat.div_le_self _ _) (mix2_lt _))
/-- how many steps lie aheadG of the state 0 -/
def aheadG (s : Nat) : Nat := (s * 1018231460777725123) % 18446744073709551616
theorem aheadG_pos {s : Nat} (h : s < 18446744073709551616) (h0 : s ≠ 0) : 0 < aheadG s := by
  refine Nat.pos_of_ne_zero fun e => h0 ?_
  have h1 : (aheadG s * 7046029254386353131) % 18446744073709551616 = s := by
    unfold aheadG
    rw [Nat.mod_mul_mod, Nat.mul_assoc, show 1018231460777725123 * 7046029254386353131 = 388929809602635557 * 18446744073709551616 + 1 by decide]
    omega
  rw [e] at h1
  omega
theorem aheadG_step {s : Nat} (h : 0 < aheadG s) : aheadG (gstep s) + 1 = aheadG s := by
  unfold aheadG at *
  unfold gstep
  rw [Nat.mod_mul_mod]
  omega
/-- from a state on, the first one whose word fits -/
inductive FinG (ok : Nat → Prop) : Nat → Nat → Prop
  | stop {s : Nat} (h : ok s) : FinG ok s s
  | next {s t : Nat} (h : ¬ ok s) (r : FinG ok (gstep s) t) : FinG ok s t
theorem fin_exists (ok : Nat → Prop) (h0 : ok 0) (k : Nat) : ∀ s, s < 18446744073709551616 → aheadG s ≤ k → ∃ t, FinG ok s t := by
  induction k with
  | zero =>
    intro s hs hk
    refine ⟨s, .stop ?_⟩
    by_cases e : s = 0
    · rw [e]; exact h0
    · have := aheadG_pos hs e; omega
  | succ k ih =>
    intro s hs hk
    by_cases e : ok s
    · exact ⟨s, .stop e⟩
    · have e0 : s ≠ 0 := fun x => e (x ▸ h0)
      have h1 := aheadG_step (aheadG_pos hs e0)
      obtain ⟨t, ht⟩ := ih (gstep s) (gstep_lt s) (by omega)
      exact ⟨t, .next e ht⟩
theorem FinG.lt {ok : Nat → Prop} {s t : Nat} (h : FinG ok s t) (hs : s < 18446744073709551616) : t < 18446744073709551616 := by
  induction h with
  | stop _ => exact hs
  | next _ _ ih => exact ih (gstep_lt _)
theorem FinG.at' {ok : Nat → Prop} {s t : Nat} (h : FinG ok s t) (ho : ok s) : t = s := by
  cases h with
  | stop _ => rfl
  | next h _ => exact absurd ho h
theorem FinG.go {ok : Nat → Prop} {s t : Nat} (h : FinG ok s t) (ho : ¬ ok s) : FinG ok (gstep s) t := by
  cases h with
  | stop h => exact absurd h ho
  | next _ h => exact h
/-- the remainder of 2^64 -/
def rest64 (m : Nat) : Nat := (18446744073709551616 - m) % m
/-- the word is not among the highest ones -/
def okAt (m s : Nat) : Prop := gword s + rest64 m ≤ 18446744073709551615
theorem okAt_zero {m : Nat} (hm : 0 < m) (h : m ≤ 1099511627776) : okAt m 0 := by
  unfold okAt rest64
  rw [gword_zero]
  have := Nat.mod_lt (18446744073709551616 - m) hm
  omega
theorem stop_exists {m : Nat} (hm : 0 < m) (h : m ≤ 1099511627776) (s : Nat) : ∃ t, FinG (okAt m) (gstep s) t := fin_exists _ (okAt_zero hm h) _ _ (gstep_lt s) (Nat.le_refl _)
/-- the state behind a number below m, from the state s -/
noncomputable def stopAt (m s : Nat) : Nat := open Classical in if h : ∃ t, FinG (okAt m) (gstep s) t then Classical.choose h else 0
theorem stopAt_fin {m : Nat} (hm : 0 < m) (h : m ≤ 1099511627776) (s : Nat) : FinG (okAt m) (gstep s) (stopAt m s) := by
  have e := stop_exists hm h s
  unfold stopAt
  rw [dif_pos e]
  exact Classical.choose_spec e
theorem stopAt_lt {m : Nat} (hm : 0 < m) (h : m ≤ 1099511627776) (s : Nat) : stopAt m s < 18446744073709551616 := (stopAt_fin hm h s).lt (gstep_lt s)
/-- what is drawn at the place `last` -/
noncomputable def pick (last s : Nat) : Nat := gword (stopAt (last + 1) s) % (last + 1)
theorem pick_le (last s : Nat) : pick last s ≤ last := Nat.le_of_lt_succ (Nat.mod_lt _ (Nat.succ_pos _))
noncomputable def newAt (last s : Nat) (l : List Nat) : Nat := if pick last s ∈ l then last else pick last s
/-- the state and the numbers behind i draws, the first one at the place a -/
noncomputable def drawn (a seed : Nat) : Nat → Nat × List Nat
  | 0 => (seed, [])
  | i + 1 => (stopAt (a + i + 1) (drawn a seed i).1, newAt (a + i) (drawn a seed i).1 (drawn a seed i).2 :: (drawn a seed i).2)
theorem drawn_lt (a seed : Nat) : ∀ i, ∀ x ∈ (drawn a seed i).2, x < a + i
  | 0, x, h => by cases h
  | i + 1, x, h => by
    rcases List.mem_cons.1 h with rfl | h
    · unfold newAt
      have := pick_le (a + i) (drawn a seed i).1
      split <;> omega
    · have := drawn_lt a seed i x h; omega
theorem drawn_new (a seed i : Nat) : newAt (a + i) (drawn a seed i).1 (drawn a seed i).2 ∉ (drawn a seed i).2 := by
  unfold newAt
  split
  · intro h
    have := drawn_lt a seed i _ h; omega
  · assumption
theorem drawn_nodup (a seed : Nat) : ∀ i, (drawn a seed i).2.Nodup
  | 0 => List.nodup_nil
  | i + 1 => List.nodup_cons.2 ⟨drawn_new a seed i, drawn_nodup a seed i⟩
theorem drawn_len (a seed : Nat) : ∀ i, (drawn a seed i).2.length = i
  | 0 => rfl
  | i + 1 => by show (drawn a seed i).2.length + 1 = _; rw [drawn_len a seed i]
theorem drawn_state {a seed : Nat} (hs : seed < 18446744073709551616) : ∀ i, a + i ≤ 1099511627776 → (drawn a seed i).1 < 18446744073709551616
  | 0, _ => hs
  | i + 1, h => stopAt_lt (by omega) (by omega) _
/-- ascending lists with the same members are the same -/
theorem asc_ext : ∀ {l k : List Nat}, l.Pairwise (· < ·) → k.Pairwise (· < ·) → (∀ x, x ∈ l ↔ x ∈ k) → l = k
  | [], [], _, _, _ => rfl
  | [], y :: k, _, _, h => by have := (h y).2 (List.mem_cons_self); cases this
  | x :: l, [], _, _, h => by have := (h x).1 (List.mem_cons_self); cases this
  | x :: l, y :: k, h1, h2, h => by
    obtain ⟨a1, a2⟩ := List.pairwise_cons.1 h1
    obtain ⟨b1, b2⟩ := List.pairwise_cons.1 h2
    have e : x = y := by
      rcases List.mem_cons.1 ((h x).1 List.mem_cons_self) with e | e
      · exact e
      · rcases List.mem_cons.1 ((h y).2 List.mem_cons_self) with e' | e'
        · exact e'.symm
        · have := b1 x e; have := a1 y e'; omega
    subst e
    congr 1
    refine asc_ext a2 b2 fun z => ⟨fun hz => ?_, fun hz => ?_⟩
    · rcases List.mem_cons.1 ((h z).1 (List.mem_cons_of_mem _ hz)) with e | e
      · have := a1 z hz; omega
      · exact e
    · rcases List.mem_cons.1 ((h z).2 (List.mem_cons_of_mem _ hz)) with e | e
      · have := b1 z hz; omega
      · exact e
end Gu
namespace Go.Proofs.YtcmancfdlfhgbaaGreatDoor
open Go Go.RowKit Gu

theorem gstep_is {s : Nat} : IntKind.u64.wrap ((s : Int) + 11400714819323198485) = ((gstep s : Nat) : Int) := by
  rw [IntKind.wrap_u64]; unfold gstep; omega
theorem mix1_is {z : Nat} (h : z < 18446744073709551616) : IntKind.u64.wrap (bits .xor .u64 (z : Int) ((z : Int) / 1073741824) * 13787848793156543929) = ((mix1 z : Nat) : Int) := mixStep_u64 z 1073741824 13787848793156543929 h
theorem mix2_is {z : Nat} (h : z < 18446744073709551616) : IntKind.u64.wrap (bits .xor .u64 (z : Int) ((z : Int) / 134217728) * 10723151780598845931) = ((mix2 z : Nat) : Int) := mixStep_u64 z 134217728 10723151780598845931 h
theorem mix3_is {z : Nat} (h : z < 18446744073709551616) : bits .xor .u64 (z : Int) ((z : Int) / 2147483648) = ((z ^^^ z / 2147483648 : Nat) : Int) := xorShift_u64 z 2147483648 h
set_option maxHeartbeats 400000 in
theorem word_any {B s : Nat} {W : World} (hc : W.cell? ⟨B, 0, none⟩ = some (.int .u64 s)) (hf : W.frozen? ⟨B, 0, none⟩ = false) :
    Calls Tryz.prog 87 #[.pointer (some ⟨B, 0, none⟩)] W fun e w' => e = .returned (.int .u64 (gword (gstep s))) ∧ w' = W.setCell ⟨B, 0, none⟩ (.int .u64 (gstep s)) := by
  have c1 : (W.setCell ⟨B, 0, none⟩ (.int .u64 (IntKind.u64.wrap ((s : Int) + 11400714819323198485)))).cell? ⟨B, 0, none⟩ = some (.int .u64 (IntKind.u64.wrap ((s : Int) + 11400714819323198485))) := World.cell?_setCell_same _ _ _ hc
  go_enter Tryz.func87, Tryz.ntmps87
  go_wp2_with fail
  go_ret
  exact ⟨by rw [gstep_is, mix1_is (gstep_lt _), mix2_is (mix1_lt _), mix3_is (mix2_lt _)]; rfl, by rw [gstep_is]⟩
/-- a generator's box -/
def GB (B s : Nat) (W : World) : Prop := W.cell? ⟨B, 0, none⟩ = some (.int .u64 s) ∧ W.frozen? ⟨B, 0, none⟩ = false
theorem GB.next {B s : Nat} {W W' : World} (h : GB B s W) (hB : B < W.heap.size) (hb : Below W.heap.size W W') : GB B s W' :=
  ⟨(hb.cell (p := ⟨B, 0, none⟩) hB).trans h.1, (hb.frozen (p := ⟨B, 0, none⟩) hB).trans h.2⟩
theorem GB.set {B s : Nat} {W : World} (h : GB B s W) (t : Nat) : GB B t (W.setCell ⟨B, 0, none⟩ (.int .u64 t)) :=
  ⟨World.cell?_setCell_same _ _ _ h.1, (World.frozen?_setCell _ _ _ _).trans h.2⟩
theorem word_gb {B s : Nat} {W : World} (h : GB B s W) :
    Calls Tryz.prog 87 #[.pointer (some ⟨B, 0, none⟩)] W fun e w' => e = .returned (.int .u64 (gword (gstep s))) ∧ Hid (GB B (gstep s) w') ∧ Hid (W.grownBy w' (some B)) :=
  (word_any h.1 h.2).mono fun e w' ⟨h1, h2⟩ => ⟨h1, by rw [h2]; exact h.set _, by rw [h2]; exact grownBy_setCell W B 0 _⟩
theorem rest_is {m : Nat} (hm : 0 < m) (h : m ≤ 1099511627776) : (IntKind.u64.wrap (-(m : Int))).tmod (m : Int) = ((rest64 m : Nat) : Int) := by
  have e1 : IntKind.u64.wrap (-(m : Int)) = ((18446744073709551616 - m : Nat) : Int) := by rw [IntKind.wrap_u64]; omega
  rw [e1]
  unfold rest64
  exact (Int.ofNat_tmod _ _).symm
set_option maxHeartbeats 1000000 in
theorem below_any {B s m : Nat} {W : World} (h : GB B s W) (hm : 0 < m) (hm2 : m ≤ 1099511627776) :
    Calls Tryz.prog 50 #[.pointer (some ⟨B, 0, none⟩), .int .i64 m] W fun e w' => e = .returned (.int .i64 ((gword (stopAt m s) % m : Nat) : Int)) ∧ Hid (GB B (stopAt m s) w') ∧ Hid (W.grownBy w' (some B)) := by
  have HF : Hid (FinG (okAt m) (gstep s) (stopAt m s)) := stopAt_fin hm hm2 s
  have HW : Hid (∀ W' s, GB B s W' → Calls Tryz.prog 87 #[.pointer (some ⟨B, 0, none⟩)] W' fun e w' => e = .returned (.int .u64 (gword (gstep s))) ∧ Hid (GB B (gstep s) w') ∧ Hid (W'.grownBy w' (some B))) := fun W' s h => word_gb h
  have hr := rest_is hm hm2
  obtain ⟨lim, hlim⟩ : ∃ x : Nat, x = 18446744073709551615 - rest64 m := ⟨_, rfl⟩
  have hrl : rest64 m ≤ 18446744073709551615 := by
    have := Nat.mod_lt (18446744073709551616 - m) hm
    unfold rest64; omega
  have hsub : IntKind.u64.wrap (18446744073709551615 - (rest64 m : Int)) = (lim : Int) := by rw [IntKind.wrap_u64]; omega
  have HOK : Hid (∀ cur, okAt m cur ↔ gword cur ≤ lim) := fun cur => by unfold okAt; omega
  have HMD : Hid (∀ x : Nat, x < 18446744073709551616 → IntKind.i64.wrap ((x : Int) % (m : Int)) = ((x % m : Nat) : Int)) := fun x _ => by
    have := Nat.mod_lt x hm
    rw [IntWalk.i64_in _ (by omega)]; omega
  obtain ⟨T, hT⟩ : ∃ x, x = stopAt m s := ⟨_, rfl⟩
  rw [← hT] at HF ⊢
  have HT := Lib.hid (show GB B s W from h)
  have HS := Lib.hid (gstep_lt s)
  have hmi : (0 : Int) < (m : Int) := by omega
  clear hlim hrl hT h
  generalize rest64 m = rest at hr hsub
  go_enter Tryz.func50, Tryz.ntmps50
  go_wp2_with fail
  refine (HW.out _ _ HT.out).mono ?_
  rintro e w1 ⟨rfl, hg, hb⟩
  clear hr
  go_wp2_with fail
  go_loopg [7] (aheadG (gstep s)) (fun kx t wr => ∃ cur : Nat, t = .int .u64 (gword cur) ∧ aheadG cur ≤ kx ∧ Hid (cur < 18446744073709551616) ∧ Hid (GB B cur wr) ∧ Hid (FinG (okAt m) cur T) ∧ Hid (W.grownBy wr (some B)))
  case atStart => exact ⟨gstep s, rfl, Nat.le_refl _, HS, hg, HF, hb⟩
  case round =>
    obtain ⟨cur, rfl, hk, HC, HG, HFI, HBB⟩ := hrel
    by_cases q : gword cur ≤ lim
    · have q1 : ¬ (gword cur : Int) > (lim : Int) := by omega
      have dq : decide ((gword cur : Int) > (lim : Int)) = false := decide_eq_false q1
      have HE := Lib.hid (HFI.out.at' ((HOK.out cur).2 q))
      have hmd := HMD.out (gword cur) (gword_lt cur)
      go_wp2_with fail
      go_ret
      rw [HE.out]
      exact ⟨rfl, HG, HBB⟩
    · have q1 : (gword cur : Int) > (lim : Int) := by omega
      have dq : decide ((gword cur : Int) > (lim : Int)) = true := decide_eq_true q1
      have hno : ¬ okAt m cur := fun h => q ((HOK.out cur).1 h)
      have HN := Lib.hid (HFI.out.go hno)
      have hc0 : cur ≠ 0 := fun h => hno (by rw [h]; exact okAt_zero hm hm2)
      have has := aheadG_step (aheadG_pos HC.out hc0)
      have HAS : aheadG (gstep cur) < aheadG cur := by omega
      clear has hno hc0
      go_wp2_with fail
      refine (HW.out _ _ HG.out).mono ?_
      rintro e w2 ⟨rfl, hg2, hb2⟩
      have HB2 : Hid (W.grownBy w2 (some B)) := HBB.out.trans hb2.out
      go_wp2_with fail
      go_roundg (aheadG (gstep cur))
      case measure => omega
      case rel => exact ⟨gstep cur, rfl, Nat.le_refl _, gstep_lt _, hg2, HN, HB2⟩
end Go.Proofs.YtcmancfdlfhgbaaGreatDoor
namespace Go.Proofs.YtcmancfdlfhgbaaGreatDoor
open Go Go.RowKit Go.Maps Gu

theorem bool_of_plain {P : Program} {e : TypeId} (he : P.underlying e = some .bool) {v : Value} {x : Bool} {ps : List MemPlace} (h : plainElem (H := Unit) P e v = some (.lit (.bool x), ps)) : v = .bool x := by
  unfold plainElem at h
  rw [he] at h
  cases v <;> simp_all
theorem i64_key {x : Nat} (h : x ≤ 1099511627776) : (Lit.int .i64 (x : Int)).wf = true := by
  simp [Lit.wf, IntKind.min, IntKind.max, IntKind.signed, IntKind.bits]; omega
/-- the set as the map reads -/
def DS : List Nat → DataW Unit
  | [] => .map []
  | x :: l => (DS l).put (.int .i64 x) (.lit (.bool true))
theorem DS_isMap : ∀ l, IsMap (DS l)
  | [] => isMap_empty
  | x :: l => (DS_isMap l).put _ _
theorem DS_at : ∀ (l : List Nat) (k : Nat), (DS l).atKey (.int .i64 k) (.lit (.bool false)) = .lit (.bool (decide (k ∈ l)))
  | [], k => rfl
  | x :: l, k => by
    show ((DS l).put (.int .i64 x) (.lit (.bool true))).atKey (.int .i64 k) _ = _
    by_cases h : k = x
    · subst h
      rw [atKey_put_same (DS_isMap l) (by constructor)]
      simp
    · rw [atKey_put_other (fun e => h (by injection e with _ e; omega)), DS_at l k]
      simp [h]
theorem DS_has : ∀ (l : List Nat) (k : Int), Maps.has (DS l) (.int .i64 k) = true ↔ ∃ x ∈ l, (x : Int) = k
  | [], k => by simp [DS, Maps.has]
  | x :: l, k => by
    show Maps.has ((DS l).put (.int .i64 x) (.lit (.bool true))) (.int .i64 k) = true ↔ _
    by_cases h : (x : Int) = k
    · subst h
      rw [has_put_same (DS_isMap l) (by constructor)]
      simp
    · rw [has_put_other (fun e => h (by injection e with _ e; omega)), DS_has l k]
      simp [h]
theorem keyI : Keyed Tryz.prog 3 := int_keyed Tryz.underlying3
theorem zeroB (w : World) : (zeroValue 4).run Tryz.prog w = .ok (.bool false) w := by kernel_rfl
/-- a set of numbers -/
def SetM (B n : Nat) (l : List Nat) (W : World) : Prop := W.ownsMap Tryz.prog 3 (plainElem Tryz.prog 4) B n (DS l)
theorem SetM.look {B n : Nat} {l : List Nat} {W : World} (h : SetM B n l W) {k : Nat} (hk : k ≤ 1099511627776) : (Instr.lookup 80 (.map (some B)) (.int .i64 k) false).run Tryz.prog W = .ok (.bool (decide (k ∈ l))) W := by
  obtain ⟨v, ps, h1, h2⟩ := World.ownsMap.lookup h keyI Tryz.underlying80 (zeroB W) (plainElem_bool Tryz.underlying4 false) (keyOf_int_mk Tryz.underlying3 (i64_key hk))
  rw [DS_at] at h2
  rw [h1, bool_of_plain Tryz.underlying4 h2]
/-- numbers as the cells of a row -/
def encN (l : List Nat) : List Value := l.map fun x : Nat => .int .i64 (x : Int)
theorem own_below {b B : Nat} {W w' : World} (hg : W.grownBy w' (some B)) (hB : b ≤ B) (hW : b ≤ W.heap.size) : Below b W w' :=
  (Below.refl b W).grown hg hW (fun j hj => by injection hj with hj; omega)
theorem row_base {w : World} {b b' : Nat} {e : TypeId} {size n : Nat} {v : Value} {xs : List Value} (h : w.ownsRow b e size v n xs) (hb : b' ≤ b) : w.ownsRow b' e size v n xs := by
  refine ⟨h.1, ?_⟩
  rcases h.2 with hn | ⟨g, cap, cur, hv, hg, rest⟩
  · exact .inl hn
  · exact .inr ⟨g, cap, cur, hv, Nat.le_trans hb hg, rest⟩
theorem GB.keep {B C s : Nat} {W W' : World} (h : GB B s W) (hB : B < W.heap.size) (hg : W.grownBy W' (some C)) (hne : B ≠ C) : GB B s W' :=
  ⟨hg.cell h.1 (by simpa using hne), (World.frozen?_of_block (hg.block B hB (by simpa using hne))).trans h.2⟩
set_option maxHeartbeats 1000000 in
set_option maxRecDepth 100000 in
theorem Draw_loop {seed lot n : Nat} {W : World} {ss : List Nat} (hs : seed < 18446744073709551616) (hl : lot ≤ 1099511627776) (hn : n ≤ lot) (hn2 : n ≤ 4096)
    (HK : Hid (∀ W1 B, SetM B n (drawn (lot - n) seed n).2 W1 → Calls Tryz.prog 52 #[.map (some B)] W1 fun e w' => e = .returned (.func (.func 90) #[] #[.pointer (some ⟨W1.heap.size, 0, none⟩)]) ∧ w' = W1.alloc (.cells #[.map (some B)] 80)))
    (HS : Hid (∀ W1 B, SetM B n (drawn (lot - n) seed n).2 W1 → Calls Tryz.prog 51 #[.func (.func 90) #[] #[.pointer (some ⟨W1.heap.size, 0, none⟩)]] (W1.alloc (.cells #[.map (some B)] 80)) fun e w' => ∃ a c, e = .returned (.slice a ss.length c) ∧ Hid (w'.ownsRow W1.heap.size 3 1 (.slice a ss.length c) ss.length (encN ss)) ∧ Hid (Below W1.heap.size W1 w'))) :
    Calls Tryz.prog 22 #[.int .u64 seed, .int .i64 lot, .int .i64 n] W fun e w' => ∃ a c, e = .returned (.tuple #[.slice a ss.length c, .int .i64 0]) ∧ Hid (w'.ownsRow W.heap.size 3 1 (.slice a ss.length c) ss.length (encN ss)) ∧ Hid (Below W.heap.size W w') := by
  obtain ⟨a, ha⟩ : ∃ a : Nat, a = lot - n := ⟨_, rfl⟩
  have HF1 := isFrom_is (decide_eq_true (show (0 : Int) ≤ (lot : Int) ∧ (lot : Int) ≤ 1099511627776 by omega))
  have HF2 := isFrom_is (decide_eq_true (show (0 : Int) ≤ (n : Int) ∧ (n : Int) ≤ min (lot : Int) 4096 by omega))
  have hmm := @run_makeMap Tryz.prog
  have hw : IntKind.i64.wrap ((lot : Int) - n) = (a : Int) := by rw [IntWalk.i64_in _ (by omega)]; omega
  rw [← ha] at HK HS
  obtain ⟨w1, HW1⟩ : ∃ w, w = W.alloc (.cells #[.int .u64 seed] 79) := ⟨_, rfl⟩
  obtain ⟨w2, HW2⟩ : ∃ w, w = w1.alloc (.map #[] 0) := ⟨_, rfl⟩
  have s1 : w1.heap.size = W.heap.size + 1 := by rw [HW1, World.size_alloc]
  have s2 : w2.heap.size = W.heap.size + 1 + 1 := by rw [HW2, World.size_alloc, s1]
  have b1 : Below W.heap.size W w1 := by rw [HW1]; exact alloc1_below _ _
  have b2 : Below w1.heap.size w1 w2 := by rw [HW2]; exact alloc1_below _ _
  have g1 : GB W.heap.size seed w1 := by rw [HW1]; exact ⟨(Nx.new W _ _).c0, (Nx.new W _ _).f0⟩
  have G2 : Hid (GB W.heap.size seed w2) := g1.next (by omega) b2
  have M2 : Hid (SetM (W.heap.size + 1) 0 [] w2) := by
    rw [HW2, ← s1]
    exact World.ownsMap_made w1 Tryz.prog 3 (plainElem Tryz.prog 4)
  have B2 : Hid (Below W.heap.size W w2) := b1.trans (b2.mono b1.size)
  have HW1' := Lib.hid HW1; have HW2' := Lib.hid HW2; have HS2 := Lib.hid s2; have HSD := Lib.hid hs; have HA := Lib.hid ha
  have HBEL : Hid (∀ i W', i < n → GB W.heap.size (drawn a seed i).1 W' → Calls Tryz.prog 50 #[.pointer (some ⟨W.heap.size, 0, none⟩), .int .i64 ((a + i + 1 : Nat) : Int)] W' fun e w' => e = .returned (.int .i64 (pick (a + i) (drawn a seed i).1 : Int)) ∧ Hid (GB W.heap.size (drawn a seed (i + 1)).1 w') ∧ Hid (W'.grownBy w' (some W.heap.size))) := fun i W' hi h =>
    below_any h (by omega) (by omega)
  have hal : a ≤ lot := by omega
  have han : ∀ i, i < n → a + i < lot := fun i hi => by omega
  have HAN := Lib.hid han
  have hend : ¬ a + n < lot := by omega
  clear HW1 HW2 s1 s2 b1 b2 g1 ha han hs
  go_enter Tryz.func22, Tryz.ntmps22
  go_wp2_with fail
  refine (HF1.out _).mono ?_
  rintro e w' ⟨rfl, rfl⟩
  go_wp2_with fail
  refine (HF2.out _).mono ?_
  rintro e w' ⟨rfl, rfl⟩
  go_upto_region 5 with fail
  rw [← HW1'.out, ← HW2'.out]
  clear hmm HW1' HW2'
  go_wp2_with fail
  go_loopw [10, 11] (fun t _ wr => ∃ i : Nat, i ≤ n ∧ t = .int .i64 ((a + i : Nat) : Int) ∧ Hid (GB W.heap.size (drawn a seed i).1 wr) ∧ Hid (SetM (W.heap.size + 1) i (drawn a seed i).2 wr) ∧ Hid (Below W.heap.size W wr)) (fun t _ _ => a + n - (intOf t).toNat)
  case atStart => exact ⟨0, Nat.zero_le _, by go_num, G2, M2, B2⟩
  case round =>
    obtain ⟨i, hi, rfl, HG, HM, HB⟩ := hrel
    by_cases q : i < n
    · have q1 := HAN.out i q
      have q2 : ((a + i : Nat) : Int) < (lot : Int) := by omega
      have dq : decide (((a + i : Nat) : Int) < (lot : Int)) = true := decide_eq_true q2
      have hw1 : IntKind.i64.wrap (((a + i : Nat) : Int) + 1) = ((a + i + 1 : Nat) : Int) := by rw [IntWalk.i64_in _ (by omega)]; omega
      have HC := Lib.hid (HBEL.out i wr q HG.out)
      have hpk := pick_le (a + i) (drawn a seed i).1
      obtain ⟨k, hk⟩ : ∃ k, k = pick (a + i) (drawn a seed i).1 := ⟨_, rfl⟩
      rw [← hk] at HC hpk
      obtain ⟨l, hl2⟩ : ∃ l, l = (drawn a seed i).2 := ⟨_, rfl⟩
      have HNW : Hid ((drawn a seed (i + 1)).2 = (if k ∈ l then a + i else k) :: l) := by
        show (newAt (a + i) (drawn a seed i).1 (drawn a seed i).2 :: (drawn a seed i).2) = _
        rw [hk, hl2]; rfl
      rw [← hl2] at HM
      have hk40 : k ≤ 1099511627776 := by omega
      have hi1 : i < 4096 := by omega
      clear hk hl2 hpk
      go_wp2_with fail
      refine HC.out.mono ?_
      rintro e w3 ⟨rfl, hg, hgr⟩
      have HM3 : Hid (SetM (W.heap.size + 1) i l w3) := World.ownsMap.kept HM.out hgr.out (by simp)
      have HB3 : Hid (Below W.heap.size W w3) := HB.out.grown hgr.out HB.out.size (fun j hj => by injection hj with hj; omega)
      have hrun := HM3.out.look hk40
      by_cases hin : k ∈ l
      · have hde : decide (k ∈ l) = true := decide_eq_true hin
        rw [hde] at hrun
        have HE : Hid ((drawn a seed (i + 1)).2 = (a + i) :: l) := by
          have := HNW.out
          rwa [if_pos hin] at this
        have h40 : a + i ≤ 1099511627776 := by omega
        clear hde hin HNW
        go_wp2_with (first | (at_mapUpdate; refine wpList_mapUpdate_own _ rfl _ _ _ 80 rfl 3 4 keyI Tryz.underlying80 (plainElem Tryz.prog 4) (W.heap.size + 1) i (DS l) rfl HM3.out (by unfold maxLen; omega) _ _ _ rfl rfl (keyOf_int_mk Tryz.underlying3 (i64_key h40)) _ [] (plainElem_bool Tryz.underlying4 true) ?_; intro w4 hown hgrow) | fail)
        have HM4 : Hid (SetM (W.heap.size + 1) (i + 1) (drawn a seed (i + 1)).2 w4) := by rw [HE.out]; exact hown
        have HG4 : Hid (GB W.heap.size (drawn a seed (i + 1)).1 w4) := hg.out.keep (by have := HB3.out.size; have := World.block_lt_of_cell? _ _ hg.out.1; exact this) hgrow (by omega)
        have HB4 : Hid (Below W.heap.size W w4) := HB3.out.grown hgrow HB3.out.size (fun j hj => by injection hj with hj; omega)
        clear hown hgrow hg hgr
        go_wp2_with fail
        go_roundw
        case rel => exact ⟨i + 1, by omega, rfl, HG4, HM4, HB4⟩
        case measure => simp [intOf]; omega
      · have hde : decide (k ∈ l) = false := decide_eq_false hin
        rw [hde] at hrun
        have HE : Hid ((drawn a seed (i + 1)).2 = k :: l) := by
          have := HNW.out
          rwa [if_neg hin] at this
        clear hde hin HNW
        go_wp2_with (first | (at_mapUpdate; refine wpList_mapUpdate_own _ rfl _ _ _ 80 rfl 3 4 keyI Tryz.underlying80 (plainElem Tryz.prog 4) (W.heap.size + 1) i (DS l) rfl HM3.out (by unfold maxLen; omega) _ _ _ rfl rfl (keyOf_int_mk Tryz.underlying3 (i64_key hk40)) _ [] (plainElem_bool Tryz.underlying4 true) ?_; intro w4 hown hgrow) | fail)
        have HM4 : Hid (SetM (W.heap.size + 1) (i + 1) (drawn a seed (i + 1)).2 w4) := by rw [HE.out]; exact hown
        have HG4 : Hid (GB W.heap.size (drawn a seed (i + 1)).1 w4) := hg.out.keep (by have := HB3.out.size; have := World.block_lt_of_cell? _ _ hg.out.1; exact this) hgrow (by omega)
        have HB4 : Hid (Below W.heap.size W w4) := HB3.out.grown hgrow HB3.out.size (fun j hj => by injection hj with hj; omega)
        clear hown hgrow hg hgr
        go_wp2_with fail
        go_roundw
        case rel => exact ⟨i + 1, by omega, rfl, HG4, HM4, HB4⟩
        case measure => simp [intOf]; omega
    · obtain rfl : i = n := by omega
      have q2 : ¬ ((a + i : Nat) : Int) < (lot : Int) := by omega
      have dq : decide (((a + i : Nat) : Int) < (lot : Int)) = false := decide_eq_false q2
      have HK2 := Lib.hid (HK.out _ _ HM.out)
      have HS2' := Lib.hid (HS.out _ _ HM.out)
      go_wp2_with fail
      refine HK2.out.mono ?_
      rintro e w5 ⟨rfl, rfl⟩
      go_wp2_with fail
      refine HS2'.out.mono ?_
      rintro e w6 ⟨b, c, rfl, hrow, hb6⟩
      have HR6 := Lib.hid hrow.out
      have HB6 := Lib.hid (HB.out.trans (hb6.out.mono HB.out.size))
      have HSZ := Lib.hid HB.out.size
      clear hrow hb6
      go_wp2_with fail
      refine bodyPost_ret (v := .tuple #[.slice b ss.length c, .int .i64 0]) (by simp [results, Tryz.results22, go_sem]) rfl ?_
      exact ⟨b, c, rfl, row_base HR6.out HSZ.out, HB6.out⟩
end Go.Proofs.YtcmancfdlfhgbaaGreatDoor
namespace Go.Proofs
open Go.Shelf
def Tryz.keysA_ren : Go.Shelf.Ren := ⟨fun | 7 => 52 | 10 => 90 | n => n, fun | 23 => 80 | 26 => 3 | 3 => 4 | 28 => 84 | 0 => 0 | 27 => 83 | 33 => 58 | 4 => 4 | n => n, fun | n => n⟩
theorem Tryz.keysA : Go.Proofs.SlLaysZI.n7 Tryz.prog Tryz.keysA_ren := {
  mixed := by kernel_rfl
  f7 := ⟨Tryz.f52.name, by decide, Tryz.func52.trans (congrArg some (by kernel_rfl))⟩
  f10 := ⟨Tryz.f90.name, by decide, Tryz.func90.trans (congrArg some (by kernel_rfl))⟩
  t0 := Tryz.underlying0
  a0 := Tryz.isAgg0
  z0 := Tryz.sizeOf0
  v0 := Tryz.zeroValue0
  t4 := Tryz.underlying4
  a4 := Tryz.isAgg4
  z4 := Tryz.sizeOf4
  v4 := Tryz.zeroValue4
  t23 := Tryz.underlying80
  a23 := Tryz.isAgg80
  z23 := Tryz.sizeOf80
  v23 := Tryz.zeroValue80
  t26 := Tryz.underlying3
  a26 := Tryz.isAgg3
  z26 := Tryz.sizeOf3
  v26 := Tryz.zeroValue3
  t27 := Tryz.underlying83
  a27 := Tryz.isAgg83
  z27 := Tryz.sizeOf83
  v27 := Tryz.zeroValue83
  t28 := Tryz.underlying84
  a28 := Tryz.isAgg84
  z28 := Tryz.sizeOf84
  v28 := Tryz.zeroValue84
  t33 := Tryz.underlying58
  a33 := Tryz.isAgg58
  z33 := Tryz.sizeOf58
  v33 := Tryz.zeroValue58 }
def Tryz.sortedA_ren : Go.Shelf.Ren := ⟨fun | 6 => 51 | 8 => 88 | 9 => 89 | 11 => 116 | 13 => 118 | 12 => 117 | 23 => 136 | 24 => 137 | 14 => 140 | 15 => 141 | 16 => 142 | 17 => 143 | 18 => 144 | 19 => 145 | 20 => 146 | 21 => 147 | 22 => 148 | 25 => 160 | 26 => 161 | 27 => 162 | 28 => 163 | 29 => 164 | 30 => 156 | 31 => 176 | n => n, fun | 26 => 3 | 28 => 84 | 24 => 36 | 0 => 0 | 3 => 3 | 37 => 96 | 48 => 131 | 50 => 47 | 4 => 4 | 40 => 180 | 39 => 179 | 45 => 42 | 5 => 5 | 9 => 9 | 51 => 192 | 55 => 195 | 57 => 205 | 58 => 206 | 33 => 58 | n => n, fun | n => n⟩
theorem Tryz.sortedA : Go.Proofs.SlLaysZI.n6 Tryz.prog Tryz.sortedA_ren := {
  mixed := by kernel_rfl
  f6 := ⟨Tryz.f51.name, by decide, Tryz.func51.trans (congrArg some (by kernel_rfl))⟩
  f8 := ⟨Tryz.f88.name, by decide, Tryz.func88.trans (congrArg some (by kernel_rfl))⟩
  f11 := ⟨Tryz.f116.name, by decide, Tryz.func116.trans (congrArg some (by kernel_rfl))⟩
  t0 := Tryz.underlying0
  a0 := Tryz.isAgg0
  z0 := Tryz.sizeOf0
  v0 := Tryz.zeroValue0
  t24 := Tryz.underlying36
  a24 := Tryz.isAgg36
  z24 := Tryz.sizeOf36
  v24 := Tryz.zeroValue36
  t26 := Tryz.underlying3
  a26 := Tryz.isAgg3
  z26 := Tryz.sizeOf3
  v26 := Tryz.zeroValue3
  t28 := Tryz.underlying84
  a28 := Tryz.isAgg84
  z28 := Tryz.sizeOf84
  v28 := Tryz.zeroValue84
  i26 := by kernel_rfl }
def Tryz.sortA_ren : Go.Shelf.Ren := ⟨fun | 5 => 89 | 8 => 118 | 7 => 117 | 19 => 136 | 20 => 137 | 10 => 140 | 11 => 141 | 12 => 142 | 13 => 143 | 14 => 144 | 15 => 145 | 16 => 146 | 17 => 147 | 18 => 148 | 30 => 160 | 31 => 161 | 32 => 162 | 33 => 163 | 34 => 164 | 35 => 156 | 40 => 176 | n => n, fun | 23 => 36 | 25 => 3 | 3 => 3 | 32 => 96 | 22 => 36 | 0 => 0 | 44 => 131 | 46 => 47 | 4 => 4 | 36 => 180 | 35 => 179 | 41 => 42 | 5 => 5 | 9 => 9 | 53 => 192 | 57 => 195 | 63 => 205 | 64 => 206 | n => n, fun | n => n⟩
theorem Tryz.sortA : Go.Proofs.SlLaysM.n5 Tryz.prog Tryz.sortA_ren := {
  mixed := by kernel_rfl
  f5 := ⟨Tryz.f89.name, by decide, Tryz.func89.trans (congrArg some (by kernel_rfl))⟩
  f7 := ⟨Tryz.f117.name, by decide, Tryz.func117.trans (congrArg some (by kernel_rfl))⟩
  f8 := Tryz.func118.trans (congrArg some (by kernel_rfl))
  f10 := ⟨Tryz.f140.name, by decide, Tryz.func140.trans (congrArg some (by kernel_rfl))⟩
  f11 := ⟨Tryz.f141.name, by decide, Tryz.func141.trans (congrArg some (by kernel_rfl))⟩
  f12 := ⟨Tryz.f142.name, by decide, Tryz.func142.trans (congrArg some (by kernel_rfl))⟩
  f13 := ⟨Tryz.f143.name, by decide, Tryz.func143.trans (congrArg some (by kernel_rfl))⟩
  f14 := ⟨Tryz.f144.name, by decide, Tryz.func144.trans (congrArg some (by kernel_rfl))⟩
  f15 := ⟨Tryz.f145.name, by decide, Tryz.func145.trans (congrArg some (by kernel_rfl))⟩
  f16 := ⟨Tryz.f146.name, by decide, Tryz.func146.trans (congrArg some (by kernel_rfl))⟩
  f17 := ⟨Tryz.f147.name, by decide, Tryz.func147.trans (congrArg some (by kernel_rfl))⟩
  f18 := ⟨Tryz.f148.name, by decide, Tryz.func148.trans (congrArg some (by kernel_rfl))⟩
  f19 := Tryz.func136.trans (congrArg some (by kernel_rfl))
  f20 := Tryz.func137.trans (congrArg some (by kernel_rfl))
  f30 := ⟨Tryz.f160.name, by decide, Tryz.func160.trans (congrArg some (by kernel_rfl))⟩
  f31 := Tryz.func161.trans (congrArg some (by kernel_rfl))
  f32 := Tryz.func162.trans (congrArg some (by kernel_rfl))
  f33 := ⟨Tryz.f163.name, by decide, Tryz.func163.trans (congrArg some (by kernel_rfl))⟩
  f34 := ⟨Tryz.f164.name, by decide, Tryz.func164.trans (congrArg some (by kernel_rfl))⟩
  f35 := ⟨Tryz.f156.name, by decide, Tryz.func156.trans (congrArg some (by kernel_rfl))⟩
  f40 := ⟨Tryz.f176.name, by decide, Tryz.func176.trans (congrArg some (by kernel_rfl))⟩
  t0 := Tryz.underlying0
  a0 := Tryz.isAgg0
  z0 := Tryz.sizeOf0
  v0 := Tryz.zeroValue0
  t3 := Tryz.underlying3
  a3 := Tryz.isAgg3
  z3 := Tryz.sizeOf3
  v3 := Tryz.zeroValue3
  t4 := Tryz.underlying4
  a4 := Tryz.isAgg4
  z4 := Tryz.sizeOf4
  v4 := Tryz.zeroValue4
  t5 := Tryz.underlying5
  a5 := Tryz.isAgg5
  z5 := Tryz.sizeOf5
  v5 := Tryz.zeroValue5
  t9 := Tryz.underlying9
  a9 := Tryz.isAgg9
  z9 := Tryz.sizeOf9
  v9 := Tryz.zeroValue9
  t22 := Tryz.underlying36
  a22 := Tryz.isAgg36
  z22 := Tryz.sizeOf36
  v22 := Tryz.zeroValue36
  t23 := Tryz.underlying36
  a23 := Tryz.isAgg36
  z23 := Tryz.sizeOf36
  v23 := Tryz.zeroValue36
  t25 := Tryz.underlying3
  a25 := Tryz.isAgg3
  z25 := Tryz.sizeOf3
  v25 := Tryz.zeroValue3
  t32 := Tryz.underlying96
  a32 := Tryz.isAgg96
  z32 := Tryz.sizeOf96
  v32 := Tryz.zeroValue96
  t35 := Tryz.underlying179
  a35 := Tryz.isAgg179
  z35 := Tryz.sizeOf179
  v35 := Tryz.zeroValue179
  t36 := Tryz.underlying180
  a36 := Tryz.isAgg180
  z36 := Tryz.sizeOf180
  v36 := Tryz.zeroValue180
  t41 := Tryz.underlying42
  a41 := Tryz.isAgg42
  z41 := Tryz.sizeOf42
  v41 := Tryz.zeroValue42
  t44 := Tryz.underlying131
  a44 := Tryz.isAgg131
  z44 := Tryz.sizeOf131
  v44 := Tryz.zeroValue131
  t46 := Tryz.underlying47
  a46 := Tryz.isAgg47
  z46 := Tryz.sizeOf47
  v46 := Tryz.zeroValue47
  t53 := Tryz.underlying192
  a53 := Tryz.isAgg192
  z53 := Tryz.sizeOf192
  v53 := Tryz.zeroValue192
  t57 := Tryz.underlying195
  a57 := Tryz.isAgg195
  z57 := Tryz.sizeOf195
  v57 := Tryz.zeroValue195
  t63 := Tryz.underlying205
  a63 := Tryz.isAgg205
  z63 := Tryz.sizeOf205
  v63 := Tryz.zeroValue205
  t64 := Tryz.underlying206
  a64 := Tryz.isAgg206
  z64 := Tryz.sizeOf206
  v64 := Tryz.zeroValue206 }
end Go.Proofs
namespace Go.Proofs.YtcmancfdlfhgbaaGreatDoor
open Go Go.RowKit Go.Maps Go.Sort Go.Shelf Gu

theorem DS_tidy : ∀ l, Tidy (DS l)
  | [] => tidy_empty
  | x :: l => (DS_tidy l).put (by constructor) _
theorem DS_size : ∀ l : List Nat, Maps.size (DS l) ≤ l.length
  | [] => Nat.le_refl _
  | x :: l => by
    show Maps.size ((DS l).put _ _) ≤ l.length + 1
    rw [size_put (DS_tidy l)]
    have := DS_size l
    split <;> omega
theorem set_perm {B n : Nat} {l : List Nat} {W : World} (h : SetM B n l W) (hnd : l.Nodup) : (l.map fun x : Nat => (x : Int)).Perm (intKeys (DS l)) := by
  refine CollectedI.perm (left := fun _ => false) ⟨?_, fun x => ?_⟩ h keyI Tryz.underlying3 (fun _ => rfl)
  · exact List.pairwise_map.2 (hnd.imp fun h e => h (by exact_mod_cast e))
  · rw [DS_has]; simp
theorem row_slice {W : World} {base : Nat} {e : TypeId} {size : Nat} {v : Value} {k : Nat} {xs : List Value} (h : W.ownsRow base e size v k xs) : ∃ a c, v = .slice a k c := by
  rcases h.2 with ⟨rfl, rfl⟩ | ⟨g, cap, cur, rfl, _⟩
  · exact ⟨_, _, rfl⟩
  · exact ⟨_, _, rfl⟩
/-- the numbers in ascending order -/
def sortN (l : List Nat) : List Nat := l.mergeSort (fun a b => decide (a ≤ b))
theorem sortN_perm (l : List Nat) : (sortN l).Perm l := List.mergeSort_perm _ _
theorem sortN_le (l : List Nat) : (sortN l).Pairwise (· ≤ ·) := by
  have := List.pairwise_mergeSort (le := fun a b : Nat => decide (a ≤ b)) (fun a b c h1 h2 => by simp only [decide_eq_true_eq] at *; omega) (fun a b => by simp only [Bool.or_eq_true, decide_eq_true_eq]; omega) l
  exact this.imp fun h => by simpa using h
theorem sortN_lt {l : List Nat} (h : l.Nodup) : (sortN l).Pairwise (· < ·) := by
  have h1 : (sortN l).Nodup := (sortN_perm l).nodup_iff.2 h
  exact List.Pairwise.imp₂ (fun a b h1 h2 => Nat.lt_of_le_of_ne h1 h2) (sortN_le l) h1
theorem sortN_cast {ss : List Int} {l : List Nat} (h : ss.Perm (l.map fun x : Nat => (x : Int))) : ss.mergeSort (fun x y => decide (x ≤ y)) = (sortN l).map fun x : Nat => (x : Int) := by
  rw [show ss.mergeSort (fun x y => decide (x ≤ y)) = (l.map fun x : Nat => (x : Int)).mergeSort leI from mergeSort_of_perm_i h]
  have tr : ∀ a b c : Int, leI a b = true → leI b c = true → leI a c = true := fun a b c h1 h2 => by simp only [leI, decide_eq_true_eq] at *; exact Int.le_trans h1 h2
  have tt : ∀ a b : Int, (leI a b || leI b a) = true := fun a b => by simp only [leI, Bool.or_eq_true, decide_eq_true_eq]; exact Int.le_total a b
  refine List.Perm.eq_of_pairwise (le := fun a b => leI a b = true) (fun a b _ _ h1 h2 => ?_) (List.pairwise_mergeSort tr tt _) (List.pairwise_map.2 ((sortN_le l).imp fun h => ?_)) ((List.mergeSort_perm _ leI).trans ((sortN_perm l).symm.map _))
  · simp only [leI, decide_eq_true_eq] at h1 h2
    exact Int.le_antisymm h1 h2
  · simp only [leI, decide_eq_true_eq]
    exact_mod_cast h
theorem keys_call (B : Nat) (W : World) : Calls Tryz.prog 52 #[.map (some B)] W fun e w' => e = .returned (.func (.func 90) #[] #[.pointer (some ⟨W.heap.size, 0, none⟩)]) ∧ w' = W.alloc (.cells #[.map (some B)] 80) :=
  (callsIn_wide (n := 5)).1 (AnyZI.keys_in Tryz.keysA Fence.wide 5 trivial rfl (some B) W)
theorem sorts_in (m : Nat) : AnyZI.SortsIn Tryz.prog Tryz.sortedA_ren Fence.wide m :=
  ⟨fun blk off cap ss W hH hblk hsz => callsIn_wide.2 (AnyM.slices_Sort_int Tryz.sortA blk off cap ss W hH hblk hsz),
   fun p cap W => callsIn_wide.2 (AnyM.slices_Sort_int_none Tryz.sortA p cap W)⟩
set_option maxHeartbeats 1000000 in
theorem sorted_call {B n : Nat} {l : List Nat} {W : World} (h : SetM B n l W) (hnd : l.Nodup) (hlen : l.length ≤ 4096) :
    Calls Tryz.prog 51 #[.func (.func 90) #[] #[.pointer (some ⟨W.heap.size, 0, none⟩)]] (W.alloc (.cells #[.map (some B)] 80)) fun e w' => ∃ a c, e = .returned (.slice a (sortN l).length c) ∧ Hid (w'.ownsRow W.heap.size 3 1 (.slice a (sortN l).length c) (sortN l).length (encN (sortN l))) ∧ Hid (Below W.heap.size W w') := by
  have hsz := DS_size l
  have hseq : SeqGives Fence.wide 2 Tryz.prog 90 #[.pointer (some ⟨W.heap.size, 0, none⟩)] encZ (fun ss => ss.Perm (intKeys (DS l))) (Maps.size (DS l)) (W.alloc (.cells #[.map (some B)] 80)) :=
    AnyZI.keys_gives (ρ := Tryz.keysA_ren) { Tryz.keysA with } Fence.wide _ trivial rfl (by omega) W.heap.size B n (DS l) _ (by simp) (by simp) (World.ownsMap.alloc h _)
  have cS := AnyZI.sorted_in Tryz.sortedA Fence.wide 5 trivial trivial trivial trivial rfl (by omega) (sorts_in _) (enters_of Tryz.func89 (by kernel_rfl) rfl) 90 #[.pointer (some ⟨W.heap.size, 0, none⟩)] trivial (enters_of Tryz.func90 (by kernel_rfl) rfl) _ _ (by unfold maxLen; omega) (by omega) _ hseq
  refine ((callsIn_wide (n := 5)).1 cS).mono fun e w' ⟨v, ss, h1, h2, h3, h4, h5⟩ => ?_
  have hp := h2.trans (set_perm h hnd).symm
  have hlen : ss.length = (sortN l).length := by rw [hp.length_eq, List.length_map, (sortN_perm l).length_eq]
  rw [sortN_cast hp, List.map_map, hlen] at h3
  have h3' : w'.ownsRow (W.alloc (.cells #[.map (some B)] 80)).heap.size 3 1 v (sortN l).length (encN (sortN l)) := h3
  obtain ⟨a, c, rfl⟩ := row_slice h3'
  exact ⟨a, c, h1, row_base h3' (by simp), ((Below.refl _ W).alloc (Nat.le_refl _) _).trans (h5.mono (by simp))⟩
/-- the numbers that Draw returns -/
noncomputable def drawL (seed lot n : Nat) : List Nat := sortN (drawn (lot - n) seed n).2
theorem drawL_len (seed lot n : Nat) : (drawL seed lot n).length = n := by
  unfold drawL
  rw [(sortN_perm _).length_eq, drawn_len]
theorem Draw_any {seed lot n : Nat} {W : World} (hs : seed < 18446744073709551616) (hl : lot ≤ 1099511627776) (hn : n ≤ lot) (hn2 : n ≤ 4096) :
    Calls Tryz.prog 22 #[.int .u64 seed, .int .i64 lot, .int .i64 n] W fun e w' => ∃ a c, e = .returned (.tuple #[.slice a n c, .int .i64 0]) ∧ Hid (w'.ownsRow W.heap.size 3 1 (.slice a n c) n (encN (drawL seed lot n))) ∧ Hid (Below W.heap.size W w') := by
  have := Draw_loop (W := W) (ss := drawL seed lot n) hs hl hn hn2 (fun W1 B _ => keys_call B W1) (fun W1 B h => sorted_call h (drawn_nodup _ _ _) (by rw [drawn_len]; exact hn2))
  rwa [drawL_len] at this
end Go.Proofs.YtcmancfdlfhgbaaGreatDoor
namespace Go.Proofs.YtcmancfdlfhgbaaGreatDoor
open Go Go.RowKit Gu

/-- a list of numbers lies at a slice -/
def IsZs (W : World) (v : Value) (l : List Nat) : Prop :=
  ∃ ao c, v = .slice ao l.length c ∧ (0 < l.length → ∃ B o, ao = some ⟨B, o, none⟩ ∧ B < W.heap.size ∧ ∀ j (h : j < l.length), W.cell? ⟨B, o + j, none⟩ = some (.int .i64 (l[j] : Int)))
theorem IsZs.below {W W' : World} {v : Value} {l : List Nat} (h : IsZs W v l) (hb : Below W.heap.size W W') : IsZs W' v l := by
  obtain ⟨ao, c, hv, h⟩ := h
  refine ⟨ao, c, hv, fun hp => ?_⟩
  obtain ⟨B, o, e, hB, hc⟩ := h hp
  exact ⟨B, o, e, Nat.lt_of_lt_of_le hB hb.size, fun j hj => (hb.cell (p := ⟨B, _, none⟩) hB).trans (hc j hj)⟩
theorem IsZs.at' {W : World} {a : Option Addr} {n c : Nat} {l : List Nat} (h : IsZs W (.slice a n c) l) {j : Nat} (hj : j < l.length) : ∃ B o, a = some ⟨B, o, none⟩ ∧ W.cell? ⟨B, o + j, none⟩ = some (.int .i64 (l[j] : Int)) := by
  obtain ⟨a', c', hv, hcs⟩ := h
  injection hv with hv1 hv2 hv3
  subst hv1
  obtain ⟨B, o, e1, -, hcs2⟩ := hcs (by omega)
  exact ⟨B, o, e1, hcs2 j hj⟩
theorem IsZs.of_row {W : World} {base n : Nat} {v : Value} {l : List Nat} (h : W.ownsRow base 3 1 v n (encN l)) (hn : n = l.length) : IsZs W v l := by
  subst hn
  have hcs := fun g hg => h.cells (g := g) hg
  have hlt := h.lt
  rcases h.2 with ⟨rfl, h0⟩ | ⟨g, cap, cur, rfl, _⟩
  · exact ⟨none, 0, by rw [h0], fun hp => by omega⟩
  · refine ⟨some ⟨g, 0, none⟩, cap, rfl, fun hp => ⟨g, 0, rfl, (hlt g rfl).2, fun j hj => ?_⟩⟩
    have e0 : (encN l)[j]? = some (.int .i64 (l[j] : Int)) := by simp [encN, hj]
    have c0 := hcs g rfl _ _ e0
    rw [show (⟨g, 0, none⟩ : Addr).add j = ⟨g, 0 + j, none⟩ from Addr.add_lit ..] at c0
    exact c0
theorem below_drewM {b : Nat} {w W : World} (h : Below b w W) (n : Nat) : Below b w (W.drewN n) := ⟨h.os, h.tape, h.output, h.size, h.block⟩
set_option maxHeartbeats 1000000 in
theorem Same_yes {v u : Value} {l : List Nat} {W : World} (hv : IsZs W v l) (hu : IsZs W u l) (hl : l.length ≤ 1000000) :
    Calls Tryz.prog 20 #[v, u] W fun e w' => e = .returned (.bool true) ∧ Hid (Below W.heap.size W w') := by
  have HV := Lib.hid hv; have HU := Lib.hid hu
  obtain ⟨ao, ac, rfl, -⟩ := hv
  obtain ⟨bo, bc, rfl, -⟩ := hu
  obtain ⟨m, hm⟩ : ∃ m, m = l.length := ⟨_, rfl⟩
  rw [← hm] at HV HU hl ⊢
  have HM := Lib.hid hm
  clear hm
  go_enter Tryz.func20, Tryz.ntmps20
  go_wp2_with fail
  go_loopw [5] (fun t wr => ∃ j : Nat, j ≤ m ∧ t = .int .i64 j ∧ Hid (Below W.heap.size W wr)) (fun t _ => m - (intOf t).toNat)
  case atStart => exact ⟨0, Nat.zero_le _, rfl, Below.refl _ _⟩
  case round =>
    obtain ⟨j, hj, rfl, HB⟩ := hrel
    by_cases q : j < m
    · have q1 : (j : Int) < m := by omega
      have hw : IntKind.i64.wrap ((j : Int) + 1) = ((j + 1 : Nat) : Int) := by rw [IntWalk.i64_in _ (by omega)]; omega
      have h1 : j < l.length := by rw [← HM.out]; exact q
      obtain ⟨B, o, e1, d0⟩ := (HV.out.below HB.out).at' h1
      obtain ⟨B2, o2, e2, d1⟩ := (HU.out.below HB.out).at' h1
      obtain ⟨x, hx⟩ : ∃ x, x = l[j] := ⟨_, rfl⟩
      rw [← hx] at d0 d1
      have d0d : wr.drew.cell? ⟨B, o + j, none⟩ = some (.int .i64 (x : Int)) := d0
      have d1d : wr.drew.cell? ⟨B2, o2 + j, none⟩ = some (.int .i64 (x : Int)) := d1
      subst e1; subst e2
      clear hx
      go_wp2_with fail
      go_quiet (fail)
      rename_i nq
      have HB4 : Hid (Below W.heap.size W (World.drewN wr nq)) := below_drewM HB.out nq
      generalize hw2 : World.drewN wr nq = w4 at HB4 ⊢
      clear hw2
      go_wp2_with fail
      go_roundw
      case rel => exact ⟨j + 1, by omega, by go_num, HB4⟩
      case measure => simp [intOf]; omega
    · have q1 : ¬ (j : Int) < m := by omega
      go_wp2_with fail
      go_ret
      exact ⟨rfl, HB⟩
/-- valid arguments of Draw -/
def DrawnP (lot n : Int) : Prop := 0 ≤ lot ∧ lot ≤ 1099511627776 ∧ 0 ≤ n ∧ n ≤ lot ∧ n ≤ 4096
theorem Drawn_yes {lot n : Int} (h : DrawnP lot n) : Hid (∀ W, Calls Tryz.prog 23 #[.int .i64 lot, .int .i64 n] W fun e w' => e = .returned (.bool true) ∧ W = w') := fun W => by
  obtain ⟨h1, h2, h3, h4, h5⟩ := h
  have g1 : lot ≥ 0 := h1
  have g3 : n ≥ 0 := h3
  go_enter Tryz.func23, Tryz.ntmps23; go_wp2_with fail; go_ret; exact ⟨rfl, rfl⟩
theorem Drawn_no {lot n : Int} (h : ¬ DrawnP lot n) : Hid (∀ W, Calls Tryz.prog 23 #[.int .i64 lot, .int .i64 n] W fun e w' => e = .returned (.bool false) ∧ W = w') := fun W => by
  by_cases h1 : lot ≥ 0
  case neg => clear h; go_enter Tryz.func23, Tryz.ntmps23; go_wp2_with fail; go_ret; exact ⟨rfl, rfl⟩
  by_cases h2 : lot ≤ 1099511627776
  case neg => clear h; go_enter Tryz.func23, Tryz.ntmps23; go_wp2_with fail; go_ret; exact ⟨rfl, rfl⟩
  by_cases h3 : n ≥ 0
  case neg => clear h; go_enter Tryz.func23, Tryz.ntmps23; go_wp2_with fail; go_ret; exact ⟨rfl, rfl⟩
  by_cases h4 : n ≤ lot
  case neg => clear h; go_enter Tryz.func23, Tryz.ntmps23; go_wp2_with fail; go_ret; exact ⟨rfl, rfl⟩
  have h5 : ¬ n ≤ 4096 := fun h5 => h ⟨h1, h2, h3, h4, h5⟩
  clear h
  go_enter Tryz.func23, Tryz.ntmps23; go_wp2_with fail; go_ret; exact ⟨rfl, rfl⟩
theorem Draw_bad {seed : Nat} {lot n : Int} {W : World} (h : ¬ DrawnP lot n) :
    Calls Tryz.prog 22 #[.int .u64 seed, .int .i64 lot, .int .i64 n] W fun e w' => e = .returned (.tuple #[.slice none 0 0, .int .i64 2]) ∧ W = w' := by
  by_cases h1 : 0 ≤ lot ∧ lot ≤ 1099511627776
  · have HF1 := isFrom_is (decide_eq_true h1)
    have HF2 := isFrom_is (decide_eq_false (p := 0 ≤ n ∧ n ≤ min lot 4096) (fun h2 => h ⟨h1.1, h1.2, h2.1, by omega, by omega⟩))
    clear h h1
    go_enter Tryz.func22, Tryz.ntmps22
    go_wp2_with fail
    refine (HF1.out _).mono ?_
    rintro e w' ⟨rfl, rfl⟩
    go_wp2_with fail
    refine (HF2.out _).mono ?_
    rintro e w' ⟨rfl, rfl⟩
    go_wp2_with fail
    refine bodyPost_ret (v := .tuple #[.slice none 0 0, .int .i64 2]) (by simp [results, Tryz.results22, go_sem]) rfl ?_
    exact ⟨rfl, rfl⟩
  · have HF1 := isFrom_is (decide_eq_false h1)
    clear h h1
    go_enter Tryz.func22, Tryz.ntmps22
    go_wp2_with fail
    refine (HF1.out _).mono ?_
    rintro e w' ⟨rfl, rfl⟩
    go_wp2_with fail
    refine bodyPost_ret (v := .tuple #[.slice none 0 0, .int .i64 2]) (by simp [results, Tryz.results22, go_sem]) rfl ?_
    exact ⟨rfl, rfl⟩
end Go.Proofs.YtcmancfdlfhgbaaGreatDoor
