/- Contracts and lemmas (several texts merged into one). -/
import Derived.WalkKit
import Derived.Handy
import Derived.Below
import Derived.BigQuiet
import Derived.Deep.OwnRows
import Derived.Deep.Draws
import Derived.Lib.Hide
import Derived.LoopTactic
import Derived.Deep.CutRange
import Derived.Deep.CutBlock
import Derived.Laws.RangeString
import Derived.Laws.RangeAny
import Derived.Laws.Runes
import Derived.Deep.DeepMust
import Derived.Test.YtgblfobomiiofaaShelf
import Derived.Test.YtgblfobomiiofaaTSer1
import Derived.Laws.AppendOwn
import Derived.Laws.AppendOwnNone
import Derived.Maps.AppendAt
import Derived.Maps.Own
import Derived.Maps.OwnSet
import Derived.Maps.Keyed
import Derived.Maps.Views
import Derived.Maps.Ext
import Derived.WideKeyPair
import Derived.DeepKeys4
import Derived.RangeFuncRecord
import Derived.RangeFuncBox
namespace Go.Proofs.Ytgblfobomiiofaa
open Go Go.RowKit

def Ascii (s : ByteArray) : Prop := ∀ i (h : i < s.size), (s[i]'h).toNat < 128
theorem indexByte_none : ∀ {l : List UInt8} {c : UInt8}, (∀ b ∈ l, b ≠ c) → Lib.indexByte l c = -1
  | [], _, _ => rfl
  | b :: l, c, h => by
    unfold Lib.indexByte
    have h1 : (b == c) = false := beq_eq_false_iff_ne.2 (h b (by simp))
    rw [h1, indexByte_none fun x hx => h x (by simp [hx])]
    rfl
theorem index_str {s : ByteArray} {n : Nat} (h : n < s.size) (W : World) : (Instr.index 9 (.string s) (.int .i64 (n : Int))).run Try.prog W = .ok (.int .u8 ((s[n]'h).toNat : Int)) W := by
  rw [run_index_string _ _ _ _ _ Try.underlying9, dif_pos ⟨by omega, by omega⟩]
  rfl
theorem slice_from {s : ByteArray} {n : Nat} (h : n ≤ s.size) (W : World) : (Instr.slice 9 (.string s) (some (.int .i64 (n : Int))) none none).run Try.prog W = .ok (.string (s.extract n s.size)) W := by
  rw [run_slice_string_from_if _ _ _ _ _ Try.underlying9, if_pos ⟨by omega, by omega⟩]
  rfl
theorem slice_to {s : ByteArray} {n : Nat} (h : n ≤ s.size) (W : World) : (Instr.slice 9 (.string s) none (some (.int .i64 (n : Int))) none).run Try.prog W = .ok (.string (s.extract 0 n)) W := by
  rw [run_slice_string_to_if _ _ _ _ _ Try.underlying9, if_pos ⟨by omega, by omega⟩]
  rfl
theorem extract_mem {s : ByteArray} {i j : Nat} {b : UInt8} (h : b ∈ (s.extract i j).data.toList) : ∃ k, ∃ h : k < s.size, b = s[k]'h := by
  obtain ⟨k, hk, rfl⟩ := List.mem_iff_getElem.1 h
  have hk2 : k < min j s.size - i := by
    have : k < min (j - i) (s.size - i) := by simpa using hk
    omega
  refine ⟨i + k, by omega, ?_⟩
  exact ByteArray.getElem_extract (b := s) (start := i) (stop := j) (i := k) (by rw [ByteArray.size_extract]; exact hk2)
theorem below_iter (w : World) (s : ByteArray) (p : Nat) : Below w.heap.size w (w.iter s p) := (Below.refl _ w).alloc (Nat.le_refl _) _
set_option maxRecDepth 100000 in
set_option maxHeartbeats 1000000 in
theorem IndexRune_high {s : ByteArray} (hs : Ascii s) {r : Int} (h0 : 128 ≤ r) (h1 : r ≤ 2147483647) (w : World) :
    Calls Try.prog 78 #[.string s, .int .i32 r] w fun e w' => e = .returned (.int .i64 (-1)) ∧ Below w.heap.size w w' := by
  have HS := Lib.hid hs
  have g1 : ¬ r < 128 := by omega
  have g2 : (0 : Int) ≤ r := by omega
  clear hs
  by_cases hr : r = 65533
  · subst hr
    go_enter Try.func78, Try.ntmps78
    go_wp2_with fail
    go_loopw [5, 6] (fun _ _ wr => ∃ pos : Nat, wr = w.iter s pos) (fun _ _ wr => s.size - wr.iterPos w.heap.size)
    case atStart => exact ⟨0, rfl⟩
    case round =>
      obtain ⟨pos, rfl⟩ := hrel
      by_cases hp : pos < s.size
      · have ha := HS.out pos hp
        have hnx : ∀ ty, (Instr.next (.pointer (some ⟨w.heap.size, 0, none⟩)) true ty).run Try.prog (w.iter s pos) = _ := fun ty => run_next_ascii w s pos ty hp ha
        obtain ⟨b, hb⟩ : ∃ b : Nat, b = (s[pos]'hp).toNat := ⟨_, rfl⟩
        rw [← hb] at ha hnx
        have hne : ((b : Int) == 65533) = false := beq_eq_false_iff_ne.2 (by omega)
        have hne2 : ¬ (b : Int) = 65533 := by omega
        clear hb
        go_wp2_with fail
        go_roundw
        case rel => exact ⟨pos + 1, rfl⟩
        case measure => simp; omega
      · have hnx : ∀ ty, (Instr.next (.pointer (some ⟨w.heap.size, 0, none⟩)) true ty).run Try.prog (w.iter s pos) = _ := fun ty => run_next_end w s pos ty hp
        go_wp2_with fail
        go_ret
        exact ⟨rfl, below_iter _ _ _⟩
  · have hne : (r == 65533) = false := beq_eq_false_iff_ne.2 hr
    have HV := Lib.hid (Try.utf8_ValidRune r)
    by_cases hv : Lib.validRune r = true
    · have hv2 : Utf8.valid r = true := by
        unfold Lib.validRune at hv
        unfold Utf8.valid
        simp at hv ⊢
        omega
      have HE := Lib.hid (encode_facts r hv2 h0)
      obtain ⟨rs, hrs⟩ : ∃ rs, rs = Utf8.encode r := ⟨_, rfl⟩
      rw [← hrs] at HE
      rw [hv] at HV
      obtain ⟨n, hn⟩ : ∃ n, n = rs.size - 1 := ⟨_, rfl⟩
      have hn1 : rs.size = n + 1 := by have := HE.out.1; omega
      have hn2 : n ≤ 3 := by have := HE.out.2.1; omega
      have hnl : n < rs.size := by omega
      obtain ⟨c, hc⟩ : ∃ c : UInt8, c = rs[n]'hnl := ⟨_, rfl⟩
      have hc2 : 128 ≤ c.toNat := by
        have h3 := HE.out.2.2 (by omega)
        rw [hc]
        subst hn
        exact h3
      go_enter Try.func78, Try.ntmps78
      go_wp2_with fail
      refine (HV.out _).mono ?_
      rintro e w' ⟨rfl, rfl⟩
      have hw1 : IntKind.i64.wrap (((Utf8.encode r).size : Int) - 1) = (n : Int) := by rw [← hrs, IntWalk.i64_in _ (by omega)]; omega
      clear hn
      go_wp2_with fail
      go_step3
      go_wp2_with fail
      rw [← hrs]
      have hnl2 : (n : Int) < (rs.size : Int) := by omega
      have HRS := Lib.hid hrs
      have HC := Lib.hid hc
      have hx2 : ∀ W, (Instr.index 9 (.string rs) (.int .i64 (n : Int))).run Try.prog W = .ok (.int .u8 (c.toNat : Int)) W := fun W => by rw [hc]; exact index_str hnl W
      clear hrs hc hw1 HE
      by_cases hns : n < s.size
      · have hns2 : (n : Int) < (s.size : Int) := by omega
        have hx1 : ∀ W, (Instr.index 9 (.string s) (.int .i64 (n : Int))).run Try.prog W = .ok (.int .u8 ((s[n]'hns).toNat : Int)) W := fun W => index_str hns W
        have hb := HS.out n hns
        obtain ⟨b, hb2⟩ : ∃ b : Nat, b = (s[n]'hns).toNat := ⟨_, rfl⟩
        rw [← hb2] at hb hx1
        have hne2 : ((b : Int) != (c.toNat : Int)) = true := by simp; omega
        clear hb2
        have hwn : IntKind.i64.wrap ((n : Int) + 1) = ((n + 1 : Nat) : Int) := by rw [IntWalk.i64_in _ (by omega)]; omega
        have hsl : ∀ W, (Instr.slice 9 (.string s) (some (.int .i64 ((n + 1 : Nat) : Int))) none none).run Try.prog W = .ok (.string (s.extract (n + 1) s.size)) W := fun W => slice_from (by omega) W
        obtain ⟨se, hse⟩ : ∃ se, se = s.extract (n + 1) s.size := ⟨_, rfl⟩
        rw [← hse] at hsl
        obtain ⟨n1, hn1'⟩ : ∃ n1, n1 = n + 1 := ⟨_, rfl⟩
        rw [← hn1'] at hwn hsl
        have HI : Hid (∀ W, Calls Try.prog 92 #[.string se, .int .u8 (c.toNat : Int)] W fun e w' => e = .returned (.int .i64 (-1)) ∧ w' = W) := fun W => by
          have := Try.strings_IndexByte se (c.toNat : Int) W
          rw [indexByte_none (fun b hb => by
            rw [hse] at hb
            obtain ⟨k, hk, rfl⟩ := extract_mem hb
            have h1 := HS.out k hk
            intro e
            have : (s[k]'hk).toNat = c.toNat := by rw [e]; simp
            omega)] at this
          exact this
        clear hse hn1' hn1
        refine wp_loop_rounds 1 ?_
        rw [rounds_succ]
        go_wp2_with fail
        go_step3
        go_wp2_with fail
        go_quiet (fail)
        rename_i nq
        have HB : Hid (Below w'.heap.size w' (w'.drewN nq)) := ⟨rfl, rfl, rfl, Nat.le_refl _, fun _ _ => rfl⟩
        generalize World.drewN w' nq = w2 at HB ⊢
        go_wp2_with fail
        go_quiet ((go_at_call 92; exact Calls.quiet_of_same (HI.out _)))
        rename_i nq2
        go_wp2_with fail
        simp only [Exit.noGoto]
        go_wp2_with fail
        simp only [Exit.noGoto]
        go_wp2_with fail
        go_ret
        exact ⟨rfl, HB.out.trans ⟨rfl, rfl, rfl, Nat.le_refl _, fun _ _ => rfl⟩⟩
      · have hns2 : ¬ (n : Int) < (s.size : Int) := by omega
        refine wp_loop_rounds 1 ?_
        rw [rounds_succ]
        go_wp2_with fail
        go_ret
        exact ⟨rfl, Below.refl _ _⟩
    · have hv : Lib.validRune r = false := by simpa using hv
      rw [hv] at HV
      go_enter Try.func78, Try.ntmps78
      go_wp2_with fail
      refine (HV.out _).mono ?_
      rintro e w' ⟨rfl, rfl⟩
      go_wp2_with fail
      go_ret
      exact ⟨rfl, Below.refl _ _⟩
/-- a rune that is no ASCII is in no string that is -/
theorem ContainsRune_high {s : ByteArray} (hs : Ascii s) {r : Int} (h0 : 128 ≤ r) (h1 : r ≤ 2147483647) (w : World) :
    Calls Try.prog 88 #[.string s, .int .i32 r] w fun e w' => e = .returned (.bool false) ∧ Below w.heap.size w w' := by
  have HI := Lib.hid (IndexRune_high hs h0 h1 w)
  clear hs h0 h1
  go_enter Try.func88, Try.ntmps88
  go_wp2_with fail
  refine HI.out.mono ?_
  rintro e w' ⟨rfl, hb⟩
  have HB := Lib.hid hb
  clear hb
  go_wp2_with fail
  go_ret
  exact ⟨rfl, HB.out⟩
end Go.Proofs.Ytgblfobomiiofaa
namespace Go.Proofs.Ytgblfobomiiofaa
open Go Go.RowKit

def IffB (b : Bool) (P : Prop) : Prop := b = true ↔ P
theorem IffB.yes {P : Prop} (h : P) : IffB true P := ⟨fun _ => h, fun _ => rfl⟩
theorem IffB.no {P : Prop} (h : ¬ P) : IffB false P := ⟨fun h => (by cases h), fun h' => absurd h' h⟩
theorem below_tr {w a b : World} (h1 : Below w.heap.size w a) (h2 : Below a.heap.size a b) : Below w.heap.size w b := h1.trans (h2.mono h1.size)
theorem below_dr (w : World) (n : Nat) : Below w.heap.size w (w.drewN n) := ⟨rfl, rfl, rfl, Nat.le_refl _, fun _ _ => rfl⟩
theorem below_al (w : World) (o : Obj) : Below w.heap.size w (w.alloc o) := (Below.refl _ w).alloc (Nat.le_refl _) o
/-- the bytes of a string -/
abbrev bys (s : ByteArray) : List UInt8 := s.data.toList
theorem bys_at {s : ByteArray} {i : Nat} (h : i < s.size) : s[i]'h ∈ bys s := by
  have : (s[i]'h) = s.data.toList[i]'(by simpa using h) := by simp [ByteArray.getElem_eq_getElem_data]
  rw [this]
  exact List.getElem_mem _
theorem mem_bys {s : ByteArray} {b : UInt8} : b ∈ bys s ↔ ∃ i, ∃ h : i < s.size, s[i]'h = b := by
  constructor
  · intro h
    obtain ⟨k, hk, e⟩ := List.mem_iff_getElem.1 h
    have hk2 : k < s.size := by simpa using hk
    exact ⟨k, hk2, by rw [← e]; simp [ByteArray.getElem_eq_getElem_data]⟩
  · rintro ⟨i, h, rfl⟩; exact bys_at h
theorem indexByte_mem {l : List UInt8} {c : UInt8} : 0 ≤ Lib.indexByte l c ↔ c ∈ l := by
  induction l with
  | nil => simp [Lib.indexByte]
  | cons b l ih =>
    unfold Lib.indexByte
    by_cases h : b = c
    · subst h; simp
    · have h1 : (b == c) = false := beq_eq_false_iff_ne.2 h
      rw [h1]
      have h2 := Lib.indexByte_ge l c
      by_cases h3 : Lib.indexByte l c = -1
      · rw [h3] at ih ⊢
        simp at ih
        simp [ih]
        exact fun e => h e.symm
      · have h4 : (Lib.indexByte l c == -1) = false := beq_eq_false_iff_ne.2 h3
        rw [h4]
        have h5 : 0 ≤ Lib.indexByte l c := by omega
        have h6 := ih.1 h5
        simp [h6]; omega
theorem indexByte_idx {l : List UInt8} {c : UInt8} (h : c ∈ l) : Lib.indexByte l c = (l.idxOf c : Int) := by
  induction l with
  | nil => simp at h
  | cons b l ih =>
    unfold Lib.indexByte
    by_cases e : b = c
    · subst e; simp
    · have h1 : (b == c) = false := beq_eq_false_iff_ne.2 e
      have hm : c ∈ l := by
        rcases List.mem_cons.1 h with r | r
        · exact absurd r.symm e
        · exact r
      rw [h1, ih hm]
      have h4 : (((l.idxOf c : Nat) : Int) == -1) = false := beq_eq_false_iff_ne.2 (by omega)
      rw [h4, List.idxOf_cons, h1]
      simp
theorem u8_back (b : UInt8) : ((b.toNat : Int)).toNat.toUInt8 = b := by simp
/-- all bytes are of the alphabet -/
def OfA (s al : ByteArray) : Prop := ∀ b ∈ bys s, b ∈ bys al
/-- a call answers whether P holds, and changes nothing that lay -/
def BoolP (P : Prop) (W : World) (e : Ending) (w' : World) : Prop := ∃ r : Bool, e = .returned (.bool r) ∧ IffB r P ∧ Below W.heap.size W w'
set_option maxRecDepth 100000 in
set_option maxHeartbeats 1000000 in
theorem consistsOf_any {s al : ByteArray} (hal : Ascii al) (w : World) :
    Calls Try.prog 70 #[.string s, .string al] w (BoolP (OfA s al) w) := by
  have HA := Lib.hid hal
  have HC1 := Lib.hid (fun (b : UInt8) (h : b.toNat < 128) W => Try.strings_ContainsRune_ascii al (b.toNat : Int) W (by omega) (by omega))
  have HC2 := Lib.hid (fun (r : Int) W (h0 : 128 ≤ r) (h1 : r ≤ 2147483647) => ContainsRune_high hal h0 h1 W)
  clear hal
  go_enter Try.func70, Try.ntmps70
  go_wp2_with fail
  go_loopw [6] (fun _ wr => ∃ pos : Nat, wr = w.iter s pos ∧ Hid (∀ i (h : i < s.size), i < pos → s[i]'h ∈ bys al)) (fun _ wr => s.size - wr.iterPos w.heap.size)
  case atStart => exact ⟨0, rfl, fun i h hi => by omega⟩
  case round =>
    obtain ⟨pos, rfl, HP⟩ := hrel
    by_cases hp : pos < s.size
    · by_cases ha : (s[pos]'hp).toNat < 128
      · have hnx : ∀ ty, (Instr.next (.pointer (some ⟨w.heap.size, 0, none⟩)) true ty).run Try.prog (w.iter s pos) = _ := fun ty => run_next_ascii w s pos ty hp ha
        have HC := Lib.hid (HC1.out (s[pos]'hp) ha (w.iter s (pos + 1)))
        by_cases hm : s[pos]'hp ∈ bys al
        · have HC' : Hid (Calls Try.prog 88 #[.string al, .int .i32 ((s[pos]'hp).toNat : Int)] (w.iter s (pos + 1)) fun e w' => e = .returned (.bool true) ∧ w' = w.iter s (pos + 1)) := by
            have := HC.out
            rw [u8_back, show decide (0 ≤ Lib.indexByte al.data.toList (s[pos]'hp)) = true from decide_eq_true (indexByte_mem.2 hm)] at this
            exact this
          have HP' : Hid (∀ i (h : i < s.size), i < pos + 1 → s[i]'h ∈ bys al) := fun i h hi => by
            rcases Nat.lt_succ_iff_lt_or_eq.1 hi with c | c
            · exact HP.out i h c
            · subst c; exact hm
          obtain ⟨b, hb⟩ : ∃ b : Nat, b = (s[pos]'hp).toNat := ⟨_, rfl⟩
          rw [← hb] at hnx HC'
          clear hb hm HC ha
          go_wp2_with fail
          refine HC'.out.mono ?_
          rintro e w' ⟨rfl, rfl⟩
          go_wp2_with fail
          go_roundw
          case rel => exact ⟨pos + 1, rfl, HP'⟩
          case measure => simp; omega
        · have HC' : Hid (Calls Try.prog 88 #[.string al, .int .i32 ((s[pos]'hp).toNat : Int)] (w.iter s (pos + 1)) fun e w' => e = .returned (.bool false) ∧ w' = w.iter s (pos + 1)) := by
            have := HC.out
            rw [u8_back, show decide (0 ≤ Lib.indexByte al.data.toList (s[pos]'hp)) = false from decide_eq_false (fun h => hm (indexByte_mem.1 h))] at this
            exact this
          have HN : Hid (IffB false (OfA s al)) := IffB.no fun h => hm (h _ (bys_at hp))
          obtain ⟨b, hb⟩ : ∃ b : Nat, b = (s[pos]'hp).toNat := ⟨_, rfl⟩
          rw [← hb] at hnx HC'
          clear hb hm HC ha
          go_wp2_with fail
          refine HC'.out.mono ?_
          rintro e w' ⟨rfl, rfl⟩
          go_wp2_with fail
          go_ret
          exact ⟨false, rfl, HN, below_iter _ _ _⟩
      · have hnx : ∀ ty, (Instr.next (.pointer (some ⟨w.heap.size, 0, none⟩)) true ty).run Try.prog (w.iter s pos) = _ := fun ty => run_next_any w s pos ty hp
        have h1 := (decode_high s pos hp (by omega)).1
        have h2 := decode_le s pos
        have HN : Hid (IffB false (OfA s al)) := IffB.no fun h => by
          obtain ⟨i, hi, e⟩ := mem_bys.1 (h _ (bys_at hp))
          have := HA.out i hi
          rw [e] at this
          omega
        have HC' := Lib.hid (HC2.out ((Utf8.decode s pos).1 : Int) (w.iter s (pos + (Utf8.decode s pos).2)) (by omega) (by omega))
        generalize (Utf8.decode s pos).1 = r at *
        generalize (Utf8.decode s pos).2 = wd at *
        go_wp2_with fail
        refine HC'.out.mono ?_
        rintro e w' ⟨rfl, hb⟩
        have HB := Lib.hid (below_tr (below_iter w s _) hb)
        clear hb
        go_wp2_with fail
        go_ret
        exact ⟨false, rfl, HN, HB⟩
    · have hnx : ∀ ty, (Instr.next (.pointer (some ⟨w.heap.size, 0, none⟩)) true ty).run Try.prog (w.iter s pos) = _ := fun ty => run_next_end w s pos ty hp
      have HN : Hid (IffB true (OfA s al)) := IffB.yes fun b hb => by
        obtain ⟨i, hi, rfl⟩ := mem_bys.1 hb
        exact HP.out i hi (by omega)
      go_wp2_with fail
      go_ret
      exact ⟨true, rfl, HN, below_iter _ _ _⟩
end Go.Proofs.Ytgblfobomiiofaa
namespace Go.Proofs.Ytgblfobomiiofaa
open Go Go.RowKit

def OkB (b : UInt8) : Prop := (48 ≤ b.toNat ∧ b.toNat ≤ 57) ∨ (65 ≤ b.toNat ∧ b.toNat ≤ 90)
instance (b : UInt8) : Decidable (OkB b) := by unfold OkB; infer_instance
/-- an alphabet -/
def GoodA (s : ByteArray) : Prop := 2 ≤ s.size ∧ s.size ≤ 36 ∧ ∀ i (h : i < s.size), OkB (s[i]'h) ∧ ∀ j (hj : j < s.size), j < i → s[j]'hj ≠ s[i]'h
theorem OkB.lt {b : UInt8} (h : OkB b) : b.toNat < 128 := by unfold OkB at h; omega
theorem GoodA.ascii {s : ByteArray} (h : GoodA s) : Ascii s := fun i hi => (h.2.2 i hi).1.lt
set_option maxRecDepth 100000 in
set_option maxHeartbeats 1000000 in
theorem isAlphabet_any (s : ByteArray) (w : World) :
    Calls Try.prog 76 #[.string s] w (BoolP (GoodA s) w) := by
  by_cases h1 : s.size < 2
  · have h2 : (s.size : Int) < 2 := by omega
    have HN : Hid (IffB false (GoodA s)) := IffB.no fun h => by have := h.1; omega
    go_enter Try.func76, Try.ntmps76
    go_wp2_with fail
    go_ret
    exact ⟨false, rfl, HN, Below.refl _ _⟩
  have h2 : ¬ (s.size : Int) < 2 := by omega
  by_cases h3 : s.size > 36
  · have h4 : (s.size : Int) > 36 := by omega
    have HN : Hid (IffB false (GoodA s)) := IffB.no fun h => by have := h.2.1; omega
    go_enter Try.func76, Try.ntmps76
    go_wp2_with fail
    go_ret
    exact ⟨false, rfl, HN, Below.refl _ _⟩
  have h4 : ¬ (s.size : Int) > 36 := by omega
  go_enter Try.func76, Try.ntmps76
  go_wp2_with fail
  go_loopw [3, 4, 5, 6] (fun _ _ _ _ wr => ∃ pos : Nat, wr = w.iter s pos ∧ Hid (∀ i (h : i < s.size), i < pos → OkB (s[i]'h) ∧ ∀ j (hj : j < s.size), j < i → s[j]'hj ≠ s[i]'h)) (fun _ _ _ _ wr => s.size - wr.iterPos w.heap.size)
  case atStart => exact ⟨0, rfl, fun i h hi => by omega⟩
  case round =>
    obtain ⟨pos, rfl, HP⟩ := hrel
    by_cases hp : pos < s.size
    · by_cases ha : (s[pos]'hp).toNat < 128
      · have hnx : ∀ ty, (Instr.next (.pointer (some ⟨w.heap.size, 0, none⟩)) true ty).run Try.prog (w.iter s pos) = _ := fun ty => run_next_ascii w s pos ty hp ha
        have hsl : ∀ W, (Instr.slice 9 (.string s) none (some (.int .i64 (pos : Int))) none).run Try.prog W = .ok (.string (s.extract 0 pos)) W := fun W => slice_to (by omega) W
        have HC := Lib.hid (Try.strings_ContainsRune_ascii (s.extract 0 pos) ((s[pos]'hp).toNat : Int) (w.iter s (pos + 1)) (by omega) (by omega))
        have hmem : (0 ≤ Lib.indexByte (s.extract 0 pos).data.toList (s[pos]'hp)) ↔ ∃ j, ∃ hj : j < s.size, j < pos ∧ s[j]'hj = s[pos]'hp := by
          rw [indexByte_mem]
          constructor
          · intro h
            obtain ⟨j, hj, e⟩ := mem_bys.1 h
            have hj2 : j < pos := by rw [ByteArray.size_extract] at hj; omega
            refine ⟨j, by omega, hj2, ?_⟩
            rw [← e]
            have := ByteArray.getElem_extract (b := s) (start := 0) (stop := pos) (i := j) hj
            rw [this]
            simp
          · rintro ⟨j, hj, hj2, e⟩
            refine mem_bys.2 ⟨j, by rw [ByteArray.size_extract]; omega, ?_⟩
            rw [ByteArray.getElem_extract, ← e]
            simp
        by_cases hok : OkB (s[pos]'hp)
        · by_cases hdup : ∃ j, ∃ hj : j < s.size, j < pos ∧ s[j]'hj = s[pos]'hp
          · have HC' : Hid (Calls Try.prog 88 #[.string (s.extract 0 pos), .int .i32 ((s[pos]'hp).toNat : Int)] (w.iter s (pos + 1)) fun e w' => e = .returned (.bool true) ∧ w' = w.iter s (pos + 1)) := by
              have := HC.out
              rw [u8_back, show decide (0 ≤ Lib.indexByte (s.extract 0 pos).data.toList (s[pos]'hp)) = true from decide_eq_true (hmem.2 hdup)] at this
              exact this
            have HN : Hid (IffB false (GoodA s)) := IffB.no fun h => by
              obtain ⟨j, hj, hj2, e⟩ := hdup
              exact (h.2.2 pos hp).2 j hj hj2 e
            obtain ⟨b, hb⟩ : ∃ b : Nat, b = (s[pos]'hp).toNat := ⟨_, rfl⟩
            rw [← hb] at hnx HC'
            unfold OkB at hok
            rw [← hb] at hok
            obtain ⟨se, hse⟩ : ∃ se, se = s.extract 0 pos := ⟨_, rfl⟩
            rw [← hse] at hsl HC'
            clear hb hdup hmem HC ha hse
            by_cases hd : (b : Int) ≤ 57
            · have e1 : (b : Int) ≥ 48 := by omega
              have e2 : decide ((b : Int) ≥ 65) = false := decide_eq_false (by omega)
              have e3 : ¬ (b : Int) ≥ 65 := by omega
              go_wp2_with fail
              refine HC'.out.mono ?_
              rintro e w' ⟨rfl, rfl⟩
              go_wp2_with fail
              go_ret
              exact ⟨false, rfl, HN, below_iter _ _ _⟩
            · have e1 : (b : Int) ≥ 65 := by omega
              have e2 : (b : Int) ≤ 90 := by omega
              have e3 : (b : Int) ≥ 48 := by omega
              go_wp2_with fail
              refine HC'.out.mono ?_
              rintro e w' ⟨rfl, rfl⟩
              go_wp2_with fail
              go_ret
              exact ⟨false, rfl, HN, below_iter _ _ _⟩
          · have HC' : Hid (Calls Try.prog 88 #[.string (s.extract 0 pos), .int .i32 ((s[pos]'hp).toNat : Int)] (w.iter s (pos + 1)) fun e w' => e = .returned (.bool false) ∧ w' = w.iter s (pos + 1)) := by
              have := HC.out
              rw [u8_back, show decide (0 ≤ Lib.indexByte (s.extract 0 pos).data.toList (s[pos]'hp)) = false from decide_eq_false (fun h => hdup (hmem.1 h))] at this
              exact this
            have HP' : Hid (∀ i (h : i < s.size), i < pos + 1 → OkB (s[i]'h) ∧ ∀ j (hj : j < s.size), j < i → s[j]'hj ≠ s[i]'h) := fun i h hi => by
              rcases Nat.lt_succ_iff_lt_or_eq.1 hi with c | c
              · exact HP.out i h c
              · subst c; exact ⟨hok, fun j hj hj2 e => hdup ⟨j, hj, hj2, e⟩⟩
            obtain ⟨b, hb⟩ : ∃ b : Nat, b = (s[pos]'hp).toNat := ⟨_, rfl⟩
            rw [← hb] at hnx HC'
            unfold OkB at hok
            rw [← hb] at hok
            obtain ⟨se, hse⟩ : ∃ se, se = s.extract 0 pos := ⟨_, rfl⟩
            rw [← hse] at hsl HC'
            clear hb hdup hmem HC ha hse
            by_cases hd : (b : Int) ≤ 57
            · have e1 : (b : Int) ≥ 48 := by omega
              have e2 : decide ((b : Int) ≥ 65) = false := decide_eq_false (by omega)
              have e3 : ¬ (b : Int) ≥ 65 := by omega
              go_wp2_with fail
              refine HC'.out.mono ?_
              rintro e w' ⟨rfl, rfl⟩
              go_wp2_with fail
              go_roundw
              case rel => exact ⟨pos + 1, rfl, HP'⟩
              case measure => simp; omega
            · have e1 : (b : Int) ≥ 65 := by omega
              have e2 : (b : Int) ≤ 90 := by omega
              have e3 : (b : Int) ≥ 48 := by omega
              go_wp2_with fail
              refine HC'.out.mono ?_
              rintro e w' ⟨rfl, rfl⟩
              go_wp2_with fail
              go_roundw
              case rel => exact ⟨pos + 1, rfl, HP'⟩
              case measure => simp; omega
        · have HN : Hid (IffB false (GoodA s)) := IffB.no fun h => hok (h.2.2 pos hp).1
          obtain ⟨b, hb⟩ : ∃ b : Nat, b = (s[pos]'hp).toNat := ⟨_, rfl⟩
          rw [← hb] at hnx
          unfold OkB at hok
          rw [← hb] at hok
          clear hb hmem HC ha hsl
          have k1 : decide ((b : Int) ≥ 48) = decide ((b : Int) ≥ 48) := rfl
          by_cases q1 : (b : Int) ≥ 48
          · by_cases q2 : (b : Int) ≤ 57
            · exact absurd (.inl ⟨by omega, by omega⟩) hok
            · by_cases q3 : (b : Int) ≥ 65
              · have q4 : ¬ (b : Int) ≤ 90 := fun h => hok (.inr ⟨by omega, by omega⟩)
                clear hok k1
                go_wp2_with fail
                go_ret
                exact ⟨false, rfl, HN, below_iter _ _ _⟩
              · clear hok k1
                go_wp2_with fail
                go_ret
                exact ⟨false, rfl, HN, below_iter _ _ _⟩
          · have q3 : ¬ (b : Int) ≥ 65 := by omega
            clear hok k1
            go_wp2_with fail
            go_ret
            exact ⟨false, rfl, HN, below_iter _ _ _⟩
      · have hnx : ∀ ty, (Instr.next (.pointer (some ⟨w.heap.size, 0, none⟩)) true ty).run Try.prog (w.iter s pos) = _ := fun ty => run_next_any w s pos ty hp
        have h1 := (decode_high s pos hp (by omega)).1
        have HN : Hid (IffB false (GoodA s)) := IffB.no fun h => ha (h.ascii pos hp)
        generalize (Utf8.decode s pos).1 = r at *
        generalize (Utf8.decode s pos).2 = wd at *
        have q1 : (r : Int) ≥ 48 := by omega
        have q2 : ¬ (r : Int) ≤ 57 := by omega
        have q3 : (r : Int) ≥ 65 := by omega
        have q4 : ¬ (r : Int) ≤ 90 := by omega
        go_wp2_with fail
        go_ret
        exact ⟨false, rfl, HN, below_iter _ _ _⟩
    · have hnx : ∀ ty, (Instr.next (.pointer (some ⟨w.heap.size, 0, none⟩)) true ty).run Try.prog (w.iter s pos) = _ := fun ty => run_next_end w s pos ty hp
      have HN : Hid (IffB true (GoodA s)) := IffB.yes ⟨by omega, by omega, fun i hi => HP.out i hi (by omega)⟩
      go_wp2_with fail
      go_ret
      exact ⟨true, rfl, HN, below_iter _ _ _⟩
end Go.Proofs.Ytgblfobomiiofaa
namespace Go.Proofs.Ytgblfobomiiofaa
open Go Go.RowKit

/-- a list of strings lies at a slice -/
def IsSs (W : World) (v : Value) (l : List ByteArray) : Prop :=
  ∃ ao c, v = .slice ao l.length c ∧ (0 < l.length → ∃ B o, ao = some ⟨B, o, none⟩ ∧ B < W.heap.size ∧ ∀ j (h : j < l.length), W.cell? ⟨B, o + j, none⟩ = some (.string l[j]))
theorem IsSs.below {W W' : World} {v : Value} {l : List ByteArray} (h : IsSs W v l) (hb : Below W.heap.size W W') : IsSs W' v l := by
  obtain ⟨ao, c, hv, h⟩ := h
  refine ⟨ao, c, hv, fun hp => ?_⟩
  obtain ⟨B, o, e, hB, hc⟩ := h hp
  exact ⟨B, o, e, Nat.lt_of_lt_of_le hB hb.size, fun j hj => (hb.cell (p := ⟨B, _, none⟩) hB).trans (hc j hj)⟩
theorem IsSs.at' {W : World} {a : Option Addr} {n c : Nat} {l : List ByteArray} (h : IsSs W (.slice a n c) l) {j : Nat} (hj : j < l.length) : ∃ B o, a = some ⟨B, o, none⟩ ∧ W.cell? ⟨B, o + j, none⟩ = some (.string l[j]) := by
  obtain ⟨a', c', hv, hcs⟩ := h
  injection hv with hv1 hv2 hv3
  subst hv1
  obtain ⟨B, o, e1, -, hcs2⟩ := hcs (by omega)
  exact ⟨B, o, e1, hcs2 j hj⟩
def OkBan (b al : ByteArray) : Prop := 1 ≤ b.size ∧ b.size ≤ 8 ∧ OfA b al
/-- banned strings -/
def GoodB (l : List ByteArray) (al : ByteArray) : Prop := l.length ≤ 16 ∧ ∀ j (h : j < l.length), OkBan l[j] al
set_option maxRecDepth 100000 in
set_option maxHeartbeats 1000000 in
theorem areBans_any {l : List ByteArray} {v : Value} {al : ByteArray} {w : World} (hv : IsSs w v l) (hal : Ascii al) :
    Calls Try.prog 77 #[v, .string al] w (BoolP (GoodB l al) w) := by
  have HC := Lib.hid (fun (s : ByteArray) W => consistsOf_any (s := s) hal W)
  have HI := Lib.hid hv
  obtain ⟨ao, c, rfl, -⟩ := hv
  obtain ⟨m, hm⟩ : ∃ m, m = l.length := ⟨_, rfl⟩
  rw [← hm] at HI
  rw [← hm]
  have HM := Lib.hid hm
  clear hm hal
  by_cases h1 : m > 16
  · have h2 : (m : Int) > 16 := by omega
    have HN : Hid (IffB false (GoodB l al)) := IffB.no fun h => by have := h.1; rw [← HM.out] at this; omega
    go_enter Try.func77, Try.ntmps77
    go_wp2_with fail
    go_ret
    exact ⟨false, rfl, HN, Below.refl _ _⟩
  have h2 : ¬ (m : Int) > 16 := by omega
  go_enter Try.func77, Try.ntmps77
  go_wp2_with fail
  go_loopw [6, 12] (fun _ t wr => ∃ j : Nat, j ≤ m ∧ t = .int .i64 j ∧ Hid (∀ i (h : i < l.length), i < j → OkBan l[i] al) ∧ Hid (Below w.heap.size w wr)) (fun _ t _ => m - (intOf t).toNat)
  case atStart => exact ⟨0, Nat.zero_le _, rfl, fun i h hi => by omega, Below.refl _ _⟩
  case round =>
    obtain ⟨j, hj, rfl, HP, HB⟩ := hrel
    by_cases q : j < m
    · have q1 : (j : Int) < m := by omega
      have hw : IntKind.i64.wrap ((j : Int) + 1) = ((j + 1 : Nat) : Int) := by rw [IntWalk.i64_in _ (by omega)]; omega
      have hjl : j < l.length := by rw [← HM.out]; exact q
      obtain ⟨B, o, e1, d0⟩ := (HI.out.below HB.out).at' hjl
      obtain ⟨b, hb⟩ : ∃ b, b = l[j] := ⟨_, rfl⟩
      rw [← hb] at d0
      have HBQ := Lib.hid hb
      subst e1
      clear hb
      by_cases k1 : b.size < 1
      · have k2 : (b.size : Int) < 1 := by omega
        have HN : Hid (IffB false (GoodB l al)) := IffB.no fun h => by have := (h.2 j hjl).1; rw [← HBQ.out] at this; omega
        go_wp2_with fail
        go_ret
        exact ⟨false, rfl, HN, HB⟩
      have k2 : ¬ (b.size : Int) < 1 := by omega
      by_cases k3 : b.size > 8
      · have k4 : (b.size : Int) > 8 := by omega
        have HN : Hid (IffB false (GoodB l al)) := IffB.no fun h => by have := (h.2 j hjl).2.1; rw [← HBQ.out] at this; omega
        go_wp2_with fail
        go_ret
        exact ⟨false, rfl, HN, HB⟩
      have k4 : ¬ (b.size : Int) > 8 := by omega
      go_wp2_with fail
      refine (HC.out b wr).mono ?_
      rintro _ w2 ⟨r, rfl, hr, hb2⟩
      have HB2 := Lib.hid (below_tr HB.out hb2)
      have HR := Lib.hid hr
      clear hr hb2
      cases r with
      | false =>
        have HN : Hid (IffB false (GoodB l al)) := IffB.no fun h => by have := HR.out.2 (by have := (h.2 j hjl).2.2; rw [← HBQ.out] at this; exact this); cases this
        go_wp2_with fail
        go_ret
        exact ⟨false, rfl, HN, HB2⟩
      | true =>
        have HP' : Hid (∀ i (h : i < l.length), i < j + 1 → OkBan l[i] al) := fun i h hi => by
          rcases Nat.lt_succ_iff_lt_or_eq.1 hi with e | e
          · exact HP.out i h e
          · subst e; rw [← HBQ.out]; exact ⟨by omega, by omega, HR.out.1 rfl⟩
        go_wp2_with fail
        go_roundw
        case rel => exact ⟨j + 1, q, by go_num, HP', HB2⟩
        case measure => simp [intOf]; omega
    · have q1 : ¬ (j : Int) < m := by omega
      have HN : Hid (IffB true (GoodB l al)) := IffB.yes ⟨by rw [← HM.out]; omega, fun i h => HP.out i h (by rw [← HM.out] at h; omega)⟩
      go_wp2_with fail
      go_ret
      exact ⟨true, rfl, HN, HB⟩
/-- a scheme -/
structure Sch where
  al : ByteArray
  len : Int
  bl : List ByteArray
  ck : Bool
def WellF (s : Sch) : Prop := GoodA s.al ∧ 1 ≤ s.len ∧ s.len ≤ 16 ∧ GoodB s.bl s.al ∧ (s.ck = true → s.al.size % 2 = 0)
/-- a scheme as a value -/
def schV (s : Sch) (bv : Value) : Value := .agg #[.string s.al, .int .i64 s.len, bv, .bool s.ck]
/-- a box of four cells -/
structure B4 (X : Nat) (a b c d : Value) (w : World) : Prop where
  c0 : w.cell? ⟨X, 0, none⟩ = some a
  c1 : w.cell? ⟨X, 1, none⟩ = some b
  c2 : w.cell? ⟨X, 2, none⟩ = some c
  c3 : w.cell? ⟨X, 3, none⟩ = some d
theorem B4.lt {X : Nat} {a b c d : Value} {w : World} (h : B4 X a b c d w) : X < w.heap.size := World.block_lt_of_cell? _ _ h.c0
theorem B4.below {X : Nat} {a b c d : Value} {w w' : World} (h : B4 X a b c d w) (hb : Below w.heap.size w w') : B4 X a b c d w' :=
  ⟨(hb.cell (p := ⟨X, 0, none⟩) h.lt).trans h.c0, (hb.cell (p := ⟨X, 1, none⟩) h.lt).trans h.c1, (hb.cell (p := ⟨X, 2, none⟩) h.lt).trans h.c2, (hb.cell (p := ⟨X, 3, none⟩) h.lt).trans h.c3⟩
theorem B4.new (W : World) (a b c d : Value) (t : TypeId) : B4 W.heap.size a b c d (W.alloc (.cells #[a, b, c, d] t)) :=
  ⟨World.cell?_alloc_at _ _ _ _ rfl, World.cell?_alloc_at _ _ _ _ rfl, World.cell?_alloc_at _ _ _ _ rfl, World.cell?_alloc_at _ _ _ _ rfl⟩
set_option maxRecDepth 100000 in
set_option maxHeartbeats 1000000 in
theorem isWellFormed_any {s : Sch} {bv : Value} {w : World} (hv : IsSs w bv s.bl) :
    Calls Try.prog 63 #[schV s bv] w (BoolP (WellF s) w) := by
  obtain ⟨al, len, bl, ck⟩ := s
  obtain ⟨w0, HW⟩ : ∃ w0, w0 = w.alloc (.cells #[.string al, .int .i64 len, bv, .bool ck] 24) := ⟨_, rfl⟩
  have hb4 : B4 w.heap.size (.string al) (.int .i64 len) bv (.bool ck) w0 := by rw [HW]; exact B4.new _ _ _ _ _ _
  have hb0 : Below w.heap.size w w0 := by rw [HW]; exact below_al _ _
  have HW' := Lib.hid HW; have HB0 := Lib.hid hb0; have H4 := Lib.hid hb4
  have HA := Lib.hid (isAlphabet_any al w0)
  have HV := Lib.hid (hv.below hb0)
  have HAB := Lib.hid (fun W v (h : IsSs W v bl) (h2 : Ascii al) => areBans_any (al := al) h h2)
  obtain ⟨bo, bc, rfl, -⟩ := hv
  clear HW hb0 hb4
  have k0 := H4.out.c0
  show Calls _ _ #[.agg #[.string al, .int .i64 len, .slice bo bl.length bc, .bool ck]] _ _
  go_enter Try.func63, Try.ntmps63
  go_upto_region 1 with fail
  rw [← HW'.out]
  go_wp2_with fail
  refine HA.out.mono ?_
  rintro _ w1 ⟨r, rfl, hr, hb1⟩
  have HR := Lib.hid hr
  have HB1 := Lib.hid (below_tr HB0.out hb1)
  have H41 := Lib.hid (H4.out.below hb1)
  have HV1 := Lib.hid (HV.out.below hb1)
  clear hr hb1 HA k0
  have k0 := H41.out.c0; have k1 := H41.out.c1; have k2 := H41.out.c2; have k3 := H41.out.c3
  cases r with
  | false =>
    have HN : Hid (IffB false (WellF ⟨al, len, bl, ck⟩)) := IffB.no fun h => by have := HR.out.2 h.1; cases this
    go_wp2_with fail
    go_ret
    exact ⟨false, rfl, HN, HB1⟩
  | true =>
    have HGA : Hid (GoodA al) := HR.out.1 rfl
    have HAB1 := Lib.hid (HAB.out w1 _ HV1.out HGA.out.ascii)
    by_cases q1 : len ≥ 1
    case neg =>
      have HN : Hid (IffB false (WellF ⟨al, len, bl, ck⟩)) := IffB.no fun h => q1 h.2.1
      go_wp2_with fail
      go_ret
      exact ⟨false, rfl, HN, HB1⟩
    by_cases q2 : len ≤ 16
    case neg =>
      have HN : Hid (IffB false (WellF ⟨al, len, bl, ck⟩)) := IffB.no fun h => q2 h.2.2.1
      go_wp2_with fail
      go_ret
      exact ⟨false, rfl, HN, HB1⟩
    go_wp2_with fail
    refine HAB1.out.mono ?_
    rintro _ w2 ⟨r2, rfl, hr, hb2⟩
    have HR2 := Lib.hid hr
    have HB2 := Lib.hid (below_tr HB1.out hb2)
    have H42 := Lib.hid (H41.out.below hb2)
    clear hr hb2 HAB1 k0 k1 k2 k3
    have k0 := H42.out.c0; have k1 := H42.out.c1; have k2 := H42.out.c2; have k3 := H42.out.c3
    cases r2 with
    | false =>
      have HN : Hid (IffB false (WellF ⟨al, len, bl, ck⟩)) := IffB.no fun h => by have := HR2.out.2 h.2.2.2.1; cases this
      go_wp2_with fail
      go_ret
      exact ⟨false, rfl, HN, HB2⟩
    | true =>
      have HGB : Hid (GoodB bl al) := HR2.out.1 rfl
      have HL : Hid (1 ≤ len ∧ len ≤ 16) := ⟨q1, q2⟩
      cases ck with
      | false =>
        have HN : Hid (IffB true (WellF ⟨al, len, bl, false⟩)) := IffB.yes ⟨HGA.out, HL.out.1, HL.out.2, HGB.out, fun h => by cases h⟩
        go_wp2_with fail
        go_ret
        exact ⟨true, rfl, HN, HB2⟩
      | true =>
        have hsz := HGA.out.2.1
        have hrem : ((al.size : Int)).tmod 2 = ((al.size % 2 : Nat) : Int) := by rw [Int.tmod_eq_emod_of_nonneg (by omega)]; omega
        have hrem2 : ((al.size : Int)) % 2 = ((al.size % 2 : Nat) : Int) := by omega
        obtain ⟨z, hz⟩ : ∃ z, z = al.size % 2 := ⟨_, rfl⟩
        rw [← hz] at hrem hrem2
        have HZ := Lib.hid hz
        clear hz
        by_cases q3 : z = 0
        · subst q3
          have HN : Hid (IffB true (WellF ⟨al, len, bl, true⟩)) := IffB.yes ⟨HGA.out, HL.out.1, HL.out.2, HGB.out, fun _ => HZ.out.symm⟩
          go_wp2_with fail
          go_ret
          exact ⟨true, rfl, HN, HB2⟩
        · have HN : Hid (IffB false (WellF ⟨al, len, bl, true⟩)) := IffB.no fun h => q3 (HZ.out.trans (h.2.2.2.2 rfl))
          have q4 : ((z : Int) == 0) = false := beq_eq_false_iff_ne.2 (by omega)
          have q5 : ¬ (z : Int) = 0 := by omega
          go_wp2_with fail
          go_ret
          exact ⟨false, rfl, HN, HB2⟩
end Go.Proofs.Ytgblfobomiiofaa
namespace Go.Proofs.Ytgblfobomiiofaa
open Go Go.RowKit Gw

/-- a list of numbers as cells -/
def encI (l : List Int) : List Value := l.map (Value.int .i64)
/-- a list of ints lies at a slice -/
def IsIs (W : World) (v : Value) (l : List Int) : Prop :=
  ∃ ao c, v = .slice ao l.length c ∧ (0 < l.length → ∃ B o, ao = some ⟨B, o, none⟩ ∧ B < W.heap.size ∧ ∀ j (h : j < l.length), W.cell? ⟨B, o + j, none⟩ = some (.int .i64 l[j]))
theorem IsIs.below {W W' : World} {v : Value} {l : List Int} (h : IsIs W v l) (hb : Below W.heap.size W W') : IsIs W' v l := by
  obtain ⟨ao, c, hv, h⟩ := h
  refine ⟨ao, c, hv, fun hp => ?_⟩
  obtain ⟨B, o, e, hB, hc⟩ := h hp
  exact ⟨B, o, e, Nat.lt_of_lt_of_le hB hb.size, fun j hj => (hb.cell (p := ⟨B, _, none⟩) hB).trans (hc j hj)⟩
theorem IsIs.at' {W : World} {a : Option Addr} {n c : Nat} {l : List Int} (h : IsIs W (.slice a n c) l) {j : Nat} (hj : j < l.length) : ∃ B o, a = some ⟨B, o, none⟩ ∧ W.cell? ⟨B, o + j, none⟩ = some (.int .i64 l[j]) := by
  obtain ⟨a', c', hv, hcs⟩ := h
  injection hv with hv1 hv2 hv3
  subst hv1
  obtain ⟨B, o, e1, -, hcs2⟩ := hcs (by omega)
  exact ⟨B, o, e1, hcs2 j hj⟩
theorem IsIs.of_row {W : World} {base : Nat} {v : Value} {l : List Int} (h : W.ownsRow base 3 1 v l.length (encI l)) : IsIs W v l := by
  have hcs := fun g hg => h.cells (g := g) hg
  have hlt := h.lt
  rcases h.2 with ⟨rfl, h0⟩ | ⟨g, cap, cur, rfl, _⟩
  · exact ⟨none, 0, by rw [h0], fun hp => by omega⟩
  · refine ⟨some ⟨g, 0, none⟩, cap, rfl, fun hp => ⟨g, 0, rfl, (hlt g rfl).2, fun j hj => ?_⟩⟩
    have e0 : (encI l)[j]? = some (.int .i64 l[j]) := by simp [encI, hj]
    have c0 := hcs g rfl _ _ e0
    rw [show (⟨g, 0, none⟩ : Addr).add j = ⟨g, 0 + j, none⟩ from Addr.add_lit ..] at c0
    exact c0
theorem row_sl {W : World} {base : Nat} {e : TypeId} {size : Nat} {v : Value} {k : Nat} {xs : List Value} (h : W.ownsRow base e size v k xs) : ∃ a c, v = .slice a k c := by
  rcases h.2 with ⟨rfl, h0⟩ | ⟨g, cap, cur, rfl, _⟩
  · exact ⟨none, 0, by rw [h0]⟩
  · exact ⟨_, _, rfl⟩
/-- numbers as ints -/
def asI (l : List Nat) : List Int := l.map fun x : Nat => (x : Int)
theorem asI_len (l : List Nat) : (asI l).length = l.length := by simp [asI]
theorem asI_at {l : List Nat} {j : Nat} (h : j < l.length) : (asI l)[j]'(by rw [asI_len]; exact h) = (l[j] : Int) := by simp [asI]
/-- the series in memory: the cells that its methods read -/
structure Ser (R : Nat) (al : ByteArray) (n : Nat) (ck : Bool) (w : World) : Prop where
  c0 : w.cell? ⟨R, 0, none⟩ = some (.string al)
  c1 : w.cell? ⟨R, 1, none⟩ = some (.int .i64 n)
  c2 : w.cell? ⟨R, 2, none⟩ = some (.bool ck)
theorem Ser.lt {R : Nat} {al : ByteArray} {n : Nat} {ck : Bool} {w : World} (h : Ser R al n ck w) : R < w.heap.size := World.block_lt_of_cell? _ _ h.c0
theorem Ser.below {R : Nat} {al : ByteArray} {n : Nat} {ck : Bool} {w w' : World} (h : Ser R al n ck w) (hb : Below w.heap.size w w') : Ser R al n ck w' :=
  ⟨(hb.cell (p := ⟨R, 0, none⟩) h.lt).trans h.c0, (hb.cell (p := ⟨R, 1, none⟩) h.lt).trans h.c1, (hb.cell (p := ⟨R, 2, none⟩) h.lt).trans h.c2⟩
/-- how many bytes a serial has -/
def szN (n : Nat) (ck : Bool) : Nat := if ck then n + 1 else n
theorem size_any {R n : Nat} {al : ByteArray} {ck : Bool} {w : World} (h : Ser R al n ck w) (hn : n ≤ 16) :
    Calls Try.prog 52 #[.pointer (some ⟨R, 0, none⟩)] w fun e w' => e = .returned (.int .i64 (szN n ck)) ∧ w = w' := by
  have c1 := h.c1; have c2 := h.c2
  have hw : IntKind.i64.wrap ((n : Int) + 1) = ((n + 1 : Nat) : Int) := by rw [IntWalk.i64_in _ (by omega)]; omega
  clear h
  cases ck with
  | false =>
    go_enter Try.func52, Try.ntmps52
    go_wp2_with fail
    go_ret
    exact ⟨rfl, rfl⟩
  | true =>
    go_enter Try.func52, Try.ntmps52
    go_wp2_with fail
    go_ret
    exact ⟨rfl, rfl⟩
/-- the next number of the check character -/
def ncN (A p v : Nat) : Nat := 2 * (if (p + v) % A = 0 then A else (p + v) % A) % (A + 1)
def lcN (A p : Nat) : Nat := (A + 1 - p) % A
theorem ncN_le {A p v : Nat} : ncN A p v ≤ A := by
  have := Nat.mod_lt (2 * (if (p + v) % A = 0 then A else (p + v) % A)) (show 0 < A + 1 by omega)
  unfold ncN; omega
set_option maxHeartbeats 1000000 in
theorem nextCheck_any {R n : Nat} {al : ByteArray} {ck : Bool} {w : World} (h : Ser R al n ck w) (h1 : 2 ≤ al.size) (h2 : al.size ≤ 36) {p v : Nat} (hp : p ≤ 1000) (hv : v ≤ 1000) :
    Calls Try.prog 85 #[.pointer (some ⟨R, 0, none⟩), .int .i64 p, .int .i64 v] w fun e w' => e = .returned (.int .i64 (ncN al.size p v)) ∧ w = w' := by
  have c0 := h.c0
  clear h
  obtain ⟨A, hA⟩ : ∃ A, A = al.size := ⟨_, rfl⟩
  have hls : ∀ (t ty : TypeId), Try.prog.underlying t = some .string → ∀ W, (Builtin.len_ #[t] ty #[.string al]).run Try.prog W = .ok (.int .i64 (A : Int)) W := fun t ty ht W => by rw [run_len_string _ _ _ _ ht, hA]; rfl
  rw [← hA] at h1 h2 ⊢
  obtain ⟨s, hs⟩ : ∃ s, s = (p + v) % A := ⟨_, rfl⟩
  have hsl : s < A := by rw [hs]; exact Nat.mod_lt _ (by omega)
  have w1 : IntKind.i64.wrap ((p : Int) + (v : Int)) = ((p + v : Nat) : Int) := by rw [IntWalk.i64_in _ (by omega)]; omega
  have w2 : (((p + v : Nat) : Int)).tmod (A : Int) = (s : Int) := by rw [Int.tmod_eq_emod_of_nonneg (by omega), hs]; simp
  have w2b : (((p + v : Nat) : Int)) % (A : Int) = (s : Int) := by rw [hs]; simp
  obtain ⟨pv, hpv⟩ : ∃ k, k = p + v := ⟨_, rfl⟩
  rw [← hpv] at w1 w2 w2b
  have hAz : ((A : Int) == 0) = false := beq_eq_false_iff_ne.2 (by omega)
  have hAz2 : ¬ (A : Int) = 0 := by omega
  have w3 : IntKind.i64.wrap (s : Int) = (s : Int) := IntWalk.i64_in _ (by omega)
  have w4 : IntKind.i64.wrap ((A : Int) + 1) = ((A + 1 : Nat) : Int) := by rw [IntWalk.i64_in _ (by omega)]; omega
  have hBz : (((A + 1 : Nat) : Int) == 0) = false := beq_eq_false_iff_ne.2 (by omega)
  obtain ⟨A1, hA1⟩ : ∃ k, k = A + 1 := ⟨_, rfl⟩
  have hR : ncN A p v = 2 * (if s = 0 then A else s) % A1 := by unfold ncN; rw [← hs, hA1]
  rw [hR]
  rw [← hA1] at w4 hBz
  have hBz2 : ¬ (A1 : Int) = 0 := by omega
  by_cases q : s = 0
  · subst q
    rw [if_pos rfl]
    obtain ⟨t, ht⟩ : ∃ t, t = 2 * A := ⟨_, rfl⟩
    obtain ⟨u, hu⟩ : ∃ u, u = t % A1 := ⟨_, rfl⟩
    rw [← ht, ← hu]
    have hul : u < A1 := by rw [hu]; exact Nat.mod_lt _ (by omega)
    have v1 : IntKind.i64.wrap (2 * (A : Int)) = (t : Int) := by rw [IntWalk.i64_in _ (by omega)]; omega
    have v2 : ((t : Int)).tmod (A1 : Int) = (u : Int) := by rw [Int.tmod_eq_emod_of_nonneg (by omega), hu]; simp
    have v2b : ((t : Int)) % (A1 : Int) = (u : Int) := by rw [hu]; simp
    have v3 : IntKind.i64.wrap (u : Int) = (u : Int) := IntWalk.i64_in _ (by omega)
    clear hs hpv hA1 hR ht hu hA
    go_enter Try.func85, Try.ntmps85
    go_wp2_with fail
    go_ret
    exact ⟨rfl, rfl⟩
  · rw [if_neg q]
    obtain ⟨t, ht⟩ : ∃ t, t = 2 * s := ⟨_, rfl⟩
    obtain ⟨u, hu⟩ : ∃ u, u = t % A1 := ⟨_, rfl⟩
    rw [← ht, ← hu]
    have hul : u < A1 := by rw [hu]; exact Nat.mod_lt _ (by omega)
    have v1 : IntKind.i64.wrap (2 * (s : Int)) = (t : Int) := by rw [IntWalk.i64_in _ (by omega)]; omega
    have v2 : ((t : Int)).tmod (A1 : Int) = (u : Int) := by rw [Int.tmod_eq_emod_of_nonneg (by omega), hu]; simp
    have v2b : ((t : Int)) % (A1 : Int) = (u : Int) := by rw [hu]; simp
    have v3 : IntKind.i64.wrap (u : Int) = (u : Int) := IntWalk.i64_in _ (by omega)
    have q2 : ((s : Int) == 0) = false := beq_eq_false_iff_ne.2 (by omega)
    have q3 : ¬ (s : Int) = 0 := by omega
    clear hs hpv hA1 hR ht hu hA
    go_enter Try.func85, Try.ntmps85
    go_wp2_with fail
    go_ret
    exact ⟨rfl, rfl⟩
theorem lastCheck_any {R n : Nat} {al : ByteArray} {ck : Bool} {w : World} (h : Ser R al n ck w) (h1 : 2 ≤ al.size) (h2 : al.size ≤ 36) {p : Nat} (hp : p ≤ al.size) :
    Calls Try.prog 84 #[.pointer (some ⟨R, 0, none⟩), .int .i64 p] w fun e w' => e = .returned (.int .i64 (lcN al.size p)) ∧ w = w' := by
  have c0 := h.c0
  clear h
  obtain ⟨A, hA⟩ : ∃ A, A = al.size := ⟨_, rfl⟩
  have hls : ∀ (t ty : TypeId), Try.prog.underlying t = some .string → ∀ W, (Builtin.len_ #[t] ty #[.string al]).run Try.prog W = .ok (.int .i64 (A : Int)) W := fun t ty ht W => by rw [run_len_string _ _ _ _ ht, hA]; rfl
  rw [← hA] at h1 h2 hp ⊢
  obtain ⟨t, ht⟩ : ∃ t, t = A + 1 - p := ⟨_, rfl⟩
  obtain ⟨u, hu⟩ : ∃ u, u = t % A := ⟨_, rfl⟩
  have hR : lcN A p = u := by unfold lcN; rw [hu, ht]
  have hul : u < A := by rw [hu]; exact Nat.mod_lt _ (by omega)
  obtain ⟨A1, hA1⟩ : ∃ k, k = A + 1 := ⟨_, rfl⟩
  have w4 : IntKind.i64.wrap ((A : Int) + 1) = (A1 : Int) := by rw [IntWalk.i64_in _ (by omega)]; omega
  have v1 : IntKind.i64.wrap ((A1 : Int) - (p : Int)) = (t : Int) := by rw [IntWalk.i64_in _ (by omega)]; omega
  have v2 : ((t : Int)).tmod (A : Int) = (u : Int) := by rw [Int.tmod_eq_emod_of_nonneg (by omega), hu]; simp
  have v2b : ((t : Int)) % (A : Int) = (u : Int) := by rw [hu]; simp
  have v3 : IntKind.i64.wrap (u : Int) = (u : Int) := IntWalk.i64_in _ (by omega)
  have hAz : ((A : Int) == 0) = false := beq_eq_false_iff_ne.2 (by omega)
  have hAz2 : ¬ (A : Int) = 0 := by omega
  rw [hR]
  clear hA1 hR ht hu hA
  go_enter Try.func84, Try.ntmps84
  go_wp2_with fail
  go_ret
  exact ⟨rfl, rfl⟩
end Go.Proofs.Ytgblfobomiiofaa
namespace Go.Proofs.Ytgblfobomiiofaa
open Go Go.RowKit Gw Go.Maps

theorem laidOutS : laidOutB Try.prog = true := by kernel_rfl
theorem typesS : ∃ m, Try.prog.types.size = m + 1 := ⟨Try.prog.types.size - 1, by have : 3 < Try.prog.types.size := of_decide_eq_true (by kernel_rfl); omega⟩
theorem keyedA : Keyed Try.prog 118 := Keyed.of_law (deep_law_laid laidOutS (m := 4) (by decide) (of_decide_eq_true (by kernel_rfl)) (by kernel_rfl) (by kernel_rfl))
theorem keyedP : Keyed Try.prog 88 := Keyed.of_law (deep_law_laid laidOutS (m := 4) (by decide) (of_decide_eq_true (by kernel_rfl)) (by kernel_rfl) (by kernel_rfl))
def arrV (a : Nat × Nat) : Value := .agg #[.int .i64 a.1, .int .i64 a.2]
def arrL (a : Nat × Nat) : Lit := .string (keyBytes [.int .i64 a.1, .int .i64 a.2])
def plcV (a : Nat × Nat × Nat) : Value := .agg #[.int .i64 a.1, .int .i64 a.2.1, .int .i64 a.2.2]
def plcL (a : Nat × Nat × Nat) : Lit := .string (keyBytes [.int .i64 a.1, .int .i64 a.2.1, .int .i64 a.2.2])
theorem wfN {n : Nat} (h : n ≤ 1000000) : (Lit.int .i64 (n : Int)).wf = true := by
  simp [Lit.wf, IntKind.min, IntKind.max, IntKind.signed, IntKind.bits]
  omega
def smA (a : Nat × Nat) : Prop := a.1 ≤ 1000000 ∧ a.2 ≤ 1000000
def smP (a : Nat × Nat × Nat) : Prop := a.1 ≤ 1000000 ∧ a.2.1 ≤ 1000000 ∧ a.2.2 ≤ 1000000
theorem keyOf_arr {a : Nat × Nat} (h : smA a) : keyOf Try.prog 118 (arrV a) = some (arrL a) :=
  WideMaps.keyOf_pair ⟨Try.underlying118, by kernel_rfl, by kernel_rfl, by kernel_rfl⟩ Try.underlying3 typesS (wfN h.1) (wfN h.2)
theorem keyOf_plc {a : Nat × Nat × Nat} (h : smP a) : keyOf Try.prog 88 (plcV a) = some (plcL a) := by
  have e1 : Try.prog.keyType 88 = true := by kernel_rfl
  have e2 : Try.prog.cellsOf 88 = 3 := by kernel_rfl
  have e3 : Try.prog.cellsOf 3 = 1 := by kernel_rfl
  obtain ⟨m, hm⟩ := typesS
  unfold keyOf
  rw [Try.underlying88]
  simp only [e1, hm]
  rw [if_pos (by simp [plcV, Value.formed, Try.underlying88, e2])]
  unfold Program.keyLits
  rw [Try.underlying88]
  simp [plcV, Value.cells, e2, e3, Program.keyLits, Try.underlying3, wfN h.1, wfN h.2.1, wfN h.2.2]
  rfl
/-- keys of one kind: how they are written, how they read, and numbers for them below M -/
structure KeyK (α : Type) (k : TypeId) where
  enc : α → Value
  kl : α → Lit
  dom : α → Prop
  code : α → Nat
  M : Nat
  keyed : Keyed Try.prog k
  key : ∀ a, dom a → keyOf Try.prog k (enc a) = some (kl a)
  cinj : ∀ a b, dom a → dom b → code a = code b → a = b
  clt : ∀ a, dom a → code a < M
  einj : ∀ a b, enc a = enc b → a = b
  Mle : M ≤ 1000000
section
variable {α : Type} {k : TypeId} (K : KeyK α k)
theorem KeyK.inj {a b : α} (ha : K.dom a) (hb : K.dom b) (h : K.kl a = K.kl b) : a = b :=
  K.einj _ _ (K.keyed.inj (K.key a ha) (by rw [h]; exact K.key b hb))
/-- block b is a map that holds the function f -/
def MapF (b : Nat) (f : α → Option Nat) (W : World) : Prop :=
  ∃ D : DataW Unit, W.ownsMap Try.prog k (plainElem Try.prog 3) b (Maps.size D) D ∧ (∀ l, Maps.has D l = true → ∃ a, K.dom a ∧ l = K.kl a) ∧
    ∀ a, K.dom a → Maps.has D (K.kl a) = (f a).isSome ∧ ∀ j, f a = some j → (j ≤ 9223372036854775807 ∧ ∀ z, D.atKey (K.kl a) z = .lit (.int .i64 (j : Int)))
theorem owns_tight {W : World} {b n : Nat} {D : DataW Unit} (h : W.ownsMap Try.prog k (plainElem Try.prog 3) b n D) : W.ownsMap Try.prog k (plainElem Try.prog 3) b (Maps.size D) D := by
  obtain ⟨es, clock, hb, F, hs, rfl⟩ := h
  exact ⟨es, clock, hb, F, by simp [Maps.size, length_sorted], rfl⟩
variable {K}
theorem MapF.new (W : World) : MapF K W.heap.size (fun _ => none) (W.alloc (.map #[] 0)) :=
  ⟨.map [], World.ownsMap_made W _ _ _, fun l h => by simp [Maps.has] at h, fun a _ => ⟨by simp [Maps.has], fun j h => by cases h⟩⟩
theorem MapF.kept {b : Nat} {f : α → Option Nat} {W W' : World} {row : Option Nat} (h : MapF K b f W) (hg : W.grownBy W' row) (hne : some b ≠ row) : MapF K b f W' := by
  obtain ⟨D, h1, h2⟩ := h
  exact ⟨D, h1.kept hg hne, h2⟩
theorem MapF.lt {b : Nat} {f : α → Option Nat} {W : World} (h : MapF K b f W) : b < W.heap.size := by
  obtain ⟨D, h1, _⟩ := h
  exact h1.lt
theorem MapF.below {b : Nat} {f : α → Option Nat} {W W' : World} (h : MapF K b f W) (hb : Below W.heap.size W W') : MapF K b f W' := by
  obtain ⟨D, ⟨es, clock, e1, F, e2, e3⟩, h2⟩ := h
  have hlt : b < W.heap.size := (Array.getElem?_eq_some_iff.1 e1).1
  exact ⟨D, ⟨es, clock, (hb.block b hlt).trans e1, F, e2, e3⟩, h2⟩
theorem MapF.congr {b : Nat} {f g : α → Option Nat} {W : World} (h : MapF K b f W) (e : ∀ a, K.dom a → f a = g a) : MapF K b g W := by
  obtain ⟨D, h1, h2, h3⟩ := h
  exact ⟨D, h1, h2, fun a ha => by rw [← e a ha]; exact h3 a ha⟩
theorem nodup_code {β : Type} {l : List β} {c : β → Nat} {M : Nat} (hd : l.Pairwise (fun a b => c a ≠ c b)) (hl : ∀ a ∈ l, c a < M) : l.length ≤ M := by
  have h1 : (l.map c).Nodup := List.pairwise_map.2 hd
  have h2 := nodup_lt_len h1 (n := M) (fun i hi => by
    obtain ⟨a, ha, rfl⟩ := List.mem_map.1 hi
    exact hl a ha)
  rwa [List.length_map] at h2
theorem MapF.size_le {b : Nat} {W : World} {D : DataW Unit} (h1 : W.ownsMap Try.prog k (plainElem Try.prog 3) b (Maps.size D) D) (h2 : ∀ l, Maps.has D l = true → ∃ a, K.dom a ∧ l = K.kl a) : Maps.size D ≤ K.M := by
  obtain ⟨es, rfl, hp⟩ := h1.tidy K.keyed
  have hk : ∀ p ∈ es, ∃ a, K.dom a ∧ p.1 = K.kl a := fun p hp => by
    refine h2 p.1 ?_
    rw [Maps.has_eq]
    refine List.any_eq_true.2 ⟨p, hp, ?_⟩
    have hc := h1.canon K.keyed
    obtain ⟨es', e, _, hkl⟩ := hc
    injection e with e
    subst e
    have := hkl p hp
    cases hq : p.1 with
    | string s => simp [Lit.sameKey]
    | int q n => simp [Lit.sameKey]
    | bool b => simp [Lit.sameKey]
    | _ => rw [hq] at this; exact absurd this (by simp [WideAt.IsKeyLit])
  classical
  have hch : ∃ c : Lit × DataW Unit → Nat, ∀ p ∈ es, ∃ a, K.dom a ∧ p.1 = K.kl a ∧ c p = K.code a :=
    ⟨fun p => if h : p ∈ es then K.code (hk p h).choose else 0, fun p hp => ⟨(hk p hp).choose, (hk p hp).choose_spec.1, (hk p hp).choose_spec.2, by simp only [dif_pos hp]⟩⟩
  obtain ⟨c, hc⟩ := hch
  refine nodup_code (c := c) ?_ (fun p hp => by obtain ⟨a, h1, _, h3⟩ := hc p hp; rw [h3]; exact K.clt a h1)
  refine List.Pairwise.imp_of_mem (fun {p q} hp hq hne e => ?_) hp
  obtain ⟨a, a1, a2, a3⟩ := hc p hp
  obtain ⟨d, d1, d2, d3⟩ := hc q hq
  have : a = d := K.cinj a d a1 d1 (by rw [← a3, ← d3]; exact e)
  subst this
  exact hne (a2.trans d2.symm)
theorem lit_inj {a b : Int} (h : (DataW.lit (.int .i64 a) : DataW Unit) = .lit (.int .i64 b)) : a = b := (Lit.int.inj (DataW.lit.inj h)).2
theorem MapF.get2 {t : TypeId} {b : Nat} {f : α → Option Nat} {W : World} (h : MapF K b f W) (ht : Try.prog.underlying t = some (.map k 3)) {a : α} (ha : K.dom a) :
    (Instr.lookup t (.map (some b)) (K.enc a) true).run Try.prog W = .ok (.tuple #[.int .i64 (((f a).getD 0 : Nat) : Int), .bool (f a).isSome]) W := by
  obtain ⟨D, h1, h2, h3⟩ := h
  obtain ⟨v, ps, hrun, hv⟩ := h1.look_ok K.keyed ht (Try.zeroValue3 W) (zd := .lit (.int .i64 0)) (zp := []) (plainElem_int Try.underlying3 (by decide)) (K.key a ha)
  obtain ⟨c, rfl, hc, hwc⟩ := plainElem_int_inv Try.underlying3 hv
  simp only [Prod.mk.injEq] at hc
  suffices hc' : c = (((f a).getD 0 : Nat) : Int) by
    rw [hrun, (h3 a ha).1, hc']
  cases hf : f a with
  | none =>
    have := hc.1
    rw [Maps.atKey_of_not_has (by rw [(h3 a ha).1, hf]; rfl)] at this
    rw [← lit_inj this]; rfl
  | some j =>
    have := hc.1
    rw [((h3 a ha).2 j hf).2] at this
    rw [← lit_inj this]; rfl
theorem MapF.get {t : TypeId} {b : Nat} {f : α → Option Nat} {W : World} (h : MapF K b f W) (ht : Try.prog.underlying t = some (.map k 3)) {a : α} (ha : K.dom a) :
    (Instr.lookup t (.map (some b)) (K.enc a) false).run Try.prog W = .ok (.int .i64 (((f a).getD 0 : Nat) : Int)) W := by
  obtain ⟨D, h1, h2, h3⟩ := h
  obtain ⟨c, hrun, hat, hwc⟩ := h1.lookup_int K.keyed ht Try.underlying3 (Try.zeroValue3 W) (K.key a ha)
  suffices hc' : c = (((f a).getD 0 : Nat) : Int) by
    rw [hrun, hc']
  cases hf : f a with
  | none =>
    rw [Maps.atKey_of_not_has (by rw [(h3 a ha).1, hf]; rfl)] at hat
    rw [← lit_inj hat]; rfl
  | some j =>
    rw [((h3 a ha).2 j hf).2] at hat
    rw [← lit_inj hat]; rfl
theorem MapF.put [DecidableEq α] {t : TypeId} {b : Nat} {f : α → Option Nat} {W : World} (h : MapF K b f W) (ht : Try.prog.underlying t = some (.map k 3)) {a : α} (ha : K.dom a) {j : Nat} (hj : j ≤ 9223372036854775807) :
    ∃ W', (Instr.mapUpdate t (.map (some b)) (K.enc a) (.int .i64 (j : Int))).run Try.prog W = .ok () W' ∧ MapF K b (fun x => if x = a then some j else f x) W' ∧ W.grownBy W' (some b) := by
  obtain ⟨D, h1, h2, h3⟩ := h
  have hs := MapF.size_le h1 h2
  have hM := K.Mle
  have hwf : (Lit.int .i64 (j : Int)).wf = true := by
    simp [Lit.wf, IntKind.min, IntKind.max, IntKind.signed, IntKind.bits]
    omega
  obtain ⟨W', r1, r2, r3⟩ := h1.update K.keyed ht (by unfold maxLen; omega) (K.key a ha) (plainElem_int Try.underlying3 hwf)
  have hkl := K.keyed.key (K.key a ha)
  have him := h1.isMap
  refine ⟨W', r1, ⟨D.put (K.kl a) (.lit (.int .i64 (j : Int))), owns_tight r2, fun l hl => ?_, fun x hx => ?_⟩, r3⟩
  · by_cases e : l = K.kl a
    · exact ⟨a, ha, e⟩
    · rw [Maps.has_put_other e] at hl
      exact h2 l hl
  · dsimp only
    by_cases e : x = a
    · subst e
      rw [if_pos rfl, Maps.has_put_same him hkl]
      refine ⟨rfl, fun i hi => ?_⟩
      injection hi with hi
      subst hi
      exact ⟨hj, fun z => Maps.atKey_put_same him hkl _ z⟩
    · rw [if_neg e]
      have hne : K.kl x ≠ K.kl a := fun q => e (K.inj hx ha q)
      rw [Maps.has_put_other hne]
      refine ⟨(h3 x hx).1, fun i hi => ⟨((h3 x hx).2 i hi).1, fun z => ?_⟩⟩
      rw [Maps.atKey_put_other hne]
      exact ((h3 x hx).2 i hi).2 z
end
/-- the keys of the automaton: a state below 200, a value below 40 -/
def KA : KeyK (Nat × Nat) 118 where
  enc := arrV
  kl := arrL
  dom a := a.1 < 200 ∧ a.2 < 40
  code a := a.1 * 40 + a.2
  M := 8000
  keyed := keyedA
  key a h := keyOf_arr ⟨by omega, by omega⟩
  cinj a b h1 h2 h := by
    have e1 : a.1 = b.1 := by omega
    have e2 : a.2 = b.2 := by omega
    exact Prod.ext e1 e2
  clt a h := by omega
  einj a b h := by
    unfold arrV at h
    simp at h
    exact Prod.ext (by omega) (by omega)
  Mle := by decide
/-- the keys of the counters: how many bytes, a state, a check number -/
def KP : KeyK (Nat × Nat × Nat) 88 where
  enc := plcV
  kl := plcL
  dom a := a.1 < 20 ∧ a.2.1 < 200 ∧ a.2.2 < 40
  code a := (a.1 * 200 + a.2.1) * 40 + a.2.2
  M := 160000
  keyed := keyedP
  key a h := keyOf_plc ⟨by omega, by omega, by omega⟩
  cinj a b h1 h2 h := by
    have e1 : a.1 = b.1 := by omega
    have e2 : a.2.1 = b.2.1 := by omega
    have e3 : a.2.2 = b.2.2 := by omega
    exact Prod.ext e1 (Prod.ext e2 e3)
  clt a h := by omega
  einj a b h := by
    unfold plcV at h
    simp at h
    exact Prod.ext (by omega) (Prod.ext (by omega) (by omega))
  Mle := by decide
end Go.Proofs.Ytgblfobomiiofaa
namespace Go.Proofs.Ytgblfobomiiofaa
open Go Go.RowKit Gw

theorem Try.infoIntS : (Try.prog.info? 3).map (fun i => (i.zero, i.size, i.bytes)) = some (some (.int .i64 0), 1, 8) := by kernel_rfl
theorem info_parts {t : TypeId} {z : Option Value} {n b : Nat} (h : (Try.prog.info? t).map (fun i => (i.zero, i.size, i.bytes)) = some (z, n, b)) : ∃ i, Try.prog.info? t = some i ∧ i.zero = z ∧ i.size = n ∧ i.bytes = b := by
  cases hi : Try.prog.info? t with
  | none => rw [hi] at h; simp at h
  | some i => rw [hi] at h; simp at h; exact ⟨i, rfl, h.1, h.2.1, h.2.2⟩
theorem next_at {W : World} {B : Nat} {s : ByteArray} {pos : Nat} (hB : W.heap[B]? = some (.stringIter s pos)) (ty : TypeId) (h : pos < s.size) :
    (Instr.next (.pointer (some ⟨B, 0, none⟩)) true ty).run Try.prog W =
      .ok (.tuple #[.bool true, .int .i64 pos, .int .i32 (Utf8.decode s pos).1]) (W.putObj B (.stringIter s (pos + (Utf8.decode s pos).2))) := by
  simp only [Instr.next, getObj, setObj, Sem.run_bind, Sem.run, hB, Result.andThen, h, if_true]
  simp [goInt, World.putObj]
theorem next_stop {W : World} {B : Nat} {s : ByteArray} {pos : Nat} (hB : W.heap[B]? = some (.stringIter s pos)) (ty : TypeId) (h : ¬ pos < s.size) :
    (Instr.next (.pointer (some ⟨B, 0, none⟩)) true ty).run Try.prog W = .ok (.tuple #[.bool false]) W := by
  simp [Instr.next, getObj, Sem.run, hB, h]
/-- how far a walk over a string has come -/
def iterAt (W : World) (B : Nat) : Nat := match W.heap[B]? with | some (.stringIter _ p) => p | _ => 0
theorem iterAt_eq {W : World} {B : Nat} {s : ByteArray} {pos : Nat} (h : W.heap[B]? = some (.stringIter s pos)) : iterAt W B = pos := by unfold iterAt; rw [h]
theorem row_mono {W : World} {base base' : Nat} {e : TypeId} {size : Nat} {v : Value} {n : Nat} {xs : List Value} (h : W.ownsRow base e size v n xs) (hb : base' ≤ base) : W.ownsRow base' e size v n xs := by
  refine ⟨h.1, ?_⟩
  rcases h.2 with h2 | ⟨g, cap, cur, h2, h3, h4⟩
  · exact .inl h2
  · exact .inr ⟨g, cap, cur, h2, Nat.le_trans hb h3, h4⟩
theorem below_put {b : Nat} {W W' : World} {l : Nat} {o : Obj} (h : Below b W W') (hl : b ≤ l) (hs : b ≤ W'.heap.size) : Below b W (W'.putObj l o) := by
  have hg := grownBy_putObj' W' l o
  exact h.grown hg hs fun j hj => by injection hj with hj; omega
theorem row_put {W : World} {base : Nat} {e : TypeId} {size : Nat} {v : Value} {n : Nat} {xs : List Value} (h : W.ownsRow base e size v n xs) {l : Nat} (hl : l < base) (o : Obj) : (W.putObj l o).ownsRow base e size v n xs :=
  h.kept (grownBy_putObj' W l o) (.inr (fun e => by have := (h.lt l e).1; omega))
/-- the values of the bytes of a text -/
def valsI (al s : ByteArray) : List Int := (bys s).map (Lib.indexByte (bys al))
theorem valsI_len (al s : ByteArray) : (valsI al s).length = s.size := by simp [valsI]
theorem take_snoc {s al : ByteArray} {i : Nat} (h : i < s.size) : (valsI al s).take (i + 1) = (valsI al s).take i ++ [Lib.indexByte (bys al) (s[i]'h)] := by
  have hl : i < (valsI al s).length := by rw [valsI_len]; exact h
  rw [List.take_succ_eq_append_getElem hl]
  congr 2
  simp [valsI, ByteArray.getElem_eq_getElem_data]
/-- what a walk over the bytes of a text has laid -/
structure VR (W : World) (al s : ByteArray) (i : Nat) (v : Value) (w : World) : Prop where
  it : w.heap[W.heap.size]? = some (.stringIter s i)
  row : w.ownsRow (W.heap.size + 1) 3 1 v i (encI ((valsI al s).take i))
  blw : Below W.heap.size W w
set_option maxRecDepth 100000 in
set_option maxHeartbeats 1000000 in
theorem values_any {R n : Nat} {al s : ByteArray} {ck : Bool} {w : World} (h : Ser R al n ck w) (hs : Ascii s) (hl : s.size ≤ 1000) :
    Calls Try.prog 64 #[.pointer (some ⟨R, 0, none⟩), .string s] w fun e w' => ∃ v, e = .returned v ∧ Hid (w'.ownsRow w.heap.size 3 1 v s.size (encI (valsI al s))) ∧ Hid (Below w.heap.size w w') := by
  obtain ⟨i0, hi0, hz0, hz1, hz2⟩ := info_parts Try.infoIntS
  have HS := Lib.hid hs; have HR := Lib.hid h
  have HI := Lib.hid (fun (b : UInt8) (h : b.toNat < 128) W => Try.strings_IndexRune_ascii al (b.toNat : Int) W (by omega) (by omega))
  have HV0 : Hid (VR w al s 0 (.slice none 0 0) (w.iter s 0)) := ⟨World.iter_heap _ _ _, World.ownsRow_nil _ _ _ _, below_iter _ _ _⟩
  clear hs h
  go_enter Try.func64, Try.ntmps64
  go_wp2_with fail
  go_loopw [5, 7] (fun s5 _ wr => ∃ (i : Nat) (ao : Option Addr) (c : Nat), i ≤ s.size ∧ s5 = .slice ao i c ∧ Hid (VR w al s i (.slice ao i c) wr)) (fun _ _ wr => s.size - iterAt wr w.heap.size)
  case atStart => exact ⟨0, none, 0, Nat.zero_le _, rfl, HV0⟩
  case round =>
    obtain ⟨i, ao, c, hi, rfl, HV⟩ := hrel
    by_cases q : i < s.size
    · have ha := HS.out i q
      have hdec := decode_ascii s i q ha
      have hnx : ∀ ty, (Instr.next (.pointer (some ⟨w.heap.size, 0, none⟩)) true ty).run Try.prog wr = .ok (.tuple #[.bool true, .int .i64 (i : Int), .int .i32 ((s[i]'q).toNat : Int)]) (wr.putObj w.heap.size (.stringIter s (i + 1))) := fun ty => by
        have := next_at HV.out.it ty q
        rw [hdec] at this
        exact this
      have HB2 : Hid (Below w.heap.size w (wr.putObj w.heap.size (.stringIter s (i + 1)))) := below_put HV.out.blw (Nat.le_refl _) HV.out.blw.size
      have HR2 : Hid ((wr.putObj w.heap.size (.stringIter s (i + 1))).ownsRow (w.heap.size + 1) 3 1 (.slice ao i c) i (encI ((valsI al s).take i))) := row_put HV.out.row (by omega) _
      have HI2 : Hid ((wr.putObj w.heap.size (.stringIter s (i + 1))).heap[w.heap.size]? = some (.stringIter s (i + 1))) := World.putObj_heap_same ((Array.getElem?_eq_some_iff.1 HV.out.it).1)
      obtain ⟨w2, hw2⟩ : ∃ w2, w2 = wr.putObj w.heap.size (.stringIter s (i + 1)) := ⟨_, rfl⟩
      rw [← hw2] at hnx HB2 HR2 HI2
      have c0 := (HR.out.below HB2.out).c0
      obtain ⟨x, hx⟩ : ∃ x : Int, x = Lib.indexByte (bys al) (s[i]'q) := ⟨_, rfl⟩
      have HC : Hid (Calls Try.prog 78 #[.string al, .int .i32 ((s[i]'q).toNat : Int)] w2 fun e w' => e = .returned (.int .i64 x) ∧ w' = w2) := by
        have := HI.out (s[i]'q) ha w2
        rw [u8_back] at this
        rw [hx]
        exact this
      have HT : Hid (encI ((valsI al s).take (i + 1)) = encI ((valsI al s).take i) ++ [.int .i64 x]) := by
        show _ = _
        rw [take_snoc q, hx]; simp [encI]
      have HIT := Lib.hid (iterAt_eq HV.out.it)
      generalize (s[i]'q).toNat = b at *
      have hlt : w.heap.size < w2.heap.size := (Array.getElem?_eq_some_iff.1 HI2.out).1
      clear hw2 hx ha hdec HV
      go_wp2_with fail
      refine HC.out.mono ?_
      rintro e w' ⟨rfl, rfl⟩
      go_wp2_with (at_builtin; refine wpList_append_own _ rfl _ _ 67 rfl (w.heap.size + 1) 3 i0 (.int .i64 0) 1 8 Try.underlying67 hi0 hz0 hz1 hz2 rfl (by decide) (.slice ao i c) i (encI ((valsI al s).take i)) rfl (HR2.out.alloc _) ⟨w'.heap.size, 0, none⟩ 1 1 [.int .i64 x] rfl rfl (cell_one_new _ _ _) (by simp [Value.oneCell']) (by unfold maxLen; omega) (by omega) (by simp; omega) ?_; intro v' w8 hown hgrow _; obtain ⟨so2, sc2, rfl⟩ := row_sl hown)
      have hne : some w.heap.size ≠ (Value.slice ao i c).ownBlock := fun e => by have := (HR2.out.lt _ e.symm).1; omega
      have hb3 : Below w'.heap.size w' (w'.alloc (.cells #[.int .i64 x] 3)) := below_al _ _
      have HN : Hid (VR w al s (i + 1) (.slice so2 (i + 1) sc2) w8) := by
        refine ⟨?_, by rw [HT.out]; exact hown, ((HB2.out.trans (hb3.mono HB2.out.size))).grown hgrow (by have := HB2.out.size; have := hb3.size; omega) fun j hj => by have := (HR2.out.lt j hj).1; omega⟩
        exact (hgrow.block _ (by have := hb3.size; omega) hne).trans ((hb3.block _ hlt).trans HI2.out)
      clear hown hgrow HR2 HB2 hne hb3
      go_wp2_with fail
      go_roundw
      case rel => exact ⟨i + 1, so2, sc2, q, rfl, HN⟩
      case measure =>
        rw [iterAt_eq HN.out.it, HIT.out]
        omega
    · obtain rfl : i = s.size := by omega
      have hnx : ∀ ty, (Instr.next (.pointer (some ⟨w.heap.size, 0, none⟩)) true ty).run Try.prog wr = .ok (.tuple #[.bool false]) wr := fun ty => next_stop HV.out.it ty q
      have HF : Hid (wr.ownsRow w.heap.size 3 1 (.slice ao s.size c) s.size (encI (valsI al s))) := by
        have := row_mono HV.out.row (Nat.le_succ _)
        rwa [List.take_of_length_le (by rw [valsI_len]; exact Nat.le_refl _)] at this
      have HB := Lib.hid HV.out.blw
      clear HV
      go_wp2_with fail
      go_ret
      exact ⟨_, rfl, HF, HB⟩
end Go.Proofs.Ytgblfobomiiofaa
