/- The contract of String of a natural number. -/
import Derived.Test.YtfkogbomijonjaaGreatDoorWq
import Derived.Lib.AppendIntMem
namespace Go.Proofs.YtfkogbomijonjaaGreatDoor
open Go Go.RowKit Gu

/-- the table that the library reads to write a number -/
def Env (w : World) : Prop := Lib.TabIs Tryz.prog w "internal/strconv.uint64pow10" .u64 Lib.pow10Tab
theorem Env.below {w w' : World} (h : Env w) (hb : Below w.heap.size w w') : Env w' := by
  unfold Env Lib.TabIs at *
  have hg : Tryz.prog.globalNamed "internal/strconv.uint64pow10" = some 2 := by kernel_rfl
  refine var?_below hb hg ?_ h
  unfold World.var? at h
  rw [hg] at h
  simp only [Option.bind_some] at h
  rcases Nat.lt_or_ge 2 w.heap.size with h' | h'
  · exact h'
  · rw [Array.getElem?_eq_none h'] at h; simp at h
theorem Itoa_any (n : Nat) (w : World) (hn : n < 4294967296) (h : Env w) :
    Calls Tryz.prog 38 #[.int .i64 n] w fun e w' => e = .returned (.string ⟨(Lib.decDigits n).toArray⟩) ∧ Below w.heap.size w w' := by
  refine (Tryz.strconv_Itoa n (by omega) (by omega) w h).mono ?_
  rintro e w' ⟨rfl, k, os, rfl⟩
  refine ⟨?_, Lib.below_grow _ _ (Nat.le_refl _) k os⟩
  unfold Lib.itoa
  rw [if_neg (by omega), Int.toNat_natCast]
theorem Write_any (B b : Nat) (bs : List Value) (s : ByteArray) (w : World) (h : Lib.IsBuilderF 83 5 B b bs w) (hlen : bs.length + s.size ≤ 140737488355328) (hBw : B ≤ w.heap.size) :
    Calls Tryz.prog 39 #[.pointer (some ⟨b, 0, none⟩), .string s] w fun e w' => e = .returned (.tuple #[.int .i64 s.size, .nilIface]) ∧ (Lib.IsBuilderF 83 5 B b (bs ++ Lib.strCells s) w' ∧ Below B w w') :=
  (Any.Builder_WriteString_k { Tryz.lays105 with } Tryz.Builder_Extra_105 B b bs s w h hlen hBw).mono fun _ _ ⟨h1, h2, h3, _⟩ => ⟨h1, .inr h2, h3⟩
theorem Tryz.infoStr : (Tryz.prog.info? 9).map (fun i => (i.zero, i.size, i.bytes)) = some (some (.string ⟨#[]⟩), 1, 16) := by kernel_rfl
/-- the first k groups of nine digits -/
def groups (n k : Nat) : List Value := (List.range k).map fun j => Value.string ⟨(Lib.decDigits (dg 1000000000 n j)).toArray⟩
theorem groups_succ (n k : Nat) : groups n (k + 1) = groups n k ++ [Value.string ⟨(Lib.decDigits (dg 1000000000 n k)).toArray⟩] := by
  unfold groups; rw [List.range_succ, List.map_append]; rfl
theorem groups_len (n k : Nat) : (groups n k).length = k := by simp [groups]
theorem ownsRow_below {w w' : World} {base : Nat} {e : TypeId} {size : Nat} {v : Value} {n : Nat} {xs : List Value} (h : w.ownsRow base e size v n xs) (hb : Below w.heap.size w w') : w'.ownsRow base e size v n xs := by
  refine ⟨h.1, ?_⟩
  rcases h.2 with h2 | ⟨g, cap, cur, hv, hg, hh, r⟩
  · exact .inl h2
  · exact .inr ⟨g, cap, cur, hv, hg, (hb.block g (Array.getElem?_eq_some_iff.1 hh).1).trans hh, r⟩
theorem nd_groups {n m : Nat} (h : nd 4294967296 n ≤ m) : nd 1000000000 n ≤ 2 * m := by
  have h1 := (nd_le (by decide : 2 ≤ 4294967296)).1 h
  apply (nd_le (by decide : 2 ≤ 1000000000)).2
  refine Nat.lt_of_lt_of_le h1 ?_
  rw [Nat.pow_mul]
  exact Nat.pow_le_pow_left (by decide) _
theorem grownBy_of_below {w w' : World} (hb : Below w.heap.size w w') : w.grownBy w' none := ⟨hb.os, hb.tape, hb.output, hb.size, fun k hk _ => hb.block k hk⟩
theorem builder_below {w w' : World} {T e : TypeId} {B b : Nat} {bs : List Value} (h : Lib.IsBuilderF T e B b bs w) (hb : Below w.heap.size w w') : Lib.IsBuilderF T e B b bs w' := by
  have key : ∀ p, Lib.BuilderAtF T e B b p bs w → Lib.BuilderAtF T e B b p bs w' := by
    rintro p ⟨hB, v, hh, hown, hne⟩
    refine ⟨hB, v, ?_, hown.kept (grownBy_of_below hb) ?_, hne⟩
    · rw [hb.block b (Array.getElem?_eq_some_iff.1 hh).1]; exact hh
    · cases v.ownBlock <;> simp
  rcases h with h | h
  · exact .inl (key _ h)
  · exact .inr (key _ h)
def GrpRel (n : Nat) (w : World) (k : Nat) (gv rest : Value) (wr : World) : Prop :=
  k ≤ nd 1000000000 n ∧ D wr rest (n / 1000000000 ^ k) ∧ wr.ownsRow w.heap.size 9 1 gv k (groups n k) ∧ Below w.heap.size w wr
/-- what is written after t groups, of m -/
def acc (n m t : Nat) : List UInt8 := if t = 0 then [] else Lib.decDigits (n / 1000000000 ^ (m - t))
theorem acc_len {n m t : Nat} (h : n < 1000000000 ^ m) (ht : t ≤ m) : (acc n m t).length ≤ 9 * t := by
  unfold acc
  split
  · simp
  · rename_i h0
    apply dec_len_le (by omega)
    rw [Nat.pow_mul, Nat.div_lt_iff_lt_mul (Nat.pow_pos (by decide))]
    have e : (10 ^ 9 : Nat) = 1000000000 := by decide
    rw [e, ← Nat.pow_add, show t + (m - t) = m from by omega]
    exact h
theorem acc_one {n m : Nat} (h : n < 1000000000 ^ (m + 1)) : acc n (m + 1) 1 = Lib.decDigits (dg 1000000000 n m) := by
  unfold acc
  rw [if_neg (by decide), Nat.add_sub_cancel]
  congr 1
  unfold dg
  rw [Nat.mod_eq_of_lt]
  rw [Nat.div_lt_iff_lt_mul (Nat.pow_pos (by decide)), Nat.mul_comm, ← Nat.pow_succ]
  exact h
theorem acc_next {n m t j : Nat} (hm : m = t + 1 + j) (ht : 0 < t) (h1 : 1000000000 ^ (m - 1) ≤ n) :
    acc n m (t + 1) = acc n m t ++ (Lib.repeatL [48] (9 - (Lib.decDigits (dg 1000000000 n j)).length) ++ Lib.decDigits (dg 1000000000 n j)) := by
  rw [group_eq _ (dg_lt (by decide) _ _)]
  unfold acc
  rw [if_neg (by omega), if_neg (by omega), show m - (t + 1) = j from by omega, show m - t = j + 1 from by omega]
  apply dec_group
  apply Nat.div_pos _ (Nat.pow_pos (by decide))
  exact Nat.le_trans (Nat.pow_le_pow_right (by decide) (by omega)) h1
theorem acc_all {n m : Nat} (hm : 0 < m) : acc n m m = Lib.decDigits n := by
  unfold acc; rw [if_neg (by omega), Nat.sub_self, Nat.pow_zero, Nat.div_one]
set_option maxHeartbeats 1000000 in
set_option maxRecDepth 100000 in
theorem String_pos (v : Value) (n : Nat) (w : World) (hv : D w v n) (h0 : 0 < n) (hn : nd 4294967296 n ≤ 100000) (he : Env w) :
    Calls Tryz.prog 21 #[.agg #[v]] w fun e w' => e = .returned (.string ⟨(Lib.decDigits n).toArray⟩) ∧ Below w.heap.size w w' := by
  obtain ⟨i0, hi, hz0, hz1, hz2⟩ := info_parts Tryz.infoStr
  have b1 : ∀ o, Below w.heap.size w (w.alloc o) := fun o => (Below.refl _ _).alloc (Nat.le_refl _) _
  have HZ := Lib.hid (fun o => isZero_any v n (w.alloc o) (hv.below (b1 o)))
  rw [show decide (n = 0) = false from by simp; omega] at HZ
  have HV := Lib.hid (fun o => hv.below (b1 o))
  have HE := Lib.hid he
  have HB1 := Lib.hid b1
  obtain ⟨ao, ac, rfl, -⟩ := hv.shape
  clear hv b1 he
  go_enter Tryz.func21, Tryz.ntmps21
  go_wp2_with fail
  refine (HZ.out _).mono ?_
  rintro e w1 ⟨rfl, rfl⟩
  go_wp2
  go_loopg [3, 4] (nd 1000000000 n) (fun m gv rest wr => ∃ k, Hid (m + k = nd 1000000000 n) ∧ GrpRel n w k gv rest wr)
  case atStart => exact ⟨0, rfl, Nat.zero_le _, by rw [Nat.pow_zero, Nat.div_one]; exact HV.out _, World.ownsRow_nil _ _ _ _, HB1.out _⟩
  case round =>
    obtain ⟨k, HK, hk, hr, hown, hbel⟩ := hrel
    have hd : nd 4294967296 (n / 1000000000 ^ k) ≤ 100000 := Nat.le_trans (nd_mono (by decide) (Nat.div_le_self _ _)) hn
    have HZ2 := Lib.hid (isZero_any _ _ _ hr)
    by_cases hz : n / 1000000000 ^ k = 0
    · rw [show decide (n / 1000000000 ^ k = 0) = true from by simp [hz]] at HZ2
      have hkm : k = nd 1000000000 n := by
        rcases Nat.lt_or_ge k (nd 1000000000 n) with h | h
        · have h1 := nd_pow_le (by decide : 2 ≤ 1000000000) h0
          have h2 : 1000000000 ^ k ≤ 1000000000 ^ (nd 1000000000 n - 1) := Nat.pow_le_pow_right (by decide) (by omega)
          have h3 := Nat.div_pos (Nat.le_trans h2 h1) (Nat.pow_pos (by decide))
          omega
        · omega
      have hk0 : 0 < k := by rw [hkm]; exact nd_pos (by decide) h0
      obtain ⟨g, cap, hgv, hcg⟩ : ∃ g cap, _ = Value.slice (some ⟨g, 0, none⟩) k cap ∧ ∀ j, j < k → wr.cell? ⟨g, j, none⟩ = some (.string ⟨(Lib.decDigits (dg 1000000000 n j)).toArray⟩) := by
        have h' := hown
        rcases hown.2 with ⟨_, h⟩ | ⟨g, cap, cur, hv', _⟩
        · omega
        · rw [hv'] at h'
          refine ⟨g, cap, hv', fun j hj => ?_⟩
          rw [World.ownsRow.cellAt h' j (by omega)]
          simp [groups, hj]
      subst hgv
      have hn1 : n < 1000000000 ^ k := by rw [hkm]; exact nd_lt (by decide) n
      have hn2 : 1000000000 ^ (k - 1) ≤ n := by rw [hkm]; exact nd_pow_le (by decide) h0
      have hkb : k ≤ 200000 := by have := nd_groups hn; omega
      have HN1 := Lib.hid hn1; have HN2 := Lib.hid hn2
      have HBl := Lib.hid hbel; have HCG := Lib.hid hcg
      clear hz hkm hown hbel hr hd hn1 hn2 hcg hk
      go_wp2_with fail
      refine HZ2.out.mono ?_
      rintro e w' ⟨rfl, rfl⟩
      go_wp2
      obtain ⟨wo, rfl⟩ : ∃ wo : World, wo = wr := ⟨_, rfl⟩
      go_loopw [32] (fun t wx => ∃ i : Nat, i ≤ k ∧ t = .int .i64 i ∧ Lib.IsBuilderF 83 5 wo.heap.size wo.heap.size (Lib.byteCells (acc n k i)) wx ∧ Below wo.heap.size wo wx ∧ wo.heap.size < wx.heap.size) (fun t _ => k - (intOf t).toNat)
      case atStart => exact ⟨0, Nat.zero_le _, rfl, Lib.IsBuilderF.of (Lib.fresh_isBuilder 83 5 wo), (Below.refl _ _).alloc (Nat.le_refl _) _, by simp⟩
      case round =>
        obtain ⟨i, hi', rfl, hib, hbx, hsx⟩ := hrel
        have HIB := Lib.hid hib; have HBX := Lib.hid hbx
        clear hib hbx
        have HAL : Hid ((acc n k i).length ≤ 9 * i) := acc_len HN1.out hi'
        by_cases hlt : i < k
        · obtain ⟨j, hj⟩ : ∃ j, k = i + 1 + j := ⟨k - 1 - i, by omega⟩
          have hji : ((k : Int) - 1) - i = j := by omega
          have hjk : (j : Int) < k := by omega
          have hjk' : j < k := by omega
          have HJ := Lib.hid hj
          clear hj
          obtain ⟨S, hS⟩ : ∃ S : ByteArray, S = ⟨(Lib.decDigits (dg 1000000000 n j)).toArray⟩ := ⟨_, rfl⟩
          have hcell : wr.cell? ⟨g, j, none⟩ = some (.string S) := by
            have h1 := HCG.out j hjk'
            rw [HBX.out.cell (p := ⟨g, j, none⟩) (World.block_lt_of_cell? _ _ h1), hS]; exact h1
          have HSD : Hid (S.data.toList = Lib.decDigits (dg 1000000000 n j)) := by rw [hS]; rfl
          clear hS
          have hS9 : S.size ≤ 9 := by
            rw [← len_data, HSD.out]
            exact dec_len_le (by decide) (dg_lt (by decide) n j)
          rcases Nat.eq_zero_or_pos i with hi0 | hi0
          · have hi0' : ¬ (0 : Int) < i := by omega
            have HW := Lib.hid (Write_any wo.heap.size wo.heap.size _ S wr HIB.out (by rw [Lib.byteCells_length]; have := HAL.out; omega) (Nat.le_of_lt hsx))
            have HI0 := Lib.hid hi0; clear hi0
            go_wp2_with fail
            refine HW.out.mono ?_
            rintro e w5 ⟨rfl, hib5, hb5⟩
            have HE5 : Hid (Lib.IsBuilderF 83 5 wo.heap.size wo.heap.size (Lib.byteCells (acc n k (i + 1))) w5) := by
              have e : Lib.byteCells (acc n k (i + 1)) = Lib.byteCells (acc n k i) ++ Lib.strCells S := by
                rw [Lib.strCells_eq, ← Lib.byteCells_append, HSD.out, HI0.out]
                have h1 := HJ.out
                have h2 := HN1.out
                rw [HI0.out] at h1
                rw [h1, show 0 + 1 + j = j + 1 from by omega] at h2 ⊢
                rw [show 0 + 1 = 1 from rfl, acc_one h2]
                rfl
              rw [e]; exact hib5
            have HB5 := Lib.hid hb5
            have hs5 : wo.heap.size < w5.heap.size := Nat.lt_of_lt_of_le hsx hb5.size
            clear hib5 hb5
            go_wp2
            go_roundw
            case rel => exact ⟨i + 1, by omega, by go_num, HE5.out, HBX.out.trans HB5.out, hs5⟩
            case measure => simp [intOf]; omega
          · have hi0' : (0 : Int) < i := by omega
            have h9 : (9 : Int) - S.size = ((9 - S.size : Nat) : Int) := by omega
            have HRp := Lib.hid (Tryz.strings_Repeat ⟨#[48]⟩ (9 - S.size) wr (by omega) (by show 1 * (9 - S.size) ≤ _; omega))
            go_wp2_with fail
            refine HRp.out.mono ?_
            rintro e w5 ⟨rfl, hb5⟩
            have hib5 : Lib.IsBuilderF 83 5 wo.heap.size wo.heap.size (Lib.byteCells (acc n k i)) w5 := builder_below HIB.out hb5
            have HB5 := Lib.hid hb5
            have hs5 : wo.heap.size < w5.heap.size := Nat.lt_of_lt_of_le hsx hb5.size
            have hrl : (Lib.repeatL ([48] : List UInt8) (9 - S.size)).length ≤ 9 := by rw [repl_zero, List.length_replicate]; omega
            have HW := Lib.hid (Write_any wo.heap.size wo.heap.size _ ⟨(Lib.repeatL ([48] : List UInt8) (9 - S.size)).toArray⟩ w5 hib5 (by rw [Lib.byteCells_length, ← len_data]; have := HAL.out; show _ + (Lib.repeatL ([48] : List UInt8) (9 - S.size)).length ≤ _; omega) (Nat.le_of_lt hs5))
            clear hib5 hb5 h9
            go_wp2_with fail
            refine HW.out.mono ?_
            rintro e w6 ⟨rfl, hib6, hb6⟩
            have hs6 : wo.heap.size < w6.heap.size := Nat.lt_of_lt_of_le hs5 hb6.size
            have HW2 := Lib.hid (Write_any wo.heap.size wo.heap.size _ S w6 hib6 (by rw [List.length_append, Lib.byteCells_length, Lib.strCells_length, ← len_data ⟨_⟩]; have := HAL.out; show _ + (Lib.repeatL ([48] : List UInt8) (9 - S.size)).length + _ ≤ _; omega) (Nat.le_of_lt hs6))
            have HB6 := Lib.hid hb6
            clear hib6 hb6
            go_wp2_with fail
            refine HW2.out.mono ?_
            rintro e w7 ⟨rfl, hib7, hb7⟩
            have hs7 : wo.heap.size < w7.heap.size := Nat.lt_of_lt_of_le hs6 hb7.size
            have HE7 : Hid (Lib.IsBuilderF 83 5 wo.heap.size wo.heap.size (Lib.byteCells (acc n k (i + 1))) w7) := by
              have e : Lib.byteCells (acc n k (i + 1)) = Lib.byteCells (acc n k i) ++ Lib.strCells ⟨(Lib.repeatL ([48] : List UInt8) (9 - S.size)).toArray⟩ ++ Lib.strCells S := by
                rw [Lib.strCells_eq, Lib.strCells_eq, ← Lib.byteCells_append, ← Lib.byteCells_append, HSD.out, acc_next HJ.out hi0 HN2.out, ← len_data S, HSD.out, List.append_assoc]
              rw [e]; exact hib7
            have HBB : Hid (Below wo.heap.size wo w7) := ((HBX.out.trans (HB5.out.mono (Nat.le_of_lt hsx))).trans HB6.out).trans hb7
            clear hib7 hb7 hrl
            go_wp2
            go_roundw
            case rel => exact ⟨i + 1, by omega, by go_num, HE7.out, HBB.out, hs7⟩
            case measure => simp [intOf]; omega
        · obtain rfl : i = k := by omega
          have HS := Lib.hid (Tryz.Builder_String_any_k wo.heap.size wo.heap.size (acc n i i) wr HIB.out (Nat.le_of_lt hsx))
          have HA : Hid (acc n i i = Lib.decDigits n) := acc_all hk0
          clear hlt
          go_wp2_with fail
          refine HS.out.mono ?_
          rintro e w5 ⟨rfl, -, hb5, -⟩
          have HB5 := Lib.hid ((HBl.out.trans (HBX.out.mono HBl.out.size)).trans (hb5.mono HBl.out.size))
          clear hb5
          go_wp2
          go_ret
          exact ⟨by rw [HA.out]; rfl, HB5.out⟩
    · rw [show decide (n / 1000000000 ^ k = 0) = false from by simp [hz]] at HZ2
      have hkm : k < nd 1000000000 n := by
        rcases Nat.lt_or_ge k (nd 1000000000 n) with h | h
        · exact h
        · exact absurd (Nat.div_eq_of_lt (Nat.lt_of_lt_of_le (nd_lt (by decide) n) (Nat.pow_le_pow_right (by decide) h))) hz
      have HD := Lib.hid (divideByDigit_fresh _ (n / 1000000000 ^ k) 1000000000 wr hr (by omega) (by decide) (by decide))
      have hg : dg 1000000000 n k < 1000000000 := dg_lt (by decide) _ _
      rw [show (n / 1000000000 ^ k) % 1000000000 = dg 1000000000 n k from rfl, Nat.div_div_eq_div_mul, ← Nat.pow_succ] at HD
      have HO := Lib.hid hown; have HBl := Lib.hid hbel
      have hkb : k ≤ 100000000 := by have := nd_groups hn; omega
      have HRB := Lib.hid hown.lt
      have HGS := Lib.hid (groups_succ n k)
      clear hz hown hbel hr hd
      generalize dg 1000000000 n k = g at *
      have HI := Lib.hid (fun w (h : Env w) => Itoa_any g w (by omega) h)
      go_wp2_with fail
      refine HZ2.out.mono ?_
      rintro e w' ⟨rfl, rfl⟩
      go_wp2_with fail
      refine HD.out.mono ?_
      rintro e w2 ⟨r, rfl, hr2, hb2, hrf⟩
      have HRF := Lib.hid hrf; clear hrf
      have HR2 := Lib.hid hr2; have HB2 := Lib.hid hb2
      clear hr2 hb2
      have HE2 : Hid (Env w2) := (HE.out.below HBl.out).below HB2.out
      go_wp2_with fail
      refine (HI.out _ HE2.out).mono ?_
      rintro e w3 ⟨rfl, hb3⟩
      have hown3 := ownsRow_below (ownsRow_below HO.out HB2.out) hb3
      have HB3 := Lib.hid hb3
      clear hb3
      have hsz : w.heap.size ≤ w3.heap.size := Nat.le_trans HBl.out.size (Nat.le_trans HB2.out.size HB3.out.size)
      go_wp2_with (at_builtin; refine wpList_append_own _ rfl _ _ 76 rfl w.heap.size 9 i0 (.string ⟨#[]⟩) 1 16 Tryz.underlying76 hi hz0 hz1 hz2 rfl (by decide) _ _ _ rfl (hown3.alloc _) ⟨w3.heap.size, 0, none⟩ 1 1 [.string ⟨(Lib.decDigits g).toArray⟩] rfl rfl ?c1 ?c2 ?c3 ?c4 ?c5 ?_)
      case c1 => exact cell_one_new _ _ _
      case c2 => intro u hu; simp at hu; subst hu; rfl
      case c3 => unfold maxLen; omega
      case c4 => omega
      case c5 => simp; omega
      intro v' w4 hown4 hgrow hnil
      have HFIN : Hid (GrpRel n w (k + 1) v' r w4) := by
        refine ⟨by omega, ?_, by rw [HGS.out]; exact hown4, ?_⟩
        · have h1 := ((HR2.out.below HB3.out).below ((Below.refl w3.heap.size w3).alloc (Nat.le_refl _) (.cells #[.string ⟨(Lib.decDigits g).toArray⟩] 9)))
          rcases h1 with h1 | ⟨p1, b, o, cap, hv1, hc1⟩
          · exact .inl h1
          · refine .inr ⟨p1, b, o, cap, hv1, fun i hi => hgrow.cell (hc1 i hi) ?_⟩
            intro e
            have h3 := HRB.out _ e.symm
            have h4 := HRF.out
            rw [hv1] at h4
            simp only [Value.slice.injEq, Option.some.injEq, Addr.mk.injEq, and_true] at h4
            have h5 := h4.1.1
            have h6 : b = wr.heap.size := h5
            have h7 : b < wr.heap.size := h3.2
            omega
        · refine Below.grown ((HBl.out.trans (HB2.out.mono HBl.out.size)).trans (HB3.out.mono (Nat.le_trans HBl.out.size HB2.out.size)) |>.alloc (by omega) _) hgrow (by simp; omega) ?_
          intro j hj
          exact (HRB.out _ hj).1
      clear hown4 hgrow hnil hown3
      go_wp2
      go_roundg (nd 1000000000 n - (k + 1))
      case measure => have := HK.out; omega
      case rel => exact ⟨k + 1, by show _ = _; omega, HFIN.out⟩
end Go.Proofs.YtfkogbomijonjaaGreatDoor
