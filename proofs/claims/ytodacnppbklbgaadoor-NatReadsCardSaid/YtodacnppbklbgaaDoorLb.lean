/- The law NatReads: the walk. -/
import Derived.Test.YtodacnppbklbgaaDoorRh
namespace Go.Proofs.YtodacnppbklbgaaDoor
open Go Go.RowKit Gu

/-- what the law keeps while it looks: the number at hand in both forms, the table, the memory that came in -/
structure Sr (ao : Option Addr) (ac : Nat) (ro : Option Addr) (rc n B : Nat) (w W : World) : Prop where
  num : D W (.slice ao (nd 4294967296 n) ac) n
  dig : R W (.slice ro (nd 65536 n) rc) n
  env : Env W
  bel : Below w.heap.size w W
  old : w.heap.size ≤ B
  lt : B < W.heap.size
  cell : W.cell? ⟨B, 0, none⟩ = some (.slice ao (nd 4294967296 n) ac)
section
variable {ao : Option Addr} {ac : Nat} {ro : Option Addr} {rc n B : Nat} {w W W' : World}
theorem Sr.next (h : Sr ao ac ro rc n B w W) (hb : Below W.heap.size W W') : Sr ao ac ro rc n B w W' :=
  ⟨h.num.below hb, h.dig.below hb, h.env.below hb, h.bel.trans (hb.mono h.bel.size), h.old, Nat.lt_of_lt_of_le h.lt hb.size, (hb.cell (p := ⟨B, 0, none⟩) h.lt).trans h.cell⟩
theorem Sr.drew (h : Sr ao ac ro rc n B w W) : Sr ao ac ro rc n B w W.drew := h.next (Below.refl _ _).drew
theorem nd_32 {n m : Nat} (h : nd 65536 n ≤ m) : nd 4294967296 n ≤ m := by
  have h1 := (nd_le (by decide : 2 ≤ 65536)).1 h
  exact (nd_le (by decide : 2 ≤ 4294967296)).2 (Nat.lt_of_lt_of_le h1 (Nat.pow_le_pow_left (by decide) _))
theorem String_Sr (hn : nd 65536 n ≤ 1024) (h : Sr ao ac ro rc n B w W) :
    Calls Tryd.prog 15 #[.agg #[.slice ao (nd 4294967296 n) ac]] W fun e w' => e = .returned (.string ⟨(Lib.decDigits n).toArray⟩) ∧ Sr ao ac ro rc n B w w' :=
  (String_any _ n W h.num (by have := nd_32 hn; omega) h.env).mono fun _ _ ⟨he, hb⟩ => ⟨he, h.next hb⟩
theorem Text_Sr (hn : nd 65536 n ≤ 1024) (h : Sr ao ac ro rc n B w W) :
    Calls Tryd.prog 16 #[.slice ro (nd 65536 n) rc] W fun e w' => e = .returned (.string ⟨(Lib.decDigits n).toArray⟩) ∧ Sr ao ac ro rc n B w w' :=
  (Text_any _ n W h.dig (by omega)).mono fun _ _ ⟨he, hb⟩ => ⟨he, h.next hb⟩
theorem BitLen_Sr (hn : nd 65536 n ≤ 1024) (h : Sr ao ac ro rc n B w W) :
    Calls Tryd.prog 10 #[.agg #[.slice ao (nd 4294967296 n) ac]] W fun e w' => e = .returned (.int .i64 (nd 2 n)) ∧ Sr ao ac ro rc n B w w' :=
  (BitLen_any _ n W h.num (by have := nd_32 hn; omega)).mono fun _ _ ⟨he, hb⟩ => ⟨he, h.next hb⟩
theorem RBitLen_Sr (hn : nd 65536 n ≤ 1024) (h : Sr ao ac ro rc n B w W) :
    Calls Tryd.prog 11 #[.slice ro (nd 65536 n) rc] W fun e w' => e = .returned (.int .i64 (nd 2 n)) ∧ Sr ao ac ro rc n B w w' :=
  (RBitLen_any _ n W h.dig (by omega)).mono fun _ _ ⟨he, hw⟩ => ⟨he, by rw [← hw]; exact h⟩
theorem Bit_Sr {i : Int} (hi : i ≤ 9223372036854775807) (hn : nd 65536 n ≤ 1024) (h : Sr ao ac ro rc n B w W) :
    Calls Tryd.prog 17 #[.agg #[.slice ao (nd 4294967296 n) ac], .int .i64 i] W fun e w' => e = .returned (.int .i64 (bitN n i)) ∧ Sr ao ac ro rc n B w w' :=
  (Bit_any _ n i W h.num hi (by have := nd_32 hn; omega)).mono fun _ _ ⟨he, hb⟩ => ⟨he, h.next hb⟩
theorem RBit_Sr {i : Int} (hi : i ≤ 9223372036854775807) (hn : nd 65536 n ≤ 1024) (h : Sr ao ac ro rc n B w W) :
    Calls Tryd.prog 18 #[.slice ro (nd 65536 n) rc, .int .i64 i] W fun e w' => e = .returned (.int .i64 (bitN n i)) ∧ Sr ao ac ro rc n B w w' :=
  (RBit_any _ n i W h.dig hi (by omega)).mono fun _ _ ⟨he, hb⟩ => ⟨he, h.next hb⟩
theorem awake_Sr (h : Sr ao ac ro rc n B w W) :
    Calls Tryd.prog 7 #[] W fun e w' => e = .returned (.bool true) ∧ Sr ao ac ro rc n B w w' :=
  (awake_any W h.env).mono fun _ _ ⟨he, hb⟩ => ⟨he, h.next hb⟩
end
set_option maxHeartbeats 2000000 in
theorem natReads_walk (v : Value) (xs : List Nat) (i : Int) (w : World) (hv : IsRaw w v xs) (hlen : xs.length ≤ maxLen) (hi : i ≤ 9223372036854775807) (he : Env w) :
    Calls Tryd.prog 4 #[v, .int .i64 i] w fun e w' => e = .returned (.bool true) ∧ Below w.heap.size w w' := by
  have HRaw := Lib.hid (Raw_any v xs 1024 w hv hlen (by decide))
  have hn := rawN_nd hv.1 1024
  generalize rawN xs 1024 = n at *
  have HM := Lib.hid (fun v w h => made_any v n w h hn)
  have HRI := Lib.hid (fun v w h => RInt_any v n w h (by omega))
  have HI := Lib.hid (fun v w h => Int_any v n w h (by have := nd_32 hn; omega))
  have HE := Lib.hid he
  obtain ⟨vo, vc, rfl, -⟩ := hv.shape
  clear hv he hlen
  generalize xs.length = L at *
  go_enter Tryd.func4, Tryd.ntmps4
  go_wp2_with fail
  refine HRaw.out.mono ?_
  rintro e w1 ⟨r, rfl, hr, hb⟩
  obtain ⟨ro, rc, rfl, -⟩ := hr.shape
  have HR1 := Lib.hid hr
  have HB1 := Lib.hid hb
  have HE1 := Lib.hid (HE.out.below hb)
  clear hr hb
  go_wp2_with fail
  refine (HM.out _ _ HR1.out).mono ?_
  rintro e w2 ⟨x, rfl, hx, hb⟩
  obtain ⟨ao, ac, rfl, -⟩ := hx.shape
  have hs0 : Sr ao ac ro rc n w2.heap.size w (w2.alloc (.cells #[.slice ao (nd 4294967296 n) ac] 25)) := by
    have h1 : Below w2.heap.size w2 (w2.alloc (.cells #[.slice ao (nd 4294967296 n) ac] 25)) := (Below.refl _ _).alloc (Nat.le_refl _) _
    have h2 := HB1.out.trans (hb.mono HB1.out.size)
    exact ⟨hx.below h1, (HR1.out.below hb).below h1, (HE1.out.below hb).below h1, h2.alloc h2.size _, h2.size, by simp, World.cell?_alloc_at _ _ _ _ rfl⟩
  have HS0 := Lib.hid hs0
  clear hx hb hs0
  go_wp2_with fail
  refine (HRI.out _ _ HS0.out.dig).mono ?_
  rintro e w3 ⟨rfl, rfl⟩
  go_wp2_with fail
  refine (HI.out _ _ HS0.out.num).mono ?_
  rintro e w4 ⟨rfl, hb⟩
  have hs := HS0.out.next hb
  have hc := hs.cell
  have HS := Lib.hid hs
  clear hb hs HS0 HI HRI HM HRaw
  obtain ⟨S, hS⟩ : ∃ S : ByteArray, S = ⟨(Lib.decDigits n).toArray⟩ := ⟨_, rfl⟩
  have HST := Lib.hid (fun W h => String_Sr (ao := ao) (ac := ac) (ro := ro) (rc := rc) (B := w2.heap.size) (w := w) (W := W) hn h)
  have HTX := Lib.hid (fun W h => Text_Sr (ao := ao) (ac := ac) (ro := ro) (rc := rc) (B := w2.heap.size) (w := w) (W := W) hn h)
  rw [← hS] at HST HTX
  clear hS
  generalize intB n = bb at *
  generalize intN n = nn at *
  go_wp2_with fail
  refine (HST.out _ HS.out).mono ?_
  rintro e w5 ⟨rfl, hs⟩
  clear hc HS
  have hc := hs.cell
  have HS := Lib.hid hs
  clear hs
  go_wp2_with fail
  refine (HTX.out _ HS.out).mono ?_
  rintro e w6 ⟨rfl, hs⟩
  clear hc HS
  have hc := hs.cell
  have HS := Lib.hid hs
  clear hs
  go_wp2_with fail
  refine (BitLen_Sr hn HS.out).mono ?_
  rintro e w7 ⟨rfl, hs⟩
  clear hc HS
  have hc := hs.cell
  have HS := Lib.hid hs
  clear hs
  go_wp2_with fail
  refine (RBitLen_Sr hn HS.out).mono ?_
  rintro e w8 ⟨rfl, hs⟩
  clear hc HS
  have hc := hs.cell
  have HS := Lib.hid hs
  clear hs
  go_wp2_with fail
  refine (Bit_Sr hi hn HS.out).mono ?_
  rintro e w9 ⟨rfl, hs⟩
  clear hc HS
  have hc := hs.cell
  have HS := Lib.hid hs
  clear hs
  go_wp2_with fail
  refine (RBit_Sr hi hn HS.out).mono ?_
  rintro e w10 ⟨rfl, hs⟩
  clear hc HS
  have hc := hs.cell
  have HS := Lib.hid hs
  clear hs
  go_wp2_with fail
  refine (awake_Sr HS.out).mono ?_
  rintro e w11 ⟨rfl, hs⟩
  clear hc HS
  have hc := hs.cell
  have HS := Lib.hid hs
  clear hs
  go_wp2
  go_ret
  exact ⟨by simp, HS.out.bel⟩
end Go.Proofs.YtodacnppbklbgaaDoor
