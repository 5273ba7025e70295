/- What a law keeps while it looks: numbers in both forms, the boxes its variables lie in, the library's table; the contracts over it. -/
import Derived.Test.YtfkogbomijonjaaGreatDoorSd
import Derived.Deep.RegionHeld3
namespace Go.Proofs.YtfkogbomijonjaaGreatDoor
open Go Go.RowKit Gu

/-- a number of an earlier world, a step on -/
theorem rchain {W W' : World} {v : Value} {n : Nat} (hb : Below W.heap.size W W') (h : R W v n) : R W' v n := h.below hb
theorem dchain {W W' : World} {v : Value} {n : Nat} (hb : Below W.heap.size W W') (h : D W v n) : D W' v n := h.below hb
/-- boxes, the program's numbers, the document's numbers -/
structure Kp (cs : List (Nat × Value)) (ns rs : List (Value × Nat)) (w W : World) : Prop where
  num : ∀ p ∈ ns, D W p.1 p.2
  dig : ∀ p ∈ rs, R W p.1 p.2
  box : ∀ p ∈ cs, p.1 < W.heap.size ∧ W.cell? ⟨p.1, 0, none⟩ = some p.2
  env : Env W
  bel : Below w.heap.size w W
theorem IsRaw.below {w w' : World} {v : Value} {xs : List Nat} (h : IsRaw w v xs) (hb : Below w.heap.size w w') : IsRaw w' v xs := by
  refine ⟨h.1, ?_⟩
  rcases h.2 with h1 | ⟨b, o, c, hv, hc⟩
  · exact .inl h1
  · refine .inr ⟨b, o, c, hv, fun i hi => ?_⟩
    rw [hb.cell (p := ⟨b, o + i, none⟩) (World.block_lt_of_cell? _ _ (hc i hi))]
    exact hc i hi
section
variable {cs : List (Nat × Value)} {ns rs : List (Value × Nat)} {w W W' : World}
theorem Kp.start (he : Env w) : Kp [] [] [] w w := ⟨fun _ h => by simp at h, fun _ h => by simp at h, fun _ h => by simp at h, he, Below.refl _ _⟩
theorem Kp.next (h : Kp cs ns rs w W) (hb : Below W.heap.size W W') : Kp cs ns rs w W' :=
  ⟨fun p hp => (h.num p hp).below hb, fun p hp => (h.dig p hp).below hb, fun p hp => ⟨Nat.lt_of_lt_of_le (h.box p hp).1 hb.size, (hb.cell (p := ⟨p.1, 0, none⟩) (h.box p hp).1).trans (h.box p hp).2⟩, h.env.below hb, h.bel.trans (hb.mono h.bel.size)⟩
theorem Kp.drewN (h : Kp cs ns rs w W) (q : Nat) : Kp cs ns rs w (W.drewN q) := h.next (below_drewN (Below.refl _ _) q)
theorem Kp.drew (h : Kp cs ns rs w W) : Kp cs ns rs w W.drew := h.next (Below.refl _ _).drew
theorem Kp.addNum (h : Kp cs ns rs w W) {v : Value} {n : Nat} (hv : D W v n) : Kp cs ((v, n) :: ns) rs w W :=
  ⟨fun p hp => by
    rcases List.mem_cons.1 hp with rfl | hp
    · exact hv
    · exact h.num p hp, h.dig, h.box, h.env, h.bel⟩
theorem Kp.addDig (h : Kp cs ns rs w W) {v : Value} {n : Nat} (hv : R W v n) : Kp cs ns ((v, n) :: rs) w W :=
  ⟨h.num, fun p hp => by
    rcases List.mem_cons.1 hp with rfl | hp
    · exact hv
    · exact h.dig p hp, h.box, h.env, h.bel⟩
theorem Kp.alloc (h : Kp cs ns rs w W) (o : Obj) : Kp cs ns rs w (W.alloc o) := h.next ((Below.refl _ _).alloc (Nat.le_refl _) _)
/-- a variable gets its box -/
theorem Kp.boxed (h : Kp cs ns rs w W) (v : Value) (T : TypeId) : Kp ((W.heap.size, v) :: cs) ns rs w (W.alloc (.cells #[v] T)) :=
  ⟨(h.alloc _).num, (h.alloc _).dig, fun p hp => by
    rcases List.mem_cons.1 hp with rfl | hp
    · exact ⟨by simp, World.cell?_alloc_at _ _ _ _ rfl⟩
    · exact (h.alloc _).box p hp, (h.alloc _).env, (h.alloc _).bel⟩
theorem Kp.cell (h : Kp cs ns rs w W) {g : Nat} {v : Value} (hm : (g, v) ∈ cs) : W.cell? ⟨g, 0, none⟩ = some v := (h.box _ hm).2
theorem NCmp_K {v u : Value} {a b : Nat} (h : Kp cs ns rs w W) (h1 : (v, a) ∈ ns) (h2 : (u, b) ∈ ns) (ha : nd 4294967296 a ≤ 1048576) (hb : nd 4294967296 b ≤ 1048576) :
    Calls Tryz.prog 34 #[.agg #[v], .agg #[u]] W fun e w' => e = .returned (.int .i64 (cmpN a b)) ∧ Kp cs ns rs w w' :=
  (NCmp_any _ _ a b W (h.num _ h1) (h.num _ h2) ha hb).mono fun _ _ ⟨he, hB⟩ => ⟨he, h.next hB⟩
theorem String_K {v : Value} {n : Nat} (h : Kp cs ns rs w W) (hv : (v, n) ∈ ns) (hn : nd 4294967296 n ≤ 100000) :
    Calls Tryz.prog 21 #[.agg #[v]] W fun e w' => e = .returned (.string ⟨(Lib.decDigits n).toArray⟩) ∧ Kp cs ns rs w w' :=
  (String_any v n W (h.num _ hv) hn h.env).mono fun _ _ ⟨he, hB⟩ => ⟨he, h.next hB⟩
end
end Go.Proofs.YtfkogbomijonjaaGreatDoor
