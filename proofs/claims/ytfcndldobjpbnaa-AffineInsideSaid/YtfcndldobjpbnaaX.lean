/- Seeing a picture: what is seen, in order; the picture under way. -/
import Derived.Test.YtfcndldobjpbnaaV
import Derived.Test.YtfcndldobjpbnaaI
import Derived.Test.YtfcndldobjpbnaaO
namespace Go.Proofs.Ytfcndldobjpbnaa
open Go.RowKit Go.Maps
set_option linter.unusedVariables false

namespace Af
/-- The first k pixels that are seen, row by row. -/
def seenTo (W H : Int) (zs : List Int) (b : M) (s : Bool) (w : Nat) (k : Nat) : List Int := (List.range k).map (fun i => seen W H zs b s ((i % w : Nat) : Int) ((i / w : Nat) : Int))
theorem seenTo_zero (W H : Int) (zs : List Int) (b : M) (s : Bool) (w : Nat) : seenTo W H zs b s w 0 = [] := rfl
theorem seenTo_next (W H : Int) (zs : List Int) (b : M) (s : Bool) (w y x : Nat) (hx : x < w) : seenTo W H zs b s w (y * w + x + 1) = seenTo W H zs b s w (y * w + x) ++ [seen W H zs b s (x : Int) (y : Int)] := by
  unfold seenTo
  rw [List.range_succ, List.map_append]
  have e1 : (y * w + x) % w = x := by rw [Nat.mul_comm, Nat.mul_add_mod]; exact Nat.mod_eq_of_lt hx
  have e2 : (y * w + x) / w = y := by rw [Nat.mul_comm, Nat.mul_add_div (by omega)]; rw [Nat.div_eq_of_lt hx]; rfl
  show List.map _ _ ++ [seen W H zs b s (((y * w + x) % w : Nat) : Int) (((y * w + x) / w : Nat) : Int)] = _
  rw [e1, e2]
theorem seenTo_length (W H : Int) (zs : List Int) (b : M) (s : Bool) (w k : Nat) : (seenTo W H zs b s w k).length = k := by simp [seenTo]
def sizeOk (w h : Int) : Prop := Side w ∧ Side h ∧ w * h ≤ 4194304
instance (w h : Int) : Decidable (sizeOk w h) := inferInstanceAs (Decidable (_ ∧ _ ∧ _))
/-- The first error of a picture that is seen through a map. -/
def seeE (W H : Int) (zs : List Int) (m : M) (w h : Int) : Int := if (backE m).2 ≠ 0 then (backE m).2 else if ¬ sizeOk w h then 31 else if ¬ PicOk W H zs then 25 else 0
theorem back_ok {m : M} (h : (backE m).2 = 0) : m.ok ∧ m.area ≠ 0 ∧ m.back.ok ∧ (backE m).1 = m.back := by
  unfold backE at *
  by_cases h1 : m.ok
  · rw [if_pos h1] at *
    by_cases h2 : m.area ≠ 0 ∧ m.back.ok
    · rw [if_pos h2] at *
      exact ⟨h1, h2.1, h2.2, rfl⟩
    · rw [if_neg h2] at h
      exact absurd h (by decide)
  · rw [if_neg h1] at h
    exact absurd h (by decide)
end Af
theorem seenTo_bounds {W H : Int} {zs : List Int} (hp : PicOk W H zs) (b : Af.M) (s : Bool) (w k : Nat) : ∀ z ∈ Af.seenTo W H zs b s w k, -9223372036854775808 ≤ z ∧ z ≤ 9223372036854775807 := by
  intro z hz
  unfold Af.seenTo at hz
  obtain ⟨i, -, rfl⟩ := List.mem_map.1 hz
  have := seen_num hp b s ((i % w : Nat) : Int) ((i / w : Nat) : Int)
  unfold Af.Num at this
  omega
/-- A block of another type is none of a row's. -/
theorem apart_own {w : World} {B n X : Nat} {v : Value} {xs : List Value} {cs : Array Value} {ty : TypeId} {fr : Nat × Nat} (h : w.ownsRow B 3 1 v n xs) (hx : w.heap[X]? = some (.cells cs ty fr)) (ht : ty ≠ 3) : v.ownBlock ≠ some X := by
  intro e
  rcases h.2 with ⟨rfl, _⟩ | ⟨g, cap, cur, rfl, hb, hg, _⟩
  · cases e
  · cases e
    rw [hg] at hx
    cases hx
    exact ht rfl
theorem PicB.grown {w w' : World} {B ty N n' : Nat} {W H : Int} {a : Option Addr} {n c : Nat} {v : Value} {xs : List Value} (h : PicB w B ty W H a n c) (ht : ty ≠ 3) (ho : w.ownsRow N 3 1 v n' xs) (g : w.grownBy w' v.ownBlock) : PicB w' B ty W H a n c :=
  (g.block B h.lt (fun e => apart_own ho h ht e.symm)).trans h
theorem Six.grown {w w' : World} {B ty N n' : Nat} {m : Af.M} {v : Value} {xs : List Value} (h : Six w B ty m) (ht : ty ≠ 3) (ho : w.ownsRow N 3 1 v n' xs) (g : w.grownBy w' v.ownBlock) : Six w' B ty m :=
  (g.block B h.lt (fun e => apart_own ho h ht e.symm)).trans h
/-- A picture seen, under way. -/
structure Seen (w : World) (ty mt A B R G N : Nat) (W H : Int) (a : Option Addr) (n c : Nat) (b : Af.M) (pw ph : Int) (xs : List Int) (aa : Option Addr) (k cap : Nat) (wr : World) : Prop where
  pic : PicB wr A ty W H a n c
  map : Six wr B mt b
  res : PicB wr R ty 0 0 none 0 0
  hdr : PicB wr G ty pw ph aa k cap
  own : wr.ownsRow N 3 1 (.slice aa k cap) k (vals xs)
  keeps : Keeps none' w wr
  low : w.heap.size ≤ R ∧ w.heap.size ≤ G ∧ w.heap.size ≤ N ∧ N ≤ wr.heap.size
  apart : A ≠ G ∧ B ≠ G ∧ R ≠ G
  types : ty ≠ 3 ∧ mt ≠ 3
theorem Seen.later {w w1 w2 : World} {ty mt A B R G N : Nat} {W H : Int} {a : Option Addr} {n c : Nat} {b : Af.M} {pw ph : Int} {xs : List Int} {aa : Option Addr} {k cap : Nat} (h : Seen w ty mt A B R G N W H a n c b pw ph xs aa k cap w1) (kk : Keeps none' w1 w2) :
    Seen w ty mt A B R G N W H a n c b pw ph xs aa k cap w2 :=
  ⟨h.pic.later kk, h.map.later kk, h.res.later kk, h.hdr.later kk, own_kept h.own (fun q hq => kk.later q (own_lt h.own q hq).2), h.keeps.next kk, ⟨h.low.1, h.low.2.1, h.low.2.2.1, Nat.le_trans h.low.2.2.2 kk.size⟩, h.apart, h.types⟩
theorem PicB.s2 {w : World} {B ty : Nat} {W H : Int} {a : Option Addr} {n c : Nat} (h : PicB w B ty W H a n c) (a' : Option Addr) (n' c' : Nat) : PicB (w.setCell ⟨B, 2, none⟩ (.slice a' n' c')) B ty W H a' n' c' := by
  unfold PicB at *
  simp [World.setCell, Array.getElem?_modify, h]
/-- One pixel more. -/
theorem Seen.step {w w1 w2 : World} {ty mt A B R G N : Nat} {W H : Int} {a : Option Addr} {n c : Nat} {b : Af.M} {pw ph : Int} {xs ys : List Int} {aa aa2 : Option Addr} {k cap cap2 : Nat}
    (h : Seen w ty mt A B R G N W H a n c b pw ph xs aa k cap w1) (ho : w2.ownsRow N 3 1 (.slice aa2 (k + 1) cap2) (k + 1) (vals ys)) (g : w1.grownBy w2 (Value.slice aa k cap).ownBlock) :
    Seen w ty mt A B R G N W H a n c b pw ph ys aa2 (k + 1) cap2 (w2.setCell ⟨G, 2, none⟩ (.slice aa2 (k + 1) cap2)) := by
  have hg := h.hdr.grown h.types.1 h.own g
  refine ⟨(h.pic.grown h.types.1 h.own g).set h.apart.1 _, (h.map.grown h.types.2 h.own g).set h.apart.2.1 _, (h.res.grown h.types.1 h.own g).set h.apart.2.2 _, hg.s2 _ _ _, ?_, ?_, ⟨h.low.1, h.low.2.1, h.low.2.2.1, ?_⟩, h.apart, h.types⟩
  · refine own_kept ho (fun q hq => Below.heap_setCell _ _ _ _ (fun e => ?_))
    subst e
    exact apart_own ho hg h.types.1 hq
  · exact (h.keeps.grown g (fun q hq e => by have := (own_lt h.own q e).1; have := h.low.2.2.1; omega)).setCell (fun e => by have := h.low.2.1; simp only at e; omega) _
  · have := g.size
    have := h.low.2.2.2
    simp [World.setCell]
    omega
/-- What a picture seen leaves. -/
def SeeOk (pw ph : Int) (k : Nat) (xs : List Int) (w : World) (e : Ending) (w' : World) : Prop :=
  ∃ aa cap, e = .returned (.tuple #[.agg #[.int .i64 pw, .int .i64 ph, .slice aa k cap], .int .i64 0]) ∧ Ints w' aa k xs ∧ Keeps none' w w'
def SeeNo (c : Int) (w : World) (e : Ending) (w' : World) : Prop :=
  e = .returned (.tuple #[.agg #[.int .i64 0, .int .i64 0, .slice none 0 0], .int .i64 c]) ∧ Keeps none' w w'
theorem PicB.all {w : World} {B ty : Nat} {W H : Int} {a : Option Addr} {n c : Nat} (h : PicB w B ty W H a n c) (W' H' : Int) (a' : Option Addr) (n' c' : Nat) :
    PicB (((w.setCell ⟨B, 0, none⟩ (.int .i64 W')).setCell ⟨B, 1, none⟩ (.int .i64 H')).setCell ⟨B, 2, none⟩ (.slice a' n' c')) B ty W' H' a' n' c' := by
  unfold PicB at *
  simp [World.setCell, Array.getElem?_modify, h]
theorem Keeps.pic {w w' : World} {R : Nat} (h : Keeps none' w w') (hR : w.heap.size ≤ R) (W' H' : Int) (a' : Option Addr) (n' c' : Nat) :
    Keeps none' w (((w'.setCell ⟨R, 0, none⟩ (.int .i64 W')).setCell ⟨R, 1, none⟩ (.int .i64 H')).setCell ⟨R, 2, none⟩ (.slice a' n' c')) :=
  ((h.setCell (fun e => by simp only at e; omega) _).setCell (fun e => by simp only at e; omega) _).setCell (fun e => by simp only at e; omega) _
theorem info3' : (Try.prog.info? 3).map (fun i => (i.zero, i.size, i.bytes)) = some (some (.int .i64 0), 1, 8) := by kernel_rfl
/-- make with no length and a capacity. -/
theorem wpList_make_cap {w : World} {ops : Array Oper} {rest : List Oper} {o : Oper} {a : Act} {Q : Exit → Act → World → Prop} (hg : o.guard = none) (l c : Operand) (hop : o.op = Op.makeSlice 42 l c)
    (m : Nat) (hl : a.eval l = .int .i64 0) (hc : a.eval c = .int .i64 m) (hm : m ≤ 33554432)
    (hK : ∀ w', w'.ownsRow w.heap.size 3 1 (.slice (some ⟨w.heap.size, 0, none⟩) 0 m) 0 (vals []) → Below w.heap.size w w' → w.heap.size < w'.heap.size → wpList Try.prog ops Q rest (a.put o.dst (.slice (some ⟨w.heap.size, 0, none⟩) 0 m)) w') :
    wpList Try.prog ops Q (o :: rest) a w := by
  obtain ⟨i0, hi, hz0, hz1, hz2⟩ := info_parts info3'
  have hr := run_make (P := Try.prog) w 42 3 i0 (.int .i64 0) Try.underlying42 hi hz0 .i64 .i64 0 m (by omega) (by omega) (by rw [hz2]; omega) (by omega)
  rw [hz1, Nat.mul_one, Int.toNat_natCast] at hr
  refine wpList_plain hg fun K hK' => ?_
  unfold Oper.wp
  simp [execOp, hop, hl, hc, hr, Result.andThen]
  refine hK' _ _ (hK _ ⟨rfl, Or.inr ⟨w.heap.size, m, madeCells #[.int .i64 0] m, rfl, Nat.le_refl _, heap_alloc_new _ _, by omega, by unfold maxLen; omega, by simp [size_madeCells], by simp [vals]⟩⟩ ((Below.refl _ _).alloc (Nat.le_refl _) _) (by simp))
theorem Seen.start {w w4 w5 : World} {ty mt A D R : Nat} {W H : Int} {a : Option Addr} {n c : Nat} {q : Af.M} {pw ph : Int} {aa : Option Addr} {cap : Nat} (hp : PicB w4 A ty W H a n c) (hm : Six w4 D mt q) (hr : PicB w4 R ty 0 0 none 0 0) (hk : Keeps none' w w4) (hR : w.heap.size ≤ R)
    (ho : w5.ownsRow w4.heap.size 3 1 (.slice aa 0 cap) 0 (vals [])) (hb : Below w4.heap.size w4 w5) (h1 : ty ≠ 3) (h2 : mt ≠ 3) :
    Seen w ty mt A D R w5.heap.size w4.heap.size W H a n c q pw ph [] aa 0 cap (w5.alloc (.cells #[.int .i64 pw, .int .i64 ph, .slice aa 0 cap] ty)) := by
  have k5 : Keeps none' w4 w5 := ⟨hb.os, hb.tape, hb.output, hb.size, fun i hi _ => hb.block i hi⟩
  have s5 := hb.size
  have sA := hp.lt
  have sD := hm.lt
  have sR := hr.lt
  have s4 := hk.size
  refine ⟨(hp.later k5).alloc _, (hm.later k5).alloc _, (hr.later k5).alloc _, PicB.new _ _ _ _ _ _ _, ?_, (hk.next k5).alloc _, ⟨hR, by omega, s4, ?_⟩, ⟨by omega, by omega, by omega⟩, h1, h2⟩
  · exact own_kept ho (fun q hq => Below.heap_alloc _ _ _ (own_lt ho q hq).2)
  · simp; omega
theorem own_nil (w : World) (B : Nat) : w.ownsRow B 3 1 (.slice none 0 0) 0 (vals []) := ⟨rfl, .inl ⟨rfl, rfl⟩⟩
theorem own_set {w : World} {B n R : Nat} {v : Value} {xs : List Value} (h : w.ownsRow B 3 1 v n xs) (hr : v.ownBlock ≠ some R) (i : Nat) (u : Value) : (w.setCell ⟨R, i, none⟩ u).ownsRow B 3 1 v n xs :=
  own_kept h (fun q hq => Below.heap_setCell _ _ _ _ (fun e => by subst e; exact hr hq))
/-- The last word: what stands under way is told. -/
theorem Seen.told {w wr : World} {ty mt A B R G N : Nat} {W H : Int} {a : Option Addr} {n c : Nat} {b : Af.M} {pw ph : Int} {xs : List Int} {aa : Option Addr} {k cap : Nat} (h : Seen w ty mt A B R G N W H a n c b pw ph xs aa k cap wr)
    (hx : ∀ z ∈ xs, -9223372036854775808 ≤ z ∧ z ≤ 9223372036854775807) :
    Ints (((wr.setCell ⟨R, 0, none⟩ (.int .i64 pw)).setCell ⟨R, 1, none⟩ (.int .i64 ph)).setCell ⟨R, 2, none⟩ (.slice aa k cap)) aa k xs := by
  have hr := apart_own h.own h.res h.types.1
  exact (own_ints (own_set (own_set (own_set h.own hr _ _) hr _ _) hr _ _) hx).1
end Go.Proofs.Ytfcndldobjpbnaa
