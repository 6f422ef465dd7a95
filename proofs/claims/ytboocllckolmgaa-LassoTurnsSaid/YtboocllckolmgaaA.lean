/- Points in memory: a coordinate, points, a shape. -/
import Derived.Test.YtboocllckolmgaaProg
import Derived.Test.YtboocllckolmgaaFA
import Derived.WalkKit
import Derived.Laws.BitsAllLaws
import Derived.Laws.CopyOwn
import Derived.Laws.MakeOwn
import Derived.Outline
import Derived.Maps.AppendAt
import Derived.WalkLawsBesides
import Derived.OneCell
import Derived.OwnWalk
import Derived.Laws.AppendOwnNone
import Derived.Lib.Hide
import Derived.StillTailTactics
import Derived.BigQuiet
import Derived.BigRegion
import Derived.LoopTactic
import Derived.RegionTactic
import Derived.Deep.DeepMust
import Derived.Deep.QuietTactic
import Derived.Deep.LoopGhost
import Derived.Deep.OwnRows
import Derived.Deep.RegionHeld3
namespace Go.Proofs.Ytboocllckolmgaa
open Go.RowKit
set_option linter.unusedVariables false

theorem wrap_i64 (n : Int) (h0 : -9223372036854775808 ≤ n) (h1 : n ≤ 9223372036854775807) : IntKind.i64.wrap n = n := by
  simp [IntKind.wrap, IntKind.bits, IntKind.signed]
  omega

/-- A point. -/
structure Pt where
  X : Int
  Y : Int

/-- A point in memory. -/
def OnePt (w : World) (b o : Nat) (p : Pt) : Prop :=
  w.cell? ⟨b, o, none⟩ = some (.int .i64 p.X) ∧ w.cell? ⟨b, o + 1, none⟩ = some (.int .i64 p.Y)
def Fits (p : Pt) : Prop := (-9223372036854775808 ≤ p.X ∧ p.X ≤ 9223372036854775807) ∧ (-9223372036854775808 ≤ p.Y ∧ p.Y ≤ 9223372036854775807)
/-- Points in memory. -/
def Pts (w : World) (a : Option Addr) (n : Nat) (ps : List Pt) : Prop :=
  ps.length = n ∧ (∀ p ∈ ps, Fits p) ∧ (0 < n → ∃ b off, a = some ⟨b, off, none⟩ ∧ ∀ (i : Nat) (p : Pt), ps[i]? = some p → OnePt w b (off + i * 2) p)
theorem OnePt.up {w w' : World} {b o : Nat} {p : Pt} (h : OnePt w b o p) (hk : b < w.heap.size → w'.heap[b]? = w.heap[b]?) : OnePt w' b o p := by
  obtain ⟨c0, c1⟩ := h
  have hb := hk (World.block_lt_of_cell? w _ c0)
  exact ⟨(World.cell?_of_block (w := w) hb).trans c0, (World.cell?_of_block (w := w) hb).trans c1⟩
theorem Pts.later {w w' : World} {a : Option Addr} {n : Nat} {ps : List Pt} (h : Pts w a n ps) (hk : ∀ k, k < w.heap.size → w'.heap[k]? = w.heap[k]?) : Pts w' a n ps := by
  obtain ⟨h1, h2, h3⟩ := h
  refine ⟨h1, h2, fun hp => ?_⟩
  obtain ⟨b, off, e, hc⟩ := h3 hp
  exact ⟨b, off, e, fun i p hp => (hc i p hp).up (hk b)⟩
theorem Pts.below {w w' : World} {a : Option Addr} {n : Nat} {ps : List Pt} (h : Pts w a n ps) (hb : Below w.heap.size w w') : Pts w' a n ps := h.later hb.block
theorem Pts.at {w : World} {a : Option Addr} {n i : Nat} {ps : List Pt} (h : Pts w a n ps) (hi : i < n) : ∃ b off p, a = some ⟨b, off, none⟩ ∧ ps[i]? = some p ∧ Fits p ∧ OnePt w b (off + i * 2) p := by
  obtain ⟨h1, h2, h3⟩ := h
  obtain ⟨b, off, e, hc⟩ := h3 (by omega)
  have hl : i < ps.length := by omega
  exact ⟨b, off, ps[i], e, List.getElem?_eq_getElem hl, h2 _ (List.getElem_mem hl), hc i _ (List.getElem?_eq_getElem hl)⟩
theorem drop_cons {α : Type} {ys : List α} {i : Nat} {y : α} (h : ys[i]? = some y) : ys.drop i = y :: ys.drop (i + 1) := by
  obtain ⟨hl, rfl⟩ := List.getElem?_eq_some_iff.1 h
  exact List.drop_eq_getElem_cons hl
theorem take_more {α : Type} {ys : List α} {i : Nat} {y : α} (h : ys[i]? = some y) : ys.take (i + 1) = ys.take i ++ [y] := by
  rw [List.take_add_one, h]; rfl
theorem add_spot (b off j : Nat) : ((⟨b, off, none⟩ : Addr).add j) = ⟨b, off + j, none⟩ := by
  unfold Addr.add
  split
  · rename_i h; subst h; rfl
  · rfl
theorem below_more {B : Nat} {w w1 w2 : World} (h : Below B w w1) (h2 : Below w1.heap.size w1 w2) (hB : B ≤ w.heap.size) : Below B w w2 :=
  h.trans ⟨h2.os, h2.tape, h2.output, h2.size, fun k hk => h2.block k (Nat.lt_of_lt_of_le hk (Nat.le_trans hB h.size))⟩

/-- May a coordinate be this number? -/
def nearC (n : Int) : Bool := decide (-1048576 ≤ n) && decide (n ≤ 1048576)
/-- Is it a point by the document? -/
def near (p : Pt) : Bool := nearC p.X && nearC p.Y
theorem nearC_iff {n : Int} : nearC n = true ↔ -1048576 ≤ n ∧ n ≤ 1048576 := by simp [nearC]
theorem near_iff {p : Pt} : near p = true ↔ (-1048576 ≤ p.X ∧ p.X ≤ 1048576) ∧ (-1048576 ≤ p.Y ∧ p.Y ≤ 1048576) := by
  unfold near; rw [Bool.and_eq_true, nearC_iff, nearC_iff]
/-- Is it a shape by the document? -/
def shape (ps : List Pt) : Bool := decide (3 ≤ ps.length) && decide (ps.length ≤ 256) && ps.all near

/-- A bool, and the old memory as it was. -/
def Says (b : Bool) (w : World) (e : Ending) (w' : World) : Prop := e = .returned (.bool b) ∧ Below w.heap.size w w'

theorem coord_any (w : World) (n : Int) : Calls Try.prog 33 #[.int .i64 n] w (fun e w' => e = .returned (.bool (nearC n)) ∧ w' = w) := by
  unfold nearC
  by_cases h1 : -1048576 ≤ n
  · have u1 : decide (-1048576 ≤ n) = true := by simpa using h1
    rw [u1, Bool.true_and]
    by_cases h2 : n ≤ 1048576
    · have u2 : decide (n ≤ 1048576) = true := by simpa using h2
      rw [u2]
      go_enter Try.func33, Try.ntmps33
      go_wp2_with fail
      go_ret
      exact ⟨rfl, rfl⟩
    · have u2 : decide (n ≤ 1048576) = false := by simpa using h2
      rw [u2]
      go_enter Try.func33, Try.ntmps33
      go_wp2_with fail
      go_ret
      exact ⟨rfl, rfl⟩
  · have u1 : decide (-1048576 ≤ n) = false := by simpa using h1
    rw [u1, Bool.false_and]
    go_enter Try.func33, Try.ntmps33
    go_wp2_with fail
    go_ret
    exact ⟨rfl, rfl⟩

theorem all_take {ps : List Pt} {i : Nat} (h : (ps.take i).all near = true) (hi : ps.length ≤ i) : ps.all near = true := by
  rwa [List.take_of_length_le hi] at h
theorem all_no {ps : List Pt} {i : Nat} {p : Pt} (h : ps[i]? = some p) (hp : near p = false) : ps.all near = false := by
  rw [List.all_eq_false]
  exact ⟨p, List.mem_of_getElem? h, by simp [hp]⟩
theorem all_more {ps : List Pt} {i : Nat} {p : Pt} (h : ps[i]? = some p) (ha : (ps.take i).all near = true) (hp : near p = true) : (ps.take (i + 1)).all near = true := by
  rw [take_more h, List.all_append, ha, List.all_cons, List.all_nil, hp]; rfl

set_option maxHeartbeats 800000 in
theorem points_any (w : World) (a : Option Addr) (n c : Nat) (ps : List Pt) (h : Pts w a n ps) (hn : n ≤ 33554432) : Calls Try.prog 24 #[.slice a n c] w (Says (ps.all near) w) := by
  have HP := Lib.hid h
  clear h
  go_enter Try.func24, Try.ntmps24
  go_wp2_with fail
  go_loopw [7] (fun cnt wr => ∃ i : Nat, i ≤ n ∧ cnt = .int .i64 i ∧ (ps.take i).all near = true ∧ Below w.heap.size w wr) (fun cnt _ => n - (intOf cnt).toNat)
  case atStart => exact ⟨0, Nat.zero_le _, rfl, by simp, Below.refl _ _⟩
  case round =>
    obtain ⟨i, hi, rfl, hal, hb⟩ := hrel
    by_cases hlt : i < n
    · obtain ⟨b, off, p, rfl, hp, hfit, c0, c1⟩ := (HP.out.below hb).at hlt
      have HAL := Lib.hid hal
      have HPP := Lib.hid hp
      have HB := Lib.hid (show Below w.heap.size w (wr.alloc (.cells #[.int .i64 p.X, .int .i64 p.Y] 37)) from hb.alloc hb.size _)
      clear hal hp hfit hb
      have C1 := Lib.hid (coord_any (wr.alloc (.cells #[.int .i64 p.X, .int .i64 p.Y] 37)) p.X)
      have C2 := Lib.hid (coord_any (wr.alloc (.cells #[.int .i64 p.X, .int .i64 p.Y] 37)) p.Y)
      generalize hnx : nearC p.X = nx at C1
      generalize hny : nearC p.Y = ny at C2
      have HNX := Lib.hid hnx
      have HNY := Lib.hid hny
      clear hnx hny
      go_wp2_with fail
      refine C1.out.mono ?_
      rintro e w1 ⟨rfl, rfl⟩
      cases nx with
      | false =>
        have E := Lib.hid (all_no HPP.out (by unfold near; rw [HNX.out]; rfl))
        go_wp2_with fail
        go_ret
        rw [E.out]
        exact ⟨rfl, HB.out⟩
      | true =>
        go_wp2_with fail
        refine C2.out.mono ?_
        rintro e w1 ⟨rfl, rfl⟩
        cases ny with
        | false =>
          have E := Lib.hid (all_no HPP.out (by unfold near; rw [HNX.out, HNY.out]; rfl))
          go_wp2_with fail
          go_ret
          rw [E.out]
          exact ⟨rfl, HB.out⟩
        | true =>
          have E := Lib.hid (all_more HPP.out HAL.out (by unfold near; rw [HNX.out, HNY.out]; rfl))
          go_wp2_with fail
          go_roundw
          case rel => exact ⟨i + 1, hlt, by go_num, E.out, HB.out⟩
          case measure => simp [intOf]; omega
    · obtain rfl : i = n := by omega
      have E := Lib.hid (all_take hal (by rw [HP.out.1]; exact Nat.le_refl _))
      have HB := Lib.hid hb
      clear hal hb
      go_wp2_with fail
      go_ret
      rw [E.out]
      exact ⟨rfl, HB.out⟩

set_option maxHeartbeats 800000 in
theorem shape_any (w : World) (a : Option Addr) (n c : Nat) (ps : List Pt) (h : Pts w a n ps) (hn : n ≤ 33554432) : Calls Try.prog 23 #[.slice a n c] w (Says (shape ps) w) := by
  unfold shape
  rw [h.1]
  by_cases h3 : 3 ≤ n
  · have u3 : decide ((3 : Int) ≤ (n : Int)) = true := by simp; omega
    have v3 : decide (3 ≤ n) = true := by simpa using h3
    rw [v3, Bool.true_and]
    by_cases h4 : n ≤ 256
    · have u4 : decide ((n : Int) ≤ 256) = true := by simp; omega
      have v4 : decide (n ≤ 256) = true := by simpa using h4
      rw [v4, Bool.true_and]
      have C := Lib.hid (points_any w a n c ps h hn)
      clear h
      go_enter Try.func23, Try.ntmps23
      go_wp2_with fail
      refine C.out.mono ?_
      rintro e w1 ⟨rfl, hb⟩
      have HB := Lib.hid hb
      clear hb
      generalize ps.all near = q at *
      go_wp2_with fail
      go_ret
      exact ⟨rfl, HB.out⟩
    · have u4 : decide ((n : Int) ≤ 256) = false := by simp; omega
      have v4 : decide (n ≤ 256) = false := by simpa using h4
      rw [v4, Bool.false_and]
      clear h
      go_enter Try.func23, Try.ntmps23
      go_wp2_with fail
      go_ret
      exact ⟨rfl, Below.refl _ _⟩
  · have u3 : decide ((3 : Int) ≤ (n : Int)) = false := by simp; omega
    have v3 : decide (3 ≤ n) = false := by simpa using h3
    rw [v3, Bool.false_and, Bool.false_and]
    clear h
    go_enter Try.func23, Try.ntmps23
    go_wp2_with fail
    go_ret
    exact ⟨rfl, Below.refl _ _⟩
end Go.Proofs.Ytboocllckolmgaa
