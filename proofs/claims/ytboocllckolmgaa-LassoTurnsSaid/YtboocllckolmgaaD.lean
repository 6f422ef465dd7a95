/- Rows of things of two cells that a call makes; a shape's sides. -/
import Derived.Test.YtboocllckolmgaaC
namespace Go.Proofs.Ytboocllckolmgaa
open Go.RowKit
set_option linter.unusedVariables false

theorem block_set {w : World} {R i : Nat} {c : Array Value} {t : TypeId} {f : Nat × Nat} (h : w.heap[R]? = some (.cells c t f)) (u : Value) :
    (w.setCell ⟨R, i, none⟩ u).heap[R]? = some (.cells (c.setIfInBounds i u) t f) := by
  simp [World.setCell, h, Array.getElem?_modify]
theorem lt_of_block {w : World} {k : Nat} {o : Obj} (h : w.heap[k]? = some o) : k < w.heap.size := by
  rcases Nat.lt_or_ge k w.heap.size with hlt | hge
  · exact hlt
  · rw [Array.getElem?_eq_none hge] at h; cases h

/-- A row of n things of two cells, the first i of which are as they should. -/
def Row2 (w : World) (g n i : Nat) (ty : TypeId) (vs : List (Value × Value)) : Prop :=
  ∃ cur : Array Value, w.heap[g]? = some (.cells cur ty (0, 0)) ∧ cur.size = n * 2 ∧ ∀ j v, j < i → vs[j]? = some v → cur[j * 2]? = some v.1 ∧ cur[j * 2 + 1]? = some v.2
theorem Row2.lt {w : World} {g n i : Nat} {ty : TypeId} {vs : List (Value × Value)} (h : Row2 w g n i ty vs) : g < w.heap.size := by
  obtain ⟨cur, h1, _⟩ := h
  exact lt_of_block h1
theorem Row2.later {w w' : World} {g n i : Nat} {ty : TypeId} {vs : List (Value × Value)} (h : Row2 w g n i ty vs) (hk : ∀ k, k < w.heap.size → w'.heap[k]? = w.heap[k]?) : Row2 w' g n i ty vs := by
  have hl := h.lt
  obtain ⟨cur, h1, h2⟩ := h
  exact ⟨cur, (hk g hl).trans h1, h2⟩
theorem Row2.below {w w' : World} {g n i : Nat} {ty : TypeId} {vs : List (Value × Value)} (h : Row2 w g n i ty vs) (hb : Below w.heap.size w w') : Row2 w' g n i ty vs := h.later hb.block
theorem Row2.spot {w : World} {g n i k : Nat} {ty : TypeId} {vs : List (Value × Value)} (h : Row2 w g n i ty vs) (hk : k < n * 2) : ∃ v, w.cell? ⟨g, k, none⟩ = some v ∧ w.frozen? ⟨g, k, none⟩ = false := by
  obtain ⟨cur, h1, h2, _⟩ := h
  exact ⟨cur[k]'(by omega), by simp [World.cell?, h1, show k < cur.size by omega], by simp [World.frozen?, h1]⟩
theorem Row2.at {w : World} {g n i j : Nat} {ty : TypeId} {vs : List (Value × Value)} {v : Value × Value} (h : Row2 w g n i ty vs) (hj : j < i) (hv : vs[j]? = some v) : w.cell? ⟨g, j * 2, none⟩ = some v.1 ∧ w.cell? ⟨g, j * 2 + 1, none⟩ = some v.2 := by
  obtain ⟨cur, h1, h2, h3⟩ := h
  obtain ⟨k1, k2⟩ := h3 j v hj hv
  exact ⟨by simp [World.cell?, h1, k1], by simp [World.cell?, h1, k2]⟩
theorem Row2.set {w : World} {g n i : Nat} {ty : TypeId} {vs : List (Value × Value)} {v : Value × Value} (h : Row2 w g n i ty vs) (hi : i < n) (hv : vs[i]? = some v) : Row2 ((w.setCell ⟨g, i * 2, none⟩ v.1).setCell ⟨g, i * 2 + 1, none⟩ v.2) g n (i + 1) ty vs := by
  obtain ⟨cur, h1, h2, h3⟩ := h
  refine ⟨_, block_set (block_set h1 _) _, by simpa using h2, fun j u hj hu => ?_⟩
  by_cases e : j = i
  · subst e
    rw [hv] at hu
    cases hu
    exact ⟨by rw [Array.getElem?_setIfInBounds_ne (by omega), Array.getElem?_setIfInBounds_self_of_lt (by omega)], by rw [Array.getElem?_setIfInBounds_self_of_lt (by simp; omega)]⟩
  · obtain ⟨k1, k2⟩ := h3 j u (by omega) hu
    exact ⟨by rw [Array.getElem?_setIfInBounds_ne (by omega), Array.getElem?_setIfInBounds_ne (by omega)]; exact k1, by rw [Array.getElem?_setIfInBounds_ne (by omega), Array.getElem?_setIfInBounds_ne (by omega)]; exact k2⟩
theorem Row2.put {w : World} {g n i : Nat} {ty : TypeId} {vs : List (Value × Value)} {x y : Value} (h : Row2 w g n i ty vs) (hi : i < n) (hv : vs[i]? = some (x, y)) : Row2 ((w.setCell ⟨g, i * 2, none⟩ x).setCell ⟨g, i * 2 + 1, none⟩ y) g n (i + 1) ty vs := Row2.set (v := (x, y)) h hi hv
theorem row2_start (w : World) (z : Array Value) (n : Nat) (ty : TypeId) (vs : List (Value × Value)) : Row2 (w.alloc (.cells (madeCells z (n * 2)) ty)) w.heap.size n 0 ty vs :=
  ⟨_, heap_alloc_new _ _, size_madeCells _ _, fun j _ hj => absurd hj (Nat.not_lt_zero j)⟩
theorem below_set2 {B : Nat} {w w1 : World} (h : Below B w w1) {g i j : Nat} (hg : B ≤ g) (u v : Value) : Below B w ((w1.setCell ⟨g, i, none⟩ u).setCell ⟨g, j, none⟩ v) :=
  (h.setCell (p := ⟨g, i, none⟩) hg u).setCell (p := ⟨g, j, none⟩) hg v

theorem info57 : (Try.prog.info? 57).map (fun i => (i.zero, i.size, i.bytes)) = some (some (.agg #[.complex .f64 0 0, .complex .f64 0 0]), 2, 32) := by kernel_rfl
theorem run_make_sides (k : Nat) (hk : k ≤ 256) (w : World) : (Instr.makeSlice 53 (.int .i64 (k : Int)) (.int .i64 (k : Int))).run Try.prog w = .ok (.slice (some ⟨w.heap.size, 0, none⟩) k k) (w.alloc (.cells (madeCells #[.complex .f64 0 0, .complex .f64 0 0] (k * 2)) 57)) := by
  obtain ⟨i, hi, hzz⟩ := Option.map_eq_some_iff.1 info57
  simp only [Prod.mk.injEq] at hzz
  obtain ⟨hz, hs, hb⟩ := hzz
  have hr := run_make (P := Try.prog) w 53 57 i _ Try.underlying53 hi hz .i64 .i64 k k (by omega) (Int.le_refl _) (by rw [hb]; omega) (by omega)
  simp only [Int.toNat_natCast, hs] at hr
  exact hr

theorem store_complex (a : Addr) (x y : Nat) (m : Mode) (w : World) : (store a (.complex .f64 x y) m).run Try.prog w = stored Try.prog w a (.complex .f64 x y) m := run_store Try.prog w a _ m rfl

/-- Each point with the one ahead. -/
def chainL (p : Pt) : List Pt → List (Pt × Pt)
  | [] => []
  | q :: qs => (p, q) :: chainL q qs
def lastPt (ps : List Pt) : Pt := ps.getLast?.getD ⟨0, 0⟩
/-- The sides as the program has them: the last point is joined with the first. -/
def sidesL (ps : List Pt) : List (Pt × Pt) := chainL (lastPt ps) ps
/-- Two floats as a value. -/
def sdv (s : Pt × Pt) : Value × Value := (.complex .f64 (fb s.1.X) (fb s.1.Y), .complex .f64 (fb s.2.X) (fb s.2.Y))
theorem chainL_length (p : Pt) (qs : List Pt) : (chainL p qs).length = qs.length := by
  induction qs generalizing p with
  | nil => rfl
  | cons q qs ih => simp [chainL, ih]
theorem chainL_at {p : Pt} {qs : List Pt} {i : Nat} {r q : Pt} (h1 : qs[i]? = some q) (h2 : (p :: qs)[i]? = some r) : (chainL p qs)[i]? = some (r, q) := by
  induction qs generalizing p i with
  | nil => simp at h1
  | cons a qs ih =>
    cases i with
    | zero =>
      simp only [List.getElem?_cons_zero, Option.some.injEq] at h1 h2
      subst h1 h2
      rfl
    | succ i =>
      rw [List.getElem?_cons_succ] at h1 h2
      rw [chainL, List.getElem?_cons_succ]
      exact ih h1 h2
theorem chainL_mem {p : Pt} {qs : List Pt} {s : Pt × Pt} (h : s ∈ chainL p qs) : (s.1 = p ∨ s.1 ∈ qs) ∧ s.2 ∈ qs := by
  induction qs generalizing p with
  | nil => simp [chainL] at h
  | cons a qs ih =>
    rw [chainL, List.mem_cons] at h
    rcases h with rfl | h
    · exact ⟨.inl rfl, List.mem_cons_self⟩
    · obtain ⟨h1, h2⟩ := ih h
      refine ⟨.inr ?_, List.mem_cons_of_mem _ h2⟩
      rcases h1 with h1 | h1
      · rw [h1]; exact List.mem_cons_self
      · exact List.mem_cons_of_mem _ h1
theorem last_at {ps : List Pt} {n : Nat} (h : ps.length = n) (hn : 0 < n) : ps[n - 1]? = some (lastPt ps) := by
  subst h
  unfold lastPt
  rw [List.getLast?_eq_getElem?]
  rw [List.getElem?_eq_getElem (by omega)]
  rfl
theorem last_near {ps : List Pt} (h : ps.all near = true) (hn : 0 < ps.length) : near (lastPt ps) = true := by
  have := last_at (ps := ps) rfl hn
  exact List.all_eq_true.1 h _ (List.mem_of_getElem? this)
theorem sides_near {ps : List Pt} (h : ps.all near = true) (hn : 0 < ps.length) {s : Pt × Pt} (hs : s ∈ sidesL ps) : near s.1 = true ∧ near s.2 = true := by
  have k := chainL_mem hs
  have hl := last_near h hn
  refine ⟨?_, List.all_eq_true.1 h _ k.2⟩
  rcases k.1 with e | e
  · rw [e]; exact hl
  · exact List.all_eq_true.1 h _ e

/-- What sidesOf tells: the sides, in memory of its own. -/
def Sides (w : World) (ps : List Pt) (e : Ending) (w' : World) : Prop :=
  ∃ g, e = .returned (.slice (some ⟨g, 0, none⟩) ps.length ps.length) ∧ w.heap.size ≤ g ∧ Row2 w' g ps.length ps.length 57 ((sidesL ps).map sdv) ∧ Below w.heap.size w w'

set_option maxHeartbeats 1600000 in
theorem sides_any (w : World) (a : Option Addr) (n c : Nat) (ps : List Pt) (h : Pts w a n ps) (h0 : 1 ≤ n) (hn : n ≤ 256) :
    Calls Try.prog 25 #[.slice a n c] w (Sides w ps) := by
  obtain ⟨k, hk⟩ : ∃ k, k = n - 1 := ⟨_, rfl⟩
  obtain ⟨b, off, l, rfl, hl, _, c0, c1⟩ := h.at (i := k) (by omega)
  have hll : lastPt ps = l := by
    have := last_at h.1 (by omega)
    rw [← hk, hl] at this
    exact (Option.some.inj this).symm
  have hbl : b < w.heap.size := World.block_lt_of_cell? w _ c0
  have hmk := run_make_sides n hn
  have hb0 : Below w.heap.size w (w.alloc (.cells (madeCells #[.complex .f64 0 0, .complex .f64 0 0] (n * 2)) 57)) := (Below.refl _ _).alloc (Nat.le_refl _) _
  have HP := Lib.hid h
  have HB0 := Lib.hid hb0
  have HR0 := Lib.hid (row2_start w #[.complex .f64 0 0, .complex .f64 0 0] n 57 ((sidesL ps).map sdv))
  have d0 : (w.alloc (.cells (madeCells #[.complex .f64 0 0, .complex .f64 0 0] (n * 2)) 57)).cell? ⟨b, off + k * 2, none⟩ = some (.int .i64 l.X) := (World.cell?_of_block (w := w) (hb0.block b hbl)).trans c0
  have d1 : (w.alloc (.cells (madeCells #[.complex .f64 0 0, .complex .f64 0 0] (n * 2)) 57)).cell? ⟨b, off + k * 2 + 1, none⟩ = some (.int .i64 l.Y) := (World.cell?_of_block (w := w) (hb0.block b hbl)).trans c1
  have hk1 : IntKind.i64.wrap ((n : Int) - 1) = (k : Int) := by rw [wrap_i64 _ (by omega) (by omega)]; omega
  have hkk : k < n := by omega
  have HL := Lib.hid hll
  clear h hb0 c0 c1 hl hll hk
  go_enter Try.func25, Try.ntmps25
  go_wp2_with fail
  generalize w.alloc (.cells (madeCells #[.complex .f64 0 0, .complex .f64 0 0] (n * 2)) 57) = w1 at *
  refine (number_any w1 l).mono ?_
  rintro e w2 ⟨rfl, h2⟩
  have HB2 := Lib.hid (show Below w.heap.size w w2 by rw [h2]; exact HB0.out.alloc HB0.out.size _)
  have HR2 := Lib.hid (show Row2 w2 w.heap.size n 0 57 ((sidesL ps).map sdv) by rw [h2]; exact HR0.out.below ((Below.refl _ _).alloc (Nat.le_refl _) _))
  clear h2 HB0 HR0 d0 d1 hmk hk1 hkk
  go_wp2_with fail
  go_loopw [4, 20] (fun v cnt wr => ∃ (i : Nat) (r : Pt), i ≤ n ∧ cnt = .int .i64 i ∧ v = .complex .f64 (fb r.X) (fb r.Y) ∧ (lastPt ps :: ps)[i]? = some r ∧ Row2 wr w.heap.size n i 57 ((sidesL ps).map sdv) ∧ Below w.heap.size w wr) (fun _ cnt _ => n - (intOf cnt).toNat)
  case atStart => exact ⟨0, l, Nat.zero_le _, rfl, rfl, by rw [HL.out]; rfl, HR2.out, HB2.out⟩
  case round =>
    clear HR2 HB2
    obtain ⟨i, r, hi, rfl, rfl, hr, hrow, hb⟩ := hrel
    by_cases hlt : i < n
    · obtain ⟨b', off', p, hbb, hp, hfit, c0, c1⟩ := (HP.out.below hb).at hlt
      cases hbb
      have hsd : ((sidesL ps).map sdv)[i]? = some (Value.complex .f64 (fb r.X) (fb r.Y), Value.complex .f64 (fb p.X) (fb p.Y)) := by
        rw [List.getElem?_map]
        unfold sidesL
        rw [chainL_at hp hr]; rfl
      have HPP := Lib.hid hp
      have hb1 : Below w.heap.size w (wr.alloc (.cells #[.int .i64 p.X, .int .i64 p.Y] 37)) := hb.alloc hb.size _
      have hb2 : Below wr.heap.size wr ((wr.alloc (.cells #[.int .i64 p.X, .int .i64 p.Y] 37)).alloc (.cells #[.int .i64 p.X, .int .i64 p.Y] 37)) := ((Below.refl _ _).alloc (Nat.le_refl _) _).alloc (by simp) _
      have hrow2 := hrow.below hb2
      have hb3 : Below w.heap.size w ((wr.alloc (.cells #[.int .i64 p.X, .int .i64 p.Y] 37)).alloc (.cells #[.int .i64 p.X, .int .i64 p.Y] 37)) := hb1.alloc hb1.size _
      have CN := Lib.hid (number_any (wr.alloc (.cells #[.int .i64 p.X, .int .i64 p.Y] 37)) p)
      have X := Lib.hid (show ∀ W, W = (wr.alloc (.cells #[.int .i64 p.X, .int .i64 p.Y] 37)).alloc (.cells #[.int .i64 p.X, .int .i64 p.Y] 37) → Row2 W w.heap.size n i 57 ((sidesL ps).map sdv) ∧ Below w.heap.size w W from fun W e => by subst e; exact ⟨hrow2, hb3⟩)
      have HSD := Lib.hid hsd
      clear hb1 hb2 hb3 hrow2 hrow hb hp hfit hsd hr
      go_wp2_with fail
      refine CN.out.mono ?_
      rintro e w3 ⟨rfl, h3⟩
      have Y := Lib.hid (X.out w3 h3)
      clear h3 X CN c0 c1
      obtain ⟨v0, x0, y0⟩ := Y.out.1.spot (k := i * 2) (by omega)
      obtain ⟨v1, x1, y1⟩ := Y.out.1.spot (k := i * 2 + 1) (by omega)
      have hst := store_complex
      go_wp2_with fail
      go_roundw
      case rel =>
        refine ⟨i + 1, p, hlt, by go_num, rfl, by rw [List.getElem?_cons_succ]; exact HPP.out, ?_, ?_⟩
        · exact Y.out.1.put hlt HSD.out
        · exact below_set2 Y.out.2 (Nat.le_refl _) _ _
      case measure => simp [intOf]; omega
    · obtain rfl : i = n := by omega
      have X := Lib.hid (show Sides w ps (.returned (.slice (some ⟨w.heap.size, 0, none⟩) i i)) wr by
        refine ⟨_, by rw [HP.out.1], Nat.le_refl _, ?_, hb⟩
        rw [HP.out.1]; exact hrow)
      clear hrow hb hr
      go_wp2_with fail
      go_ret
      exact X.out
end Go.Proofs.Ytboocllckolmgaa
