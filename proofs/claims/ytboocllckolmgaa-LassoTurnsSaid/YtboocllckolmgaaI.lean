/- Box. -/
import Derived.Test.YtboocllckolmgaaP
namespace Go.Proofs.Ytboocllckolmgaa
open Go.RowKit
set_option linter.unusedVariables false

theorem results_tmp5 {fn : Func} {t u v x y : Tmp} (h : fn.results = #[.tmp t, .tmp u, .tmp v, .tmp x, .tmp y]) (tmps : Array Value) (P : Program) (w : World) :
    (results fn tmps).run P w = .ok (.tuple #[tmps.getD t undef, tmps.getD u undef, tmps.getD v undef, tmps.getD x undef, tmps.getD y undef]) w := by
  simp [results, h]
/-- Five numbers, and the old memory as it was. -/
def Says5 (x y dx dy c : Int) (w : World) (e : Ending) (w' : World) : Prop := e = .returned (.tuple #[.int .i64 x, .int .i64 y, .int .i64 dx, .int .i64 dy, .int .i64 c]) ∧ Below w.heap.size w w'

set_option maxHeartbeats 1600000 in
theorem box_no (w : World) (a : Option Addr) (n c : Nat) (ps : List Pt) (h : Pts w a n ps) (hn : n ≤ 33554432) (hs : shape ps = false) : Calls Try.prog 22 #[.slice a n c] w (Says5 0 0 0 0 31 w) := by
  have C := Lib.hid (shape_any w a n c ps h hn)
  rw [hs] at C
  clear h hs
  go_enter Try.func22, Try.ntmps22
  go_wp2_with fail
  refine C.out.mono ?_
  rintro e w1 ⟨rfl, hb⟩
  have HB := Lib.hid hb
  clear hb C
  go_wp2_with fail
  refine bodyPost_ret (results_tmp5 rfl _ _ _) rfl ?_
  exact ⟨rfl, HB.out⟩

/-- The least and greatest numbers of points. -/
structure Bnd (ps : List Pt) (lx ly mx my : Int) : Prop where
  all : ∀ p ∈ ps, (lx ≤ p.X ∧ p.X ≤ mx) ∧ (ly ≤ p.Y ∧ p.Y ≤ my)
  left : ∃ p ∈ ps, p.X = lx
  top : ∃ p ∈ ps, p.Y = ly
  right : ∃ p ∈ ps, p.X = mx
  low : ∃ p ∈ ps, p.Y = my
theorem Bnd.one (p : Pt) : Bnd [p] p.X p.Y p.X p.Y :=
  ⟨fun q hq => by rw [List.mem_singleton] at hq; subst hq; exact ⟨⟨Int.le_refl _, Int.le_refl _⟩, ⟨Int.le_refl _, Int.le_refl _⟩⟩, ⟨p, List.mem_singleton_self _, rfl⟩, ⟨p, List.mem_singleton_self _, rfl⟩, ⟨p, List.mem_singleton_self _, rfl⟩, ⟨p, List.mem_singleton_self _, rfl⟩⟩
theorem Bnd.more {ps : List Pt} {lx ly mx my l2 k2 m2 n2 : Int} (h : Bnd ps lx ly mx my) (p : Pt) (h1 : (if p.X < lx then p.X else lx) = l2) (h2 : (if p.Y < ly then p.Y else ly) = k2) (h3 : (if mx < p.X then p.X else mx) = m2) (h4 : (if my < p.Y then p.Y else my) = n2) : Bnd (ps ++ [p]) l2 k2 m2 n2 := by
  have old : ∀ {P : Pt → Prop}, (∃ q ∈ ps, P q) → ∃ q ∈ ps ++ [p], P q := fun ⟨q, hq, hp⟩ => ⟨q, List.mem_append_left _ hq, hp⟩
  have new : ∀ {P : Pt → Prop}, P p → ∃ q ∈ ps ++ [p], P q := fun hp => ⟨p, List.mem_append_right _ (List.mem_singleton_self _), hp⟩
  refine ⟨fun q hq => ?_, ?_, ?_, ?_, ?_⟩
  · rw [List.mem_append, List.mem_singleton] at hq
    rcases hq with hq | rfl
    · have k := h.all q hq
      split at h1 <;> split at h2 <;> split at h3 <;> split at h4 <;> omega
    · split at h1 <;> split at h2 <;> split at h3 <;> split at h4 <;> omega
  · split at h1
    · exact new h1
    · rw [← h1]; exact old h.left
  · split at h2
    · exact new h2
    · rw [← h2]; exact old h.top
  · split at h3
    · exact new h3
    · rw [← h3]; exact old h.right
  · split at h4
    · exact new h4
    · rw [← h4]; exact old h.low
theorem Bnd.same {ps qs : List Pt} {lx ly mx my : Int} (h : Bnd ps lx ly mx my) (hm : ∀ p, p ∈ ps ↔ p ∈ qs) : Bnd qs lx ly mx my := by
  have k : ∀ {P : Pt → Prop}, (∃ q ∈ ps, P q) → ∃ q ∈ qs, P q := fun ⟨q, hq, hp⟩ => ⟨q, (hm q).1 hq, hp⟩
  exact ⟨fun p hp => h.all p ((hm p).2 hp), k h.left, k h.top, k h.right, k h.low⟩

/-- A box of two numbers of the call's own. -/
def Box2 (w : World) (A : Nat) (x y : Int) : Prop := w.heap[A]? = some (.cells #[.int .i64 x, .int .i64 y] 37 (0, 0))
theorem Box2.cells {w : World} {A : Nat} {x y : Int} (h : Box2 w A x y) : (w.cell? ⟨A, 0, none⟩ = some (.int .i64 x) ∧ w.cell? ⟨A, 1, none⟩ = some (.int .i64 y)) ∧ (w.frozen? ⟨A, 0, none⟩ = false ∧ w.frozen? ⟨A, 1, none⟩ = false) := by
  unfold Box2 at h
  exact ⟨⟨by simp [World.cell?, h], by simp [World.cell?, h]⟩, by simp [World.frozen?, h], by simp [World.frozen?, h]⟩
theorem Box2.below {w w' : World} {A : Nat} {x y : Int} (h : Box2 w A x y) (hb : Below w.heap.size w w') : Box2 w' A x y := (hb.block A (lt_of_block h)).trans h
theorem Box2.set {w : World} {A : Nat} {x y : Int} (h : Box2 w A x y) (u v : Int) : Box2 ((w.setCell ⟨A, 0, none⟩ (.int .i64 u)).setCell ⟨A, 1, none⟩ (.int .i64 v)) A u v := by
  have := block_set (block_set (show w.heap[A]? = some (.cells #[.int .i64 x, .int .i64 y] 37 (0, 0)) from h) (i := 0) (.int .i64 u)) (i := 1) (.int .i64 v)
  unfold Box2
  simpa using this
theorem Box2.set_other {w : World} {A B : Nat} {x y : Int} (h : Box2 w A x y) (hAB : A ≠ B) (u v : Value) : Box2 ((w.setCell ⟨B, 0, none⟩ u).setCell ⟨B, 1, none⟩ v) A x y :=
  (Below.heap_setCell _ _ _ _ (by simpa using hAB)).trans ((Below.heap_setCell _ _ _ _ (by simpa using hAB)).trans h)
/-- The two boxes of the loop. -/
structure TwoB (w : World) (A B : Nat) (lx ly mx my : Int) (w' : World) : Prop where
  one : Box2 w' A lx ly
  two : Box2 w' B mx my
  old : Below w.heap.size w w'
theorem TwoB.below {w w1 w2 : World} {A B : Nat} {lx ly mx my : Int} (h : TwoB w A B lx ly mx my w1) (hb : Below w1.heap.size w1 w2) : TwoB w A B lx ly mx my w2 :=
  ⟨h.one.below hb, h.two.below hb, below_more h.old hb (Nat.le_refl _)⟩
theorem two_set {w w' : World} {A B : Nat} {lx ly mx my : Int} (h : TwoB w A B lx ly mx my w') (hAB : A ≠ B) (hA : w.heap.size ≤ A) (hB : w.heap.size ≤ B) {a b c d : Int} :
    TwoB w A B a b c d ((((w'.setCell ⟨A, 0, none⟩ (.int .i64 a)).setCell ⟨A, 1, none⟩ (.int .i64 b)).setCell ⟨B, 0, none⟩ (.int .i64 c)).setCell ⟨B, 1, none⟩ (.int .i64 d)) :=
  ⟨(h.one.set a b).set_other hAB _ _, (h.two.set_other hAB.symm _ _).set c d, below_set2 (below_set2 h.old hA _ _) hB _ _⟩
theorem Bnd.near {ps : List Pt} {lx ly mx my : Int} (h : Bnd ps lx ly mx my) (hn : ps.all near = true) : (-1048576 ≤ lx ∧ lx ≤ 1048576) ∧ (-1048576 ≤ ly ∧ ly ≤ 1048576) ∧ (-1048576 ≤ mx ∧ mx ≤ 1048576) ∧ (-1048576 ≤ my ∧ my ≤ 1048576) := by
  have k : ∀ p ∈ ps, _ := fun p hp => near_iff.1 (List.all_eq_true.1 hn p hp)
  obtain ⟨p, hp, e1⟩ := h.left
  obtain ⟨q, hq, e2⟩ := h.top
  obtain ⟨r, hr, e3⟩ := h.right
  obtain ⟨s, hs, e4⟩ := h.low
  have k1 := k p hp
  have k2 := k q hq
  have k3 := k r hr
  have k4 := k s hs
  omega
theorem two_new (w : World) (x y : Int) : (Box2 ((w.alloc (.cells #[.int .i64 x, .int .i64 y] 37)).alloc (.cells #[.int .i64 x, .int .i64 y] 37)).drew w.heap.size x y ∧ Box2 ((w.alloc (.cells #[.int .i64 x, .int .i64 y] 37)).alloc (.cells #[.int .i64 x, .int .i64 y] 37)).drew (w.heap.size + 1) x y) ∧ Below w.heap.size w ((w.alloc (.cells #[.int .i64 x, .int .i64 y] 37)).alloc (.cells #[.int .i64 x, .int .i64 y] 37)).drew := by
  have h1 : Box2 (w.alloc (.cells #[.int .i64 x, .int .i64 y] 37)) w.heap.size x y := heap_alloc_new _ _
  have h2 : Box2 ((w.alloc (.cells #[.int .i64 x, .int .i64 y] 37)).alloc (.cells #[.int .i64 x, .int .i64 y] 37)) (w.heap.size + 1) x y := by
    have := heap_alloc_new (w.alloc (.cells #[.int .i64 x, .int .i64 y] 37)) (.cells #[.int .i64 x, .int .i64 y] 37)
    unfold Box2
    simpa using this
  have b2 : Below (w.alloc (.cells #[.int .i64 x, .int .i64 y] 37)).heap.size (w.alloc (.cells #[.int .i64 x, .int .i64 y] 37)) ((w.alloc (.cells #[.int .i64 x, .int .i64 y] 37)).alloc (.cells #[.int .i64 x, .int .i64 y] 37)) := (Below.refl _ _).alloc (Nat.le_refl _) _
  have b1 : Below w.heap.size w (w.alloc (.cells #[.int .i64 x, .int .i64 y] 37)) := (Below.refl _ _).alloc (Nat.le_refl _) _
  have b3 := below_more b1 b2 (Nat.le_refl _)
  exact ⟨⟨show Box2 _ _ _ _ from (h1.below b2 : Box2 ((w.alloc (.cells #[.int .i64 x, .int .i64 y] 37)).alloc (.cells #[.int .i64 x, .int .i64 y] 37)) w.heap.size x y), h2⟩, ⟨b3.os, b3.tape, b3.output, b3.size, b3.block⟩⟩

/-- What Box tells of a shape. -/
def BoxSays (w : World) (ps : List Pt) (e : Ending) (w' : World) : Prop :=
  ∃ lx ly mx my, Bnd ps lx ly mx my ∧ Says5 lx ly (mx - lx) (my - ly) 0 w e w'

set_option maxHeartbeats 6400000 in
theorem box_yes (w : World) (a : Option Addr) (n c : Nat) (ps : List Pt) (h : Pts w a n ps) (hs : shape ps = true) : Calls Try.prog 22 #[.slice a n c] w (BoxSays w ps) := by
  obtain ⟨l1, l2, l3⟩ := shape_len hs
  have hl := h.1
  have C := Lib.hid (shape_any w a n c ps h (by omega))
  rw [hs] at C
  have HP := Lib.hid h
  have HN := Lib.hid l3
  have hn1 : 1 ≤ n := by omega
  have hn2 : n ≤ 256 := by omega
  clear h hs l1 l2 l3 hl
  go_enter Try.func22, Try.ntmps22
  go_wp2_with fail
  refine C.out.mono ?_
  rintro e w1 ⟨rfl, hb⟩
  obtain ⟨b, off, p0, rfl, hp0, _, c0, c1⟩ := (HP.out.below hb).at (i := 0) (by omega)
  rw [Nat.zero_mul, Nat.add_zero] at c0 c1
  have H1 := Lib.hid (And.intro (HP.out.below hb) hb)
  have u0 : (0 : Int) < (n : Int) := by omega
  have hbl : b < w1.heap.size := World.block_lt_of_cell? w1 _ c0
  have HP0 := Lib.hid hp0
  have TW := Lib.hid (two_new w1 p0.X p0.Y)
  clear hb C hp0 HP
  go_wp2_with fail
  go_region
  · obtain ⟨A, B, hA, hB⟩ : ∃ A B, A = w1.heap.size ∧ B = w1.heap.size + 1 := ⟨_, _, rfl, rfl⟩
    obtain ⟨Z, hZ⟩ : ∃ Z, Z = ((w1.alloc (.cells #[.int .i64 p0.X, .int .i64 p0.Y] 37)).alloc (.cells #[.int .i64 p0.X, .int .i64 p0.Y] 37)).drew := ⟨_, rfl⟩
    have TB := Lib.hid (show TwoB w1 A B p0.X p0.Y p0.X p0.Y Z ∧ A ≠ B ∧ w1.heap.size ≤ A ∧ w1.heap.size ≤ B by
      have t := TW.out
      rw [← hZ] at t
      refine ⟨⟨?_, ?_, t.2⟩, by omega, by omega, by omega⟩
      · rw [hA]; exact t.1.1
      · rw [hB]; exact t.1.2)
    rw [← hZ, ← hB, ← hA]
    clear hA hB hZ TW
    have hAB := TB.out.2.1
    go_wp2_with fail
    go_loopw [22] (fun cnt wr => ∃ (i : Nat) (lx ly mx my : Int), i ≤ n ∧ cnt = .int .i64 i ∧ TwoB w1 A B lx ly mx my wr ∧ Bnd (p0 :: ps.take i) lx ly mx my) (fun cnt _ => n - (intOf cnt).toNat)
    case atStart => exact ⟨0, p0.X, p0.Y, p0.X, p0.Y, Nat.zero_le _, rfl, TB.out.1, Bnd.one p0⟩
    case round =>
      obtain ⟨i, lx, ly, mx, my, hi, rfl, ht, hbn⟩ := hrel
      by_cases hlt : i < n
      · obtain ⟨b', off', p, he, hp, _, d0, d1⟩ := (H1.out.1.below ht.old).at hlt
        cases he
        obtain ⟨l2, m1⟩ : ∃ z, (if p.X < lx then p.X else lx) = z := ⟨_, rfl⟩
        obtain ⟨k2, m2⟩ : ∃ z, (if p.Y < ly then p.Y else ly) = z := ⟨_, rfl⟩
        obtain ⟨q2, m3⟩ : ∃ z, (if mx < p.X then p.X else mx) = z := ⟨_, rfl⟩
        obtain ⟨n2, m4⟩ : ∃ z, (if my < p.Y then p.Y else my) = z := ⟨_, rfl⟩
        have BN := Lib.hid (show Bnd (p0 :: ps.take (i + 1)) l2 k2 q2 n2 by
          have k := hbn.more p m1 m2 m3 m4
          rw [take_more hp]; exact k)
        have ba : Below wr.heap.size wr (wr.alloc (.cells #[.int .i64 p.X, .int .i64 p.Y] 37)) := (Below.refl _ _).alloc (Nat.le_refl _) _
        have hAl := lt_of_block ht.one
        have hBl := lt_of_block ht.two
        have op := one_pt wr p 37
        have T5 := ht.below ba
        have hCA : ¬ wr.heap.size = A := by omega
        have hCB : ¬ wr.heap.size = B := by omega
        have hAC : ¬ A = wr.heap.size := by omega
        have hBC : ¬ B = wr.heap.size := by omega
        have hBA : ¬ B = A := fun e => hAB e.symm
        obtain ⟨⟨x0, x1⟩, x2, x3⟩ := T5.one.cells
        obtain ⟨⟨y0, y1⟩, y2, y3⟩ := T5.two.cells
        have HT5 := Lib.hid T5
        clear ht hbn hp ba op T5 hAl hBl
        go_wp2_with fail
        go_roundw
        case rel => exact ⟨i + 1, l2, k2, q2, n2, hlt, by go_num, two_set HT5.out hAB TB.out.2.2.1 TB.out.2.2.2, BN.out⟩
        case measure => simp [intOf]; omega
      · obtain rfl : i = n := by omega
        rw [List.take_of_length_le (by rw [H1.out.1.1]; exact Nat.le_refl _)] at hbn
        have hb2 := hbn.same (qs := ps) (fun p => by
          constructor
          · intro h
            rcases List.mem_cons.1 h with rfl | h
            · exact List.mem_of_getElem? HP0.out
            · exact h
          · intro h; exact List.mem_cons_of_mem _ h)
        obtain ⟨⟨lx1, lx2⟩, ⟨ly1, ly2⟩, ⟨mx1, mx2⟩, ⟨my1, my2⟩⟩ := hb2.near HN.out
        obtain ⟨⟨x0, x1⟩, x2, x3⟩ := ht.one.cells
        obtain ⟨⟨y0, y1⟩, y2, y3⟩ := ht.two.cells
        have X := Lib.hid (And.intro hb2 (below_more H1.out.2 ht.old (Nat.le_refl _)))
        clear hbn hb2 ht x2 x3 y2 y3
        go_wp2_with fail
        go_quiet (fail)
        go_wp2_with fail
        refine bodyPost_ret (results_tmp5 rfl _ _ _) rfl ?_
        exact ⟨lx, ly, mx, my, X.out.1, rfl, below_drewN X.out.2 _⟩
  · obtain ⟨A, B, hA, hB⟩ : ∃ A B, A = w1.heap.size + 1 ∧ B = w1.heap.size := ⟨_, _, rfl, rfl⟩
    obtain ⟨Z, hZ⟩ : ∃ Z, Z = ((w1.alloc (.cells #[.int .i64 p0.X, .int .i64 p0.Y] 37)).alloc (.cells #[.int .i64 p0.X, .int .i64 p0.Y] 37)).drew := ⟨_, rfl⟩
    have TB := Lib.hid (show TwoB w1 A B p0.X p0.Y p0.X p0.Y Z ∧ A ≠ B ∧ w1.heap.size ≤ A ∧ w1.heap.size ≤ B by
      have t := TW.out
      rw [← hZ] at t
      refine ⟨⟨?_, ?_, t.2⟩, by omega, by omega, by omega⟩
      · rw [hA]; exact t.1.2
      · rw [hB]; exact t.1.1)
    rw [← hZ, ← hA, ← hB]
    clear hA hB hZ TW
    have hAB := TB.out.2.1
    go_wp2_with fail
    go_loopw [22] (fun cnt wr => ∃ (i : Nat) (lx ly mx my : Int), i ≤ n ∧ cnt = .int .i64 i ∧ TwoB w1 A B lx ly mx my wr ∧ Bnd (p0 :: ps.take i) lx ly mx my) (fun cnt _ => n - (intOf cnt).toNat)
    case atStart => exact ⟨0, p0.X, p0.Y, p0.X, p0.Y, Nat.zero_le _, rfl, TB.out.1, Bnd.one p0⟩
    case round =>
      obtain ⟨i, lx, ly, mx, my, hi, rfl, ht, hbn⟩ := hrel
      by_cases hlt : i < n
      · obtain ⟨b', off', p, he, hp, _, d0, d1⟩ := (H1.out.1.below ht.old).at hlt
        cases he
        obtain ⟨l2, m1⟩ : ∃ z, (if p.X < lx then p.X else lx) = z := ⟨_, rfl⟩
        obtain ⟨k2, m2⟩ : ∃ z, (if p.Y < ly then p.Y else ly) = z := ⟨_, rfl⟩
        obtain ⟨q2, m3⟩ : ∃ z, (if mx < p.X then p.X else mx) = z := ⟨_, rfl⟩
        obtain ⟨n2, m4⟩ : ∃ z, (if my < p.Y then p.Y else my) = z := ⟨_, rfl⟩
        have BN := Lib.hid (show Bnd (p0 :: ps.take (i + 1)) l2 k2 q2 n2 by
          have k := hbn.more p m1 m2 m3 m4
          rw [take_more hp]; exact k)
        have ba : Below wr.heap.size wr (wr.alloc (.cells #[.int .i64 p.X, .int .i64 p.Y] 37)) := (Below.refl _ _).alloc (Nat.le_refl _) _
        have hAl := lt_of_block ht.one
        have hBl := lt_of_block ht.two
        have op := one_pt wr p 37
        have T5 := ht.below ba
        have hCA : ¬ wr.heap.size = A := by omega
        have hCB : ¬ wr.heap.size = B := by omega
        have hAC : ¬ A = wr.heap.size := by omega
        have hBC : ¬ B = wr.heap.size := by omega
        have hBA : ¬ B = A := fun e => hAB e.symm
        obtain ⟨⟨x0, x1⟩, x2, x3⟩ := T5.one.cells
        obtain ⟨⟨y0, y1⟩, y2, y3⟩ := T5.two.cells
        have HT5 := Lib.hid T5
        clear ht hbn hp ba op T5 hAl hBl
        go_wp2_with fail
        go_roundw
        case rel => exact ⟨i + 1, l2, k2, q2, n2, hlt, by go_num, two_set HT5.out hAB TB.out.2.2.1 TB.out.2.2.2, BN.out⟩
        case measure => simp [intOf]; omega
      · obtain rfl : i = n := by omega
        rw [List.take_of_length_le (by rw [H1.out.1.1]; exact Nat.le_refl _)] at hbn
        have hb2 := hbn.same (qs := ps) (fun p => by
          constructor
          · intro h
            rcases List.mem_cons.1 h with rfl | h
            · exact List.mem_of_getElem? HP0.out
            · exact h
          · intro h; exact List.mem_cons_of_mem _ h)
        obtain ⟨⟨lx1, lx2⟩, ⟨ly1, ly2⟩, ⟨mx1, mx2⟩, ⟨my1, my2⟩⟩ := hb2.near HN.out
        obtain ⟨⟨x0, x1⟩, x2, x3⟩ := ht.one.cells
        obtain ⟨⟨y0, y1⟩, y2, y3⟩ := ht.two.cells
        have X := Lib.hid (And.intro hb2 (below_more H1.out.2 ht.old (Nat.le_refl _)))
        clear hbn hb2 ht x2 x3 y2 y3
        go_wp2_with fail
        go_quiet (fail)
        go_wp2_with fail
        refine bodyPost_ret (results_tmp5 rfl _ _ _) rfl ?_
        exact ⟨lx, ly, mx, my, X.out.1, rfl, below_drewN X.out.2 _⟩
end Go.Proofs.Ytboocllckolmgaa
