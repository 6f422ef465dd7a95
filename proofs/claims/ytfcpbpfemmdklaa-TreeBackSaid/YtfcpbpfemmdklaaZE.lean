/- Parent, Count, Depth in plain words; the document's example (6). -/
import Derived.Test.YtfcpbpfemmdklaaZD
namespace Go.Proofs.Ytfcpbpfemmdklaa
open Go.RowKit Go.Lib
set_option linter.unusedSimpArgs false
set_option linter.unusedVariables false

def parV (r : Option At') : Value := match r with
  | some r => .tuple #[.int .i64 (pidOf r.C), .int .i64 (r.pre.length : Int), .bool true]
  | none => .tuple #[.int .i64 0, .int .i64 0, .bool false]
theorem parent_any (x y z : Int) (h : Hd) (ls : List Loc) (id : Int) (w : World) (D : DocV w h ls) (hc : pcnt (er ls) ≤ 4096) :
    Calls Try.prog 11 #[docV x y z h, .int .i64 id] w fun e w' => e = .returned (parV (fnd id (er ls))) ∧ Keeps none' w w' := by
  refine (parent11 x y z h ls id w D (by rw [cnt_eq]; omega)).mono ?_
  rintro e w' ⟨R, he, k⟩
  refine ⟨?_, k⟩
  rcases find_doc id R h ls with ⟨a, b⟩ | ⟨C, pre, l, post, h', a1, a2, a3, a4⟩
  · rw [a] at he
    rw [b]
    exact he
  · rw [a1] at he
    rw [a2]
    unfold parV
    simp only [pid_er, er_length]
    exact he
theorem count_doc (x y z : Int) (h : Hd) (ls : List Loc) (w : World) (D : DocV w h ls) (hc : pcnt (er ls) ≤ 4096) :
    Calls Try.prog 14 #[docV x y z h] w fun e w' => e = .returned (.int .i64 (pcnt (er ls) : Int)) ∧ Keeps none' w w' := by
  refine (count14 x y z h ls w D (by rw [cnt_eq]; omega)).mono ?_
  rintro e w' ⟨he, k⟩
  exact ⟨by rw [he, cnt_eq], k⟩
theorem depth_doc (x y z : Int) (h : Hd) (ls : List Loc) (w : World) (D : DocV w h ls) (hc : pcnt (er ls) ≤ 4096) :
    Calls Try.prog 15 #[docV x y z h] w fun e w' => e = .returned (.int .i64 (deepP 0 (er ls) : Int)) ∧ Keeps none' w w' := by
  refine (depth15 x y z h ls w D (by rw [cnt_eq]; omega)).mono ?_
  rintro e w' ⟨R, he, k⟩
  exact ⟨by rw [he, deep_er], k⟩
/-- The example's trees. -/
def x1 : List Lay := [.mk (freshD 1 0 4 4) []]
def x2 : List Lay := [.mk (freshD 2 1 0 0) [], .mk (freshD 1 0 4 4) []]
def x3 : List Lay := [.mk (freshD 2 1 0 0) [.mk (freshD 1 0 4 4) []]]
theorem ax1 : addP 1 [] 0 (-1) 0 4 4 = .ok x1 := by
  simp [addP, areaP, sideP, homeP, plugP, insAt, pcnt, dats, x1]
theorem ax2 : addP 2 x1 0 0 1 0 0 = .ok x2 := by
  simp [addP, areaP, sideP, homeP, plugP, insAt, pcnt, dats, x1, x2]
theorem ax3 : moveP x2 1 2 (-1) = .ok x3 := by
  simp [moveP, homeP, fnd, go, plugP, insAt, x2, x3, freshD, pidOf, heightP, deepP, dps]
theorem ax4 : moveP x3 2 2 0 = .error 42 := by
  simp [moveP, homeP, fnd, go, plugP, insAt, x2, x3, freshD, pidOf, heightP, deepP, dps]
theorem gx0 : Good 1 [] := ⟨by simp [dats], fun d hd => (by rw [dats] at hd; cases hd), by simp [pcnt, dats], by omega⟩
theorem gx1 : Good 2 x1 := (good_add gx0 ax1).1
theorem gx2 : Good 3 x2 := (good_add gx1 ax2).1
theorem gx3 : Good 3 x3 := (good_move gx2 ax3).1
theorem parx3 : parV (fnd 1 x3) = .tuple #[.int .i64 2, .int .i64 0, .bool true] := by
  simp [parV, fnd, go, x3, freshD, pidOf]
theorem nx3 : pcnt x3 = 2 := by simp [pcnt, dats, x3]
theorem dx3 : deepP 0 x3 = 2 := by simp [deepP, dps, x3]
theorem dx2 : deepP 0 x2 = 1 := by simp [deepP, dps, x2]
/-- An edit that adds or moves. -/
def ed (kind id to at_ n w h : Int) : PEd := ⟨kind, id, to, at_, n, 0, 0, 0, w, h, [], [], 0, 0, 0, 0, 0, 0, []⟩
theorem add_ok {x y z : Int} {h : Hd} {ls : List Loc} {ls' : List Lay} (to at_ n ww hh : Int) (w : World) (D : DocV w h ls) (G : Good z (er ls)) (hz : z ≤ 4611686018427387904) (e : addP z (er ls) to at_ n ww hh = .ok ls') :
    Calls Try.prog 8 #[docV x y z h, edV (ed 1 0 to at_ n ww hh) Hd.nil Hd.nil Hd.nil] w fun en w' => ∃ h' lsL, en = .returned (.tuple #[docV x y (z + 1) h', .int .i64 0]) ∧ er lsL = ls' ∧ NewD w.heap.size w' h' lsL ∧ Keeps none' w w' := by
  refine (doAdd x y z h ls (ed 1 0 to at_ n ww hh) Hd.nil Hd.nil Hd.nil w D G hz rfl).mono ?_
  intro en w' hd
  have e' : addP z (er ls) (ed 1 0 to at_ n ww hh).to (ed 1 0 to at_ n ww hh).at_ (ed 1 0 to at_ n ww hh).n (ed 1 0 to at_ n ww hh).w (ed 1 0 to at_ n ww hh).h = .ok ls' := e
  rw [e'] at hd
  exact hd
theorem add_bad {x y z : Int} {h : Hd} {ls : List Loc} {f : Int} (to at_ n ww hh : Int) (w : World) (D : DocV w h ls) (G : Good z (er ls)) (hz : z ≤ 4611686018427387904) (e : addP z (er ls) to at_ n ww hh = .error f) :
    Calls Try.prog 8 #[docV x y z h, edV (ed 1 0 to at_ n ww hh) Hd.nil Hd.nil Hd.nil] w fun en w' => en = .returned (.tuple #[docV 0 0 0 Hd.nil, .int .i64 f]) ∧ Keeps none' w w' := by
  refine (doAdd x y z h ls (ed 1 0 to at_ n ww hh) Hd.nil Hd.nil Hd.nil w D G hz rfl).mono ?_
  intro en w' hd
  have e' : addP z (er ls) (ed 1 0 to at_ n ww hh).to (ed 1 0 to at_ n ww hh).at_ (ed 1 0 to at_ n ww hh).n (ed 1 0 to at_ n ww hh).w (ed 1 0 to at_ n ww hh).h = .error f := e
  rw [e'] at hd
  exact hd
theorem move_ok {x y z : Int} {h : Hd} {ls : List Loc} {ls' : List Lay} (id to at_ : Int) (w : World) (D : DocV w h ls) (G : Good z (er ls)) (e : moveP (er ls) id to at_ = .ok ls') :
    Calls Try.prog 8 #[docV x y z h, edV (ed 3 id to at_ 0 0 0) Hd.nil Hd.nil Hd.nil] w fun en w' => ∃ h' lsL, en = .returned (.tuple #[docV x y z h', .int .i64 0]) ∧ er lsL = ls' ∧ NewD w.heap.size w' h' lsL ∧ Keeps none' w w' := by
  refine (doMove x y z h ls (ed 3 id to at_ 0 0 0) Hd.nil Hd.nil Hd.nil w D G rfl).mono ?_
  intro en w' hd
  have e' : moveP (er ls) (ed 3 id to at_ 0 0 0).id (ed 3 id to at_ 0 0 0).to (ed 3 id to at_ 0 0 0).at_ = .ok ls' := e
  rw [e'] at hd
  exact hd
theorem move_bad {x y z : Int} {h : Hd} {ls : List Loc} {f : Int} (id to at_ : Int) (w : World) (D : DocV w h ls) (G : Good z (er ls)) (e : moveP (er ls) id to at_ = .error f) :
    Calls Try.prog 8 #[docV x y z h, edV (ed 3 id to at_ 0 0 0) Hd.nil Hd.nil Hd.nil] w fun en w' => en = .returned (.tuple #[docV 0 0 0 Hd.nil, .int .i64 f]) ∧ Keeps none' w w' := by
  refine (doMove x y z h ls (ed 3 id to at_ 0 0 0) Hd.nil Hd.nil Hd.nil w D G rfl).mono ?_
  intro en w' hd
  have e' : moveP (er ls) (ed 3 id to at_ 0 0 0).id (ed 3 id to at_ 0 0 0).to (ed 3 id to at_ 0 0 0).at_ = .error f := e
  rw [e'] at hd
  exact hd
theorem doc_nil (w : World) : DocV w Hd.nil [] := ⟨⟨by rw [flat]; exact Cells.nil 19 w, by show 0 ≤ _; omega⟩, by unfold Rep; rw [All]; trivial⟩
/-- A law's end: true, and the old memory as it was. -/
def Yes (w : World) (e : Ending) (w' : World) : Prop := e = .returned (.bool true) ∧ Keeps none' w w'
/-- A document's variable, written over. -/
theorem set_doc {w w3 : World} {A B : Nat} {x y z x' y' z' : Int} {h0 h : Hd} {l : List Loc} (A3 : Dc w3 A x y z h0) (n : NewD B w3 h l) (hAB : A < B) (k : Keeps none' w w3) (hA : w.heap.size ≤ A) :
    Dc ((((w3.setCell ⟨A, 0, none⟩ (.int .i64 x')).setCell ⟨A, 1, none⟩ (.int .i64 y')).setCell ⟨A, 2, none⟩ (.int .i64 z')).setCell ⟨A, 3, none⟩ (.slice h.a h.n h.c)) A x' y' z' h ∧
    NewD B ((((w3.setCell ⟨A, 0, none⟩ (.int .i64 x')).setCell ⟨A, 1, none⟩ (.int .i64 y')).setCell ⟨A, 2, none⟩ (.int .i64 z')).setCell ⟨A, 3, none⟩ (.slice h.a h.n h.c)) h l ∧
    Keeps none' w ((((w3.setCell ⟨A, 0, none⟩ (.int .i64 x')).setCell ⟨A, 1, none⟩ (.int .i64 y')).setCell ⟨A, 2, none⟩ (.int .i64 z')).setCell ⟨A, 3, none⟩ (.slice h.a h.n h.c)) :=
  ⟨four_set A3 _ _ _ _, n.keep (keeps_at4 w3 A _ _ _ _) (fun b hb e => by have e' : b = A := e; have := (n.range b hb).1; omega), keeps_set4 k hA _ _ _ _⟩
set_option maxRecDepth 100000 in
set_option maxHeartbeats 3200000 in
/-- The document's example. -/
theorem anchor6 (w : World) : Calls Try.prog 6 #[] w (Yes w) := by
  have N1 := new7 4 4 w
  rw [show areaP 4 4 = true from by decide, if_pos rfl] at N1
  simp only [docV, Hd.nil] at N1
  have HN := Lib.hid N1
  clear N1
  go_enter Try.func6, Try.ntmps6
  go_upto_region 4 with ((with_reducible refine HN.out.mono ?_); rintro en w1 ⟨rfl, hk⟩; have K1 := Lib.hid hk; clear hk)
  have ka := (Keeps.refl none' w1).alloc (.cells #[.int .i64 4, .int .i64 4, .int .i64 1, .slice none 0 0] 25)
  have A2 := Lib.hid (Dc.new w1 4 4 1 Hd.nil)
  have K2 := Lib.hid (K1.out.next ka)
  have AW := Lib.hid K1.out.size
  unfold Hd.nil at A2
  obtain ⟨A, hA⟩ : ∃ A, A = w1.heap.size := ⟨_, rfl⟩
  rw [← hA] at A2 AW
  rw [← hA]
  clear hA ka HN
  generalize w1.alloc (.cells #[.int .i64 4, .int .i64 4, .int .i64 1, .slice none 0 0] 25) = w2 at *
  have c0 := A2.out.c0
  have c1 := A2.out.c1
  have c2 := A2.out.c2
  have c3 := A2.out.c3
  have d1 := add_ok (x := 4) (y := 4) 0 (-1) 0 4 4 w2 (doc_nil w2) (by rw [er]; exact gx0) (by omega) (by rw [er]; exact ax1)
  simp only [docV, edV, edCells, ed, Hd.nil] at d1
  have D1 := Lib.hid d1
  clear d1
  have AB := Lib.hid A2.out.lt
  go_upto_region 5 with ((with_reducible refine D1.out.mono ?_); rintro en w3 ⟨h1, l1, rfl, e1, n1, hk⟩; have K3 := Lib.hid (K2.out.next hk); have E1 := Lib.hid e1; have N1 := Lib.hid n1; have A3 := Lib.hid (A2.out.later hk); obtain ⟨⟨b0, b1, b2, b3⟩, bf⟩ := four_cells A3.out; have f0 := bf 0; have f1 := bf 1; have f2 := bf 2; have f3 := bf 3; clear hk e1 n1 bf)
  obtain ⟨q1, q2, q3⟩ := set_doc (x' := 4) (y' := 4) (z' := 2) A3.out N1.out AB.out K3.out AW.out
  have A4 := Lib.hid q1
  have N4 := Lib.hid q2
  have K4 := Lib.hid q3
  clear q1 q2 q3 c0 c1 c2 c3 b0 b1 b2 b3 f0 f1 f2 f3 A2 A3 N1 K1 K2 K3 D1
  generalize (((w3.setCell ⟨A, 0, none⟩ (.int .i64 4)).setCell ⟨A, 1, none⟩ (.int .i64 4)).setCell ⟨A, 2, none⟩ (.int .i64 2)).setCell ⟨A, 3, none⟩ (.slice h1.a h1.n h1.c) = w4 at *
  have c0 := A4.out.c0
  have c1 := A4.out.c1
  have c2 := A4.out.c2
  have c3 := A4.out.c3
  have d1 := add_ok (x := 4) (y := 4) 0 0 1 0 0 w4 N4.out.docV (by rw [E1.out]; exact gx1) (by omega) (by rw [E1.out]; exact ax2)
  simp only [docV, edV, edCells, ed, Hd.nil] at d1
  have D1 := Lib.hid d1
  have AB4 := Lib.hid A4.out.lt
  clear d1
  go_upto_region 6 with ((with_reducible refine D1.out.mono ?_); rintro en w5 ⟨h2, l2, rfl, e1, n1, hk⟩; have K5 := Lib.hid (K4.out.next hk); have E2 := Lib.hid e1; have N2 := Lib.hid n1; have A5 := Lib.hid (A4.out.later hk); obtain ⟨⟨b0, b1, b2, b3⟩, bf⟩ := four_cells A5.out; have f0 := bf 0; have f1 := bf 1; have f2 := bf 2; have f3 := bf 3; clear hk e1 n1 bf)
  obtain ⟨q1, q2, q3⟩ := set_doc (x' := 4) (y' := 4) (z' := 3) A5.out N2.out AB4.out K5.out AW.out
  have A6 := Lib.hid q1
  have N6 := Lib.hid q2
  have K6 := Lib.hid q3
  clear q1 q2 q3 c0 c1 c2 c3 b0 b1 b2 b3 f0 f1 f2 f3 A4 A5 N2 N4 K4 K5 D1 E1
  generalize (((w5.setCell ⟨A, 0, none⟩ (.int .i64 4)).setCell ⟨A, 1, none⟩ (.int .i64 4)).setCell ⟨A, 2, none⟩ (.int .i64 3)).setCell ⟨A, 3, none⟩ (.slice h2.a h2.n h2.c) = w6 at *
  have c0 := A6.out.c0
  have c1 := A6.out.c1
  have c2 := A6.out.c2
  have c3 := A6.out.c3
  have d1 := move_ok (x := 4) (y := 4) 1 2 (-1) w6 N6.out.docV (by rw [E2.out]; exact gx2) (by rw [E2.out]; exact ax3)
  simp only [docV, edV, edCells, ed, Hd.nil] at d1
  have D1 := Lib.hid d1
  clear d1
  go_upto_region 7 with ((with_reducible refine D1.out.mono ?_); rintro en w7 ⟨h3, l3, rfl, e1, n1, hk⟩; have K7 := Lib.hid (K6.out.next hk); have E3 := Lib.hid e1; have N3 := Lib.hid n1; have A7 := Lib.hid (A6.out.later hk); have N67 := Lib.hid (N6.out.later hk); clear hk e1 n1)
  have ka := (Keeps.refl none' w7).alloc (.cells #[.int .i64 4, .int .i64 4, .int .i64 3, .slice h3.a h3.n h3.c] 25)
  have B8 := Lib.hid (Dc.new w7 4 4 3 h3)
  have A8 := Lib.hid (A7.out.later ka)
  have N8 := Lib.hid (N3.out.later ka)
  have M8 := Lib.hid (N67.out.later ka)
  have K8 := Lib.hid (K7.out.next ka)
  obtain ⟨B, hB⟩ : ∃ B, B = w7.heap.size := ⟨_, rfl⟩
  rw [← hB] at B8
  rw [← hB]
  clear hB ka c0 c1 c2 c3 A6 A7 N3 N6 N67 K6 K7 D1
  generalize w7.alloc (.cells #[.int .i64 4, .int .i64 4, .int .i64 3, .slice h3.a h3.n h3.c] 25) = w8 at *
  have c0 := B8.out.c0
  have c1 := B8.out.c1
  have c2 := B8.out.c2
  have c3 := B8.out.c3
  have d1 := move_bad (x := 4) (y := 4) 2 2 0 w8 N8.out.docV (by rw [E3.out]; exact gx3) (by rw [E3.out]; exact ax4)
  simp only [docV, edV, edCells, ed, Hd.nil] at d1
  have D1 := Lib.hid d1
  clear d1
  go_upto_region 8 with ((with_reducible refine D1.out.mono ?_); rintro en w9 ⟨rfl, hk⟩; have H9 := Lib.hid hk; clear hk)
  have k9 := H9.out.next ((Keeps.refl none' w9).alloc (.cells #[.int .i64 0, .int .i64 0, .int .i64 0, .slice none 0 0] 25))
  have B10 := Lib.hid (B8.out.later k9)
  have A10 := Lib.hid (A8.out.later k9)
  have N10 := Lib.hid (N8.out.later k9)
  have M10 := Lib.hid (M8.out.later k9)
  have K10 := Lib.hid (K8.out.next k9)
  clear k9 c0 c1 c2 c3 H9 A8 B8 N8 M8 K8 D1
  generalize w9.alloc (.cells #[.int .i64 0, .int .i64 0, .int .i64 0, .slice none 0 0] 25) = w10 at *
  have c0 := B10.out.c0
  have c1 := B10.out.c1
  have c2 := B10.out.c2
  have c3 := B10.out.c3
  have d1 := parent_any 4 4 3 h3 l3 1 w10 N10.out.docV (by rw [E3.out, nx3]; omega)
  rw [E3.out, parx3] at d1
  simp only [docV] at d1
  have D1 := Lib.hid d1
  have d2 := fun w' (k : Keeps none' w10 w') => count_doc 4 4 3 h3 l3 w' (N10.out.later k).docV (by rw [E3.out, nx3]; omega)
  simp only [E3.out, nx3, docV] at d2
  have D2 := Lib.hid d2
  have d3 := fun w' (k : Keeps none' w10 w') => depth_doc 4 4 3 h3 l3 w' (N10.out.later k).docV (by rw [E3.out, nx3]; omega)
  simp only [E3.out, dx3, docV] at d3
  have D3 := Lib.hid d3
  have d4 := fun w' (k : Keeps none' w10 w') => depth_doc 4 4 3 h2 l2 w' (M10.out.later k).docV (by rw [E2.out]; exact gx2.cnt)
  simp only [E2.out, dx2, docV] at d4
  have D4 := Lib.hid d4
  clear d1 d2 d3 d4
  go_wp2_with (first
    | ((with_reducible refine D1.out.mono ?_); rintro en w11 ⟨rfl, hk⟩; have H11 := Lib.hid hk; have b0 := hk.cell c0; have b1 := hk.cell c1; have b2 := hk.cell c2; have b3 := hk.cell c3; clear hk)
    | ((with_reducible refine (D2.out w11 H11.out).mono ?_); rintro en w12 ⟨rfl, hk⟩; have H12 := Lib.hid (H11.out.next hk); have x0 := hk.cell b0; have x1 := hk.cell b1; have x2 := hk.cell b2; have x3 := hk.cell b3; clear hk)
    | ((with_reducible refine (D3.out w12 H12.out).mono ?_); rintro en w13 ⟨rfl, hk⟩; have H13 := Lib.hid (H12.out.next hk); have a13 := Lib.hid (A10.out.later (H12.out.next hk)); have y0 := a13.out.c0; have y1 := a13.out.c1; have y2 := a13.out.c2; have y3 := a13.out.c3; clear hk)
    | ((with_reducible refine (D4.out w13 H13.out).mono ?_); rintro en w14 ⟨rfl, hk⟩; have H14 := Lib.hid (H13.out.next hk); clear hk))
  go_ret
  exact ⟨rfl, K10.out.next H14.out⟩
end Go.Proofs.Ytfcpbpfemmdklaa
