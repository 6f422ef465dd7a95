/- Texts of a layer, one behind the other. -/
import Derived.Test.YtfcpbpfemmdklaaGreatMAi
/- A layer taken out of a document; deleting. -/
namespace Go.Proofs.YtfcpbpfemmdklaaGreat.Tr
open Go.RowKit Go.Lib
set_option linter.unusedSimpArgs false
set_option linter.unusedVariables false

abbrev Z67 : Obj := .cells #[.int .i64 0, .pointer none, .int .i64 0, .int .i64 0] 86
theorem mid_at (pre : List Loc) (l : Loc) (post : List Loc) : (pre ++ l :: post)[pre.length]? = some l := by
  rw [List.getElem?_append_right (Nat.le_refl _), Nat.sub_self]
  rfl
/-- The row that a layer stands in. -/
theorem row_some {B : Nat} {w : World} {h : Hd} {pre post : List Loc} {l : Loc} (o : OwnR B w 51 19 h (flat (pre ++ l :: post))) : ∃ g n c, h = ⟨some ⟨g, 0, none⟩, n, c⟩ := by
  have h1 := o.1.1
  rw [flat_length, List.length_append, List.length_cons] at h1
  have hn : 0 < h.n := by
    rcases Nat.eq_zero_or_pos h.n with e | e
    · rw [e] at h1; omega
    · exact e
  obtain ⟨g, c, cur, e, -⟩ := o.some hn
  exact ⟨g, h.n, c, e⟩
theorem take_doc {B : Nat} {w3 : World} {R : Nat} {x y z : Int} {C : List Frm} {g n c : Nat} {pre post : List Loc} {l : Loc} (W : Whole B w3 R x y z (plugH C ⟨some ⟨g, 0, none⟩, n, c⟩) (plugL C ⟨some ⟨g, 0, none⟩, n, c⟩ (pre ++ l :: post))) (hBR : B ≤ R) (id : Int) (dep : Int) :
    Calls Tryz.prog 77 #[.agg #[.int .i64 id, .pointer (some ⟨kbOf R C, koOf C, none⟩), .int .i64 dep, .int .i64 (pre.length : Int)]] w3 fun e w' =>
      e = .returned (.agg l.cells.toArray) ∧ Whole B w' R x y z (plugH C ⟨some ⟨g, 0, none⟩, n - 1, c⟩) (plugL C ⟨some ⟨g, 0, none⟩, n - 1, c⟩ (pre ++ post)) ∧ Own B w' [l] ∧ (blks [l]).Nodup ∧ (∀ b ∈ blks [l], b ≠ R ∧ b ∉ ([g] ++ blks (pre ++ post)) ++ outs C) ∧ Keeps (fun q => B ≤ q) w3 w' ∧ Keeps (fun q => q = g ∨ q = kbOf R C) w3 w' := by
  obtain ⟨a1, a2⟩ := W.at_
  obtain ⟨rowh, ownl, c0⟩ := W.ctx
  have kbm := kb_mem R c0
  have out := W.out'
  have ndo := List.nodup_append.1 W.nd
  have hg : g ∈ (⟨some ⟨g, 0, none⟩, n, c⟩ : Hd).blk := List.mem_singleton.2 rfl
  have hne : kbOf R C ≠ g := by
    intro e
    rcases kbm with e2 | e2
    · exact out (by rw [← e2, e]; exact List.mem_append.2 (.inl (List.mem_append.2 (.inl hg))))
    · exact ndo.2.2 g (List.mem_append.2 (.inl hg)) g (e ▸ e2) rfl
  refine (take_any B id (kbOf R C) (koOf C) dep g n c (pre ++ l :: post) pre.length l w3 ⟨a1, rowh.read.1, ownl.rep⟩ a2 rowh (mid_at pre l post) hne).mono ?_
  rintro e w' ⟨rfl, T⟩
  rw [erase_mid] at T
  obtain ⟨W2, o2, n2, d2⟩ := take_whole W T
  refine ⟨rfl, W2, o2, n2, d2, keeps_weak T.keeps (fun q hq e => ?_), T.keeps⟩
  rcases e with e | e
  · rw [e]; exact (W.lt g (List.mem_append.2 (.inl (List.mem_append.2 (.inl hg))))).1
  · rcases kbm with e2 | e2
    · omega
    · rw [e]; exact (W.lt _ (List.mem_append.2 (.inr e2))).1
theorem Whole.fnd {B : Nat} {w : World} {R : Nat} {x y z : Int} {h : Hd} {ls : List Loc} (W : Whole B w R x y z h ls) (hc : cnt ls ≤ 4096) (id : Int) :
    Calls Tryz.prog 33 #[.agg #[.int .i64 0, .pointer (some ⟨R, 3, none⟩), .int .i64 0], .int .i64 id] w fun e w' => e = .returned (foundV (findP id (sps 0 R 3 0 h.b h.o 0 ls))) ∧ Keeps none' w w' :=
  (find_any 0 R 3 0 h ls id w (W.docV.home W.doc) (by omega)).mono (fun e w' ⟨h1, h2⟩ => ⟨found_eq h1, h2⟩)
set_option maxRecDepth 100000 in
set_option maxHeartbeats 3200000 in
theorem remove31 (B R : Nat) (x y z : Int) (h : Hd) (ls : List Loc) (e : PEd) (p s q : Hd) (w : World) (W : Whole B w R x y z h ls) (G : Good z (er ls)) (hBR : B ≤ R) :
    Calls Tryz.prog 47 #[.pointer (some ⟨R, 0, none⟩), edV e p s q] w fun en w' => Edited B w R x y z (removeP (er ls) e.id) en w' := by
  have HW := Lib.hid W
  have HB := Lib.hid (And.intro hBR (lt_of_block W.doc))
  have HC := Lib.hid (show cnt ls ≤ 4096 from by rw [cnt_eq]; exact G.cnt)
  have E0 := Lib.hid (Eb.new w e p s q)
  have K0 := Lib.hid ((Keeps.refl none' w).alloc (.cells (edCells e p s q).toArray 38))
  clear W G hBR
  unfold edV
  obtain ⟨EV, hEV⟩ : ∃ EV, EV = (edCells e p s q).toArray := ⟨_, rfl⟩
  rw [← hEV]
  rw [← hEV] at E0 K0
  clear hEV
  go_enter Tryz.func47, Tryz.ntmps47
  go_upto_region 1 with (fail)
  generalize w.alloc (.cells EV 38) = w1 at *
  obtain ⟨E, hE⟩ : ∃ E, E = w.heap.size := ⟨_, rfl⟩
  rw [← hE] at E0
  rw [← hE]
  clear hE
  have e1 := E0.out.c1
  have e1b := ((Keeps.refl none' w1).alloc Z67).cell e1
  unfold Z67 at e1b
  have RT := Lib.hid (fun w' => root_any R w')
  have FN := Lib.hid (fun w' (k : Keeps none' w1 w') => (HW.out.later (K0.out.next k)).fnd HC.out e.id)
  rcases find_doc e.id R h ls with ⟨a, b⟩ | ⟨C, pre, l, post, h', a1, a2, a3, a4⟩
  · have A := Lib.hid (show removeP (er ls) e.id = .error 40 from by unfold removeP; rw [b])
    rw [a] at FN
    unfold foundV at FN
    clear a b
    go_cut [6] from 7 (fun s6 w' => Keeps none' w1 w' ∧ s6 = .bool false)
    case first =>
      go_region_law (first
        | (go_simp; (with_reducible refine (RT.out _).mono ?_); rintro en wr ⟨rfl, hkr⟩; have kr : Keeps none' w1 wr := (by first | exact (Keeps.refl none' w1).drew.next hkr | exact ((Keeps.refl none' w1).alloc _).drew.next hkr | exact ((Keeps.refl none' w1).drew.alloc _).next hkr); have e1' := kr.cell e1; have e1a := ((Keeps.refl none' wr).alloc Z67).cell e1'; unfold Z67 at e1a; first | (have zb : wr.heap[w1.heap.size]? = some Z67 := (hkr.later w1.heap.size (by simp)).trans (heap_alloc_new w1 Z67); obtain ⟨⟨z0, z1, z2, z3⟩, zf⟩ := four_cells zb; have zf0 := zf 0; have zf1 := zf 1; have zf2 := zf 2; have zf3 := zf 3; clear zf) | skip)
        | (go_simp; (with_reducible refine (FN.out _ (by first | exact kr | exact kr.alloc _ | exact kr.drew | exact (kr.alloc _).drew)).mono ?_); rintro en wf ⟨rfl, hkf⟩; have kf : Keeps none' w1 wf := (by first | exact kr.next hkf | exact (kr.alloc _).next hkf | exact kr.drew.next hkf | exact (kr.alloc _).drew.next hkf); first | (have zb2 := (hkf.later _ (lt_of_block zb)).trans zb; obtain ⟨⟨y0, y1, y2, y3⟩, yf⟩ := four_cells zb2; have yf0 := yf 0; have yf1 := yf 1; have yf2 := yf 2; have yf3 := yf 3; clear yf) | (have zb2 : wf.heap[wr.heap.size]? = some Z67 := (hkf.later wr.heap.size (by simp)).trans (heap_alloc_new wr Z67); obtain ⟨⟨y0, y1, y2, y3⟩, yf⟩ := four_cells zb2; have yf0 := yf 0; have yf1 := yf 1; have yf2 := yf 2; have yf3 := yf 3; clear yf) | skip))
      all_goals
        go_wp2_with fail
        go_meet
        case rel =>
          first
            | exact ⟨kf.alloc _, rfl⟩
            | exact ⟨keeps_set4 kf (Nat.le_refl _) _ _ _ _, rfl⟩
            | exact ⟨keeps_set4 kf kr.size _ _ _ _, rfl⟩
    case rest =>
      obtain ⟨kc, rfl⟩ := hcut
      have K2 := Lib.hid (K0.out.next kc)
      clear kc e1 e1b
      go_wp2_with fail
      go_ret
      exact Edited.err A.out K2.out
  · subst a3
    subst a4
    obtain ⟨g, n, c, rfl⟩ := row_some HW.out.ctx.1
    have A := Lib.hid (show removeP (er (plugL C ⟨some ⟨g, 0, none⟩, n, c⟩ (pre ++ l :: post))) e.id = .ok (plugP (C.map Frm.er) (er pre ++ er post)) from by unfold removeP; rw [a2])
    rw [a1] at FN
    unfold foundV sptOf at FN
    clear a1 a2
    obtain ⟨D, hD⟩ : ∃ D, D = C.length := ⟨_, rfl⟩
    rw [← hD] at FN
    clear hD
    obtain ⟨I, hI⟩ : ∃ I, I = pre.length := ⟨_, rfl⟩
    rw [← hI] at FN
    have EI := Lib.hid hI
    clear hI
    go_cut [5, 6] from 7 (fun s5 s6 w' => Keeps none' w1 w' ∧ s6 = .bool true ∧ ∃ S, s5 = .pointer (some ⟨S, 0, none⟩) ∧ Sp w' S (idOf C) (kbOf R C) (koOf C) (D : Int) (I : Int))
    case first =>
      go_region_law (first
        | (go_simp; (with_reducible refine (RT.out _).mono ?_); rintro en wr ⟨rfl, hkr⟩; have kr : Keeps none' w1 wr := (by first | exact (Keeps.refl none' w1).drew.next hkr | exact ((Keeps.refl none' w1).alloc _).drew.next hkr | exact ((Keeps.refl none' w1).drew.alloc _).next hkr); have e1' := kr.cell e1; have e1a := ((Keeps.refl none' wr).alloc Z67).cell e1'; unfold Z67 at e1a; first | (have zb : wr.heap[w1.heap.size]? = some Z67 := (hkr.later w1.heap.size (by simp)).trans (heap_alloc_new w1 Z67); obtain ⟨⟨z0, z1, z2, z3⟩, zf⟩ := four_cells zb; have zf0 := zf 0; have zf1 := zf 1; have zf2 := zf 2; have zf3 := zf 3; clear zf) | skip)
        | (go_simp; (with_reducible refine (FN.out _ (by first | exact kr | exact kr.alloc _ | exact kr.drew | exact (kr.alloc _).drew)).mono ?_); rintro en wf ⟨rfl, hkf⟩; have kf : Keeps none' w1 wf := (by first | exact kr.next hkf | exact (kr.alloc _).next hkf | exact kr.drew.next hkf | exact (kr.alloc _).drew.next hkf); first | (have zb2 := (hkf.later _ (lt_of_block zb)).trans zb; obtain ⟨⟨y0, y1, y2, y3⟩, yf⟩ := four_cells zb2; have yf0 := yf 0; have yf1 := yf 1; have yf2 := yf 2; have yf3 := yf 3; clear yf) | (have zb2 : wf.heap[wr.heap.size]? = some Z67 := (hkf.later wr.heap.size (by simp)).trans (heap_alloc_new wr Z67); obtain ⟨⟨y0, y1, y2, y3⟩, yf⟩ := four_cells zb2; have yf0 := yf 0; have yf1 := yf 1; have yf2 := yf 2; have yf3 := yf 3; clear yf) | skip))
      all_goals
        go_wp2_with fail
        go_meet
        case rel =>
          first
            | exact ⟨kf.alloc _, rfl, _, rfl, Sp.new _ _ _ _ _ _⟩
            | exact ⟨keeps_set4 kf (Nat.le_refl _) _ _ _ _, rfl, _, rfl, four_set zb2 _ _ _ _⟩
            | exact ⟨keeps_set4 kf kr.size _ _ _ _, rfl, _, rfl, four_set zb2 _ _ _ _⟩
    case rest =>
      obtain ⟨kc, rfl, S, rfl, sp⟩ := hcut
      have K2 := Lib.hid (K0.out.next kc)
      have W2 := Lib.hid (HW.out.later K2.out)
      have s0 := sp.c0
      have s1 := sp.c1
      have s2 := sp.c2
      have s3 := sp.c3
      have tk := take_doc W2.out HB.out.1 (idOf C) (D : Int)
      rw [← EI.out] at tk
      have TK := Lib.hid tk
      clear kc e1 e1b sp tk
      go_wp2_with ((with_reducible refine TK.out.mono ?_); rintro en w3 ⟨rfl, w3a, w3b, w3c, w3d, k3, -⟩; have W3 := Lib.hid w3a; have K3 := Lib.hid ((keeps_weak K2.out (fun q _ e => e.elim)).trans k3 (fun _ _ e => e)); clear w3a w3b w3c w3d k3)
      go_ret
      exact Edited.good A.out (by rw [er_plug, er_append]) W3.out K3.out
end Go.Proofs.YtfcpbpfemmdklaaGreat.Tr
