/- Texts of a layer, one behind the other. -/
import Derived.Test.YtfcpbpfemmdklaaGreatMAi
import Derived.Test.YtfcpbpfemmdklaaGreatMAj
import Derived.LaidEqlPtr
/- Moving a layer. -/
namespace Go.Proofs.YtfcpbpfemmdklaaGreat.Tr
open Go.RowKit Go.Lib
set_option linter.unusedSimpArgs false
set_option linter.unusedVariables false

theorem isSome_go (id : Int) (C1 C2 : List PFrm) (p1 p2 ls : List Lay) : (go id C1 p1 ls).isSome = (go id C2 p2 ls).isSome := by
  have h1 := go_none id _ ls (Nat.le_refl _) C1 p1
  have h2 := go_none id _ ls (Nat.le_refl _) C2 p2
  cases a : go id C1 p1 ls with
  | none => rw [h2.2 (h1.1 a)]
  | some r =>
    cases b : go id C2 p2 ls with
    | none => rw [h1.2 (h2.1 b)] at a; cases a
    | some r2 => rfl
/-- What a spot has within it, in plain words. -/
theorem has_plain (id : Int) (R : Nat) (C : List Frm) (h : Hd) (pre : List Loc) (l : Loc) (post : List Loc) : (findP id (inner (sptOf R C h pre.length l))).isSome = (fnd id (er l.kids)).isSome := by
  cases l with
  | mk d p m q k kids =>
    rcases find_go id R _ kids (Nat.le_refl _) (⟨h, pre, d, p, m, q, post⟩ :: C) [] k with ⟨a, b⟩ | ⟨C', pre', l', post', h', a, b, -, -⟩
    · have a' : findP id (inner (sptOf R C h pre.length (.mk d p m q k kids))) = none := a
      have b' := isSome_go id (List.map Frm.er (⟨h, pre, d, p, m, q, post⟩ :: C)) [] (er []) [] (er kids)
      rw [b] at b'
      rw [a']
      exact b'
    · have a' : findP id (inner (sptOf R C h pre.length (.mk d p m q k kids))) = some (sptOf R C' h' pre'.length l') := a
      have b' := isSome_go id (List.map Frm.er (⟨h, pre, d, p, m, q, post⟩ :: C)) [] (er []) [] (er kids)
      rw [b] at b'
      rw [a']
      exact b'
theorem height_plain (R : Nat) (C : List Frm) (h : Hd) (pre : List Loc) (l : Loc) : deepS (C.length + 1) (inner (sptOf R C h pre.length l)) = deepP (C.length + 1) (er l.kids) :=
  deep_er l.dat.id h.b (h.o + pre.length * 19 + 18) (C.length + 1) l.kh.b l.kh.o l.kids
theorem foldl_max_le : ∀ (xs : List Nat) (a : Nat), a ≤ xs.foldl max a
  | [], a => Nat.le_refl _
  | x :: xs, a => Nat.le_trans (Nat.le_max_left a x) (foldl_max_le xs (max a x))
theorem deepP_ge (n : Nat) (ls : List Lay) : n ≤ deepP n ls := foldl_max_le _ _
theorem deepP_le {dep m : Nat} {ls : List Loc} (hid : Int) (kb ko b o : Nat) (h : dep + cnt ls ≤ m) : deepP dep (er ls) ≤ m := by
  rw [← deep_er hid kb ko dep b o ls]
  refine deepS_le (dep := dep) (by omega) (fun X hX => ?_)
  have := sps_deep _ ls (Nat.le_refl _) hid kb ko dep b o 0 X hX
  omega
theorem kids_small {C : List Frm} {h : Hd} {pre post : List Loc} {l : Loc} (hc : pcnt (er (plugL C h (pre ++ l :: post))) ≤ 4096) : C.length + 1 + cnt l.kids ≤ 4096 + 4096 + 1 ∧ cnt l.kids ≤ 4096 := by
  have h1 := pcnt_plug (C.map Frm.er) (er (pre ++ l :: post))
  rw [← er_plug C h (pre ++ l :: post)] at h1
  have h2 := cnt_at (mid_at pre l post)
  rw [cnt_eq (pre ++ l :: post)] at h2
  have h3 := ctx_depth (C.map Frm.er)
  rw [List.length_map] at h3
  omega
theorem room_swap {a b : Prop} [Decidable a] [Decidable b] (h : a ↔ b) (n : Int) : n - (if a then 1 else 0) = n - (if b then 1 else 0) := by
  by_cases ha : a
  · rw [if_pos ha, if_pos (h.1 ha)]
  · rw [if_neg ha, if_neg (fun hb => ha (h.2 hb))]
theorem Whole.kbCells {B : Nat} {w : World} {R : Nat} {x y z : Int} {C : List Frm} {h : Hd} {ls : List Loc} (W : Whole B w R x y z (plugH C h) (plugL C h ls)) : ∃ c t, w.heap[kbOf R C]? = some (.cells c t (0, 0)) := by
  obtain ⟨-, -, c0⟩ := W.ctx
  cases C with
  | nil => exact ⟨_, _, W.doc⟩
  | cons f C =>
    rw [CtxOwn] at c0
    have r := c0.1
    have hn : 0 < f.h.n := by
      have h1 := r.1.1
      have h2 := row_pos f h []
      rcases Nat.eq_zero_or_pos f.h.n with e | e
      · rw [e] at h1; omega
      · exact e
    obtain ⟨g, c, cur, e, hB, hh, -⟩ := r.some hn
    have eb2 : f.h.b = g := by rw [e]; rfl
    exact ⟨cur, 51, by show w.heap[f.h.b]? = _; rw [eb2]; exact hh⟩
theorem size23 : (Tryz.prog.info? 24).map (·.size) = some 1 := by kernel_rfl
/-- Are two homes one? The program asks for the place, the plain words for the number. -/
theorem home_eql {B : Nat} {w : World} {R : Nat} {x y z : Int} {C C2 : List Frm} {h h2 : Hd} {ls ls2 : List Loc} (G : Good z (er (plugL C h ls))) (W : Whole B w R x y z (plugH C h) (plugL C h ls)) (e1 : plugH C2 h2 = plugH C h) (e2 : plugL C2 h2 ls2 = plugL C h ls) :
    (binOp .eql 82 (.pointer (some ⟨kbOf R C2, koOf C2, none⟩)) (.pointer (some ⟨kbOf R C, koOf C, none⟩))).run Tryz.prog w = .ok (.bool (decide (idOf C2 = idOf C))) w := by
  obtain ⟨j, hj, hjs⟩ := Option.map_eq_some_iff.1 size23
  by_cases hid : idOf C2 = idOf C
  · obtain ⟨k1, k2⟩ := home_one G e1 e2 hid
    rw [k1, k2, decide_eq_true hid]
    exact run_eql_ptr_same w _ Tryz.underlying82 hj
  · rw [decide_eq_false hid]
    obtain ⟨c1, t1, b1⟩ := W.kbCells
    have W' := W
    rw [← e1, ← e2] at W'
    obtain ⟨c2, t2, b2⟩ := W'.kbCells
    refine run_eql_ptr_other w Tryz.underlying82 hj (by rw [hjs]; decide) (fun e => ?_) b2 b1
    simp only [Addr.mk.injEq, and_true] at e
    exact hid (home_id W e1 e2 e.1 e.2)
theorem Whole.keepX {X : Nat → Prop} {B : Nat} {w w' : World} {R : Nat} {x y z : Int} {h : Hd} {ls : List Loc} (W : Whole B w R x y z h ls) (k : Keeps X w w') (hR : ¬ X R) (hX : ∀ b ∈ h.blk ++ blks ls, ¬ X b) : Whole B w' R x y z h ls :=
  ⟨(k.block R (lt_of_block W.doc) hR).trans W.doc, W.row.keepB k (fun b hb => hX b (List.mem_append.2 (.inl hb))), W.own.keep k (fun b hb => hX b (List.mem_append.2 (.inr hb))), W.nodup, W.out⟩
theorem Hm.keep3 {w : World} {Z : Nat} {id : Int} {kb ko : Nat} {dep : Int} (h : Hm w Z id kb ko dep) (id' : Int) (kb' ko' : Nat) (dep' : Int) : Hm (((w.setCell ⟨Z, 0, none⟩ (.int .i64 id')).setCell ⟨Z, 1, none⟩ (.pointer (some ⟨kb', ko', none⟩))).setCell ⟨Z, 2, none⟩ (.int .i64 dep')) Z id' kb' ko' dep' := Hm.set3 h _ _ _ _
theorem keeps_at3 (w : World) (Z : Nat) (x y z : Value) : Keeps (fun q => q = Z) w (((w.setCell ⟨Z, 0, none⟩ x).setCell ⟨Z, 1, none⟩ y).setCell ⟨Z, 2, none⟩ z) :=
  ((keeps_at w Z 0 x).trans (keeps_at _ Z 1 y) (fun _ _ e => e)).trans (keeps_at _ Z 2 z) (fun _ _ e => e)
set_option maxRecDepth 100000 in
set_option maxHeartbeats 3200000 in
theorem move32 (B R : Nat) (x y z : Int) (h : Hd) (ls : List Loc) (e : PEd) (p s q : Hd) (w : World) (W : Whole B w R x y z h ls) (G : Good z (er ls)) (hBR : B ≤ R) :
    Calls Tryz.prog 48 #[.pointer (some ⟨R, 0, none⟩), edV e p s q] w fun en w' => Edited B w R x y z (moveP (er ls) e.id e.to e.at_) en w' := by
  have HW := Lib.hid W
  have HG := Lib.hid G
  have HB := Lib.hid (And.intro hBR (lt_of_block W.doc))
  have HC := Lib.hid (show cnt ls ≤ 4096 from by rw [cnt_eq]; exact G.cnt)
  have E0 := Lib.hid (Eb.new w e p s q)
  have K0 := Lib.hid ((Keeps.refl none' w).alloc (.cells (edCells e p s q).toArray 38))
  clear W G hBR
  unfold edV
  obtain ⟨EV, hEV⟩ : ∃ EV, EV = (edCells e p s q).toArray := ⟨_, rfl⟩
  rw [← hEV]
  rw [← hEV] at E0 K0
  clear hEV
  go_enter Tryz.func48, Tryz.ntmps48
  go_upto_region 1 with (fail)
  generalize w.alloc (.cells EV 38) = w1 at *
  obtain ⟨E, hE⟩ : ∃ E, E = w.heap.size := ⟨_, rfl⟩
  rw [← hE] at E0
  rw [← hE]
  have EE := Lib.hid hE
  clear hE
  have e1 := E0.out.c1
  have e1b := ((Keeps.refl none' w1).alloc Z67).cell e1
  unfold Z67 at e1b
  have RT := Lib.hid (fun w' => root_any R w')
  have FN := Lib.hid (fun w' (k : Keeps none' w1 w') => (HW.out.later (K0.out.next k)).fnd HC.out e.id)
  rcases find_doc e.id R h ls with ⟨a, b⟩ | ⟨C, pre, l, post, h', a1, a2, a3, a4⟩
  · have A := Lib.hid (show moveP (er ls) e.id e.to e.at_ = .error 40 from by unfold moveP; rw [b])
    rw [a] at FN
    unfold foundV at FN
    clear a b
    go_cut [6] from 11 (fun s6 w' => Keeps none' w1 w' ∧ s6 = .bool false)
    case first =>
      go_region_law (first
        | (go_simp; (with_reducible refine (RT.out _).mono ?_); rintro en wr ⟨rfl, hkr⟩; have kr : Keeps none' w1 wr := (by first | exact (Keeps.refl none' w1).drew.next hkr | exact ((Keeps.refl none' w1).alloc _).drew.next hkr | exact ((Keeps.refl none' w1).drew.alloc _).next hkr); have e1' := kr.cell e1; have e1a := ((Keeps.refl none' wr).alloc Z67).cell e1'; unfold Z67 at e1a; first | (have zb : wr.heap[w1.heap.size]? = some Z67 := (hkr.later w1.heap.size (by simp)).trans (heap_alloc_new w1 Z67); obtain ⟨⟨z0, z1, z2, z3⟩, zf⟩ := four_cells zb; have zf0 := zf 0; have zf1 := zf 1; have zf2 := zf 2; have zf3 := zf 3; clear zf) | skip)
        | (go_simp; (with_reducible refine (FN.out _ (by first | exact kr | exact kr.alloc _ | exact kr.drew | exact (kr.alloc _).drew)).mono ?_); rintro en wf ⟨rfl, hkf⟩; have kf : Keeps none' w1 wf := (by first | exact kr.next hkf | exact (kr.alloc _).next hkf | exact kr.drew.next hkf | exact (kr.alloc _).drew.next hkf); first | (have zb2 := (hkf.later _ (lt_of_block zb)).trans zb; obtain ⟨⟨y0, y1, y2, y3⟩, yf⟩ := four_cells zb2; have yf0 := yf 0; have yf1 := yf 1; have yf2 := yf 2; have yf3 := yf 3; clear yf) | (have zb2 : wf.heap[wr.heap.size]? = some Z67 := (hkf.later wr.heap.size (by simp)).trans (heap_alloc_new wr Z67); obtain ⟨⟨y0, y1, y2, y3⟩, yf⟩ := four_cells zb2; have yf0 := yf 0; have yf1 := yf 1; have yf2 := yf 2; have yf3 := yf 3; clear yf) | skip))
      all_goals
        go_wp2_with fail
        go_meet
        case rel =>
          first
            | exact ⟨kf.alloc _, rfl⟩
            | exact ⟨keeps_set4 kf (Nat.le_refl _) _ _ _ _, rfl⟩
            | exact ⟨keeps_set4 kf kr.size _ _ _ _, rfl⟩
    case rest =>
      obtain ⟨kc, rfl⟩ := hcut
      have K2 := Lib.hid (K0.out.next kc)
      clear kc e1 e1b
      go_wp2_with fail
      go_ret
      exact Edited.err A.out K2.out
  · subst a3
    subst a4
    obtain ⟨g, n, c, rfl⟩ := row_some HW.out.ctx.1
    have A1 := Lib.hid a2
    have HV := Lib.hid (fun w' (k : Keeps none' w w') => sps_valid (((HW.out.later k).docV.home (HW.out.later k).doc).low) (by have := HC.out; omega) _ (List.mem_of_find?_eq_some a1))
    rw [a1] at FN
    unfold foundV sptOf at FN
    clear a1 a2
    obtain ⟨D, hD⟩ : ∃ D, D = C.length := ⟨_, rfl⟩
    rw [← hD] at FN
    have ED := Lib.hid hD
    clear hD
    obtain ⟨I, hI⟩ : ∃ I, I = pre.length := ⟨_, rfl⟩
    rw [← hI] at FN
    have EI := Lib.hid hI
    clear hI
    go_cut [5, 6] from 11 (fun s5 s6 w' => Keeps none' w1 w' ∧ s6 = .bool true ∧ ∃ S, s5 = .pointer (some ⟨S, 0, none⟩) ∧ Sp w' S (idOf C) (kbOf R C) (koOf C) (D : Int) (I : Int))
    case first =>
      go_region_law (first
        | (go_simp; (with_reducible refine (RT.out _).mono ?_); rintro en wr ⟨rfl, hkr⟩; have kr : Keeps none' w1 wr := (by first | exact (Keeps.refl none' w1).drew.next hkr | exact ((Keeps.refl none' w1).alloc _).drew.next hkr | exact ((Keeps.refl none' w1).drew.alloc _).next hkr); have e1' := kr.cell e1; have e1a := ((Keeps.refl none' wr).alloc Z67).cell e1'; unfold Z67 at e1a; first | (have zb : wr.heap[w1.heap.size]? = some Z67 := (hkr.later w1.heap.size (by simp)).trans (heap_alloc_new w1 Z67); obtain ⟨⟨z0, z1, z2, z3⟩, zf⟩ := four_cells zb; have zf0 := zf 0; have zf1 := zf 1; have zf2 := zf 2; have zf3 := zf 3; clear zf) | skip)
        | (go_simp; (with_reducible refine (FN.out _ (by first | exact kr | exact kr.alloc _ | exact kr.drew | exact (kr.alloc _).drew)).mono ?_); rintro en wf ⟨rfl, hkf⟩; have kf : Keeps none' w1 wf := (by first | exact kr.next hkf | exact (kr.alloc _).next hkf | exact kr.drew.next hkf | exact (kr.alloc _).drew.next hkf); first | (have zb2 := (hkf.later _ (lt_of_block zb)).trans zb; obtain ⟨⟨y0, y1, y2, y3⟩, yf⟩ := four_cells zb2; have yf0 := yf 0; have yf1 := yf 1; have yf2 := yf 2; have yf3 := yf 3; clear yf) | (have zb2 : wf.heap[wr.heap.size]? = some Z67 := (hkf.later wr.heap.size (by simp)).trans (heap_alloc_new wr Z67); obtain ⟨⟨y0, y1, y2, y3⟩, yf⟩ := four_cells zb2; have yf0 := yf 0; have yf1 := yf 1; have yf2 := yf 2; have yf3 := yf 3; clear yf) | skip))
      all_goals
        go_wp2_with fail
        go_meet
        case rel =>
          first
            | exact ⟨kf.alloc _, rfl, _, rfl, Sp.new _ _ _ _ _ _⟩
            | exact ⟨keeps_set4 kf (Nat.le_refl _) _ _ _ _, rfl, _, rfl, four_set zb2 _ _ _ _⟩
            | exact ⟨keeps_set4 kf kr.size _ _ _ _, rfl, _, rfl, four_set zb2 _ _ _ _⟩
    case rest =>
    obtain ⟨kc, rfl, S, rfl, sp⟩ := hcut
    have K2 := Lib.hid (K0.out.next kc)
    have E2 := Lib.hid (E0.out.later kc)
    have S2 := Lib.hid sp
    have W2 := Lib.hid (HW.out.later K2.out)
    clear kc e1 e1b sp FN RT K0 E0
    have e2 := E2.out.c2
    have GR := Lib.hid (group47 R x y z _ _ e.to wc W2.out.doc W2.out.docV (by have := HC.out; omega))
    rcases home_doc e.to R (plugH C ⟨some ⟨g, 0, none⟩, n, c⟩) (plugL C ⟨some ⟨g, 0, none⟩, n, c⟩ (pre ++ l :: post)) with ⟨f, hf, hp, hgv⟩ | ⟨C2, h2, ls2, hp, hgv, hH, hL⟩
    · have A := Lib.hid (show moveP (er (plugL C ⟨some ⟨g, 0, none⟩, n, c⟩ (pre ++ l :: post))) e.id e.to e.at_ = .error f from by
        unfold moveP
        rw [A1.out]
        simp only
        rw [hp])
      rw [hgv] at GR
      unfold homeV at GR
      simp only at GR
      clear hp hgv
      rcases hf with rfl | rfl
      · go_wp2_with ((with_reducible refine GR.out.mono ?_); rintro en w3 ⟨rfl, hk3⟩; have K3 := Lib.hid (K2.out.next hk3); clear hk3)
        go_ret
        exact Edited.err A.out (K3.out.alloc _)
      · go_wp2_with ((with_reducible refine GR.out.mono ?_); rintro en w3 ⟨rfl, hk3⟩; have K3 := Lib.hid (K2.out.next hk3); clear hk3)
        go_ret
        exact Edited.err A.out (K3.out.alloc _)
    rw [hgv] at GR
    unfold homeV at GR
    simp only at GR
    have A2 := Lib.hid hp
    have HH := Lib.hid (And.intro hH hL)
    clear hp hgv hH hL
    obtain ⟨D2, hD2⟩ : ∃ D2, D2 = C2.length := ⟨_, rfl⟩
    rw [← hD2] at GR
    have ED2 := Lib.hid hD2
    clear hD2
    go_upto_region 7 with ((with_reducible refine GR.out.mono ?_); rintro en w3 ⟨rfl, hk3⟩; have K3 := Lib.hid (K2.out.next hk3); have E3 := Lib.hid (E2.out.later hk3); have S3 := Lib.hid (S2.out.later hk3); clear hk3)
    clear e2
    have ka := (Keeps.refl none' w3).alloc (.cells #[.int .i64 (idOf C2), .pointer (some ⟨kbOf R C2, koOf C2, none⟩), .int .i64 (D2 : Int)] 84)
    have K4 := Lib.hid (K3.out.next ka)
    have H4 := Lib.hid (Hm.new w3 (idOf C2) (kbOf R C2) (koOf C2) (D2 : Int))
    have E4 := Lib.hid (E3.out.later ka)
    have S4 := Lib.hid (S3.out.later ka)
    obtain ⟨Hb, hHb⟩ : ∃ Hb, Hb = w3.heap.size := ⟨_, rfl⟩
    rw [← hHb] at H4
    rw [← hHb]
    have HBW := Lib.hid (show w.heap.size ≤ Hb from by rw [hHb]; exact K3.out.size)
    have HBE := Lib.hid (show E < Hb from by rw [hHb]; exact E3.out.lt)
    clear hHb ka K3 E3 S3 K2 E2 S2 W2 GR
    generalize w3.alloc (.cells #[.int .i64 (idOf C2), .pointer (some ⟨kbOf R C2, koOf C2, none⟩), .int .i64 (D2 : Int)] 84) = w4 at *
    have s0 := S4.out.c0
    have s1 := S4.out.c1
    have s2 := S4.out.c2
    have s3 := S4.out.c3
    have e2 := E4.out.c2
    have hsm := kids_small HG.out.cnt
    have hasx := has51 (sptOf R C ⟨some ⟨g, 0, none⟩, n, c⟩ pre.length l) e.to w4 (HV.out w4 K4.out) (by have := hsm.1; show C.length + 1 + cnt l.kids ≤ _; omega)
    rw [has_plain e.to R C ⟨some ⟨g, 0, none⟩, n, c⟩ pre l post] at hasx
    unfold sptOf at hasx
    simp only at hasx
    rw [← ED.out, ← EI.out] at hasx
    have HX := Lib.hid hasx
    have KS := Lib.hid hsm
    clear hasx hsm
    cases hv : ((fnd e.to (er l.kids)).isSome || (l.dat.id == e.to)) with
    | true =>
      rw [hv] at HX
      have A := Lib.hid (show moveP (er (plugL C ⟨some ⟨g, 0, none⟩, n, c⟩ (pre ++ l :: post))) e.id e.to e.at_ = .error 42 from by
        unfold moveP
        rw [A1.out]
        simp only
        rw [A2.out]
        simp only
        rw [if_pos (by simp only [Bool.or_eq_true, beq_iff_eq] at hv; exact hv.symm)])
      clear hv
      go_wp2_with ((with_reducible refine HX.out.mono ?_); rintro en w5 ⟨rfl, hk5⟩; have K5 := Lib.hid (K4.out.next hk5); clear hk5)
      go_ret
      exact Edited.err A.out K5.out
    | false =>
    rw [hv] at HX
    have NH := Lib.hid (show ¬ (l.dat.id = e.to ∨ (fnd e.to (er l.kids)).isSome = true) from by
      simp only [Bool.or_eq_false_iff, beq_eq_false_iff_ne, ne_eq] at hv
      rintro (e | e)
      · exact hv.2 e
      · rw [hv.1] at e; cases e)
    have A3 := Lib.hid (show ∀ X : Except Int (List Lay), (if l.dat.id = e.to ∨ (fnd e.to (er l.kids)).isSome = true then .error 42 else X) = X from fun X => if_neg NH.out)
    clear hv
    go_upto_region 9 with ((with_reducible refine HX.out.mono ?_); rintro en w5 ⟨rfl, hk5⟩; have K5 := Lib.hid (K4.out.next hk5); have E5 := Lib.hid (E4.out.later hk5); have S5 := Lib.hid (S4.out.later hk5); have H5 := Lib.hid (H4.out.later hk5); clear hk5)
    clear s0 s1 s2 s3 e2 HX K4 E4 S4 H4
    have W5 := Lib.hid (show Whole B w5 R x y z (plugH C2 h2) (plugL C2 h2 ls2) from by rw [HH.out.1, HH.out.2]; exact HW.out.later K5.out)
    have n5 := W5.out.at_.1
    have HLN := Lib.hid W5.out.len
    have m1 := H5.out.c1
    have s1 := S5.out.c1
    obtain ⟨sm, hsm⟩ : ∃ sm, sm = decide (idOf C2 = idOf C) := ⟨_, rfl⟩
    have HQ : (binOp .eql 82 (.pointer (some ⟨kbOf R C2, koOf C2, none⟩)) (.pointer (some ⟨kbOf R C, koOf C, none⟩))).run Tryz.prog w5 = .ok (.bool sm) w5 := by
      rw [hsm]
      exact home_eql HG.out (HW.out.later K5.out) HH.out.1 HH.out.2
    have SM := Lib.hid hsm
    clear hsm
    go_upto_if 45 with (fail)
    clear HQ n5 m1 s1
    obtain ⟨RM, hRM⟩ : ∃ RM : Int, RM = (h2.n : Int) - (if sm = true then 1 else 0) := ⟨_, rfl⟩
    have HRM := Lib.hid hRM
    have h2s := (len_small (C := C2) (h := h2) (ls := ls2) rfl (by rw [HH.out.2]; exact HG.out.cnt)).1
    have h2n := HLN.out
    go_cut [9] from 46 (fun s9 w' => Keeps none' w5 w' ∧ s9 = .int .i64 RM)
    case first =>
      cases sm with
      | true =>
        have wr1 : IntKind.i64.wrap ((h2.n : Int) - 1) = RM := by rw [hRM, if_pos rfl]; exact wrap_i64 _ (by omega) (by omega)
        have wr2 : wrap64 ((h2.n : Int) - 1) = RM := by rw [hRM, if_pos rfl]; exact wrap64_id _ (by omega) (by omega)
        clear hRM h2s h2n
        go_wp2_with fail
        go_meet
        case rel => exact ⟨Keeps.refl _ _, rfl⟩
      | false =>
        have er1 : (h2.n : Int) = RM := by rw [hRM, if_neg (by decide), Int.sub_zero]
        have ER := Lib.hid er1
        clear hRM h2s h2n er1
        go_wp2_with fail
        go_meet
        case rel => exact ⟨Keeps.refl _ _, by rw [ER.out]⟩
    case rest =>
    obtain ⟨kc, rfl⟩ := hcut
    have K6 := Lib.hid (K5.out.next kc)
    have E6 := Lib.hid (E5.out.later kc)
    have S6 := Lib.hid (S5.out.later kc)
    have H6 := Lib.hid (H5.out.later kc)
    have RB := Lib.hid (And.intro h2s h2n)
    clear kc K5 E5 S5 H5 W5 hRM h2s h2n
    have e3 := E6.out.c3
    go_upto_region 12 with (fail)
    go_cut [56] from 48 (fun s56 w' => Keeps none' wc w' ∧ s56 = .bool (decide (e.at_ < -1) || decide (RM < e.at_)))
    case first =>
      by_cases t1 : e.at_ < -1
      · have d1 : decide (e.at_ < -1) = true := by simpa using t1
        have HR := Lib.hid (show (decide (e.at_ < -1) || decide (RM < e.at_)) = true from by simp [t1])
        clear t1
        go_wp2_with fail
        go_meet
        case rel => exact ⟨Keeps.refl none' _, by rw [HR.out]⟩
      · have d1 : decide (e.at_ < -1) = false := by simpa using t1
        by_cases t2 : RM < e.at_
        · have d2 : decide (e.at_ > RM) = true := by simpa using t2
          have d3 : decide (RM < e.at_) = true := by simpa using t2
          have HR := Lib.hid (show (decide (e.at_ < -1) || decide (RM < e.at_)) = true from by simp [t2])
          clear t1 t2
          go_wp2_with fail
          go_meet
          case rel => exact ⟨Keeps.refl none' _, by rw [HR.out]⟩
        · have d2 : decide (e.at_ > RM) = false := by simpa using t2
          have d3 : decide (RM < e.at_) = false := by simpa using t2
          have HR := Lib.hid (show (decide (e.at_ < -1) || decide (RM < e.at_)) = false from by simp only [d1, d3, Bool.false_or])
          clear t1 t2
          go_wp2_with fail
          go_meet
          case rel => exact ⟨Keeps.refl none' _, by rw [HR.out]⟩
    case rest =>
    obtain ⟨kc, rfl⟩ := hcut
    have K7 := Lib.hid (K6.out.next kc)
    have E7 := Lib.hid (E6.out.later kc)
    have S7 := Lib.hid (S6.out.later kc)
    have H7 := Lib.hid (H6.out.later kc)
    clear kc K6 E6 S6 H6 e3
    have PR := Lib.hid (show (((er ls2).length : Int) - (if pidOf (C.map Frm.er) = pidOf (C2.map Frm.er) then 1 else 0)) = RM from by
      rw [HRM.out, er_length, ← HLN.out, SM.out, pid_er, pid_er]
      exact room_swap (by rw [decide_eq_true_eq]; exact eq_comm) _)
    cases hv : (decide (e.at_ < -1) || decide (RM < e.at_)) with
    | true =>
      have A := Lib.hid (show moveP (er (plugL C ⟨some ⟨g, 0, none⟩, n, c⟩ (pre ++ l :: post))) e.id e.to e.at_ = .error 43 from by
        unfold moveP
        rw [A1.out]
        simp only
        rw [A2.out]
        simp only
        rw [A3.out, if_pos (by rw [PR.out]; simpa using hv)])
      clear hv
      go_wp2_with fail
      go_ret
      exact Edited.err A.out K7.out
    | false =>
    have A4 := Lib.hid (show ∀ X : Except Int (List Lay), (if e.at_ < -1 ∨ (((er ls2).length : Int) - (if pidOf (C.map Frm.er) = pidOf (C2.map Frm.er) then 1 else 0)) < e.at_ then .error 43 else X) = X from fun X => by rw [if_neg (by rw [PR.out]; simpa using hv)])
    have AT := Lib.hid (show -1 ≤ e.at_ ∧ e.at_ ≤ RM from by simp at hv; omega)
    clear hv
    go_upto_region 14 with (fail)
    obtain ⟨HT, hHT⟩ : ∃ HT, HT = heightP D (er l.kids) := ⟨_, rfl⟩
    have hdge := deepP_ge (D + 1) (er l.kids)
    have hdle := deepP_le (dep := D + 1) (m := 8193) (ls := l.kids) 0 0 0 0 0 (by have := KS.out.1; have := ED.out; omega)
    have ht1 : ((deepP (D + 1) (er l.kids) : Int) - (D : Int)) = (HT : Int) := by rw [hHT]; unfold heightP; omega
    have htle : HT ≤ 8193 := by rw [hHT]; unfold heightP; omega
    have heix := fun (w' : World) (k : Keeps none' w w') => height52 (sptOf R C ⟨some ⟨g, 0, none⟩, n, c⟩ pre.length l) w' (HV.out w' k) (by have := KS.out.1; show C.length + 1 + cnt l.kids ≤ _; omega)
    have hq : ((deepS ((sptOf R C ⟨some ⟨g, 0, none⟩, n, c⟩ pre.length l).dep + 1) (inner (sptOf R C ⟨some ⟨g, 0, none⟩, n, c⟩ pre.length l)) : Int) - ((sptOf R C ⟨some ⟨g, 0, none⟩, n, c⟩ pre.length l).dep : Int)) = (HT : Int) := by
      have h9 := height_plain R C ⟨some ⟨g, 0, none⟩, n, c⟩ pre l
      rw [← ED.out] at h9
      show ((deepS (C.length + 1) _ : Nat) : Int) - ((C.length : Nat) : Int) = _
      rw [← ED.out, h9]
      exact ht1
    simp only [hq] at heix
    unfold sptOf at heix
    simp only at heix
    rw [← ED.out, ← EI.out] at heix
    have HEI := Lib.hid heix
    have hd2 : D2 ≤ 4096 := by have := (len_small (C := C2) (h := h2) (ls := ls2) rfl (by rw [HH.out.2]; exact HG.out.cnt)).2; have := ED2.out; omega
    obtain ⟨SU, hSU⟩ : ∃ SU, SU = D2 + HT := ⟨_, rfl⟩
    have wS : IntKind.i64.wrap ((D2 : Int) + (HT : Int)) = (SU : Int) := by rw [hSU, wrap_i64 _ (by omega) (by omega)]; omega
    have wS2 : wrap64 ((D2 : Int) + (HT : Int)) = (SU : Int) := by rw [hSU, wrap64_id _ (by omega) (by omega)]; omega
    have HSU := Lib.hid (And.intro hSU hHT)
    clear hSU hHT hdge hdle ht1 htle heix hq hd2
    have m2 := H7.out.c2
    have s0 := S7.out.c0
    have s1 := S7.out.c1
    have s2 := S7.out.c2
    have s3 := S7.out.c3
    go_cut [62] from 57 (fun s62 w' => Keeps none' wc w' ∧ s62 = .bool (decide (64 < SU)))
    case first =>
      by_cases t1 : 64 < SU
      · have d1 : decide ((SU : Int) > 64) = true := by simp; omega
        have d2 : decide (64 < SU) = true := by simpa using t1
        go_region_law (go_simp; (with_reducible refine (HEI.out wc.drew K7.out.drew).mono ?_); rintro en w8 ⟨rfl, hk8⟩; have k8 : Keeps none' wc w8 := (Keeps.refl none' wc).drew.next hk8; have m2' := k8.cell m2)
        all_goals
          go_wp2_with fail
          go_meet
          case rel => exact ⟨k8, by simp [t1]⟩
      · have d1 : decide ((SU : Int) > 64) = false := by simp; omega
        have d2 : decide (64 < SU) = false := by simpa using t1
        go_region_law (go_simp; (with_reducible refine (HEI.out wc.drew K7.out.drew).mono ?_); rintro en w8 ⟨rfl, hk8⟩; have k8 : Keeps none' wc w8 := (Keeps.refl none' wc).drew.next hk8; have m2' := k8.cell m2)
        all_goals
          go_wp2_with fail
          go_meet
          case rel => exact ⟨k8, by simp [t1]⟩
    case rest =>
    obtain ⟨kc, rfl⟩ := hcut
    have K8 := Lib.hid (K7.out.next kc)
    have E8 := Lib.hid (E7.out.later kc)
    have S8 := Lib.hid (S7.out.later kc)
    have H8 := Lib.hid (H7.out.later kc)
    clear kc K7 E7 S7 H7 m2 s0 s1 s2 s3 wS wS2 HEI
    have PK := Lib.hid (show SU = (C2.map Frm.er).length + heightP (C.map Frm.er).length (er l.kids) from by rw [HSU.out.1, HSU.out.2, List.length_map, List.length_map, ED.out, ED2.out])
    by_cases t1 : 64 < SU
    · have d2 : decide (64 < SU) = true := by simpa using t1
      have A := Lib.hid (show moveP (er (plugL C ⟨some ⟨g, 0, none⟩, n, c⟩ (pre ++ l :: post))) e.id e.to e.at_ = .error 31 from by
        unfold moveP
        rw [A1.out]
        simp only
        rw [A2.out]
        simp only
        rw [A3.out, A4.out, if_pos (by rw [← PK.out]; exact t1)])
      go_wp2_with fail
      go_ret
      exact Edited.err A.out K8.out
    have d2 : decide (64 < SU) = false := by simpa using t1
    have A5 := Lib.hid (show ∀ X : Except Int (List Lay), (if 64 < (C2.map Frm.er).length + heightP (C.map Frm.er).length (er l.kids) then .error 31 else X) = X from fun X => by rw [if_neg (by rw [← PK.out]; exact t1)])
    obtain ⟨C3p, kids3, hr3⟩ := homeP_rest HG.out A1.out A2.out (fun e => NH.out (.inl e)) (by
      cases hq : fnd e.to (er l.kids) with
      | none => rfl
      | some r9 => exact absurd (.inr (by rw [hq]; rfl)) NH.out)
    have hr3' : homeP e.to (er (plugL C ⟨some ⟨g, 0, none⟩, n - 1, c⟩ (pre ++ post))) = .ok (C3p, kids3) := by rw [er_plug, er_append]; exact hr3
    rcases home_doc e.to R (plugH C ⟨some ⟨g, 0, none⟩, n - 1, c⟩) (plugL C ⟨some ⟨g, 0, none⟩, n - 1, c⟩ (pre ++ post)) with ⟨f, -, hp, -⟩ | ⟨C3, h3, ls3, hp, hgv, hH3, hL3⟩
    · rw [hp] at hr3'; cases hr3'
    have hr4 : homeP e.to (plugP (C.map Frm.er) (er pre ++ er post)) = .ok (C3.map Frm.er, er ls3) := by rw [← hp, er_plug, er_append]
    have HL3 := Lib.hid (show (ls3.length : Int) = RM from by
      have := home_len HG.out A1.out A2.out hr4
      rw [er_length] at this
      rw [this]
      exact PR.out)
    have A := Lib.hid (show moveP (er (plugL C ⟨some ⟨g, 0, none⟩, n, c⟩ (pre ++ l :: post))) e.id e.to e.at_ = .ok (plugP (C3.map Frm.er) (insAt e.at_ (.mk l.dat (er l.kids)) (er ls3))) from by
      unfold moveP
      rw [A1.out]
      simp only
      rw [A2.out]
      simp only
      rw [A3.out, A4.out, A5.out, hr4])
    have HC3 := Lib.hid (show cnt (plugL C ⟨some ⟨g, 0, none⟩, n - 1, c⟩ (pre ++ post)) ≤ 4096 from by
      have h9 := (dats_rest A1.out).length_eq
      have h8 := HG.out.cnt
      rw [cnt_eq, er_plug, er_append]
      unfold pcnt at h8 ⊢
      rw [List.length_append] at h9
      simp only at h9
      omega)
    have GV := Lib.hid hgv
    have H3 := Lib.hid (And.intro hH3 hL3)
    clear hr3 hr3' hp hgv hH3 hL3 hr4 A1 A2 A3 A4 A5 PR PK NH
    have old := HW.out.lt
    have kbm := kb_mem R HW.out.ctx.2.2
    have eb : ∀ b, b ∈ blks [l] ∨ b ∈ ([g] ++ blks (pre ++ post)) ++ outs C → b < w.heap.size := by
      intro b hb
      refine (old b ?_).2
      have e9 : pre ++ l :: post = pre ++ ([l] ++ post) := rfl
      rw [e9, blks_append, blks_append]
      rcases hb with hb | hb
      · simp [hb]
      · rw [blks_append] at hb
        simp only [List.mem_append] at hb ⊢
        rcases hb with (hb | hb | hb) | hb
        · exact .inl (.inl hb)
        · exact .inl (.inr (.inl hb))
        · exact .inl (.inr (.inr (.inr hb)))
        · exact .inr hb
    have gkb : g < w.heap.size ∧ kbOf R C < w.heap.size := by
      refine ⟨(old g (List.mem_append.2 (.inl (List.mem_append.2 (.inl (List.mem_singleton.2 rfl)))))).2, ?_⟩
      rcases kbm with e9 | e9
      · rw [e9]; exact HB.out.2
      · exact (old _ (List.mem_append.2 (.inr e9))).2
    have OLD := Lib.hid (And.intro eb gkb)
    clear old kbm eb gkb
    have s0 := S8.out.c0
    have s1 := S8.out.c1
    have s2 := S8.out.c2
    have s3 := S8.out.c3
    have tk := take_doc (HW.out.later K8.out) HB.out.1 (idOf C) (D : Int)
    rw [← EI.out] at tk
    have TK := Lib.hid tk
    clear tk
    have SZL : (Tryz.prog.info? 51).map (·.size) = some l.cells.toArray.size := by rw [List.size_toArray, Loc.cells_length]; exact size48
    have SZB : 19 = l.cells.toArray.size := by rw [List.size_toArray, Loc.cells_length]
    have ALLL : l.cells.toArray.all (·.oneCell') = true := by
      rw [Array.all_eq_true_iff_forall_mem]
      intro u hu
      exact l.cells_one u (by simpa using hu)
    have LF := Lib.hid (And.intro SZL (And.intro SZB ALLL))
    clear SZL SZB ALLL
    go_upto_region 17 with (first
      | ((with_reducible refine TK.out.mono ?_); rintro en w9 ⟨rfl, wa, ob, nb, db, kb1, kb2⟩; have W9 := Lib.hid wa; have O9 := Lib.hid (And.intro ob (And.intro nb db)); have K9 := Lib.hid (And.intro kb1 kb2); clear wa ob nb db kb1 kb2)
      | (refine wpList_store_row rfl 51 _ _ rfl w9.heap.size l.cells.toArray rfl rfl 51 _ (heap_alloc_new _ _) LF.out.1 (by exact LF.out.2.1) LF.out.2.2 ?_))
    clear s0 s1 s2 s3
    obtain ⟨L, hL⟩ : ∃ L, L = w9.heap.size := ⟨_, rfl⟩
    have LB := Lib.hid (setRow_heap (w9.alloc Z48) w9.heap.size _ l.cells.toArray _ _ (heap_alloc_new w9 Z48))
    have ka := ((Keeps.refl none' w9).alloc Z48).setRow (R := w9.heap.size) (Nat.le_refl _) l.cells.toArray
    have wE : w.heap.size ≤ E := by rw [EE.out]; exact Nat.le_refl _
    have E9 := Lib.hid ((E8.out.keep K9.out.2 (by have := OLD.out.2; omega)).later ka)
    have h9a : Hm w9 Hb (idOf C2) (kbOf R C2) (koOf C2) (D2 : Int) := (K9.out.2.block Hb H8.out.lt (by have := OLD.out.2; have := HBW.out; omega)).trans H8.out
    have H9 := Lib.hid (h9a.later ka)
    clear h9a
    have W10 := Lib.hid (W9.out.later ka)
    have O10 := Lib.hid (And.intro (O9.out.1.later ka) O9.out.2)
    have K10 := Lib.hid (((keeps_weak (Y := fun q => B ≤ q) K8.out (fun q _ e => e.elim)).trans K9.out.1 (fun _ _ e => e)).trans (keeps_weak (Y := fun q => B ≤ q) ka (fun q _ e => e.elim)) (fun _ _ e => e))
    have LW := Lib.hid (show w.heap.size ≤ L from by rw [hL]; exact Nat.le_trans K8.out.size K9.out.1.size)
    have LH := Lib.hid (show L ≠ Hb from by rw [hL]; have h1 := H8.out.lt; have h2 := K9.out.1.size; omega)
    rw [← hL] at LB
    unfold Z48 at LB E9 H9 W10 O10 K10
    rw [← hL] at E9 H9 W10 O10 K10
    dsimp only [Act.put]
    rw [← hL]
    clear hL ka W9 O9 K9 E8 S8 H8 TK K8
    generalize (w9.alloc (.cells _ 51)).setRow L l.cells.toArray = w10 at *
    have e2 := E9.out.c2
    have gr2 := group47 R x y z _ _ e.to w10 W10.out.doc W10.out.docV (by have := HC3.out; omega)
    rw [GV.out] at gr2
    unfold homeV at gr2
    simp only at gr2
    have GR2 := Lib.hid gr2
    clear gr2
    obtain ⟨D3, hD3⟩ : ∃ D3, D3 = C3.length := ⟨_, rfl⟩
    rw [← hD3] at GR2
    clear hD3
    go_upto_region 18 with ((with_reducible refine GR2.out.mono ?_); rintro en w11 ⟨rfl, hk11⟩; have K11 := Lib.hid hk11; have H11 := Lib.hid (H9.out.later hk11); obtain ⟨⟨r0, r1, r2⟩, rf⟩ := three_cells H11.out; have f0 := rf 0; have f1 := rf 1; have f2 := rf 2; clear hk11 rf)
    have h12 := H11.out.keep3 (idOf C3) (kbOf R C3) (koOf C3) (D3 : Int)
    have k12 := keeps_at3 w11 Hb (.int .i64 (idOf C3)) (.pointer (some ⟨kbOf R C3, koOf C3, none⟩)) (.int .i64 (D3 : Int))
    have oldb : ∀ b, b = R ∨ b ∈ blks [l] ∨ b ∈ ([g] ++ blks (pre ++ post)) ++ outs C → ¬ b = Hb := by
      intro b hb
      have hw := HBW.out
      rcases hb with hb | hb
      · have := HB.out.2; omega
      · have := OLD.out.1 b hb; omega
    have perm3 : ∀ b, b ∈ (plugH C ⟨some ⟨g, 0, none⟩, n - 1, c⟩).blk ++ blks (plugL C ⟨some ⟨g, 0, none⟩, n - 1, c⟩ (pre ++ post)) ↔ b ∈ ([g] ++ blks (pre ++ post)) ++ outs C := fun b => (plug_perm C ⟨some ⟨g, 0, none⟩, n - 1, c⟩ (pre ++ post)).mem_iff
    have w12 := (W10.out.later K11.out).keepX k12 (oldb R (.inl rfl)) (fun b hb => oldb b (.inr (.inr ((perm3 b).1 hb))))
    have o12 := (O10.out.1.later K11.out).keep k12 (fun b hb => oldb b (.inr (.inl hb)))
    have k12' : Keeps (fun q => B ≤ q) w _ := (K10.out.trans (keeps_weak (Y := fun q => B ≤ q) K11.out (fun q _ e => e.elim)) (fun _ _ e => e)).trans (keeps_weak (Y := fun q => B ≤ q) k12 (fun q _ e => by have e' : q = Hb := e; have := HBW.out; have := HB.out; omega)) (fun _ _ e => e)
    have e12 := (E9.out.later K11.out).keep k12 (by have := HBE.out; omega)
    have lb12 := (k12.block L (Nat.lt_of_lt_of_le (lt_of_block LB.out) K11.out.size) LH.out).trans ((K11.out.later L (lt_of_block LB.out)).trans LB.out)
    generalize ((w11.setCell ⟨Hb, 0, none⟩ (.int .i64 (idOf C3))).setCell ⟨Hb, 1, none⟩ (.pointer (some ⟨kbOf R C3, koOf C3, none⟩))).setCell ⟨Hb, 2, none⟩ (.int .i64 (D3 : Int)) = W12 at *
    clear r0 r1 r2 f0 f1 f2 e2 k12
    rw [← H3.out.1, ← H3.out.2] at w12
    have dx : ∀ b ∈ blks [l], b ≠ R ∧ b ∉ (h3.blk ++ blks ls3) ++ outs C3 := by
      intro b hb
      obtain ⟨d1, d3⟩ := O10.out.2.2 b hb
      refine ⟨d1, fun e9 => d3 ((perm3 b).1 ?_)⟩
      have := (plug_perm C3 h3 ls3).mem_iff.2 e9
      rw [H3.out.1, H3.out.2] at this
      exact this
    have hrm : RM ≤ (h2.n : Int) := by rw [HRM.out]; split <;> omega
    have hl3 := HL3.out
    have hrb := RB.out
    have hat := AT.out
    have pt := put_doc (lx := l) e.at_ (if e.at_ = -1 then ls3.length else e.at_.toNat) w12 k12' HB.out.1 (by have h1 := lt_of_block w12.doc; have h2 := HB.out.1; omega) o12 O10.out.2.1 dx (by split <;> omega) (by omega) (by split <;> omega) (idOf C3) D3
    have PT := Lib.hid pt
    have LB12 := Lib.hid lb12
    have m0 := h12.c0
    have m1 := h12.c1
    have m2 := h12.c2
    have e3 := e12.c3
    clear pt lb12 h12 e12 hat hrb hl3 hrm dx w12 o12 k12' oldb perm3
    go_wp2_with (first
      | (refine wpList_load_row rfl 51 _ rfl L rfl 51 l.cells.toArray (0, 0) _ LB12.out Tryz.underlying51 rfl LF.out.1 ?_)
      | ((with_reducible refine PT.out.mono ?_); rintro en w13 ⟨rfl, h4, lsL, q1, q2, q3⟩; have Q := Lib.hid (And.intro q1 (And.intro q2 q3)); clear q1 q2 q3))
    go_ret
    exact Edited.good A.out Q.out.1 Q.out.2.1 Q.out.2.2
end Go.Proofs.YtfcpbpfemmdklaaGreat.Tr
