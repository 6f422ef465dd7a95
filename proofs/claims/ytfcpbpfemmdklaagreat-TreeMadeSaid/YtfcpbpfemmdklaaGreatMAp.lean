/- Texts of a layer, one behind the other. -/
import Derived.Test.YtfcpbpfemmdklaaGreatMAl
import Derived.Test.YtfcpbpfemmdklaaGreatMAn
import Derived.Test.YtfcpbpfemmdklaaGreatMAo
/- A layer's map, an adjustment's table. (printed by genZX.py) -/
namespace Go.Proofs.YtfcpbpfemmdklaaGreat.Tr
open Go.RowKit Go.Lib
set_option linter.unusedSimpArgs false
set_option linter.unusedVariables false

def setMap (d : Dat) (e : PEd) (b : Bool) : Dat := { d with ma := e.ma, mb := e.mb, mc := e.mc, md := e.md, me := e.me, mf := e.mf, smooth := b }
def setTab (d : Dat) (n : Int) (l : List Int) : Dat := { d with table := n, pars := l }
def mapOf (e : PEd) : Ax.Af.M := ⟨e.ma, e.mb, e.mc, e.md, e.me, e.mf⟩
def placeP (ls : List Lay) (e : PEd) : Except Int (List Lay) :=
  if e.id = 0 then .error 41 else
  match fnd e.id ls with
  | none => .error 40
  | some r =>
    if r.d.kind = 0 then
      if uptoB e.n 1 = false then .error 32 else
      if (Ax.Af.backE (mapOf e)).2 ≠ 0 then .error (Ax.Af.backE (mapOf e)).2 else
      .ok (plugP r.C (r.pre ++ .mk (setMap r.d e (decide (e.n = 1))) r.kids :: r.post))
    else .error 41
/-- Do params make a table? -/
noncomputable def tabB (n : Int) (l : List Int) : Bool := @decide (Pi.Px.Fits n l) (Classical.propDecidable _)
noncomputable def adjustP (ls : List Lay) (e : PEd) : Except Int (List Lay) :=
  if e.id = 0 then .error 41 else
  match fnd e.id ls with
  | none => .error 40
  | some r =>
    if r.d.kind = 2 then
      if tabB e.n e.pars = false then .error 32 else .ok (plugP r.C (r.pre ++ .mk (setTab r.d e.n e.pars) r.kids :: r.post))
    else .error 41
theorem tabB_true {n : Int} {l : List Int} : tabB n l = true ↔ Pi.Px.Fits n l := by
  unfold tabB
  exact @decide_eq_true_iff _ (Classical.propDecidable _)
theorem ax_keeps {w w' : World} (k : Ax.Keeps Ax.none' w w') : Keeps none' w w' := ⟨k.os, k.tape, k.output, k.size, fun i hi hn => k.block i hi (fun h => h)⟩
theorem pi_keeps {w w' : World} (k : Pi.Keeps Pi.none' w w') : Keeps none' w w' := ⟨k.os, k.tape, k.output, k.size, fun i hi hn => k.block i hi (fun h => h)⟩
theorem kind_lay (id kind : Int) (R : Nat) (h : Hd) (ls : List Loc) :
    (∃ f, f ≠ 0 ∧ kindV id kind (sps 0 R 3 0 h.b h.o 0 ls) = (none, f) ∧ ((id = 0 ∧ f = 41) ∨ (id ≠ 0 ∧ fnd id (er ls) = none ∧ f = 40) ∨ (id ≠ 0 ∧ f = 41 ∧ ∃ r, fnd id (er ls) = some r ∧ r.d.kind ≠ kind))) ∨
    ∃ C pre l post h', id ≠ 0 ∧ fnd id (er ls) = some ⟨C.map Frm.er, er pre, l.dat, er l.kids, er post⟩ ∧ plugH C h' = h ∧ plugL C h' (pre ++ l :: post) = ls ∧ l.dat.kind = kind ∧
      kindV id kind (sps 0 R 3 0 h.b h.o 0 ls) = (some ⟨h'.b, h'.o + pre.length * 19, none⟩, 0) := by
  rcases kind_doc id kind R h ls with ⟨h0, kv⟩ | ⟨h0, hf, kv⟩ | ⟨C, pre, l, post, h', h0, hf, e1, e2, kv⟩
  · exact .inl ⟨41, by decide, kv, .inl ⟨h0, rfl⟩⟩
  · exact .inl ⟨40, by decide, kv, .inr (.inl ⟨h0, hf, rfl⟩)⟩
  · by_cases hk : l.dat.kind = kind
    · exact .inr ⟨C, pre, l, post, h', h0, hf, e1, e2, hk, by rw [kv, if_pos hk]⟩
    · exact .inl ⟨41, by decide, by rw [kv, if_neg hk], .inr (.inr ⟨h0, rfl, _, hf, hk⟩)⟩
theorem Eb.c12 {w : World} {E : Nat} {e : PEd} {p s q : Hd} (h : Eb w E e p s q) : w.cell? ⟨E, 12, none⟩ = some (.int .i64 e.ma) := by simp [World.cell?, show w.heap[E]? = _ from h, edCells]
theorem Eb.c13 {w : World} {E : Nat} {e : PEd} {p s q : Hd} (h : Eb w E e p s q) : w.cell? ⟨E, 13, none⟩ = some (.int .i64 e.mb) := by simp [World.cell?, show w.heap[E]? = _ from h, edCells]
theorem Eb.c14 {w : World} {E : Nat} {e : PEd} {p s q : Hd} (h : Eb w E e p s q) : w.cell? ⟨E, 14, none⟩ = some (.int .i64 e.mc) := by simp [World.cell?, show w.heap[E]? = _ from h, edCells]
theorem Eb.c15 {w : World} {E : Nat} {e : PEd} {p s q : Hd} (h : Eb w E e p s q) : w.cell? ⟨E, 15, none⟩ = some (.int .i64 e.md) := by simp [World.cell?, show w.heap[E]? = _ from h, edCells]
theorem Eb.c16 {w : World} {E : Nat} {e : PEd} {p s q : Hd} (h : Eb w E e p s q) : w.cell? ⟨E, 16, none⟩ = some (.int .i64 e.me) := by simp [World.cell?, show w.heap[E]? = _ from h, edCells]
theorem Eb.c17 {w : World} {E : Nat} {e : PEd} {p s q : Hd} (h : Eb w E e p s q) : w.cell? ⟨E, 17, none⟩ = some (.int .i64 e.mf) := by simp [World.cell?, show w.heap[E]? = _ from h, edCells]
set_option maxRecDepth 100000 in
set_option maxHeartbeats 3200000 in
theorem place_no (B R : Nat) (x y z : Int) (h : Hd) (ls : List Loc) (e : PEd) (p s q : Hd) (w : World) (W : Whole B w R x y z h ls) {z0 : Int} (G : Good z0 (er ls)) {f : Int} (f0 : f ≠ 0) (kv : kindV e.id 0 (sps 0 R 3 0 h.b h.o 0 ls) = (none, f)) (pe : placeP (er ls) e = .error f) :
    Calls Tryz.prog 53 #[.pointer (some ⟨R, 0, none⟩), edV e p s q] w fun en w' => Edited B w R x y z (placeP (er ls) e) en w' := by
  have A := Lib.hid pe
  have HC : cnt ls ≤ 4096 := by rw [cnt_eq]; exact G.cnt
  have E0 := Lib.hid (Eb.new w e p s q)
  have K0 := Lib.hid ((Keeps.refl none' w).alloc (.cells (edCells e p s q).toArray 38))
  have KD := kind53 R x y z h ls e.id 0 (w.alloc (.cells (edCells e p s q).toArray 38)) (W.later K0.out).doc ((W.later K0.out).docV) (by omega)
  rw [kv] at KD
  have KN := Lib.hid KD
  have f1 : (f != 0) = true := by simpa using f0
  clear W G kv pe f0 KD HC
  unfold edV
  obtain ⟨EV, hEV⟩ : ∃ EV, EV = (edCells e p s q).toArray := ⟨_, rfl⟩
  rw [← hEV]
  rw [← hEV] at E0 K0 KN
  clear hEV
  go_enter Tryz.func53, Tryz.ntmps53
  go_upto_region 1 with (fail)
  generalize w.alloc (.cells EV 38) = w1 at *
  obtain ⟨E, hE⟩ : ∃ E, E = w.heap.size := ⟨_, rfl⟩
  rw [← hE] at E0
  rw [← hE]
  clear hE
  have e1 := E0.out.c1
  go_wp2_with ((with_reducible refine KN.out.mono ?_); rintro en w2 ⟨rfl, hk⟩; have K2 := Lib.hid (K0.out.next hk); clear hk)
  go_ret
  exact Edited.err A.out K2.out
set_option maxRecDepth 100000 in
set_option maxHeartbeats 3200000 in
theorem place_yes (B R : Nat) (x y z : Int) (e : PEd) (p s q : Hd) (w : World) (C : List Frm) (h' : Hd) (pre post : List Loc) (d : Dat) (lp lm lq lk : Hd) (kids : List Loc)
    (W : Whole B w R x y z (plugH C h') (plugL C h' (pre ++ .mk d lp lm lq lk kids :: post))) (hB : B ≤ w.heap.size) {z0 : Int} (G : Good z0 (er (plugL C h' (pre ++ .mk d lp lm lq lk kids :: post))))
    (hk : d.kind = 0) (h0 : e.id ≠ 0) (kv : kindV e.id 0 (sps 0 R 3 0 (plugH C h').b (plugH C h').o 0 (plugL C h' (pre ++ .mk d lp lm lq lk kids :: post))) = (some ⟨h'.b, h'.o + pre.length * 19, none⟩, 0))
    (hf : fnd e.id (er (plugL C h' (pre ++ .mk d lp lm lq lk kids :: post))) = some ⟨C.map Frm.er, er pre, d, er kids, er post⟩) :
    Calls Tryz.prog 53 #[.pointer (some ⟨R, 0, none⟩), edV e p s q] w fun en w' => Edited B w R x y z (placeP (er (plugL C h' (pre ++ .mk d lp lm lq lk kids :: post))) e) en w' := by
  have HC : cnt (plugL C h' (pre ++ .mk d lp lm lq lk kids :: post)) ≤ 4096 := by rw [cnt_eq]; exact G.cnt
  have HW := Lib.hid W
  have HF := Lib.hid hf
  have E0 := Lib.hid (Eb.new w e p s q)
  have K0 := Lib.hid ((Keeps.refl none' w).alloc (.cells (edCells e p s q).toArray 38))
  have KD := kind53 R x y z (plugH C h') _ e.id 0 (w.alloc (.cells (edCells e p s q).toArray 38)) (W.later K0.out).doc ((W.later K0.out).docV) (by omega)
  rw [kv] at KD
  have KN := Lib.hid KD
  have HB := Lib.hid hB
  have LS := Lib.hid (lay_spot W)
  have HK := Lib.hid (And.intro hk h0)
  clear W G kv hf KD HC hB hk h0
  unfold edV
  obtain ⟨EV, hEV⟩ : ∃ EV, EV = (edCells e p s q).toArray := ⟨_, rfl⟩
  rw [← hEV]
  rw [← hEV] at E0 K0 KN
  clear hEV
  obtain ⟨RES, hRES⟩ : ∃ RES, RES = placeP (er (plugL C h' (pre ++ .mk d lp lm lq lk kids :: post))) e := ⟨_, rfl⟩
  rw [← hRES]
  have HS := Lib.hid hRES
  clear hRES
  obtain ⟨LO, hLO⟩ : ∃ LO, LO = h'.o + pre.length * 19 := ⟨_, rfl⟩
  rw [← hLO] at KN
  have HLO := Lib.hid hLO
  clear hLO
  obtain ⟨LB, hLB⟩ : ∃ LB, LB = h'.b := ⟨_, rfl⟩
  rw [← hLB] at KN
  have HLB := Lib.hid hLB
  clear hLB
  go_enter Tryz.func53, Tryz.ntmps53
  go_upto_region 1 with (fail)
  generalize w.alloc (.cells EV 38) = w1 at *
  obtain ⟨E, hE⟩ : ∃ E, E = w.heap.size := ⟨_, rfl⟩
  rw [← hE] at E0
  rw [← hE]
  have HE := Lib.hid hE
  clear hE
  have e1 := E0.out.c1
  go_upto_region 4 with ((with_reducible refine KN.out.mono ?_); rintro en w2 ⟨rfl, hk⟩; have K2 := Lib.hid (K0.out.next hk); have E2 := Lib.hid (E0.out.later hk); have K12 := Lib.hid hk; clear hk)
  clear e1 KN E0 K0
  have L2 := Lib.hid (LS.out.later K2.out)
  have e4 := E2.out.c4
  have e5 := E2.out.c5
  have nE : LB ≠ E := by
    have h1 := LS.out.lt
    rw [HLB.out, HE.out]
    omega
  have nE' : E ≠ LB := fun h => nE h.symm
  have U1 := Lib.hid (fun w' => upto46 e.n 1 w')
  cases u1 : uptoB e.n 1 with
  | false =>
    have ER := Lib.hid (show RES = .error 32 from by
      rw [HS.out]
      unfold placeP
      rw [if_neg HK.out.2, HF.out]
      simp only [show d.kind = 0 from HK.out.1, u1, if_true])
    unfold uptoB at u1
    rw [u1] at U1
    clear u1
    go_wp2_with ((with_reducible refine (U1.out _).mono ?_); rintro en w3 ⟨rfl, hw⟩; subst hw)
    go_ret
    exact Edited.err ER.out K2.out
  | true =>
  have ER1 := Lib.hid (show RES = if (Ax.Af.backE (mapOf e)).2 ≠ 0 then .error (Ax.Af.backE (mapOf e)).2 else .ok (plugP (C.map Frm.er) (er pre ++ .mk (setMap d e (decide (e.n = 1))) (er kids) :: er post)) from by
    rw [HS.out]
    unfold placeP
    rw [if_neg HK.out.2, HF.out]
    simp only [show d.kind = 0 from HK.out.1, u1, if_true]
    rfl)
  unfold uptoB at u1
  rw [u1] at U1
  clear u1 e5
  have cb := fun w' => Ax.back_any ⟨e.ma, e.mb, e.mc, e.md, e.me, e.mf⟩ w'
  unfold Ax.Told at cb
  dsimp only at cb
  rw [show (⟨e.ma, e.mb, e.mc, e.md, e.me, e.mf⟩ : Ax.Af.M) = mapOf e from rfl] at cb
  obtain ⟨r, hr⟩ : ∃ r, r = Ax.Af.backE (mapOf e) := ⟨_, rfl⟩
  rw [← hr] at cb ER1
  obtain ⟨⟨ra, rb, rc, rd, re, rf⟩, fb⟩ := r
  dsimp only at cb ER1
  have CB := Lib.hid cb
  clear cb hr
  have e12 := E2.out.c12
  have e13 := E2.out.c13
  have e14 := E2.out.c14
  have e15 := E2.out.c15
  have e16 := E2.out.c16
  have e17 := E2.out.c17
  go_upto_region 7 with (first
    | ((with_reducible refine (U1.out _).mono ?_); rintro en w3 ⟨rfl, hw⟩; subst hw)
    | ((with_reducible refine (CB.out _).mono ?_); rintro en w3 ⟨rfl, hk⟩; have K3 := Lib.hid (ax_keeps hk); clear hk))
  have k4 := K3.out.alloc (.cells #[.int .i64 ra, .int .i64 rb, .int .i64 rc, .int .i64 rd, .int .i64 re, .int .i64 rf] 36)
  have E4 := Lib.hid (E2.out.later k4)
  have K4 := Lib.hid (K2.out.next k4)
  have L4 := Lib.hid (LS.out.later K4.out)
  clear e4 e12 e13 e14 e15 e16 e17 k4 E2 L2 CB U1 K3
  generalize w3.alloc (.cells #[.int .i64 ra, .int .i64 rb, .int .i64 rc, .int .i64 rd, .int .i64 re, .int .i64 rf] 36) = w4 at *
  by_cases hf : fb = 0
  · subst hf
    have ER := Lib.hid (show RES = .ok (plugP (C.map Frm.er) (er pre ++ .mk (setMap d e (decide (e.n = 1))) (er kids) :: er post)) from by rw [ER1.out]; simp)
    clear ER1
    obtain ⟨b, hb⟩ : ∃ b, b = decide (e.n = 1) := ⟨_, rfl⟩
    have b1 : (e.n == 1) = b := by rw [hb]; simp [Bool.beq_eq_decide_eq]
    have b2 : decide (e.n = 1) = b := hb.symm
    rw [b2] at ER
    clear hb
    have e4 := E4.out.c4
    have e12 := E4.out.c12
    have e13 := E4.out.c13
    have e14 := E4.out.c14
    have e15 := E4.out.c15
    have e16 := E4.out.c16
    have e17 := E4.out.c17
    have x9 : w4.cell? ⟨LB, LO + 9, none⟩ = some (.int .i64 d.ma) := by rw [HLB.out, HLO.out]; exact L4.out.cell 9 _ rfl
    have f9 : w4.frozen? ⟨LB, LO + 9, none⟩ = false := by rw [HLB.out]; exact L4.out.fr _
    have x10 : w4.cell? ⟨LB, LO + 10, none⟩ = some (.int .i64 d.mb) := by rw [HLB.out, HLO.out]; exact L4.out.cell 10 _ rfl
    have f10 : w4.frozen? ⟨LB, LO + 10, none⟩ = false := by rw [HLB.out]; exact L4.out.fr _
    have x11 : w4.cell? ⟨LB, LO + 11, none⟩ = some (.int .i64 d.mc) := by rw [HLB.out, HLO.out]; exact L4.out.cell 11 _ rfl
    have f11 : w4.frozen? ⟨LB, LO + 11, none⟩ = false := by rw [HLB.out]; exact L4.out.fr _
    have x12 : w4.cell? ⟨LB, LO + 12, none⟩ = some (.int .i64 d.md) := by rw [HLB.out, HLO.out]; exact L4.out.cell 12 _ rfl
    have f12 : w4.frozen? ⟨LB, LO + 12, none⟩ = false := by rw [HLB.out]; exact L4.out.fr _
    have x13 : w4.cell? ⟨LB, LO + 13, none⟩ = some (.int .i64 d.me) := by rw [HLB.out, HLO.out]; exact L4.out.cell 13 _ rfl
    have f13 : w4.frozen? ⟨LB, LO + 13, none⟩ = false := by rw [HLB.out]; exact L4.out.fr _
    have x14 : w4.cell? ⟨LB, LO + 14, none⟩ = some (.int .i64 d.mf) := by rw [HLB.out, HLO.out]; exact L4.out.cell 14 _ rfl
    have f14 : w4.frozen? ⟨LB, LO + 14, none⟩ = false := by rw [HLB.out]; exact L4.out.fr _
    have x15 : w4.cell? ⟨LB, LO + 15, none⟩ = some (.bool d.smooth) := by rw [HLB.out, HLO.out]; exact L4.out.cell 15 _ rfl
    have f15 : w4.frozen? ⟨LB, LO + 15, none⟩ = false := by rw [HLB.out]; exact L4.out.fr _
    go_upto_region 9 with (fail)
    go_region
    all_goals go_wp2_with fail
    all_goals go_ret
    obtain ⟨wa, ka⟩ := turn0 (d' := { d with ma := e.ma }) (j := 9) (u := .int .i64 e.ma) HW.out K4.out (by omega) rfl rfl rfl rfl rfl HB.out
    obtain ⟨wb, kb⟩ := turn0 (d' := { d with ma := e.ma, mb := e.mb }) (j := 10) (u := .int .i64 e.mb) wa (Keeps.refl none' _) (by omega) rfl rfl rfl rfl rfl (Nat.le_trans HB.out ka.size)
    have kb' := ka.trans kb (fun i _ e => e)
    obtain ⟨wc, kc⟩ := turn0 (d' := { d with ma := e.ma, mb := e.mb, mc := e.mc }) (j := 11) (u := .int .i64 e.mc) wb (Keeps.refl none' _) (by omega) rfl rfl rfl rfl rfl (Nat.le_trans HB.out kb'.size)
    have kc' := kb'.trans kc (fun i _ e => e)
    obtain ⟨wd, kd⟩ := turn0 (d' := { d with ma := e.ma, mb := e.mb, mc := e.mc, md := e.md }) (j := 12) (u := .int .i64 e.md) wc (Keeps.refl none' _) (by omega) rfl rfl rfl rfl rfl (Nat.le_trans HB.out kc'.size)
    have kd' := kc'.trans kd (fun i _ e => e)
    obtain ⟨we, ke⟩ := turn0 (d' := { d with ma := e.ma, mb := e.mb, mc := e.mc, md := e.md, me := e.me }) (j := 13) (u := .int .i64 e.me) wd (Keeps.refl none' _) (by omega) rfl rfl rfl rfl rfl (Nat.le_trans HB.out kd'.size)
    have ke' := kd'.trans ke (fun i _ e => e)
    obtain ⟨wf, kf⟩ := turn0 (d' := { d with ma := e.ma, mb := e.mb, mc := e.mc, md := e.md, me := e.me, mf := e.mf }) (j := 14) (u := .int .i64 e.mf) we (Keeps.refl none' _) (by omega) rfl rfl rfl rfl rfl (Nat.le_trans HB.out ke'.size)
    have kf' := ke'.trans kf (fun i _ e => e)
    obtain ⟨wg, kg⟩ := turn0 (d' := setMap d e b) (j := 15) (u := .bool b) wf (Keeps.refl none' _) (by omega) rfl rfl rfl rfl rfl (Nat.le_trans HB.out kf'.size)
    have kg' := kf'.trans kg (fun i _ e => e)
    rw [← HLB.out, ← HLO.out] at wg kg'
    exact Edited.good ER.out (by rw [er_plug, er_append, er_cons]; rfl) (wg.later ((Keeps.refl none' _).drew)) ((keeps_weak kg' (fun q _ e => by have h1 := LS.out.low; rw [← HLB.out] at h1; have e' : q = LB := e; omega)).drew)
  · have f1 : (fb == 0) = false := by simpa using hf
    have f2 : (fb != 0) = true := by simpa using hf
    have ER := Lib.hid (show RES = .error fb from by rw [ER1.out, if_pos hf])
    clear hf ER1
    go_wp2_with fail
    go_ret
    exact Edited.err ER.out K4.out
theorem place37 (B R : Nat) (x y z : Int) (h : Hd) (ls : List Loc) (e : PEd) (p s q : Hd) (w : World) (W : Whole B w R x y z h ls) {z0 : Int} (G : Good z0 (er ls)) (hB : B ≤ w.heap.size) :
    Calls Tryz.prog 53 #[.pointer (some ⟨R, 0, none⟩), edV e p s q] w fun en w' => Edited B w R x y z (placeP (er ls) e) en w' := by
  rcases kind_lay e.id 0 R h ls with ⟨f, f0, kv, hf⟩ | ⟨C, pre, l, post, h', h0, a1, a2, a3, hk, a4⟩
  · refine place_no B R x y z h ls e p s q w W G f0 kv ?_
    unfold placeP
    rcases hf with ⟨h1, h2⟩ | ⟨h1, h2, h3⟩ | ⟨h1, h2, r, h3, h4⟩
    · rw [if_pos h1, h2]
    · rw [if_neg h1, h2, h3]
    · rw [if_neg h1, h3, h2]
      simp only [if_neg h4]
  · obtain ⟨d, lp, lm, lq, lk, kids⟩ := l
    subst a2 a3
    exact place_yes B R x y z e p s q w C h' pre post d lp lm lq lk kids W hB G hk h0 a4 a1
end Go.Proofs.YtfcpbpfemmdklaaGreat.Tr

/- Is it a table? An adjustment's table. (printed by genZY.py) -/
namespace Go.Proofs.YtfcpbpfemmdklaaGreat.Tr
open Go.RowKit Go.Lib
set_option linter.unusedSimpArgs false
set_option linter.unusedVariables false

theorem turn2 {B : Nat} {w w5 : World} {R : Nat} {x y z : Int} {C : List Frm} {h : Hd} {pre post : List Loc} {d d1 d' : Dat} {p m q k m' q' : Hd} {kids : List Loc} {j1 j2 : Nat} {u1 u2 : Value}
    (W : Whole B w R x y z (plugH C h) (plugL C h (pre ++ .mk d p m q k kids :: post))) (kk : Keeps none' w w5) (hj1 : j1 < 19) (hj2 : j2 < 19) (hu1 : u1.oneCell' = true) (hu2 : u2.oneCell' = true)
    (hc1 : (cells19 d p m q k).set j1 u1 = cells19 d1 p m q k) (hc2 : (cells19 d1 p m q k).set j2 u2 = cells19 d' p m' q' k) (hp : d'.p = d.p)
    (om : OldNew w w5 5 m m' (bytes d.mask) (bytes d'.mask)) (oq : OldNew w w5 3 q q' (ints d.pars) (ints d'.pars)) (one : m' = m ∨ q' = q) (hB : B ≤ w.heap.size) :
    Whole B ((w5.setCell ⟨h.b, h.o + pre.length * 19 + j1, none⟩ u1).setCell ⟨h.b, h.o + pre.length * 19 + j2, none⟩ u2) R x y z (plugH C h) (plugL C h (pre ++ .mk d' p m' q' k kids :: post)) ∧
    Keeps (fun b => b = h.b) w ((w5.setCell ⟨h.b, h.o + pre.length * 19 + j1, none⟩ u1).setCell ⟨h.b, h.o + pre.length * 19 + j2, none⟩ u2) := by
  have k2 : Keeps (fun b => b = h.b) w ((w5.setCell ⟨h.b, h.o + pre.length * 19 + j1, none⟩ u1).setCell ⟨h.b, h.o + pre.length * 19 + j2, none⟩ u2) :=
    ((keeps_weak kk (fun q _ e => e.elim)).trans (keeps_at w5 h.b _ u1) (fun i _ e => e)).trans (keeps_at _ h.b _ u2) (fun i _ e => e)
  have hlt : h.b < w.heap.size := by
    obtain ⟨rowh, -, -⟩ := W.ctx
    obtain ⟨g, n, c, rfl⟩ := row_some rowh
    exact (rowh.range g (List.mem_singleton.2 rfl)).2
  refine ⟨turn_whole W ?_ k2 hp (oldnew_set (oldnew_set om hlt) hlt) (oldnew_set (oldnew_set oq hlt) hlt) one hB, k2⟩
  obtain ⟨rowh, -, -⟩ := W.ctx
  have r1 := (rowh.later kk).set1 (i := pre.length * 19 + j1) (v := u1) (w' := w5.setCell ⟨h.b, h.o + pre.length * 19 + j1, none⟩ u1) (flat_len19 pre post d p m q k kids j1 hj1) hu1 (by rw [Nat.add_assoc])
  rw [flat_set pre d d1 p m q k m q kids post j1 u1 hc1 hj1] at r1
  have r2 := r1.set1 (i := pre.length * 19 + j2) (v := u2) (w' := (w5.setCell ⟨h.b, h.o + pre.length * 19 + j1, none⟩ u1).setCell ⟨h.b, h.o + pre.length * 19 + j2, none⟩ u2) (flat_len19 pre post d1 p m q k kids j2 hj2) hu2 (by rw [Nat.add_assoc h.o (pre.length * 19) j2])
  rw [flat_set pre d1 d' p m q k m' q' kids post j2 u2 hc2 hj2] at r2
  exact r2
/-- Whole numbers of 64 bits. -/
def In64 (l : List Int) : Prop := ∀ z ∈ l, -9223372036854775808 ≤ z ∧ z ≤ 9223372036854775807
theorem pi_ints {w : World} {q : Hd} {l : List Int} (D : ReadR w 3 1 q (ints l)) (b : In64 l) : Pi.Ints w q.a q.n l := by
  refine ⟨?_, b, fun hn => ?_⟩
  · have := D.1.len
    simpa [ints] using this
  · obtain ⟨a, n, c⟩ := q
    cases a with
    | none =>
      have h1 : n = 0 := (D.1.abs rfl).1
      simp only at hn
      omega
    | some x =>
      obtain ⟨h1, h2, h3⟩ := D.1.at' x rfl
      obtain ⟨b, o, sp⟩ := x
      simp only at h1
      subst h1
      refine ⟨b, o, rfl, fun j z hj => h3 j _ ?_⟩
      unfold ints
      rw [List.getElem?_map, hj]
      rfl
set_option maxRecDepth 100000 in
set_option maxHeartbeats 400000 in
theorem table60 (n : Int) (q : Hd) (l : List Int) (w : World) (D : ReadR w 3 1 q (ints l)) (b : In64 l) (hn : q.n ≤ 16777216) :
    Calls Tryz.prog 87 #[.int .i64 n, .slice q.a q.n q.c] w fun en w' => en = .returned (.bool (tabB n l)) ∧ Keeps none' w w' := by
  have P := pi_ints D b
  cases ht : tabB n l with
  | false =>
    have C := Lib.hid (Pi.table_no w q.a q.n q.c l hn P n (fun h => by rw [tabB_true.2 h] at ht; cases ht))
    clear P D b ht
    go_enter Tryz.func87, Tryz.ntmps87
    go_wp2_with ((with_reducible refine C.out.mono ?_); rintro en w2 ⟨rfl, hk⟩; have K := Lib.hid (pi_keeps hk); clear hk)
    go_ret
    exact ⟨rfl, K.out⟩
  | true =>
    have C := Lib.hid (Pi.table_yes w q.a q.n q.c l hn D.1.cap P n (tabB_true.1 ht))
    clear P D b ht
    go_enter Tryz.func87, Tryz.ntmps87
    go_wp2_with ((with_reducible refine C.out.mono ?_); rintro en w2 ⟨T, rfl, ht, hk, hT⟩; have K := Lib.hid (pi_keeps hk); clear hk ht hT)
    go_ret
    exact ⟨rfl, K.out⟩
set_option maxRecDepth 100000 in
set_option maxHeartbeats 3200000 in
theorem adjust_no (B R : Nat) (x y z : Int) (h : Hd) (ls : List Loc) (e : PEd) (p s q : Hd) (w : World) (W : Whole B w R x y z h ls) {z0 : Int} (G : Good z0 (er ls)) {f : Int} (f0 : f ≠ 0) (kv : kindV e.id 2 (sps 0 R 3 0 h.b h.o 0 ls) = (none, f)) (pe : adjustP (er ls) e = .error f) :
    Calls Tryz.prog 54 #[.pointer (some ⟨R, 0, none⟩), edV e p s q] w fun en w' => Edited B w R x y z (adjustP (er ls) e) en w' := by
  have A := Lib.hid pe
  have HC : cnt ls ≤ 4096 := by rw [cnt_eq]; exact G.cnt
  have E0 := Lib.hid (Eb.new w e p s q)
  have K0 := Lib.hid ((Keeps.refl none' w).alloc (.cells (edCells e p s q).toArray 38))
  have KD := kind53 R x y z h ls e.id 2 (w.alloc (.cells (edCells e p s q).toArray 38)) (W.later K0.out).doc ((W.later K0.out).docV) (by omega)
  rw [kv] at KD
  have KN := Lib.hid KD
  have f1 : (f != 0) = true := by simpa using f0
  clear W G kv pe f0 KD HC
  unfold edV
  obtain ⟨EV, hEV⟩ : ∃ EV, EV = (edCells e p s q).toArray := ⟨_, rfl⟩
  rw [← hEV]
  rw [← hEV] at E0 K0 KN
  clear hEV
  go_enter Tryz.func54, Tryz.ntmps54
  go_upto_region 1 with (fail)
  generalize w.alloc (.cells EV 38) = w1 at *
  obtain ⟨E, hE⟩ : ∃ E, E = w.heap.size := ⟨_, rfl⟩
  rw [← hE] at E0
  rw [← hE]
  clear hE
  have e1 := E0.out.c1
  go_wp2_with ((with_reducible refine KN.out.mono ?_); rintro en w2 ⟨rfl, hk⟩; have K2 := Lib.hid (K0.out.next hk); clear hk)
  go_ret
  exact Edited.err A.out K2.out
set_option maxRecDepth 100000 in
set_option maxHeartbeats 3200000 in
theorem adjust_yes (B R : Nat) (x y z : Int) (e : PEd) (p s q : Hd) (w : World) (C : List Frm) (h' : Hd) (pre post : List Loc) (d : Dat) (lp lm lq lk : Hd) (kids : List Loc)
    (W : Whole B w R x y z (plugH C h') (plugL C h' (pre ++ .mk d lp lm lq lk kids :: post))) (hB : B ≤ w.heap.size) {z0 : Int} (G : Good z0 (er (plugL C h' (pre ++ .mk d lp lm lq lk kids :: post))))
    (QP0 : ReadR w 3 1 q (ints e.pars) ∧ In64 e.pars ∧ q.n ≤ 16777216) (hk : d.kind = 2) (h0 : e.id ≠ 0) (kv : kindV e.id 2 (sps 0 R 3 0 (plugH C h').b (plugH C h').o 0 (plugL C h' (pre ++ .mk d lp lm lq lk kids :: post))) = (some ⟨h'.b, h'.o + pre.length * 19, none⟩, 0))
    (hf : fnd e.id (er (plugL C h' (pre ++ .mk d lp lm lq lk kids :: post))) = some ⟨C.map Frm.er, er pre, d, er kids, er post⟩) :
    Calls Tryz.prog 54 #[.pointer (some ⟨R, 0, none⟩), edV e p s q] w fun en w' => Edited B w R x y z (adjustP (er (plugL C h' (pre ++ .mk d lp lm lq lk kids :: post))) e) en w' := by
  have QP := Lib.hid QP0
  have HC : cnt (plugL C h' (pre ++ .mk d lp lm lq lk kids :: post)) ≤ 4096 := by rw [cnt_eq]; exact G.cnt
  have HW := Lib.hid W
  have HF := Lib.hid hf
  have E0 := Lib.hid (Eb.new w e p s q)
  have K0 := Lib.hid ((Keeps.refl none' w).alloc (.cells (edCells e p s q).toArray 38))
  have KD := kind53 R x y z (plugH C h') _ e.id 2 (w.alloc (.cells (edCells e p s q).toArray 38)) (W.later K0.out).doc ((W.later K0.out).docV) (by omega)
  rw [kv] at KD
  have KN := Lib.hid KD
  have HB := Lib.hid hB
  have LS := Lib.hid (lay_spot W)
  have HK := Lib.hid (And.intro hk h0)
  clear W G kv hf KD HC hB hk h0 QP0
  unfold edV
  obtain ⟨EV, hEV⟩ : ∃ EV, EV = (edCells e p s q).toArray := ⟨_, rfl⟩
  rw [← hEV]
  rw [← hEV] at E0 K0 KN
  clear hEV
  obtain ⟨RES, hRES⟩ : ∃ RES, RES = adjustP (er (plugL C h' (pre ++ .mk d lp lm lq lk kids :: post))) e := ⟨_, rfl⟩
  rw [← hRES]
  have HS := Lib.hid hRES
  clear hRES
  obtain ⟨LO, hLO⟩ : ∃ LO, LO = h'.o + pre.length * 19 := ⟨_, rfl⟩
  rw [← hLO] at KN
  have HLO := Lib.hid hLO
  clear hLO
  obtain ⟨LB, hLB⟩ : ∃ LB, LB = h'.b := ⟨_, rfl⟩
  rw [← hLB] at KN
  have HLB := Lib.hid hLB
  clear hLB
  go_enter Tryz.func54, Tryz.ntmps54
  go_upto_region 1 with (fail)
  generalize w.alloc (.cells EV 38) = w1 at *
  obtain ⟨E, hE⟩ : ∃ E, E = w.heap.size := ⟨_, rfl⟩
  rw [← hE] at E0
  rw [← hE]
  have HE := Lib.hid hE
  clear hE
  have e1 := E0.out.c1
  go_upto_region 4 with ((with_reducible refine KN.out.mono ?_); rintro en w2 ⟨rfl, hk⟩; have K2 := Lib.hid (K0.out.next hk); have E2 := Lib.hid (E0.out.later hk); have K12 := Lib.hid hk; clear hk)
  clear e1 KN E0 K0
  have L2 := Lib.hid (LS.out.later K2.out)
  have e4 := E2.out.c4
  have e5 := E2.out.c5
  have nE : LB ≠ E := by
    have h1 := LS.out.lt
    rw [HLB.out, HE.out]
    omega
  have nE' : E ≠ LB := fun h => nE h.symm
  clear e5
  have e18 := E2.out.c18
  have U1 := Lib.hid (table60 e.n q e.pars w2 (QP.out.1.keep K2.out (fun _ _ h => h)) QP.out.2.1 QP.out.2.2)
  cases u1 : tabB e.n e.pars with
  | false =>
    have ER := Lib.hid (show RES = .error 32 from by
      rw [HS.out]
      unfold adjustP
      rw [if_neg HK.out.2, HF.out]
      simp only [show d.kind = 2 from HK.out.1, u1, if_true])
    rw [u1] at U1
    clear u1
    go_wp2_with ((with_reducible refine U1.out.mono ?_); rintro en w3 ⟨rfl, hk⟩; have K3 := Lib.hid (K2.out.next hk); clear hk)
    go_ret
    exact Edited.err ER.out K3.out
  | true =>
  have ER := Lib.hid (show RES = .ok (plugP (C.map Frm.er) (er pre ++ .mk (setTab d e.n e.pars) (er kids) :: er post)) from by
    rw [HS.out]
    unfold adjustP
    rw [if_neg HK.out.2, HF.out]
    simp only [show d.kind = 2 from HK.out.1, u1, if_true]
    rfl)
  rw [u1] at U1
  clear u1
  go_upto_region 6 with ((with_reducible refine U1.out.mono ?_); rintro en w3 ⟨rfl, hk⟩; have K3 := Lib.hid (K2.out.next hk); have E3 := Lib.hid (E2.out.later hk); clear hk)
  have L3 := Lib.hid (LS.out.later K3.out)
  clear e4 e18 E2 L2 U1
  have e4 := E3.out.c4
  have e18 := E3.out.c18
  have x16 : w3.cell? ⟨LB, LO + 16, none⟩ = some (.int .i64 d.table) := by rw [HLB.out, HLO.out]; exact L3.out.cell 16 _ rfl
  have x17 : w3.cell? ⟨LB, LO + 17, none⟩ = some (.slice lq.a lq.n lq.c) := by rw [HLB.out, HLO.out]; exact L3.out.cell 17 _ rfl
  have f16 : w3.frozen? ⟨LB, LO + 16, none⟩ = false := by rw [HLB.out]; exact L3.out.fr _
  have f17 : w3.frozen? ⟨LB, LO + 17, none⟩ = false := by rw [HLB.out]; exact L3.out.fr _
  have DE := Lib.hid (show Calls Tryz.prog 63 #[.slice q.a q.n q.c] w3.drew (fun en w' => ∃ q1 : Hd, en = .returned (.slice q1.a q1.n q1.c) ∧ OwnR w3.heap.size w' 3 1 q1 (ints e.pars) ∧ Keeps none' w3 w' ∧ w'.cell? ⟨E, 4, none⟩ = some (.int .i64 e.n) ∧ w'.cell? ⟨E, 18, none⟩ = some (.slice q.a q.n q.c) ∧ w'.cell? ⟨LB, LO + 16, none⟩ = some (.int .i64 d.table) ∧ w'.cell? ⟨LB, LO + 17, none⟩ = some (.slice lq.a lq.n lq.c) ∧ w'.frozen? ⟨LB, LO + 16, none⟩ = false ∧ w'.frozen? ⟨LB, LO + 17, none⟩ = false) from by
    have RQ := QP.out.1.keep K3.out.drew (fun _ _ h => h)
    refine (clone_ints q (ints e.pars) w3.drew RQ.1 RQ.2).mono ?_
    rintro en w' ⟨v', rfl, hv, hk⟩
    obtain ⟨q1, rfl, ho⟩ := clone_own hv (ints_one _) RQ.2
    have k : Keeps none' w3 w' := (Keeps.refl none' w3).drew.next hk
    have L := L3.out.later k
    refine ⟨q1, rfl, ho, k, k.cell e4, k.cell e18, k.cell x16, k.cell x17, ?_, ?_⟩
    · rw [HLB.out]; exact L.fr _
    · rw [HLB.out]; exact L.fr _)
  go_region_law (go_simp; (with_reducible refine DE.out.mono ?_); rintro en w5 ⟨q1, rfl, ho, k5, g4, g18, y16, y17, z16, z17⟩)
  all_goals go_wp2_with fail
  all_goals go_ret
  all_goals
    obtain ⟨wa, ka⟩ := turn2 (d1 := { d with table := e.n }) (d' := setTab d e.n e.pars) (m' := lm) (q' := q1) (j1 := 16) (j2 := 17) (u1 := .int .i64 e.n) (u2 := .slice q1.a q1.n q1.c) HW.out (K3.out.next k5) (by omega) (by omega) rfl rfl rfl rfl rfl (.inl ⟨rfl, rfl⟩) (.inr (ho.low K3.out.size)) (.inl rfl) HB.out
    rw [← HLB.out, ← HLO.out] at wa ka
    exact Edited.good ER.out (by rw [er_plug, er_append, er_cons]; rfl) wa (keeps_weak ka (fun q _ e => by have h1 := LS.out.low; rw [← HLB.out] at h1; have e' : q = LB := e; omega))
theorem adjust38 (B R : Nat) (x y z : Int) (h : Hd) (ls : List Loc) (e : PEd) (p s q : Hd) (w : World) (W : Whole B w R x y z h ls) {z0 : Int} (G : Good z0 (er ls)) (hB : B ≤ w.heap.size) (QP0 : ReadR w 3 1 q (ints e.pars) ∧ In64 e.pars ∧ q.n ≤ 16777216) :
    Calls Tryz.prog 54 #[.pointer (some ⟨R, 0, none⟩), edV e p s q] w fun en w' => Edited B w R x y z (adjustP (er ls) e) en w' := by
  rcases kind_lay e.id 2 R h ls with ⟨f, f0, kv, hf⟩ | ⟨C, pre, l, post, h', h0, a1, a2, a3, hk, a4⟩
  · refine adjust_no B R x y z h ls e p s q w W G f0 kv ?_
    unfold adjustP
    rcases hf with ⟨h1, h2⟩ | ⟨h1, h2, h3⟩ | ⟨h1, h2, r, h3, h4⟩
    · rw [if_pos h1, h2]
    · rw [if_neg h1, h2, h3]
    · rw [if_neg h1, h3, h2]
      simp only [if_neg h4]
  · obtain ⟨d, lp, lm, lq, lk, kids⟩ := l
    subst a2 a3
    exact adjust_yes B R x y z e p s q w C h' pre post d lp lm lq lk kids W hB G QP0 hk h0 a4 a1
end Go.Proofs.YtfcpbpfemmdklaaGreat.Tr
