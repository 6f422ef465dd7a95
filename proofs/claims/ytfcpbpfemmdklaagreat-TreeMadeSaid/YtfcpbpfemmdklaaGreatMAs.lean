/- Texts of a layer, one behind the other. -/
import Derived.Test.YtfcpbpfemmdklaaGreatMAm
import Derived.Test.YtfcpbpfemmdklaaGreatMAr
import Derived.Test.YtfcpbpfemmdklaaGreatMAl
import Derived.Test.YtfcpbpfemmdklaaGreatMAi
import Derived.Test.YtfcpbpfemmdklaaGreatMAp
/- Edits whose lists may be empty without lying anywhere: painting, adjusting, Do with them. (printed by genZZB.py) -/
namespace Go.Proofs.YtfcpbpfemmdklaaGreat.Tr
open Go.RowKit Go.Lib
set_option linter.unusedSimpArgs false
set_option linter.unusedVariables false

/-- A row of whole numbers that may be read; or none, wherever it lies. -/
def RdW (w : World) (q : Hd) (l : List Int) : Prop := ReadR w 3 1 q (ints l) ∨ (q.n = 0 ∧ l = [] ∧ ∃ x, q.a = some x)
theorem RdW.keep {w w' : World} {q : Hd} {l : List Int} (h : RdW w q l) (k : Keeps none' w w') : RdW w' q l := by
  rcases h with h | h
  · exact .inl (h.keep k (fun _ _ h => h))
  · exact .inr h
set_option maxRecDepth 100000 in
set_option maxHeartbeats 800000 in
theorem clone_zero (x : Addr) (c : Nat) (w : World) :
    Calls Tryz.prog 63 #[(.slice (some x) 0 c)] w fun e w' => ∃ v', e = .returned v' ∧ w'.ownsRow w.heap.size 3 1 v' 0 [] ∧ Keeps none' w w' := by
  obtain ⟨i0, hi, hz0, hz1, hz2⟩ := info_parts info3
  have q := fun (w : World) (a : Option Addr) (n c n' c' : Nat) => Lib.run_eql_slice_nil (P := Tryz.prog) w 33 3 a n c n' c' Tryz.underlying33
  go_enter Tryz.func63, Tryz.ntmps63
  go_wp2_with (at_builtin; refine wpList_append_own _ rfl _ _ 33 rfl w.heap.size 3 i0 _ 1 8 Tryz.underlying33 hi hz0 hz1 hz2 (by decide) (by decide) _ _ _ rfl (World.ownsRow_made w #[] 0 (Nat.le_refl _) (Nat.zero_le _) (by simp)) x 0 c [] rfl ?qc1 ?qc2 ?qc3 ?qc4 ?qc5 ?qc6 ?_)
  case qc1 => rfl
  case qc2 => intro j u hj; simp at hj
  case qc3 => intro u hu; cases hu
  case qc4 => unfold maxLen; omega
  case qc5 => omega
  case qc6 => simp
  intro v' w1 hown hgrow hnil
  have K := Lib.hid (Keeps.grown ((Keeps.refl none' w).alloc (.cells #[] 3)) hgrow (fun q hq e => by simp [Value.ownBlock] at e; omega))
  go_wp2_with fail
  go_ret
  exact ⟨v', rfl, by simpa using hown, K.out⟩
theorem clone_w (q : Hd) (l : List Int) (w : World) (D : RdW w q l) :
    Calls Tryz.prog 63 #[(.slice q.a q.n q.c)] w fun e w' => ∃ q1 : Hd, e = .returned (.slice q1.a q1.n q1.c) ∧ OwnR w.heap.size w' 3 1 q1 (ints l) ∧ Keeps none' w w' := by
  rcases D with D | ⟨h1, rfl, x, h2⟩
  · refine (clone_ints q (ints l) w D.1 D.2).mono ?_
    rintro en w' ⟨v', rfl, hv, hk⟩
    obtain ⟨q1, rfl, ho⟩ := clone_own hv (ints_one _) D.2
    exact ⟨q1, rfl, ho, hk⟩
  · rw [h1, h2]
    refine (clone_zero x q.c w).mono ?_
    rintro en w' ⟨v', rfl, hv, hk⟩
    obtain ⟨q1, rfl, ho⟩ := clone_own hv (ints_one []) (by omega)
    exact ⟨q1, rfl, ho, hk⟩
theorem pi_w {w : World} {q : Hd} {l : List Int} (D : RdW w q l) (b : In64 l) : Pi.Ints w q.a q.n l := by
  rcases D with D | ⟨h1, rfl, -⟩
  · exact pi_ints D b
  · rw [h1]
    exact ⟨rfl, b, fun h => by omega⟩
set_option maxRecDepth 100000 in
set_option maxHeartbeats 400000 in
theorem tableW60 (n : Int) (q : Hd) (l : List Int) (w : World) (D : RdW w q l) (b : In64 l) (hn : q.n ≤ 16777216) (hc : q.n ≤ q.c) :
    Calls Tryz.prog 87 #[.int .i64 n, .slice q.a q.n q.c] w fun en w' => en = .returned (.bool (tabB n l)) ∧ Keeps none' w w' := by
  have P := pi_w D b
  cases ht : tabB n l with
  | false =>
    have C := Lib.hid (Pi.table_no w q.a q.n q.c l hn P n (fun h => by rw [tabB_true.2 h] at ht; cases ht))
    clear P D b ht
    go_enter Tryz.func87, Tryz.ntmps87
    go_wp2_with ((with_reducible refine C.out.mono ?_); rintro en w2 ⟨rfl, hk⟩; have K := Lib.hid (pi_keeps hk); clear hk)
    go_ret
    exact ⟨rfl, K.out⟩
  | true =>
    have C := Lib.hid (Pi.table_yes w q.a q.n q.c l hn hc P n (tabB_true.1 ht))
    clear P D b ht
    go_enter Tryz.func87, Tryz.ntmps87
    go_wp2_with ((with_reducible refine C.out.mono ?_); rintro en w2 ⟨T, rfl, ht, hk, hT⟩; have K := Lib.hid (pi_keeps hk); clear hk ht hT)
    go_ret
    exact ⟨rfl, K.out⟩
theorem form_nil {w h : Int} {n : Nat} (hn : n = 0) (X : Int) (hX : sideP w = true → sideP h = true → X = w * h) :
    formP w h [] = false ∧ (sideP w = false ∨ (sideP w = true ∧ sideP h = false) ∨ (sideP w = true ∧ sideP h = true ∧ ((n : Int) != X) = true)) := by
  cases h1 : sideP w with
  | false => exact ⟨by simp [formP, h1], .inl rfl⟩
  | true =>
    cases h2 : sideP h with
    | false => exact ⟨by simp [formP, h1, h2], .inr (.inl ⟨rfl, rfl⟩)⟩
    | true =>
      have e := hX h1 h2
      subst e
      have p1 : 1 ≤ w := by simp [sideP] at h1; omega
      have p2 : 1 ≤ h := by simp [sideP] at h2; omega
      have p3 : 1 ≤ w * h := by
        have := Int.mul_le_mul p1 p2 (by omega) (by omega)
        omega
      refine ⟨?_, .inr (.inr ⟨rfl, rfl, ?_⟩)⟩
      · have : decide ((([] : List Int).length : Int) = w * h) = false := by simp; omega
        simp only [formP, this, Bool.false_and, Bool.and_false]
      · subst hn
        simp
        omega
/-- What painting answers, by the edit. -/
def paintE (ls : List Lay) (e : PEd) : Except Int (List Lay) := paintP ls e.id e.x e.y e.w e.h e.p
set_option maxRecDepth 100000 in
set_option maxHeartbeats 3200000 in
theorem adjustw_yes (B R : Nat) (x y z : Int) (e : PEd) (p s q : Hd) (w : World) (C : List Frm) (h' : Hd) (pre post : List Loc) (d : Dat) (lp lm lq lk : Hd) (kids : List Loc)
    (W : Whole B w R x y z (plugH C h') (plugL C h' (pre ++ .mk d lp lm lq lk kids :: post))) (hB : B ≤ w.heap.size) {z0 : Int} (G : Good z0 (er (plugL C h' (pre ++ .mk d lp lm lq lk kids :: post))))
    (QP0 : RdW w q e.pars ∧ In64 e.pars ∧ q.n ≤ 16777216 ∧ q.n ≤ q.c) (hk : d.kind = 2) (h0 : e.id ≠ 0) (kv : kindV e.id 2 (sps 0 R 3 0 (plugH C h').b (plugH C h').o 0 (plugL C h' (pre ++ .mk d lp lm lq lk kids :: post))) = (some ⟨h'.b, h'.o + pre.length * 19, none⟩, 0))
    (hf : fnd e.id (er (plugL C h' (pre ++ .mk d lp lm lq lk kids :: post))) = some ⟨C.map Frm.er, er pre, d, er kids, er post⟩) :
    Calls Tryz.prog 54 #[.pointer (some ⟨R, 0, none⟩), edV e p s q] w fun en w' => Edited B w R x y z (adjustP (er (plugL C h' (pre ++ .mk d lp lm lq lk kids :: post))) e) en w' := by
  have QP := Lib.hid QP0
  have HC : cnt (plugL C h' (pre ++ .mk d lp lm lq lk kids :: post)) ≤ 4096 := by rw [cnt_eq]; exact G.cnt
  have HW := Lib.hid W
  have HF := Lib.hid hf
  have E0 := Lib.hid (Eb.new w e p s q)
  have K0 := Lib.hid ((Keeps.refl none' w).alloc (.cells (edCells e p s q).toArray 38))
  have KD := kind53 R x y z (plugH C h') _ e.id 2 (w.alloc (.cells (edCells e p s q).toArray 38)) (W.later K0.out).doc ((W.later K0.out).docV) (by omega)
  rw [kv] at KD
  have KN := Lib.hid KD
  have HB := Lib.hid hB
  have LS := Lib.hid (lay_spot W)
  have HK := Lib.hid (And.intro hk h0)
  clear W G kv hf KD HC hB hk h0 QP0
  unfold edV
  obtain ⟨EV, hEV⟩ : ∃ EV, EV = (edCells e p s q).toArray := ⟨_, rfl⟩
  rw [← hEV]
  rw [← hEV] at E0 K0 KN
  clear hEV
  obtain ⟨RES, hRES⟩ : ∃ RES, RES = adjustP (er (plugL C h' (pre ++ .mk d lp lm lq lk kids :: post))) e := ⟨_, rfl⟩
  rw [← hRES]
  have HS := Lib.hid hRES
  clear hRES
  obtain ⟨LO, hLO⟩ : ∃ LO, LO = h'.o + pre.length * 19 := ⟨_, rfl⟩
  rw [← hLO] at KN
  have HLO := Lib.hid hLO
  clear hLO
  obtain ⟨LB, hLB⟩ : ∃ LB, LB = h'.b := ⟨_, rfl⟩
  rw [← hLB] at KN
  have HLB := Lib.hid hLB
  clear hLB
  go_enter Tryz.func54, Tryz.ntmps54
  go_upto_region 1 with (fail)
  generalize w.alloc (.cells EV 38) = w1 at *
  obtain ⟨E, hE⟩ : ∃ E, E = w.heap.size := ⟨_, rfl⟩
  rw [← hE] at E0
  rw [← hE]
  have HE := Lib.hid hE
  clear hE
  have e1 := E0.out.c1
  go_upto_region 4 with ((with_reducible refine KN.out.mono ?_); rintro en w2 ⟨rfl, hk⟩; have K2 := Lib.hid (K0.out.next hk); have E2 := Lib.hid (E0.out.later hk); have K12 := Lib.hid hk; clear hk)
  clear e1 KN E0 K0
  have L2 := Lib.hid (LS.out.later K2.out)
  have e4 := E2.out.c4
  have e5 := E2.out.c5
  have nE : LB ≠ E := by
    have h1 := LS.out.lt
    rw [HLB.out, HE.out]
    omega
  have nE' : E ≠ LB := fun h => nE h.symm
  clear e5
  have e18 := E2.out.c18
  have U1 := Lib.hid (tableW60 e.n q e.pars w2 (QP.out.1.keep K2.out) QP.out.2.1 QP.out.2.2.1 QP.out.2.2.2)
  cases u1 : tabB e.n e.pars with
  | false =>
    have ER := Lib.hid (show RES = .error 32 from by
      rw [HS.out]
      unfold adjustP
      rw [if_neg HK.out.2, HF.out]
      simp only [show d.kind = 2 from HK.out.1, u1, if_true])
    rw [u1] at U1
    clear u1
    go_wp2_with ((with_reducible refine U1.out.mono ?_); rintro en w3 ⟨rfl, hk⟩; have K3 := Lib.hid (K2.out.next hk); clear hk)
    go_ret
    exact Edited.err ER.out K3.out
  | true =>
  have ER := Lib.hid (show RES = .ok (plugP (C.map Frm.er) (er pre ++ .mk (setTab d e.n e.pars) (er kids) :: er post)) from by
    rw [HS.out]
    unfold adjustP
    rw [if_neg HK.out.2, HF.out]
    simp only [show d.kind = 2 from HK.out.1, u1, if_true]
    rfl)
  rw [u1] at U1
  clear u1
  go_upto_region 6 with ((with_reducible refine U1.out.mono ?_); rintro en w3 ⟨rfl, hk⟩; have K3 := Lib.hid (K2.out.next hk); have E3 := Lib.hid (E2.out.later hk); clear hk)
  have L3 := Lib.hid (LS.out.later K3.out)
  clear e4 e18 E2 L2 U1
  have e4 := E3.out.c4
  have e18 := E3.out.c18
  have x16 : w3.cell? ⟨LB, LO + 16, none⟩ = some (.int .i64 d.table) := by rw [HLB.out, HLO.out]; exact L3.out.cell 16 _ rfl
  have x17 : w3.cell? ⟨LB, LO + 17, none⟩ = some (.slice lq.a lq.n lq.c) := by rw [HLB.out, HLO.out]; exact L3.out.cell 17 _ rfl
  have f16 : w3.frozen? ⟨LB, LO + 16, none⟩ = false := by rw [HLB.out]; exact L3.out.fr _
  have f17 : w3.frozen? ⟨LB, LO + 17, none⟩ = false := by rw [HLB.out]; exact L3.out.fr _
  have DE := Lib.hid (show Calls Tryz.prog 63 #[.slice q.a q.n q.c] w3.drew (fun en w' => ∃ q1 : Hd, en = .returned (.slice q1.a q1.n q1.c) ∧ OwnR w3.heap.size w' 3 1 q1 (ints e.pars) ∧ Keeps none' w3 w' ∧ w'.cell? ⟨E, 4, none⟩ = some (.int .i64 e.n) ∧ w'.cell? ⟨E, 18, none⟩ = some (.slice q.a q.n q.c) ∧ w'.cell? ⟨LB, LO + 16, none⟩ = some (.int .i64 d.table) ∧ w'.cell? ⟨LB, LO + 17, none⟩ = some (.slice lq.a lq.n lq.c) ∧ w'.frozen? ⟨LB, LO + 16, none⟩ = false ∧ w'.frozen? ⟨LB, LO + 17, none⟩ = false) from by
    refine (clone_w q e.pars w3.drew (QP.out.1.keep K3.out.drew)).mono ?_
    rintro en w' ⟨q1, rfl, ho, hk⟩
    have k : Keeps none' w3 w' := (Keeps.refl none' w3).drew.next hk
    have L := L3.out.later k
    refine ⟨q1, rfl, ho, k, k.cell e4, k.cell e18, k.cell x16, k.cell x17, ?_, ?_⟩
    · rw [HLB.out]; exact L.fr _
    · rw [HLB.out]; exact L.fr _)
  go_region_law (go_simp; (with_reducible refine DE.out.mono ?_); rintro en w5 ⟨q1, rfl, ho, k5, g4, g18, y16, y17, z16, z17⟩)
  all_goals go_wp2_with fail
  all_goals go_ret
  all_goals
    obtain ⟨wa, ka⟩ := turn2 (d1 := { d with table := e.n }) (d' := setTab d e.n e.pars) (m' := lm) (q' := q1) (j1 := 16) (j2 := 17) (u1 := .int .i64 e.n) (u2 := .slice q1.a q1.n q1.c) HW.out (K3.out.next k5) (by omega) (by omega) rfl rfl rfl rfl rfl (.inl ⟨rfl, rfl⟩) (.inr (ho.low K3.out.size)) (.inl rfl) HB.out
    rw [← HLB.out, ← HLO.out] at wa ka
    exact Edited.good ER.out (by rw [er_plug, er_append, er_cons]; rfl) wa (keeps_weak ka (fun q _ e => by have h1 := LS.out.low; rw [← HLB.out] at h1; have e' : q = LB := e; omega))
theorem adjustw38 (B R : Nat) (x y z : Int) (h : Hd) (ls : List Loc) (e : PEd) (p s q : Hd) (w : World) (W : Whole B w R x y z h ls) {z0 : Int} (G : Good z0 (er ls)) (hB : B ≤ w.heap.size) (QP0 : RdW w q e.pars ∧ In64 e.pars ∧ q.n ≤ 16777216 ∧ q.n ≤ q.c) :
    Calls Tryz.prog 54 #[.pointer (some ⟨R, 0, none⟩), edV e p s q] w fun en w' => Edited B w R x y z (adjustP (er ls) e) en w' := by
  rcases kind_lay e.id 2 R h ls with ⟨f, f0, kv, hf⟩ | ⟨C, pre, l, post, h', h0, a1, a2, a3, hk, a4⟩
  · refine adjust_no B R x y z h ls e p s q w W G f0 kv ?_
    unfold adjustP
    rcases hf with ⟨h1, h2⟩ | ⟨h1, h2, h3⟩ | ⟨h1, h2, r, h3, h4⟩
    · rw [if_pos h1, h2]
    · rw [if_neg h1, h2, h3]
    · rw [if_neg h1, h3, h2]
      simp only [if_neg h4]
  · obtain ⟨d, lp, lm, lq, lk, kids⟩ := l
    subst a2 a3
    exact adjustw_yes B R x y z e p s q w C h' pre post d lp lm lq lk kids W hB G QP0 hk h0 a4 a1
set_option maxRecDepth 100000 in
set_option maxHeartbeats 3200000 in
theorem paintz_no (B R : Nat) (x y z : Int) (h : Hd) (ls : List Loc) (e : PEd) (p s q : Hd) (w : World) (W : Whole B w R x y z h ls) {z0 : Int} (G : Good z0 (er ls)) {f : Int} (f0 : f ≠ 0) (kv : kindV e.id 0 (sps 0 R 3 0 h.b h.o 0 ls) = (none, f)) (pe : paintE (er ls) e = .error f) :
    Calls Tryz.prog 49 #[.pointer (some ⟨R, 0, none⟩), edV e p s q] w fun en w' => Edited B w R x y z (paintE (er ls) e) en w' := by
  have A := Lib.hid pe
  have HC : cnt ls ≤ 4096 := by rw [cnt_eq]; exact G.cnt
  have E0 := Lib.hid (Eb.new w e p s q)
  have K0 := Lib.hid ((Keeps.refl none' w).alloc (.cells (edCells e p s q).toArray 38))
  have KD := kind53 R x y z h ls e.id 0 (w.alloc (.cells (edCells e p s q).toArray 38)) (W.later K0.out).doc ((W.later K0.out).docV) (by omega)
  rw [kv] at KD
  have KN := Lib.hid KD
  have f1 : (f != 0) = true := by simpa using f0
  clear W G kv pe f0 KD HC
  unfold edV
  obtain ⟨EV, hEV⟩ : ∃ EV, EV = (edCells e p s q).toArray := ⟨_, rfl⟩
  rw [← hEV]
  rw [← hEV] at E0 K0 KN
  clear hEV
  go_enter Tryz.func49, Tryz.ntmps49
  go_upto_region 1 with (fail)
  generalize w.alloc (.cells EV 38) = w1 at *
  obtain ⟨E, hE⟩ : ∃ E, E = w.heap.size := ⟨_, rfl⟩
  rw [← hE] at E0
  rw [← hE]
  clear hE
  have e1 := E0.out.c1
  go_wp2_with ((with_reducible refine KN.out.mono ?_); rintro en w2 ⟨rfl, hk⟩; have K2 := Lib.hid (K0.out.next hk); clear hk)
  go_ret
  exact Edited.err A.out K2.out
set_option maxRecDepth 100000 in
set_option maxHeartbeats 3200000 in
theorem paintz_yes (B R : Nat) (x y z : Int) (e : PEd) (p s q : Hd) (w : World) (C : List Frm) (h' : Hd) (pre post : List Loc) (d : Dat) (lp lm lq lk : Hd) (kids : List Loc)
    (W : Whole B w R x y z (plugH C h') (plugL C h' (pre ++ .mk d lp lm lq lk kids :: post))) (hB : B ≤ w.heap.size) {z0 : Int} (G : Good z0 (er (plugL C h' (pre ++ .mk d lp lm lq lk kids :: post))))
    (hz : p.n = 0 ∧ e.p = []) (hk : d.kind = 0) (h0 : e.id ≠ 0) (kv : kindV e.id 0 (sps 0 R 3 0 (plugH C h').b (plugH C h').o 0 (plugL C h' (pre ++ .mk d lp lm lq lk kids :: post))) = (some ⟨h'.b, h'.o + pre.length * 19, none⟩, 0))
    (hf : fnd e.id (er (plugL C h' (pre ++ .mk d lp lm lq lk kids :: post))) = some ⟨C.map Frm.er, er pre, d, er kids, er post⟩) :
    Calls Tryz.prog 49 #[.pointer (some ⟨R, 0, none⟩), edV e p s q] w fun en w' => Edited B w R x y z (paintE (er (plugL C h' (pre ++ .mk d lp lm lq lk kids :: post))) e) en w' := by
  have HZ := Lib.hid hz
  have HC : cnt (plugL C h' (pre ++ .mk d lp lm lq lk kids :: post)) ≤ 4096 := by rw [cnt_eq]; exact G.cnt
  have HW := Lib.hid W
  have HF := Lib.hid hf
  have E0 := Lib.hid (Eb.new w e p s q)
  have K0 := Lib.hid ((Keeps.refl none' w).alloc (.cells (edCells e p s q).toArray 38))
  have KD := kind53 R x y z (plugH C h') _ e.id 0 (w.alloc (.cells (edCells e p s q).toArray 38)) (W.later K0.out).doc ((W.later K0.out).docV) (by omega)
  rw [kv] at KD
  have KN := Lib.hid KD
  have HB := Lib.hid hB
  have LS := Lib.hid (lay_spot W)
  have HK := Lib.hid (And.intro hk h0)
  clear W G kv hf KD HC hB hk h0 hz
  unfold edV
  obtain ⟨EV, hEV⟩ : ∃ EV, EV = (edCells e p s q).toArray := ⟨_, rfl⟩
  rw [← hEV]
  rw [← hEV] at E0 K0 KN
  clear hEV
  obtain ⟨RES, hRES⟩ : ∃ RES, RES = paintE (er (plugL C h' (pre ++ .mk d lp lm lq lk kids :: post))) e := ⟨_, rfl⟩
  rw [← hRES]
  have HS := Lib.hid hRES
  clear hRES
  obtain ⟨LO, hLO⟩ : ∃ LO, LO = h'.o + pre.length * 19 := ⟨_, rfl⟩
  rw [← hLO] at KN
  have HLO := Lib.hid hLO
  clear hLO
  obtain ⟨LB, hLB⟩ : ∃ LB, LB = h'.b := ⟨_, rfl⟩
  rw [← hLB] at KN
  have HLB := Lib.hid hLB
  clear hLB
  go_enter Tryz.func49, Tryz.ntmps49
  go_upto_region 1 with (fail)
  generalize w.alloc (.cells EV 38) = w1 at *
  obtain ⟨E, hE⟩ : ∃ E, E = w.heap.size := ⟨_, rfl⟩
  rw [← hE] at E0
  rw [← hE]
  have HE := Lib.hid hE
  clear hE
  have e1 := E0.out.c1
  go_upto_region 4 with ((with_reducible refine KN.out.mono ?_); rintro en w2 ⟨rfl, hk⟩; have K2 := Lib.hid (K0.out.next hk); have E2 := Lib.hid (E0.out.later hk); have K12 := Lib.hid hk; clear hk)
  clear e1 KN E0 K0
  have L2 := Lib.hid (LS.out.later K2.out)
  have e4 := E2.out.c4
  have e5 := E2.out.c5
  have nE : LB ≠ E := by
    have h1 := LS.out.lt
    rw [HLB.out, HE.out]
    omega
  have nE' : E ≠ LB := fun h => nE h.symm
  clear e4 e5
  have e8 := E2.out.c8
  have e9 := E2.out.c9
  have e10 := E2.out.c10
  obtain ⟨fn, hc⟩ := form_nil (w := e.w) (h := e.h) (n := p.n) HZ.out.1 (wrap64 (e.w * e.h)) (fun a b => side_mul a b)
  have ER := Lib.hid (show RES = .error 25 from by
    rw [HS.out]
    unfold paintE paintP
    rw [if_neg HK.out.2, HF.out, HZ.out.2]
    simp only [show d.kind = 0 from HK.out.1, fn, if_true])
  have S1 := Lib.hid (fun w' => side29 e.w w')
  have S2 := Lib.hid (fun w' => side29 e.h w')
  clear fn
  rcases hc with c1 | ⟨c1, c2⟩ | ⟨c1, c2, c3⟩
  · rw [c1] at S1
    clear c1
    go_wp2_with ((with_reducible refine (S1.out _).mono ?_); rintro en w3 ⟨rfl, hw⟩; subst hw)
    go_ret
    exact Edited.err ER.out K2.out
  · rw [c1] at S1
    rw [c2] at S2
    clear c1 c2
    go_wp2_with (first
      | ((with_reducible refine (S1.out _).mono ?_); rintro en w3 ⟨rfl, hw⟩; subst hw)
      | ((with_reducible refine (S2.out _).mono ?_); rintro en w3 ⟨rfl, hw⟩; subst hw))
    go_ret
    exact Edited.err ER.out K2.out
  · rw [c1] at S1
    rw [c2] at S2
    clear c1 c2
    go_wp2_with (first
      | ((with_reducible refine (S1.out _).mono ?_); rintro en w3 ⟨rfl, hw⟩; subst hw)
      | ((with_reducible refine (S2.out _).mono ?_); rintro en w3 ⟨rfl, hw⟩; subst hw))
    go_ret
    exact Edited.err ER.out K2.out
theorem paintz33 (B R : Nat) (x y z : Int) (h : Hd) (ls : List Loc) (e : PEd) (p s q : Hd) (w : World) (W : Whole B w R x y z h ls) {z0 : Int} (G : Good z0 (er ls)) (hB : B ≤ w.heap.size) (hz : p.n = 0 ∧ e.p = []) :
    Calls Tryz.prog 49 #[.pointer (some ⟨R, 0, none⟩), edV e p s q] w fun en w' => Edited B w R x y z (paintE (er ls) e) en w' := by
  rcases kind_lay e.id 0 R h ls with ⟨f, f0, kv, hf⟩ | ⟨C, pre, l, post, h', h0, a1, a2, a3, hk, a4⟩
  · refine paintz_no B R x y z h ls e p s q w W G f0 kv ?_
    unfold paintE paintP
    rcases hf with ⟨h1, h2⟩ | ⟨h1, h2, h3⟩ | ⟨h1, h2, r, h3, h4⟩
    · rw [if_pos h1, h2]
    · rw [if_neg h1, h2, h3]
    · rw [if_neg h1, h3, h2]
      simp only [if_neg h4]
  · obtain ⟨d, lp, lm, lq, lk, kids⟩ := l
    subst a2 a3
    exact paintz_yes B R x y z e p s q w C h' pre post d lp lm lq lk kids W hB G hz hk h0 a4 a1
/-- Painting, whatever the row of pixels is. -/
theorem paintw33 (B R : Nat) (x y z : Int) (h : Hd) (ls : List Loc) (e : PEd) (p s q : Hd) (w : World) (W : Whole B w R x y z h ls) {z0 : Int} (G : Good z0 (er ls)) (hB : B ≤ w.heap.size) (PR : (ReadR w 3 1 p (ints e.p) ∧ ∀ u, p.a = some u → u.block < B) ∨ (p.n = 0 ∧ e.p = []))
    (hw : ∀ r, fnd e.id (er ls) = some r → r.d.kind = 0 → 0 ≤ r.d.w ∧ r.d.w ≤ 32768) :
    Calls Tryz.prog 49 #[.pointer (some ⟨R, 0, none⟩), edV e p s q] w fun en w' => Edited B w R x y z (paintE (er ls) e) en w' := by
  rcases PR with ⟨D, PB⟩ | ⟨h1, h2⟩
  · exact paint33 B R x y z h ls e p s q w W G hB D PB hw
  · exact paintz33 B R x y z h ls e p s q w W G hB ⟨h1, h2⟩
theorem paintE_err {ls : List Lay} {e : PEd} {f : Int} (h : paintE ls e = .error f) : f ≠ 0 := paintP_err h
attribute [local go_sem ↓] ldx35
attribute [local go_sem] ptrBlock_some aggCells_agg
set_option maxRecDepth 100000 in
set_option maxHeartbeats 3200000 in
theorem doPaintW (x y z : Int) (h : Hd) (ls : List Loc) (e : PEd) (p s q : Hd) (w : World) (D : DocV w h ls) {z0 : Int} (G : Good z0 (er ls)) (PR : RdW w p e.p) (hw : ∀ r, fnd e.id (er ls) = some r → r.d.kind = 0 → 0 ≤ r.d.w ∧ r.d.w ≤ 32768) (hk : e.kind = 4) :
    Calls Tryz.prog 9 #[docV x y z h, edV e p s q] w fun en w' => Done w x y (z) (paintE (er ls) e) en w' := by
  have HD := Lib.hid D
  have HG := Lib.hid G
  have HZ := Lib.hid (And.intro PR hw)
  clear PR hw
  have C0 := Lib.hid (((Dc.new w x y z h).later ((Keeps.refl none' _).alloc (.cells (edCells e p s q).toArray 38))).later ((Keeps.refl none' _).alloc (.cells #[.int .i64 0, .int .i64 0, .int .i64 0, .slice none 0 0] 26)))
  have E0 := Lib.hid ((Eb.new (w.alloc (.cells #[.int .i64 x, .int .i64 y, .int .i64 z, .slice h.a h.n h.c] 26)) e p s q).later ((Keeps.refl none' _).alloc (.cells #[.int .i64 0, .int .i64 0, .int .i64 0, .slice none 0 0] 26)))
  have K0 := Lib.hid ((((Keeps.refl none' w).alloc (.cells #[.int .i64 x, .int .i64 y, .int .i64 z, .slice h.a h.n h.c] 26)).alloc (.cells (edCells e p s q).toArray 38)).alloc (.cells #[.int .i64 0, .int .i64 0, .int .i64 0, .slice none 0 0] 26))
  have R0 := Lib.hid (heap_alloc_new ((w.alloc (.cells #[.int .i64 x, .int .i64 y, .int .i64 z, .slice h.a h.n h.c] 26)).alloc (.cells (edCells e p s q).toArray 38)) (.cells #[.int .i64 0, .int .i64 0, .int .i64 0, .slice none 0 0] 26))
  have hs1 : (w.alloc (.cells #[.int .i64 x, .int .i64 y, .int .i64 z, .slice h.a h.n h.c] 26)).heap.size = w.heap.size + 1 := by simp
  have hs2 : ((w.alloc (.cells #[.int .i64 x, .int .i64 y, .int .i64 z, .slice h.a h.n h.c] 26)).alloc (.cells (edCells e p s q).toArray 38)).heap.size = w.heap.size + 1 + 1 := by simp
  rw [hs1] at E0
  rw [hs2] at R0
  clear hs1 hs2 D G
  unfold docV edV
  obtain ⟨EV, hEV⟩ : ∃ EV, EV = (edCells e p s q).toArray := ⟨_, rfl⟩
  rw [← hEV]
  rw [← hEV] at C0 E0 K0 R0
  have HEV := Lib.hid hEV
  have e0v := E0.out.c0
  rw [hk] at e0v
  clear hEV
  obtain ⟨Dk, hDk⟩ : ∃ Dk, Dk = w.heap.size := ⟨_, rfl⟩
  obtain ⟨E, hE⟩ : ∃ E, E = Dk + 1 := ⟨_, rfl⟩
  obtain ⟨Z, hZ⟩ : ∃ Z, Z = E + 1 := ⟨_, rfl⟩
  rw [← hDk] at C0
  rw [← hDk, ← hE] at E0 e0v
  rw [← hDk, ← hE, ← hZ] at R0
  have EE := Lib.hid (And.intro hDk (And.intro hE hZ))
  go_enter Tryz.func9, Tryz.ntmps9
  go_upto_region 1 with (fail)
  rw [← hDk, ← hE, ← hZ]
  clear hDk hE hZ
  generalize ((w.alloc (.cells #[.int .i64 x, .int .i64 y, .int .i64 z, .slice h.a h.n h.c] 26)).alloc (.cells EV 38)).alloc (.cells #[.int .i64 0, .int .i64 0, .int .i64 0, .slice none 0 0] 26) = w1 at *
  go_upto_region 2 with ((with_reducible refine (deeds17 w1).mono ?_); rintro en w2 ⟨rfl, f0, hw2⟩; have HW2 := Lib.hid hw2; clear hw2)
  have db := heap_alloc_new w1 (.cells #[f0, .func (.func 46) #[] #[], .func (.func 47) #[] #[], .func (.func 48) #[] #[], .func (.func 49) #[] #[], .func (.func 50) #[] #[], .func (.func 51) #[] #[], .func (.func 52) #[] #[], .func (.func 53) #[] #[], .func (.func 54) #[] #[]] 73)
  rw [← HW2.out] at db
  have DB := Lib.hid db
  have k12 : Keeps none' w1 w2 := by rw [HW2.out]; exact (Keeps.refl none' w1).alloc _
  clear db
  obtain ⟨DD, hDD⟩ : ∃ DD, DD = w1.heap.size := ⟨_, rfl⟩
  rw [← hDD] at DB
  rw [← hDD]
  clear hDD HW2
  have K2 := Lib.hid (K0.out.next k12)
  have C2 := Lib.hid (C0.out.later k12)
  have E2 := Lib.hid (E0.out.later k12)
  have R2 := Lib.hid ((k12.later Z (lt_of_block R0.out)).trans R0.out)
  have e0w := k12.cell e0v
  clear k12 C0 E0 K0 R0 e0v
  have c0 := C2.out.c0
  have c1 := C2.out.c1
  have c2 := C2.out.c2
  have c3 := C2.out.c3
  have cp := copied18 x y z h ls w2 (HD.out.later K2.out)
  unfold docV at cp
  have CP := Lib.hid cp
  clear cp
  go_upto_region 5 with ((with_reducible refine CP.out.mono ?_); rintro en w3 ⟨h', ls', rfl, hcp⟩; have CD := Lib.hid hcp; clear hcp)
  have ka := (Keeps.refl none' w3).alloc (.cells #[.int .i64 x, .int .i64 y, .int .i64 z, .slice h'.a h'.n h'.c] 26)
  have N4 := Lib.hid (Dc.new w3 x y z h')
  have K24 := Lib.hid (CD.out.keeps.next ka)
  have E4 := Lib.hid (E2.out.later K24.out)
  have R4 := Lib.hid ((K24.out.later Z (lt_of_block R2.out)).trans R2.out)
  have D4 := Lib.hid ((K24.out.later DD (lt_of_block DB.out)).trans DB.out)
  have e0 := K24.out.cell e0w
  have K4 := Lib.hid (K2.out.next K24.out)
  obtain ⟨Nx, hNx⟩ : ∃ Nx, Nx = w3.heap.size := ⟨_, rfl⟩
  have W4 := Lib.hid (show Whole w2.heap.size (w3.alloc (.cells #[.int .i64 x, .int .i64 y, .int .i64 z, .slice h'.a h'.n h'.c] 26)) Nx x y z h' ls' from by
    have hB : w2.heap.size ≤ w2.heap.size + 2 := by omega
    refine ⟨by rw [hNx]; exact N4.out, (CD.out.row.later ka).low hB, (CD.out.own.later ka).low hB, CD.out.nodup, fun hm => ?_⟩
    rcases List.mem_append.1 hm with hm | hm
    · have := (CD.out.row.range _ hm).2; omega
    · have := (CD.out.own.range _ hm).2; omega)
  obtain ⟨B2, hB2⟩ : ∃ B2, B2 = w2.heap.size := ⟨_, rfl⟩
  have NB := Lib.hid (show B2 ≤ Nx ∧ Z < B2 ∧ w.heap.size ≤ B2 from by rw [hNx, hB2]; exact ⟨CD.out.keeps.size, lt_of_block R2.out, K2.out.size⟩)
  rw [← hB2] at W4
  have SAME := Lib.hid CD.out.same
  rw [← hNx]
  clear hNx hB2 ka N4 c0 c1 c2 c3 CP CD K24 E2 R2 DB C2 K2 e0w
  generalize w3.alloc (.cells #[.int .i64 x, .int .i64 y, .int .i64 z, .slice h'.a h'.n h'.c] 26) = w4 at *
  have deed := paintw33 B2 Nx x y z h' ls' e p s q w4.drew (W4.out.later ((Keeps.refl none' w4).drew)) (by rw [SAME.out]; exact HG.out) (Nat.le_of_lt (Nat.lt_of_le_of_lt NB.out.1 (lt_of_block W4.out.doc))) (HZ.out.1.elim (fun D => .inl ⟨D.keep K4.out.drew (fun _ _ h => h), fun u hu => Nat.lt_of_lt_of_le (D.1.at' u hu).2.1 NB.out.2.2⟩) (fun h => .inr ⟨h.1, h.2.1⟩)) (by rw [SAME.out]; exact HZ.out.2)
  unfold edV at deed
  rw [← HEV.out, SAME.out] at deed
  have DE := Lib.hid (show Calls Tryz.prog 49 #[.pointer (some ⟨Nx, 0, none⟩), .agg EV] w4.drew (fun en w' => ∃ v : Int, en = .returned (.int .i64 v) ∧ Edited B2 w4.drew Nx x y (z) (paintE (er ls) e) (.returned (.int .i64 v)) w') from deed.mono (fun _ _ h => h.val))
  clear deed
  have r5 : Row35 w4 E := E4.out.row.1
  have r6 : rowAt w4 E = EV := by rw [E4.out.row.2, HEV.out]
  have r5d : Row35 w4.drew E := r5
  have r6d : rowAt w4.drew E = EV := r6
  have fk : w4.cell? ⟨DD, 4, none⟩ = some (.func (.func 49) #[] #[]) := by simp [World.cell?, D4.out]
  go_cut [8] from 23 (fun s8 w' => ∃ v : Int, s8 = .int .i64 v ∧ Edited B2 w4.drew Nx x y (z) (paintE (er ls) e) (.returned (.int .i64 v)) w')
  case first =>
    go_region_law (go_simp; (with_reducible refine DE.out.mono ?_); rintro en w5 ⟨v, rfl, hed⟩)
    all_goals
      go_wp2_with fail
      go_meet
      case rel => exact ⟨v, rfl, hed⟩
  case rest =>
    obtain ⟨v, rfl, hed⟩ := hcut
    have ZW := Lib.hid (show w.heap.size ≤ Z from by have := EE.out; omega)
    clear r5 r6 r5d r6d fk e0
    cases hr : paintE (er ls) e with
    | error f =>
      rw [hr] at hed
      obtain ⟨hv, hk9⟩ := hed
      simp only [Ending.returned.injEq, Value.int.injEq, true_and] at hv
      subst hv
      have e1 : (v != 0) = true := by simpa using paintE_err hr
      have RS := Lib.hid hr
      have K9 := Lib.hid (keeps_of_from K4.out.drew hk9 NB.out.2.2)
      have R9 := Lib.hid ((hk9.block Z (lt_of_block R4.out) (by have := NB.out; omega)).trans R4.out)
      obtain ⟨⟨r0, r1, r2, r3⟩, rf⟩ := four_cells R9.out
      have f0' := rf 0
      have f1' := rf 1
      have f2' := rf 2
      have f3' := rf 3
      clear rf hr hk9
      go_wp2_with fail
      refine bodyPost_ret (results_cell_row2 rfl _ _ Z 26 _ (0, 0) _ rfl (four_set R9.out _ _ _ _) Tryz.underlying26 rfl (by kernel_rfl)) rfl ?_
      exact Done.err RS.out (keeps_set4 K9.out ZW.out _ _ _ _)
    | ok lsP =>
      rw [hr] at hed
      obtain ⟨hv, h2, lsL, q1, q2, hk9⟩ := hed
      simp only [Ending.returned.injEq, Value.int.injEq, true_and] at hv
      subst hv
      have RS := Lib.hid hr
      have Q := Lib.hid (And.intro q1 q2)
      have K9 := Lib.hid (keeps_of_from K4.out.drew hk9 NB.out.2.2)
      have R9 := Lib.hid ((hk9.block Z (lt_of_block R4.out) (by have := NB.out; omega)).trans R4.out)
      obtain ⟨⟨r0, r1, r2, r3⟩, rf⟩ := four_cells R9.out
      have f0' := rf 0
      have f1' := rf 1
      have f2' := rf 2
      have f3' := rf 3
      have c0 := Dc.c0 (x := x) (y := y) (z := z) (h := h2) q2.doc
      have c1 := Dc.c1 (x := x) (y := y) (z := z) (h := h2) q2.doc
      have c2 := Dc.c2 (x := x) (y := y) (z := z) (h := h2) q2.doc
      have c3 := Dc.c3 (x := x) (y := y) (z := z) (h := h2) q2.doc
      clear rf hr hk9 q1 q2
      go_wp2_with fail
      refine bodyPost_ret (results_cell_row2 rfl _ _ Z 26 _ (0, 0) _ rfl (four_set R9.out _ _ _ _) Tryz.underlying26 rfl (by kernel_rfl)) rfl ?_
      refine Done.good RS.out Q.out.1 ?_ (keeps_set4 K9.out ZW.out _ _ _ _)
      have nd := Q.out.2.newD
      exact (nd.keep (keeps_at4 wc Z _ _ _ _) (fun b hb e => by have e' : b = Z := e; have := (nd.range b hb).1; have := NB.out; omega)).low NB.out.2.2
set_option maxRecDepth 100000 in
set_option maxHeartbeats 3200000 in
theorem doAdjustW (x y z : Int) (h : Hd) (ls : List Loc) (e : PEd) (p s q : Hd) (w : World) (D : DocV w h ls) {z0 : Int} (G : Good z0 (er ls)) (QP : RdW w q e.pars ∧ In64 e.pars ∧ q.n ≤ 16777216 ∧ q.n ≤ q.c) (hk : e.kind = 9) :
    Calls Tryz.prog 9 #[docV x y z h, edV e p s q] w fun en w' => Done w x y (z) (adjustP (er ls) e) en w' := by
  have HD := Lib.hid D
  have HG := Lib.hid G
  have HZ := Lib.hid QP
  clear QP
  have C0 := Lib.hid (((Dc.new w x y z h).later ((Keeps.refl none' _).alloc (.cells (edCells e p s q).toArray 38))).later ((Keeps.refl none' _).alloc (.cells #[.int .i64 0, .int .i64 0, .int .i64 0, .slice none 0 0] 26)))
  have E0 := Lib.hid ((Eb.new (w.alloc (.cells #[.int .i64 x, .int .i64 y, .int .i64 z, .slice h.a h.n h.c] 26)) e p s q).later ((Keeps.refl none' _).alloc (.cells #[.int .i64 0, .int .i64 0, .int .i64 0, .slice none 0 0] 26)))
  have K0 := Lib.hid ((((Keeps.refl none' w).alloc (.cells #[.int .i64 x, .int .i64 y, .int .i64 z, .slice h.a h.n h.c] 26)).alloc (.cells (edCells e p s q).toArray 38)).alloc (.cells #[.int .i64 0, .int .i64 0, .int .i64 0, .slice none 0 0] 26))
  have R0 := Lib.hid (heap_alloc_new ((w.alloc (.cells #[.int .i64 x, .int .i64 y, .int .i64 z, .slice h.a h.n h.c] 26)).alloc (.cells (edCells e p s q).toArray 38)) (.cells #[.int .i64 0, .int .i64 0, .int .i64 0, .slice none 0 0] 26))
  have hs1 : (w.alloc (.cells #[.int .i64 x, .int .i64 y, .int .i64 z, .slice h.a h.n h.c] 26)).heap.size = w.heap.size + 1 := by simp
  have hs2 : ((w.alloc (.cells #[.int .i64 x, .int .i64 y, .int .i64 z, .slice h.a h.n h.c] 26)).alloc (.cells (edCells e p s q).toArray 38)).heap.size = w.heap.size + 1 + 1 := by simp
  rw [hs1] at E0
  rw [hs2] at R0
  clear hs1 hs2 D G
  unfold docV edV
  obtain ⟨EV, hEV⟩ : ∃ EV, EV = (edCells e p s q).toArray := ⟨_, rfl⟩
  rw [← hEV]
  rw [← hEV] at C0 E0 K0 R0
  have HEV := Lib.hid hEV
  have e0v := E0.out.c0
  rw [hk] at e0v
  clear hEV
  obtain ⟨Dk, hDk⟩ : ∃ Dk, Dk = w.heap.size := ⟨_, rfl⟩
  obtain ⟨E, hE⟩ : ∃ E, E = Dk + 1 := ⟨_, rfl⟩
  obtain ⟨Z, hZ⟩ : ∃ Z, Z = E + 1 := ⟨_, rfl⟩
  rw [← hDk] at C0
  rw [← hDk, ← hE] at E0 e0v
  rw [← hDk, ← hE, ← hZ] at R0
  have EE := Lib.hid (And.intro hDk (And.intro hE hZ))
  go_enter Tryz.func9, Tryz.ntmps9
  go_upto_region 1 with (fail)
  rw [← hDk, ← hE, ← hZ]
  clear hDk hE hZ
  generalize ((w.alloc (.cells #[.int .i64 x, .int .i64 y, .int .i64 z, .slice h.a h.n h.c] 26)).alloc (.cells EV 38)).alloc (.cells #[.int .i64 0, .int .i64 0, .int .i64 0, .slice none 0 0] 26) = w1 at *
  go_upto_region 2 with ((with_reducible refine (deeds17 w1).mono ?_); rintro en w2 ⟨rfl, f0, hw2⟩; have HW2 := Lib.hid hw2; clear hw2)
  have db := heap_alloc_new w1 (.cells #[f0, .func (.func 46) #[] #[], .func (.func 47) #[] #[], .func (.func 48) #[] #[], .func (.func 49) #[] #[], .func (.func 50) #[] #[], .func (.func 51) #[] #[], .func (.func 52) #[] #[], .func (.func 53) #[] #[], .func (.func 54) #[] #[]] 73)
  rw [← HW2.out] at db
  have DB := Lib.hid db
  have k12 : Keeps none' w1 w2 := by rw [HW2.out]; exact (Keeps.refl none' w1).alloc _
  clear db
  obtain ⟨DD, hDD⟩ : ∃ DD, DD = w1.heap.size := ⟨_, rfl⟩
  rw [← hDD] at DB
  rw [← hDD]
  clear hDD HW2
  have K2 := Lib.hid (K0.out.next k12)
  have C2 := Lib.hid (C0.out.later k12)
  have E2 := Lib.hid (E0.out.later k12)
  have R2 := Lib.hid ((k12.later Z (lt_of_block R0.out)).trans R0.out)
  have e0w := k12.cell e0v
  clear k12 C0 E0 K0 R0 e0v
  have c0 := C2.out.c0
  have c1 := C2.out.c1
  have c2 := C2.out.c2
  have c3 := C2.out.c3
  have cp := copied18 x y z h ls w2 (HD.out.later K2.out)
  unfold docV at cp
  have CP := Lib.hid cp
  clear cp
  go_upto_region 5 with ((with_reducible refine CP.out.mono ?_); rintro en w3 ⟨h', ls', rfl, hcp⟩; have CD := Lib.hid hcp; clear hcp)
  have ka := (Keeps.refl none' w3).alloc (.cells #[.int .i64 x, .int .i64 y, .int .i64 z, .slice h'.a h'.n h'.c] 26)
  have N4 := Lib.hid (Dc.new w3 x y z h')
  have K24 := Lib.hid (CD.out.keeps.next ka)
  have E4 := Lib.hid (E2.out.later K24.out)
  have R4 := Lib.hid ((K24.out.later Z (lt_of_block R2.out)).trans R2.out)
  have D4 := Lib.hid ((K24.out.later DD (lt_of_block DB.out)).trans DB.out)
  have e0 := K24.out.cell e0w
  have K4 := Lib.hid (K2.out.next K24.out)
  obtain ⟨Nx, hNx⟩ : ∃ Nx, Nx = w3.heap.size := ⟨_, rfl⟩
  have W4 := Lib.hid (show Whole w2.heap.size (w3.alloc (.cells #[.int .i64 x, .int .i64 y, .int .i64 z, .slice h'.a h'.n h'.c] 26)) Nx x y z h' ls' from by
    have hB : w2.heap.size ≤ w2.heap.size + 2 := by omega
    refine ⟨by rw [hNx]; exact N4.out, (CD.out.row.later ka).low hB, (CD.out.own.later ka).low hB, CD.out.nodup, fun hm => ?_⟩
    rcases List.mem_append.1 hm with hm | hm
    · have := (CD.out.row.range _ hm).2; omega
    · have := (CD.out.own.range _ hm).2; omega)
  obtain ⟨B2, hB2⟩ : ∃ B2, B2 = w2.heap.size := ⟨_, rfl⟩
  have NB := Lib.hid (show B2 ≤ Nx ∧ Z < B2 ∧ w.heap.size ≤ B2 from by rw [hNx, hB2]; exact ⟨CD.out.keeps.size, lt_of_block R2.out, K2.out.size⟩)
  rw [← hB2] at W4
  have SAME := Lib.hid CD.out.same
  rw [← hNx]
  clear hNx hB2 ka N4 c0 c1 c2 c3 CP CD K24 E2 R2 DB C2 K2 e0w
  generalize w3.alloc (.cells #[.int .i64 x, .int .i64 y, .int .i64 z, .slice h'.a h'.n h'.c] 26) = w4 at *
  have deed := adjustw38 B2 Nx x y z h' ls' e p s q w4.drew (W4.out.later ((Keeps.refl none' w4).drew)) (by rw [SAME.out]; exact HG.out) (Nat.le_of_lt (Nat.lt_of_le_of_lt NB.out.1 (lt_of_block W4.out.doc))) ⟨HZ.out.1.keep K4.out.drew, HZ.out.2⟩
  unfold edV at deed
  rw [← HEV.out, SAME.out] at deed
  have DE := Lib.hid (show Calls Tryz.prog 54 #[.pointer (some ⟨Nx, 0, none⟩), .agg EV] w4.drew (fun en w' => ∃ v : Int, en = .returned (.int .i64 v) ∧ Edited B2 w4.drew Nx x y (z) (adjustP (er ls) e) (.returned (.int .i64 v)) w') from deed.mono (fun _ _ h => h.val))
  clear deed
  have r5 : Row35 w4 E := E4.out.row.1
  have r6 : rowAt w4 E = EV := by rw [E4.out.row.2, HEV.out]
  have r5d : Row35 w4.drew E := r5
  have r6d : rowAt w4.drew E = EV := r6
  have fk : w4.cell? ⟨DD, 9, none⟩ = some (.func (.func 54) #[] #[]) := by simp [World.cell?, D4.out]
  go_cut [8] from 23 (fun s8 w' => ∃ v : Int, s8 = .int .i64 v ∧ Edited B2 w4.drew Nx x y (z) (adjustP (er ls) e) (.returned (.int .i64 v)) w')
  case first =>
    go_region_law (go_simp; (with_reducible refine DE.out.mono ?_); rintro en w5 ⟨v, rfl, hed⟩)
    all_goals
      go_wp2_with fail
      go_meet
      case rel => exact ⟨v, rfl, hed⟩
  case rest =>
    obtain ⟨v, rfl, hed⟩ := hcut
    have ZW := Lib.hid (show w.heap.size ≤ Z from by have := EE.out; omega)
    clear r5 r6 r5d r6d fk e0
    cases hr : adjustP (er ls) e with
    | error f =>
      rw [hr] at hed
      obtain ⟨hv, hk9⟩ := hed
      simp only [Ending.returned.injEq, Value.int.injEq, true_and] at hv
      subst hv
      have e1 : (v != 0) = true := by simpa using adjustP_err hr
      have RS := Lib.hid hr
      have K9 := Lib.hid (keeps_of_from K4.out.drew hk9 NB.out.2.2)
      have R9 := Lib.hid ((hk9.block Z (lt_of_block R4.out) (by have := NB.out; omega)).trans R4.out)
      obtain ⟨⟨r0, r1, r2, r3⟩, rf⟩ := four_cells R9.out
      have f0' := rf 0
      have f1' := rf 1
      have f2' := rf 2
      have f3' := rf 3
      clear rf hr hk9
      go_wp2_with fail
      refine bodyPost_ret (results_cell_row2 rfl _ _ Z 26 _ (0, 0) _ rfl (four_set R9.out _ _ _ _) Tryz.underlying26 rfl (by kernel_rfl)) rfl ?_
      exact Done.err RS.out (keeps_set4 K9.out ZW.out _ _ _ _)
    | ok lsP =>
      rw [hr] at hed
      obtain ⟨hv, h2, lsL, q1, q2, hk9⟩ := hed
      simp only [Ending.returned.injEq, Value.int.injEq, true_and] at hv
      subst hv
      have RS := Lib.hid hr
      have Q := Lib.hid (And.intro q1 q2)
      have K9 := Lib.hid (keeps_of_from K4.out.drew hk9 NB.out.2.2)
      have R9 := Lib.hid ((hk9.block Z (lt_of_block R4.out) (by have := NB.out; omega)).trans R4.out)
      obtain ⟨⟨r0, r1, r2, r3⟩, rf⟩ := four_cells R9.out
      have f0' := rf 0
      have f1' := rf 1
      have f2' := rf 2
      have f3' := rf 3
      have c0 := Dc.c0 (x := x) (y := y) (z := z) (h := h2) q2.doc
      have c1 := Dc.c1 (x := x) (y := y) (z := z) (h := h2) q2.doc
      have c2 := Dc.c2 (x := x) (y := y) (z := z) (h := h2) q2.doc
      have c3 := Dc.c3 (x := x) (y := y) (z := z) (h := h2) q2.doc
      clear rf hr hk9 q1 q2
      go_wp2_with fail
      refine bodyPost_ret (results_cell_row2 rfl _ _ Z 26 _ (0, 0) _ rfl (four_set R9.out _ _ _ _) Tryz.underlying26 rfl (by kernel_rfl)) rfl ?_
      refine Done.good RS.out Q.out.1 ?_ (keeps_set4 K9.out ZW.out _ _ _ _)
      have nd := Q.out.2.newD
      exact (nd.keep (keeps_at4 wc Z _ _ _ _) (fun b hb e => by have e' : b = Z := e; have := (nd.range b hb).1; have := NB.out; omega)).low NB.out.2.2
end Go.Proofs.YtfcpbpfemmdklaaGreat.Tr

/- Do, whatever the edit. (printed by genZZC.py) -/
namespace Go.Proofs.YtfcpbpfemmdklaaGreat.Tr
open Go.RowKit Go.Lib
set_option linter.unusedSimpArgs false
set_option linter.unusedVariables false

set_option maxRecDepth 100000 in
set_option maxHeartbeats 1600000 in
theorem doOther (x y z : Int) (h : Hd) (e : PEd) (p s q : Hd) (w : World) (hk : e.kind < 1 ∨ 10 ≤ e.kind) :
    Calls Tryz.prog 9 #[docV x y z h, edV e p s q] w fun en w' => en = .returned (.tuple #[docV 0 0 0 Hd.nil, .int .i64 41]) ∧ Keeps none' w w' := by
  have E0 := Lib.hid ((Eb.new (w.alloc (.cells #[.int .i64 x, .int .i64 y, .int .i64 z, .slice h.a h.n h.c] 26)) e p s q).later ((Keeps.refl none' _).alloc (.cells #[.int .i64 0, .int .i64 0, .int .i64 0, .slice none 0 0] 26)))
  have K0 := Lib.hid ((((Keeps.refl none' w).alloc (.cells #[.int .i64 x, .int .i64 y, .int .i64 z, .slice h.a h.n h.c] 26)).alloc (.cells (edCells e p s q).toArray 38)).alloc (.cells #[.int .i64 0, .int .i64 0, .int .i64 0, .slice none 0 0] 26))
  have R0 := Lib.hid (heap_alloc_new ((w.alloc (.cells #[.int .i64 x, .int .i64 y, .int .i64 z, .slice h.a h.n h.c] 26)).alloc (.cells (edCells e p s q).toArray 38)) (.cells #[.int .i64 0, .int .i64 0, .int .i64 0, .slice none 0 0] 26))
  have hs1 : (w.alloc (.cells #[.int .i64 x, .int .i64 y, .int .i64 z, .slice h.a h.n h.c] 26)).heap.size = w.heap.size + 1 := by simp
  have hs2 : ((w.alloc (.cells #[.int .i64 x, .int .i64 y, .int .i64 z, .slice h.a h.n h.c] 26)).alloc (.cells (edCells e p s q).toArray 38)).heap.size = w.heap.size + 1 + 1 := by simp
  rw [hs1] at E0
  rw [hs2] at R0
  clear hs1 hs2
  unfold docV edV
  obtain ⟨EV, hEV⟩ : ∃ EV, EV = (edCells e p s q).toArray := ⟨_, rfl⟩
  rw [← hEV]
  rw [← hEV] at E0 K0 R0
  clear hEV
  have e0v := E0.out.c0
  obtain ⟨Dk, hDk⟩ : ∃ Dk, Dk = w.heap.size := ⟨_, rfl⟩
  obtain ⟨E, hE⟩ : ∃ E, E = Dk + 1 := ⟨_, rfl⟩
  obtain ⟨Z, hZ⟩ : ∃ Z, Z = E + 1 := ⟨_, rfl⟩
  rw [← hDk, ← hE] at E0 e0v
  rw [← hDk, ← hE, ← hZ] at R0
  have EE := Lib.hid (show w.heap.size ≤ Z from by omega)
  go_enter Tryz.func9, Tryz.ntmps9
  go_upto_region 1 with (fail)
  rw [← hDk, ← hE, ← hZ]
  clear hDk hE hZ
  generalize ((w.alloc (.cells #[.int .i64 x, .int .i64 y, .int .i64 z, .slice h.a h.n h.c] 26)).alloc (.cells EV 38)).alloc (.cells #[.int .i64 0, .int .i64 0, .int .i64 0, .slice none 0 0] 26) = w1 at *
  go_upto_region 2 with ((with_reducible refine (deeds17 w1).mono ?_); rintro en w2 ⟨rfl, f0, hw2⟩; have HW2 := Lib.hid hw2; clear hw2)
  have k12 : Keeps none' w1 w2 := by rw [HW2.out]; exact (Keeps.refl none' w1).alloc _
  obtain ⟨DD, hDD⟩ : ∃ DD, DD = w1.heap.size := ⟨_, rfl⟩
  rw [← hDD]
  clear hDD HW2
  have K2 := Lib.hid (K0.out.next k12)
  have R2 := Lib.hid ((k12.later Z (lt_of_block R0.out)).trans R0.out)
  have e0 := k12.cell e0v
  clear k12 E0 K0 R0 e0v
  obtain ⟨⟨z0, z1, z2, z3⟩, zf⟩ := four_cells R2.out
  have g0 := zf 0
  have g1 := zf 1
  have g2 := zf 2
  have g3 := zf 3
  clear zf
  by_cases h1 : e.kind < 1
  · have d1 : decide (e.kind < 1) = true := by simpa using h1
    clear hk
    go_wp2_with fail
    refine bodyPost_ret (results_cell_row2 rfl _ _ Z 26 _ (0, 0) _ rfl (four_set R2.out _ _ _ _) Tryz.underlying26 rfl (by kernel_rfl)) rfl ?_
    exact ⟨rfl, keeps_set4 K2.out EE.out _ _ _ _⟩
  · have d1 : decide (e.kind < 1) = false := by simpa using h1
    have d2 : decide (e.kind ≥ 10) = true := by simp; omega
    have d3 : decide (10 ≤ e.kind) = true := by simp; omega
    clear hk
    go_wp2_with fail
    refine bodyPost_ret (results_cell_row2 rfl _ _ Z 26 _ (0, 0) _ rfl (four_set R2.out _ _ _ _) Tryz.underlying26 rfl (by kernel_rfl)) rfl ?_
    exact ⟨rfl, keeps_set4 K2.out EE.out _ _ _ _⟩
/-- An edit whose lists may be read. -/
structure EdOk (w : World) (e : PEd) (p s q : Hd) : Prop where
  pix : RdW w p e.p
  shp : La.Pts w s.a s.n (e.shape.map ptOf)
  sn : s.n ≤ 33554432
  prm : RdW w q e.pars
  in64 : In64 e.pars
  qn : q.n ≤ 16777216
  qc : q.n ≤ q.c
theorem EdOk.later {w w' : World} {e : PEd} {p s q : Hd} (h : EdOk w e p s q) (k : Keeps none' w w') : EdOk w' e p s q :=
  ⟨h.pix.keep k, h.shp.later (fun i hi => k.later i hi), h.sn, h.prm.keep k, h.in64, h.qn, h.qc⟩
/-- What an edit makes of the layers. -/
noncomputable def doP (x y z : Int) (ls : List Lay) (e : PEd) : Except Int (List Lay) :=
  if e.kind = 1 then addP z ls e.to e.at_ e.n e.w e.h else
  if e.kind = 2 then removeP ls e.id else
  if e.kind = 3 then moveP ls e.id e.to e.at_ else
  if e.kind = 4 then paintE ls e else
  if e.kind = 5 then lookP ls e.id e.n e.m else
  if e.kind = 6 then hideP ls e.id e.n else
  if e.kind = 7 then maskP ls x y e else
  if e.kind = 8 then placeP ls e else
  if e.kind = 9 then adjustP ls e else .error 41
/-- The next number. -/
def nextZ (z : Int) (e : PEd) : Int := if e.kind = 1 then z + 1 else z
/-- The rasters' widths. -/
def WOk (ls : List Lay) : Prop := ∀ d ∈ dats ls, d.kind = 0 → 0 ≤ d.w ∧ d.w ≤ 32768
theorem do_any (x y z : Int) (h : Hd) (ls : List Loc) (e : PEd) (p s q : Hd) (w : World) (D : DocV w h ls) (G : Good z (er ls)) (hz : z ≤ 4611686018427387904) (WO : WOk (er ls)) (O : EdOk w e p s q) :
    Calls Tryz.prog 9 #[docV x y z h, edV e p s q] w fun en w' => Done w x y (nextZ z e) (doP x y z (er ls) e) en w' := by
  unfold doP nextZ
  by_cases h1 : e.kind = 1
  · rw [if_pos h1, if_pos h1]
    exact doAdd x y z h ls e p s q w D G hz h1
  rw [if_neg h1, if_neg h1]
  by_cases h2 : e.kind = 2
  · rw [if_pos h2]
    exact doRemove x y z h ls e p s q w D G h2
  rw [if_neg h2]
  by_cases h3 : e.kind = 3
  · rw [if_pos h3]
    exact doMove x y z h ls e p s q w D G h3
  rw [if_neg h3]
  by_cases h4 : e.kind = 4
  · rw [if_pos h4]
    exact doPaintW x y z h ls e p s q w D G O.pix (fun r hr hk => WO _ (fnd_mem hr) hk) h4
  rw [if_neg h4]
  by_cases h5 : e.kind = 5
  · rw [if_pos h5]
    exact doLook x y z h ls e p s q w D G h5
  rw [if_neg h5]
  by_cases h6 : e.kind = 6
  · rw [if_pos h6]
    exact doHide x y z h ls e p s q w D G h6
  rw [if_neg h6]
  by_cases h7 : e.kind = 7
  · rw [if_pos h7]
    exact doMask x y z h ls e p s q w D G ⟨O.shp, O.sn⟩ h7
  rw [if_neg h7]
  by_cases h8 : e.kind = 8
  · rw [if_pos h8]
    exact doPlace x y z h ls e p s q w D G h8
  rw [if_neg h8]
  by_cases h9 : e.kind = 9
  · rw [if_pos h9]
    exact doAdjustW x y z h ls e p s q w D G ⟨O.prm, O.in64, O.qn, O.qc⟩ h9
  rw [if_neg h9]
  refine (doOther x y z h e p s q w (by omega)).mono ?_
  rintro en w' ⟨rfl, k⟩
  exact Done.err rfl k
end Go.Proofs.YtfcpbpfemmdklaaGreat.Tr

/- What all layers of a played document have: plain. -/
namespace Go.Proofs.YtfcpbpfemmdklaaGreat.Tr
open Go.RowKit Go.Lib
set_option linter.unusedSimpArgs false
set_option linter.unusedVariables false

/-- A condition on all layers, by how deep they stand; only groups have kids. -/
def AllN (P : Nat → Dat → Prop) : Nat → List Lay → Prop
  | _, [] => True
  | n, .mk d kids :: ls => (P (n + 1) d ∧ (d.kind ≠ 1 → kids = [])) ∧ AllN P (n + 1) kids ∧ AllN P n ls
/-- The same of what lies outside a home. -/
def CtxN (P : Nat → Dat → Prop) : List PFrm → Prop
  | [] => True
  | f :: C => AllN P C.length f.pre ∧ (P (C.length + 1) f.d ∧ f.d.kind = 1) ∧ AllN P C.length f.post ∧ CtxN P C
theorem allN_append {P : Nat → Dat → Prop} {n : Nat} : ∀ {xs ys : List Lay}, AllN P n (xs ++ ys) ↔ AllN P n xs ∧ AllN P n ys
  | [], ys => by rw [List.nil_append, AllN]; simp
  | .mk d kids :: xs, ys => by rw [List.cons_append, AllN, AllN, allN_append (xs := xs)]; simp only [and_assoc]
theorem plugN {P : Nat → Dat → Prop} : ∀ {C : List PFrm} {xs : List Lay}, CtxN P C → AllN P C.length xs → AllN P 0 (plugP C xs)
  | [], xs, _, h => by rw [plugP]; exact h
  | f :: C, xs, c, h => by
    rw [CtxN] at c
    obtain ⟨c1, ⟨c2, c3⟩, c4, c5⟩ := c
    rw [plugP]
    refine plugN c5 (allN_append.2 ⟨c1, ?_⟩)
    rw [AllN]
    exact ⟨⟨c2, fun e => absurd c3 e⟩, h, c4⟩
theorem unplugN {P : Nat → Dat → Prop} : ∀ {C : List PFrm} {xs : List Lay}, xs ≠ [] → AllN P 0 (plugP C xs) → CtxN P C ∧ AllN P C.length xs
  | [], xs, _, h => by rw [plugP] at h; exact ⟨by rw [CtxN]; trivial, h⟩
  | f :: C, xs, hx, h => by
    rw [plugP] at h
    obtain ⟨c, a⟩ := unplugN (C := C) (by simp) h
    rw [allN_append, AllN] at a
    obtain ⟨a1, ⟨a2, a3⟩, a4, a5⟩ := a
    refine ⟨?_, a4⟩
    rw [CtxN]
    refine ⟨a1, ⟨a2, ?_⟩, a5, c⟩
    by_cases hk : f.d.kind = 1
    · exact hk
    · exact absurd (a3 hk) hx
theorem fndN {P : Nat → Dat → Prop} {id : Int} {ls : List Lay} {r : At'} (h : fnd id ls = some r) (A : AllN P 0 ls) : CtxN P r.C ∧ AllN P r.C.length (r.pre ++ .mk r.d r.kids :: r.post) := by
  have e := (fnd_plug h).1
  rw [← e] at A
  exact unplugN (by simp) A
theorem homeN {P : Nat → Dat → Prop} {to : Int} {ls : List Lay} {C : List PFrm} {kids : List Lay} (h : homeP to ls = .ok (C, kids)) (A : AllN P 0 ls) : CtxN P C ∧ AllN P C.length kids := by
  by_cases h0 : to = 0
  · unfold homeP at h
    rw [if_pos h0] at h
    cases h
    exact ⟨by rw [CtxN]; trivial, A⟩
  · obtain ⟨r, h1, h2, h3⟩ := homeP_mem h h0
    cases h3
    obtain ⟨c, a⟩ := fndN h1 A
    rw [allN_append, AllN] at a
    obtain ⟨a1, ⟨a2, -⟩, a4, a5⟩ := a
    exact ⟨by rw [CtxN]; exact ⟨a1, ⟨a2, h2⟩, a5, c⟩, a4⟩
theorem insN {P : Nat → Dat → Prop} {n : Nat} {at_ : Int} {l : Lay} {ls : List Lay} (h : AllN P n [l]) (A : AllN P n ls) : AllN P n (insAt at_ l ls) := by
  unfold insAt
  split
  · exact allN_append.2 ⟨A, h⟩
  · have e : ls.take at_.toNat ++ l :: ls.drop at_.toNat = ls.take at_.toNat ++ ([l] ++ ls.drop at_.toNat) := rfl
    have A' := A
    rw [← List.take_append_drop at_.toNat ls, allN_append] at A'
    rw [e]
    exact allN_append.2 ⟨A'.1, allN_append.2 ⟨h, A'.2⟩⟩
theorem dps_shift (j : Nat) : ∀ (n k : Nat) (ls : List Lay), SizeOf.sizeOf ls ≤ n → dps (k + j) ls = (dps k ls).map (· + j)
  | 0, k, ls, h => by cases ls <;> simp at h
  | n + 1, k, [], h => by rw [dps, dps]; rfl
  | n + 1, k, .mk d kids :: ls, h => by
    simp only [List.cons.sizeOf_spec, Lay.mk.sizeOf_spec] at h
    rw [dps, dps, show k + j + 1 = k + 1 + j by omega, dps_shift j n (k + 1) kids (by omega), dps_shift j n k ls (by omega)]
    simp [List.map_append]
theorem le_foldl_max : ∀ (l : List Nat) (n m : Nat), (m ∈ l ∨ m ≤ n) → m ≤ l.foldl max n
  | [], n, m, h => by
    rcases h with h | h
    · cases h
    · exact h
  | a :: l, n, m, h => by
    rw [List.foldl_cons]
    refine le_foldl_max l (max n a) m ?_
    rcases h with h | h
    · rcases List.mem_cons.1 h with rfl | h
      · exact .inr (by omega)
      · exact .inl h
    · exact .inr (by omega)
/-- The layers of a moved one stand as deep as its home says. -/
theorem dps_height {k c : Nat} {kids : List Lay} : ∀ m ∈ dps (c + 1) kids, m ≤ c + heightP k kids := by
  intro m hm
  have h0 : dps (c + 1) kids = (dps 0 kids).map (· + (c + 1)) := by
    have := dps_shift (c + 1) _ 0 kids (Nat.le_refl _)
    rwa [Nat.zero_add] at this
  have h1 : dps (k + 1) kids = (dps 0 kids).map (· + (k + 1)) := by
    have := dps_shift (k + 1) _ 0 kids (Nat.le_refl _)
    rwa [Nat.zero_add] at this
  rw [h0] at hm
  obtain ⟨a, ha, rfl⟩ := List.mem_map.1 hm
  have h2 : a + (k + 1) ≤ deepP (k + 1) kids := le_foldl_max _ _ _ (.inl (by rw [h1]; exact List.mem_map.2 ⟨a, ha, rfl⟩))
  unfold heightP
  show a + (c + 1) ≤ _
  omega
theorem height_pos (k : Nat) (kids : List Lay) : 1 ≤ heightP k kids := by
  have h : k + 1 ≤ deepP (k + 1) kids := le_foldl_max _ _ _ (.inr (Nat.le_refl _))
  unfold heightP
  omega
/-- Layers that stand elsewhere. -/
theorem shiftN {R : Dat → Prop} : ∀ (n k c : Nat) (ls : List Lay), SizeOf.sizeOf ls ≤ n → AllN (fun m d => m ≤ 64 ∧ R d) k ls → (∀ m ∈ dps c ls, m ≤ 64) → AllN (fun m d => m ≤ 64 ∧ R d) c ls
  | 0, k, c, ls, h, _, _ => by cases ls <;> simp at h
  | n + 1, k, c, [], h, _, _ => by rw [AllN]; trivial
  | n + 1, k, c, .mk d kids :: ls, h, A, H => by
    simp only [List.cons.sizeOf_spec, Lay.mk.sizeOf_spec] at h
    rw [AllN] at A ⊢
    obtain ⟨⟨⟨-, a1⟩, a2⟩, a3, a4⟩ := A
    rw [dps] at H
    exact ⟨⟨⟨H _ (by simp), a1⟩, a2⟩, shiftN n (k + 1) (c + 1) kids (by omega) a3 (fun m hm => H m (by simp [hm])), shiftN n k c ls (by omega) a4 (fun m hm => H m (by simp [hm]))⟩
/-- How deep a layer stands, beside it. -/
def nd : Nat → List Lay → List (Nat × Dat)
  | _, [] => []
  | n, .mk d kids :: ls => (n + 1, d) :: (nd (n + 1) kids ++ nd n ls)
theorem nd_append (n : Nat) : ∀ (xs ys : List Lay), nd n (xs ++ ys) = nd n xs ++ nd n ys
  | [], ys => by rw [nd]; rfl
  | .mk d kids :: xs, ys => by rw [List.cons_append, nd, nd, nd_append n xs ys, List.cons_append, List.append_assoc]
def ndC : List PFrm → List (Nat × Dat)
  | [] => []
  | f :: C => nd C.length f.pre ++ ((C.length + 1, f.d) :: nd C.length f.post) ++ ndC C
theorem nd_plug : ∀ (C : List PFrm) (xs : List Lay), (nd 0 (plugP C xs)).Perm (nd C.length xs ++ ndC C)
  | [], xs => by rw [plugP, ndC, List.append_nil]; exact List.Perm.refl _
  | f :: C, xs => by
    rw [plugP]
    refine (nd_plug C _).trans ?_
    rw [nd_append, nd, ndC]
    simp only [List.length_cons]
    classical
    rw [List.perm_iff_count]
    intro a
    simp only [List.count_append, List.count_cons]
    omega
theorem nd_dats (n : Nat) : ∀ (k : Nat) (ls : List Lay), SizeOf.sizeOf ls ≤ n → (nd k ls).map (·.2) = dats ls := by
  induction n with
  | zero => intro k ls h; cases ls <;> simp at h
  | succ n ih =>
    intro k ls h
    match ls, h with
    | [], h => rw [nd, dats]; rfl
    | .mk d kids :: ls, h =>
      simp only [List.cons.sizeOf_spec, Lay.mk.sizeOf_spec] at h
      rw [nd, dats, List.map_cons, List.map_append, ih _ kids (by omega), ih _ ls (by omega)]
theorem nd_uniq {ls : List Lay} (h : ((dats ls).map (·.id)).Nodup) {m m' : Nat} {d d' : Dat} (a : (m, d) ∈ nd 0 ls) (b : (m', d') ∈ nd 0 ls) (e : d.id = d'.id) : m = m' ∧ d = d' := by
  rw [← nd_dats _ 0 ls (Nat.le_refl _), List.map_map] at h
  have key : ∀ (l : List (Nat × Dat)), (l.map ((·.id) ∘ (·.2))).Nodup → ∀ x ∈ l, ∀ y ∈ l, x.2.id = y.2.id → x = y := by
    intro l
    induction l with
    | nil => intro _ x hx; cases hx
    | cons u l ih =>
      intro hn x hx y hy exy
      rw [List.map_cons, List.nodup_cons] at hn
      have h1 := List.mem_cons.1 hx
      have h2 := List.mem_cons.1 hy
      clear hx hy
      rcases h1 with e1 | h1
      · rcases h2 with e2 | h2
        · rw [e1, e2]
        · exact (hn.1 (List.mem_map.2 ⟨y, h2, by rw [← e1]; exact exy.symm⟩)).elim
      · rcases h2 with e2 | h2
        · exact (hn.1 (List.mem_map.2 ⟨x, h1, by rw [← e2]; exact exy⟩)).elim
        · exact ih hn.2 x h1 y h2 exy
  have := key _ h _ a _ b e
  exact ⟨congrArg (·.1) this, congrArg (·.2) this⟩
theorem fnd_nd {id : Int} {ls : List Lay} {r : At'} (h : fnd id ls = some r) : (r.C.length + 1, r.d) ∈ nd 0 ls := by
  have e := (fnd_plug h).1
  rw [← e]
  refine (nd_plug r.C _).mem_iff.2 ?_
  rw [nd_append, nd]
  simp
/-- A home stands as deep as before when something else was taken out. -/
theorem home_depth {z : Int} {id to : Int} {ls : List Lay} {r : At'} {C C' : List PFrm} {kids kids' : List Lay} (G : Good z ls) (h : fnd id ls = some r) (h1 : homeP to ls = .ok (C, kids)) (h2 : homeP to (plugP r.C (r.pre ++ r.post)) = .ok (C', kids')) : C'.length = C.length := by
  by_cases h0 : to = 0
  · unfold homeP at h1 h2
    rw [if_pos h0] at h1 h2
    cases h1
    cases h2
    rfl
  · obtain ⟨r1, a1, a2, a3⟩ := homeP_mem h1 h0
    obtain ⟨r2, b1, b2, b3⟩ := homeP_mem h2 h0
    cases a3
    cases b3
    have m1 := fnd_nd a1
    have m2 := fnd_nd b1
    have m3 : (r2.C.length + 1, r2.d) ∈ nd 0 ls := by
      have e := (fnd_plug h).1
      rw [← e]
      refine (nd_plug r.C _).mem_iff.2 ?_
      have := (nd_plug r.C _).mem_iff.1 m2
      rw [nd_append, nd]
      rw [nd_append] at this
      simp only [List.mem_append, List.mem_cons] at this ⊢
      rcases this with (h | h) | h
      · exact .inl (.inl h)
      · exact .inl (.inr (.inr (.inr h)))
      · exact .inr h
    have := (nd_uniq G.nodup m3 m1 ((fnd_plug b1).2.trans (fnd_plug a1).2.symm)).1
    simp only [List.length_cons]
    omega
end Go.Proofs.YtfcpbpfemmdklaaGreat.Tr

/- What stays whatever edits are done: plain. -/
namespace Go.Proofs.YtfcpbpfemmdklaaGreat.Tr
open Go.RowKit Go.Lib
set_option linter.unusedSimpArgs false
set_option linter.unusedVariables false

abbrev Deep64 (R : Dat → Prop) : Nat → Dat → Prop := fun m d => m ≤ 64 ∧ R d
/-- What a played document's layers have. -/
structure Inv (R : Dat → Prop) (z : Int) (ls : List Lay) : Prop where
  good : Good z ls
  all : AllN (Deep64 R) 0 ls
/-- A condition on layers that no edit breaks. -/
structure Closed (x y : Int) (R : Dat → Prop) : Prop where
  fresh : ∀ z n w h, 0 ≤ n → n ≤ 2 → (n = 0 → areaP w h = true) → R (freshD z n w h)
  paint : ∀ d (e : PEd), R d → d.kind = 0 → formP e.w e.h e.p = true → R (setP d (paintN d.w e.y e.x e.w.toNat e.p e.h.toNat d.p))
  look : ∀ d n m, R d → uptoB n 255 = true → uptoB m 11 = true → ¬ (d.kind = 2 ∧ m ≠ 0) → R (setOM d n m)
  hide : ∀ d b, R d → R (setHid d b)
  unmask : ∀ d, R d → R (setMask d [])
  mask : ∀ d ps inv, R d → R (setMask d (maskL ps x.toNat y.toNat inv))
  place : ∀ d e b, R d → d.kind = 0 → (Ax.Af.backE (mapOf e)).2 = 0 → R (setMap d e b)
  adjust : ∀ d n l, R d → d.kind = 2 → tabB n l = true → R (setTab d n l)
theorem turnInv {R : Dat → Prop} {z : Int} {id : Int} {ls : List Lay} {r : At'} {d' : Dat} (I : Inv R z ls) (h : fnd id ls = some r) (hid : d'.id = r.d.id) (hk : d'.kind = r.d.kind) (hR : R r.d → R d') : Inv R z (plugP r.C (r.pre ++ .mk d' r.kids :: r.post)) := by
  obtain ⟨c, a⟩ := fndN h I.all
  have e := (fnd_plug h).1
  have p1 : (dats (plugP r.C (r.pre ++ .mk d' r.kids :: r.post))).Perm (d' :: (dats r.pre ++ (dats r.kids ++ dats r.post) ++ datsC r.C)) := by
    refine (dats_plug r.C _).trans ?_
    rw [dats_append, dats]
    classical
    rw [List.perm_iff_count]
    intro u
    simp only [List.count_append, List.count_cons]
    omega
  have p2 : (dats ls).Perm (r.d :: (dats r.pre ++ (dats r.kids ++ dats r.post) ++ datsC r.C)) := by
    refine (fnd_dats h).trans ?_
    classical
    rw [List.perm_iff_count]
    intro u
    simp only [List.count_append, List.count_cons]
    omega
  refine ⟨⟨?_, fun d hd => ?_, ?_, I.good.one⟩, plugN c ?_⟩
  · have h1 := I.good.nodup
    rw [(p2.map _).nodup_iff, List.map_cons] at h1
    rw [(p1.map _).nodup_iff, List.map_cons, hid]
    exact h1
  · rcases List.mem_cons.1 (p1.mem_iff.1 hd) with rfl | hd
    · rw [hid]
      exact I.good.range _ (p2.mem_iff.2 (by simp))
    · exact I.good.range _ (p2.mem_iff.2 (List.mem_cons.2 (.inr hd)))
  · have h1 := I.good.cnt
    unfold pcnt at h1 ⊢
    rw [p2.length_eq] at h1
    rw [p1.length_eq]
    exact h1
  · rw [allN_append, AllN] at a ⊢
    obtain ⟨a1, ⟨⟨⟨a2, a2'⟩, a3⟩, a4⟩, a5⟩ := (⟨a.1, ⟨a.2.1, a.2.2.1⟩, a.2.2.2⟩ : _ ∧ (_ ∧ _) ∧ _)
    exact ⟨a1, ⟨⟨a2, hR a2'⟩, fun e => a3 (by rw [← hk]; exact e)⟩, a4, a5⟩
theorem addInv {R : Dat → Prop} {x y z : Int} {ls ls' : List Lay} {to at_ n w h : Int} (Cl : Closed x y R) (I : Inv R z ls) (e : addP z ls to at_ n w h = .ok ls') : Inv R (z + 1) ls' := by
  refine ⟨(good_add I.good e).1, ?_⟩
  unfold addP at e
  split at e
  · cases e
  rename_i hn
  split at e
  · cases e
  rename_i ha
  split at e
  · cases e
  rename_i C kids hh
  split at e
  · cases e
  split at e
  · cases e
  rename_i hlim
  cases e
  obtain ⟨c, a⟩ := homeN hh I.all
  refine plugN c (insN ?_ a)
  rw [AllN, AllN, AllN]
  refine ⟨⟨⟨by omega, Cl.fresh z n w h (by omega) (by omega) (fun h0 => ?_)⟩, fun _ => rfl⟩, trivial, trivial⟩
  cases hq : areaP w h with
  | true => rfl
  | false => exact absurd ⟨h0, hq⟩ ha
theorem removeInv {R : Dat → Prop} {z : Int} {ls ls' : List Lay} {id : Int} (I : Inv R z ls) (e : removeP ls id = .ok ls') : Inv R z ls' := by
  refine ⟨good_remove I.good e, ?_⟩
  unfold removeP at e
  split at e
  · cases e
  rename_i r hr
  cases e
  obtain ⟨c, a⟩ := fndN hr I.all
  rw [allN_append, AllN] at a
  exact plugN c (allN_append.2 ⟨a.1, a.2.2.2⟩)
theorem moveInv {R : Dat → Prop} {z : Int} {ls ls' : List Lay} {id to at_ : Int} (I : Inv R z ls) (e : moveP ls id to at_ = .ok ls') : Inv R z ls' := by
  refine ⟨(good_move I.good e).1, ?_⟩
  unfold moveP at e
  split at e
  · cases e
  rename_i r hr
  split at e
  · cases e
  rename_i C kids hh
  generalize ((kids.length : Int) - (if pidOf r.C = pidOf C then 1 else 0)) = room at e
  split at e
  · cases e
  split at e
  · cases e
  split at e
  · cases e
  rename_i hdeep
  split at e
  · cases e
  rename_i C' kids' hh'
  cases e
  obtain ⟨c, a⟩ := fndN hr I.all
  rw [allN_append, AllN] at a
  obtain ⟨a1, ⟨⟨a2, a2'⟩, a3⟩, a4, a5⟩ := a
  have rest : AllN (Deep64 R) 0 (plugP r.C (r.pre ++ r.post)) := plugN c (allN_append.2 ⟨a1, a5⟩)
  obtain ⟨c', k'⟩ := homeN hh' rest
  have hd := home_depth I.good hr hh hh'
  refine plugN c' (insN ?_ k')
  rw [AllN, AllN]
  have hp := height_pos r.C.length r.kids
  exact ⟨⟨⟨by omega, a2'⟩, a3⟩, shiftN _ _ _ _ (Nat.le_refl _) a4 (fun m hm => by have := dps_height (k := r.C.length) m hm; omega), trivial⟩
/-- No edit breaks it. -/
theorem doP_inv {R : Dat → Prop} {x y z : Int} {ls ls' : List Lay} {e : PEd} (Cl : Closed x y R) (I : Inv R z ls) (h : doP x y z ls e = .ok ls') : Inv R (nextZ z e) ls' := by
  unfold doP at h
  unfold nextZ
  by_cases h1 : e.kind = 1
  · rw [if_pos h1] at h ⊢
    exact addInv Cl I h
  rw [if_neg h1] at h ⊢
  by_cases h2 : e.kind = 2
  · rw [if_pos h2] at h
    exact removeInv I h
  rw [if_neg h2] at h
  by_cases h3 : e.kind = 3
  · rw [if_pos h3] at h
    exact moveInv I h
  rw [if_neg h3] at h
  by_cases h4 : e.kind = 4
  · rw [if_pos h4] at h
    unfold paintE paintP at h
    split at h
    · cases h
    split at h
    · cases h
    rename_i r hr
    split at h
    · rename_i hk
      split at h
      · cases h
      rename_i hf
      split at h
      · cases h
      cases h
      exact turnInv I hr rfl rfl (fun u => Cl.paint _ e u hk (by simpa using hf))
    · cases h
  rw [if_neg h4] at h
  by_cases h5 : e.kind = 5
  · rw [if_pos h5] at h
    unfold lookP at h
    split at h
    · cases h
    rename_i r hr
    split at h
    · cases h
    rename_i hu
    split at h
    · cases h
    rename_i hm
    cases h
    have hu' : uptoB e.n 255 = true ∧ uptoB e.m 11 = true := by
      rw [← Bool.and_eq_true]
      simpa using hu
    exact turnInv I hr rfl rfl (fun u => Cl.look _ _ _ u hu'.1 hu'.2 (fun hq => hm (by simp [hq.1, hq.2])))
  rw [if_neg h5] at h
  by_cases h6 : e.kind = 6
  · rw [if_pos h6] at h
    unfold hideP at h
    split at h
    · cases h
    rename_i r hr
    split at h
    · cases h
    cases h
    exact turnInv I hr rfl rfl (fun u => Cl.hide _ _ u)
  rw [if_neg h6] at h
  by_cases h7 : e.kind = 7
  · rw [if_pos h7] at h
    unfold maskP at h
    split at h
    · cases h
    rename_i r hr
    split at h
    · cases h
    split at h
    · cases h
      exact turnInv I hr rfl rfl (fun u => Cl.unmask _ u)
    split at h
    · cases h
    cases h
    exact turnInv I hr rfl rfl (fun u => Cl.mask _ _ _ u)
  rw [if_neg h7] at h
  by_cases h8 : e.kind = 8
  · rw [if_pos h8] at h
    unfold placeP at h
    split at h
    · cases h
    split at h
    · cases h
    rename_i r hr
    split at h
    · rename_i hk
      split at h
      · cases h
      split at h
      · cases h
      rename_i hb
      cases h
      exact turnInv I hr rfl rfl (fun u => Cl.place _ e _ u hk (by simpa using hb))
    · cases h
  rw [if_neg h8] at h
  by_cases h9 : e.kind = 9
  · rw [if_pos h9] at h
    unfold adjustP at h
    split at h
    · cases h
    split at h
    · cases h
    rename_i r hr
    split at h
    · rename_i hk
      split at h
      · cases h
      rename_i ht
      cases h
      exact turnInv I hr rfl rfl (fun u => Cl.adjust _ _ _ u hk (by simpa using ht))
    · cases h
  rw [if_neg h9] at h
  cases h
/-- The rasters' widths are such a condition. -/
def RW (d : Dat) : Prop := d.kind = 0 → 0 ≤ d.w ∧ d.w ≤ 32768
theorem closed_rw (x y : Int) : Closed x y RW where
  fresh := fun z n w h h0 h2 ha => by
    unfold RW freshD
    split
    · rename_i hn
      intro _
      have := ha hn
      simp only [areaP, sideP, Bool.and_eq_true, decide_eq_true_eq] at this
      exact ⟨by show 0 ≤ w; omega, this.1.2⟩
    · rename_i hn
      intro hk
      exact absurd hk hn
  paint := fun _ _ h _ _ => h
  look := fun _ _ _ h _ _ _ => h
  hide := fun _ _ h => h
  unmask := fun _ h => h
  mask := fun _ _ _ h => h
  place := fun _ _ _ h _ _ => h
  adjust := fun _ _ _ h _ _ => h
theorem allN_dats {P : Nat → Dat → Prop} {Q : Dat → Prop} (f : ∀ m d, P m d → Q d) : ∀ (k n : Nat) (ls : List Lay), SizeOf.sizeOf ls ≤ k → AllN P n ls → ∀ d ∈ dats ls, Q d
  | 0, n, ls, h, _, _, _ => by cases ls <;> simp at h
  | k + 1, n, [], h, _, d, hd => by rw [dats] at hd; cases hd
  | k + 1, n, .mk d0 kids :: ls, h, A, d, hd => by
    simp only [List.cons.sizeOf_spec, Lay.mk.sizeOf_spec] at h
    rw [AllN] at A
    rw [dats] at hd
    rcases List.mem_cons.1 hd with rfl | hd
    · exact f _ _ A.1.1
    rcases List.mem_append.1 hd with hd | hd
    · exact allN_dats f k (n + 1) kids (by omega) A.2.1 d hd
    · exact allN_dats f k n ls (by omega) A.2.2 d hd
theorem Inv.wok {z : Int} {ls : List Lay} (I : Inv RW z ls) : WOk ls := allN_dats (fun _ _ h => h.2) _ 0 ls (Nat.le_refl _) I.all
theorem inv0 (R : Dat → Prop) : Inv R 1 [] := ⟨⟨by simp [dats], fun d hd => (by rw [dats] at hd; cases hd), by simp [pcnt, dats], by omega⟩, by rw [AllN]; trivial⟩
end Go.Proofs.YtfcpbpfemmdklaaGreat.Tr

/- Painting twice, painting with what is there: plain. -/
namespace Go.Proofs.YtfcpbpfemmdklaaGreat.Tr
open Go.RowKit Go.Lib
set_option linter.unusedSimpArgs false
set_option linter.unusedVariables false

/-- One pixel's place. -/
def Reach (W y x : Int) (L k j : Nat) : Prop := ((0 ≤ x + (k : Int) ∧ x + (k : Int) < W) ∧ (0 ≤ y * W + x + (k : Int) ∧ y * W + x + (k : Int) < (L : Int))) ∧ (y * W + x + (k : Int)).toNat = j
theorem pone_hit {W y x : Int} {i j : Nat} {v : Int} {p : List Int} (h : Reach W y x p.length i j) : (pone W y x i v p)[j]? = some v := by
  obtain ⟨h1, h2⟩ := h
  unfold pone
  rw [if_pos h1, h2, List.getElem?_set, if_pos rfl, if_pos (by omega)]
theorem pone_miss {W y x : Int} {i j : Nat} {v : Int} {p : List Int} (h : ¬ Reach W y x p.length i j) : (pone W y x i v p)[j]? = p[j]? := by
  unfold pone
  split
  · rename_i h1
    rw [List.getElem?_set, if_neg (fun e => h ⟨h1, e⟩)]
  · rfl
theorem pone_agree {W y x : Int} {i j : Nat} {v : Int} {p q : List Int} (hl : p.length = q.length) (h : p[j]? = q[j]? ∨ Reach W y x p.length i j) : (pone W y x i v p)[j]? = (pone W y x i v q)[j]? := by
  by_cases hr : Reach W y x p.length i j
  · rw [pone_hit hr, pone_hit (by rw [← hl]; exact hr)]
  · rw [pone_miss hr, pone_miss (by rw [← hl]; exact hr)]
    rcases h with h | h
    · exact h
    · exact absurd h hr
theorem prow_agree {W y x : Int} {j : Nat} : ∀ (vs : List Int) (i : Nat) (p q : List Int), p.length = q.length → (p[j]? = q[j]? ∨ ∃ k, i ≤ k ∧ k < i + vs.length ∧ Reach W y x p.length k j) → (prow W y x i vs p)[j]? = (prow W y x i vs q)[j]?
  | [], i, p, q, hl, h => by
    rcases h with h | ⟨k, h1, h2, -⟩
    · exact h
    · simp at h2; omega
  | v :: vs, i, p, q, hl, h => by
    rw [prow, prow]
    refine prow_agree vs (i + 1) _ _ (by rw [pone_len, pone_len, hl]) ?_
    rw [pone_len]
    rcases h with h | ⟨k, h1, h2, h3⟩
    · exact .inl (pone_agree hl (.inl h))
    · by_cases hk : k = i
      · subst hk
        exact .inl (pone_agree hl (.inr h3))
      · exact .inr ⟨k, by omega, by rw [List.length_cons] at h2; omega, h3⟩
theorem prow_other {W y x : Int} {j : Nat} : ∀ (vs : List Int) (i : Nat) (p : List Int), (∀ k, i ≤ k → k < i + vs.length → ¬ Reach W y x p.length k j) → (prow W y x i vs p)[j]? = p[j]?
  | [], i, p, h => rfl
  | v :: vs, i, p, h => by
    rw [prow, prow_other vs (i + 1) _ (fun k h1 h2 => by rw [pone_len]; exact h k (by omega) (by rw [List.length_cons]; omega)), pone_miss (h i (Nat.le_refl _) (by rw [List.length_cons]; omega))]
theorem paintN_agree {W y x : Int} {wn : Nat} {pix : List Int} {j : Nat} (p q : List Int) (hl : p.length = q.length) : ∀ (r : Nat), r * wn ≤ pix.length → (p[j]? = q[j]? ∨ ∃ r', r' < r ∧ ∃ k, k < wn ∧ Reach W (y + (r' : Int)) x p.length k j) → (paintN W y x wn pix r p)[j]? = (paintN W y x wn pix r q)[j]?
  | 0, _, h => by
    rcases h with h | ⟨r', h1, -⟩
    · exact h
    · omega
  | r + 1, hp, h => by
    have hp' : r * wn + wn ≤ pix.length := by rw [← Nat.succ_mul]; exact hp
    rw [paintN, paintN]
    refine prow_agree _ 0 _ _ (by rw [paintN_len, paintN_len, hl]) ?_
    rw [paintN_len]
    rcases h with h | ⟨r', h1, k, h2, h3⟩
    · exact .inl (paintN_agree p q hl r (by omega) (.inl h))
    · by_cases hr : r' = r
      · subst hr
        exact .inr ⟨k, Nat.zero_le _, by rw [List.length_take, List.length_drop]; omega, h3⟩
      · exact .inl (paintN_agree p q hl r (by omega) (.inr ⟨r', by omega, k, h2, h3⟩))
theorem paintN_other {W y x : Int} {wn : Nat} {pix : List Int} {j : Nat} (p : List Int) : ∀ (r : Nat), (¬ ∃ r', r' < r ∧ ∃ k, k < wn ∧ Reach W (y + (r' : Int)) x p.length k j) → (paintN W y x wn pix r p)[j]? = p[j]?
  | 0, _ => rfl
  | r + 1, h => by
    rw [paintN, prow_other _ 0 _ (fun k _ h2 h3 => h ⟨r, Nat.lt_succ_self _, k, by rw [List.length_take] at h2; omega, by rw [paintN_len] at h3; exact h3⟩)]
    exact paintN_other p r (fun ⟨r', h1, h2⟩ => h ⟨r', by omega, h2⟩)
/-- Painted twice is as painted the second time alone. -/
theorem paint_twice (W y x : Int) (wn hn : Nat) (p1 p2 p : List Int) (hl : hn * wn ≤ p2.length) : paintN W y x wn p2 hn (paintN W y x wn p1 hn p) = paintN W y x wn p2 hn p := by
  refine List.ext_getElem? fun j => ?_
  refine paintN_agree _ _ (paintN_len _ _ _ _ _ _ _) hn hl ?_
  rw [paintN_len]
  by_cases h : ∃ r', r' < hn ∧ ∃ k, k < wn ∧ Reach W (y + (r' : Int)) x p.length k j
  · exact .inr h
  · exact .inl (paintN_other p hn h)
theorem prow_self {W y x : Int} : ∀ (vs : List Int) (i : Nat) (p : List Int), (∀ k v, vs[k]? = some v → ∀ j, Reach W y x p.length (i + k) j → p[j]? = some v) → prow W y x i vs p = p
  | [], i, p, h => rfl
  | v :: vs, i, p, h => by
    have e : pone W y x i v p = p := by
      refine List.ext_getElem? fun j => ?_
      by_cases hr : Reach W y x p.length i j
      · rw [pone_hit hr, h 0 v rfl j hr]
      · rw [pone_miss hr]
    rw [prow, e]
    refine prow_self vs (i + 1) p fun k u hu j hr => h (k + 1) u hu j ?_
    rw [show i + (k + 1) = i + 1 + k by omega]
    exact hr
/-- Painted with what it has it is what it was. -/
theorem paint_self (wn : Nat) (p : List Int) : ∀ r : Nat, paintN (wn : Int) 0 0 wn p r p = p
  | 0 => rfl
  | r + 1 => by
    rw [paintN, paint_self wn p r]
    refine prow_self _ 0 p fun k v hv j hr => ?_
    obtain ⟨-, h2⟩ := hr
    have hk : k < wn := by have := (List.getElem?_eq_some_iff.1 hv).1; rw [List.length_take] at this; omega
    rw [List.getElem?_take_of_lt hk, List.getElem?_drop] at hv
    have e : j = r * wn + k := by
      rw [← h2]
      have : ((0 : Int) + (r : Int)) * (wn : Int) + 0 + ((0 + k : Nat) : Int) = ((r * wn + k : Nat) : Int) := by
        rw [Nat.zero_add, Int.zero_add, Int.add_zero]
        push_cast
        rfl
      rw [this]
      rfl
    rw [e]
    exact hv
theorem pone_all {W y x : Int} {i : Nat} {v : Int} {p : List Int} (hv : pixB v = true) (hp : p.all pixB = true) : (pone W y x i v p).all pixB = true := by
  unfold pone
  split
  · rw [List.all_eq_true] at hp ⊢
    intro u hu
    rcases List.mem_or_eq_of_mem_set hu with h | rfl
    · exact hp u h
    · exact hv
  · exact hp
theorem prow_all {W y x : Int} : ∀ (vs : List Int) (i : Nat) (p : List Int), vs.all pixB = true → p.all pixB = true → (prow W y x i vs p).all pixB = true
  | [], i, p, _, h => h
  | v :: vs, i, p, hv, h => by
    rw [List.all_cons, Bool.and_eq_true] at hv
    rw [prow]
    exact prow_all vs (i + 1) _ hv.2 (pone_all hv.1 h)
theorem paintN_all {W y x : Int} {wn : Nat} {pix p : List Int} (hx : pix.all pixB = true) (hp : p.all pixB = true) : ∀ r : Nat, (paintN W y x wn pix r p).all pixB = true
  | 0 => hp
  | r + 1 => by
    rw [paintN]
    refine prow_all _ 0 _ ?_ (paintN_all hx hp r)
    rw [List.all_eq_true] at hx ⊢
    exact fun u hu => hx u (List.mem_of_mem_drop (List.mem_of_mem_take hu))
theorem paint_one (d : Dat) (hid : d.id = 1) (hk : d.kind = 0) (x y w h : Int) (pix : List Int) :
    paintP [.mk d []] 1 x y w h pix = if formP w h pix = false then .error 25 else if (shiftP x && shiftP y) = false then .error 31 else .ok [.mk (setP d (paintN d.w y x w.toNat pix h.toNat d.p)) []] := by
  have hf : fnd 1 [.mk d []] = some ⟨[], [], d, [], []⟩ := by simp [fnd, go, hid]
  unfold paintP
  rw [if_neg (by decide), hf]
  simp only [hk, if_true, List.nil_append, plugP]
theorem paint_none (x y w h : Int) (pix : List Int) : paintP [] 1 x y w h pix = .error 40 := by
  have hf : fnd 1 [] = none := by simp [fnd, go]
  unfold paintP
  rw [if_neg (by decide), hf]
end Go.Proofs.YtfcpbpfemmdklaaGreat.Tr

/- What a right document's layers have; no edit breaks it: plain. -/
namespace Go.Proofs.YtfcpbpfemmdklaaGreat.Tr
open Go.RowKit Go.Lib
set_option linter.unusedSimpArgs false
set_option linter.unusedVariables false

def mapD (d : Dat) : Ax.Af.M := ⟨d.ma, d.mb, d.mc, d.md, d.me, d.mf⟩
def noTab (d : Dat) : Prop := d.table = 2 ∧ d.pars = []
def noPic (d : Dat) : Prop := d.w = 0 ∧ d.h = 0 ∧ d.p = [] ∧ mapD d = ⟨65536, 0, 0, 65536, 0, 0⟩ ∧ d.smooth = false
def pic (d : Dat) : Prop := (Ax.Af.backE (mapD d)).2 = 0 ∧ areaP d.w d.h = true ∧ (d.p.length : Int) = d.w * d.h ∧ d.p.all pixB = true
def maskR (x y : Int) (l : List Int) : Prop := (l = [] ∨ (l.length : Int) = x * y) ∧ ∀ v ∈ l, v = 0 ∨ v = 255
/-- What a layer of a right document has. -/
def Rt (x y : Int) (d : Dat) : Prop :=
  uptoB d.op 255 = true ∧ uptoB d.mode 11 = true ∧ maskR x y d.mask ∧
  ((d.kind = 0 ∧ pic d ∧ noTab d) ∨ (d.kind = 1 ∧ noPic d ∧ noTab d) ∨ (d.kind = 2 ∧ noPic d ∧ tabB d.table d.pars = true ∧ d.mode = 0))
theorem one_back : (Ax.Af.backE ⟨65536, 0, 0, 65536, 0, 0⟩).2 = 0 := by decide +kernel
theorem tab2 : tabB 2 [] = true := tabB_true.2 (by simp [Pi.Px.Fits, Pi.Px.Bytes])
theorem area_cast {w h : Int} (a : areaP w h = true) : (((w * h).toNat : Nat) : Int) = w * h := by
  simp only [areaP, sideP, Bool.and_eq_true, decide_eq_true_eq] at a
  have : 0 ≤ w * h := Int.mul_nonneg (by omega) (by omega)
  omega
theorem rt_fresh {x y z n w h : Int} (h0 : 0 ≤ n) (h2 : n ≤ 2) (ha : n = 0 → areaP w h = true) : Rt x y (freshD z n w h) := by
  unfold freshD
  split
  · rename_i hn
    subst hn
    have a := ha rfl
    refine ⟨rfl, rfl, ⟨.inl rfl, fun v hv => (by cases hv)⟩, .inl ⟨rfl, ⟨one_back, a, ?_, ?_⟩, rfl, rfl⟩⟩
    · show (((List.replicate (w * h).toNat (0 : Int)).length : Nat) : Int) = w * h
      rw [List.length_replicate]
      exact area_cast a
    · show (List.replicate (w * h).toNat (0 : Int)).all pixB = true
      rw [List.all_eq_true]
      intro u hu
      rw [List.eq_of_mem_replicate hu]
      decide
  · rename_i hn
    refine ⟨rfl, rfl, ⟨.inl rfl, fun v hv => (by cases hv)⟩, ?_⟩
    by_cases h1 : n = 1
    · exact .inr (.inl ⟨h1, ⟨rfl, rfl, rfl, rfl, rfl⟩, rfl, rfl⟩)
    · exact .inr (.inr ⟨by show n = 2; omega, ⟨rfl, rfl, rfl, rfl, rfl⟩, tab2, rfl⟩)
theorem flip_byte (inv b : Bool) : flipB inv (La.byteB b) = 0 ∨ flipB inv (La.byteB b) = 255 := by
  cases inv <;> cases b <;> simp [flipB, La.byteB]
theorem rt_mask {x y : Int} (hx : 0 ≤ x) (hy : 0 ≤ y) (ps : List La.Pt) (inv : Bool) : maskR x y (maskL ps x.toNat y.toNat inv) := by
  refine ⟨.inr ?_, fun v hv => ?_⟩
  · unfold maskL
    rw [List.length_map, List.length_range]
    obtain ⟨a, rfl⟩ : ∃ a : Nat, x = (a : Int) := ⟨x.toNat, by omega⟩
    obtain ⟨b, rfl⟩ : ∃ b : Nat, y = (b : Int) := ⟨y.toNat, by omega⟩
    simp
  · unfold maskL at hv
    obtain ⟨j, -, rfl⟩ := List.mem_map.1 hv
    exact flip_byte _ _
/-- No edit breaks it. -/
theorem closed_rt {x y : Int} (hx : 0 ≤ x) (hy : 0 ≤ y) : Closed x y (Rt x y) where
  fresh := fun z n w h h0 h2 ha => rt_fresh h0 h2 ha
  paint := fun d e h hk hf => by
    obtain ⟨a, b, c, k⟩ := h
    refine ⟨a, b, c, .inl ?_⟩
    rcases k with ⟨k0, ⟨p1, p2, p3, p4⟩, t⟩ | ⟨k1, _⟩ | ⟨k2, _⟩
    · have fa : e.p.all pixB = true := by
        simp only [formP, Bool.and_eq_true] at hf
        exact hf.2.2.2
      refine ⟨k0, ⟨p1, p2, ?_, ?_⟩, t⟩
      · show ((paintN d.w e.y e.x e.w.toNat e.p e.h.toNat d.p).length : Int) = d.w * d.h
        rw [paintN_len]
        exact p3
      · exact paintN_all fa p4 _
    · omega
    · omega
  look := fun d n m h h1 h2 h3 => by
    obtain ⟨a, b, c, k⟩ := h
    refine ⟨h1, h2, c, ?_⟩
    rcases k with k | k | ⟨k2, np, t, k3⟩
    · exact .inl k
    · exact .inr (.inl k)
    · refine .inr (.inr ⟨k2, np, t, ?_⟩)
      show m = 0
      by_cases hm : m = 0
      · exact hm
      · exact absurd ⟨k2, hm⟩ h3
  hide := fun d b h => h
  unmask := fun d h => ⟨h.1, h.2.1, ⟨.inl rfl, fun v hv => (by cases hv)⟩, h.2.2.2⟩
  mask := fun d ps inv h => ⟨h.1, h.2.1, rt_mask hx hy ps inv, h.2.2.2⟩
  place := fun d e b h hk hb => by
    obtain ⟨a, b', c, k⟩ := h
    refine ⟨a, b', c, .inl ?_⟩
    rcases k with ⟨k0, ⟨p1, p2, p3, p4⟩, t⟩ | ⟨k1, _⟩ | ⟨k2, _⟩
    · exact ⟨k0, ⟨hb, p2, p3, p4⟩, t⟩
    · omega
    · omega
  adjust := fun d n l h hk ht => by
    obtain ⟨a, b', c, k⟩ := h
    refine ⟨a, b', c, .inr (.inr ?_)⟩
    rcases k with ⟨k0, _⟩ | ⟨k1, _⟩ | ⟨k2, np, t, k3⟩
    · omega
    · omega
    · exact ⟨k2, np, ht, k3⟩
end Go.Proofs.YtfcpbpfemmdklaaGreat.Tr

/- A right raster's picture (96). -/
namespace Go.Proofs.YtfcpbpfemmdklaaGreat.Tr
open Go.RowKit Go.Lib
set_option linter.unusedSimpArgs false
set_option linter.unusedVariables false

theorem area_wrap {x y : Int} (a : areaP x y = true) : wrap64 (x * y) = x * y ∧ IntKind.i64.wrap (x * y) = x * y := by
  simp only [areaP, sideP, Bool.and_eq_true, decide_eq_true_eq] at a
  have h0 : 0 ≤ x * y := Int.mul_nonneg (by omega) (by omega)
  exact ⟨wrap64_id _ (by omega) (by omega), wrap_i64 _ (by omega) (by omega)⟩
set_option maxRecDepth 100000 in
set_option maxHeartbeats 1600000 in
theorem haspic (b o : Nat) (d : Dat) (p m q k : Hd) (w : World) (H : LayP w b o d p m q k) (PC : pic d) (D : ReadR w 3 1 p (ints d.p)) :
    Calls Tryz.prog 96 #[.pointer (some ⟨b, o, none⟩)] w fun en w' => en = .returned (.bool true) ∧ Keeps none' w w' := by
  obtain ⟨p1, p2, p3, p4⟩ := PC
  have HL := Lib.hid H
  have HD := Lib.hid D
  have hn : d.p.length = p.n := by have := D.1.len; simpa [ints] using this
  rw [hn] at p3
  have AW := area_wrap p2
  have cb := Ax.back_any (mapD d) w
  unfold Ax.Told at cb
  dsimp only [mapD] at cb
  rw [show (⟨d.ma, d.mb, d.mc, d.md, d.me, d.mf⟩ : Ax.Af.M) = mapD d from rfl] at cb
  obtain ⟨r, hr⟩ : ∃ r, r = Ax.Af.backE (mapD d) := ⟨_, rfl⟩
  rw [← hr] at cb p1
  obtain ⟨⟨ra, rb, rc, rd, re, rf⟩, fb⟩ := r
  dsimp only at cb p1
  subst p1
  have CB := Lib.hid cb
  have W0 := Lib.hid AW
  have P0 := Lib.hid (And.intro p2 (And.intro p3 p4))
  have c9 := H 9 _ rfl
  have c10 := H 10 _ rfl
  have c11 := H 11 _ rfl
  have c12 := H 12 _ rfl
  have c13 := H 13 _ rfl
  have c14 := H 14 _ rfl
  have f9 : w.cell? ⟨b, o + 9 + 0, none⟩ = some (.int .i64 d.ma) := c9
  have f10 : w.cell? ⟨b, o + 9 + 1, none⟩ = some (.int .i64 d.mb) := c10
  have f11 : w.cell? ⟨b, o + 9 + 2, none⟩ = some (.int .i64 d.mc) := c11
  have f12 : w.cell? ⟨b, o + 9 + 3, none⟩ = some (.int .i64 d.md) := c12
  have f13 : w.cell? ⟨b, o + 9 + 4, none⟩ = some (.int .i64 d.me) := c13
  have f14 : w.cell? ⟨b, o + 9 + 5, none⟩ = some (.int .i64 d.mf) := c14
  clear cb hr AW H D hn p2 p3 p4
  go_enter Tryz.func96, Tryz.ntmps96
  go_upto_region 2 with ((with_reducible refine CB.out.mono ?_); rintro en w1 ⟨rfl, hk⟩; have J := Lib.hid (ax_keeps hk); clear hk)
  have ka := J.out.alloc (.cells #[.int .i64 ra, .int .i64 rb, .int .i64 rc, .int .i64 rd, .int .i64 re, .int .i64 rf] 36)
  have K2 := Lib.hid ka
  have L2 := Lib.hid (HL.out.later ka)
  have D2 := Lib.hid (HD.out.keep ka (fun _ _ h => h))
  clear ka J f9 f10 f11 f12 f13 f14 c9 c10 c11 c12 c13 c14 CB
  generalize w1.alloc (.cells #[.int .i64 ra, .int .i64 rb, .int .i64 rc, .int .i64 rd, .int .i64 re, .int .i64 rf] 36) = w2 at *
  have AR := fun w' => area16 d.w d.h w'
  rw [P0.out.1] at AR
  have A1 := Lib.hid AR
  have PX := pixels54 p d.p w2.drew (D2.out.keep (Keeps.refl none' w2).drew (fun _ _ h => h))
  rw [P0.out.2.2] at PX
  have PX1 := Lib.hid PX
  have t1 : ((p.n : Int) == d.w * d.h) = true := by simp [P0.out.2.1]
  have t2 : decide ((p.n : Int) = d.w * d.h) = true := by simp [P0.out.2.1]
  have wx := W0.out.1
  have wx2 := W0.out.2
  have c5 := L2.out 5 _ rfl
  have c6 := L2.out 6 _ rfl
  have c7 := L2.out 7 _ rfl
  have SK := Lib.hid (show ∀ w', Keeps none' w2.drew w' → (w'.cell? ⟨b, o + 5, none⟩ = some (.int .i64 d.w) ∧ w'.cell? ⟨b, o + 6, none⟩ = some (.int .i64 d.h) ∧ w'.cell? ⟨b, o + 7, none⟩ = some (.slice p.a p.n p.c)) from fun w' kk => by
    have L := L2.out.later ((Keeps.refl none' w2).drew.next kk)
    exact ⟨L 5 _ rfl, L 6 _ rfl, L 7 _ rfl⟩)
  clear AR PX
  go_region_held3 (fun w' => w'.cell? ⟨b, o + 5, none⟩ = some (.int .i64 d.w) ∧ w'.cell? ⟨b, o + 6, none⟩ = some (.int .i64 d.h) ∧ w'.cell? ⟨b, o + 7, none⟩ = some (.slice p.a p.n p.c)) (first | exact SK.out _ (Keeps.refl _ _) | exact SK.out _ (by assumption))
    (first
    | (go_at_call 41; with_reducible refine (A1.out _).mono ?_; rintro e w' ⟨rfl, hw⟩; subst hw)
    | (go_at_call 81; with_reducible refine PX1.out.mono ?_; rintro e w' ⟨rfl, hk⟩))
  all_goals
    go_wp2_with fail
    go_ret
    exact ⟨rfl, K2.out.next ((Keeps.refl none' w2).drew.next (by assumption))⟩
end Go.Proofs.YtfcpbpfemmdklaaGreat.Tr

/- A right layer is of its kind (70). -/
namespace Go.Proofs.YtfcpbpfemmdklaaGreat.Tr
open Go.RowKit Go.Lib
set_option linter.unusedSimpArgs false
set_option linter.unusedVariables false

set_option maxRecDepth 100000 in
set_option maxHeartbeats 1600000 in
theorem kind_raster (b o : Nat) (d : Dat) (p m q k : Hd) (w : World) (H : LayP w b o d p m q k) (hk : d.kind = 0) (PC : pic d) (NT : noTab d) (hq : q.n = d.pars.length) (hkids : k.n = 0) (D : ReadR w 3 1 p (ints d.p)) :
    Calls Tryz.prog 70 #[.pointer (some ⟨b, o, none⟩)] w fun en w' => en = .returned (.bool true) ∧ Keeps none' w w' := by
  have HL := Lib.hid H
  have c1 := H 1 _ rfl
  rw [hk] at c1
  have C1 := Lib.hid (haspic b o d p m q k w H PC D)
  have C2 := Lib.hid (fun w' (kk : Keeps none' w w') => notab b o d p m q k w' (H.later kk) NT.1 (by rw [hq, NT.2]; rfl))
  have t1 : ((k.n : Int) == 0) = true := by simp [hkids]
  have t2 : decide ((k.n : Int) = 0) = true := by simp [hkids]
  clear H hk PC NT hq hkids D
  go_enter Tryz.func70, Tryz.ntmps70
  go_wp2_with (first
    | ((with_reducible refine C1.out.mono ?_); rintro en w1 ⟨rfl, hk⟩; have J := Lib.hid hk; clear hk)
    | ((with_reducible refine (C2.out w1 J.out).mono ?_); rintro en w2 ⟨rfl, hk⟩; have J2 := Lib.hid (J.out.next hk); have c18 := HL.out.later J2.out 18 _ rfl; clear hk))
  go_ret
  exact ⟨rfl, J2.out⟩
set_option maxRecDepth 100000 in
set_option maxHeartbeats 1600000 in
theorem kind_group (b o : Nat) (d : Dat) (p m q k : Hd) (w : World) (H : LayP w b o d p m q k) (hk : d.kind = 1) (NP : noPic d) (NT : noTab d) (hp : p.n = d.p.length) (hq : q.n = d.pars.length) :
    Calls Tryz.prog 70 #[.pointer (some ⟨b, o, none⟩)] w fun en w' => en = .returned (.bool true) ∧ Keeps none' w w' := by
  have c1 := H 1 _ rfl
  rw [hk] at c1
  obtain ⟨n1, n2, n3, n4, n5⟩ := NP
  unfold mapD at n4
  have C1 := Lib.hid (nopic b o d p m q k w H n1 n2 (by rw [hp, n3]; rfl) (congrArg Ax.Af.M.a n4) (congrArg Ax.Af.M.b n4) (congrArg Ax.Af.M.c n4) (congrArg Ax.Af.M.d n4) (congrArg Ax.Af.M.e n4) (congrArg Ax.Af.M.f n4) n5)
  have C2 := Lib.hid (fun w' (kk : Keeps none' w w') => notab b o d p m q k w' (H.later kk) NT.1 (by rw [hq, NT.2]; rfl))
  clear H hk n1 n2 n3 n4 n5 NT hq hp
  go_enter Tryz.func70, Tryz.ntmps70
  go_wp2_with (first
    | ((with_reducible refine C1.out.mono ?_); rintro en w1 ⟨rfl, hk⟩; have J := Lib.hid hk; clear hk)
    | ((with_reducible refine (C2.out w1 J.out).mono ?_); rintro en w2 ⟨rfl, hk⟩; have J2 := Lib.hid (J.out.next hk); clear hk))
  go_ret
  exact ⟨rfl, J2.out⟩
set_option maxRecDepth 100000 in
set_option maxHeartbeats 1600000 in
theorem kind_adj (b o : Nat) (d : Dat) (p m q k : Hd) (w : World) (H : LayP w b o d p m q k) (hk : d.kind = 2) (NP : noPic d) (TB : tabB d.table d.pars = true) (hm : d.mode = 0) (hp : p.n = d.p.length) (hkids : k.n = 0) (Q : ReadR w 3 1 q (ints d.pars)) (hi : In64 d.pars) (hqn : q.n ≤ 16777216) :
    Calls Tryz.prog 70 #[.pointer (some ⟨b, o, none⟩)] w fun en w' => en = .returned (.bool true) ∧ Keeps none' w w' := by
  have HL := Lib.hid (show LayP w.drew b o d p m q k from H)
  have MO := Lib.hid hm
  have c1 := H 1 _ rfl
  rw [hk] at c1
  obtain ⟨n1, n2, n3, n4, n5⟩ := NP
  unfold mapD at n4
  have C1 := Lib.hid (nopic b o d p m q k w.drew H n1 n2 (by rw [hp, n3]; rfl) (congrArg Ax.Af.M.a n4) (congrArg Ax.Af.M.b n4) (congrArg Ax.Af.M.c n4) (congrArg Ax.Af.M.d n4) (congrArg Ax.Af.M.e n4) (congrArg Ax.Af.M.f n4) n5)
  have c2 := fun w' (kk : Keeps none' w.drew w') => table60 d.table q d.pars w' ((Q.keep (Keeps.refl none' w).drew (fun _ _ h => h)).keep kk (fun _ _ h => h)) hi hqn
  rw [TB] at c2
  have C2 := Lib.hid c2
  have t1 : ((k.n : Int) == 0) = true := by simp [hkids]
  have t2 : decide ((k.n : Int) = 0) = true := by simp [hkids]
  have c16 := H 16 _ rfl
  have c17 := H 17 _ rfl
  have c18 := H 18 _ rfl
  have c4 := H 4 _ rfl
  rw [hm] at c4
  have SK := Lib.hid (show ∀ w', Keeps none' w.drew w' → (w'.cell? ⟨b, o + 16, none⟩ = some (.int .i64 d.table) ∧ w'.cell? ⟨b, o + 17, none⟩ = some (.slice q.a q.n q.c) ∧ w'.cell? ⟨b, o + 18, none⟩ = some (.slice k.a k.n k.c) ∧ w'.cell? ⟨b, o + 4, none⟩ = some (.int .i64 0)) from fun w' kk => by
    have L := HL.out.later kk
    refine ⟨L 16 _ rfl, L 17 _ rfl, L 18 _ rfl, ?_⟩
    have h := L 4 _ rfl
    rw [MO.out] at h
    exact h)
  clear H hk n1 n2 n3 n4 n5 c2 TB hp hkids Q hi hqn hm
  go_enter Tryz.func70, Tryz.ntmps70
  go_upto_region 7 with (fail)
  go_region_held3 (fun w' => w'.cell? ⟨b, o + 16, none⟩ = some (.int .i64 d.table) ∧ w'.cell? ⟨b, o + 17, none⟩ = some (.slice q.a q.n q.c) ∧ w'.cell? ⟨b, o + 18, none⟩ = some (.slice k.a k.n k.c) ∧ w'.cell? ⟨b, o + 4, none⟩ = some (.int .i64 0)) (first | exact SK.out _ (Keeps.refl _ _) | exact SK.out _ hk2 | exact SK.out _ hk1)
    (first
    | (go_at_call 98; with_reducible refine C1.out.mono ?_; rintro e w1 ⟨rfl, hk1⟩)
    | (go_at_call 87; with_reducible refine (C2.out w1 hk1).mono ?_; rintro e w2 ⟨rfl, hkk⟩; have hk2 := Keeps.next hk1 hkk))
  all_goals
    go_wp2_with fail
    go_ret
    exact ⟨rfl, (Keeps.refl none' w).drew.next hk2⟩
theorem in64_fits {n : Int} {l : List Int} (h : tabB n l = true) : In64 l := by
  have hb := (tabB_true.1 h).1
  intro v hv
  have := hb v hv
  unfold Pi.Px.Byte at this
  omega
end Go.Proofs.YtfcpbpfemmdklaaGreat.Tr
