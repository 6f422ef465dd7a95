/- Adding a layer (30). -/
import Derived.Test.YtfcpbpfemmdklaaYA
namespace Go.Proofs.Ytfcpbpfemmdklaa
open Go.RowKit Go.Lib
set_option linter.unusedSimpArgs false
set_option linter.unusedVariables false

/-- The edit in its block, as one value. -/
def Row35 (w : World) (b : Nat) : Prop := ∃ cs, w.heap[b]? = some (.cells cs 35 (0, 0)) ∧ cs.size = 19
theorem size35 : (Try.prog.info? 35).map (·.size) = some 19 := by kernel_rfl
theorem ldx35 {ev : Operand → Value} {x : Operand} {w : World} {d : Option Tmp} {t : TypeId} {p : String} {af} {g} (h : ev x = .pointer (some ⟨ptrBlock (ev x), 0, none⟩)) (r : Row35 w (ptrBlock (ev x))) :
    (execOp ev { dst := d, op := Op.load 35 x, type := t, pos := p, after := af, guard := g }).run Try.prog w = .ok (.value (.agg (rowAt w (ptrBlock (ev x))))) w := by
  obtain ⟨cs, h1, h2⟩ := r
  unfold execOp
  generalize ptrBlock (ev x) = b at *
  simp only [h, Instr.loadAt, Instr.sureAddr, Sem.run_bind, Sem.run_pure, Result.andThen_ok, run_loadVar_row w b 35 35 cs (0, 0) _ h1 Try.underlying35 rfl (by rw [h2]; exact size35)]
  unfold rowAt
  rw [h1]
theorem Eb.row {w : World} {E : Nat} {e : PEd} {p s q : Hd} (h : Eb w E e p s q) : Row35 w E ∧ rowAt w E = (edCells e p s q).toArray := by
  refine ⟨⟨_, h, rfl⟩, ?_⟩
  unfold rowAt
  rw [show w.heap[E]? = _ from h]
theorem Whole.setNext {B : Nat} {w : World} {R : Nat} {x y z : Int} {h : Hd} {ls : List Loc} (W : Whole B w R x y z h ls) (z' : Int) : Whole B (w.setCell ⟨R, 2, none⟩ (.int .i64 z')) R x y z' h ls := by
  have out := W.out
  refine ⟨Dc.s2 (x := x) (y := y) (z := z) (h := h) W.doc z', W.row.keepB (keeps_at w R 2 _) (fun b hb e => ?_), W.own.keep (keeps_at w R 2 _) (fun b hb e => ?_), W.nodup, W.out⟩
  · have e' : b = R := e
    exact out (by rw [← e']; simp [hb])
  · have e' : b = R := e
    exact out (by rw [← e']; simp [hb])
/-- What an edit leaves of a document that nobody else has any part of. -/
def Edited (B : Nat) (w : World) (R : Nat) (x y z' : Int) (r : Except Int (List Lay)) (en : Ending) (w' : World) : Prop :=
  match r with
  | .error f => en = .returned (.int .i64 f) ∧ Keeps (fun q => B ≤ q) w w'
  | .ok ls' => en = .returned (.int .i64 0) ∧ ∃ h' lsL, er lsL = ls' ∧ Whole B w' R x y z' h' lsL ∧ Keeps (fun q => B ≤ q) w w'
theorem Edited.err {B : Nat} {w : World} {R : Nat} {x y z' : Int} {r : Except Int (List Lay)} {f : Int} {w' : World} (e : r = .error f) (k : Keeps none' w w') : Edited B w R x y z' r (.returned (.int .i64 f)) w' := by
  subst e
  exact ⟨rfl, keeps_weak k (fun q _ h => h.elim)⟩
theorem Edited.good {B : Nat} {w : World} {R : Nat} {x y z' : Int} {r : Except Int (List Lay)} {ls' : List Lay} {h' : Hd} {lsL : List Loc} {w' : World} (e : r = .ok ls') (e1 : er lsL = ls') (W : Whole B w' R x y z' h' lsL) (k : Keeps (fun q => B ≤ q) w w') : Edited B w R x y z' r (.returned (.int .i64 0)) w' := by
  subst e
  exact ⟨rfl, h', lsL, e1, W, k⟩
theorem new_loc {w : World} {d : Dat} {p : Hd} (hm : d.mask = []) (hq : d.pars = []) {B : Nat} (o : OwnR B w 3 1 p (ints d.p)) : Own B w [.mk d p Hd.nil Hd.nil Hd.nil []] := by
  rw [own_cons]
  have nl : ∀ (e k : Nat), OwnR B w e k Hd.nil [] := fun e k => ⟨⟨by simp [Hd.nil], .inl ⟨rfl, rfl⟩⟩, fun u hu => (by cases hu), by show 0 ≤ _; omega⟩
  refine ⟨o, by rw [hm]; exact nl 5 1, by rw [hq]; exact nl 3 1, by rw [flat]; exact nl 48 19, by unfold Own; rw [All]; trivial, by unfold Own; rw [All]; trivial⟩
theorem blks_new (d : Dat) (p : Hd) : blks [.mk d p Hd.nil Hd.nil Hd.nil []] = p.blk := by
  unfold blks
  rw [hds, hds]
  simp [Hd.blk, Hd.nil]
theorem fresh_mask (z n w h : Int) : (freshD z n w h).mask = [] ∧ (freshD z n w h).pars = [] := by unfold freshD; split <;> exact ⟨rfl, rfl⟩
attribute [local go_sem ↓] ldx35
attribute [local go_sem] ptrBlock_some aggCells_agg
set_option maxRecDepth 100000 in
set_option maxHeartbeats 800000 in
theorem add30 (B R : Nat) (x y z : Int) (h : Hd) (ls : List Loc) (e : PEd) (p s q : Hd) (w : World) (W : Whole B w R x y z h ls) (G : Good z (er ls)) (hz : z ≤ 4611686018427387904) (hBR : B ≤ R) :
    Calls Try.prog 30 #[.pointer (some ⟨R, 0, none⟩), edV e p s q] w fun en w' => Edited B w R x y (z + 1) (addP z (er ls) e.to e.at_ e.n e.w e.h) en w' := by
  have HW := Lib.hid W
  have HG := Lib.hid G
  have HZ := Lib.hid (And.intro G.one hz)
  have HB := Lib.hid (And.intro hBR (lt_of_block W.doc))
  have HC := Lib.hid (show cnt ls ≤ 4096 from by rw [cnt_eq]; exact G.cnt)
  have E0 := Lib.hid (Eb.new w e p s q)
  have K0 := Lib.hid ((Keeps.refl none' w).alloc (.cells (edCells e p s q).toArray 35))
  clear W G hz hBR
  unfold edV
  obtain ⟨EV, hEV⟩ : ∃ EV, EV = (edCells e p s q).toArray := ⟨_, rfl⟩
  rw [← hEV]
  rw [← hEV] at E0 K0
  have HEV := Lib.hid hEV
  clear hEV
  go_enter Try.func30, Try.ntmps30
  go_upto_region 1 with (fail)
  generalize w.alloc (.cells EV 35) = w1 at *
  obtain ⟨E, hE⟩ : ∃ E, E = w.heap.size := ⟨_, rfl⟩
  rw [← hE] at E0
  rw [← hE]
  have EE := Lib.hid hE
  clear hE
  have e4 := E0.out.c4
  have U := Lib.hid (upto46 e.n 2 w1)
  cases hn : (decide (0 ≤ e.n) && decide (e.n ≤ 2)) with
  | false =>
    rw [hn] at U
    have A := Lib.hid (show addP z (er ls) e.to e.at_ e.n e.w e.h = .error 41 from by
      unfold addP
      rw [if_pos (by simpa using hn)])
    go_wp2_with ((with_reducible refine U.out.mono ?_); rintro en w2 ⟨rfl, hw⟩; subst hw)
    go_ret
    exact Edited.err A.out K0.out
  | true =>
    rw [hn] at U
    have A1 := Lib.hid (show ∀ X : Except Int (List Lay), (if ¬ (0 ≤ e.n ∧ e.n ≤ 2) then .error 41 else X) = X from fun X => by rw [if_neg (by simpa using hn)])
    have NB := Lib.hid (show 0 ≤ e.n ∧ e.n ≤ 2 from by simpa using hn)
    clear hn
    go_upto_region 3 with ((with_reducible refine U.out.mono ?_); rintro en w2 ⟨rfl, hw⟩; subst hw)
    clear U e4
    have e4 := E0.out.c4
    have e8 := E0.out.c8
    have e9 := E0.out.c9
    go_cut [21] from 11 (fun s21 w' => Keeps none' w2 w' ∧ s21 = .bool (decide (e.n = 0) && !(areaP e.w e.h)))
    case first =>
      by_cases h0 : e.n = 0
      · have en0 : (e.n == 0) = true := by simpa using h0
        have AR := Lib.hid (area16 e.w e.h w2)
        have HR := Lib.hid (show (decide (e.n = 0) && !(areaP e.w e.h)) = !(areaP e.w e.h) from by simp [h0])
        clear h0
        go_wp2_with ((with_reducible refine AR.out.mono ?_); rintro en w3 ⟨rfl, hw⟩; subst hw)
        go_meet
        case rel => exact ⟨Keeps.refl _ _, by rw [HR.out]⟩
      · have en0 : (e.n == 0) = false := by simpa using h0
        have HR := Lib.hid (show (decide (e.n = 0) && !(areaP e.w e.h)) = false from by simp [h0])
        clear h0
        go_wp2_with fail
        go_meet
        case rel => exact ⟨Keeps.refl _ _, by rw [HR.out]⟩
    case rest =>
    obtain ⟨kc, rfl⟩ := hcut
    have K2 := Lib.hid (K0.out.next kc)
    have E2 := Lib.hid (E0.out.later kc)
    clear kc e4 e8 e9 K0 E0
    cases hv : (decide (e.n = 0) && !(areaP e.w e.h)) with
    | true =>
      have A := Lib.hid (show addP z (er ls) e.to e.at_ e.n e.w e.h = .error 31 from by
        unfold addP
        rw [A1.out, if_pos (by simpa using hv)])
      clear hv
      go_wp2_with fail
      go_ret
      exact Edited.err A.out K2.out
    | false =>
    have A2 := Lib.hid (show ∀ X : Except Int (List Lay), (if e.n = 0 ∧ areaP e.w e.h = false then .error 31 else X) = X from fun X => by rw [if_neg (by simpa using hv)])
    have FR := Lib.hid (show e.n = 0 → areaP e.w e.h = true from fun h0 => by simpa [h0] using hv)
    clear hv
    have e2 := E2.out.c2
    have GR := Lib.hid (group47 R x y z h ls e.to wc ((HW.out.later K2.out).doc) ((HW.out.later K2.out).docV) (by have := HC.out; omega))
    rcases home_doc e.to R h ls with ⟨f, hf, hp, hgv⟩ | ⟨C, h', ls', hp, hgv, hH, hL⟩
    · have A := Lib.hid (show addP z (er ls) e.to e.at_ e.n e.w e.h = .error f from by
        unfold addP
        rw [A1.out, A2.out, hp])
      rw [hgv] at GR
      unfold homeV at GR
      clear hp hgv
      rcases hf with rfl | rfl
      · go_wp2_with ((with_reducible refine GR.out.mono ?_); rintro en w3 ⟨rfl, hk3⟩; have K3 := Lib.hid (K2.out.next hk3); clear hk3)
        go_ret
        exact Edited.err A.out (K3.out.alloc _)
      · go_wp2_with ((with_reducible refine GR.out.mono ?_); rintro en w3 ⟨rfl, hk3⟩; have K3 := Lib.hid (K2.out.next hk3); clear hk3)
        go_ret
        exact Edited.err A.out (K3.out.alloc _)
    · rw [hgv] at GR
      unfold homeV at GR
      simp only at GR
      subst hH
      subst hL
      have A3 := Lib.hid hp
      clear hp hgv
      obtain ⟨D, hD⟩ : ∃ D, D = C.length := ⟨_, rfl⟩
      rw [← hD] at GR
      have ED := Lib.hid hD
      clear hD
      go_upto_region 8 with ((with_reducible refine GR.out.mono ?_); rintro en w3 ⟨rfl, hk3⟩; have K3 := Lib.hid (K2.out.next hk3); have E3 := Lib.hid (E2.out.later hk3); clear hk3)
      clear e2
      have K4 := Lib.hid (K3.out.alloc (.cells #[.int .i64 (idOf C), .pointer (some ⟨kbOf R C, koOf C, none⟩), .int .i64 (D : Int)] 65))
      have H4 := Lib.hid (Hm.new w3 (idOf C) (kbOf R C) (koOf C) (D : Int))
      have E4 := Lib.hid (E3.out.later ((Keeps.refl none' w3).alloc (.cells #[.int .i64 (idOf C), .pointer (some ⟨kbOf R C, koOf C, none⟩), .int .i64 (D : Int)] 65)))
      obtain ⟨Hb, hHb⟩ : ∃ Hb, Hb = w3.heap.size := ⟨_, rfl⟩
      rw [← hHb] at H4
      rw [← hHb]
      clear hHb
      generalize w3.alloc (.cells #[.int .i64 (idOf C), .pointer (some ⟨kbOf R C, koOf C, none⟩), .int .i64 (D : Int)] 65) = w4 at *
      have W4 := Lib.hid (HW.out.later K4.out)
      have n4 := W4.out.at_.1
      have HLN := Lib.hid W4.out.len
      have e3 := E4.out.c3
      have m1 := H4.out.c1
      go_cut [44] from 32 (fun s44 w' => Keeps none' w4 w' ∧ s44 = .bool (decide (e.at_ < -1) || decide ((h'.n : Int) < e.at_)))
      case first =>
        by_cases t1 : e.at_ < -1
        · have d1 : decide (e.at_ < -1) = true := by simpa using t1
          have HR := Lib.hid (show (decide (e.at_ < -1) || decide ((h'.n : Int) < e.at_)) = true from by simp [t1])
          clear t1
          go_quiet (fail)
          go_wp2_with fail
          go_meet
          case rel => exact ⟨(Keeps.refl none' w4).drewN _, by rw [HR.out]⟩
        · have d1 : decide (e.at_ < -1) = false := by simpa using t1
          by_cases t2 : (h'.n : Int) < e.at_
          · have d2 : decide (e.at_ > (h'.n : Int)) = true := by simpa using t2
            have HR := Lib.hid (show (decide (e.at_ < -1) || decide ((h'.n : Int) < e.at_)) = true from by simp [t2])
            clear t1 t2
            go_quiet (fail)
            go_wp2_with fail
            go_meet
            case rel => exact ⟨(Keeps.refl none' w4).drewN _, by rw [HR.out]⟩
          · have d2 : decide (e.at_ > (h'.n : Int)) = false := by simpa using t2
            have HR := Lib.hid (show (decide (e.at_ < -1) || decide ((h'.n : Int) < e.at_)) = false from by simp only [d1, Bool.false_or, decide_eq_false_iff_not]; exact t2)
            clear t1 t2
            go_quiet (fail)
            go_wp2_with fail
            go_meet
            case rel => exact ⟨(Keeps.refl none' w4).drewN _, by rw [HR.out]⟩
      case rest =>
      obtain ⟨kc, rfl⟩ := hcut
      have K5 := Lib.hid (K4.out.next kc)
      have E5 := Lib.hid (E4.out.later kc)
      have H5 := Lib.hid (H4.out.later kc)
      clear kc n4 e3 m1 K4 E4 H4 W4
      cases hv : (decide (e.at_ < -1) || decide ((h'.n : Int) < e.at_)) with
      | true =>
        have A := Lib.hid (show addP z (er (plugL C h' ls')) e.to e.at_ e.n e.w e.h = .error 43 from by
          unfold addP
          rw [A1.out, A2.out, A3.out]
          simp only
          rw [if_pos (by rw [er_length, ← HLN.out]; simpa using hv)])
        clear hv
        go_wp2_with fail
        go_ret
        exact Edited.err A.out K5.out
      | false =>
      have A4 := Lib.hid (show ∀ X : Except Int (List Lay), (if e.at_ < -1 ∨ ((er ls').length : Int) < e.at_ then .error 43 else X) = X from fun X => by rw [if_neg (by rw [er_length, ← HLN.out]; simpa using hv)])
      have AT := Lib.hid (show -1 ≤ e.at_ ∧ e.at_ ≤ (h'.n : Int) from by simp at hv; omega)
      clear hv
      have W5 := Lib.hid (HW.out.later K5.out)
      obtain ⟨k, hk⟩ : ∃ k, k = cnt (plugL C h' ls') := ⟨_, rfl⟩
      have HK := Lib.hid hk
      have CT := Lib.hid (count14 x y z (plugH C h') (plugL C h' ls') wc W5.out.docV (by have := HC.out; omega))
      rw [← hk] at CT
      clear hk
      have c0 := Dc.c0 (x := x) (y := y) (z := z) (h := plugH C h') W5.out.doc
      have c1 := Dc.c1 (x := x) (y := y) (z := z) (h := plugH C h') W5.out.doc
      have c2 := Dc.c2 (x := x) (y := y) (z := z) (h := plugH C h') W5.out.doc
      have c3 := Dc.c3 (x := x) (y := y) (z := z) (h := plugH C h') W5.out.doc
      go_upto_region 10 with (fail)
      go_cut [54] from 45 (fun s54 w' => Keeps none' wc w' ∧ s54 = .bool (decide (4096 ≤ k) || decide (64 ≤ D)))
      case first =>
        by_cases t1 : 4096 ≤ k
        · have d1 : decide ((k : Int) ≥ 4096) = true := by simp; omega
          have d1' : decide (4096 ≤ k) = true := by simpa using t1
          have HR := Lib.hid (show (decide (4096 ≤ k) || decide (64 ≤ D)) = true from by simp [t1])
          go_wp2_with ((with_reducible refine CT.out.mono ?_); rintro en w6 ⟨rfl, hk6⟩)
          go_meet
          case rel => exact ⟨hk6, by rw [HR.out]⟩
        · have d1 : decide ((k : Int) ≥ 4096) = false := by simp; omega
          have d1' : decide (4096 ≤ k) = false := by simpa using t1
          by_cases t2 : 64 ≤ D
          · have d2 : decide ((D : Int) ≥ 64) = true := by simp; omega
            have d2' : decide (64 ≤ D) = true := by simpa using t2
            have HR := Lib.hid (show (decide (4096 ≤ k) || decide (64 ≤ D)) = true from by simp [t2])
            go_wp2_with ((with_reducible refine CT.out.mono ?_); rintro en w6 ⟨rfl, hk6⟩; have m2 := (H5.out.later hk6).c2)
            go_meet
            case rel => exact ⟨hk6, by rw [HR.out]⟩
          · have d2 : decide ((D : Int) ≥ 64) = false := by simp; omega
            have d2' : decide (64 ≤ D) = false := by simpa using t2
            have HR := Lib.hid (show (decide (4096 ≤ k) || decide (64 ≤ D)) = false from by simp only [d1', d2', Bool.false_or])
            go_wp2_with ((with_reducible refine CT.out.mono ?_); rintro en w6 ⟨rfl, hk6⟩; have m2 := (H5.out.later hk6).c2)
            go_meet
            case rel => exact ⟨hk6, by rw [HR.out]⟩
      case rest =>
      obtain ⟨kc, rfl⟩ := hcut
      have K6 := Lib.hid (K5.out.next kc)
      have E6 := Lib.hid (E5.out.later kc)
      have H6 := Lib.hid (H5.out.later kc)
      clear kc c0 c1 c2 c3 K5 E5 H5 W5 CT
      have PK := Lib.hid (show k = pcnt (er (plugL C h' ls')) ∧ D = (C.map Frm.er).length from ⟨by rw [HK.out, cnt_eq], by rw [List.length_map]; exact ED.out⟩)
      cases hv : (decide (4096 ≤ k) || decide (64 ≤ D)) with
      | true =>
        have A := Lib.hid (show addP z (er (plugL C h' ls')) e.to e.at_ e.n e.w e.h = .error 31 from by
          unfold addP
          rw [A1.out, A2.out, A3.out]
          simp only
          rw [A4.out, if_pos (by rw [← PK.out.1, ← PK.out.2]; simpa using hv)])
        clear hv
        go_wp2_with fail
        go_ret
        exact Edited.err A.out K6.out
      | false =>
      have A := Lib.hid (show addP z (er (plugL C h' ls')) e.to e.at_ e.n e.w e.h = .ok (plugP (C.map Frm.er) (insAt e.at_ (.mk (freshD z e.n e.w e.h) []) (er ls'))) from by
        unfold addP
        rw [A1.out, A2.out, A3.out]
        simp only
        rw [A4.out, if_neg (by rw [← PK.out.1, ← PK.out.2]; simpa using hv)])
      clear hv A1 A2 A3 A4 PK
      have W6 := Lib.hid (HW.out.later K6.out)
      have fre := fun (w' : World) (hk : Keeps none' wc w') => fresh49 R x y z (plugH C h') e p s q w' ((W6.out.later hk).doc) FR.out
      unfold edV at fre
      rw [← HEV.out] at fre
      have FRE := Lib.hid fre
      clear fre
      have PUT := Lib.hid (show ∀ (w7 : World) (p' : Hd), Keeps none' wc w7 → OwnR wc.heap.size w7 3 1 p' (ints (freshD z e.n e.w e.h).p) → Calls Try.prog 48 #[.agg #[.int .i64 (idOf C), .pointer (some ⟨kbOf R C, koOf C, none⟩), .int .i64 (D : Int)], .int .i64 e.at_, .agg (cells19 (freshD z e.n e.w e.h) p' Hd.nil Hd.nil Hd.nil).toArray] w7 fun en w' =>
          en = .returned (.tuple #[]) ∧ ∃ h2 lsL, er lsL = plugP (C.map Frm.er) (insAt e.at_ (.mk (freshD z e.n e.w e.h) []) (er ls')) ∧ Whole B w' R x y z h2 lsL ∧ Keeps (fun q => B ≤ q) w w' from by
        intro w7 p' hk op
        have hRw : R < wc.heap.size := lt_of_block W6.out.doc
        have hat := AT.out
        have hsm := (len_small (C := C) (h := h') (ls := ls') rfl HG.out.cnt).1
        have hln := HLN.out
        have dx : ∀ b ∈ blks [.mk (freshD z e.n e.w e.h) p' Hd.nil Hd.nil Hd.nil []], b ≠ R ∧ b ∉ (h'.blk ++ blks ls') ++ outs C := by
          intro b hb
          rw [blks_new] at hb
          have h1 := (op.range b hb).1
          exact ⟨by omega, fun e => by have := (W6.out.lt b e).2; omega⟩
        have kw : Keeps (fun q => B ≤ q) w w7 := (keeps_weak (K6.out.next hk) (fun q _ e => e.elim))
        have hBw : B ≤ wc.heap.size := by have := HB.out.1; omega
        have fm := fresh_mask z e.n e.w e.h
        have r := put_doc (lx := .mk (freshD z e.n e.w e.h) p' Hd.nil Hd.nil Hd.nil []) e.at_ (if e.at_ = -1 then ls'.length else e.at_.toNat) (W6.out.later hk) kw HB.out.1 (by have := hk.size; omega) (new_loc fm.1 fm.2 (op.low hBw)) (by rw [blks_new]; exact Hd.blk_nodup _) dx
          (by split <;> omega) (by omega) (by split <;> omega) (idOf C) D
        have e9 : (Lay.mk (Loc.dat (.mk (freshD z e.n e.w e.h) p' Hd.nil Hd.nil Hd.nil [])) (er (Loc.kids (.mk (freshD z e.n e.w e.h) p' Hd.nil Hd.nil Hd.nil [])))) = Lay.mk (freshD z e.n e.w e.h) [] := by
          show Lay.mk (freshD z e.n e.w e.h) (er []) = _
          rw [er]
        rw [e9] at r
        exact r)
      have r5 := E6.out.row.1
      have r6 : rowAt wc E = EV := by rw [E6.out.row.2, HEV.out]
      have e3 := E6.out.c3
      have m0 := H6.out.c0
      have m1 := H6.out.c1
      have m2 := H6.out.c2
      have r5d : Row35 wc.drew E := r5
      have r6d : rowAt wc.drew E = EV := r6
      go_upto_region 12 with (fail)
      go_cut [] from 55 (fun w' => ∃ h2 lsL, er lsL = plugP (C.map Frm.er) (insAt e.at_ (.mk (freshD z e.n e.w e.h) []) (er ls')) ∧ Whole B w' R x y z h2 lsL ∧ Keeps (fun q => B ≤ q) w w')
      case first =>
        go_region_law (first
          | (go_simp; (with_reducible refine (FRE.out wc.drew ((Keeps.refl none' wc).drew)).mono ?_); rintro en w7 ⟨p', rfl, op, hk7⟩; have k7 : Keeps none' wc w7 := (Keeps.refl none' wc).drew.next hk7; have e3' := k7.cell e3; have m0' := k7.cell m0; have m1' := k7.cell m1; have m2' := k7.cell m2; have OP := Lib.hid (show OwnR wc.heap.size w7 3 1 p' (ints (freshD z e.n e.w e.h).p) from op); clear op)
          | (go_simp; (with_reducible refine (PUT.out w7 p' k7 OP.out).mono ?_); rintro en w8 ⟨rfl, X8⟩))
        all_goals
          go_wp2_with fail
          go_meet
          case rel => exact X8
      case rest =>
        obtain ⟨h2, lsL, q1, q2, q3⟩ := hcut
        have Q := Lib.hid (And.intro q1 (And.intro q2 q3))
        have c2 := Dc.c2 (x := x) (y := y) (z := z) (h := h2) q2.doc
        have f2 := Dc.fr (i := 2) (x := x) (y := y) (z := z) (h := h2) q2.doc
        have wz : IntKind.i64.wrap (z + 1) = z + 1 := wrap_i64 _ (by have := HZ.out; omega) (by have := HZ.out; omega)
        have wz2 : wrap64 (z + 1) = z + 1 := wrap64_id _ (by have := HZ.out; omega) (by have := HZ.out; omega)
        clear q1 q2 q3 r5 r6 r5d r6d e3 m0 m1 m2
        go_wp2_with fail
        go_ret
        exact Edited.good A.out Q.out.1 (Q.out.2.1.setNext (z + 1)) (Q.out.2.2.trans (keeps_at _ R 2 _) (fun q hq e => by have e' : q = R := e; have := HB.out.1; omega))
end Go.Proofs.Ytfcpbpfemmdklaa
