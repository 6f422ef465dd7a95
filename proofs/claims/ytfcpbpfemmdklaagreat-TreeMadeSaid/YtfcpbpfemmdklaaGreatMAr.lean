/- Texts of a layer, one behind the other. -/
import Derived.Test.YtfcpbpfemmdklaaGreatMAl
import Derived.Test.YtfcpbpfemmdklaaGreatMAq
import Derived.Test.YtfcpbpfemmdklaaGreatMAp
/- A layer's mask. (printed by genZZ.py) -/
namespace Go.Proofs.YtfcpbpfemmdklaaGreat.Tr
open Go.RowKit Go.Lib
set_option linter.unusedSimpArgs false
set_option linter.unusedVariables false

def ptOf (p : Int × Int) : La.Pt := ⟨p.1, p.2⟩
def flipB (inv : Bool) (v : Int) : Int := if inv then 255 - v else v
/-- The bytes of a mask. -/
def maskL (ps : List La.Pt) (W H : Nat) (inv : Bool) : List Int := (List.range (W * H)).map fun j => flipB inv (La.byteB (La.maskF ps W j))
def setMask (d : Dat) (l : List Int) : Dat := { d with mask := l }
def maskP (ls : List Lay) (x y : Int) (e : PEd) : Except Int (List Lay) :=
  match fnd e.id ls with
  | none => .error 40
  | some r => if uptoB e.n 2 = false then .error 32 else
    if e.n = 2 then .ok (plugP r.C (r.pre ++ .mk (setMask r.d []) r.kids :: r.post)) else
    if (La.shape (e.shape.map ptOf) && La.areaB x y) = false then .error 31 else
    .ok (plugP r.C (r.pre ++ .mk (setMask r.d (maskL (e.shape.map ptOf) x.toNat y.toNat (decide (e.n = 1)))) r.kids :: r.post))
theorem below_keeps {w w' : World} (b : Below w.heap.size w w') : Keeps none' w w' := ⟨b.os, b.tape, b.output, b.size, fun k hk _ => b.block k hk⟩
theorem ownR_nil (B : Nat) (w : World) (e k : Nat) : OwnR B w e k Hd.nil [] := ⟨⟨by simp [Hd.nil], .inl ⟨rfl, rfl⟩⟩, fun u hu => (by cases hu), by show 0 ≤ _; omega⟩
/-- A mask in memory, turned so far. -/
def MaskI (w : World) (G N : Nat) (f : Nat → Bool) (inv : Bool) (i : Nat) : Prop :=
  ∃ cur : Array Value, w.heap[G]? = some (.cells cur 5 (0, 0)) ∧ cur.size = N ∧ ∀ j, j < N → cur[j]? = some (.int .u8 (flipB (inv && decide (j < i)) (La.byteB (f j))))
theorem MaskI.start {w : World} {G N : Nat} {f : Nat → Bool} {inv : Bool} (h : La.MaskB w G N f) : MaskI w G N f inv 0 := by
  obtain ⟨cur, h1, h2, h3⟩ := h
  exact ⟨cur, h1, h2, fun j hj => by rw [h3 j hj]; simp [flipB]⟩
theorem MaskI.plain {w : World} {G N : Nat} {f : Nat → Bool} (h : La.MaskB w G N f) : MaskI w G N f false N := by
  obtain ⟨cur, h1, h2, h3⟩ := h
  exact ⟨cur, h1, h2, fun j hj => by rw [h3 j hj]; simp [flipB]⟩
theorem MaskI.lt {w : World} {G N i : Nat} {f : Nat → Bool} {inv : Bool} (h : MaskI w G N f inv i) : G < w.heap.size := by
  obtain ⟨cur, h1, -⟩ := h
  exact lt_of_block h1
theorem MaskI.cell {w : World} {G N i : Nat} {f : Nat → Bool} {inv : Bool} (h : MaskI w G N f inv i) (hi : i < N) : w.cell? ⟨G, i, none⟩ = some (.int .u8 (La.byteB (f i))) ∧ w.frozen? ⟨G, i, none⟩ = false := by
  obtain ⟨cur, h1, h2, h3⟩ := h
  have h4 := h3 i hi
  rw [show (inv && decide (i < i)) = false from by simp] at h4
  exact ⟨by simp [World.cell?, h1, h4, flipB], by simp [World.frozen?, h1]⟩
theorem MaskI.step {w : World} {G N i : Nat} {f : Nat → Bool} (h : MaskI w G N f true i) (hi : i < N) : MaskI (w.setCell ⟨G, i, none⟩ (.int .u8 (255 - La.byteB (f i)))) G N f true (i + 1) := by
  obtain ⟨cur, h1, h2, h3⟩ := h
  refine ⟨_, block_set h1 _, by rw [Array.size_setIfInBounds]; exact h2, fun j hj => ?_⟩
  rw [Array.getElem?_setIfInBounds]
  by_cases hji : i = j
  · subst hji
    rw [if_pos rfl, if_pos (by omega)]
    simp [flipB]
  · rw [if_neg hji, h3 j hj]
    have e : decide (j < i) = decide (j < i + 1) := by
      by_cases h9 : j < i
      · simp [h9]; omega
      · simp [h9]; omega
    rw [e]
theorem MaskI.own {w : World} {B G W H : Nat} {ps : List La.Pt} {inv : Bool} (h : MaskI w G (W * H) (La.maskF ps W) inv (W * H)) (hB : B ≤ G) (hN : W * H ≤ 4194304) : OwnR B w 5 1 ⟨some ⟨G, 0, none⟩, W * H, W * H⟩ (bytes (maskL ps W H inv)) := by
  obtain ⟨cur, h1, h2, h3⟩ := h
  have hl : (bytes (maskL ps W H inv)).length = W * H := by simp [bytes, maskL]
  refine ⟨⟨by rw [hl]; simp, .inr ⟨G, W * H, cur, rfl, hB, h1, Nat.le_refl _, by unfold maxLen; omega, by rw [h2, Nat.mul_one], ?_⟩⟩, bytes_one _, by show W * H ≤ _; omega⟩
  refine List.ext_getElem? fun j => ?_
  by_cases hj : j < W * H
  · rw [List.getElem?_take_of_lt (by show j < W * H * 1; omega), Array.getElem?_toList, h3 j hj]
    unfold bytes maskL
    rw [List.getElem?_map, List.getElem?_map, List.getElem?_range hj]
    simp [hj]
  · rw [List.getElem?_eq_none (by rw [List.length_take, Array.length_toList]; omega), List.getElem?_eq_none (by rw [hl]; omega)]
theorem byte_flip (b : Bool) : IntKind.u8.wrap (255 - La.byteB b) = 255 - La.byteB b := by cases b <;> decide
set_option maxRecDepth 100000 in
set_option maxHeartbeats 3200000 in
theorem mask_no (B R : Nat) (x y z : Int) (h : Hd) (ls : List Loc) (e : PEd) (p s q : Hd) (w : World) (W : Whole B w R x y z h ls) {z0 : Int} (G : Good z0 (er ls)) (kv : layV R h ls e.id = .tuple #[.pointer none, .int .i64 40]) (pe : maskP (er ls) x y e = .error 40) :
    Calls Tryz.prog 52 #[.pointer (some ⟨R, 0, none⟩), edV e p s q] w fun en w' => Edited B w R x y z (maskP (er ls) x y e) en w' := by
  have A := Lib.hid pe
  have HC : cnt ls ≤ 4096 := by rw [cnt_eq]; exact G.cnt
  have E0 := Lib.hid (Eb.new w e p s q)
  have K0 := Lib.hid ((Keeps.refl none' w).alloc (.cells (edCells e p s q).toArray 38))
  have KD := lay57 R x y z h ls e.id (w.alloc (.cells (edCells e p s q).toArray 38)) (W.later K0.out).doc ((W.later K0.out).docV) (by omega)
  rw [kv] at KD
  have KN := Lib.hid KD
  clear W G kv pe KD HC
  unfold edV
  obtain ⟨EV, hEV⟩ : ∃ EV, EV = (edCells e p s q).toArray := ⟨_, rfl⟩
  rw [← hEV]
  rw [← hEV] at E0 K0 KN
  clear hEV
  go_enter Tryz.func52, Tryz.ntmps52
  go_upto_region 1 with (fail)
  generalize w.alloc (.cells EV 38) = w1 at *
  obtain ⟨E, hE⟩ : ∃ E, E = w.heap.size := ⟨_, rfl⟩
  rw [← hE] at E0
  rw [← hE]
  clear hE
  have e1 := E0.out.c1
  go_wp2_with ((with_reducible refine KN.out.mono ?_); rintro en w2 ⟨rfl, hk⟩; have K2 := Lib.hid (K0.out.next hk); clear hk)
  go_ret
  exact Edited.err A.out K2.out
set_option maxRecDepth 100000 in
set_option maxHeartbeats 3200000 in
theorem mask_yes (B R : Nat) (x y z : Int) (e : PEd) (p s q : Hd) (w : World) (C : List Frm) (h' : Hd) (pre post : List Loc) (d : Dat) (lp lm lq lk : Hd) (kids : List Loc)
    (W : Whole B w R x y z (plugH C h') (plugL C h' (pre ++ .mk d lp lm lq lk kids :: post))) (hB : B ≤ w.heap.size) {z0 : Int} (G : Good z0 (er (plugL C h' (pre ++ .mk d lp lm lq lk kids :: post))))
    (kv : layV R (plugH C h') (plugL C h' (pre ++ .mk d lp lm lq lk kids :: post)) e.id = .tuple #[.pointer (some ⟨h'.b, h'.o + pre.length * 19, none⟩), .int .i64 0])
    (SP0 : La.Pts w s.a s.n (e.shape.map ptOf) ∧ s.n ≤ 33554432) (hf : fnd e.id (er (plugL C h' (pre ++ .mk d lp lm lq lk kids :: post))) = some ⟨C.map Frm.er, er pre, d, er kids, er post⟩) :
    Calls Tryz.prog 52 #[.pointer (some ⟨R, 0, none⟩), edV e p s q] w fun en w' => Edited B w R x y z (maskP (er (plugL C h' (pre ++ .mk d lp lm lq lk kids :: post))) x y e) en w' := by
  have SP := Lib.hid SP0
  have HC : cnt (plugL C h' (pre ++ .mk d lp lm lq lk kids :: post)) ≤ 4096 := by rw [cnt_eq]; exact G.cnt
  have HW := Lib.hid W
  have HF := Lib.hid hf
  have E0 := Lib.hid (Eb.new w e p s q)
  have K0 := Lib.hid ((Keeps.refl none' w).alloc (.cells (edCells e p s q).toArray 38))
  have KD := lay57 R x y z (plugH C h') _ e.id (w.alloc (.cells (edCells e p s q).toArray 38)) (W.later K0.out).doc ((W.later K0.out).docV) (by omega)
  rw [kv] at KD
  have KN := Lib.hid KD
  have HB := Lib.hid hB
  have LS := Lib.hid (lay_spot W)
  clear W G kv hf KD HC hB SP0
  unfold edV
  obtain ⟨EV, hEV⟩ : ∃ EV, EV = (edCells e p s q).toArray := ⟨_, rfl⟩
  rw [← hEV]
  rw [← hEV] at E0 K0 KN
  clear hEV
  obtain ⟨RES, hRES⟩ : ∃ RES, RES = maskP (er (plugL C h' (pre ++ .mk d lp lm lq lk kids :: post))) x y e := ⟨_, rfl⟩
  rw [← hRES]
  have HS := Lib.hid hRES
  clear hRES
  obtain ⟨LO, hLO⟩ : ∃ LO, LO = h'.o + pre.length * 19 := ⟨_, rfl⟩
  rw [← hLO] at KN
  have HLO := Lib.hid hLO
  clear hLO
  obtain ⟨LB, hLB⟩ : ∃ LB, LB = h'.b := ⟨_, rfl⟩
  rw [← hLB] at KN
  have HLB := Lib.hid hLB
  clear hLB
  go_enter Tryz.func52, Tryz.ntmps52
  go_upto_region 1 with (fail)
  generalize w.alloc (.cells EV 38) = w1 at *
  obtain ⟨E, hE⟩ : ∃ E, E = w.heap.size := ⟨_, rfl⟩
  rw [← hE] at E0
  rw [← hE]
  have HE := Lib.hid hE
  clear hE
  have e1 := E0.out.c1
  go_upto_region 4 with ((with_reducible refine KN.out.mono ?_); rintro en w2 ⟨rfl, hk⟩; have K2 := Lib.hid (K0.out.next hk); have E2 := Lib.hid (E0.out.later hk); have K12 := Lib.hid hk; clear hk)
  clear e1 KN E0 K0
  have L2 := Lib.hid (LS.out.later K2.out)
  have e4 := E2.out.c4
  have e5 := E2.out.c5
  have nE : LB ≠ E := by
    have h1 := LS.out.lt
    rw [HLB.out, HE.out]
    omega
  have nE' : E ≠ LB := fun h => nE h.symm
  clear e5
  have U1 := Lib.hid (fun w' => upto46 e.n 2 w')
  cases u1 : uptoB e.n 2 with
  | false =>
    have ER := Lib.hid (show RES = .error 32 from by
      rw [HS.out]
      unfold maskP
      rw [HF.out]
      simp only [u1, if_true])
    unfold uptoB at u1
    rw [u1] at U1
    clear u1
    go_wp2_with ((with_reducible refine (U1.out _).mono ?_); rintro en w3 ⟨rfl, hw⟩; replace hw := hw.symm; subst hw)
    go_ret
    exact Edited.err ER.out K2.out
  | true =>
  have ER0 := Lib.hid (show RES = if e.n = 2 then .ok (plugP (C.map Frm.er) (er pre ++ .mk (setMask d []) (er kids) :: er post)) else
      if (La.shape (e.shape.map ptOf) && La.areaB x y) = false then .error 31 else
      .ok (plugP (C.map Frm.er) (er pre ++ .mk (setMask d (maskL (e.shape.map ptOf) x.toNat y.toNat (decide (e.n = 1)))) (er kids) :: er post)) from by
    rw [HS.out]
    unfold maskP
    rw [HF.out]
    simp only [u1]
    rfl)
  unfold uptoB at u1
  rw [u1] at U1
  clear u1
  have x8 : w2.cell? ⟨LB, LO + 8, none⟩ = some (.slice lm.a lm.n lm.c) := by rw [HLB.out, HLO.out]; exact L2.out.cell 8 _ rfl
  have f8 : w2.frozen? ⟨LB, LO + 8, none⟩ = false := by rw [HLB.out]; exact L2.out.fr _
  by_cases hn2 : e.n = 2
  · have t1 : (e.n == 2) = true := by simp [hn2]
    have t2 : decide (e.n = 2) = true := by simp [hn2]
    have ER := Lib.hid (show RES = .ok (plugP (C.map Frm.er) (er pre ++ .mk (setMask d []) (er kids) :: er post)) from by rw [ER0.out, if_pos hn2])
    clear hn2 ER0
    go_upto_region 7 with ((with_reducible refine (U1.out _).mono ?_); rintro en w3 ⟨rfl, hw⟩; replace hw := hw.symm; subst hw)
    go_wp2_with fail
    go_ret
    obtain ⟨wa, ka⟩ := turn1 (d' := setMask d []) (m' := Hd.nil) (q' := lq) (j := 8) (u := .slice none 0 0) HW.out K2.out (by omega) rfl rfl rfl (.inr (ownR_nil _ _ _ _)) (.inl ⟨rfl, rfl⟩) (.inr rfl) HB.out
    rw [← HLB.out, ← HLO.out] at wa ka
    exact Edited.good ER.out (by rw [er_plug, er_append, er_cons]; rfl) wa (keeps_weak ka (fun q _ e => by have h1 := LS.out.low; rw [← HLB.out] at h1; have e' : q = LB := e; omega))
  · have t1 : (e.n == 2) = false := by simp [hn2]
    have t2 : decide (e.n = 2) = false := by simp [hn2]
    have ER1 := Lib.hid (show RES = if (La.shape (e.shape.map ptOf) && La.areaB x y) = false then .error 31 else
      .ok (plugP (C.map Frm.er) (er pre ++ .mk (setMask d (maskL (e.shape.map ptOf) x.toNat y.toNat (decide (e.n = 1)))) (er kids) :: er post)) from by rw [ER0.out, if_neg hn2])
    clear hn2 ER0
    have e11 := E2.out.c11
    have R2 := Lib.hid (show Dc w2 R x y z (plugH C h') from (HW.out.later K2.out).doc)
    have r0 := R2.out.c0
    have r1 := R2.out.c1
    have PS := Lib.hid (show La.Pts w2.drew s.a s.n (e.shape.map ptOf) from SP.out.1.later (fun k hk => K2.out.later k hk))
    cases hsa : (La.shape (e.shape.map ptOf) && La.areaB x y) with
    | false =>
      have ER := Lib.hid (show RES = .error 31 from by rw [ER1.out, if_pos hsa])
      have CM := Lib.hid (La.mask_no w2.drew s.a s.n s.c (e.shape.map ptOf) x y PS.out SP.out.2 hsa)
      unfold La.Refused at CM
      clear hsa ER1 PS
      go_upto_region 9 with ((with_reducible refine (U1.out _).mono ?_); rintro en w3 ⟨rfl, hw⟩; replace hw := hw.symm; subst hw)
      go_region_law (go_simp; (with_reducible refine CM.out.mono ?_); rintro en w5 ⟨rfl, hk⟩; have K5 := Lib.hid (below_keeps hk); clear hk)
      all_goals go_wp2_with fail
      all_goals go_ret
      all_goals exact Edited.err ER.out (K2.out.drew.next K5.out)
    | true =>
      have hx : 0 ≤ x ∧ 0 ≤ y ∧ x * y ≤ 4194304 := by
        simp only [La.areaB, La.sideB, Bool.and_eq_true, decide_eq_true_eq] at hsa
        exact ⟨by omega, by omega, by omega⟩
      obtain ⟨W, rfl⟩ : ∃ W : Nat, x = (W : Int) := ⟨x.toNat, by omega⟩
      obtain ⟨H, rfl⟩ : ∃ H : Nat, y = (H : Int) := ⟨y.toNat, by omega⟩
      have ER := Lib.hid (show RES = .ok (plugP (C.map Frm.er) (er pre ++ .mk (setMask d (maskL (e.shape.map ptOf) W H (decide (e.n = 1)))) (er kids) :: er post)) from by
        rw [ER1.out, if_neg (by rw [hsa]; simp), Int.toNat_natCast, Int.toNat_natCast])
      have hN : W * H ≤ 4194304 := by
        have h1 : ((W * H : Nat) : Int) ≤ 4194304 := by rw [Int.natCast_mul]; exact hx.2.2
        omega
      rw [Bool.and_eq_true] at hsa
      have CM := Lib.hid (La.mask_yes w2.drew s.a s.n s.c (e.shape.map ptOf) W H PS.out hsa.1 hsa.2)
      unfold La.MaskSays at CM
      have HN := Lib.hid hN
      clear hsa ER1 PS hx hN
      go_upto_region 9 with ((with_reducible refine (U1.out _).mono ?_); rintro en w3 ⟨rfl, hw⟩; replace hw := hw.symm; subst hw)
      have CN := Lib.hid (show Calls Tryz.prog 85 #[.slice s.a s.n s.c, .int .i64 (W : Int), .int .i64 (H : Int)] w2.drew (fun en w' => ∃ G, en = .returned (.tuple #[.slice (some ⟨G, 0, none⟩) (W * H) (W * H), .int .i64 0]) ∧ La.MaskB w' G (W * H) (La.maskF (e.shape.map ptOf) W) ∧ w2.heap.size ≤ G ∧ Keeps none' w2 w') from by
        refine CM.out.mono ?_
        rintro en w' ⟨G, h1, h2, h3, h4⟩
        exact ⟨G, h1, h2, h3, (Keeps.refl none' w2).drew.next (below_keeps h4)⟩)
      clear CM
      obtain ⟨N, hNN⟩ : ∃ N, N = W * H := ⟨_, rfl⟩
      rw [← hNN] at CN HN
      have HNN := Lib.hid hNN
      clear hNN
      go_cut [6, 7] from 30 (fun s6 s7 w' => ∃ G, s6 = .int .i64 0 ∧ s7 = .slice (some ⟨G, 0, none⟩) N N ∧ La.MaskB w' G N (La.maskF (e.shape.map ptOf) W) ∧ w2.heap.size ≤ G ∧ Keeps none' w2 w')
      case first =>
        go_region_law (go_simp; (with_reducible refine CN.out.mono ?_); rintro en w5 ⟨G, rfl, m1, m2, m3⟩)
        all_goals
          go_wp2_with fail
          go_meet
          case rel => exact ⟨G, rfl, rfl, m1, m2, m3⟩
      case rest =>
      obtain ⟨G, rfl, rfl, m1, m2, m3⟩ := hcut
      have HM := Lib.hid m1
      have HG := Lib.hid m2
      have KC := Lib.hid m3
      have e4 := m3.cell e4
      have LC := Lib.hid (L2.out.later m3)
      have L2R := Lib.hid (show ∀ w', Keeps none' w2 w' → LaySpot B w' R h' pre.length d lp lm lq lk from fun w' k => L2.out.later k)
      have HLT := Lib.hid (show LB < w.heap.size from by rw [HLB.out]; exact LS.out.lt)
      clear x8 f8 e11 r0 r1 m1 m2 m3 R2 U1 L2 CN E2
      have hN4 := HN.out
      by_cases hn1 : e.n = 1
      · have s1 : (e.n == 1) = true := by simp [hn1]
        have ER2 := Lib.hid (show RES = .ok (plugP (C.map Frm.er) (er pre ++ .mk (setMask d (maskL (e.shape.map ptOf) W H true)) (er kids) :: er post)) from by rw [ER.out, hn1]; rfl)
        clear hn1
        go_wp2_with fail
        go_loopw [52] (fun s52 wr => ∃ i : Nat, i ≤ N ∧ s52 = .int .i64 i ∧ MaskI wr G N (La.maskF (e.shape.map ptOf) W) true i ∧ Keeps none' w2 wr) (fun s52 _ => N - (intOf s52).toNat)
        case atStart => exact ⟨0, Nat.zero_le _, rfl, MaskI.start HM.out, KC.out⟩
        case round =>
          obtain ⟨i, hi, rfl, hm, hk⟩ := hrel
          have MI := Lib.hid hm
          have KR := Lib.hid hk
          clear hm hk
          by_cases hlt : i < N
          · have tk : decide ((i : Int) < (N : Int)) = true := by simp; omega
            have tk2 : decide (i < N) = true := by simp; omega
            obtain ⟨v, hv⟩ : ∃ v, v = La.byteB (La.maskF (e.shape.map ptOf) W i) := ⟨_, rfl⟩
            have mc := MI.out.cell hlt
            rw [← hv] at mc
            obtain ⟨mc1, mc2⟩ := mc
            have wv : IntKind.u8.wrap (255 - v) = 255 - v := by rw [hv]; exact byte_flip _
            have ST := Lib.hid (MI.out.step hlt)
            rw [← hv] at ST
            have KS := Lib.hid (KR.out.setCell (p := ⟨G, i, none⟩) (fun e => by have e' : G < w2.heap.size := e; have := HG.out; omega) (.int .u8 (255 - v)))
            have hb : (i : Int) < 4194304 := by omega
            have iw : wrap64 ((i : Int) + 1) = (i : Int) + 1 := wrap64_id _ (by omega) (by omega)
            clear hv
            go_wp2_with fail
            go_roundw
            case rel => exact ⟨i + 1, Nat.succ_le_of_lt hlt, by go_num, ST.out, KS.out⟩
            case measure => exact meas_lt hlt rfl
          · obtain rfl : i = N := by omega
            have tk : decide ((i : Int) < (i : Int)) = false := by simp
            have OWN := Lib.hid (show OwnR w.heap.size wr 5 1 ⟨some ⟨G, 0, none⟩, i, i⟩ (bytes (maskL (e.shape.map ptOf) W H true)) from by
              have h1 := MI.out
              rw [HNN.out] at h1
              have h2 := h1.own (B := w.heap.size) (Nat.le_trans K2.out.size HG.out) (by rw [← HNN.out]; exact HN.out)
              rw [← HNN.out] at h2
              exact h2)
            have LR := Lib.hid (L2R.out wr KR.out)
            have x8 : wr.cell? ⟨LB, LO + 8, none⟩ = some (.slice lm.a lm.n lm.c) := by rw [HLB.out, HLO.out]; exact LR.out.cell 8 _ rfl
            have f8 : wr.frozen? ⟨LB, LO + 8, none⟩ = false := by rw [HLB.out]; exact LR.out.fr _
            go_wp2_with fail
            go_ret
            obtain ⟨wa, ka⟩ := turn1 (d' := setMask d (maskL (e.shape.map ptOf) W H true)) (m' := ⟨some ⟨G, 0, none⟩, i, i⟩) (q' := lq) (j := 8) (u := .slice (some ⟨G, 0, none⟩) i i) HW.out (K2.out.next KR.out) (by omega) rfl rfl rfl (.inr OWN.out) (.inl ⟨rfl, rfl⟩) (.inr rfl) HB.out
            rw [← HLB.out, ← HLO.out] at wa ka
            exact Edited.good ER2.out (by rw [er_plug, er_append, er_cons]; rfl) wa (keeps_weak ka (fun q _ e => by have h1 := LS.out.low; rw [← HLB.out] at h1; have e' : q = LB := e; omega))
      · have s1 : (e.n == 1) = false := by simp [hn1]
        have ER2 := Lib.hid (show RES = .ok (plugP (C.map Frm.er) (er pre ++ .mk (setMask d (maskL (e.shape.map ptOf) W H false)) (er kids) :: er post)) from by rw [ER.out, show decide (e.n = 1) = false from by simp [hn1]])
        clear hn1
        have OWN := Lib.hid (show OwnR w.heap.size wc 5 1 ⟨some ⟨G, 0, none⟩, N, N⟩ (bytes (maskL (e.shape.map ptOf) W H false)) from by
          have h1 := MaskI.plain HM.out
          rw [HNN.out] at h1
          have h2 := h1.own (B := w.heap.size) (Nat.le_trans K2.out.size HG.out) (by rw [← HNN.out]; exact HN.out)
          rw [← HNN.out] at h2
          exact h2)
        have x8 : wc.cell? ⟨LB, LO + 8, none⟩ = some (.slice lm.a lm.n lm.c) := by rw [HLB.out, HLO.out]; exact LC.out.cell 8 _ rfl
        have f8 : wc.frozen? ⟨LB, LO + 8, none⟩ = false := by rw [HLB.out]; exact LC.out.fr _
        go_wp2_with fail
        go_ret
        obtain ⟨wa, ka⟩ := turn1 (d' := setMask d (maskL (e.shape.map ptOf) W H false)) (m' := ⟨some ⟨G, 0, none⟩, N, N⟩) (q' := lq) (j := 8) (u := .slice (some ⟨G, 0, none⟩) N N) HW.out (K2.out.next KC.out) (by omega) rfl rfl rfl (.inr OWN.out) (.inl ⟨rfl, rfl⟩) (.inr rfl) HB.out
        rw [← HLB.out, ← HLO.out] at wa ka
        exact Edited.good ER2.out (by rw [er_plug, er_append, er_cons]; rfl) wa (keeps_weak ka (fun q _ e => by have h1 := LS.out.low; rw [← HLB.out] at h1; have e' : q = LB := e; omega))
theorem mask36 (B R : Nat) (x y z : Int) (h : Hd) (ls : List Loc) (e : PEd) (p s q : Hd) (w : World) (W : Whole B w R x y z h ls) {z0 : Int} (G : Good z0 (er ls)) (hB : B ≤ w.heap.size) (SP0 : La.Pts w s.a s.n (e.shape.map ptOf) ∧ s.n ≤ 33554432) :
    Calls Tryz.prog 52 #[.pointer (some ⟨R, 0, none⟩), edV e p s q] w fun en w' => Edited B w R x y z (maskP (er ls) x y e) en w' := by
  rcases lay_doc e.id R h ls with ⟨a, b⟩ | ⟨C, pre, l, post, h', a1, a2, a3, a4⟩
  · exact mask_no B R x y z h ls e p s q w W G b (by unfold maskP; rw [a])
  · obtain ⟨d, lp, lm, lq, lk, kids⟩ := l
    subst a2 a3
    exact mask_yes B R x y z e p s q w C h' pre post d lp lm lq lk kids W hB G a4 SP0 a1
end Go.Proofs.YtfcpbpfemmdklaaGreat.Tr

/- Do, for the kinds 7 to 9. (printed by genZW.py) -/
namespace Go.Proofs.YtfcpbpfemmdklaaGreat.Tr
open Go.RowKit Go.Lib
set_option linter.unusedSimpArgs false
set_option linter.unusedVariables false

theorem placeP_err {ls : List Lay} {e : PEd} {f : Int} (h : placeP ls e = .error f) : f ≠ 0 := by
  unfold placeP at h
  split at h
  · cases h; decide
  split at h
  · cases h; decide
  split at h
  · split at h
    · cases h; decide
    split at h
    · rename_i hb; cases h; exact hb
    · cases h
  · cases h; decide
theorem adjustP_err {ls : List Lay} {e : PEd} {f : Int} (h : adjustP ls e = .error f) : f ≠ 0 := by
  unfold adjustP at h
  split at h
  · cases h; decide
  split at h
  · cases h; decide
  split at h
  · split at h
    · cases h; decide
    · cases h
  · cases h; decide
theorem maskP_err {ls : List Lay} {x y : Int} {e : PEd} {f : Int} (h : maskP ls x y e = .error f) : f ≠ 0 := by
  unfold maskP at h
  split at h
  · cases h; decide
  split at h
  · cases h; decide
  split at h
  · cases h
  split at h
  · cases h; decide
  · cases h
attribute [local go_sem ↓] ldx35
attribute [local go_sem] ptrBlock_some aggCells_agg
set_option maxRecDepth 100000 in
set_option maxHeartbeats 3200000 in
theorem doPlace (x y z : Int) (h : Hd) (ls : List Loc) (e : PEd) (p s q : Hd) (w : World) (D : DocV w h ls) {z0 : Int} (G : Good z0 (er ls)) (hk : e.kind = 8) :
    Calls Tryz.prog 9 #[docV x y z h, edV e p s q] w fun en w' => Done w x y (z) (placeP (er ls) e) en w' := by
  have HD := Lib.hid D
  have HG := Lib.hid G
  skip
  have C0 := Lib.hid (((Dc.new w x y z h).later ((Keeps.refl none' _).alloc (.cells (edCells e p s q).toArray 38))).later ((Keeps.refl none' _).alloc (.cells #[.int .i64 0, .int .i64 0, .int .i64 0, .slice none 0 0] 26)))
  have E0 := Lib.hid ((Eb.new (w.alloc (.cells #[.int .i64 x, .int .i64 y, .int .i64 z, .slice h.a h.n h.c] 26)) e p s q).later ((Keeps.refl none' _).alloc (.cells #[.int .i64 0, .int .i64 0, .int .i64 0, .slice none 0 0] 26)))
  have K0 := Lib.hid ((((Keeps.refl none' w).alloc (.cells #[.int .i64 x, .int .i64 y, .int .i64 z, .slice h.a h.n h.c] 26)).alloc (.cells (edCells e p s q).toArray 38)).alloc (.cells #[.int .i64 0, .int .i64 0, .int .i64 0, .slice none 0 0] 26))
  have R0 := Lib.hid (heap_alloc_new ((w.alloc (.cells #[.int .i64 x, .int .i64 y, .int .i64 z, .slice h.a h.n h.c] 26)).alloc (.cells (edCells e p s q).toArray 38)) (.cells #[.int .i64 0, .int .i64 0, .int .i64 0, .slice none 0 0] 26))
  have hs1 : (w.alloc (.cells #[.int .i64 x, .int .i64 y, .int .i64 z, .slice h.a h.n h.c] 26)).heap.size = w.heap.size + 1 := by simp
  have hs2 : ((w.alloc (.cells #[.int .i64 x, .int .i64 y, .int .i64 z, .slice h.a h.n h.c] 26)).alloc (.cells (edCells e p s q).toArray 38)).heap.size = w.heap.size + 1 + 1 := by simp
  rw [hs1] at E0
  rw [hs2] at R0
  clear hs1 hs2 D G
  unfold docV edV
  obtain ⟨EV, hEV⟩ : ∃ EV, EV = (edCells e p s q).toArray := ⟨_, rfl⟩
  rw [← hEV]
  rw [← hEV] at C0 E0 K0 R0
  have HEV := Lib.hid hEV
  have e0v := E0.out.c0
  rw [hk] at e0v
  clear hEV
  obtain ⟨Dk, hDk⟩ : ∃ Dk, Dk = w.heap.size := ⟨_, rfl⟩
  obtain ⟨E, hE⟩ : ∃ E, E = Dk + 1 := ⟨_, rfl⟩
  obtain ⟨Z, hZ⟩ : ∃ Z, Z = E + 1 := ⟨_, rfl⟩
  rw [← hDk] at C0
  rw [← hDk, ← hE] at E0 e0v
  rw [← hDk, ← hE, ← hZ] at R0
  have EE := Lib.hid (And.intro hDk (And.intro hE hZ))
  go_enter Tryz.func9, Tryz.ntmps9
  go_upto_region 1 with (fail)
  rw [← hDk, ← hE, ← hZ]
  clear hDk hE hZ
  generalize ((w.alloc (.cells #[.int .i64 x, .int .i64 y, .int .i64 z, .slice h.a h.n h.c] 26)).alloc (.cells EV 38)).alloc (.cells #[.int .i64 0, .int .i64 0, .int .i64 0, .slice none 0 0] 26) = w1 at *
  go_upto_region 2 with ((with_reducible refine (deeds17 w1).mono ?_); rintro en w2 ⟨rfl, f0, hw2⟩; have HW2 := Lib.hid hw2; clear hw2)
  have db := heap_alloc_new w1 (.cells #[f0, .func (.func 46) #[] #[], .func (.func 47) #[] #[], .func (.func 48) #[] #[], .func (.func 49) #[] #[], .func (.func 50) #[] #[], .func (.func 51) #[] #[], .func (.func 52) #[] #[], .func (.func 53) #[] #[], .func (.func 54) #[] #[]] 73)
  rw [← HW2.out] at db
  have DB := Lib.hid db
  have k12 : Keeps none' w1 w2 := by rw [HW2.out]; exact (Keeps.refl none' w1).alloc _
  clear db
  obtain ⟨DD, hDD⟩ : ∃ DD, DD = w1.heap.size := ⟨_, rfl⟩
  rw [← hDD] at DB
  rw [← hDD]
  clear hDD HW2
  have K2 := Lib.hid (K0.out.next k12)
  have C2 := Lib.hid (C0.out.later k12)
  have E2 := Lib.hid (E0.out.later k12)
  have R2 := Lib.hid ((k12.later Z (lt_of_block R0.out)).trans R0.out)
  have e0w := k12.cell e0v
  clear k12 C0 E0 K0 R0 e0v
  have c0 := C2.out.c0
  have c1 := C2.out.c1
  have c2 := C2.out.c2
  have c3 := C2.out.c3
  have cp := copied18 x y z h ls w2 (HD.out.later K2.out)
  unfold docV at cp
  have CP := Lib.hid cp
  clear cp
  go_upto_region 5 with ((with_reducible refine CP.out.mono ?_); rintro en w3 ⟨h', ls', rfl, hcp⟩; have CD := Lib.hid hcp; clear hcp)
  have ka := (Keeps.refl none' w3).alloc (.cells #[.int .i64 x, .int .i64 y, .int .i64 z, .slice h'.a h'.n h'.c] 26)
  have N4 := Lib.hid (Dc.new w3 x y z h')
  have K24 := Lib.hid (CD.out.keeps.next ka)
  have E4 := Lib.hid (E2.out.later K24.out)
  have R4 := Lib.hid ((K24.out.later Z (lt_of_block R2.out)).trans R2.out)
  have D4 := Lib.hid ((K24.out.later DD (lt_of_block DB.out)).trans DB.out)
  have e0 := K24.out.cell e0w
  have K4 := Lib.hid (K2.out.next K24.out)
  obtain ⟨Nx, hNx⟩ : ∃ Nx, Nx = w3.heap.size := ⟨_, rfl⟩
  have W4 := Lib.hid (show Whole w2.heap.size (w3.alloc (.cells #[.int .i64 x, .int .i64 y, .int .i64 z, .slice h'.a h'.n h'.c] 26)) Nx x y z h' ls' from by
    have hB : w2.heap.size ≤ w2.heap.size + 2 := by omega
    refine ⟨by rw [hNx]; exact N4.out, (CD.out.row.later ka).low hB, (CD.out.own.later ka).low hB, CD.out.nodup, fun hm => ?_⟩
    rcases List.mem_append.1 hm with hm | hm
    · have := (CD.out.row.range _ hm).2; omega
    · have := (CD.out.own.range _ hm).2; omega)
  obtain ⟨B2, hB2⟩ : ∃ B2, B2 = w2.heap.size := ⟨_, rfl⟩
  have NB := Lib.hid (show B2 ≤ Nx ∧ Z < B2 ∧ w.heap.size ≤ B2 from by rw [hNx, hB2]; exact ⟨CD.out.keeps.size, lt_of_block R2.out, K2.out.size⟩)
  rw [← hB2] at W4
  have SAME := Lib.hid CD.out.same
  rw [← hNx]
  clear hNx hB2 ka N4 c0 c1 c2 c3 CP CD K24 E2 R2 DB C2 K2 e0w
  generalize w3.alloc (.cells #[.int .i64 x, .int .i64 y, .int .i64 z, .slice h'.a h'.n h'.c] 26) = w4 at *
  have deed := place37 B2 Nx x y z h' ls' e p s q w4.drew (W4.out.later ((Keeps.refl none' w4).drew)) (by rw [SAME.out]; exact HG.out) (Nat.le_of_lt (Nat.lt_of_le_of_lt NB.out.1 (lt_of_block W4.out.doc)))
  unfold edV at deed
  rw [← HEV.out, SAME.out] at deed
  have DE := Lib.hid (show Calls Tryz.prog 53 #[.pointer (some ⟨Nx, 0, none⟩), .agg EV] w4.drew (fun en w' => ∃ v : Int, en = .returned (.int .i64 v) ∧ Edited B2 w4.drew Nx x y (z) (placeP (er ls) e) (.returned (.int .i64 v)) w') from deed.mono (fun _ _ h => h.val))
  clear deed
  have r5 : Row35 w4 E := E4.out.row.1
  have r6 : rowAt w4 E = EV := by rw [E4.out.row.2, HEV.out]
  have r5d : Row35 w4.drew E := r5
  have r6d : rowAt w4.drew E = EV := r6
  have fk : w4.cell? ⟨DD, 8, none⟩ = some (.func (.func 53) #[] #[]) := by simp [World.cell?, D4.out]
  go_cut [8] from 23 (fun s8 w' => ∃ v : Int, s8 = .int .i64 v ∧ Edited B2 w4.drew Nx x y (z) (placeP (er ls) e) (.returned (.int .i64 v)) w')
  case first =>
    go_region_law (go_simp; (with_reducible refine DE.out.mono ?_); rintro en w5 ⟨v, rfl, hed⟩)
    all_goals
      go_wp2_with fail
      go_meet
      case rel => exact ⟨v, rfl, hed⟩
  case rest =>
    obtain ⟨v, rfl, hed⟩ := hcut
    have ZW := Lib.hid (show w.heap.size ≤ Z from by have := EE.out; omega)
    clear r5 r6 r5d r6d fk e0
    cases hr : placeP (er ls) e with
    | error f =>
      rw [hr] at hed
      obtain ⟨hv, hk9⟩ := hed
      simp only [Ending.returned.injEq, Value.int.injEq, true_and] at hv
      subst hv
      have e1 : (v != 0) = true := by simpa using placeP_err hr
      have RS := Lib.hid hr
      have K9 := Lib.hid (keeps_of_from K4.out.drew hk9 NB.out.2.2)
      have R9 := Lib.hid ((hk9.block Z (lt_of_block R4.out) (by have := NB.out; omega)).trans R4.out)
      obtain ⟨⟨r0, r1, r2, r3⟩, rf⟩ := four_cells R9.out
      have f0' := rf 0
      have f1' := rf 1
      have f2' := rf 2
      have f3' := rf 3
      clear rf hr hk9
      go_wp2_with fail
      refine bodyPost_ret (results_cell_row2 rfl _ _ Z 26 _ (0, 0) _ rfl (four_set R9.out _ _ _ _) Tryz.underlying26 rfl (by kernel_rfl)) rfl ?_
      exact Done.err RS.out (keeps_set4 K9.out ZW.out _ _ _ _)
    | ok lsP =>
      rw [hr] at hed
      obtain ⟨hv, h2, lsL, q1, q2, hk9⟩ := hed
      simp only [Ending.returned.injEq, Value.int.injEq, true_and] at hv
      subst hv
      have RS := Lib.hid hr
      have Q := Lib.hid (And.intro q1 q2)
      have K9 := Lib.hid (keeps_of_from K4.out.drew hk9 NB.out.2.2)
      have R9 := Lib.hid ((hk9.block Z (lt_of_block R4.out) (by have := NB.out; omega)).trans R4.out)
      obtain ⟨⟨r0, r1, r2, r3⟩, rf⟩ := four_cells R9.out
      have f0' := rf 0
      have f1' := rf 1
      have f2' := rf 2
      have f3' := rf 3
      have c0 := Dc.c0 (x := x) (y := y) (z := z) (h := h2) q2.doc
      have c1 := Dc.c1 (x := x) (y := y) (z := z) (h := h2) q2.doc
      have c2 := Dc.c2 (x := x) (y := y) (z := z) (h := h2) q2.doc
      have c3 := Dc.c3 (x := x) (y := y) (z := z) (h := h2) q2.doc
      clear rf hr hk9 q1 q2
      go_wp2_with fail
      refine bodyPost_ret (results_cell_row2 rfl _ _ Z 26 _ (0, 0) _ rfl (four_set R9.out _ _ _ _) Tryz.underlying26 rfl (by kernel_rfl)) rfl ?_
      refine Done.good RS.out Q.out.1 ?_ (keeps_set4 K9.out ZW.out _ _ _ _)
      have nd := Q.out.2.newD
      exact (nd.keep (keeps_at4 wc Z _ _ _ _) (fun b hb e => by have e' : b = Z := e; have := (nd.range b hb).1; have := NB.out; omega)).low NB.out.2.2
set_option maxRecDepth 100000 in
set_option maxHeartbeats 3200000 in
theorem doAdjust (x y z : Int) (h : Hd) (ls : List Loc) (e : PEd) (p s q : Hd) (w : World) (D : DocV w h ls) {z0 : Int} (G : Good z0 (er ls)) (QP : ReadR w 3 1 q (ints e.pars) ∧ In64 e.pars ∧ q.n ≤ 16777216) (hk : e.kind = 9) :
    Calls Tryz.prog 9 #[docV x y z h, edV e p s q] w fun en w' => Done w x y (z) (adjustP (er ls) e) en w' := by
  have HD := Lib.hid D
  have HG := Lib.hid G
  have HZ := Lib.hid QP
  clear QP
  have C0 := Lib.hid (((Dc.new w x y z h).later ((Keeps.refl none' _).alloc (.cells (edCells e p s q).toArray 38))).later ((Keeps.refl none' _).alloc (.cells #[.int .i64 0, .int .i64 0, .int .i64 0, .slice none 0 0] 26)))
  have E0 := Lib.hid ((Eb.new (w.alloc (.cells #[.int .i64 x, .int .i64 y, .int .i64 z, .slice h.a h.n h.c] 26)) e p s q).later ((Keeps.refl none' _).alloc (.cells #[.int .i64 0, .int .i64 0, .int .i64 0, .slice none 0 0] 26)))
  have K0 := Lib.hid ((((Keeps.refl none' w).alloc (.cells #[.int .i64 x, .int .i64 y, .int .i64 z, .slice h.a h.n h.c] 26)).alloc (.cells (edCells e p s q).toArray 38)).alloc (.cells #[.int .i64 0, .int .i64 0, .int .i64 0, .slice none 0 0] 26))
  have R0 := Lib.hid (heap_alloc_new ((w.alloc (.cells #[.int .i64 x, .int .i64 y, .int .i64 z, .slice h.a h.n h.c] 26)).alloc (.cells (edCells e p s q).toArray 38)) (.cells #[.int .i64 0, .int .i64 0, .int .i64 0, .slice none 0 0] 26))
  have hs1 : (w.alloc (.cells #[.int .i64 x, .int .i64 y, .int .i64 z, .slice h.a h.n h.c] 26)).heap.size = w.heap.size + 1 := by simp
  have hs2 : ((w.alloc (.cells #[.int .i64 x, .int .i64 y, .int .i64 z, .slice h.a h.n h.c] 26)).alloc (.cells (edCells e p s q).toArray 38)).heap.size = w.heap.size + 1 + 1 := by simp
  rw [hs1] at E0
  rw [hs2] at R0
  clear hs1 hs2 D G
  unfold docV edV
  obtain ⟨EV, hEV⟩ : ∃ EV, EV = (edCells e p s q).toArray := ⟨_, rfl⟩
  rw [← hEV]
  rw [← hEV] at C0 E0 K0 R0
  have HEV := Lib.hid hEV
  have e0v := E0.out.c0
  rw [hk] at e0v
  clear hEV
  obtain ⟨Dk, hDk⟩ : ∃ Dk, Dk = w.heap.size := ⟨_, rfl⟩
  obtain ⟨E, hE⟩ : ∃ E, E = Dk + 1 := ⟨_, rfl⟩
  obtain ⟨Z, hZ⟩ : ∃ Z, Z = E + 1 := ⟨_, rfl⟩
  rw [← hDk] at C0
  rw [← hDk, ← hE] at E0 e0v
  rw [← hDk, ← hE, ← hZ] at R0
  have EE := Lib.hid (And.intro hDk (And.intro hE hZ))
  go_enter Tryz.func9, Tryz.ntmps9
  go_upto_region 1 with (fail)
  rw [← hDk, ← hE, ← hZ]
  clear hDk hE hZ
  generalize ((w.alloc (.cells #[.int .i64 x, .int .i64 y, .int .i64 z, .slice h.a h.n h.c] 26)).alloc (.cells EV 38)).alloc (.cells #[.int .i64 0, .int .i64 0, .int .i64 0, .slice none 0 0] 26) = w1 at *
  go_upto_region 2 with ((with_reducible refine (deeds17 w1).mono ?_); rintro en w2 ⟨rfl, f0, hw2⟩; have HW2 := Lib.hid hw2; clear hw2)
  have db := heap_alloc_new w1 (.cells #[f0, .func (.func 46) #[] #[], .func (.func 47) #[] #[], .func (.func 48) #[] #[], .func (.func 49) #[] #[], .func (.func 50) #[] #[], .func (.func 51) #[] #[], .func (.func 52) #[] #[], .func (.func 53) #[] #[], .func (.func 54) #[] #[]] 73)
  rw [← HW2.out] at db
  have DB := Lib.hid db
  have k12 : Keeps none' w1 w2 := by rw [HW2.out]; exact (Keeps.refl none' w1).alloc _
  clear db
  obtain ⟨DD, hDD⟩ : ∃ DD, DD = w1.heap.size := ⟨_, rfl⟩
  rw [← hDD] at DB
  rw [← hDD]
  clear hDD HW2
  have K2 := Lib.hid (K0.out.next k12)
  have C2 := Lib.hid (C0.out.later k12)
  have E2 := Lib.hid (E0.out.later k12)
  have R2 := Lib.hid ((k12.later Z (lt_of_block R0.out)).trans R0.out)
  have e0w := k12.cell e0v
  clear k12 C0 E0 K0 R0 e0v
  have c0 := C2.out.c0
  have c1 := C2.out.c1
  have c2 := C2.out.c2
  have c3 := C2.out.c3
  have cp := copied18 x y z h ls w2 (HD.out.later K2.out)
  unfold docV at cp
  have CP := Lib.hid cp
  clear cp
  go_upto_region 5 with ((with_reducible refine CP.out.mono ?_); rintro en w3 ⟨h', ls', rfl, hcp⟩; have CD := Lib.hid hcp; clear hcp)
  have ka := (Keeps.refl none' w3).alloc (.cells #[.int .i64 x, .int .i64 y, .int .i64 z, .slice h'.a h'.n h'.c] 26)
  have N4 := Lib.hid (Dc.new w3 x y z h')
  have K24 := Lib.hid (CD.out.keeps.next ka)
  have E4 := Lib.hid (E2.out.later K24.out)
  have R4 := Lib.hid ((K24.out.later Z (lt_of_block R2.out)).trans R2.out)
  have D4 := Lib.hid ((K24.out.later DD (lt_of_block DB.out)).trans DB.out)
  have e0 := K24.out.cell e0w
  have K4 := Lib.hid (K2.out.next K24.out)
  obtain ⟨Nx, hNx⟩ : ∃ Nx, Nx = w3.heap.size := ⟨_, rfl⟩
  have W4 := Lib.hid (show Whole w2.heap.size (w3.alloc (.cells #[.int .i64 x, .int .i64 y, .int .i64 z, .slice h'.a h'.n h'.c] 26)) Nx x y z h' ls' from by
    have hB : w2.heap.size ≤ w2.heap.size + 2 := by omega
    refine ⟨by rw [hNx]; exact N4.out, (CD.out.row.later ka).low hB, (CD.out.own.later ka).low hB, CD.out.nodup, fun hm => ?_⟩
    rcases List.mem_append.1 hm with hm | hm
    · have := (CD.out.row.range _ hm).2; omega
    · have := (CD.out.own.range _ hm).2; omega)
  obtain ⟨B2, hB2⟩ : ∃ B2, B2 = w2.heap.size := ⟨_, rfl⟩
  have NB := Lib.hid (show B2 ≤ Nx ∧ Z < B2 ∧ w.heap.size ≤ B2 from by rw [hNx, hB2]; exact ⟨CD.out.keeps.size, lt_of_block R2.out, K2.out.size⟩)
  rw [← hB2] at W4
  have SAME := Lib.hid CD.out.same
  rw [← hNx]
  clear hNx hB2 ka N4 c0 c1 c2 c3 CP CD K24 E2 R2 DB C2 K2 e0w
  generalize w3.alloc (.cells #[.int .i64 x, .int .i64 y, .int .i64 z, .slice h'.a h'.n h'.c] 26) = w4 at *
  have deed := adjust38 B2 Nx x y z h' ls' e p s q w4.drew (W4.out.later ((Keeps.refl none' w4).drew)) (by rw [SAME.out]; exact HG.out) (Nat.le_of_lt (Nat.lt_of_le_of_lt NB.out.1 (lt_of_block W4.out.doc))) ⟨HZ.out.1.keep K4.out.drew (fun _ _ h => h), HZ.out.2⟩
  unfold edV at deed
  rw [← HEV.out, SAME.out] at deed
  have DE := Lib.hid (show Calls Tryz.prog 54 #[.pointer (some ⟨Nx, 0, none⟩), .agg EV] w4.drew (fun en w' => ∃ v : Int, en = .returned (.int .i64 v) ∧ Edited B2 w4.drew Nx x y (z) (adjustP (er ls) e) (.returned (.int .i64 v)) w') from deed.mono (fun _ _ h => h.val))
  clear deed
  have r5 : Row35 w4 E := E4.out.row.1
  have r6 : rowAt w4 E = EV := by rw [E4.out.row.2, HEV.out]
  have r5d : Row35 w4.drew E := r5
  have r6d : rowAt w4.drew E = EV := r6
  have fk : w4.cell? ⟨DD, 9, none⟩ = some (.func (.func 54) #[] #[]) := by simp [World.cell?, D4.out]
  go_cut [8] from 23 (fun s8 w' => ∃ v : Int, s8 = .int .i64 v ∧ Edited B2 w4.drew Nx x y (z) (adjustP (er ls) e) (.returned (.int .i64 v)) w')
  case first =>
    go_region_law (go_simp; (with_reducible refine DE.out.mono ?_); rintro en w5 ⟨v, rfl, hed⟩)
    all_goals
      go_wp2_with fail
      go_meet
      case rel => exact ⟨v, rfl, hed⟩
  case rest =>
    obtain ⟨v, rfl, hed⟩ := hcut
    have ZW := Lib.hid (show w.heap.size ≤ Z from by have := EE.out; omega)
    clear r5 r6 r5d r6d fk e0
    cases hr : adjustP (er ls) e with
    | error f =>
      rw [hr] at hed
      obtain ⟨hv, hk9⟩ := hed
      simp only [Ending.returned.injEq, Value.int.injEq, true_and] at hv
      subst hv
      have e1 : (v != 0) = true := by simpa using adjustP_err hr
      have RS := Lib.hid hr
      have K9 := Lib.hid (keeps_of_from K4.out.drew hk9 NB.out.2.2)
      have R9 := Lib.hid ((hk9.block Z (lt_of_block R4.out) (by have := NB.out; omega)).trans R4.out)
      obtain ⟨⟨r0, r1, r2, r3⟩, rf⟩ := four_cells R9.out
      have f0' := rf 0
      have f1' := rf 1
      have f2' := rf 2
      have f3' := rf 3
      clear rf hr hk9
      go_wp2_with fail
      refine bodyPost_ret (results_cell_row2 rfl _ _ Z 26 _ (0, 0) _ rfl (four_set R9.out _ _ _ _) Tryz.underlying26 rfl (by kernel_rfl)) rfl ?_
      exact Done.err RS.out (keeps_set4 K9.out ZW.out _ _ _ _)
    | ok lsP =>
      rw [hr] at hed
      obtain ⟨hv, h2, lsL, q1, q2, hk9⟩ := hed
      simp only [Ending.returned.injEq, Value.int.injEq, true_and] at hv
      subst hv
      have RS := Lib.hid hr
      have Q := Lib.hid (And.intro q1 q2)
      have K9 := Lib.hid (keeps_of_from K4.out.drew hk9 NB.out.2.2)
      have R9 := Lib.hid ((hk9.block Z (lt_of_block R4.out) (by have := NB.out; omega)).trans R4.out)
      obtain ⟨⟨r0, r1, r2, r3⟩, rf⟩ := four_cells R9.out
      have f0' := rf 0
      have f1' := rf 1
      have f2' := rf 2
      have f3' := rf 3
      have c0 := Dc.c0 (x := x) (y := y) (z := z) (h := h2) q2.doc
      have c1 := Dc.c1 (x := x) (y := y) (z := z) (h := h2) q2.doc
      have c2 := Dc.c2 (x := x) (y := y) (z := z) (h := h2) q2.doc
      have c3 := Dc.c3 (x := x) (y := y) (z := z) (h := h2) q2.doc
      clear rf hr hk9 q1 q2
      go_wp2_with fail
      refine bodyPost_ret (results_cell_row2 rfl _ _ Z 26 _ (0, 0) _ rfl (four_set R9.out _ _ _ _) Tryz.underlying26 rfl (by kernel_rfl)) rfl ?_
      refine Done.good RS.out Q.out.1 ?_ (keeps_set4 K9.out ZW.out _ _ _ _)
      have nd := Q.out.2.newD
      exact (nd.keep (keeps_at4 wc Z _ _ _ _) (fun b hb e => by have e' : b = Z := e; have := (nd.range b hb).1; have := NB.out; omega)).low NB.out.2.2
set_option maxRecDepth 100000 in
set_option maxHeartbeats 3200000 in
theorem doMask (x y z : Int) (h : Hd) (ls : List Loc) (e : PEd) (p s q : Hd) (w : World) (D : DocV w h ls) {z0 : Int} (G : Good z0 (er ls)) (SP : La.Pts w s.a s.n (e.shape.map ptOf) ∧ s.n ≤ 33554432) (hk : e.kind = 7) :
    Calls Tryz.prog 9 #[docV x y z h, edV e p s q] w fun en w' => Done w x y (z) (maskP (er ls) x y e) en w' := by
  have HD := Lib.hid D
  have HG := Lib.hid G
  have HZ := Lib.hid SP
  clear SP
  have C0 := Lib.hid (((Dc.new w x y z h).later ((Keeps.refl none' _).alloc (.cells (edCells e p s q).toArray 38))).later ((Keeps.refl none' _).alloc (.cells #[.int .i64 0, .int .i64 0, .int .i64 0, .slice none 0 0] 26)))
  have E0 := Lib.hid ((Eb.new (w.alloc (.cells #[.int .i64 x, .int .i64 y, .int .i64 z, .slice h.a h.n h.c] 26)) e p s q).later ((Keeps.refl none' _).alloc (.cells #[.int .i64 0, .int .i64 0, .int .i64 0, .slice none 0 0] 26)))
  have K0 := Lib.hid ((((Keeps.refl none' w).alloc (.cells #[.int .i64 x, .int .i64 y, .int .i64 z, .slice h.a h.n h.c] 26)).alloc (.cells (edCells e p s q).toArray 38)).alloc (.cells #[.int .i64 0, .int .i64 0, .int .i64 0, .slice none 0 0] 26))
  have R0 := Lib.hid (heap_alloc_new ((w.alloc (.cells #[.int .i64 x, .int .i64 y, .int .i64 z, .slice h.a h.n h.c] 26)).alloc (.cells (edCells e p s q).toArray 38)) (.cells #[.int .i64 0, .int .i64 0, .int .i64 0, .slice none 0 0] 26))
  have hs1 : (w.alloc (.cells #[.int .i64 x, .int .i64 y, .int .i64 z, .slice h.a h.n h.c] 26)).heap.size = w.heap.size + 1 := by simp
  have hs2 : ((w.alloc (.cells #[.int .i64 x, .int .i64 y, .int .i64 z, .slice h.a h.n h.c] 26)).alloc (.cells (edCells e p s q).toArray 38)).heap.size = w.heap.size + 1 + 1 := by simp
  rw [hs1] at E0
  rw [hs2] at R0
  clear hs1 hs2 D G
  unfold docV edV
  obtain ⟨EV, hEV⟩ : ∃ EV, EV = (edCells e p s q).toArray := ⟨_, rfl⟩
  rw [← hEV]
  rw [← hEV] at C0 E0 K0 R0
  have HEV := Lib.hid hEV
  have e0v := E0.out.c0
  rw [hk] at e0v
  clear hEV
  obtain ⟨Dk, hDk⟩ : ∃ Dk, Dk = w.heap.size := ⟨_, rfl⟩
  obtain ⟨E, hE⟩ : ∃ E, E = Dk + 1 := ⟨_, rfl⟩
  obtain ⟨Z, hZ⟩ : ∃ Z, Z = E + 1 := ⟨_, rfl⟩
  rw [← hDk] at C0
  rw [← hDk, ← hE] at E0 e0v
  rw [← hDk, ← hE, ← hZ] at R0
  have EE := Lib.hid (And.intro hDk (And.intro hE hZ))
  go_enter Tryz.func9, Tryz.ntmps9
  go_upto_region 1 with (fail)
  rw [← hDk, ← hE, ← hZ]
  clear hDk hE hZ
  generalize ((w.alloc (.cells #[.int .i64 x, .int .i64 y, .int .i64 z, .slice h.a h.n h.c] 26)).alloc (.cells EV 38)).alloc (.cells #[.int .i64 0, .int .i64 0, .int .i64 0, .slice none 0 0] 26) = w1 at *
  go_upto_region 2 with ((with_reducible refine (deeds17 w1).mono ?_); rintro en w2 ⟨rfl, f0, hw2⟩; have HW2 := Lib.hid hw2; clear hw2)
  have db := heap_alloc_new w1 (.cells #[f0, .func (.func 46) #[] #[], .func (.func 47) #[] #[], .func (.func 48) #[] #[], .func (.func 49) #[] #[], .func (.func 50) #[] #[], .func (.func 51) #[] #[], .func (.func 52) #[] #[], .func (.func 53) #[] #[], .func (.func 54) #[] #[]] 73)
  rw [← HW2.out] at db
  have DB := Lib.hid db
  have k12 : Keeps none' w1 w2 := by rw [HW2.out]; exact (Keeps.refl none' w1).alloc _
  clear db
  obtain ⟨DD, hDD⟩ : ∃ DD, DD = w1.heap.size := ⟨_, rfl⟩
  rw [← hDD] at DB
  rw [← hDD]
  clear hDD HW2
  have K2 := Lib.hid (K0.out.next k12)
  have C2 := Lib.hid (C0.out.later k12)
  have E2 := Lib.hid (E0.out.later k12)
  have R2 := Lib.hid ((k12.later Z (lt_of_block R0.out)).trans R0.out)
  have e0w := k12.cell e0v
  clear k12 C0 E0 K0 R0 e0v
  have c0 := C2.out.c0
  have c1 := C2.out.c1
  have c2 := C2.out.c2
  have c3 := C2.out.c3
  have cp := copied18 x y z h ls w2 (HD.out.later K2.out)
  unfold docV at cp
  have CP := Lib.hid cp
  clear cp
  go_upto_region 5 with ((with_reducible refine CP.out.mono ?_); rintro en w3 ⟨h', ls', rfl, hcp⟩; have CD := Lib.hid hcp; clear hcp)
  have ka := (Keeps.refl none' w3).alloc (.cells #[.int .i64 x, .int .i64 y, .int .i64 z, .slice h'.a h'.n h'.c] 26)
  have N4 := Lib.hid (Dc.new w3 x y z h')
  have K24 := Lib.hid (CD.out.keeps.next ka)
  have E4 := Lib.hid (E2.out.later K24.out)
  have R4 := Lib.hid ((K24.out.later Z (lt_of_block R2.out)).trans R2.out)
  have D4 := Lib.hid ((K24.out.later DD (lt_of_block DB.out)).trans DB.out)
  have e0 := K24.out.cell e0w
  have K4 := Lib.hid (K2.out.next K24.out)
  obtain ⟨Nx, hNx⟩ : ∃ Nx, Nx = w3.heap.size := ⟨_, rfl⟩
  have W4 := Lib.hid (show Whole w2.heap.size (w3.alloc (.cells #[.int .i64 x, .int .i64 y, .int .i64 z, .slice h'.a h'.n h'.c] 26)) Nx x y z h' ls' from by
    have hB : w2.heap.size ≤ w2.heap.size + 2 := by omega
    refine ⟨by rw [hNx]; exact N4.out, (CD.out.row.later ka).low hB, (CD.out.own.later ka).low hB, CD.out.nodup, fun hm => ?_⟩
    rcases List.mem_append.1 hm with hm | hm
    · have := (CD.out.row.range _ hm).2; omega
    · have := (CD.out.own.range _ hm).2; omega)
  obtain ⟨B2, hB2⟩ : ∃ B2, B2 = w2.heap.size := ⟨_, rfl⟩
  have NB := Lib.hid (show B2 ≤ Nx ∧ Z < B2 ∧ w.heap.size ≤ B2 from by rw [hNx, hB2]; exact ⟨CD.out.keeps.size, lt_of_block R2.out, K2.out.size⟩)
  rw [← hB2] at W4
  have SAME := Lib.hid CD.out.same
  rw [← hNx]
  clear hNx hB2 ka N4 c0 c1 c2 c3 CP CD K24 E2 R2 DB C2 K2 e0w
  generalize w3.alloc (.cells #[.int .i64 x, .int .i64 y, .int .i64 z, .slice h'.a h'.n h'.c] 26) = w4 at *
  have deed := mask36 B2 Nx x y z h' ls' e p s q w4.drew (W4.out.later ((Keeps.refl none' w4).drew)) (by rw [SAME.out]; exact HG.out) (Nat.le_of_lt (Nat.lt_of_le_of_lt NB.out.1 (lt_of_block W4.out.doc))) ⟨HZ.out.1.later (fun k hk => K4.out.drew.later k hk), HZ.out.2⟩
  unfold edV at deed
  rw [← HEV.out, SAME.out] at deed
  have DE := Lib.hid (show Calls Tryz.prog 52 #[.pointer (some ⟨Nx, 0, none⟩), .agg EV] w4.drew (fun en w' => ∃ v : Int, en = .returned (.int .i64 v) ∧ Edited B2 w4.drew Nx x y (z) (maskP (er ls) x y e) (.returned (.int .i64 v)) w') from deed.mono (fun _ _ h => h.val))
  clear deed
  have r5 : Row35 w4 E := E4.out.row.1
  have r6 : rowAt w4 E = EV := by rw [E4.out.row.2, HEV.out]
  have r5d : Row35 w4.drew E := r5
  have r6d : rowAt w4.drew E = EV := r6
  have fk : w4.cell? ⟨DD, 7, none⟩ = some (.func (.func 52) #[] #[]) := by simp [World.cell?, D4.out]
  go_cut [8] from 23 (fun s8 w' => ∃ v : Int, s8 = .int .i64 v ∧ Edited B2 w4.drew Nx x y (z) (maskP (er ls) x y e) (.returned (.int .i64 v)) w')
  case first =>
    go_region_law (go_simp; (with_reducible refine DE.out.mono ?_); rintro en w5 ⟨v, rfl, hed⟩)
    all_goals
      go_wp2_with fail
      go_meet
      case rel => exact ⟨v, rfl, hed⟩
  case rest =>
    obtain ⟨v, rfl, hed⟩ := hcut
    have ZW := Lib.hid (show w.heap.size ≤ Z from by have := EE.out; omega)
    clear r5 r6 r5d r6d fk e0
    cases hr : maskP (er ls) x y e with
    | error f =>
      rw [hr] at hed
      obtain ⟨hv, hk9⟩ := hed
      simp only [Ending.returned.injEq, Value.int.injEq, true_and] at hv
      subst hv
      have e1 : (v != 0) = true := by simpa using maskP_err hr
      have RS := Lib.hid hr
      have K9 := Lib.hid (keeps_of_from K4.out.drew hk9 NB.out.2.2)
      have R9 := Lib.hid ((hk9.block Z (lt_of_block R4.out) (by have := NB.out; omega)).trans R4.out)
      obtain ⟨⟨r0, r1, r2, r3⟩, rf⟩ := four_cells R9.out
      have f0' := rf 0
      have f1' := rf 1
      have f2' := rf 2
      have f3' := rf 3
      clear rf hr hk9
      go_wp2_with fail
      refine bodyPost_ret (results_cell_row2 rfl _ _ Z 26 _ (0, 0) _ rfl (four_set R9.out _ _ _ _) Tryz.underlying26 rfl (by kernel_rfl)) rfl ?_
      exact Done.err RS.out (keeps_set4 K9.out ZW.out _ _ _ _)
    | ok lsP =>
      rw [hr] at hed
      obtain ⟨hv, h2, lsL, q1, q2, hk9⟩ := hed
      simp only [Ending.returned.injEq, Value.int.injEq, true_and] at hv
      subst hv
      have RS := Lib.hid hr
      have Q := Lib.hid (And.intro q1 q2)
      have K9 := Lib.hid (keeps_of_from K4.out.drew hk9 NB.out.2.2)
      have R9 := Lib.hid ((hk9.block Z (lt_of_block R4.out) (by have := NB.out; omega)).trans R4.out)
      obtain ⟨⟨r0, r1, r2, r3⟩, rf⟩ := four_cells R9.out
      have f0' := rf 0
      have f1' := rf 1
      have f2' := rf 2
      have f3' := rf 3
      have c0 := Dc.c0 (x := x) (y := y) (z := z) (h := h2) q2.doc
      have c1 := Dc.c1 (x := x) (y := y) (z := z) (h := h2) q2.doc
      have c2 := Dc.c2 (x := x) (y := y) (z := z) (h := h2) q2.doc
      have c3 := Dc.c3 (x := x) (y := y) (z := z) (h := h2) q2.doc
      clear rf hr hk9 q1 q2
      go_wp2_with fail
      refine bodyPost_ret (results_cell_row2 rfl _ _ Z 26 _ (0, 0) _ rfl (four_set R9.out _ _ _ _) Tryz.underlying26 rfl (by kernel_rfl)) rfl ?_
      refine Done.good RS.out Q.out.1 ?_ (keeps_set4 K9.out ZW.out _ _ _ _)
      have nd := Q.out.2.newD
      exact (nd.keep (keeps_at4 wc Z _ _ _ _) (fun b hb e => by have e' : b = Z := e; have := (nd.range b hb).1; have := NB.out; omega)).low NB.out.2.2
end Go.Proofs.YtfcpbpfemmdklaaGreat.Tr
