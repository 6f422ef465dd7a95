/- Texts of a layer, one behind the other. -/
import Derived.Test.YtfcpbpfemmdklaaMU
import Derived.Test.YtfcpbpfemmdklaaMLa
import Derived.Test.YtfcpbpfemmdklaaZD
import Derived.Test.YtfcpbpfemmdklaaMX
import Derived.Test.YtfcpbpfemmdklaaZL
/- A layer's mask (36). (printed by genZZ.py) -/
namespace Go.Proofs.Ytfcpbpfemmdklaa
open Go.RowKit Go.Lib
set_option linter.unusedSimpArgs false
set_option linter.unusedVariables false

def ptOf (p : Int × Int) : La.Pt := ⟨p.1, p.2⟩
def flipB (inv : Bool) (v : Int) : Int := if inv then 255 - v else v
/-- The bytes of a mask. -/
def maskL (ps : List La.Pt) (W H : Nat) (inv : Bool) : List Int := (List.range (W * H)).map fun j => flipB inv (La.byteB (La.maskF ps W j))
def setMask (d : Dat) (l : List Int) : Dat := { d with mask := l }
def maskP (ls : List Lay) (x y : Int) (e : PEd) : Except Int (List Lay) :=
  match fnd e.id ls with
  | none => .error 40
  | some r => if uptoB e.n 2 = false then .error 32 else
    if e.n = 2 then .ok (plugP r.C (r.pre ++ .mk (setMask r.d []) r.kids :: r.post)) else
    if (La.shape (e.shape.map ptOf) && La.areaB x y) = false then .error 31 else
    .ok (plugP r.C (r.pre ++ .mk (setMask r.d (maskL (e.shape.map ptOf) x.toNat y.toNat (decide (e.n = 1)))) r.kids :: r.post))
theorem below_keeps {w w' : World} (b : Below w.heap.size w w') : Keeps none' w w' := ⟨b.os, b.tape, b.output, b.size, fun k hk _ => b.block k hk⟩
theorem ownR_nil (B : Nat) (w : World) (e k : Nat) : OwnR B w e k Hd.nil [] := ⟨⟨by simp [Hd.nil], .inl ⟨rfl, rfl⟩⟩, fun u hu => (by cases hu), by show 0 ≤ _; omega⟩
/-- A mask in memory, turned so far. -/
def MaskI (w : World) (G N : Nat) (f : Nat → Bool) (inv : Bool) (i : Nat) : Prop :=
  ∃ cur : Array Value, w.heap[G]? = some (.cells cur 5 (0, 0)) ∧ cur.size = N ∧ ∀ j, j < N → cur[j]? = some (.int .u8 (flipB (inv && decide (j < i)) (La.byteB (f j))))
theorem MaskI.start {w : World} {G N : Nat} {f : Nat → Bool} {inv : Bool} (h : La.MaskB w G N f) : MaskI w G N f inv 0 := by
  obtain ⟨cur, h1, h2, h3⟩ := h
  exact ⟨cur, h1, h2, fun j hj => by rw [h3 j hj]; simp [flipB]⟩
theorem MaskI.plain {w : World} {G N : Nat} {f : Nat → Bool} (h : La.MaskB w G N f) : MaskI w G N f false N := by
  obtain ⟨cur, h1, h2, h3⟩ := h
  exact ⟨cur, h1, h2, fun j hj => by rw [h3 j hj]; simp [flipB]⟩
theorem MaskI.lt {w : World} {G N i : Nat} {f : Nat → Bool} {inv : Bool} (h : MaskI w G N f inv i) : G < w.heap.size := by
  obtain ⟨cur, h1, -⟩ := h
  exact lt_of_block h1
theorem MaskI.cell {w : World} {G N i : Nat} {f : Nat → Bool} {inv : Bool} (h : MaskI w G N f inv i) (hi : i < N) : w.cell? ⟨G, i, none⟩ = some (.int .u8 (La.byteB (f i))) ∧ w.frozen? ⟨G, i, none⟩ = false := by
  obtain ⟨cur, h1, h2, h3⟩ := h
  have h4 := h3 i hi
  rw [show (inv && decide (i < i)) = false from by simp] at h4
  exact ⟨by simp [World.cell?, h1, h4, flipB], by simp [World.frozen?, h1]⟩
theorem MaskI.step {w : World} {G N i : Nat} {f : Nat → Bool} (h : MaskI w G N f true i) (hi : i < N) : MaskI (w.setCell ⟨G, i, none⟩ (.int .u8 (255 - La.byteB (f i)))) G N f true (i + 1) := by
  obtain ⟨cur, h1, h2, h3⟩ := h
  refine ⟨_, block_set h1 _, by rw [Array.size_setIfInBounds]; exact h2, fun j hj => ?_⟩
  rw [Array.getElem?_setIfInBounds]
  by_cases hji : i = j
  · subst hji
    rw [if_pos rfl, if_pos (by omega)]
    simp [flipB]
  · rw [if_neg hji, h3 j hj]
    have e : decide (j < i) = decide (j < i + 1) := by
      by_cases h9 : j < i
      · simp [h9]; omega
      · simp [h9]; omega
    rw [e]
theorem MaskI.own {w : World} {B G W H : Nat} {ps : List La.Pt} {inv : Bool} (h : MaskI w G (W * H) (La.maskF ps W) inv (W * H)) (hB : B ≤ G) (hN : W * H ≤ 4194304) : OwnR B w 5 1 ⟨some ⟨G, 0, none⟩, W * H, W * H⟩ (bytes (maskL ps W H inv)) := by
  obtain ⟨cur, h1, h2, h3⟩ := h
  have hl : (bytes (maskL ps W H inv)).length = W * H := by simp [bytes, maskL]
  refine ⟨⟨by rw [hl]; simp, .inr ⟨G, W * H, cur, rfl, hB, h1, Nat.le_refl _, by unfold maxLen; omega, by rw [h2, Nat.mul_one], ?_⟩⟩, bytes_one _, by show W * H ≤ _; omega⟩
  refine List.ext_getElem? fun j => ?_
  by_cases hj : j < W * H
  · rw [List.getElem?_take_of_lt (by show j < W * H * 1; omega), Array.getElem?_toList, h3 j hj]
    unfold bytes maskL
    rw [List.getElem?_map, List.getElem?_map, List.getElem?_range hj]
    simp [hj]
  · rw [List.getElem?_eq_none (by rw [List.length_take, Array.length_toList]; omega), List.getElem?_eq_none (by rw [hl]; omega)]
theorem byte_flip (b : Bool) : IntKind.u8.wrap (255 - La.byteB b) = 255 - La.byteB b := by cases b <;> decide
set_option maxRecDepth 100000 in
set_option maxHeartbeats 3200000 in
theorem mask_no (B R : Nat) (x y z : Int) (h : Hd) (ls : List Loc) (e : PEd) (p s q : Hd) (w : World) (W : Whole B w R x y z h ls) {z0 : Int} (G : Good z0 (er ls)) (kv : layV R h ls e.id = .tuple #[.pointer none, .int .i64 40]) (pe : maskP (er ls) x y e = .error 40) :
    Calls Try.prog 36 #[.pointer (some ⟨R, 0, none⟩), edV e p s q] w fun en w' => Edited B w R x y z (maskP (er ls) x y e) en w' := by
  have A := Lib.hid pe
  have HC : cnt ls ≤ 4096 := by rw [cnt_eq]; exact G.cnt
  have E0 := Lib.hid (Eb.new w e p s q)
  have K0 := Lib.hid ((Keeps.refl none' w).alloc (.cells (edCells e p s q).toArray 35))
  have KD := lay57 R x y z h ls e.id (w.alloc (.cells (edCells e p s q).toArray 35)) (W.later K0.out).doc ((W.later K0.out).docV) (by omega)
  rw [kv] at KD
  have KN := Lib.hid KD
  clear W G kv pe KD HC
  unfold edV
  obtain ⟨EV, hEV⟩ : ∃ EV, EV = (edCells e p s q).toArray := ⟨_, rfl⟩
  rw [← hEV]
  rw [← hEV] at E0 K0 KN
  clear hEV
  go_enter Try.func36, Try.ntmps36
  go_upto_region 1 with (fail)
  generalize w.alloc (.cells EV 35) = w1 at *
  obtain ⟨E, hE⟩ : ∃ E, E = w.heap.size := ⟨_, rfl⟩
  rw [← hE] at E0
  rw [← hE]
  clear hE
  have e1 := E0.out.c1
  go_wp2_with ((with_reducible refine KN.out.mono ?_); rintro en w2 ⟨rfl, hk⟩; have K2 := Lib.hid (K0.out.next hk); clear hk)
  go_ret
  exact Edited.err A.out K2.out
set_option maxRecDepth 100000 in
set_option maxHeartbeats 3200000 in
theorem mask_yes (B R : Nat) (x y z : Int) (e : PEd) (p s q : Hd) (w : World) (C : List Frm) (h' : Hd) (pre post : List Loc) (d : Dat) (lp lm lq lk : Hd) (kids : List Loc)
    (W : Whole B w R x y z (plugH C h') (plugL C h' (pre ++ .mk d lp lm lq lk kids :: post))) (hB : B ≤ w.heap.size) {z0 : Int} (G : Good z0 (er (plugL C h' (pre ++ .mk d lp lm lq lk kids :: post))))
    (kv : layV R (plugH C h') (plugL C h' (pre ++ .mk d lp lm lq lk kids :: post)) e.id = .tuple #[.pointer (some ⟨h'.b, h'.o + pre.length * 19, none⟩), .int .i64 0])
    (SP0 : La.Pts w s.a s.n (e.shape.map ptOf) ∧ s.n ≤ 33554432) (hf : fnd e.id (er (plugL C h' (pre ++ .mk d lp lm lq lk kids :: post))) = some ⟨C.map Frm.er, er pre, d, er kids, er post⟩) :
    Calls Try.prog 36 #[.pointer (some ⟨R, 0, none⟩), edV e p s q] w fun en w' => Edited B w R x y z (maskP (er (plugL C h' (pre ++ .mk d lp lm lq lk kids :: post))) x y e) en w' := by
  have SP := Lib.hid SP0
  have HC : cnt (plugL C h' (pre ++ .mk d lp lm lq lk kids :: post)) ≤ 4096 := by rw [cnt_eq]; exact G.cnt
  have HW := Lib.hid W
  have HF := Lib.hid hf
  have E0 := Lib.hid (Eb.new w e p s q)
  have K0 := Lib.hid ((Keeps.refl none' w).alloc (.cells (edCells e p s q).toArray 35))
  have KD := lay57 R x y z (plugH C h') _ e.id (w.alloc (.cells (edCells e p s q).toArray 35)) (W.later K0.out).doc ((W.later K0.out).docV) (by omega)
  rw [kv] at KD
  have KN := Lib.hid KD
  have HB := Lib.hid hB
  have LS := Lib.hid (lay_spot W)
  clear W G kv hf KD HC hB SP0
  unfold edV
  obtain ⟨EV, hEV⟩ : ∃ EV, EV = (edCells e p s q).toArray := ⟨_, rfl⟩
  rw [← hEV]
  rw [← hEV] at E0 K0 KN
  clear hEV
  obtain ⟨RES, hRES⟩ : ∃ RES, RES = maskP (er (plugL C h' (pre ++ .mk d lp lm lq lk kids :: post))) x y e := ⟨_, rfl⟩
  rw [← hRES]
  have HS := Lib.hid hRES
  clear hRES
  obtain ⟨LO, hLO⟩ : ∃ LO, LO = h'.o + pre.length * 19 := ⟨_, rfl⟩
  rw [← hLO] at KN
  have HLO := Lib.hid hLO
  clear hLO
  obtain ⟨LB, hLB⟩ : ∃ LB, LB = h'.b := ⟨_, rfl⟩
  rw [← hLB] at KN
  have HLB := Lib.hid hLB
  clear hLB
  go_enter Try.func36, Try.ntmps36
  go_upto_region 1 with (fail)
  generalize w.alloc (.cells EV 35) = w1 at *
  obtain ⟨E, hE⟩ : ∃ E, E = w.heap.size := ⟨_, rfl⟩
  rw [← hE] at E0
  rw [← hE]
  have HE := Lib.hid hE
  clear hE
  have e1 := E0.out.c1
  go_upto_region 4 with ((with_reducible refine KN.out.mono ?_); rintro en w2 ⟨rfl, hk⟩; have K2 := Lib.hid (K0.out.next hk); have E2 := Lib.hid (E0.out.later hk); have K12 := Lib.hid hk; clear hk)
  clear e1 KN E0 K0
  have L2 := Lib.hid (LS.out.later K2.out)
  have e4 := E2.out.c4
  have e5 := E2.out.c5
  have nE : LB ≠ E := by
    have h1 := LS.out.lt
    rw [HLB.out, HE.out]
    omega
  have nE' : E ≠ LB := fun h => nE h.symm
  clear e5
  have U1 := Lib.hid (fun w' => upto46 e.n 2 w')
  cases u1 : uptoB e.n 2 with
  | false =>
    have ER := Lib.hid (show RES = .error 32 from by
      rw [HS.out]
      unfold maskP
      rw [HF.out]
      simp only [u1, if_true])
    unfold uptoB at u1
    rw [u1] at U1
    clear u1
    go_wp2_with ((with_reducible refine (U1.out _).mono ?_); rintro en w3 ⟨rfl, hw⟩; replace hw := hw.symm; subst hw)
    go_ret
    exact Edited.err ER.out K2.out
  | true =>
  have ER0 := Lib.hid (show RES = if e.n = 2 then .ok (plugP (C.map Frm.er) (er pre ++ .mk (setMask d []) (er kids) :: er post)) else
      if (La.shape (e.shape.map ptOf) && La.areaB x y) = false then .error 31 else
      .ok (plugP (C.map Frm.er) (er pre ++ .mk (setMask d (maskL (e.shape.map ptOf) x.toNat y.toNat (decide (e.n = 1)))) (er kids) :: er post)) from by
    rw [HS.out]
    unfold maskP
    rw [HF.out]
    simp only [u1]
    rfl)
  unfold uptoB at u1
  rw [u1] at U1
  clear u1
  have x8 : w2.cell? ⟨LB, LO + 8, none⟩ = some (.slice lm.a lm.n lm.c) := by rw [HLB.out, HLO.out]; exact L2.out.cell 8 _ rfl
  have f8 : w2.frozen? ⟨LB, LO + 8, none⟩ = false := by rw [HLB.out]; exact L2.out.fr _
  by_cases hn2 : e.n = 2
  · have t1 : (e.n == 2) = true := by simp [hn2]
    have t2 : decide (e.n = 2) = true := by simp [hn2]
    have ER := Lib.hid (show RES = .ok (plugP (C.map Frm.er) (er pre ++ .mk (setMask d []) (er kids) :: er post)) from by rw [ER0.out, if_pos hn2])
    clear hn2 ER0
    go_upto_region 7 with ((with_reducible refine (U1.out _).mono ?_); rintro en w3 ⟨rfl, hw⟩; replace hw := hw.symm; subst hw)
    go_wp2_with fail
    go_ret
    obtain ⟨wa, ka⟩ := turn1 (d' := setMask d []) (m' := Hd.nil) (q' := lq) (j := 8) (u := .slice none 0 0) HW.out K2.out (by omega) rfl rfl rfl (.inr (ownR_nil _ _ _ _)) (.inl ⟨rfl, rfl⟩) (.inr rfl) HB.out
    rw [← HLB.out, ← HLO.out] at wa ka
    exact Edited.good ER.out (by rw [er_plug, er_append, er_cons]; rfl) wa (keeps_weak ka (fun q _ e => by have h1 := LS.out.low; rw [← HLB.out] at h1; have e' : q = LB := e; omega))
  · have t1 : (e.n == 2) = false := by simp [hn2]
    have t2 : decide (e.n = 2) = false := by simp [hn2]
    have ER1 := Lib.hid (show RES = if (La.shape (e.shape.map ptOf) && La.areaB x y) = false then .error 31 else
      .ok (plugP (C.map Frm.er) (er pre ++ .mk (setMask d (maskL (e.shape.map ptOf) x.toNat y.toNat (decide (e.n = 1)))) (er kids) :: er post)) from by rw [ER0.out, if_neg hn2])
    clear hn2 ER0
    have e11 := E2.out.c11
    have R2 := Lib.hid (show Dc w2 R x y z (plugH C h') from (HW.out.later K2.out).doc)
    have r0 := R2.out.c0
    have r1 := R2.out.c1
    have PS := Lib.hid (show La.Pts w2.drew s.a s.n (e.shape.map ptOf) from SP.out.1.later (fun k hk => K2.out.later k hk))
    cases hsa : (La.shape (e.shape.map ptOf) && La.areaB x y) with
    | false =>
      have ER := Lib.hid (show RES = .error 31 from by rw [ER1.out, if_pos hsa])
      have CM := Lib.hid (La.mask_no w2.drew s.a s.n s.c (e.shape.map ptOf) x y PS.out SP.out.2 hsa)
      unfold La.Refused at CM
      clear hsa ER1 PS
      go_upto_region 9 with ((with_reducible refine (U1.out _).mono ?_); rintro en w3 ⟨rfl, hw⟩; replace hw := hw.symm; subst hw)
      go_region_law (go_simp; (with_reducible refine CM.out.mono ?_); rintro en w5 ⟨rfl, hk⟩; have K5 := Lib.hid (below_keeps hk); clear hk)
      all_goals go_wp2_with fail
      all_goals go_ret
      all_goals exact Edited.err ER.out (K2.out.drew.next K5.out)
    | true =>
      have hx : 0 ≤ x ∧ 0 ≤ y ∧ x * y ≤ 4194304 := by
        simp only [La.areaB, La.sideB, Bool.and_eq_true, decide_eq_true_eq] at hsa
        exact ⟨by omega, by omega, by omega⟩
      obtain ⟨W, rfl⟩ : ∃ W : Nat, x = (W : Int) := ⟨x.toNat, by omega⟩
      obtain ⟨H, rfl⟩ : ∃ H : Nat, y = (H : Int) := ⟨y.toNat, by omega⟩
      have ER := Lib.hid (show RES = .ok (plugP (C.map Frm.er) (er pre ++ .mk (setMask d (maskL (e.shape.map ptOf) W H (decide (e.n = 1)))) (er kids) :: er post)) from by
        rw [ER1.out, if_neg (by rw [hsa]; simp), Int.toNat_natCast, Int.toNat_natCast])
      have hN : W * H ≤ 4194304 := by
        have h1 : ((W * H : Nat) : Int) ≤ 4194304 := by rw [Int.natCast_mul]; exact hx.2.2
        omega
      rw [Bool.and_eq_true] at hsa
      have CM := Lib.hid (La.mask_yes w2.drew s.a s.n s.c (e.shape.map ptOf) W H PS.out hsa.1 hsa.2)
      unfold La.MaskSays at CM
      have HN := Lib.hid hN
      clear hsa ER1 PS hx hN
      go_upto_region 9 with ((with_reducible refine (U1.out _).mono ?_); rintro en w3 ⟨rfl, hw⟩; replace hw := hw.symm; subst hw)
      have CN := Lib.hid (show Calls Try.prog 58 #[.slice s.a s.n s.c, .int .i64 (W : Int), .int .i64 (H : Int)] w2.drew (fun en w' => ∃ G, en = .returned (.tuple #[.slice (some ⟨G, 0, none⟩) (W * H) (W * H), .int .i64 0]) ∧ La.MaskB w' G (W * H) (La.maskF (e.shape.map ptOf) W) ∧ w2.heap.size ≤ G ∧ Keeps none' w2 w') from by
        refine CM.out.mono ?_
        rintro en w' ⟨G, h1, h2, h3, h4⟩
        exact ⟨G, h1, h2, h3, (Keeps.refl none' w2).drew.next (below_keeps h4)⟩)
      clear CM
      obtain ⟨N, hNN⟩ : ∃ N, N = W * H := ⟨_, rfl⟩
      rw [← hNN] at CN HN
      have HNN := Lib.hid hNN
      clear hNN
      go_cut [6, 7] from 30 (fun s6 s7 w' => ∃ G, s6 = .int .i64 0 ∧ s7 = .slice (some ⟨G, 0, none⟩) N N ∧ La.MaskB w' G N (La.maskF (e.shape.map ptOf) W) ∧ w2.heap.size ≤ G ∧ Keeps none' w2 w')
      case first =>
        go_region_law (go_simp; (with_reducible refine CN.out.mono ?_); rintro en w5 ⟨G, rfl, m1, m2, m3⟩)
        all_goals
          go_wp2_with fail
          go_meet
          case rel => exact ⟨G, rfl, rfl, m1, m2, m3⟩
      case rest =>
      obtain ⟨G, rfl, rfl, m1, m2, m3⟩ := hcut
      have HM := Lib.hid m1
      have HG := Lib.hid m2
      have KC := Lib.hid m3
      have e4 := m3.cell e4
      have LC := Lib.hid (L2.out.later m3)
      have L2R := Lib.hid (show ∀ w', Keeps none' w2 w' → LaySpot B w' R h' pre.length d lp lm lq lk from fun w' k => L2.out.later k)
      have HLT := Lib.hid (show LB < w.heap.size from by rw [HLB.out]; exact LS.out.lt)
      clear x8 f8 e11 r0 r1 m1 m2 m3 R2 U1 L2 CN E2
      have hN4 := HN.out
      by_cases hn1 : e.n = 1
      · have s1 : (e.n == 1) = true := by simp [hn1]
        have ER2 := Lib.hid (show RES = .ok (plugP (C.map Frm.er) (er pre ++ .mk (setMask d (maskL (e.shape.map ptOf) W H true)) (er kids) :: er post)) from by rw [ER.out, hn1]; rfl)
        clear hn1
        go_wp2_with fail
        go_loopw [52] (fun s52 wr => ∃ i : Nat, i ≤ N ∧ s52 = .int .i64 i ∧ MaskI wr G N (La.maskF (e.shape.map ptOf) W) true i ∧ Keeps none' w2 wr) (fun s52 _ => N - (intOf s52).toNat)
        case atStart => exact ⟨0, Nat.zero_le _, rfl, MaskI.start HM.out, KC.out⟩
        case round =>
          obtain ⟨i, hi, rfl, hm, hk⟩ := hrel
          have MI := Lib.hid hm
          have KR := Lib.hid hk
          clear hm hk
          by_cases hlt : i < N
          · have tk : decide ((i : Int) < (N : Int)) = true := by simp; omega
            have tk2 : decide (i < N) = true := by simp; omega
            obtain ⟨v, hv⟩ : ∃ v, v = La.byteB (La.maskF (e.shape.map ptOf) W i) := ⟨_, rfl⟩
            have mc := MI.out.cell hlt
            rw [← hv] at mc
            obtain ⟨mc1, mc2⟩ := mc
            have wv : IntKind.u8.wrap (255 - v) = 255 - v := by rw [hv]; exact byte_flip _
            have ST := Lib.hid (MI.out.step hlt)
            rw [← hv] at ST
            have KS := Lib.hid (KR.out.setCell (p := ⟨G, i, none⟩) (fun e => by have e' : G < w2.heap.size := e; have := HG.out; omega) (.int .u8 (255 - v)))
            have hb : (i : Int) < 4194304 := by omega
            have iw : wrap64 ((i : Int) + 1) = (i : Int) + 1 := wrap64_id _ (by omega) (by omega)
            clear hv
            go_wp2_with fail
            go_roundw
            case rel => exact ⟨i + 1, Nat.succ_le_of_lt hlt, by go_num, ST.out, KS.out⟩
            case measure => exact meas_lt hlt rfl
          · obtain rfl : i = N := by omega
            have tk : decide ((i : Int) < (i : Int)) = false := by simp
            have OWN := Lib.hid (show OwnR w.heap.size wr 5 1 ⟨some ⟨G, 0, none⟩, i, i⟩ (bytes (maskL (e.shape.map ptOf) W H true)) from by
              have h1 := MI.out
              rw [HNN.out] at h1
              have h2 := h1.own (B := w.heap.size) (Nat.le_trans K2.out.size HG.out) (by rw [← HNN.out]; exact HN.out)
              rw [← HNN.out] at h2
              exact h2)
            have LR := Lib.hid (L2R.out wr KR.out)
            have x8 : wr.cell? ⟨LB, LO + 8, none⟩ = some (.slice lm.a lm.n lm.c) := by rw [HLB.out, HLO.out]; exact LR.out.cell 8 _ rfl
            have f8 : wr.frozen? ⟨LB, LO + 8, none⟩ = false := by rw [HLB.out]; exact LR.out.fr _
            go_wp2_with fail
            go_ret
            obtain ⟨wa, ka⟩ := turn1 (d' := setMask d (maskL (e.shape.map ptOf) W H true)) (m' := ⟨some ⟨G, 0, none⟩, i, i⟩) (q' := lq) (j := 8) (u := .slice (some ⟨G, 0, none⟩) i i) HW.out (K2.out.next KR.out) (by omega) rfl rfl rfl (.inr OWN.out) (.inl ⟨rfl, rfl⟩) (.inr rfl) HB.out
            rw [← HLB.out, ← HLO.out] at wa ka
            exact Edited.good ER2.out (by rw [er_plug, er_append, er_cons]; rfl) wa (keeps_weak ka (fun q _ e => by have h1 := LS.out.low; rw [← HLB.out] at h1; have e' : q = LB := e; omega))
      · have s1 : (e.n == 1) = false := by simp [hn1]
        have ER2 := Lib.hid (show RES = .ok (plugP (C.map Frm.er) (er pre ++ .mk (setMask d (maskL (e.shape.map ptOf) W H false)) (er kids) :: er post)) from by rw [ER.out, show decide (e.n = 1) = false from by simp [hn1]])
        clear hn1
        have OWN := Lib.hid (show OwnR w.heap.size wc 5 1 ⟨some ⟨G, 0, none⟩, N, N⟩ (bytes (maskL (e.shape.map ptOf) W H false)) from by
          have h1 := MaskI.plain HM.out
          rw [HNN.out] at h1
          have h2 := h1.own (B := w.heap.size) (Nat.le_trans K2.out.size HG.out) (by rw [← HNN.out]; exact HN.out)
          rw [← HNN.out] at h2
          exact h2)
        have x8 : wc.cell? ⟨LB, LO + 8, none⟩ = some (.slice lm.a lm.n lm.c) := by rw [HLB.out, HLO.out]; exact LC.out.cell 8 _ rfl
        have f8 : wc.frozen? ⟨LB, LO + 8, none⟩ = false := by rw [HLB.out]; exact LC.out.fr _
        go_wp2_with fail
        go_ret
        obtain ⟨wa, ka⟩ := turn1 (d' := setMask d (maskL (e.shape.map ptOf) W H false)) (m' := ⟨some ⟨G, 0, none⟩, N, N⟩) (q' := lq) (j := 8) (u := .slice (some ⟨G, 0, none⟩) N N) HW.out (K2.out.next KC.out) (by omega) rfl rfl rfl (.inr OWN.out) (.inl ⟨rfl, rfl⟩) (.inr rfl) HB.out
        rw [← HLB.out, ← HLO.out] at wa ka
        exact Edited.good ER2.out (by rw [er_plug, er_append, er_cons]; rfl) wa (keeps_weak ka (fun q _ e => by have h1 := LS.out.low; rw [← HLB.out] at h1; have e' : q = LB := e; omega))
theorem mask36 (B R : Nat) (x y z : Int) (h : Hd) (ls : List Loc) (e : PEd) (p s q : Hd) (w : World) (W : Whole B w R x y z h ls) {z0 : Int} (G : Good z0 (er ls)) (hB : B ≤ w.heap.size) (SP0 : La.Pts w s.a s.n (e.shape.map ptOf) ∧ s.n ≤ 33554432) :
    Calls Try.prog 36 #[.pointer (some ⟨R, 0, none⟩), edV e p s q] w fun en w' => Edited B w R x y z (maskP (er ls) x y e) en w' := by
  rcases lay_doc e.id R h ls with ⟨a, b⟩ | ⟨C, pre, l, post, h', a1, a2, a3, a4⟩
  · exact mask_no B R x y z h ls e p s q w W G b (by unfold maskP; rw [a])
  · obtain ⟨d, lp, lm, lq, lk, kids⟩ := l
    subst a2 a3
    exact mask_yes B R x y z e p s q w C h' pre post d lp lm lq lk kids W hB G a4 SP0 a1
end Go.Proofs.Ytfcpbpfemmdklaa

/- Do (8), for the kinds 7 to 9. (printed by genZW.py) -/
namespace Go.Proofs.Ytfcpbpfemmdklaa
open Go.RowKit Go.Lib
set_option linter.unusedSimpArgs false
set_option linter.unusedVariables false

theorem placeP_err {ls : List Lay} {e : PEd} {f : Int} (h : placeP ls e = .error f) : f ≠ 0 := by
  unfold placeP at h
  split at h
  · cases h; decide
  split at h
  · cases h; decide
  split at h
  · split at h
    · cases h; decide
    split at h
    · rename_i hb; cases h; exact hb
    · cases h
  · cases h; decide
theorem adjustP_err {ls : List Lay} {e : PEd} {f : Int} (h : adjustP ls e = .error f) : f ≠ 0 := by
  unfold adjustP at h
  split at h
  · cases h; decide
  split at h
  · cases h; decide
  split at h
  · split at h
    · cases h; decide
    · cases h
  · cases h; decide
theorem maskP_err {ls : List Lay} {x y : Int} {e : PEd} {f : Int} (h : maskP ls x y e = .error f) : f ≠ 0 := by
  unfold maskP at h
  split at h
  · cases h; decide
  split at h
  · cases h; decide
  split at h
  · cases h
  split at h
  · cases h; decide
  · cases h
attribute [local go_sem ↓] ldx35
attribute [local go_sem] ptrBlock_some aggCells_agg
set_option maxRecDepth 100000 in
set_option maxHeartbeats 3200000 in
theorem doPlace (x y z : Int) (h : Hd) (ls : List Loc) (e : PEd) (p s q : Hd) (w : World) (D : DocV w h ls) {z0 : Int} (G : Good z0 (er ls)) (hk : e.kind = 8) :
    Calls Try.prog 8 #[docV x y z h, edV e p s q] w fun en w' => Done w x y (z) (placeP (er ls) e) en w' := by
  have HD := Lib.hid D
  have HG := Lib.hid G
  skip
  have C0 := Lib.hid (((Dc.new w x y z h).later ((Keeps.refl none' _).alloc (.cells (edCells e p s q).toArray 35))).later ((Keeps.refl none' _).alloc (.cells #[.int .i64 0, .int .i64 0, .int .i64 0, .slice none 0 0] 25)))
  have E0 := Lib.hid ((Eb.new (w.alloc (.cells #[.int .i64 x, .int .i64 y, .int .i64 z, .slice h.a h.n h.c] 25)) e p s q).later ((Keeps.refl none' _).alloc (.cells #[.int .i64 0, .int .i64 0, .int .i64 0, .slice none 0 0] 25)))
  have K0 := Lib.hid ((((Keeps.refl none' w).alloc (.cells #[.int .i64 x, .int .i64 y, .int .i64 z, .slice h.a h.n h.c] 25)).alloc (.cells (edCells e p s q).toArray 35)).alloc (.cells #[.int .i64 0, .int .i64 0, .int .i64 0, .slice none 0 0] 25))
  have R0 := Lib.hid (heap_alloc_new ((w.alloc (.cells #[.int .i64 x, .int .i64 y, .int .i64 z, .slice h.a h.n h.c] 25)).alloc (.cells (edCells e p s q).toArray 35)) (.cells #[.int .i64 0, .int .i64 0, .int .i64 0, .slice none 0 0] 25))
  have hs1 : (w.alloc (.cells #[.int .i64 x, .int .i64 y, .int .i64 z, .slice h.a h.n h.c] 25)).heap.size = w.heap.size + 1 := by simp
  have hs2 : ((w.alloc (.cells #[.int .i64 x, .int .i64 y, .int .i64 z, .slice h.a h.n h.c] 25)).alloc (.cells (edCells e p s q).toArray 35)).heap.size = w.heap.size + 1 + 1 := by simp
  rw [hs1] at E0
  rw [hs2] at R0
  clear hs1 hs2 D G
  unfold docV edV
  obtain ⟨EV, hEV⟩ : ∃ EV, EV = (edCells e p s q).toArray := ⟨_, rfl⟩
  rw [← hEV]
  rw [← hEV] at C0 E0 K0 R0
  have HEV := Lib.hid hEV
  have e0v := E0.out.c0
  rw [hk] at e0v
  clear hEV
  obtain ⟨Dk, hDk⟩ : ∃ Dk, Dk = w.heap.size := ⟨_, rfl⟩
  obtain ⟨E, hE⟩ : ∃ E, E = Dk + 1 := ⟨_, rfl⟩
  obtain ⟨Z, hZ⟩ : ∃ Z, Z = E + 1 := ⟨_, rfl⟩
  rw [← hDk] at C0
  rw [← hDk, ← hE] at E0 e0v
  rw [← hDk, ← hE, ← hZ] at R0
  have EE := Lib.hid (And.intro hDk (And.intro hE hZ))
  go_enter Try.func8, Try.ntmps8
  go_upto_region 1 with (fail)
  rw [← hDk, ← hE, ← hZ]
  clear hDk hE hZ
  generalize ((w.alloc (.cells #[.int .i64 x, .int .i64 y, .int .i64 z, .slice h.a h.n h.c] 25)).alloc (.cells EV 35)).alloc (.cells #[.int .i64 0, .int .i64 0, .int .i64 0, .slice none 0 0] 25) = w1 at *
  go_upto_region 2 with ((with_reducible refine (deeds17 w1).mono ?_); rintro en w2 ⟨rfl, f0, hw2⟩; have HW2 := Lib.hid hw2; clear hw2)
  have db := heap_alloc_new w1 (.cells #[f0, .func (.func 30) #[] #[], .func (.func 31) #[] #[], .func (.func 32) #[] #[], .func (.func 33) #[] #[], .func (.func 34) #[] #[], .func (.func 35) #[] #[], .func (.func 36) #[] #[], .func (.func 37) #[] #[], .func (.func 38) #[] #[]] 59)
  rw [← HW2.out] at db
  have DB := Lib.hid db
  have k12 : Keeps none' w1 w2 := by rw [HW2.out]; exact (Keeps.refl none' w1).alloc _
  clear db
  obtain ⟨DD, hDD⟩ : ∃ DD, DD = w1.heap.size := ⟨_, rfl⟩
  rw [← hDD] at DB
  rw [← hDD]
  clear hDD HW2
  have K2 := Lib.hid (K0.out.next k12)
  have C2 := Lib.hid (C0.out.later k12)
  have E2 := Lib.hid (E0.out.later k12)
  have R2 := Lib.hid ((k12.later Z (lt_of_block R0.out)).trans R0.out)
  have e0w := k12.cell e0v
  clear k12 C0 E0 K0 R0 e0v
  have c0 := C2.out.c0
  have c1 := C2.out.c1
  have c2 := C2.out.c2
  have c3 := C2.out.c3
  have cp := copied18 x y z h ls w2 (HD.out.later K2.out)
  unfold docV at cp
  have CP := Lib.hid cp
  clear cp
  go_upto_region 5 with ((with_reducible refine CP.out.mono ?_); rintro en w3 ⟨h', ls', rfl, hcp⟩; have CD := Lib.hid hcp; clear hcp)
  have ka := (Keeps.refl none' w3).alloc (.cells #[.int .i64 x, .int .i64 y, .int .i64 z, .slice h'.a h'.n h'.c] 25)
  have N4 := Lib.hid (Dc.new w3 x y z h')
  have K24 := Lib.hid (CD.out.keeps.next ka)
  have E4 := Lib.hid (E2.out.later K24.out)
  have R4 := Lib.hid ((K24.out.later Z (lt_of_block R2.out)).trans R2.out)
  have D4 := Lib.hid ((K24.out.later DD (lt_of_block DB.out)).trans DB.out)
  have e0 := K24.out.cell e0w
  have K4 := Lib.hid (K2.out.next K24.out)
  obtain ⟨Nx, hNx⟩ : ∃ Nx, Nx = w3.heap.size := ⟨_, rfl⟩
  have W4 := Lib.hid (show Whole w2.heap.size (w3.alloc (.cells #[.int .i64 x, .int .i64 y, .int .i64 z, .slice h'.a h'.n h'.c] 25)) Nx x y z h' ls' from by
    have hB : w2.heap.size ≤ w2.heap.size + 2 := by omega
    refine ⟨by rw [hNx]; exact N4.out, (CD.out.row.later ka).low hB, (CD.out.own.later ka).low hB, CD.out.nodup, fun hm => ?_⟩
    rcases List.mem_append.1 hm with hm | hm
    · have := (CD.out.row.range _ hm).2; omega
    · have := (CD.out.own.range _ hm).2; omega)
  obtain ⟨B2, hB2⟩ : ∃ B2, B2 = w2.heap.size := ⟨_, rfl⟩
  have NB := Lib.hid (show B2 ≤ Nx ∧ Z < B2 ∧ w.heap.size ≤ B2 from by rw [hNx, hB2]; exact ⟨CD.out.keeps.size, lt_of_block R2.out, K2.out.size⟩)
  rw [← hB2] at W4
  have SAME := Lib.hid CD.out.same
  rw [← hNx]
  clear hNx hB2 ka N4 c0 c1 c2 c3 CP CD K24 E2 R2 DB C2 K2 e0w
  generalize w3.alloc (.cells #[.int .i64 x, .int .i64 y, .int .i64 z, .slice h'.a h'.n h'.c] 25) = w4 at *
  have deed := place37 B2 Nx x y z h' ls' e p s q w4.drew (W4.out.later ((Keeps.refl none' w4).drew)) (by rw [SAME.out]; exact HG.out) (Nat.le_of_lt (Nat.lt_of_le_of_lt NB.out.1 (lt_of_block W4.out.doc)))
  unfold edV at deed
  rw [← HEV.out, SAME.out] at deed
  have DE := Lib.hid (show Calls Try.prog 37 #[.pointer (some ⟨Nx, 0, none⟩), .agg EV] w4.drew (fun en w' => ∃ v : Int, en = .returned (.int .i64 v) ∧ Edited B2 w4.drew Nx x y (z) (placeP (er ls) e) (.returned (.int .i64 v)) w') from deed.mono (fun _ _ h => h.val))
  clear deed
  have r5 : Row35 w4 E := E4.out.row.1
  have r6 : rowAt w4 E = EV := by rw [E4.out.row.2, HEV.out]
  have r5d : Row35 w4.drew E := r5
  have r6d : rowAt w4.drew E = EV := r6
  have fk : w4.cell? ⟨DD, 8, none⟩ = some (.func (.func 37) #[] #[]) := by simp [World.cell?, D4.out]
  go_cut [8] from 23 (fun s8 w' => ∃ v : Int, s8 = .int .i64 v ∧ Edited B2 w4.drew Nx x y (z) (placeP (er ls) e) (.returned (.int .i64 v)) w')
  case first =>
    go_region_law (go_simp; (with_reducible refine DE.out.mono ?_); rintro en w5 ⟨v, rfl, hed⟩)
    all_goals
      go_wp2_with fail
      go_meet
      case rel => exact ⟨v, rfl, hed⟩
  case rest =>
    obtain ⟨v, rfl, hed⟩ := hcut
    have ZW := Lib.hid (show w.heap.size ≤ Z from by have := EE.out; omega)
    clear r5 r6 r5d r6d fk e0
    cases hr : placeP (er ls) e with
    | error f =>
      rw [hr] at hed
      obtain ⟨hv, hk9⟩ := hed
      simp only [Ending.returned.injEq, Value.int.injEq, true_and] at hv
      subst hv
      have e1 : (v != 0) = true := by simpa using placeP_err hr
      have RS := Lib.hid hr
      have K9 := Lib.hid (keeps_of_from K4.out.drew hk9 NB.out.2.2)
      have R9 := Lib.hid ((hk9.block Z (lt_of_block R4.out) (by have := NB.out; omega)).trans R4.out)
      obtain ⟨⟨r0, r1, r2, r3⟩, rf⟩ := four_cells R9.out
      have f0' := rf 0
      have f1' := rf 1
      have f2' := rf 2
      have f3' := rf 3
      clear rf hr hk9
      go_wp2_with fail
      refine bodyPost_ret (results_cell_row2 rfl _ _ Z 25 _ (0, 0) _ rfl (four_set R9.out _ _ _ _) Try.underlying25 rfl (by kernel_rfl)) rfl ?_
      exact Done.err RS.out (keeps_set4 K9.out ZW.out _ _ _ _)
    | ok lsP =>
      rw [hr] at hed
      obtain ⟨hv, h2, lsL, q1, q2, hk9⟩ := hed
      simp only [Ending.returned.injEq, Value.int.injEq, true_and] at hv
      subst hv
      have RS := Lib.hid hr
      have Q := Lib.hid (And.intro q1 q2)
      have K9 := Lib.hid (keeps_of_from K4.out.drew hk9 NB.out.2.2)
      have R9 := Lib.hid ((hk9.block Z (lt_of_block R4.out) (by have := NB.out; omega)).trans R4.out)
      obtain ⟨⟨r0, r1, r2, r3⟩, rf⟩ := four_cells R9.out
      have f0' := rf 0
      have f1' := rf 1
      have f2' := rf 2
      have f3' := rf 3
      have c0 := Dc.c0 (x := x) (y := y) (z := z) (h := h2) q2.doc
      have c1 := Dc.c1 (x := x) (y := y) (z := z) (h := h2) q2.doc
      have c2 := Dc.c2 (x := x) (y := y) (z := z) (h := h2) q2.doc
      have c3 := Dc.c3 (x := x) (y := y) (z := z) (h := h2) q2.doc
      clear rf hr hk9 q1 q2
      go_wp2_with fail
      refine bodyPost_ret (results_cell_row2 rfl _ _ Z 25 _ (0, 0) _ rfl (four_set R9.out _ _ _ _) Try.underlying25 rfl (by kernel_rfl)) rfl ?_
      refine Done.good RS.out Q.out.1 ?_ (keeps_set4 K9.out ZW.out _ _ _ _)
      have nd := Q.out.2.newD
      exact (nd.keep (keeps_at4 wc Z _ _ _ _) (fun b hb e => by have e' : b = Z := e; have := (nd.range b hb).1; have := NB.out; omega)).low NB.out.2.2
set_option maxRecDepth 100000 in
set_option maxHeartbeats 3200000 in
theorem doAdjust (x y z : Int) (h : Hd) (ls : List Loc) (e : PEd) (p s q : Hd) (w : World) (D : DocV w h ls) {z0 : Int} (G : Good z0 (er ls)) (QP : ReadR w 3 1 q (ints e.pars) ∧ In64 e.pars ∧ q.n ≤ 16777216) (hk : e.kind = 9) :
    Calls Try.prog 8 #[docV x y z h, edV e p s q] w fun en w' => Done w x y (z) (adjustP (er ls) e) en w' := by
  have HD := Lib.hid D
  have HG := Lib.hid G
  have HZ := Lib.hid QP
  clear QP
  have C0 := Lib.hid (((Dc.new w x y z h).later ((Keeps.refl none' _).alloc (.cells (edCells e p s q).toArray 35))).later ((Keeps.refl none' _).alloc (.cells #[.int .i64 0, .int .i64 0, .int .i64 0, .slice none 0 0] 25)))
  have E0 := Lib.hid ((Eb.new (w.alloc (.cells #[.int .i64 x, .int .i64 y, .int .i64 z, .slice h.a h.n h.c] 25)) e p s q).later ((Keeps.refl none' _).alloc (.cells #[.int .i64 0, .int .i64 0, .int .i64 0, .slice none 0 0] 25)))
  have K0 := Lib.hid ((((Keeps.refl none' w).alloc (.cells #[.int .i64 x, .int .i64 y, .int .i64 z, .slice h.a h.n h.c] 25)).alloc (.cells (edCells e p s q).toArray 35)).alloc (.cells #[.int .i64 0, .int .i64 0, .int .i64 0, .slice none 0 0] 25))
  have R0 := Lib.hid (heap_alloc_new ((w.alloc (.cells #[.int .i64 x, .int .i64 y, .int .i64 z, .slice h.a h.n h.c] 25)).alloc (.cells (edCells e p s q).toArray 35)) (.cells #[.int .i64 0, .int .i64 0, .int .i64 0, .slice none 0 0] 25))
  have hs1 : (w.alloc (.cells #[.int .i64 x, .int .i64 y, .int .i64 z, .slice h.a h.n h.c] 25)).heap.size = w.heap.size + 1 := by simp
  have hs2 : ((w.alloc (.cells #[.int .i64 x, .int .i64 y, .int .i64 z, .slice h.a h.n h.c] 25)).alloc (.cells (edCells e p s q).toArray 35)).heap.size = w.heap.size + 1 + 1 := by simp
  rw [hs1] at E0
  rw [hs2] at R0
  clear hs1 hs2 D G
  unfold docV edV
  obtain ⟨EV, hEV⟩ : ∃ EV, EV = (edCells e p s q).toArray := ⟨_, rfl⟩
  rw [← hEV]
  rw [← hEV] at C0 E0 K0 R0
  have HEV := Lib.hid hEV
  have e0v := E0.out.c0
  rw [hk] at e0v
  clear hEV
  obtain ⟨Dk, hDk⟩ : ∃ Dk, Dk = w.heap.size := ⟨_, rfl⟩
  obtain ⟨E, hE⟩ : ∃ E, E = Dk + 1 := ⟨_, rfl⟩
  obtain ⟨Z, hZ⟩ : ∃ Z, Z = E + 1 := ⟨_, rfl⟩
  rw [← hDk] at C0
  rw [← hDk, ← hE] at E0 e0v
  rw [← hDk, ← hE, ← hZ] at R0
  have EE := Lib.hid (And.intro hDk (And.intro hE hZ))
  go_enter Try.func8, Try.ntmps8
  go_upto_region 1 with (fail)
  rw [← hDk, ← hE, ← hZ]
  clear hDk hE hZ
  generalize ((w.alloc (.cells #[.int .i64 x, .int .i64 y, .int .i64 z, .slice h.a h.n h.c] 25)).alloc (.cells EV 35)).alloc (.cells #[.int .i64 0, .int .i64 0, .int .i64 0, .slice none 0 0] 25) = w1 at *
  go_upto_region 2 with ((with_reducible refine (deeds17 w1).mono ?_); rintro en w2 ⟨rfl, f0, hw2⟩; have HW2 := Lib.hid hw2; clear hw2)
  have db := heap_alloc_new w1 (.cells #[f0, .func (.func 30) #[] #[], .func (.func 31) #[] #[], .func (.func 32) #[] #[], .func (.func 33) #[] #[], .func (.func 34) #[] #[], .func (.func 35) #[] #[], .func (.func 36) #[] #[], .func (.func 37) #[] #[], .func (.func 38) #[] #[]] 59)
  rw [← HW2.out] at db
  have DB := Lib.hid db
  have k12 : Keeps none' w1 w2 := by rw [HW2.out]; exact (Keeps.refl none' w1).alloc _
  clear db
  obtain ⟨DD, hDD⟩ : ∃ DD, DD = w1.heap.size := ⟨_, rfl⟩
  rw [← hDD] at DB
  rw [← hDD]
  clear hDD HW2
  have K2 := Lib.hid (K0.out.next k12)
  have C2 := Lib.hid (C0.out.later k12)
  have E2 := Lib.hid (E0.out.later k12)
  have R2 := Lib.hid ((k12.later Z (lt_of_block R0.out)).trans R0.out)
  have e0w := k12.cell e0v
  clear k12 C0 E0 K0 R0 e0v
  have c0 := C2.out.c0
  have c1 := C2.out.c1
  have c2 := C2.out.c2
  have c3 := C2.out.c3
  have cp := copied18 x y z h ls w2 (HD.out.later K2.out)
  unfold docV at cp
  have CP := Lib.hid cp
  clear cp
  go_upto_region 5 with ((with_reducible refine CP.out.mono ?_); rintro en w3 ⟨h', ls', rfl, hcp⟩; have CD := Lib.hid hcp; clear hcp)
  have ka := (Keeps.refl none' w3).alloc (.cells #[.int .i64 x, .int .i64 y, .int .i64 z, .slice h'.a h'.n h'.c] 25)
  have N4 := Lib.hid (Dc.new w3 x y z h')
  have K24 := Lib.hid (CD.out.keeps.next ka)
  have E4 := Lib.hid (E2.out.later K24.out)
  have R4 := Lib.hid ((K24.out.later Z (lt_of_block R2.out)).trans R2.out)
  have D4 := Lib.hid ((K24.out.later DD (lt_of_block DB.out)).trans DB.out)
  have e0 := K24.out.cell e0w
  have K4 := Lib.hid (K2.out.next K24.out)
  obtain ⟨Nx, hNx⟩ : ∃ Nx, Nx = w3.heap.size := ⟨_, rfl⟩
  have W4 := Lib.hid (show Whole w2.heap.size (w3.alloc (.cells #[.int .i64 x, .int .i64 y, .int .i64 z, .slice h'.a h'.n h'.c] 25)) Nx x y z h' ls' from by
    have hB : w2.heap.size ≤ w2.heap.size + 2 := by omega
    refine ⟨by rw [hNx]; exact N4.out, (CD.out.row.later ka).low hB, (CD.out.own.later ka).low hB, CD.out.nodup, fun hm => ?_⟩
    rcases List.mem_append.1 hm with hm | hm
    · have := (CD.out.row.range _ hm).2; omega
    · have := (CD.out.own.range _ hm).2; omega)
  obtain ⟨B2, hB2⟩ : ∃ B2, B2 = w2.heap.size := ⟨_, rfl⟩
  have NB := Lib.hid (show B2 ≤ Nx ∧ Z < B2 ∧ w.heap.size ≤ B2 from by rw [hNx, hB2]; exact ⟨CD.out.keeps.size, lt_of_block R2.out, K2.out.size⟩)
  rw [← hB2] at W4
  have SAME := Lib.hid CD.out.same
  rw [← hNx]
  clear hNx hB2 ka N4 c0 c1 c2 c3 CP CD K24 E2 R2 DB C2 K2 e0w
  generalize w3.alloc (.cells #[.int .i64 x, .int .i64 y, .int .i64 z, .slice h'.a h'.n h'.c] 25) = w4 at *
  have deed := adjust38 B2 Nx x y z h' ls' e p s q w4.drew (W4.out.later ((Keeps.refl none' w4).drew)) (by rw [SAME.out]; exact HG.out) (Nat.le_of_lt (Nat.lt_of_le_of_lt NB.out.1 (lt_of_block W4.out.doc))) ⟨HZ.out.1.keep K4.out.drew (fun _ _ h => h), HZ.out.2⟩
  unfold edV at deed
  rw [← HEV.out, SAME.out] at deed
  have DE := Lib.hid (show Calls Try.prog 38 #[.pointer (some ⟨Nx, 0, none⟩), .agg EV] w4.drew (fun en w' => ∃ v : Int, en = .returned (.int .i64 v) ∧ Edited B2 w4.drew Nx x y (z) (adjustP (er ls) e) (.returned (.int .i64 v)) w') from deed.mono (fun _ _ h => h.val))
  clear deed
  have r5 : Row35 w4 E := E4.out.row.1
  have r6 : rowAt w4 E = EV := by rw [E4.out.row.2, HEV.out]
  have r5d : Row35 w4.drew E := r5
  have r6d : rowAt w4.drew E = EV := r6
  have fk : w4.cell? ⟨DD, 9, none⟩ = some (.func (.func 38) #[] #[]) := by simp [World.cell?, D4.out]
  go_cut [8] from 23 (fun s8 w' => ∃ v : Int, s8 = .int .i64 v ∧ Edited B2 w4.drew Nx x y (z) (adjustP (er ls) e) (.returned (.int .i64 v)) w')
  case first =>
    go_region_law (go_simp; (with_reducible refine DE.out.mono ?_); rintro en w5 ⟨v, rfl, hed⟩)
    all_goals
      go_wp2_with fail
      go_meet
      case rel => exact ⟨v, rfl, hed⟩
  case rest =>
    obtain ⟨v, rfl, hed⟩ := hcut
    have ZW := Lib.hid (show w.heap.size ≤ Z from by have := EE.out; omega)
    clear r5 r6 r5d r6d fk e0
    cases hr : adjustP (er ls) e with
    | error f =>
      rw [hr] at hed
      obtain ⟨hv, hk9⟩ := hed
      simp only [Ending.returned.injEq, Value.int.injEq, true_and] at hv
      subst hv
      have e1 : (v != 0) = true := by simpa using adjustP_err hr
      have RS := Lib.hid hr
      have K9 := Lib.hid (keeps_of_from K4.out.drew hk9 NB.out.2.2)
      have R9 := Lib.hid ((hk9.block Z (lt_of_block R4.out) (by have := NB.out; omega)).trans R4.out)
      obtain ⟨⟨r0, r1, r2, r3⟩, rf⟩ := four_cells R9.out
      have f0' := rf 0
      have f1' := rf 1
      have f2' := rf 2
      have f3' := rf 3
      clear rf hr hk9
      go_wp2_with fail
      refine bodyPost_ret (results_cell_row2 rfl _ _ Z 25 _ (0, 0) _ rfl (four_set R9.out _ _ _ _) Try.underlying25 rfl (by kernel_rfl)) rfl ?_
      exact Done.err RS.out (keeps_set4 K9.out ZW.out _ _ _ _)
    | ok lsP =>
      rw [hr] at hed
      obtain ⟨hv, h2, lsL, q1, q2, hk9⟩ := hed
      simp only [Ending.returned.injEq, Value.int.injEq, true_and] at hv
      subst hv
      have RS := Lib.hid hr
      have Q := Lib.hid (And.intro q1 q2)
      have K9 := Lib.hid (keeps_of_from K4.out.drew hk9 NB.out.2.2)
      have R9 := Lib.hid ((hk9.block Z (lt_of_block R4.out) (by have := NB.out; omega)).trans R4.out)
      obtain ⟨⟨r0, r1, r2, r3⟩, rf⟩ := four_cells R9.out
      have f0' := rf 0
      have f1' := rf 1
      have f2' := rf 2
      have f3' := rf 3
      have c0 := Dc.c0 (x := x) (y := y) (z := z) (h := h2) q2.doc
      have c1 := Dc.c1 (x := x) (y := y) (z := z) (h := h2) q2.doc
      have c2 := Dc.c2 (x := x) (y := y) (z := z) (h := h2) q2.doc
      have c3 := Dc.c3 (x := x) (y := y) (z := z) (h := h2) q2.doc
      clear rf hr hk9 q1 q2
      go_wp2_with fail
      refine bodyPost_ret (results_cell_row2 rfl _ _ Z 25 _ (0, 0) _ rfl (four_set R9.out _ _ _ _) Try.underlying25 rfl (by kernel_rfl)) rfl ?_
      refine Done.good RS.out Q.out.1 ?_ (keeps_set4 K9.out ZW.out _ _ _ _)
      have nd := Q.out.2.newD
      exact (nd.keep (keeps_at4 wc Z _ _ _ _) (fun b hb e => by have e' : b = Z := e; have := (nd.range b hb).1; have := NB.out; omega)).low NB.out.2.2
set_option maxRecDepth 100000 in
set_option maxHeartbeats 3200000 in
theorem doMask (x y z : Int) (h : Hd) (ls : List Loc) (e : PEd) (p s q : Hd) (w : World) (D : DocV w h ls) {z0 : Int} (G : Good z0 (er ls)) (SP : La.Pts w s.a s.n (e.shape.map ptOf) ∧ s.n ≤ 33554432) (hk : e.kind = 7) :
    Calls Try.prog 8 #[docV x y z h, edV e p s q] w fun en w' => Done w x y (z) (maskP (er ls) x y e) en w' := by
  have HD := Lib.hid D
  have HG := Lib.hid G
  have HZ := Lib.hid SP
  clear SP
  have C0 := Lib.hid (((Dc.new w x y z h).later ((Keeps.refl none' _).alloc (.cells (edCells e p s q).toArray 35))).later ((Keeps.refl none' _).alloc (.cells #[.int .i64 0, .int .i64 0, .int .i64 0, .slice none 0 0] 25)))
  have E0 := Lib.hid ((Eb.new (w.alloc (.cells #[.int .i64 x, .int .i64 y, .int .i64 z, .slice h.a h.n h.c] 25)) e p s q).later ((Keeps.refl none' _).alloc (.cells #[.int .i64 0, .int .i64 0, .int .i64 0, .slice none 0 0] 25)))
  have K0 := Lib.hid ((((Keeps.refl none' w).alloc (.cells #[.int .i64 x, .int .i64 y, .int .i64 z, .slice h.a h.n h.c] 25)).alloc (.cells (edCells e p s q).toArray 35)).alloc (.cells #[.int .i64 0, .int .i64 0, .int .i64 0, .slice none 0 0] 25))
  have R0 := Lib.hid (heap_alloc_new ((w.alloc (.cells #[.int .i64 x, .int .i64 y, .int .i64 z, .slice h.a h.n h.c] 25)).alloc (.cells (edCells e p s q).toArray 35)) (.cells #[.int .i64 0, .int .i64 0, .int .i64 0, .slice none 0 0] 25))
  have hs1 : (w.alloc (.cells #[.int .i64 x, .int .i64 y, .int .i64 z, .slice h.a h.n h.c] 25)).heap.size = w.heap.size + 1 := by simp
  have hs2 : ((w.alloc (.cells #[.int .i64 x, .int .i64 y, .int .i64 z, .slice h.a h.n h.c] 25)).alloc (.cells (edCells e p s q).toArray 35)).heap.size = w.heap.size + 1 + 1 := by simp
  rw [hs1] at E0
  rw [hs2] at R0
  clear hs1 hs2 D G
  unfold docV edV
  obtain ⟨EV, hEV⟩ : ∃ EV, EV = (edCells e p s q).toArray := ⟨_, rfl⟩
  rw [← hEV]
  rw [← hEV] at C0 E0 K0 R0
  have HEV := Lib.hid hEV
  have e0v := E0.out.c0
  rw [hk] at e0v
  clear hEV
  obtain ⟨Dk, hDk⟩ : ∃ Dk, Dk = w.heap.size := ⟨_, rfl⟩
  obtain ⟨E, hE⟩ : ∃ E, E = Dk + 1 := ⟨_, rfl⟩
  obtain ⟨Z, hZ⟩ : ∃ Z, Z = E + 1 := ⟨_, rfl⟩
  rw [← hDk] at C0
  rw [← hDk, ← hE] at E0 e0v
  rw [← hDk, ← hE, ← hZ] at R0
  have EE := Lib.hid (And.intro hDk (And.intro hE hZ))
  go_enter Try.func8, Try.ntmps8
  go_upto_region 1 with (fail)
  rw [← hDk, ← hE, ← hZ]
  clear hDk hE hZ
  generalize ((w.alloc (.cells #[.int .i64 x, .int .i64 y, .int .i64 z, .slice h.a h.n h.c] 25)).alloc (.cells EV 35)).alloc (.cells #[.int .i64 0, .int .i64 0, .int .i64 0, .slice none 0 0] 25) = w1 at *
  go_upto_region 2 with ((with_reducible refine (deeds17 w1).mono ?_); rintro en w2 ⟨rfl, f0, hw2⟩; have HW2 := Lib.hid hw2; clear hw2)
  have db := heap_alloc_new w1 (.cells #[f0, .func (.func 30) #[] #[], .func (.func 31) #[] #[], .func (.func 32) #[] #[], .func (.func 33) #[] #[], .func (.func 34) #[] #[], .func (.func 35) #[] #[], .func (.func 36) #[] #[], .func (.func 37) #[] #[], .func (.func 38) #[] #[]] 59)
  rw [← HW2.out] at db
  have DB := Lib.hid db
  have k12 : Keeps none' w1 w2 := by rw [HW2.out]; exact (Keeps.refl none' w1).alloc _
  clear db
  obtain ⟨DD, hDD⟩ : ∃ DD, DD = w1.heap.size := ⟨_, rfl⟩
  rw [← hDD] at DB
  rw [← hDD]
  clear hDD HW2
  have K2 := Lib.hid (K0.out.next k12)
  have C2 := Lib.hid (C0.out.later k12)
  have E2 := Lib.hid (E0.out.later k12)
  have R2 := Lib.hid ((k12.later Z (lt_of_block R0.out)).trans R0.out)
  have e0w := k12.cell e0v
  clear k12 C0 E0 K0 R0 e0v
  have c0 := C2.out.c0
  have c1 := C2.out.c1
  have c2 := C2.out.c2
  have c3 := C2.out.c3
  have cp := copied18 x y z h ls w2 (HD.out.later K2.out)
  unfold docV at cp
  have CP := Lib.hid cp
  clear cp
  go_upto_region 5 with ((with_reducible refine CP.out.mono ?_); rintro en w3 ⟨h', ls', rfl, hcp⟩; have CD := Lib.hid hcp; clear hcp)
  have ka := (Keeps.refl none' w3).alloc (.cells #[.int .i64 x, .int .i64 y, .int .i64 z, .slice h'.a h'.n h'.c] 25)
  have N4 := Lib.hid (Dc.new w3 x y z h')
  have K24 := Lib.hid (CD.out.keeps.next ka)
  have E4 := Lib.hid (E2.out.later K24.out)
  have R4 := Lib.hid ((K24.out.later Z (lt_of_block R2.out)).trans R2.out)
  have D4 := Lib.hid ((K24.out.later DD (lt_of_block DB.out)).trans DB.out)
  have e0 := K24.out.cell e0w
  have K4 := Lib.hid (K2.out.next K24.out)
  obtain ⟨Nx, hNx⟩ : ∃ Nx, Nx = w3.heap.size := ⟨_, rfl⟩
  have W4 := Lib.hid (show Whole w2.heap.size (w3.alloc (.cells #[.int .i64 x, .int .i64 y, .int .i64 z, .slice h'.a h'.n h'.c] 25)) Nx x y z h' ls' from by
    have hB : w2.heap.size ≤ w2.heap.size + 2 := by omega
    refine ⟨by rw [hNx]; exact N4.out, (CD.out.row.later ka).low hB, (CD.out.own.later ka).low hB, CD.out.nodup, fun hm => ?_⟩
    rcases List.mem_append.1 hm with hm | hm
    · have := (CD.out.row.range _ hm).2; omega
    · have := (CD.out.own.range _ hm).2; omega)
  obtain ⟨B2, hB2⟩ : ∃ B2, B2 = w2.heap.size := ⟨_, rfl⟩
  have NB := Lib.hid (show B2 ≤ Nx ∧ Z < B2 ∧ w.heap.size ≤ B2 from by rw [hNx, hB2]; exact ⟨CD.out.keeps.size, lt_of_block R2.out, K2.out.size⟩)
  rw [← hB2] at W4
  have SAME := Lib.hid CD.out.same
  rw [← hNx]
  clear hNx hB2 ka N4 c0 c1 c2 c3 CP CD K24 E2 R2 DB C2 K2 e0w
  generalize w3.alloc (.cells #[.int .i64 x, .int .i64 y, .int .i64 z, .slice h'.a h'.n h'.c] 25) = w4 at *
  have deed := mask36 B2 Nx x y z h' ls' e p s q w4.drew (W4.out.later ((Keeps.refl none' w4).drew)) (by rw [SAME.out]; exact HG.out) (Nat.le_of_lt (Nat.lt_of_le_of_lt NB.out.1 (lt_of_block W4.out.doc))) ⟨HZ.out.1.later (fun k hk => K4.out.drew.later k hk), HZ.out.2⟩
  unfold edV at deed
  rw [← HEV.out, SAME.out] at deed
  have DE := Lib.hid (show Calls Try.prog 36 #[.pointer (some ⟨Nx, 0, none⟩), .agg EV] w4.drew (fun en w' => ∃ v : Int, en = .returned (.int .i64 v) ∧ Edited B2 w4.drew Nx x y (z) (maskP (er ls) x y e) (.returned (.int .i64 v)) w') from deed.mono (fun _ _ h => h.val))
  clear deed
  have r5 : Row35 w4 E := E4.out.row.1
  have r6 : rowAt w4 E = EV := by rw [E4.out.row.2, HEV.out]
  have r5d : Row35 w4.drew E := r5
  have r6d : rowAt w4.drew E = EV := r6
  have fk : w4.cell? ⟨DD, 7, none⟩ = some (.func (.func 36) #[] #[]) := by simp [World.cell?, D4.out]
  go_cut [8] from 23 (fun s8 w' => ∃ v : Int, s8 = .int .i64 v ∧ Edited B2 w4.drew Nx x y (z) (maskP (er ls) x y e) (.returned (.int .i64 v)) w')
  case first =>
    go_region_law (go_simp; (with_reducible refine DE.out.mono ?_); rintro en w5 ⟨v, rfl, hed⟩)
    all_goals
      go_wp2_with fail
      go_meet
      case rel => exact ⟨v, rfl, hed⟩
  case rest =>
    obtain ⟨v, rfl, hed⟩ := hcut
    have ZW := Lib.hid (show w.heap.size ≤ Z from by have := EE.out; omega)
    clear r5 r6 r5d r6d fk e0
    cases hr : maskP (er ls) x y e with
    | error f =>
      rw [hr] at hed
      obtain ⟨hv, hk9⟩ := hed
      simp only [Ending.returned.injEq, Value.int.injEq, true_and] at hv
      subst hv
      have e1 : (v != 0) = true := by simpa using maskP_err hr
      have RS := Lib.hid hr
      have K9 := Lib.hid (keeps_of_from K4.out.drew hk9 NB.out.2.2)
      have R9 := Lib.hid ((hk9.block Z (lt_of_block R4.out) (by have := NB.out; omega)).trans R4.out)
      obtain ⟨⟨r0, r1, r2, r3⟩, rf⟩ := four_cells R9.out
      have f0' := rf 0
      have f1' := rf 1
      have f2' := rf 2
      have f3' := rf 3
      clear rf hr hk9
      go_wp2_with fail
      refine bodyPost_ret (results_cell_row2 rfl _ _ Z 25 _ (0, 0) _ rfl (four_set R9.out _ _ _ _) Try.underlying25 rfl (by kernel_rfl)) rfl ?_
      exact Done.err RS.out (keeps_set4 K9.out ZW.out _ _ _ _)
    | ok lsP =>
      rw [hr] at hed
      obtain ⟨hv, h2, lsL, q1, q2, hk9⟩ := hed
      simp only [Ending.returned.injEq, Value.int.injEq, true_and] at hv
      subst hv
      have RS := Lib.hid hr
      have Q := Lib.hid (And.intro q1 q2)
      have K9 := Lib.hid (keeps_of_from K4.out.drew hk9 NB.out.2.2)
      have R9 := Lib.hid ((hk9.block Z (lt_of_block R4.out) (by have := NB.out; omega)).trans R4.out)
      obtain ⟨⟨r0, r1, r2, r3⟩, rf⟩ := four_cells R9.out
      have f0' := rf 0
      have f1' := rf 1
      have f2' := rf 2
      have f3' := rf 3
      have c0 := Dc.c0 (x := x) (y := y) (z := z) (h := h2) q2.doc
      have c1 := Dc.c1 (x := x) (y := y) (z := z) (h := h2) q2.doc
      have c2 := Dc.c2 (x := x) (y := y) (z := z) (h := h2) q2.doc
      have c3 := Dc.c3 (x := x) (y := y) (z := z) (h := h2) q2.doc
      clear rf hr hk9 q1 q2
      go_wp2_with fail
      refine bodyPost_ret (results_cell_row2 rfl _ _ Z 25 _ (0, 0) _ rfl (four_set R9.out _ _ _ _) Try.underlying25 rfl (by kernel_rfl)) rfl ?_
      refine Done.good RS.out Q.out.1 ?_ (keeps_set4 K9.out ZW.out _ _ _ _)
      have nd := Q.out.2.newD
      exact (nd.keep (keeps_at4 wc Z _ _ _ _) (fun b hb e => by have e' : b = Z := e; have := (nd.range b hb).1; have := NB.out; omega)).low NB.out.2.2
end Go.Proofs.Ytfcpbpfemmdklaa

/- Edits whose lists may be empty without lying anywhere: painting (33), adjusting (38), Do with them. (printed by genZZB.py) -/
namespace Go.Proofs.Ytfcpbpfemmdklaa
open Go.RowKit Go.Lib
set_option linter.unusedSimpArgs false
set_option linter.unusedVariables false

/-- A row of whole numbers that may be read; or none, wherever it lies. -/
def RdW (w : World) (q : Hd) (l : List Int) : Prop := ReadR w 3 1 q (ints l) ∨ (q.n = 0 ∧ l = [] ∧ ∃ x, q.a = some x)
theorem RdW.keep {w w' : World} {q : Hd} {l : List Int} (h : RdW w q l) (k : Keeps none' w w') : RdW w' q l := by
  rcases h with h | h
  · exact .inl (h.keep k (fun _ _ h => h))
  · exact .inr h
set_option maxHeartbeats 800000 in
theorem clone_zero (x : Addr) (c : Nat) (w : World) :
    Calls Try.prog 41 #[(.slice (some x) 0 c)] w fun e w' => ∃ v', e = .returned v' ∧ w'.ownsRow w.heap.size 3 1 v' 0 [] ∧ Keeps none' w w' := by
  obtain ⟨i0, hi, hz0, hz1, hz2⟩ := info_parts info3
  have q := fun (w : World) (a : Option Addr) (n c n' c' : Nat) => Lib.run_eql_slice_nil (P := Try.prog) w 30 3 a n c n' c' Try.underlying30
  go_enter Try.func41, Try.ntmps41
  go_wp2_with (at_builtin; refine wpList_append_own _ rfl _ _ 30 rfl w.heap.size 3 i0 _ 1 8 Try.underlying30 hi hz0 hz1 hz2 (by decide) (by decide) _ _ _ rfl (World.ownsRow_made w #[] 0 (Nat.le_refl _) (Nat.zero_le _) (by simp)) x 0 c [] rfl ?qc1 ?qc2 ?qc3 ?qc4 ?qc5 ?qc6 ?_)
  case qc1 => rfl
  case qc2 => intro j u hj; simp at hj
  case qc3 => intro u hu; cases hu
  case qc4 => unfold maxLen; omega
  case qc5 => omega
  case qc6 => simp
  intro v' w1 hown hgrow hnil
  have K := Lib.hid (Keeps.grown ((Keeps.refl none' w).alloc (.cells #[] 3)) hgrow (fun q hq e => by simp [Value.ownBlock] at e; omega))
  go_wp2_with fail
  go_ret
  exact ⟨v', rfl, by simpa using hown, K.out⟩
theorem clone_w (q : Hd) (l : List Int) (w : World) (D : RdW w q l) :
    Calls Try.prog 41 #[(.slice q.a q.n q.c)] w fun e w' => ∃ q1 : Hd, e = .returned (.slice q1.a q1.n q1.c) ∧ OwnR w.heap.size w' 3 1 q1 (ints l) ∧ Keeps none' w w' := by
  rcases D with D | ⟨h1, rfl, x, h2⟩
  · refine (clone_ints q (ints l) w D.1 D.2).mono ?_
    rintro en w' ⟨v', rfl, hv, hk⟩
    obtain ⟨q1, rfl, ho⟩ := clone_own hv (ints_one _) D.2
    exact ⟨q1, rfl, ho, hk⟩
  · rw [h1, h2]
    refine (clone_zero x q.c w).mono ?_
    rintro en w' ⟨v', rfl, hv, hk⟩
    obtain ⟨q1, rfl, ho⟩ := clone_own hv (ints_one []) (by omega)
    exact ⟨q1, rfl, ho, hk⟩
theorem pi_w {w : World} {q : Hd} {l : List Int} (D : RdW w q l) (b : In64 l) : Pi.Ints w q.a q.n l := by
  rcases D with D | ⟨h1, rfl, -⟩
  · exact pi_ints D b
  · rw [h1]
    exact ⟨rfl, b, fun h => by omega⟩
set_option maxHeartbeats 400000 in
theorem tableW60 (n : Int) (q : Hd) (l : List Int) (w : World) (D : RdW w q l) (b : In64 l) (hn : q.n ≤ 16777216) (hc : q.n ≤ q.c) :
    Calls Try.prog 60 #[.int .i64 n, .slice q.a q.n q.c] w fun en w' => en = .returned (.bool (tabB n l)) ∧ Keeps none' w w' := by
  have P := pi_w D b
  cases ht : tabB n l with
  | false =>
    have C := Lib.hid (Pi.table_no w q.a q.n q.c l hn P n (fun h => by rw [tabB_true.2 h] at ht; cases ht))
    clear P D b ht
    go_enter Try.func60, Try.ntmps60
    go_wp2_with ((with_reducible refine C.out.mono ?_); rintro en w2 ⟨rfl, hk⟩; have K := Lib.hid (pi_keeps hk); clear hk)
    go_ret
    exact ⟨rfl, K.out⟩
  | true =>
    have C := Lib.hid (Pi.table_yes w q.a q.n q.c l hn hc P n (tabB_true.1 ht))
    clear P D b ht
    go_enter Try.func60, Try.ntmps60
    go_wp2_with ((with_reducible refine C.out.mono ?_); rintro en w2 ⟨T, rfl, ht, hk, hT⟩; have K := Lib.hid (pi_keeps hk); clear hk ht hT)
    go_ret
    exact ⟨rfl, K.out⟩
theorem form_nil {w h : Int} {n : Nat} (hn : n = 0) (X : Int) (hX : sideP w = true → sideP h = true → X = w * h) :
    formP w h [] = false ∧ (sideP w = false ∨ (sideP w = true ∧ sideP h = false) ∨ (sideP w = true ∧ sideP h = true ∧ ((n : Int) != X) = true)) := by
  cases h1 : sideP w with
  | false => exact ⟨by simp [formP, h1], .inl rfl⟩
  | true =>
    cases h2 : sideP h with
    | false => exact ⟨by simp [formP, h1, h2], .inr (.inl ⟨rfl, rfl⟩)⟩
    | true =>
      have e := hX h1 h2
      subst e
      have p1 : 1 ≤ w := by simp [sideP] at h1; omega
      have p2 : 1 ≤ h := by simp [sideP] at h2; omega
      have p3 : 1 ≤ w * h := by
        have := Int.mul_le_mul p1 p2 (by omega) (by omega)
        omega
      refine ⟨?_, .inr (.inr ⟨rfl, rfl, ?_⟩)⟩
      · have : decide ((([] : List Int).length : Int) = w * h) = false := by simp; omega
        simp only [formP, this, Bool.false_and, Bool.and_false]
      · subst hn
        simp
        omega
/-- What painting answers, by the edit. -/
def paintE (ls : List Lay) (e : PEd) : Except Int (List Lay) := paintP ls e.id e.x e.y e.w e.h e.p
set_option maxRecDepth 100000 in
set_option maxHeartbeats 3200000 in
theorem adjustw_yes (B R : Nat) (x y z : Int) (e : PEd) (p s q : Hd) (w : World) (C : List Frm) (h' : Hd) (pre post : List Loc) (d : Dat) (lp lm lq lk : Hd) (kids : List Loc)
    (W : Whole B w R x y z (plugH C h') (plugL C h' (pre ++ .mk d lp lm lq lk kids :: post))) (hB : B ≤ w.heap.size) {z0 : Int} (G : Good z0 (er (plugL C h' (pre ++ .mk d lp lm lq lk kids :: post))))
    (QP0 : RdW w q e.pars ∧ In64 e.pars ∧ q.n ≤ 16777216 ∧ q.n ≤ q.c) (hk : d.kind = 2) (h0 : e.id ≠ 0) (kv : kindV e.id 2 (sps 0 R 3 0 (plugH C h').b (plugH C h').o 0 (plugL C h' (pre ++ .mk d lp lm lq lk kids :: post))) = (some ⟨h'.b, h'.o + pre.length * 19, none⟩, 0))
    (hf : fnd e.id (er (plugL C h' (pre ++ .mk d lp lm lq lk kids :: post))) = some ⟨C.map Frm.er, er pre, d, er kids, er post⟩) :
    Calls Try.prog 38 #[.pointer (some ⟨R, 0, none⟩), edV e p s q] w fun en w' => Edited B w R x y z (adjustP (er (plugL C h' (pre ++ .mk d lp lm lq lk kids :: post))) e) en w' := by
  have QP := Lib.hid QP0
  have HC : cnt (plugL C h' (pre ++ .mk d lp lm lq lk kids :: post)) ≤ 4096 := by rw [cnt_eq]; exact G.cnt
  have HW := Lib.hid W
  have HF := Lib.hid hf
  have E0 := Lib.hid (Eb.new w e p s q)
  have K0 := Lib.hid ((Keeps.refl none' w).alloc (.cells (edCells e p s q).toArray 35))
  have KD := kind53 R x y z (plugH C h') _ e.id 2 (w.alloc (.cells (edCells e p s q).toArray 35)) (W.later K0.out).doc ((W.later K0.out).docV) (by omega)
  rw [kv] at KD
  have KN := Lib.hid KD
  have HB := Lib.hid hB
  have LS := Lib.hid (lay_spot W)
  have HK := Lib.hid (And.intro hk h0)
  clear W G kv hf KD HC hB hk h0 QP0
  unfold edV
  obtain ⟨EV, hEV⟩ : ∃ EV, EV = (edCells e p s q).toArray := ⟨_, rfl⟩
  rw [← hEV]
  rw [← hEV] at E0 K0 KN
  clear hEV
  obtain ⟨RES, hRES⟩ : ∃ RES, RES = adjustP (er (plugL C h' (pre ++ .mk d lp lm lq lk kids :: post))) e := ⟨_, rfl⟩
  rw [← hRES]
  have HS := Lib.hid hRES
  clear hRES
  obtain ⟨LO, hLO⟩ : ∃ LO, LO = h'.o + pre.length * 19 := ⟨_, rfl⟩
  rw [← hLO] at KN
  have HLO := Lib.hid hLO
  clear hLO
  obtain ⟨LB, hLB⟩ : ∃ LB, LB = h'.b := ⟨_, rfl⟩
  rw [← hLB] at KN
  have HLB := Lib.hid hLB
  clear hLB
  go_enter Try.func38, Try.ntmps38
  go_upto_region 1 with (fail)
  generalize w.alloc (.cells EV 35) = w1 at *
  obtain ⟨E, hE⟩ : ∃ E, E = w.heap.size := ⟨_, rfl⟩
  rw [← hE] at E0
  rw [← hE]
  have HE := Lib.hid hE
  clear hE
  have e1 := E0.out.c1
  go_upto_region 4 with ((with_reducible refine KN.out.mono ?_); rintro en w2 ⟨rfl, hk⟩; have K2 := Lib.hid (K0.out.next hk); have E2 := Lib.hid (E0.out.later hk); have K12 := Lib.hid hk; clear hk)
  clear e1 KN E0 K0
  have L2 := Lib.hid (LS.out.later K2.out)
  have e4 := E2.out.c4
  have e5 := E2.out.c5
  have nE : LB ≠ E := by
    have h1 := LS.out.lt
    rw [HLB.out, HE.out]
    omega
  have nE' : E ≠ LB := fun h => nE h.symm
  clear e5
  have e18 := E2.out.c18
  have U1 := Lib.hid (tableW60 e.n q e.pars w2 (QP.out.1.keep K2.out) QP.out.2.1 QP.out.2.2.1 QP.out.2.2.2)
  cases u1 : tabB e.n e.pars with
  | false =>
    have ER := Lib.hid (show RES = .error 32 from by
      rw [HS.out]
      unfold adjustP
      rw [if_neg HK.out.2, HF.out]
      simp only [show d.kind = 2 from HK.out.1, u1, if_true])
    rw [u1] at U1
    clear u1
    go_wp2_with ((with_reducible refine U1.out.mono ?_); rintro en w3 ⟨rfl, hk⟩; have K3 := Lib.hid (K2.out.next hk); clear hk)
    go_ret
    exact Edited.err ER.out K3.out
  | true =>
  have ER := Lib.hid (show RES = .ok (plugP (C.map Frm.er) (er pre ++ .mk (setTab d e.n e.pars) (er kids) :: er post)) from by
    rw [HS.out]
    unfold adjustP
    rw [if_neg HK.out.2, HF.out]
    simp only [show d.kind = 2 from HK.out.1, u1, if_true]
    rfl)
  rw [u1] at U1
  clear u1
  go_upto_region 6 with ((with_reducible refine U1.out.mono ?_); rintro en w3 ⟨rfl, hk⟩; have K3 := Lib.hid (K2.out.next hk); have E3 := Lib.hid (E2.out.later hk); clear hk)
  have L3 := Lib.hid (LS.out.later K3.out)
  clear e4 e18 E2 L2 U1
  have e4 := E3.out.c4
  have e18 := E3.out.c18
  have x16 : w3.cell? ⟨LB, LO + 16, none⟩ = some (.int .i64 d.table) := by rw [HLB.out, HLO.out]; exact L3.out.cell 16 _ rfl
  have x17 : w3.cell? ⟨LB, LO + 17, none⟩ = some (.slice lq.a lq.n lq.c) := by rw [HLB.out, HLO.out]; exact L3.out.cell 17 _ rfl
  have f16 : w3.frozen? ⟨LB, LO + 16, none⟩ = false := by rw [HLB.out]; exact L3.out.fr _
  have f17 : w3.frozen? ⟨LB, LO + 17, none⟩ = false := by rw [HLB.out]; exact L3.out.fr _
  have DE := Lib.hid (show Calls Try.prog 41 #[.slice q.a q.n q.c] w3.drew (fun en w' => ∃ q1 : Hd, en = .returned (.slice q1.a q1.n q1.c) ∧ OwnR w3.heap.size w' 3 1 q1 (ints e.pars) ∧ Keeps none' w3 w' ∧ w'.cell? ⟨E, 4, none⟩ = some (.int .i64 e.n) ∧ w'.cell? ⟨E, 18, none⟩ = some (.slice q.a q.n q.c) ∧ w'.cell? ⟨LB, LO + 16, none⟩ = some (.int .i64 d.table) ∧ w'.cell? ⟨LB, LO + 17, none⟩ = some (.slice lq.a lq.n lq.c) ∧ w'.frozen? ⟨LB, LO + 16, none⟩ = false ∧ w'.frozen? ⟨LB, LO + 17, none⟩ = false) from by
    refine (clone_w q e.pars w3.drew (QP.out.1.keep K3.out.drew)).mono ?_
    rintro en w' ⟨q1, rfl, ho, hk⟩
    have k : Keeps none' w3 w' := (Keeps.refl none' w3).drew.next hk
    have L := L3.out.later k
    refine ⟨q1, rfl, ho, k, k.cell e4, k.cell e18, k.cell x16, k.cell x17, ?_, ?_⟩
    · rw [HLB.out]; exact L.fr _
    · rw [HLB.out]; exact L.fr _)
  go_region_law (go_simp; (with_reducible refine DE.out.mono ?_); rintro en w5 ⟨q1, rfl, ho, k5, g4, g18, y16, y17, z16, z17⟩)
  all_goals go_wp2_with fail
  all_goals go_ret
  all_goals
    obtain ⟨wa, ka⟩ := turn2 (d1 := { d with table := e.n }) (d' := setTab d e.n e.pars) (m' := lm) (q' := q1) (j1 := 16) (j2 := 17) (u1 := .int .i64 e.n) (u2 := .slice q1.a q1.n q1.c) HW.out (K3.out.next k5) (by omega) (by omega) rfl rfl rfl rfl rfl (.inl ⟨rfl, rfl⟩) (.inr (ho.low K3.out.size)) (.inl rfl) HB.out
    rw [← HLB.out, ← HLO.out] at wa ka
    exact Edited.good ER.out (by rw [er_plug, er_append, er_cons]; rfl) wa (keeps_weak ka (fun q _ e => by have h1 := LS.out.low; rw [← HLB.out] at h1; have e' : q = LB := e; omega))
theorem adjustw38 (B R : Nat) (x y z : Int) (h : Hd) (ls : List Loc) (e : PEd) (p s q : Hd) (w : World) (W : Whole B w R x y z h ls) {z0 : Int} (G : Good z0 (er ls)) (hB : B ≤ w.heap.size) (QP0 : RdW w q e.pars ∧ In64 e.pars ∧ q.n ≤ 16777216 ∧ q.n ≤ q.c) :
    Calls Try.prog 38 #[.pointer (some ⟨R, 0, none⟩), edV e p s q] w fun en w' => Edited B w R x y z (adjustP (er ls) e) en w' := by
  rcases kind_lay e.id 2 R h ls with ⟨f, f0, kv, hf⟩ | ⟨C, pre, l, post, h', h0, a1, a2, a3, hk, a4⟩
  · refine adjust_no B R x y z h ls e p s q w W G f0 kv ?_
    unfold adjustP
    rcases hf with ⟨h1, h2⟩ | ⟨h1, h2, h3⟩ | ⟨h1, h2, r, h3, h4⟩
    · rw [if_pos h1, h2]
    · rw [if_neg h1, h2, h3]
    · rw [if_neg h1, h3, h2]
      simp only [if_neg h4]
  · obtain ⟨d, lp, lm, lq, lk, kids⟩ := l
    subst a2 a3
    exact adjustw_yes B R x y z e p s q w C h' pre post d lp lm lq lk kids W hB G QP0 hk h0 a4 a1
set_option maxRecDepth 100000 in
set_option maxHeartbeats 3200000 in
theorem paintz_no (B R : Nat) (x y z : Int) (h : Hd) (ls : List Loc) (e : PEd) (p s q : Hd) (w : World) (W : Whole B w R x y z h ls) {z0 : Int} (G : Good z0 (er ls)) {f : Int} (f0 : f ≠ 0) (kv : kindV e.id 0 (sps 0 R 3 0 h.b h.o 0 ls) = (none, f)) (pe : paintE (er ls) e = .error f) :
    Calls Try.prog 33 #[.pointer (some ⟨R, 0, none⟩), edV e p s q] w fun en w' => Edited B w R x y z (paintE (er ls) e) en w' := by
  have A := Lib.hid pe
  have HC : cnt ls ≤ 4096 := by rw [cnt_eq]; exact G.cnt
  have E0 := Lib.hid (Eb.new w e p s q)
  have K0 := Lib.hid ((Keeps.refl none' w).alloc (.cells (edCells e p s q).toArray 35))
  have KD := kind53 R x y z h ls e.id 0 (w.alloc (.cells (edCells e p s q).toArray 35)) (W.later K0.out).doc ((W.later K0.out).docV) (by omega)
  rw [kv] at KD
  have KN := Lib.hid KD
  have f1 : (f != 0) = true := by simpa using f0
  clear W G kv pe f0 KD HC
  unfold edV
  obtain ⟨EV, hEV⟩ : ∃ EV, EV = (edCells e p s q).toArray := ⟨_, rfl⟩
  rw [← hEV]
  rw [← hEV] at E0 K0 KN
  clear hEV
  go_enter Try.func33, Try.ntmps33
  go_upto_region 1 with (fail)
  generalize w.alloc (.cells EV 35) = w1 at *
  obtain ⟨E, hE⟩ : ∃ E, E = w.heap.size := ⟨_, rfl⟩
  rw [← hE] at E0
  rw [← hE]
  clear hE
  have e1 := E0.out.c1
  go_wp2_with ((with_reducible refine KN.out.mono ?_); rintro en w2 ⟨rfl, hk⟩; have K2 := Lib.hid (K0.out.next hk); clear hk)
  go_ret
  exact Edited.err A.out K2.out
set_option maxRecDepth 100000 in
set_option maxHeartbeats 3200000 in
theorem paintz_yes (B R : Nat) (x y z : Int) (e : PEd) (p s q : Hd) (w : World) (C : List Frm) (h' : Hd) (pre post : List Loc) (d : Dat) (lp lm lq lk : Hd) (kids : List Loc)
    (W : Whole B w R x y z (plugH C h') (plugL C h' (pre ++ .mk d lp lm lq lk kids :: post))) (hB : B ≤ w.heap.size) {z0 : Int} (G : Good z0 (er (plugL C h' (pre ++ .mk d lp lm lq lk kids :: post))))
    (hz : p.n = 0 ∧ e.p = []) (hk : d.kind = 0) (h0 : e.id ≠ 0) (kv : kindV e.id 0 (sps 0 R 3 0 (plugH C h').b (plugH C h').o 0 (plugL C h' (pre ++ .mk d lp lm lq lk kids :: post))) = (some ⟨h'.b, h'.o + pre.length * 19, none⟩, 0))
    (hf : fnd e.id (er (plugL C h' (pre ++ .mk d lp lm lq lk kids :: post))) = some ⟨C.map Frm.er, er pre, d, er kids, er post⟩) :
    Calls Try.prog 33 #[.pointer (some ⟨R, 0, none⟩), edV e p s q] w fun en w' => Edited B w R x y z (paintE (er (plugL C h' (pre ++ .mk d lp lm lq lk kids :: post))) e) en w' := by
  have HZ := Lib.hid hz
  have HC : cnt (plugL C h' (pre ++ .mk d lp lm lq lk kids :: post)) ≤ 4096 := by rw [cnt_eq]; exact G.cnt
  have HW := Lib.hid W
  have HF := Lib.hid hf
  have E0 := Lib.hid (Eb.new w e p s q)
  have K0 := Lib.hid ((Keeps.refl none' w).alloc (.cells (edCells e p s q).toArray 35))
  have KD := kind53 R x y z (plugH C h') _ e.id 0 (w.alloc (.cells (edCells e p s q).toArray 35)) (W.later K0.out).doc ((W.later K0.out).docV) (by omega)
  rw [kv] at KD
  have KN := Lib.hid KD
  have HB := Lib.hid hB
  have LS := Lib.hid (lay_spot W)
  have HK := Lib.hid (And.intro hk h0)
  clear W G kv hf KD HC hB hk h0 hz
  unfold edV
  obtain ⟨EV, hEV⟩ : ∃ EV, EV = (edCells e p s q).toArray := ⟨_, rfl⟩
  rw [← hEV]
  rw [← hEV] at E0 K0 KN
  clear hEV
  obtain ⟨RES, hRES⟩ : ∃ RES, RES = paintE (er (plugL C h' (pre ++ .mk d lp lm lq lk kids :: post))) e := ⟨_, rfl⟩
  rw [← hRES]
  have HS := Lib.hid hRES
  clear hRES
  obtain ⟨LO, hLO⟩ : ∃ LO, LO = h'.o + pre.length * 19 := ⟨_, rfl⟩
  rw [← hLO] at KN
  have HLO := Lib.hid hLO
  clear hLO
  obtain ⟨LB, hLB⟩ : ∃ LB, LB = h'.b := ⟨_, rfl⟩
  rw [← hLB] at KN
  have HLB := Lib.hid hLB
  clear hLB
  go_enter Try.func33, Try.ntmps33
  go_upto_region 1 with (fail)
  generalize w.alloc (.cells EV 35) = w1 at *
  obtain ⟨E, hE⟩ : ∃ E, E = w.heap.size := ⟨_, rfl⟩
  rw [← hE] at E0
  rw [← hE]
  have HE := Lib.hid hE
  clear hE
  have e1 := E0.out.c1
  go_upto_region 4 with ((with_reducible refine KN.out.mono ?_); rintro en w2 ⟨rfl, hk⟩; have K2 := Lib.hid (K0.out.next hk); have E2 := Lib.hid (E0.out.later hk); have K12 := Lib.hid hk; clear hk)
  clear e1 KN E0 K0
  have L2 := Lib.hid (LS.out.later K2.out)
  have e4 := E2.out.c4
  have e5 := E2.out.c5
  have nE : LB ≠ E := by
    have h1 := LS.out.lt
    rw [HLB.out, HE.out]
    omega
  have nE' : E ≠ LB := fun h => nE h.symm
  clear e4 e5
  have e8 := E2.out.c8
  have e9 := E2.out.c9
  have e10 := E2.out.c10
  obtain ⟨fn, hc⟩ := form_nil (w := e.w) (h := e.h) (n := p.n) HZ.out.1 (wrap64 (e.w * e.h)) (fun a b => side_mul a b)
  have ER := Lib.hid (show RES = .error 25 from by
    rw [HS.out]
    unfold paintE paintP
    rw [if_neg HK.out.2, HF.out, HZ.out.2]
    simp only [show d.kind = 0 from HK.out.1, fn, if_true])
  have S1 := Lib.hid (fun w' => side29 e.w w')
  have S2 := Lib.hid (fun w' => side29 e.h w')
  clear fn
  rcases hc with c1 | ⟨c1, c2⟩ | ⟨c1, c2, c3⟩
  · rw [c1] at S1
    clear c1
    go_wp2_with ((with_reducible refine (S1.out _).mono ?_); rintro en w3 ⟨rfl, hw⟩; subst hw)
    go_ret
    exact Edited.err ER.out K2.out
  · rw [c1] at S1
    rw [c2] at S2
    clear c1 c2
    go_wp2_with (first
      | ((with_reducible refine (S1.out _).mono ?_); rintro en w3 ⟨rfl, hw⟩; subst hw)
      | ((with_reducible refine (S2.out _).mono ?_); rintro en w3 ⟨rfl, hw⟩; subst hw))
    go_ret
    exact Edited.err ER.out K2.out
  · rw [c1] at S1
    rw [c2] at S2
    clear c1 c2
    go_wp2_with (first
      | ((with_reducible refine (S1.out _).mono ?_); rintro en w3 ⟨rfl, hw⟩; subst hw)
      | ((with_reducible refine (S2.out _).mono ?_); rintro en w3 ⟨rfl, hw⟩; subst hw))
    go_ret
    exact Edited.err ER.out K2.out
theorem paintz33 (B R : Nat) (x y z : Int) (h : Hd) (ls : List Loc) (e : PEd) (p s q : Hd) (w : World) (W : Whole B w R x y z h ls) {z0 : Int} (G : Good z0 (er ls)) (hB : B ≤ w.heap.size) (hz : p.n = 0 ∧ e.p = []) :
    Calls Try.prog 33 #[.pointer (some ⟨R, 0, none⟩), edV e p s q] w fun en w' => Edited B w R x y z (paintE (er ls) e) en w' := by
  rcases kind_lay e.id 0 R h ls with ⟨f, f0, kv, hf⟩ | ⟨C, pre, l, post, h', h0, a1, a2, a3, hk, a4⟩
  · refine paintz_no B R x y z h ls e p s q w W G f0 kv ?_
    unfold paintE paintP
    rcases hf with ⟨h1, h2⟩ | ⟨h1, h2, h3⟩ | ⟨h1, h2, r, h3, h4⟩
    · rw [if_pos h1, h2]
    · rw [if_neg h1, h2, h3]
    · rw [if_neg h1, h3, h2]
      simp only [if_neg h4]
  · obtain ⟨d, lp, lm, lq, lk, kids⟩ := l
    subst a2 a3
    exact paintz_yes B R x y z e p s q w C h' pre post d lp lm lq lk kids W hB G hz hk h0 a4 a1
/-- Painting, whatever the row of pixels is. -/
theorem paintw33 (B R : Nat) (x y z : Int) (h : Hd) (ls : List Loc) (e : PEd) (p s q : Hd) (w : World) (W : Whole B w R x y z h ls) {z0 : Int} (G : Good z0 (er ls)) (hB : B ≤ w.heap.size) (PR : (ReadR w 3 1 p (ints e.p) ∧ ∀ u, p.a = some u → u.block < B) ∨ (p.n = 0 ∧ e.p = []))
    (hw : ∀ r, fnd e.id (er ls) = some r → r.d.kind = 0 → 0 ≤ r.d.w ∧ r.d.w ≤ 32768) :
    Calls Try.prog 33 #[.pointer (some ⟨R, 0, none⟩), edV e p s q] w fun en w' => Edited B w R x y z (paintE (er ls) e) en w' := by
  rcases PR with ⟨D, PB⟩ | ⟨h1, h2⟩
  · exact paint33 B R x y z h ls e p s q w W G hB D PB hw
  · exact paintz33 B R x y z h ls e p s q w W G hB ⟨h1, h2⟩
theorem paintE_err {ls : List Lay} {e : PEd} {f : Int} (h : paintE ls e = .error f) : f ≠ 0 := paintP_err h
attribute [local go_sem ↓] ldx35
attribute [local go_sem] ptrBlock_some aggCells_agg
set_option maxRecDepth 100000 in
set_option maxHeartbeats 3200000 in
theorem doPaintW (x y z : Int) (h : Hd) (ls : List Loc) (e : PEd) (p s q : Hd) (w : World) (D : DocV w h ls) {z0 : Int} (G : Good z0 (er ls)) (PR : RdW w p e.p) (hw : ∀ r, fnd e.id (er ls) = some r → r.d.kind = 0 → 0 ≤ r.d.w ∧ r.d.w ≤ 32768) (hk : e.kind = 4) :
    Calls Try.prog 8 #[docV x y z h, edV e p s q] w fun en w' => Done w x y (z) (paintE (er ls) e) en w' := by
  have HD := Lib.hid D
  have HG := Lib.hid G
  have HZ := Lib.hid (And.intro PR hw)
  clear PR hw
  have C0 := Lib.hid (((Dc.new w x y z h).later ((Keeps.refl none' _).alloc (.cells (edCells e p s q).toArray 35))).later ((Keeps.refl none' _).alloc (.cells #[.int .i64 0, .int .i64 0, .int .i64 0, .slice none 0 0] 25)))
  have E0 := Lib.hid ((Eb.new (w.alloc (.cells #[.int .i64 x, .int .i64 y, .int .i64 z, .slice h.a h.n h.c] 25)) e p s q).later ((Keeps.refl none' _).alloc (.cells #[.int .i64 0, .int .i64 0, .int .i64 0, .slice none 0 0] 25)))
  have K0 := Lib.hid ((((Keeps.refl none' w).alloc (.cells #[.int .i64 x, .int .i64 y, .int .i64 z, .slice h.a h.n h.c] 25)).alloc (.cells (edCells e p s q).toArray 35)).alloc (.cells #[.int .i64 0, .int .i64 0, .int .i64 0, .slice none 0 0] 25))
  have R0 := Lib.hid (heap_alloc_new ((w.alloc (.cells #[.int .i64 x, .int .i64 y, .int .i64 z, .slice h.a h.n h.c] 25)).alloc (.cells (edCells e p s q).toArray 35)) (.cells #[.int .i64 0, .int .i64 0, .int .i64 0, .slice none 0 0] 25))
  have hs1 : (w.alloc (.cells #[.int .i64 x, .int .i64 y, .int .i64 z, .slice h.a h.n h.c] 25)).heap.size = w.heap.size + 1 := by simp
  have hs2 : ((w.alloc (.cells #[.int .i64 x, .int .i64 y, .int .i64 z, .slice h.a h.n h.c] 25)).alloc (.cells (edCells e p s q).toArray 35)).heap.size = w.heap.size + 1 + 1 := by simp
  rw [hs1] at E0
  rw [hs2] at R0
  clear hs1 hs2 D G
  unfold docV edV
  obtain ⟨EV, hEV⟩ : ∃ EV, EV = (edCells e p s q).toArray := ⟨_, rfl⟩
  rw [← hEV]
  rw [← hEV] at C0 E0 K0 R0
  have HEV := Lib.hid hEV
  have e0v := E0.out.c0
  rw [hk] at e0v
  clear hEV
  obtain ⟨Dk, hDk⟩ : ∃ Dk, Dk = w.heap.size := ⟨_, rfl⟩
  obtain ⟨E, hE⟩ : ∃ E, E = Dk + 1 := ⟨_, rfl⟩
  obtain ⟨Z, hZ⟩ : ∃ Z, Z = E + 1 := ⟨_, rfl⟩
  rw [← hDk] at C0
  rw [← hDk, ← hE] at E0 e0v
  rw [← hDk, ← hE, ← hZ] at R0
  have EE := Lib.hid (And.intro hDk (And.intro hE hZ))
  go_enter Try.func8, Try.ntmps8
  go_upto_region 1 with (fail)
  rw [← hDk, ← hE, ← hZ]
  clear hDk hE hZ
  generalize ((w.alloc (.cells #[.int .i64 x, .int .i64 y, .int .i64 z, .slice h.a h.n h.c] 25)).alloc (.cells EV 35)).alloc (.cells #[.int .i64 0, .int .i64 0, .int .i64 0, .slice none 0 0] 25) = w1 at *
  go_upto_region 2 with ((with_reducible refine (deeds17 w1).mono ?_); rintro en w2 ⟨rfl, f0, hw2⟩; have HW2 := Lib.hid hw2; clear hw2)
  have db := heap_alloc_new w1 (.cells #[f0, .func (.func 30) #[] #[], .func (.func 31) #[] #[], .func (.func 32) #[] #[], .func (.func 33) #[] #[], .func (.func 34) #[] #[], .func (.func 35) #[] #[], .func (.func 36) #[] #[], .func (.func 37) #[] #[], .func (.func 38) #[] #[]] 59)
  rw [← HW2.out] at db
  have DB := Lib.hid db
  have k12 : Keeps none' w1 w2 := by rw [HW2.out]; exact (Keeps.refl none' w1).alloc _
  clear db
  obtain ⟨DD, hDD⟩ : ∃ DD, DD = w1.heap.size := ⟨_, rfl⟩
  rw [← hDD] at DB
  rw [← hDD]
  clear hDD HW2
  have K2 := Lib.hid (K0.out.next k12)
  have C2 := Lib.hid (C0.out.later k12)
  have E2 := Lib.hid (E0.out.later k12)
  have R2 := Lib.hid ((k12.later Z (lt_of_block R0.out)).trans R0.out)
  have e0w := k12.cell e0v
  clear k12 C0 E0 K0 R0 e0v
  have c0 := C2.out.c0
  have c1 := C2.out.c1
  have c2 := C2.out.c2
  have c3 := C2.out.c3
  have cp := copied18 x y z h ls w2 (HD.out.later K2.out)
  unfold docV at cp
  have CP := Lib.hid cp
  clear cp
  go_upto_region 5 with ((with_reducible refine CP.out.mono ?_); rintro en w3 ⟨h', ls', rfl, hcp⟩; have CD := Lib.hid hcp; clear hcp)
  have ka := (Keeps.refl none' w3).alloc (.cells #[.int .i64 x, .int .i64 y, .int .i64 z, .slice h'.a h'.n h'.c] 25)
  have N4 := Lib.hid (Dc.new w3 x y z h')
  have K24 := Lib.hid (CD.out.keeps.next ka)
  have E4 := Lib.hid (E2.out.later K24.out)
  have R4 := Lib.hid ((K24.out.later Z (lt_of_block R2.out)).trans R2.out)
  have D4 := Lib.hid ((K24.out.later DD (lt_of_block DB.out)).trans DB.out)
  have e0 := K24.out.cell e0w
  have K4 := Lib.hid (K2.out.next K24.out)
  obtain ⟨Nx, hNx⟩ : ∃ Nx, Nx = w3.heap.size := ⟨_, rfl⟩
  have W4 := Lib.hid (show Whole w2.heap.size (w3.alloc (.cells #[.int .i64 x, .int .i64 y, .int .i64 z, .slice h'.a h'.n h'.c] 25)) Nx x y z h' ls' from by
    have hB : w2.heap.size ≤ w2.heap.size + 2 := by omega
    refine ⟨by rw [hNx]; exact N4.out, (CD.out.row.later ka).low hB, (CD.out.own.later ka).low hB, CD.out.nodup, fun hm => ?_⟩
    rcases List.mem_append.1 hm with hm | hm
    · have := (CD.out.row.range _ hm).2; omega
    · have := (CD.out.own.range _ hm).2; omega)
  obtain ⟨B2, hB2⟩ : ∃ B2, B2 = w2.heap.size := ⟨_, rfl⟩
  have NB := Lib.hid (show B2 ≤ Nx ∧ Z < B2 ∧ w.heap.size ≤ B2 from by rw [hNx, hB2]; exact ⟨CD.out.keeps.size, lt_of_block R2.out, K2.out.size⟩)
  rw [← hB2] at W4
  have SAME := Lib.hid CD.out.same
  rw [← hNx]
  clear hNx hB2 ka N4 c0 c1 c2 c3 CP CD K24 E2 R2 DB C2 K2 e0w
  generalize w3.alloc (.cells #[.int .i64 x, .int .i64 y, .int .i64 z, .slice h'.a h'.n h'.c] 25) = w4 at *
  have deed := paintw33 B2 Nx x y z h' ls' e p s q w4.drew (W4.out.later ((Keeps.refl none' w4).drew)) (by rw [SAME.out]; exact HG.out) (Nat.le_of_lt (Nat.lt_of_le_of_lt NB.out.1 (lt_of_block W4.out.doc))) (HZ.out.1.elim (fun D => .inl ⟨D.keep K4.out.drew (fun _ _ h => h), fun u hu => Nat.lt_of_lt_of_le (D.1.at' u hu).2.1 NB.out.2.2⟩) (fun h => .inr ⟨h.1, h.2.1⟩)) (by rw [SAME.out]; exact HZ.out.2)
  unfold edV at deed
  rw [← HEV.out, SAME.out] at deed
  have DE := Lib.hid (show Calls Try.prog 33 #[.pointer (some ⟨Nx, 0, none⟩), .agg EV] w4.drew (fun en w' => ∃ v : Int, en = .returned (.int .i64 v) ∧ Edited B2 w4.drew Nx x y (z) (paintE (er ls) e) (.returned (.int .i64 v)) w') from deed.mono (fun _ _ h => h.val))
  clear deed
  have r5 : Row35 w4 E := E4.out.row.1
  have r6 : rowAt w4 E = EV := by rw [E4.out.row.2, HEV.out]
  have r5d : Row35 w4.drew E := r5
  have r6d : rowAt w4.drew E = EV := r6
  have fk : w4.cell? ⟨DD, 4, none⟩ = some (.func (.func 33) #[] #[]) := by simp [World.cell?, D4.out]
  go_cut [8] from 23 (fun s8 w' => ∃ v : Int, s8 = .int .i64 v ∧ Edited B2 w4.drew Nx x y (z) (paintE (er ls) e) (.returned (.int .i64 v)) w')
  case first =>
    go_region_law (go_simp; (with_reducible refine DE.out.mono ?_); rintro en w5 ⟨v, rfl, hed⟩)
    all_goals
      go_wp2_with fail
      go_meet
      case rel => exact ⟨v, rfl, hed⟩
  case rest =>
    obtain ⟨v, rfl, hed⟩ := hcut
    have ZW := Lib.hid (show w.heap.size ≤ Z from by have := EE.out; omega)
    clear r5 r6 r5d r6d fk e0
    cases hr : paintE (er ls) e with
    | error f =>
      rw [hr] at hed
      obtain ⟨hv, hk9⟩ := hed
      simp only [Ending.returned.injEq, Value.int.injEq, true_and] at hv
      subst hv
      have e1 : (v != 0) = true := by simpa using paintE_err hr
      have RS := Lib.hid hr
      have K9 := Lib.hid (keeps_of_from K4.out.drew hk9 NB.out.2.2)
      have R9 := Lib.hid ((hk9.block Z (lt_of_block R4.out) (by have := NB.out; omega)).trans R4.out)
      obtain ⟨⟨r0, r1, r2, r3⟩, rf⟩ := four_cells R9.out
      have f0' := rf 0
      have f1' := rf 1
      have f2' := rf 2
      have f3' := rf 3
      clear rf hr hk9
      go_wp2_with fail
      refine bodyPost_ret (results_cell_row2 rfl _ _ Z 25 _ (0, 0) _ rfl (four_set R9.out _ _ _ _) Try.underlying25 rfl (by kernel_rfl)) rfl ?_
      exact Done.err RS.out (keeps_set4 K9.out ZW.out _ _ _ _)
    | ok lsP =>
      rw [hr] at hed
      obtain ⟨hv, h2, lsL, q1, q2, hk9⟩ := hed
      simp only [Ending.returned.injEq, Value.int.injEq, true_and] at hv
      subst hv
      have RS := Lib.hid hr
      have Q := Lib.hid (And.intro q1 q2)
      have K9 := Lib.hid (keeps_of_from K4.out.drew hk9 NB.out.2.2)
      have R9 := Lib.hid ((hk9.block Z (lt_of_block R4.out) (by have := NB.out; omega)).trans R4.out)
      obtain ⟨⟨r0, r1, r2, r3⟩, rf⟩ := four_cells R9.out
      have f0' := rf 0
      have f1' := rf 1
      have f2' := rf 2
      have f3' := rf 3
      have c0 := Dc.c0 (x := x) (y := y) (z := z) (h := h2) q2.doc
      have c1 := Dc.c1 (x := x) (y := y) (z := z) (h := h2) q2.doc
      have c2 := Dc.c2 (x := x) (y := y) (z := z) (h := h2) q2.doc
      have c3 := Dc.c3 (x := x) (y := y) (z := z) (h := h2) q2.doc
      clear rf hr hk9 q1 q2
      go_wp2_with fail
      refine bodyPost_ret (results_cell_row2 rfl _ _ Z 25 _ (0, 0) _ rfl (four_set R9.out _ _ _ _) Try.underlying25 rfl (by kernel_rfl)) rfl ?_
      refine Done.good RS.out Q.out.1 ?_ (keeps_set4 K9.out ZW.out _ _ _ _)
      have nd := Q.out.2.newD
      exact (nd.keep (keeps_at4 wc Z _ _ _ _) (fun b hb e => by have e' : b = Z := e; have := (nd.range b hb).1; have := NB.out; omega)).low NB.out.2.2
set_option maxRecDepth 100000 in
set_option maxHeartbeats 3200000 in
theorem doAdjustW (x y z : Int) (h : Hd) (ls : List Loc) (e : PEd) (p s q : Hd) (w : World) (D : DocV w h ls) {z0 : Int} (G : Good z0 (er ls)) (QP : RdW w q e.pars ∧ In64 e.pars ∧ q.n ≤ 16777216 ∧ q.n ≤ q.c) (hk : e.kind = 9) :
    Calls Try.prog 8 #[docV x y z h, edV e p s q] w fun en w' => Done w x y (z) (adjustP (er ls) e) en w' := by
  have HD := Lib.hid D
  have HG := Lib.hid G
  have HZ := Lib.hid QP
  clear QP
  have C0 := Lib.hid (((Dc.new w x y z h).later ((Keeps.refl none' _).alloc (.cells (edCells e p s q).toArray 35))).later ((Keeps.refl none' _).alloc (.cells #[.int .i64 0, .int .i64 0, .int .i64 0, .slice none 0 0] 25)))
  have E0 := Lib.hid ((Eb.new (w.alloc (.cells #[.int .i64 x, .int .i64 y, .int .i64 z, .slice h.a h.n h.c] 25)) e p s q).later ((Keeps.refl none' _).alloc (.cells #[.int .i64 0, .int .i64 0, .int .i64 0, .slice none 0 0] 25)))
  have K0 := Lib.hid ((((Keeps.refl none' w).alloc (.cells #[.int .i64 x, .int .i64 y, .int .i64 z, .slice h.a h.n h.c] 25)).alloc (.cells (edCells e p s q).toArray 35)).alloc (.cells #[.int .i64 0, .int .i64 0, .int .i64 0, .slice none 0 0] 25))
  have R0 := Lib.hid (heap_alloc_new ((w.alloc (.cells #[.int .i64 x, .int .i64 y, .int .i64 z, .slice h.a h.n h.c] 25)).alloc (.cells (edCells e p s q).toArray 35)) (.cells #[.int .i64 0, .int .i64 0, .int .i64 0, .slice none 0 0] 25))
  have hs1 : (w.alloc (.cells #[.int .i64 x, .int .i64 y, .int .i64 z, .slice h.a h.n h.c] 25)).heap.size = w.heap.size + 1 := by simp
  have hs2 : ((w.alloc (.cells #[.int .i64 x, .int .i64 y, .int .i64 z, .slice h.a h.n h.c] 25)).alloc (.cells (edCells e p s q).toArray 35)).heap.size = w.heap.size + 1 + 1 := by simp
  rw [hs1] at E0
  rw [hs2] at R0
  clear hs1 hs2 D G
  unfold docV edV
  obtain ⟨EV, hEV⟩ : ∃ EV, EV = (edCells e p s q).toArray := ⟨_, rfl⟩
  rw [← hEV]
  rw [← hEV] at C0 E0 K0 R0
  have HEV := Lib.hid hEV
  have e0v := E0.out.c0
  rw [hk] at e0v
  clear hEV
  obtain ⟨Dk, hDk⟩ : ∃ Dk, Dk = w.heap.size := ⟨_, rfl⟩
  obtain ⟨E, hE⟩ : ∃ E, E = Dk + 1 := ⟨_, rfl⟩
  obtain ⟨Z, hZ⟩ : ∃ Z, Z = E + 1 := ⟨_, rfl⟩
  rw [← hDk] at C0
  rw [← hDk, ← hE] at E0 e0v
  rw [← hDk, ← hE, ← hZ] at R0
  have EE := Lib.hid (And.intro hDk (And.intro hE hZ))
  go_enter Try.func8, Try.ntmps8
  go_upto_region 1 with (fail)
  rw [← hDk, ← hE, ← hZ]
  clear hDk hE hZ
  generalize ((w.alloc (.cells #[.int .i64 x, .int .i64 y, .int .i64 z, .slice h.a h.n h.c] 25)).alloc (.cells EV 35)).alloc (.cells #[.int .i64 0, .int .i64 0, .int .i64 0, .slice none 0 0] 25) = w1 at *
  go_upto_region 2 with ((with_reducible refine (deeds17 w1).mono ?_); rintro en w2 ⟨rfl, f0, hw2⟩; have HW2 := Lib.hid hw2; clear hw2)
  have db := heap_alloc_new w1 (.cells #[f0, .func (.func 30) #[] #[], .func (.func 31) #[] #[], .func (.func 32) #[] #[], .func (.func 33) #[] #[], .func (.func 34) #[] #[], .func (.func 35) #[] #[], .func (.func 36) #[] #[], .func (.func 37) #[] #[], .func (.func 38) #[] #[]] 59)
  rw [← HW2.out] at db
  have DB := Lib.hid db
  have k12 : Keeps none' w1 w2 := by rw [HW2.out]; exact (Keeps.refl none' w1).alloc _
  clear db
  obtain ⟨DD, hDD⟩ : ∃ DD, DD = w1.heap.size := ⟨_, rfl⟩
  rw [← hDD] at DB
  rw [← hDD]
  clear hDD HW2
  have K2 := Lib.hid (K0.out.next k12)
  have C2 := Lib.hid (C0.out.later k12)
  have E2 := Lib.hid (E0.out.later k12)
  have R2 := Lib.hid ((k12.later Z (lt_of_block R0.out)).trans R0.out)
  have e0w := k12.cell e0v
  clear k12 C0 E0 K0 R0 e0v
  have c0 := C2.out.c0
  have c1 := C2.out.c1
  have c2 := C2.out.c2
  have c3 := C2.out.c3
  have cp := copied18 x y z h ls w2 (HD.out.later K2.out)
  unfold docV at cp
  have CP := Lib.hid cp
  clear cp
  go_upto_region 5 with ((with_reducible refine CP.out.mono ?_); rintro en w3 ⟨h', ls', rfl, hcp⟩; have CD := Lib.hid hcp; clear hcp)
  have ka := (Keeps.refl none' w3).alloc (.cells #[.int .i64 x, .int .i64 y, .int .i64 z, .slice h'.a h'.n h'.c] 25)
  have N4 := Lib.hid (Dc.new w3 x y z h')
  have K24 := Lib.hid (CD.out.keeps.next ka)
  have E4 := Lib.hid (E2.out.later K24.out)
  have R4 := Lib.hid ((K24.out.later Z (lt_of_block R2.out)).trans R2.out)
  have D4 := Lib.hid ((K24.out.later DD (lt_of_block DB.out)).trans DB.out)
  have e0 := K24.out.cell e0w
  have K4 := Lib.hid (K2.out.next K24.out)
  obtain ⟨Nx, hNx⟩ : ∃ Nx, Nx = w3.heap.size := ⟨_, rfl⟩
  have W4 := Lib.hid (show Whole w2.heap.size (w3.alloc (.cells #[.int .i64 x, .int .i64 y, .int .i64 z, .slice h'.a h'.n h'.c] 25)) Nx x y z h' ls' from by
    have hB : w2.heap.size ≤ w2.heap.size + 2 := by omega
    refine ⟨by rw [hNx]; exact N4.out, (CD.out.row.later ka).low hB, (CD.out.own.later ka).low hB, CD.out.nodup, fun hm => ?_⟩
    rcases List.mem_append.1 hm with hm | hm
    · have := (CD.out.row.range _ hm).2; omega
    · have := (CD.out.own.range _ hm).2; omega)
  obtain ⟨B2, hB2⟩ : ∃ B2, B2 = w2.heap.size := ⟨_, rfl⟩
  have NB := Lib.hid (show B2 ≤ Nx ∧ Z < B2 ∧ w.heap.size ≤ B2 from by rw [hNx, hB2]; exact ⟨CD.out.keeps.size, lt_of_block R2.out, K2.out.size⟩)
  rw [← hB2] at W4
  have SAME := Lib.hid CD.out.same
  rw [← hNx]
  clear hNx hB2 ka N4 c0 c1 c2 c3 CP CD K24 E2 R2 DB C2 K2 e0w
  generalize w3.alloc (.cells #[.int .i64 x, .int .i64 y, .int .i64 z, .slice h'.a h'.n h'.c] 25) = w4 at *
  have deed := adjustw38 B2 Nx x y z h' ls' e p s q w4.drew (W4.out.later ((Keeps.refl none' w4).drew)) (by rw [SAME.out]; exact HG.out) (Nat.le_of_lt (Nat.lt_of_le_of_lt NB.out.1 (lt_of_block W4.out.doc))) ⟨HZ.out.1.keep K4.out.drew, HZ.out.2⟩
  unfold edV at deed
  rw [← HEV.out, SAME.out] at deed
  have DE := Lib.hid (show Calls Try.prog 38 #[.pointer (some ⟨Nx, 0, none⟩), .agg EV] w4.drew (fun en w' => ∃ v : Int, en = .returned (.int .i64 v) ∧ Edited B2 w4.drew Nx x y (z) (adjustP (er ls) e) (.returned (.int .i64 v)) w') from deed.mono (fun _ _ h => h.val))
  clear deed
  have r5 : Row35 w4 E := E4.out.row.1
  have r6 : rowAt w4 E = EV := by rw [E4.out.row.2, HEV.out]
  have r5d : Row35 w4.drew E := r5
  have r6d : rowAt w4.drew E = EV := r6
  have fk : w4.cell? ⟨DD, 9, none⟩ = some (.func (.func 38) #[] #[]) := by simp [World.cell?, D4.out]
  go_cut [8] from 23 (fun s8 w' => ∃ v : Int, s8 = .int .i64 v ∧ Edited B2 w4.drew Nx x y (z) (adjustP (er ls) e) (.returned (.int .i64 v)) w')
  case first =>
    go_region_law (go_simp; (with_reducible refine DE.out.mono ?_); rintro en w5 ⟨v, rfl, hed⟩)
    all_goals
      go_wp2_with fail
      go_meet
      case rel => exact ⟨v, rfl, hed⟩
  case rest =>
    obtain ⟨v, rfl, hed⟩ := hcut
    have ZW := Lib.hid (show w.heap.size ≤ Z from by have := EE.out; omega)
    clear r5 r6 r5d r6d fk e0
    cases hr : adjustP (er ls) e with
    | error f =>
      rw [hr] at hed
      obtain ⟨hv, hk9⟩ := hed
      simp only [Ending.returned.injEq, Value.int.injEq, true_and] at hv
      subst hv
      have e1 : (v != 0) = true := by simpa using adjustP_err hr
      have RS := Lib.hid hr
      have K9 := Lib.hid (keeps_of_from K4.out.drew hk9 NB.out.2.2)
      have R9 := Lib.hid ((hk9.block Z (lt_of_block R4.out) (by have := NB.out; omega)).trans R4.out)
      obtain ⟨⟨r0, r1, r2, r3⟩, rf⟩ := four_cells R9.out
      have f0' := rf 0
      have f1' := rf 1
      have f2' := rf 2
      have f3' := rf 3
      clear rf hr hk9
      go_wp2_with fail
      refine bodyPost_ret (results_cell_row2 rfl _ _ Z 25 _ (0, 0) _ rfl (four_set R9.out _ _ _ _) Try.underlying25 rfl (by kernel_rfl)) rfl ?_
      exact Done.err RS.out (keeps_set4 K9.out ZW.out _ _ _ _)
    | ok lsP =>
      rw [hr] at hed
      obtain ⟨hv, h2, lsL, q1, q2, hk9⟩ := hed
      simp only [Ending.returned.injEq, Value.int.injEq, true_and] at hv
      subst hv
      have RS := Lib.hid hr
      have Q := Lib.hid (And.intro q1 q2)
      have K9 := Lib.hid (keeps_of_from K4.out.drew hk9 NB.out.2.2)
      have R9 := Lib.hid ((hk9.block Z (lt_of_block R4.out) (by have := NB.out; omega)).trans R4.out)
      obtain ⟨⟨r0, r1, r2, r3⟩, rf⟩ := four_cells R9.out
      have f0' := rf 0
      have f1' := rf 1
      have f2' := rf 2
      have f3' := rf 3
      have c0 := Dc.c0 (x := x) (y := y) (z := z) (h := h2) q2.doc
      have c1 := Dc.c1 (x := x) (y := y) (z := z) (h := h2) q2.doc
      have c2 := Dc.c2 (x := x) (y := y) (z := z) (h := h2) q2.doc
      have c3 := Dc.c3 (x := x) (y := y) (z := z) (h := h2) q2.doc
      clear rf hr hk9 q1 q2
      go_wp2_with fail
      refine bodyPost_ret (results_cell_row2 rfl _ _ Z 25 _ (0, 0) _ rfl (four_set R9.out _ _ _ _) Try.underlying25 rfl (by kernel_rfl)) rfl ?_
      refine Done.good RS.out Q.out.1 ?_ (keeps_set4 K9.out ZW.out _ _ _ _)
      have nd := Q.out.2.newD
      exact (nd.keep (keeps_at4 wc Z _ _ _ _) (fun b hb e => by have e' : b = Z := e; have := (nd.range b hb).1; have := NB.out; omega)).low NB.out.2.2
end Go.Proofs.Ytfcpbpfemmdklaa

/- Do (8), whatever the edit. (printed by genZZC.py) -/
namespace Go.Proofs.Ytfcpbpfemmdklaa
open Go.RowKit Go.Lib
set_option linter.unusedSimpArgs false
set_option linter.unusedVariables false

set_option maxRecDepth 100000 in
set_option maxHeartbeats 1600000 in
theorem doOther (x y z : Int) (h : Hd) (e : PEd) (p s q : Hd) (w : World) (hk : e.kind < 1 ∨ 10 ≤ e.kind) :
    Calls Try.prog 8 #[docV x y z h, edV e p s q] w fun en w' => en = .returned (.tuple #[docV 0 0 0 Hd.nil, .int .i64 41]) ∧ Keeps none' w w' := by
  have E0 := Lib.hid ((Eb.new (w.alloc (.cells #[.int .i64 x, .int .i64 y, .int .i64 z, .slice h.a h.n h.c] 25)) e p s q).later ((Keeps.refl none' _).alloc (.cells #[.int .i64 0, .int .i64 0, .int .i64 0, .slice none 0 0] 25)))
  have K0 := Lib.hid ((((Keeps.refl none' w).alloc (.cells #[.int .i64 x, .int .i64 y, .int .i64 z, .slice h.a h.n h.c] 25)).alloc (.cells (edCells e p s q).toArray 35)).alloc (.cells #[.int .i64 0, .int .i64 0, .int .i64 0, .slice none 0 0] 25))
  have R0 := Lib.hid (heap_alloc_new ((w.alloc (.cells #[.int .i64 x, .int .i64 y, .int .i64 z, .slice h.a h.n h.c] 25)).alloc (.cells (edCells e p s q).toArray 35)) (.cells #[.int .i64 0, .int .i64 0, .int .i64 0, .slice none 0 0] 25))
  have hs1 : (w.alloc (.cells #[.int .i64 x, .int .i64 y, .int .i64 z, .slice h.a h.n h.c] 25)).heap.size = w.heap.size + 1 := by simp
  have hs2 : ((w.alloc (.cells #[.int .i64 x, .int .i64 y, .int .i64 z, .slice h.a h.n h.c] 25)).alloc (.cells (edCells e p s q).toArray 35)).heap.size = w.heap.size + 1 + 1 := by simp
  rw [hs1] at E0
  rw [hs2] at R0
  clear hs1 hs2
  unfold docV edV
  obtain ⟨EV, hEV⟩ : ∃ EV, EV = (edCells e p s q).toArray := ⟨_, rfl⟩
  rw [← hEV]
  rw [← hEV] at E0 K0 R0
  clear hEV
  have e0v := E0.out.c0
  obtain ⟨Dk, hDk⟩ : ∃ Dk, Dk = w.heap.size := ⟨_, rfl⟩
  obtain ⟨E, hE⟩ : ∃ E, E = Dk + 1 := ⟨_, rfl⟩
  obtain ⟨Z, hZ⟩ : ∃ Z, Z = E + 1 := ⟨_, rfl⟩
  rw [← hDk, ← hE] at E0 e0v
  rw [← hDk, ← hE, ← hZ] at R0
  have EE := Lib.hid (show w.heap.size ≤ Z from by omega)
  go_enter Try.func8, Try.ntmps8
  go_upto_region 1 with (fail)
  rw [← hDk, ← hE, ← hZ]
  clear hDk hE hZ
  generalize ((w.alloc (.cells #[.int .i64 x, .int .i64 y, .int .i64 z, .slice h.a h.n h.c] 25)).alloc (.cells EV 35)).alloc (.cells #[.int .i64 0, .int .i64 0, .int .i64 0, .slice none 0 0] 25) = w1 at *
  go_upto_region 2 with ((with_reducible refine (deeds17 w1).mono ?_); rintro en w2 ⟨rfl, f0, hw2⟩; have HW2 := Lib.hid hw2; clear hw2)
  have k12 : Keeps none' w1 w2 := by rw [HW2.out]; exact (Keeps.refl none' w1).alloc _
  obtain ⟨DD, hDD⟩ : ∃ DD, DD = w1.heap.size := ⟨_, rfl⟩
  rw [← hDD]
  clear hDD HW2
  have K2 := Lib.hid (K0.out.next k12)
  have R2 := Lib.hid ((k12.later Z (lt_of_block R0.out)).trans R0.out)
  have e0 := k12.cell e0v
  clear k12 E0 K0 R0 e0v
  obtain ⟨⟨z0, z1, z2, z3⟩, zf⟩ := four_cells R2.out
  have g0 := zf 0
  have g1 := zf 1
  have g2 := zf 2
  have g3 := zf 3
  clear zf
  by_cases h1 : e.kind < 1
  · have d1 : decide (e.kind < 1) = true := by simpa using h1
    clear hk
    go_wp2_with fail
    refine bodyPost_ret (results_cell_row2 rfl _ _ Z 25 _ (0, 0) _ rfl (four_set R2.out _ _ _ _) Try.underlying25 rfl (by kernel_rfl)) rfl ?_
    exact ⟨rfl, keeps_set4 K2.out EE.out _ _ _ _⟩
  · have d1 : decide (e.kind < 1) = false := by simpa using h1
    have d2 : decide (e.kind ≥ 10) = true := by simp; omega
    have d3 : decide (10 ≤ e.kind) = true := by simp; omega
    clear hk
    go_wp2_with fail
    refine bodyPost_ret (results_cell_row2 rfl _ _ Z 25 _ (0, 0) _ rfl (four_set R2.out _ _ _ _) Try.underlying25 rfl (by kernel_rfl)) rfl ?_
    exact ⟨rfl, keeps_set4 K2.out EE.out _ _ _ _⟩
/-- An edit whose lists may be read. -/
structure EdOk (w : World) (e : PEd) (p s q : Hd) : Prop where
  pix : RdW w p e.p
  shp : La.Pts w s.a s.n (e.shape.map ptOf)
  sn : s.n ≤ 33554432
  prm : RdW w q e.pars
  in64 : In64 e.pars
  qn : q.n ≤ 16777216
  qc : q.n ≤ q.c
theorem EdOk.later {w w' : World} {e : PEd} {p s q : Hd} (h : EdOk w e p s q) (k : Keeps none' w w') : EdOk w' e p s q :=
  ⟨h.pix.keep k, h.shp.later (fun i hi => k.later i hi), h.sn, h.prm.keep k, h.in64, h.qn, h.qc⟩
/-- What an edit makes of the layers. -/
noncomputable def doP (x y z : Int) (ls : List Lay) (e : PEd) : Except Int (List Lay) :=
  if e.kind = 1 then addP z ls e.to e.at_ e.n e.w e.h else
  if e.kind = 2 then removeP ls e.id else
  if e.kind = 3 then moveP ls e.id e.to e.at_ else
  if e.kind = 4 then paintE ls e else
  if e.kind = 5 then lookP ls e.id e.n e.m else
  if e.kind = 6 then hideP ls e.id e.n else
  if e.kind = 7 then maskP ls x y e else
  if e.kind = 8 then placeP ls e else
  if e.kind = 9 then adjustP ls e else .error 41
/-- The next number. -/
def nextZ (z : Int) (e : PEd) : Int := if e.kind = 1 then z + 1 else z
/-- The rasters' widths. -/
def WOk (ls : List Lay) : Prop := ∀ d ∈ dats ls, d.kind = 0 → 0 ≤ d.w ∧ d.w ≤ 32768
theorem do_any (x y z : Int) (h : Hd) (ls : List Loc) (e : PEd) (p s q : Hd) (w : World) (D : DocV w h ls) (G : Good z (er ls)) (hz : z ≤ 4611686018427387904) (WO : WOk (er ls)) (O : EdOk w e p s q) :
    Calls Try.prog 8 #[docV x y z h, edV e p s q] w fun en w' => Done w x y (nextZ z e) (doP x y z (er ls) e) en w' := by
  unfold doP nextZ
  by_cases h1 : e.kind = 1
  · rw [if_pos h1, if_pos h1]
    exact doAdd x y z h ls e p s q w D G hz h1
  rw [if_neg h1, if_neg h1]
  by_cases h2 : e.kind = 2
  · rw [if_pos h2]
    exact doRemove x y z h ls e p s q w D G h2
  rw [if_neg h2]
  by_cases h3 : e.kind = 3
  · rw [if_pos h3]
    exact doMove x y z h ls e p s q w D G h3
  rw [if_neg h3]
  by_cases h4 : e.kind = 4
  · rw [if_pos h4]
    exact doPaintW x y z h ls e p s q w D G O.pix (fun r hr hk => WO _ (fnd_mem hr) hk) h4
  rw [if_neg h4]
  by_cases h5 : e.kind = 5
  · rw [if_pos h5]
    exact doLook x y z h ls e p s q w D G h5
  rw [if_neg h5]
  by_cases h6 : e.kind = 6
  · rw [if_pos h6]
    exact doHide x y z h ls e p s q w D G h6
  rw [if_neg h6]
  by_cases h7 : e.kind = 7
  · rw [if_pos h7]
    exact doMask x y z h ls e p s q w D G ⟨O.shp, O.sn⟩ h7
  rw [if_neg h7]
  by_cases h8 : e.kind = 8
  · rw [if_pos h8]
    exact doPlace x y z h ls e p s q w D G h8
  rw [if_neg h8]
  by_cases h9 : e.kind = 9
  · rw [if_pos h9]
    exact doAdjustW x y z h ls e p s q w D G ⟨O.prm, O.in64, O.qn, O.qc⟩ h9
  rw [if_neg h9]
  refine (doOther x y z h e p s q w (by omega)).mono ?_
  rintro en w' ⟨rfl, k⟩
  exact Done.err rfl k
end Go.Proofs.Ytfcpbpfemmdklaa
