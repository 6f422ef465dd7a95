/- Painting (33). -/
import Derived.Test.YtfcpbpfemmdklaaZJ
namespace Go.Proofs.Ytfcpbpfemmdklaa
open Go.RowKit Go.Lib
set_option linter.unusedSimpArgs false
set_option linter.unusedVariables false

/-- No layer of pixels is found. -/
def PaintNo (B R : Nat) (x y z : Int) (h : Hd) (ls : List Loc) (e : PEd) : Prop :=
  ∃ f, f ≠ 0 ∧ kindV e.id 0 (sps 0 R 3 0 h.b h.o 0 ls) = (none, f) ∧ paintP (er ls) e.id e.x e.y e.w e.h e.p = .error f
theorem ints_len {w : World} {p : Hd} {l : List Int} (D : ReadR w 3 1 p (ints l)) : l.length = p.n := by
  have h1 := D.1.len
  have h2 : (ints l).length = l.length := by simp [ints]
  have h3 : (ints l).length = p.n * 1 := h1
  omega
set_option maxRecDepth 100000 in
set_option maxHeartbeats 3200000 in
theorem paint_no (B R : Nat) (x y z : Int) (h : Hd) (ls : List Loc) (e : PEd) (p s q : Hd) (w : World) (W : Whole B w R x y z h ls) {z0 : Int} (G : Good z0 (er ls)) (N : PaintNo B R x y z h ls e) :
    Calls Try.prog 33 #[.pointer (some ⟨R, 0, none⟩), edV e p s q] w fun en w' => Edited B w R x y z (paintP (er ls) e.id e.x e.y e.w e.h e.p) en w' := by
  obtain ⟨f, f0, kv, pe⟩ := N
  have A := Lib.hid pe
  have HC : cnt ls ≤ 4096 := by rw [cnt_eq]; exact G.cnt
  have E0 := Lib.hid (Eb.new w e p s q)
  have K0 := Lib.hid ((Keeps.refl none' w).alloc (.cells (edCells e p s q).toArray 35))
  have KD := kind53 R x y z h ls e.id 0 (w.alloc (.cells (edCells e p s q).toArray 35)) (W.later K0.out).doc ((W.later K0.out).docV) (by omega)
  rw [kv] at KD
  have KN := Lib.hid KD
  have f1 : (f != 0) = true := by simpa using f0
  clear W G kv pe f0 KD HC
  unfold edV
  obtain ⟨EV, hEV⟩ : ∃ EV, EV = (edCells e p s q).toArray := ⟨_, rfl⟩
  rw [← hEV]
  rw [← hEV] at E0 K0 KN
  clear hEV
  go_enter Try.func33, Try.ntmps33
  go_upto_region 1 with (fail)
  generalize w.alloc (.cells EV 35) = w1 at *
  obtain ⟨E, hE⟩ : ∃ E, E = w.heap.size := ⟨_, rfl⟩
  rw [← hE] at E0
  rw [← hE]
  clear hE
  have e1 := E0.out.c1
  go_wp2_with ((with_reducible refine KN.out.mono ?_); rintro en w2 ⟨rfl, hk⟩; have K2 := Lib.hid (K0.out.next hk); clear hk)
  go_ret
  exact Edited.err A.out K2.out
theorem form_cases (w h : Int) (l : List Int) (n : Nat) (hn : l.length = n) (X : Int) (hX : sideP w = true → sideP h = true → X = w * h) (b : Bool) (hb : l.all pixB = b) :
    (sideP w = false ∧ formP w h l = false) ∨ (sideP w = true ∧ sideP h = false ∧ formP w h l = false) ∨ (sideP w = true ∧ sideP h = true ∧ ((n : Int) != X) = true ∧ formP w h l = false) ∨
    (sideP w = true ∧ sideP h = true ∧ ((n : Int) != X) = false ∧ formP w h l = b) := by
  unfold formP
  cases h1 : sideP w with
  | false => exact .inl ⟨rfl, rfl⟩
  | true =>
    cases h2 : sideP h with
    | false => exact .inr (.inl ⟨rfl, rfl, rfl⟩)
    | true =>
      have e := hX h1 h2
      subst e
      by_cases h3 : (n : Int) = w * h
      · exact .inr (.inr (.inr ⟨rfl, rfl, by simp [h3], by simp [hn, h3, hb]⟩))
      · exact .inr (.inr (.inl ⟨rfl, rfl, by simp [h3], by simp [hn, h3]⟩))
theorem side_mul {w h : Int} (h1 : sideP w = true) (h2 : sideP h = true) : wrap64 (w * h) = w * h := by
  unfold sideP at h1 h2
  simp at h1 h2
  have a := Int.mul_le_mul h1.2 h2.2 (by omega) (by omega : (0:Int) ≤ 32768)
  have b : 0 ≤ w * h := Int.mul_nonneg (by omega) (by omega)
  exact wrap64_id _ (by omega) (by omega)
theorem at_layer {B : Nat} {w : World} {R : Nat} {x y z : Int} {C : List Frm} {h : Hd} {pre post : List Loc} {d : Dat} {lp lm lq lk : Hd} {kids : List Loc} (W : Whole B w R x y z (plugH C h) (plugL C h (pre ++ .mk d lp lm lq lk kids :: post))) :
    w.cell? ⟨h.b, h.o + pre.length * 19 + 5, none⟩ = some (.int .i64 d.w) ∧ w.cell? ⟨h.b, h.o + pre.length * 19 + 7, none⟩ = some (.slice lp.a lp.n lp.c) ∧ OwnR B w 3 1 lp (ints d.p) ∧ h.b ∉ lp.blk := by
  obtain ⟨rowh, ownl, -⟩ := W.ctx
  obtain ⟨g, n, c, rfl⟩ := row_some rowh
  have nd := W.nd
  rw [blks_append, blks_cons] at nd
  have hfl := flat_at _ _ _ (mid_at pre (.mk d lp lm lq lk kids) post)
  have hc : ∀ j u, (flat (pre ++ .mk d lp lm lq lk kids :: post))[j]? = some u → w.cell? ⟨g, 0 + j, none⟩ = some u := (rowh.read.1.1.at' _ rfl).2.2
  rw [own_append, own_cons] at ownl
  refine ⟨?_, ?_, ownl.2.1, fun e => ?_⟩
  · have := hc _ _ (hfl 5 _ rfl)
    rw [← Nat.add_assoc] at this
    exact this
  · have := hc _ _ (hfl 7 _ rfl)
    rw [← Nat.add_assoc] at this
    exact this
  · have h1 : g ∈ lp.blk := e
    have h3 := List.nodup_iff_count.1 nd g
    simp only [List.count_append] at h3
    have hp : 1 ≤ List.count g lp.blk := List.count_pos_iff.2 h1
    have hq : 1 ≤ List.count g (⟨some ⟨g, 0, none⟩, n, c⟩ : Hd).blk := List.count_pos_iff.2 (List.mem_singleton.2 rfl)
    omega
/-- How the rows of an edit's pixels lie. -/
structure RowsOk (e : PEd) (p : Hd) (H M pb po : Nat) : Prop where
  hh : e.h = (H : Int)
  hw : e.w = (M : Int)
  h1 : 1 ≤ H ∧ H ≤ 32768
  m1 : 1 ≤ M ∧ M ≤ 32768
  pn : p.n = H * M
  pc : p.n ≤ p.c
  pa : p.a = some ⟨pb, po, none⟩
theorem rows_ok {w : World} {e : PEd} {p : Hd} (D : ReadR w 3 1 p (ints e.p)) (h : formP e.w e.h e.p = true) : ∃ H M pb po, RowsOk e p H M pb po := by
  unfold formP sideP at h
  simp at h
  obtain ⟨⟨a1, a2⟩, ⟨b1, b2⟩, c, -⟩ := h
  have hn := ints_len D
  have hm : e.w * e.h = ((e.h.toNat * e.w.toNat : Nat) : Int) := by
    rw [Int.natCast_mul, Int.toNat_of_nonneg (by omega), Int.toNat_of_nonneg (by omega), Int.mul_comm]
  have hp : 0 < e.h.toNat * e.w.toNat := Nat.mul_pos (by omega) (by omega)
  have pn : p.n = e.h.toNat * e.w.toNat := by omega
  cases ha : p.a with
  | none => have := (D.1.abs ha).1; omega
  | some u =>
    obtain ⟨q1, -, -⟩ := D.1.at' u ha
    obtain ⟨ub, uo, us⟩ := u
    cases q1
    exact ⟨e.h.toNat, e.w.toNat, ub, uo, by omega, by omega, by omega, by omega, pn, D.1.cap, ha⟩
theorem RowsOk.eta {e : PEd} {p : Hd} {H M pb po : Nat} (r : RowsOk e p H M pb po) : p = ⟨some ⟨pb, po, none⟩, p.n, p.c⟩ := by
  have h := r.pa
  cases p
  cases h
  rfl
theorem shift_in {v : Int} (h : shiftP v = true) : -32768 ≤ v ∧ v ≤ 32768 := by
  unfold shiftP at h
  simpa using h
theorem mul_le_n {i H M : Nat} (h : i < H) : i * M + M ≤ H * M := by
  rw [← Nat.succ_mul]
  exact Nat.mul_le_mul_right M h
structure RowFacts (e : PEd) (p : Hd) (i LOW M : Nat) : Prop where
  yw : wrap64 (e.y + (i : Int)) = e.y + (i : Int)
  iw : wrap64 ((i : Int) + 1) = (i : Int) + 1
  lw : wrap64 ((i : Int) * (M : Int)) = (LOW : Int)
  hw : wrap64 (((i : Int) + 1) * (M : Int)) = ((LOW + M : Nat) : Int)
  s1 : LOW + M ≤ p.c
  s2 : LOW + M ≤ p.n
  x : -100000 ≤ e.x ∧ e.x ≤ 100000
  y : -100000 ≤ e.y + (i : Int) ∧ e.y + (i : Int) ≤ 100000
  m : M ≤ 1000000
theorem RowsOk.facts {e : PEd} {p : Hd} {H M pb po i : Nat} (r : RowsOk e p H M pb po) (h : i < H) (pr : p.n ≤ 536870912) (hs : (shiftP e.x && shiftP e.y) = true) : RowFacts e p i (i * M) M := by
  have mn := mul_le_n (M := M) h
  rw [Bool.and_eq_true] at hs
  have sx := shift_in hs.1
  have sy := shift_in hs.2
  have h1 := r.h1
  have m1 := r.m1
  have pn := r.pn
  have pc := r.pc
  have e1 : (i : Int) * (M : Int) = ((i * M : Nat) : Int) := (Int.natCast_mul i M).symm
  have e2 : ((i : Int) + 1) * (M : Int) = ((i * M + M : Nat) : Int) := by rw [Int.add_mul, Int.one_mul, Int.natCast_add, e1]
  obtain ⟨L, hL⟩ : ∃ L, L = i * M := ⟨_, rfl⟩
  obtain ⟨T, hT⟩ : ∃ T, T = H * M := ⟨_, rfl⟩
  rw [← hL] at e1 e2 mn ⊢
  rw [← hT] at mn pn
  clear hL hT r hs
  refine ⟨wrap64_id _ (by omega) (by omega), wrap64_id _ (by omega) (by omega), ?_, ?_, by omega, by omega, by omega, by omega, by omega⟩
  · rw [e1]; clear e1 e2; exact wrap64_id _ (by omega) (by omega)
  · rw [e2]; clear e1 e2; exact wrap64_id _ (by omega) (by omega)
theorem row_call {B LB LO pb po M i LOW : Nat} {W : Int} {lp p : Hd} {pl : List Int} {e : PEd} {w w' : World} (RF : RowFacts e p i LOW M) (RP : ReadR w 3 1 ⟨some ⟨pb, po, none⟩, p.n, p.c⟩ (ints e.p)) (kw : Keeps (fun q => q ∈ lp.blk) w w') (OI : OwnR B w' 3 1 lp (ints pl))
    (c5 : w'.cell? ⟨LB, LO + 5, none⟩ = some (.int .i64 W)) (c7 : w'.cell? ⟨LB, LO + 7, none⟩ = some (.slice lp.a lp.n lp.c)) (hpb : pb ∉ lp.blk) (hlb : LB ∉ lp.blk) (hW : 0 ≤ W ∧ W ≤ 32768) :
    Calls Try.prog 56 #[.pointer (some ⟨LB, LO, none⟩), .int .i64 e.x, .int .i64 (e.y + (i : Int)), .slice (some ⟨pb, po + LOW, none⟩) M (p.c - LOW)] w' fun en w3 => en = .returned (.tuple #[]) ∧ OwnR B w3 3 1 lp (ints (prow W (e.y + (i : Int)) e.x 0 ((e.p.drop LOW).take M) pl)) ∧ Keeps (fun q => q ∈ lp.blk) w' w3 :=
  prow56 B LB LO W lp pl e.x (e.y + (i : Int)) pb (po + LOW) M (p.c - LOW) _ w' c5 c7 OI (sliceI (RP.keep kw (fun u hu he => by cases hu; exact hpb he)) RF.s2) hpb hlb hW RF.x RF.y RF.m
set_option maxRecDepth 100000 in
set_option maxHeartbeats 3200000 in
theorem paint_yes (B R : Nat) (x y z : Int) (e : PEd) (p s q : Hd) (w : World) (C : List Frm) (h' : Hd) (pre post : List Loc) (d : Dat) (lp lm lq lk : Hd) (kids : List Loc)
    (W : Whole B w R x y z (plugH C h') (plugL C h' (pre ++ .mk d lp lm lq lk kids :: post))) (hB : B ≤ w.heap.size) {z0 : Int} (G : Good z0 (er (plugL C h' (pre ++ .mk d lp lm lq lk kids :: post))))
    (PR : ReadR w 3 1 p (ints e.p)) (PB : ∀ u, p.a = some u → u.block < B) (hw : 0 ≤ d.w ∧ d.w ≤ 32768)
    (kv : kindV e.id 0 (sps 0 R 3 0 (plugH C h').b (plugH C h').o 0 (plugL C h' (pre ++ .mk d lp lm lq lk kids :: post))) = (some ⟨h'.b, h'.o + pre.length * 19, none⟩, 0))
    (pe : paintP (er (plugL C h' (pre ++ .mk d lp lm lq lk kids :: post))) e.id e.x e.y e.w e.h e.p = if formP e.w e.h e.p = false then .error 25 else
      if (shiftP e.x && shiftP e.y) = false then .error 31 else
      .ok (plugP (C.map Frm.er) (er pre ++ .mk (setP d (paintN d.w e.y e.x e.w.toNat e.p e.h.toNat d.p)) (er kids) :: er post))) :
    Calls Try.prog 33 #[.pointer (some ⟨R, 0, none⟩), edV e p s q] w fun en w' => Edited B w R x y z (paintP (er (plugL C h' (pre ++ .mk d lp lm lq lk kids :: post))) e.id e.x e.y e.w e.h e.p) en w' := by
  have A := Lib.hid pe
  have HC : cnt (plugL C h' (pre ++ .mk d lp lm lq lk kids :: post)) ≤ 4096 := by rw [cnt_eq]; exact G.cnt
  have HW := Lib.hid W
  have HP := Lib.hid (And.intro PR PB)
  have E0 := Lib.hid (Eb.new w e p s q)
  have K0 := Lib.hid ((Keeps.refl none' w).alloc (.cells (edCells e p s q).toArray 35))
  have KD := kind53 R x y z (plugH C h') _ e.id 0 (w.alloc (.cells (edCells e p s q).toArray 35)) (W.later K0.out).doc ((W.later K0.out).docV) (by omega)
  rw [kv] at KD
  have KN := Lib.hid KD
  have HH := Lib.hid (And.intro hw hB)
  clear W G kv pe KD HC PR PB hw hB
  unfold edV
  obtain ⟨EV, hEV⟩ : ∃ EV, EV = (edCells e p s q).toArray := ⟨_, rfl⟩
  rw [← hEV]
  rw [← hEV] at E0 K0 KN
  clear hEV
  obtain ⟨RES, hRES⟩ : ∃ RES, RES = paintP (er (plugL C h' (pre ++ .mk d lp lm lq lk kids :: post))) e.id e.x e.y e.w e.h e.p := ⟨_, rfl⟩
  rw [← hRES]
  rw [← hRES] at A
  clear hRES
  obtain ⟨LO, hLO⟩ : ∃ LO, LO = h'.o + pre.length * 19 := ⟨_, rfl⟩
  rw [← hLO] at KN
  have HLO := Lib.hid hLO
  clear hLO
  obtain ⟨LB, hLB⟩ : ∃ LB, LB = h'.b := ⟨_, rfl⟩
  rw [← hLB] at KN
  have HLB := Lib.hid hLB
  clear hLB
  go_enter Try.func33, Try.ntmps33
  go_upto_region 1 with (fail)
  generalize w.alloc (.cells EV 35) = w1 at *
  obtain ⟨E, hE⟩ : ∃ E, E = w.heap.size := ⟨_, rfl⟩
  rw [← hE] at E0
  rw [← hE]
  have HE := Lib.hid hE
  clear hE
  have e1 := E0.out.c1
  go_upto_region 4 with ((with_reducible refine KN.out.mono ?_); rintro en w2 ⟨rfl, hk⟩; have K2 := Lib.hid (K0.out.next hk); have E2 := Lib.hid (E0.out.later hk); clear hk)
  clear e1 KN E0 K0
  have e8 := E2.out.c8
  have e9 := E2.out.c9
  have e10 := E2.out.c10
  go_cut [44] from 18 (fun s44 w' => Keeps none' w2 w' ∧ s44 = .bool (!(formP e.w e.h e.p)))
  case first =>
    have S1 := Lib.hid (fun w' => side29 e.w w')
    have S2 := Lib.hid (fun w' => side29 e.h w')
    have S3 := Lib.hid (pixels54 p e.p w2 (HP.out.1.keep K2.out (fun _ _ h => h)))
    rcases form_cases e.w e.h e.p p.n (ints_len HP.out.1) (wrap64 (e.w * e.h)) (fun a b => side_mul a b) _ rfl with ⟨c1, c⟩ | ⟨c1, c2, c⟩ | ⟨c1, c2, c3, c⟩ | ⟨c1, c2, c3, c⟩ <;> have FM := Lib.hid c <;> clear c
    · rw [c1] at S1
      clear c1
      go_wp2_with ((with_reducible refine (S1.out _).mono ?_); rintro en w3 ⟨rfl, hw⟩; subst hw)
      go_meet
      case rel => exact ⟨Keeps.refl _ _, by rw [FM.out]; rfl⟩
    · rw [c1] at S1
      rw [c2] at S2
      clear c1 c2
      go_wp2_with ((first | (with_reducible refine (S1.out _).mono ?_) | (with_reducible refine (S2.out _).mono ?_)); rintro en w3 ⟨rfl, hw⟩; subst hw)
      go_meet
      case rel => exact ⟨Keeps.refl _ _, by rw [FM.out]; rfl⟩
    · rw [c1] at S1
      rw [c2] at S2
      clear c1 c2
      go_wp2_with ((first | (with_reducible refine (S1.out _).mono ?_) | (with_reducible refine (S2.out _).mono ?_)); rintro en w3 ⟨rfl, hw⟩; subst hw)
      go_meet
      case rel => exact ⟨Keeps.refl _ _, by rw [FM.out]; rfl⟩
    · rw [c1] at S1
      rw [c2] at S2
      clear c1 c2
      go_wp2_with (first | ((with_reducible refine (S1.out _).mono ?_); rintro en w3 ⟨rfl, hw⟩; subst hw) | ((with_reducible refine (S2.out _).mono ?_); rintro en w3 ⟨rfl, hw⟩; subst hw) | ((with_reducible refine S3.out.mono ?_); rintro en w3 ⟨rfl, hk3⟩))
      go_meet
      case rel => exact ⟨hk3, by rw [FM.out]⟩
  case rest =>
  obtain ⟨kc, rfl⟩ := hcut
  have K3 := Lib.hid (K2.out.next kc)
  have E3 := Lib.hid (E2.out.later kc)
  clear kc e8 e9 e10 K2 E2
  cases hf : formP e.w e.h e.p with
  | false =>
    have A1 := Lib.hid (show RES = .error 25 from by rw [A.out, if_pos hf])
    clear hf
    go_wp2_with fail
    go_ret
    exact Edited.err A1.out K3.out
  | true =>
    have A1 := Lib.hid (show RES = if (shiftP e.x && shiftP e.y) = false then .error 31 else
      .ok (plugP (C.map Frm.er) (er pre ++ .mk (setP d (paintN d.w e.y e.x e.w.toNat e.p e.h.toNat d.p)) (er kids) :: er post)) from by rw [A.out, if_neg (by rw [hf]; exact fun h => by cases h)])
    have HF := Lib.hid hf
    clear hf A
    simp only [Bool.not_true]
    go_upto_region 6 with (fail)
    have e6 := E3.out.c6
    have e7 := E3.out.c7
    go_cut [54] from 45 (fun s54 w' => Keeps none' wc w' ∧ s54 = .bool (!(shiftP e.x && shiftP e.y)))
    case first =>
      have S1 := Lib.hid (fun w' => shift55 e.x w')
      have S2 := Lib.hid (fun w' => shift55 e.y w')
      cases h1 : shiftP e.x with
      | false =>
        rw [h1] at S1
        have FM := Lib.hid h1
        clear h1
        go_wp2_with ((with_reducible refine (S1.out _).mono ?_); rintro en w3 ⟨rfl, hw⟩; subst hw)
        go_meet
        case rel => exact ⟨Keeps.refl _ _, by rw [FM.out]; rfl⟩
      | true =>
        rw [h1] at S1
        have FM := Lib.hid h1
        clear h1
        go_wp2_with ((first | (with_reducible refine (S1.out _).mono ?_) | (with_reducible refine (S2.out _).mono ?_)); rintro en w3 ⟨rfl, hw⟩; subst hw)
        go_meet
        case rel => exact ⟨Keeps.refl _ _, by rw [FM.out]; simp⟩
    case rest =>
    obtain ⟨kc2, rfl⟩ := hcut
    have K4 := Lib.hid (K3.out.next kc2)
    have E4 := Lib.hid (E3.out.later kc2)
    clear kc2 e6 e7 K3 E3
    cases hs : (shiftP e.x && shiftP e.y) with
    | false =>
      have A2 := Lib.hid (show RES = .error 31 from by rw [A1.out, if_pos hs])
      clear hs
      go_wp2_with fail
      go_ret
      exact Edited.err A2.out K4.out
    | true =>
      have A2 := Lib.hid (show RES = .ok (plugP (C.map Frm.er) (er pre ++ .mk (setP d (paintN d.w e.y e.x e.w.toNat e.p e.h.toNat d.p)) (er kids) :: er post)) from by rw [A1.out, if_neg (by rw [hs]; exact fun h => by cases h)])
      have HS := Lib.hid hs
      clear hs A1
      obtain ⟨H, M, pb, po, RO⟩ := rows_ok HP.out.1 HF.out
      have W4 := Lib.hid (HW.out.later K4.out)
      have L4 := Lib.hid (at_layer W4.out)
      have NE := Lib.hid (show E ∉ lp.blk from fun he => by
        have := ((at_layer HW.out).2.2.1.range E he).2
        have := HE.out
        omega)
      have NP := Lib.hid (show pb ∉ lp.blk from fun he => by
        have := ((at_layer HW.out).2.2.1.range pb he).1
        have h2 : pb < B := HP.out.2 _ RO.pa
        omega)
      have ROH := Lib.hid RO
      have e9 := E4.out.c9
      rw [RO.hh] at e9
      have c5 := L4.out.1
      have c7 := L4.out.2.1
      rw [← HLB.out, ← HLO.out] at c5 c7
      have C57 := Lib.hid (And.intro c5 c7)
      clear RO c5 c7
      simp only [Bool.not_true]
      go_wp2_with fail
      go_loopw [57] (fun s57 wr => ∃ i : Nat, i ≤ H ∧ s57 = .int .i64 i ∧ OwnR B wr 3 1 lp (ints (paintN d.w e.y e.x M e.p i d.p)) ∧ Keeps (fun q => q ∈ lp.blk) wc wr) (fun s57 _ => H - (intOf s57).toNat)
      case atStart => exact ⟨0, Nat.zero_le _, rfl, by rw [paintN]; exact L4.out.2.2.1, Keeps.refl _ _⟩
      case round =>
        obtain ⟨i, hi, rfl, ho, hk⟩ := hrel
        have OI := Lib.hid ho
        have K := Lib.hid hk
        clear ho hk e9
        by_cases hlt : i < H
        · have tk : decide ((i : Int) < (H : Int)) = true := by simp; omega
          have RF := Lib.hid (ROH.out.facts hlt HP.out.1.2 HS.out)
          have RP := HP.out.1.keep K4.out (fun _ _ h => h)
          rw [ROH.out.eta] at RP
          have c5 := K.out.cellS (by rw [HLB.out]; exact L4.out.2.2.2) C57.out.1
          have c7 := K.out.cellS (by rw [HLB.out]; exact L4.out.2.2.2) C57.out.2
          have PC := Lib.hid (fun (w' : World) (k : Keeps none' wr w') => row_call RF.out RP (K.out.trans k (fun _ _ h => h.elim)) (OI.out.later k) (k.cell c5) (k.cell c7) NP.out (by rw [HLB.out]; exact L4.out.2.2.2) HH.out.1)
          clear RP c5 c7
          have RFL := RF.out
          have yw := RFL.yw
          have iw := RFL.iw
          have lw := RFL.lw
          have hwv := RFL.hw
          have LL := Lib.hid (And.intro RFL.s1 RFL.s2)
          clear RFL RF
          have e6 := K.out.cellS NE.out E4.out.c6
          have e7 := K.out.cellS NE.out E4.out.c7
          have e8 := K.out.cellS NE.out E4.out.c8
          have e10 := K.out.cellS NE.out E4.out.c10
          rw [ROH.out.hw] at e8
          rw [ROH.out.pa] at e10
          have HLT := Lib.hid (And.intro hlt iw)
          obtain ⟨LOW, hLOW⟩ : ∃ LOW, LOW = i * M := ⟨_, rfl⟩
          have ELOW := Lib.hid hLOW
          rw [← hLOW] at PC lw hwv LL
          clear hLOW
          obtain ⟨HI, hHI⟩ : ∃ HI, HI = LOW + M := ⟨_, rfl⟩
          have n4 : ¬ p.c = LOW := by have := LL.out.1; have := ROH.out.m1; omega
          have s1 : HI ≤ p.c := by rw [hHI]; exact LL.out.1
          have s3 : LOW ≤ HI := by omega
          have s1i : (HI : Int) ≤ (p.c : Int) := by omega
          have s3i : (LOW : Int) ≤ (HI : Int) := by omega
          have sm : HI - LOW = M := by omega
          have smi : ((HI : Int) - (LOW : Int)).toNat = M := by omega
          rw [← hHI] at hwv
          clear hHI
          have lw2 : IntKind.i64.wrap ((i : Int) * (M : Int)) = (LOW : Int) := by rw [IntWalk.i64_left]; exact lw
          have hw2 : IntKind.i64.wrap (((i : Int) + 1) * (M : Int)) = (HI : Int) := by rw [IntWalk.i64_left]; exact hwv
          have yw2 : IntKind.i64.wrap (e.y + (i : Int)) = e.y + (i : Int) := by rw [IntWalk.i64_left]; exact yw
          have iw2 : IntKind.i64.wrap ((i : Int) + 1) = (i : Int) + 1 := by rw [IntWalk.i64_left]; exact iw
          go_upto_region 11 with (fail)
          go_still_tail 19, (by kernel_rfl)
          change wpList _ _ _ _ _ (World.drew _)
          have pd : Keeps none' wr wr.drew := (Keeps.refl none' wr).drew
          have PD := Lib.hid (PC.out _ pd)
          generalize wr.drew = wd at *
          go_wp2_with ((with_reducible refine PD.out.mono ?_); rintro en w3 ⟨rfl, ho3, hk3⟩)
          go_roundw
          case rel => exact ⟨i + 1, Nat.succ_le_of_lt HLT.out.1, rfl, by rw [paintN, ← ELOW.out]; exact ho3, (K.out.trans pd (fun _ _ h => h.elim)).trans hk3 (fun _ _ h => h)⟩
          case measure => exact meas_lt HLT.out.1 rfl
        · obtain rfl : i = H := by omega
          have tk : decide ((i : Int) < (i : Int)) = false := by simp
          clear hlt hi
          go_wp2_with fail
          go_ret
          refine Edited.good A2.out ?_ (paint_whole W4.out (P := paintN d.w e.y e.x M e.p i d.p) OI.out K.out) ?_
          · rw [er_plug, er_append, ROH.out.hh, ROH.out.hw, Int.toNat_natCast, Int.toNat_natCast, er]
          · exact (keeps_weak K4.out (fun q _ e => e.elim)).trans K.out (fun q _ hq => ((at_layer HW.out).2.2.1.range q hq).1)
/-- Painting. -/
theorem paint33 (B R : Nat) (x y z : Int) (h : Hd) (ls : List Loc) (e : PEd) (p s q : Hd) (w : World) (W : Whole B w R x y z h ls) {z0 : Int} (G : Good z0 (er ls)) (hB : B ≤ w.heap.size) (PR : ReadR w 3 1 p (ints e.p)) (PB : ∀ u, p.a = some u → u.block < B)
    (hw : ∀ r, fnd e.id (er ls) = some r → r.d.kind = 0 → 0 ≤ r.d.w ∧ r.d.w ≤ 32768) :
    Calls Try.prog 33 #[.pointer (some ⟨R, 0, none⟩), edV e p s q] w fun en w' => Edited B w R x y z (paintP (er ls) e.id e.x e.y e.w e.h e.p) en w' := by
  rcases kind_doc e.id 0 R h ls with ⟨h0, kv⟩ | ⟨h0, hf, kv⟩ | ⟨C, pre, l, post, h', h0, hf, e1, e2, kv⟩
  · exact paint_no B R x y z h ls e p s q w W G ⟨41, by decide, kv, by unfold paintP; rw [if_pos h0]⟩
  · exact paint_no B R x y z h ls e p s q w W G ⟨40, by decide, kv, by unfold paintP; rw [if_neg h0, hf]⟩
  · by_cases hk : l.dat.kind = 0
    · obtain ⟨d, lp, lm, lq, lk, kids⟩ := l
      subst e1 e2
      refine paint_yes B R x y z e p s q w C h' pre post d lp lm lq lk kids W hB G PR PB (hw _ hf hk) (by rw [kv, if_pos hk]) ?_
      unfold paintP
      rw [if_neg h0, hf]
      exact if_pos hk
    · refine paint_no B R x y z h ls e p s q w W G ⟨41, by decide, by rw [kv, if_neg hk], ?_⟩
      unfold paintP
      rw [if_neg h0, hf]
      exact if_neg hk
end Go.Proofs.Ytfcpbpfemmdklaa
