/- Texts of a layer, one behind the other. -/
import Derived.Test.YtfcpbpfemmdklaaMW
import Derived.Test.YtfcpbpfemmdklaaZQ
import Derived.Deep.CutBlock
import Derived.Test.YtfcpbpfemmdklaaMLa
/- TreeBack's walk (4). (printed by genZZJ.py) -/
namespace Go.Proofs.Ytfcpbpfemmdklaa
open Go.RowKit Go.Lib
set_option linter.unusedSimpArgs false
set_option linter.unusedVariables false

theorem mi_le {i n : Nat} {z : Int} (h : z ≤ (i : Int) + 1) (hi : i ≤ n) (hn : n ≤ 20) : z ≤ 4611686018427387904 := by omega
theorem next_le {i : Nat} {z : Int} (h : z ≤ (i : Int) + 1) (e : PEd) : nextZ z e ≤ ((i + 1 : Nat) : Int) + 1 := by
  unfold nextZ
  split <;> omega
theorem measB {i n : Nat} (h : i < n) : n - (i + 1) < n - i := by omega
/-- Do with an edit that came in, which is taken. -/
theorem play_ok {w : World} {A : Nat} {z : Int} {w' : World} {h : Hd} {l : List Loc} {B : Nat} {ls' : List Lay} (x : EdH) (R : PlayD w A 8 8 z w' h l B) (hz : z ≤ 4611686018427387904) (O : EdOk w' x.e x.p x.s x.q) (d : doP 8 8 z (er l) x.e = .ok ls') :
    Calls Try.prog 8 #[.agg #[.int .i64 8, .int .i64 8, .int .i64 z, .slice h.a h.n h.c], .agg x.cells.toArray] w' fun en w3 => ∃ h' lsL, en = .returned (.tuple #[.agg #[.int .i64 8, .int .i64 8, .int .i64 (nextZ z x.e), .slice h'.a h'.n h'.c], .int .i64 0]) ∧ Inv RW (nextZ z x.e) (er lsL) ∧ NewD w'.heap.size w3 h' lsL ∧ Keeps none' w' w3 := by
  refine (do_any 8 8 z h l x.e x.p x.s x.q w' R.new.docV R.inv.good hz R.inv.wok O).mono ?_
  intro en w3 D
  rw [d] at D
  obtain ⟨h', lsL, e1, e2, e3, e4⟩ := D
  exact ⟨h', lsL, e1, by rw [e2]; exact doP_inv (closed_rw 8 8) R.inv d, e3, e4⟩
/-- Do with an edit that came in, which is refused. -/
theorem play_bad' {w : World} {A : Nat} {z : Int} {w' : World} {h : Hd} {l : List Loc} {B : Nat} {f : Int} (x : EdH) (R : PlayD w A 8 8 z w' h l B) (hz : z ≤ 4611686018427387904) (O : EdOk w' x.e x.p x.s x.q) (d : doP 8 8 z (er l) x.e = .error f) :
    Calls Try.prog 8 #[.agg #[.int .i64 8, .int .i64 8, .int .i64 z, .slice h.a h.n h.c], .agg x.cells.toArray] w' fun en w3 => en = .returned (.tuple #[.agg #[.int .i64 0, .int .i64 0, .int .i64 0, .slice none 0 0], .int .i64 f]) ∧ Keeps none' w' w3 := by
  refine (do_any 8 8 z h l x.e x.p x.s x.q w' R.new.docV R.inv.good hz R.inv.wok O).mono ?_
  intro en w3 D
  rw [d] at D
  exact D
/-- Do with a hiding that is taken. -/
theorem hide_ok {x y z z0 : Int} {h : Hd} {ls : List Loc} {ls' : List Lay} (id n : Int) (w : World) (D : DocV w h ls) (G : Good z0 (er ls)) (e : hideP (er ls) id n = .ok ls') :
    Calls Try.prog 8 #[docV x y z h, edV (ed 6 id 0 0 n 0 0) Hd.nil Hd.nil Hd.nil] w fun en w' => ∃ h' lsL, en = .returned (.tuple #[docV x y z h', .int .i64 0]) ∧ er lsL = ls' ∧ NewD w.heap.size w' h' lsL ∧ Keeps none' w w' := by
  refine (doHide x y z h ls (ed 6 id 0 0 n 0 0) Hd.nil Hd.nil Hd.nil w D G rfl).mono ?_
  intro en w' hd
  have e' : hideP (er ls) (ed 6 id 0 0 n 0 0).id (ed 6 id 0 0 n 0 0).n = .ok ls' := e
  rw [e'] at hd
  exact hd
/-- An edit that masks. -/
def mk7 (id n : Int) (shape : List (Int × Int)) : PEd := ⟨7, id, 0, 0, n, 0, 0, 0, 0, 0, [], shape, 0, 0, 0, 0, 0, 0, []⟩
theorem mask_ok {x y z z0 : Int} {h s : Hd} {ls : List Loc} {ls' : List Lay} {shape : List (Int × Int)} (id n : Int) (w : World) (D : DocV w h ls) (G : Good z0 (er ls)) (SP : La.Pts w s.a s.n (shape.map ptOf)) (sn : s.n ≤ 33554432) (e : maskP (er ls) x y (mk7 id n shape) = .ok ls') :
    Calls Try.prog 8 #[docV x y z h, edV (mk7 id n shape) Hd.nil s Hd.nil] w fun en w' => ∃ h' lsL, en = .returned (.tuple #[docV x y z h', .int .i64 0]) ∧ er lsL = ls' ∧ NewD w.heap.size w' h' lsL ∧ Keeps none' w w' := by
  refine (doMask x y z h ls (mk7 id n shape) Hd.nil s Hd.nil w D G ⟨SP, sn⟩ rfl).mono ?_
  intro en w' hd
  rw [e] at hd
  exact hd
theorem mask_bad {x y z z0 : Int} {h s : Hd} {ls : List Loc} {f : Int} {shape : List (Int × Int)} (id n : Int) (w : World) (D : DocV w h ls) (G : Good z0 (er ls)) (SP : La.Pts w s.a s.n (shape.map ptOf)) (sn : s.n ≤ 33554432) (e : maskP (er ls) x y (mk7 id n shape) = .error f) :
    Calls Try.prog 8 #[docV x y z h, edV (mk7 id n shape) Hd.nil s Hd.nil] w fun en w' => en = .returned (.tuple #[docV 0 0 0 Hd.nil, .int .i64 f]) ∧ Keeps none' w w' := by
  refine (doMask x y z h ls (mk7 id n shape) Hd.nil s Hd.nil w D G ⟨SP, sn⟩ rfl).mono ?_
  intro en w' hd
  rw [e] at hd
  exact hd
theorem pts_nil (w : World) : La.Pts w Hd.nil.a Hd.nil.n (([] : List (Int × Int)).map ptOf) := ⟨rfl, fun p hp => (by cases hp), fun h => absurd h (by simp [Hd.nil])⟩
theorem move_inv {z : Int} {ls ls' : List Lay} {id to_ at_ : Int} (I : Inv RW z ls) (e : moveP ls id to_ at_ = .ok ls') : Inv RW z ls' := moveInv I e
theorem hide_inv {z : Int} {ls : List Lay} {id : Int} {r : At'} (I : Inv RW z ls) (h : fnd id ls = some r) : Inv RW z (hidden r) := turnInv I h rfl rfl (fun h => h)
theorem mask_inv {z : Int} {ls ls' : List Lay} {id : Int} {shape : List (Int × Int)} (I : Inv RW z ls) (e : maskP ls 8 8 (mk7 id 0 shape) = .ok ls') : Inv RW z ls' := by
  have h : doP 8 8 z ls (mk7 id 0 shape) = .ok ls' := by
    unfold doP
    simp only [mk7] at e ⊢
    simpa using e
  have := doP_inv (closed_rw 8 8) I h
  simpa [nextZ, mk7] using this
theorem unmask {z : Int} {ls ls' : List Lay} {id : Int} {shape : List (Int × Int)} {r : At'} (I : Inv RW z ls) (h : fnd id ls = some r) (hm : r.d.mask = []) (e : maskP ls 8 8 (mk7 id 0 shape) = .ok ls') : maskP ls' 8 8 (mk7 id 2 []) = .ok ls :=
  mask_off (R := RW) I h rfl (fun _ h => h) hm e (mk7 id 2 []) rfl rfl
theorem same_true {z : Int} {a b : List Lay} (e : a = b) : docB 8 8 z a 8 8 z b = true := by
  subst e
  simp [docB, sameP_true]
theorem same_false {z : Int} {a b : List Lay} (e : sameP a b = false) : docB 8 8 z a 8 8 z b = false := by
  simp [docB, e]
theorem zero48_row : (Try.prog.info? 48).map (·.size) = some zero48.size ∧ 19 = zero48.size ∧ zero48.all (·.oneCell') = true := ⟨size48, rfl, zero48_one⟩
theorem loc_row (l : Loc) : (Try.prog.info? 48).map (·.size) = some l.cells.toArray.size ∧ 19 = l.cells.toArray.size ∧ l.cells.toArray.all (·.oneCell') = true := by
  have e19 : l.cells.toArray.size = 19 := by rw [List.size_toArray, Loc.cells_length]
  refine ⟨by rw [e19]; exact size48, e19.symm, ?_⟩
  rw [Array.all_eq_true_iff_forall_mem]
  intro u hu
  exact l.cells_one u (by simpa using hu)
theorem loc_mask {B : Nat} {w : World} {d : Dat} {p m q k : Hd} {kids : List Loc} (o : Own B w [.mk d p m q k kids]) : m.n = d.mask.length := by
  unfold Own at o
  rw [All] at o
  have h := o.2.1.read.1.1.len
  simp [bytes] at h
  omega
theorem loc_dat {d : Dat} {p m q k : Hd} {kids : List Loc} {d' : Dat} {ks : List Lay} (e : er [.mk d p m q k kids] = [.mk d' ks]) : d = d' := by
  rw [er_cons] at e
  exact (Lay.mk.inj (List.cons.inj e).1).1
set_option maxRecDepth 100000 in
set_option maxHeartbeats 6400000 in
theorem back_walk (a sa : Option Addr) (n c sn sc : Nat) (id to_ at_ : Int) (shape : List (Int × Int)) (xs : List EdH) (w : World) (E : Eds w a n xs) (SP : La.Pts w sa sn (shape.map ptOf)) : Calls Try.prog 4 #[.slice a n c, .int .i64 id, .int .i64 to_, .int .i64 at_, .slice sa sn sc] w (Yes w) := by
  have AN := Lib.hid (anchor6 w)
  have B9 := fun w' => begun9 8 8 w' (by omega) (by omega)
  simp only [docV, docR, Hd.nil] at B9
  have BN := Lib.hid B9
  have HE := Lib.hid (And.intro E SP)
  clear B9 E SP
  go_enter Try.func4, Try.ntmps4
  go_upto_region 3 with ((with_reducible refine AN.out.mono ?_); rintro en w1 ⟨rfl, hk⟩; have K1 := Lib.hid hk; clear hk)
  go_upto_region 4 with ((with_reducible refine (BN.out w1).mono ?_); rintro en w2 ⟨rfl, hk⟩; have K2 := Lib.hid (K1.out.next hk); clear hk)
  have k3 := ((Keeps.refl none' (w2.alloc (.cells #[.int .i64 8, .int .i64 8, .int .i64 1, .slice none 0 0] 25))).alloc (.cells #[.int .i64 8, .int .i64 8, .int .i64 1, .slice none 0 0] 40))
  have A3 := Lib.hid ((Dc.new w2 8 8 1 Hd.nil).later k3)
  have K3 := Lib.hid ((K2.out.alloc (.cells #[.int .i64 8, .int .i64 8, .int .i64 1, .slice none 0 0] 25)).next k3)
  obtain ⟨A, hA⟩ : ∃ A, A = w2.heap.size := ⟨_, rfl⟩
  have AW := Lib.hid (show w.heap.size ≤ A from by rw [hA]; exact K2.out.size)
  rw [← hA] at A3
  rw [← hA]
  clear hA k3 K1 K2 AN BN
  generalize (w2.alloc (.cells #[.int .i64 8, .int .i64 8, .int .i64 1, .slice none 0 0] 25)).alloc (.cells #[.int .i64 8, .int .i64 8, .int .i64 1, .slice none 0 0] 40) = w3 at *
  have P3 := Lib.hid (PlayD.start A3.out K3.out AW.out)
  clear A3 AW
  have SM : Calls Try.prog 10 #[.slice a n c, .int .i64 20] w3 (SmallSays n 20 xs w3) := small_any a n c 20 xs w3 (by omega) ⟨HE.out.1.1, fun i x hx => (by
    obtain ⟨b, off, e1, e2, e3⟩ := HE.out.1.2 i x hx
    exact ⟨b, off, e1, fun j u hj => K3.out.cell (e2 j u hj), e3.later K3.out⟩)⟩
  unfold SmallSays at SM
  have SN := Lib.hid SM
  clear SM
  go_cut [49] from 42 (fun s49 w' => ∃ v : Bool, s49 = .bool v ∧ (v = false → n ≤ 20 ∧ (∀ x ∈ xs, SmallE x.p x.s x.q) ∧ sn ≤ 300) ∧ Keeps none' w3 w')
  case first =>
    by_cases t1 : 300 < sn
    · have d1 : decide ((sn : Int) > 300) = true := by simp; omega
      have d2 : decide (300 < sn) = true := by simp; omega
      clear t1
      go_wp2_with ((with_reducible refine SN.out.mono ?_); rintro en w4 ⟨b, rfl, hb, hk⟩; have J := Lib.hid hk; clear hb hk; cases b)
      all_goals
        go_meet
        case rel => exact ⟨true, rfl, fun h => (by cases h), J.out⟩
    · have S3 := Lib.hid (show sn ≤ 300 from by omega)
      have d1 : decide ((sn : Int) > 300) = false := by simp; omega
      have d2 : decide (300 < sn) = false := by simp; omega
      clear t1
      go_wp2_with ((with_reducible refine SN.out.mono ?_); rintro en w4 ⟨b, rfl, hb, hk⟩; have J := Lib.hid hk; have HB := Lib.hid hb; clear hb hk; cases b)
      · go_meet
        case rel => exact ⟨true, rfl, fun h => (by cases h), J.out⟩
      · go_meet
        case rel => exact ⟨false, rfl, fun _ => ⟨(HB.out (by first | trivial | rfl)).1, (HB.out (by first | trivial | rfl)).2, S3.out⟩, J.out⟩
  case rest =>
  obtain ⟨v, rfl, hv, kc⟩ := hcut
  have P4 := Lib.hid (P3.out.later kc)
  have HV := Lib.hid hv
  clear kc hv P3 K3 SN
  cases v with
  | true =>
    go_wp2_with fail
    go_ret
    exact ⟨rfl, P4.out.keeps⟩
  | false =>
  have HS := Lib.hid (HV.out rfl)
  clear HV
  go_wp2_with fail
  go_loopw [52] (fun s52 wr => ∃ (i : Nat) (z : Int) (h : Hd) (l : List Loc) (B : Nat), i ≤ n ∧ s52 = .int .i64 i ∧ z ≤ (i : Int) + 1 ∧ PlayD w A 8 8 z wr h l B) (fun s52 _ => n - (intOf s52).toNat)
  case atStart => exact ⟨0, 1, Hd.nil, [], A + 1, Nat.zero_le _, rfl, by omega, P4.out⟩
  case round =>
    clear P4
    obtain ⟨i, z, h, l, B, hin, rfl, hz, rr⟩ := hrel
    have RR := Lib.hid rr
    have HZ := Lib.hid hz
    clear rr hz
    by_cases hlt : i < n
    · have tk : decide ((i : Int) < (n : Int)) = true := by simp; omega
      have tk2 : decide (i < n) = true := by simp; omega
      obtain ⟨x, hx⟩ : ∃ x, xs[i]? = some x := ⟨_, List.getElem?_eq_getElem (by have := HE.out.1.1; omega)⟩
      have hsm := HS.out.2.1 x (List.mem_of_getElem? hx)
      obtain ⟨b, off, e0, hr, he⟩ := HE.out.1.2 i x hx
      have hn20 := HS.out.1
      have iw : wrap64 ((i : Int) + 1) = (i : Int) + 1 := wrap64_id _ (by omega) (by omega)
      subst e0
      have RG := Lib.hid (show wr.rangeAt b (off + i * 19) x.cells from fun j u hj => RR.out.keeps.cell (hr j u hj))
      have LF := Lib.hid (ed_row35 x)
      have OK := Lib.hid ((he.later RR.out.keeps).ok hsm)
      have ZL := Lib.hid (mi_le HZ.out hin hn20)
      have HI := Lib.hid (And.intro hlt hin)
      have hii : (i : Int) < n := by omega
      clear hx hr he hsm hn20
      go_upto_region 9 with (first
        | (refine wpList_load_mid rfl 35 _ rfl b (off + i * 19) rfl x.cells _ RG.out Try.underlying35 rfl LF.out.1 ?_)
        | (refine wpList_store_row rfl 35 _ _ rfl wr.heap.size x.cells.toArray rfl rfl 35 _ (heap_alloc_new _ _) LF.out.2.1 (by exact LF.out.2.2.1) LF.out.2.2.2 ?_))
      have EB := Lib.hid (show ((wr.alloc (.cells #[.int .i64 0, .int .i64 0, .int .i64 0, .int .i64 0, .int .i64 0, .int .i64 0, .int .i64 0, .int .i64 0, .int .i64 0, .int .i64 0, .slice none 0 0, .slice none 0 0, .int .i64 0, .int .i64 0, .int .i64 0, .int .i64 0, .int .i64 0, .int .i64 0, .slice none 0 0] 35)).setRow wr.heap.size x.cells.toArray).heap[wr.heap.size]? = some (.cells x.cells.toArray 35 (0, 0)) from setRow_heap _ _ _ _ _ _ (heap_alloc_new _ _))
      have k2 := ((Keeps.refl none' wr).alloc (.cells #[.int .i64 0, .int .i64 0, .int .i64 0, .int .i64 0, .int .i64 0, .int .i64 0, .int .i64 0, .int .i64 0, .int .i64 0, .int .i64 0, .slice none 0 0, .slice none 0 0, .int .i64 0, .int .i64 0, .int .i64 0, .int .i64 0, .int .i64 0, .int .i64 0, .slice none 0 0] 35)).setRow (R := wr.heap.size) (Nat.le_refl _) x.cells.toArray
      have R2 := Lib.hid (RR.out.later k2)
      have O2 := Lib.hid (OK.out.later k2)
      generalize (wr.alloc (.cells #[.int .i64 0, .int .i64 0, .int .i64 0, .int .i64 0, .int .i64 0, .int .i64 0, .int .i64 0, .int .i64 0, .int .i64 0, .int .i64 0, .slice none 0 0, .slice none 0 0, .int .i64 0, .int .i64 0, .int .i64 0, .int .i64 0, .int .i64 0, .int .i64 0, .slice none 0 0] 35)).setRow wr.heap.size x.cells.toArray = w5 at *
      obtain ⟨L, hL⟩ : ∃ L, L = wr.heap.size := ⟨_, rfl⟩
      rw [← hL] at EB
      rw [← hL]
      clear hL RG RR OK k2
      have c0 := R2.out.doc.c0
      have c1 := R2.out.doc.c1
      have c2 := R2.out.doc.c2
      have c3 := R2.out.doc.c3
      cases hd : doP 8 8 z (er l) x.e with
      | error f =>
        have C1 := Lib.hid (play_bad' x R2.out ZL.out O2.out hd)
        have hf := doP_err hd
        have t1 : (f == 0) = false := by simpa using hf
        have t2 : decide (f = 0) = false := by simpa using hf
        clear hd hf
        go_upto_region 10 with (first
          | (refine wpList_load_row rfl 35 _ rfl L rfl 35 x.cells.toArray (0, 0) _ EB.out Try.underlying35 rfl LF.out.2.1 ?_)
          | ((with_reducible refine C1.out.mono ?_); rintro en w6 ⟨rfl, hk⟩; have K6 := Lib.hid hk; clear hk))
        have R3 := Lib.hid (R2.out.later (K6.out.alloc (.cells #[.int .i64 0, .int .i64 0, .int .i64 0, .slice none 0 0] 25)))
        clear K6 C1 c0 c1 c2 c3 R2 O2 LF EB
        generalize w6.alloc (.cells #[.int .i64 0, .int .i64 0, .int .i64 0, .slice none 0 0] 25) = w7 at *
        go_wp2_with fail
        go_roundw
        case rel => exact ⟨i + 1, z, h, l, B, HI.out.1, by go_num, by have := HZ.out; omega, R3.out⟩
        case measure => exact meas_lt HI.out.1 iw
      | ok ls' =>
        have C1 := Lib.hid (play_ok x R2.out ZL.out O2.out hd)
        clear hd
        go_upto_region 10 with (first
          | (refine wpList_load_row rfl 35 _ rfl L rfl 35 x.cells.toArray (0, 0) _ EB.out Try.underlying35 rfl LF.out.2.1 ?_)
          | ((with_reducible refine C1.out.mono ?_); rintro en w6 ⟨h', l', rfl, e1, n1, hk⟩; have K6 := Lib.hid hk; have E1 := Lib.hid e1; have N1 := Lib.hid n1; clear hk e1 n1))
        obtain ⟨zz, hzz⟩ : ∃ zz, zz = nextZ z x.e := ⟨_, rfl⟩
        have HZ2 := Lib.hid (show zz ≤ ((i + 1 : Nat) : Int) + 1 from by rw [hzz]; exact next_le HZ.out x.e)
        rw [← hzz] at E1
        rw [← hzz]
        clear hzz
        have ka := (Keeps.refl none' w6).alloc (.cells #[.int .i64 8, .int .i64 8, .int .i64 zz, .slice h'.a h'.n h'.c] 25)
        have B6 := Lib.hid (Dc.new w6 8 8 zz h')
        have H6 := Lib.hid (K6.out.next ka)
        have N6 := Lib.hid (N1.out.later ka)
        have A6 := Lib.hid (R2.out.doc.later H6.out)
        obtain ⟨Gb, hGb⟩ : ∃ Gb, Gb = w6.heap.size := ⟨_, rfl⟩
        rw [← hGb] at B6
        rw [← hGb]
        clear hGb ka c0 c1 c2 c3 K6 N1 C1 LF EB
        generalize w6.alloc (.cells #[.int .i64 8, .int .i64 8, .int .i64 zz, .slice h'.a h'.n h'.c] 25) = w7 at *
        have c0 := B6.out.c0
        have c1 := B6.out.c1
        have c2 := B6.out.c2
        have c3 := B6.out.c3
        obtain ⟨⟨b0, b1, b2, b3⟩, bf⟩ := four_cells A6.out
        have f0 := bf 0
        have f1 := bf 1
        have f2 := bf 2
        have f3 := bf 3
        clear bf
        have NX := Lib.hid (R2.out.next H6.out N6.out E1.out)
        clear R2 O2 A6 B6 H6 N6 E1
        go_wp2_with fail
        go_roundw
        case rel => exact ⟨i + 1, zz, h', l', _, HI.out.1, by go_num, HZ2.out, NX.out⟩
        case measure => exact meas_lt HI.out.1 iw
    · obtain rfl : i = n := by omega
      have tk : decide ((i : Int) < (i : Int)) = false := by simp
      have ZL := Lib.hid (mi_le HZ.out (Nat.le_refl i) HS.out.1)
      have S3 := Lib.hid HS.out.2.2
      have SP := Lib.hid (show La.Pts wr sa sn (shape.map ptOf) from HE.out.2.later (fun j hj => RR.out.keeps.later j hj))
      clear HZ HS HE hlt hin
      have c0 := RR.out.doc.c0
      have c1 := RR.out.doc.c1
      have c2 := RR.out.doc.c2
      have c3 := RR.out.doc.c3
      have CN : pcnt (er l) ≤ 4096 := RR.out.inv.good.cnt
      have PA := parent_any 8 8 z h l id wr RR.out.new.docV CN
      have PF := fun w' (k : Keeps none' wr w') => find12 8 8 z h l id w' (RR.out.new.later k).docV (by rw [cnt_eq]; omega)
      simp only [docV] at PA PF
      cases hf : fnd id (er l) with
      | none =>
        rw [hf] at PA PF
        simp only [parV] at PA
        simp only [FoundL] at PF
        have PC := Lib.hid PA
        have FC := Lib.hid PF
        have AA := Lib.hid RR.out.doc
        have ZR := Lib.hid zero48_row
        clear PA PF hf CN
        go_upto_region 14 with ((with_reducible refine PC.out.mono ?_); rintro en u1 ⟨rfl, hk⟩; have J := Lib.hid hk; have c0 := (AA.out.later hk).c0; have c1 := (AA.out.later hk).c1; have c2 := (AA.out.later hk).c2; have c3 := (AA.out.later hk).c3; clear hk)
        go_upto_region 15 with (first
          | ((with_reducible refine (FC.out u1 J.out).mono ?_); rintro en u2 ⟨rfl, hk⟩; have J2 := Lib.hid hk; clear hk)
          | (refine wpList_store_row rfl 48 _ _ rfl u2.heap.size zero48 rfl rfl 48 _ (heap_alloc_new _ _) ZR.out.1 (by exact ZR.out.2.1) ZR.out.2.2 ?_))
        have Q := Lib.hid (RR.out.keeps.next (J.out.next (J2.out.next (((Keeps.refl none' u2).alloc (.cells #[.int .i64 0, .int .i64 0, .bool false, .int .i64 0, .int .i64 0, .int .i64 0, .int .i64 0, .slice none 0 0, .slice none 0 0, .int .i64 0, .int .i64 0, .int .i64 0, .int .i64 0, .int .i64 0, .int .i64 0, .bool false, .int .i64 0, .slice none 0 0, .slice none 0 0] 48)).setRow (R := u2.heap.size) (Nat.le_refl _) zero48))))
        generalize (u2.alloc (.cells #[.int .i64 0, .int .i64 0, .bool false, .int .i64 0, .int .i64 0, .int .i64 0, .int .i64 0, .slice none 0 0, .slice none 0 0, .int .i64 0, .int .i64 0, .int .i64 0, .int .i64 0, .int .i64 0, .int .i64 0, .bool false, .int .i64 0, .slice none 0 0, .slice none 0 0] 48)).setRow u2.heap.size zero48 = u3 at *
        go_wp2_with fail
        go_ret
        exact ⟨rfl, Q.out⟩
      | some r =>
        rw [hf] at PA PF
        simp only [parV] at PA
        simp only [FoundL] at PF
        obtain ⟨P, hP⟩ : ∃ P, P = pidOf r.C := ⟨_, rfl⟩
        obtain ⟨Q, hQ⟩ : ∃ Q, Q = (r.pre.length : Int) := ⟨_, rfl⟩
        rw [← hP, ← hQ] at PA
        have MB := Lib.hid (fun ls' (e : moveP (er l) id to_ at_ = .ok ls') => show moveP ls' id P Q = .ok (er l) from by rw [hP, hQ]; exact move_back RR.out.inv hf e)
        have HF := Lib.hid hf
        have PC := Lib.hid PA
        have FC := Lib.hid PF
        have AA := Lib.hid RR.out.doc
        have LF := Lib.hid loc_row
        clear PA PF hf CN hP hQ
        go_upto_region 14 with ((with_reducible refine PC.out.mono ?_); rintro en u1 ⟨rfl, hk⟩; have J := Lib.hid hk; have c0 := (AA.out.later hk).c0; have c1 := (AA.out.later hk).c1; have c2 := (AA.out.later hk).c2; have c3 := (AA.out.later hk).c3; clear hk)
        go_upto_region 15 with (first
          | ((with_reducible refine (FC.out u1 J.out).mono ?_); rintro en u2 ⟨⟨d, p, m, q, k, kids⟩, rfl, hl, ho, hn, hk⟩; have HL := Lib.hid (And.intro hl ho); have J2 := Lib.hid hk; clear hk hl ho hn)
          | (refine wpList_store_row rfl 48 _ _ rfl u2.heap.size (Loc.mk d p m q k kids).cells.toArray rfl rfl 48 _ (heap_alloc_new _ _) (LF.out (.mk d p m q k kids)).1 (by exact (LF.out (.mk d p m q k kids)).2.1) (LF.out (.mk d p m q k kids)).2.2 ?_))
        have GB := Lib.hid (show Lb ((u2.alloc (.cells #[.int .i64 0, .int .i64 0, .bool false, .int .i64 0, .int .i64 0, .int .i64 0, .int .i64 0, .slice none 0 0, .slice none 0 0, .int .i64 0, .int .i64 0, .int .i64 0, .int .i64 0, .int .i64 0, .int .i64 0, .bool false, .int .i64 0, .slice none 0 0, .slice none 0 0] 48)).setRow u2.heap.size (Loc.mk d p m q k kids).cells.toArray) u2.heap.size d p m q k from setRow_heap _ _ _ _ _ _ (heap_alloc_new _ _))
        have RV := Lib.hid (RR.out.later (J.out.next (J2.out.next (((Keeps.refl none' u2).alloc (.cells #[.int .i64 0, .int .i64 0, .bool false, .int .i64 0, .int .i64 0, .int .i64 0, .int .i64 0, .slice none 0 0, .slice none 0 0, .int .i64 0, .int .i64 0, .int .i64 0, .int .i64 0, .int .i64 0, .int .i64 0, .bool false, .int .i64 0, .slice none 0 0, .slice none 0 0] 48)).setRow (R := u2.heap.size) (Nat.le_refl _) (Loc.mk d p m q k kids).cells.toArray))))
        have SV := Lib.hid (show La.Pts ((u2.alloc (.cells #[.int .i64 0, .int .i64 0, .bool false, .int .i64 0, .int .i64 0, .int .i64 0, .int .i64 0, .slice none 0 0, .slice none 0 0, .int .i64 0, .int .i64 0, .int .i64 0, .int .i64 0, .int .i64 0, .int .i64 0, .bool false, .int .i64 0, .slice none 0 0, .slice none 0 0] 48)).setRow u2.heap.size (Loc.mk d p m q k kids).cells.toArray) sa sn (shape.map ptOf) from SP.out.later (fun j hj => (J.out.next (J2.out.next (((Keeps.refl none' u2).alloc (.cells #[.int .i64 0, .int .i64 0, .bool false, .int .i64 0, .int .i64 0, .int .i64 0, .int .i64 0, .slice none 0 0, .slice none 0 0, .int .i64 0, .int .i64 0, .int .i64 0, .int .i64 0, .int .i64 0, .int .i64 0, .bool false, .int .i64 0, .slice none 0 0, .slice none 0 0] 48)).setRow (R := u2.heap.size) (Nat.le_refl _) (Loc.mk d p m q k kids).cells.toArray))).later j hj))
        have DM := Lib.hid (show d = r.d ∧ m.n = r.d.mask.length from ⟨loc_dat HL.out.1, by rw [loc_mask HL.out.2, loc_dat HL.out.1]⟩)
        obtain ⟨G, hG⟩ : ∃ G, G = u2.heap.size := ⟨_, rfl⟩
        rw [← hG] at GB RV SV
        rw [← hG]
        clear hG LF FC HL c0 c1 c2 c3 J J2 PC AA RR SP
        generalize (u2.alloc (.cells #[.int .i64 0, .int .i64 0, .bool false, .int .i64 0, .int .i64 0, .int .i64 0, .int .i64 0, .slice none 0 0, .slice none 0 0, .int .i64 0, .int .i64 0, .int .i64 0, .int .i64 0, .int .i64 0, .int .i64 0, .bool false, .int .i64 0, .slice none 0 0, .slice none 0 0] 48)).setRow G (Loc.mk d p m q k kids).cells.toArray = v1 at *
        go_upto_if 80 with fail
        go_cut [] from 23 (fun w' => w' = v1)
        case first =>
          go_wp2_with fail
          go_meet
          case rel => rfl
        case rest =>
        obtain rfl := hcut
        clear tk
        go_step
        go_step
        -- moved there and back
        go_cut [] from 23 (fun w' => Keeps none' wc w')
        case first =>
          have c0 := RV.out.doc.c0
          have c1 := RV.out.doc.c1
          have c2 := RV.out.doc.c2
          have c3 := RV.out.doc.c3
          cases hm : moveP (er l) id to_ at_ with
          | error f =>
            have hf := moveP_err hm
            have t1 : (f == 0) = false := by simpa using hf
            have t2 : decide (f = 0) = false := by simpa using hf
            have C1 := move_bad (x := 8) (y := 8) id to_ at_ wc RV.out.new.docV RV.out.inv.good hm
            simp only [docV, edV, edCells, ed, Hd.nil] at C1
            have CC := Lib.hid C1
            clear C1 hm hf
            go_wp2_with ((with_reducible refine CC.out.mono ?_); rintro en u1 ⟨rfl, hk⟩; have J := Lib.hid hk; clear hk)
            go_meet
            case rel => exact J.out.alloc _
          | ok lsG =>
            have IG := Lib.hid (move_inv RV.out.inv hm)
            have hb := MB.out lsG hm
            have C1 := move_ok (x := 8) (y := 8) id to_ at_ wc RV.out.new.docV RV.out.inv.good hm
            simp only [docV, edV, edCells, ed, Hd.nil] at C1
            have CC := Lib.hid C1
            have HB := Lib.hid hb
            clear C1 hm hb
            go_upto_region 18 with ((with_reducible refine CC.out.mono ?_); rintro en u1 ⟨hG, lG, rfl, eG, nG, hk⟩; have J := Lib.hid hk; have EG := Lib.hid eG; have NG := Lib.hid nG; clear hk eG nG)
            have ka := (Keeps.refl none' u1).alloc (.cells #[.int .i64 8, .int .i64 8, .int .i64 z, .slice hG.a hG.n hG.c] 25)
            have DG := Lib.hid (Dc.new u1 8 8 z hG)
            have JG := Lib.hid (J.out.next ka)
            have NG2 := Lib.hid (NG.out.later ka)
            obtain ⟨X, hX⟩ : ∃ X, X = u1.heap.size := ⟨_, rfl⟩
            rw [← hX] at DG
            rw [← hX]
            clear hX ka c0 c1 c2 c3 J NG CC
            generalize u1.alloc (.cells #[.int .i64 8, .int .i64 8, .int .i64 z, .slice hG.a hG.n hG.c] 25) = v2 at *
            have c0 := DG.out.c0
            have c1 := DG.out.c1
            have c2 := DG.out.c2
            have c3 := DG.out.c3
            have C2 := move_ok (x := 8) (y := 8) id P Q v2 NG2.out.docV (z := z) (by rw [EG.out]; exact IG.out.good) (by rw [EG.out]; exact HB.out)
            simp only [docV, edV, edCells, ed, Hd.nil] at C2
            have CC := Lib.hid C2
            clear C2
            go_upto_region 20 with ((with_reducible refine CC.out.mono ?_); rintro en u2 ⟨hH, lH, rfl, eH, nH, hk⟩; have J := Lib.hid hk; have EH := Lib.hid eH; have NH := Lib.hid nH; clear hk eH nH)
            have ka := (Keeps.refl none' u2).alloc (.cells #[.int .i64 8, .int .i64 8, .int .i64 z, .slice hH.a hH.n hH.c] 25)
            have DH := Lib.hid (Dc.new u2 8 8 z hH)
            have JH := Lib.hid (JG.out.next (J.out.next ka))
            have NH2 := Lib.hid (NH.out.later ka)
            obtain ⟨Y, hY⟩ : ∃ Y, Y = u2.heap.size := ⟨_, rfl⟩
            rw [← hY] at DH
            rw [← hY]
            clear hY ka c0 c1 c2 c3 J NH CC
            generalize u2.alloc (.cells #[.int .i64 8, .int .i64 8, .int .i64 z, .slice hH.a hH.n hH.c] 25) = v3 at *
            have c0 := DH.out.c0
            have c1 := DH.out.c1
            have c2 := DH.out.c2
            have c3 := DH.out.c3
            have d0 := (RV.out.later JH.out).doc.c0
            have d1 := (RV.out.later JH.out).doc.c1
            have d2 := (RV.out.later JH.out).doc.c2
            have d3 := (RV.out.later JH.out).doc.c3
            have S1 := same13 8 8 z hH lH 8 8 z h l v3 NH2.out.docV (RV.out.later JH.out).new.docV
            rw [same_true EH.out] at S1
            simp only [docV] at S1
            have SS := Lib.hid S1
            clear S1
            go_wp2_with ((with_reducible refine SS.out.mono ?_); rintro en u3 ⟨rfl, hk⟩; have J := Lib.hid hk; clear hk)
            go_meet
            case rel => exact JH.out.next J.out
        case rest =>
        have RW1 := Lib.hid (RV.out.later hcut)
        have GB1 := Lib.hid (show Lb wc G d p m q k from (hcut.later G GB.out.lt).trans GB.out)
        have SV1 := Lib.hid (show La.Pts wc sa sn (shape.map ptOf) from SV.out.later (fun j hj => hcut.later j hj))
        clear hcut RV GB SV MB
        go_step
        go_step
        -- hidden and shown
        go_cut [] from 23 (fun w' => Keeps none' wc w')
        case first =>
          have g2 := GB1.out.c2
          have c0 := RW1.out.doc.c0
          have c1 := RW1.out.doc.c1
          have c2 := RW1.out.doc.c2
          have c3 := RW1.out.doc.c3
          cases hh : d.hid with
          | true =>
            rw [hh] at g2
            clear hh
            go_wp2_with fail
            go_meet
            case rel => exact Keeps.refl _ _
          | false =>
            rw [hh] at g2
            have hr : r.d.hid = false := by rw [← DM.out.1]; exact hh
            have OFF := Lib.hid (hide_off RW1.out.inv HF.out (fun h => h) hr)
            have NE := Lib.hid (hidden_ne RW1.out.inv HF.out (fun h => h) hr)
            have IG := Lib.hid (hide_inv RW1.out.inv HF.out)
            have C1 := hide_ok (x := 8) (y := 8) (z := z) id 1 wc RW1.out.new.docV RW1.out.inv.good (hide_on HF.out)
            simp only [docV, edV, edCells, ed, Hd.nil] at C1
            have CC := Lib.hid C1
            clear C1 hh hr
            go_upto_region 24 with ((with_reducible refine CC.out.mono ?_); rintro en u1 ⟨hG, lG, rfl, eG, nG, hk⟩; have J := Lib.hid hk; have EG := Lib.hid eG; have NG := Lib.hid nG; clear hk eG nG)
            have ka := (Keeps.refl none' u1).alloc (.cells #[.int .i64 8, .int .i64 8, .int .i64 z, .slice hG.a hG.n hG.c] 25)
            have DG := Lib.hid (Dc.new u1 8 8 z hG)
            have JG := Lib.hid (J.out.next ka)
            have NG2 := Lib.hid (NG.out.later ka)
            obtain ⟨X, hX⟩ : ∃ X, X = u1.heap.size := ⟨_, rfl⟩
            rw [← hX] at DG
            rw [← hX]
            clear hX ka c0 c1 c2 c3 g2 J NG CC
            generalize u1.alloc (.cells #[.int .i64 8, .int .i64 8, .int .i64 z, .slice hG.a hG.n hG.c] 25) = v2 at *
            have c0 := DG.out.c0
            have c1 := DG.out.c1
            have c2 := DG.out.c2
            have c3 := DG.out.c3
            have C2 := hide_ok (x := 8) (y := 8) (z := z) id 0 v2 NG2.out.docV (z0 := z) (by rw [EG.out]; exact IG.out.good) (by rw [EG.out]; exact OFF.out)
            simp only [docV, edV, edCells, ed, Hd.nil] at C2
            have CC := Lib.hid C2
            clear C2
            go_upto_region 25 with ((with_reducible refine CC.out.mono ?_); rintro en u2 ⟨hH, lH, rfl, eH, nH, hk⟩; have J := Lib.hid hk; have EH := Lib.hid eH; have NH := Lib.hid nH; clear hk eH nH)
            have ka := (Keeps.refl none' u2).alloc (.cells #[.int .i64 8, .int .i64 8, .int .i64 z, .slice hH.a hH.n hH.c] 25)
            have DH := Lib.hid (Dc.new u2 8 8 z hH)
            have JK := Lib.hid (J.out.next ka)
            have JH := Lib.hid (JG.out.next (J.out.next ka))
            have NH2 := Lib.hid (NH.out.later ka)
            obtain ⟨Y, hY⟩ : ∃ Y, Y = u2.heap.size := ⟨_, rfl⟩
            rw [← hY] at DH
            rw [← hY]
            clear hY ka c0 c1 c2 c3 J NH CC
            generalize u2.alloc (.cells #[.int .i64 8, .int .i64 8, .int .i64 z, .slice hH.a hH.n hH.c] 25) = v3 at *
            have c0 := DH.out.c0
            have c1 := DH.out.c1
            have c2 := DH.out.c2
            have c3 := DH.out.c3
            have d0 := (RW1.out.later JH.out).doc.c0
            have d1 := (RW1.out.later JH.out).doc.c1
            have d2 := (RW1.out.later JH.out).doc.c2
            have d3 := (RW1.out.later JH.out).doc.c3
            have S1 := same13 8 8 z hH lH 8 8 z h l v3 NH2.out.docV (RW1.out.later JH.out).new.docV
            rw [same_true EH.out] at S1
            have S2 := fun w' (k : Keeps none' v3 w') => same13 8 8 z hG lG 8 8 z h l w' (NG2.out.later (JK.out.next k)).docV (RW1.out.later (JH.out.next k)).new.docV
            rw [same_false (by rw [EG.out]; exact NE.out)] at S2
            simp only [docV] at S1 S2
            have SS := Lib.hid S1
            have SD := Lib.hid S2
            clear S1 S2
            go_wp2_with (first
              | ((with_reducible refine SS.out.mono ?_); rintro en u3 ⟨rfl, hk⟩; have J := Lib.hid hk; have e0 := (DG.out.later (JK.out.next hk)).c0; have e1 := (DG.out.later (JK.out.next hk)).c1; have e2 := (DG.out.later (JK.out.next hk)).c2; have e3 := (DG.out.later (JK.out.next hk)).c3; have f0 := (RW1.out.later (JH.out.next hk)).doc.c0; have f1 := (RW1.out.later (JH.out.next hk)).doc.c1; have f2 := (RW1.out.later (JH.out.next hk)).doc.c2; have f3 := (RW1.out.later (JH.out.next hk)).doc.c3; clear hk)
              | ((with_reducible refine (SD.out u3 J.out).mono ?_); rintro en u4 ⟨rfl, hk⟩; have J2 := Lib.hid hk; clear hk))
            go_meet
            case rel => exact JH.out.next (J.out.next J2.out)
        case rest =>
        have RV := Lib.hid (RW1.out.later hcut)
        have GB := Lib.hid (show Lb wc G d p m q k from (hcut.later G GB1.out.lt).trans GB1.out)
        have SV := Lib.hid (show La.Pts wc (Hd.mk sa sn sc).a (Hd.mk sa sn sc).n (shape.map ptOf) from SV1.out.later (fun j hj => hcut.later j hj))
        clear hcut RW1 GB1 SV1
        -- masked and unmasked
        have g8 := GB.out.c8
        have c0 := RV.out.doc.c0
        have c1 := RV.out.doc.c1
        have c2 := RV.out.doc.c2
        have c3 := RV.out.doc.c3
        have S33 := Lib.hid (show (Hd.mk sa sn sc).n ≤ 33554432 from by have := S3.out; show sn ≤ _; omega)
        cases hm : maskP (er l) 8 8 (mk7 id 0 shape) with
        | error f =>
          have hf := maskP_err hm
          have t1 : (f == 0) = false := by simpa using hf
          have t2 : decide (f = 0) = false := by simpa using hf
          have C1 := mask_bad (x := 8) (y := 8) (z := z) id 0 wc RV.out.new.docV RV.out.inv.good SV.out S33.out hm
          simp only [docV, edV, edCells, mk7, Hd.nil] at C1
          have CC := Lib.hid C1
          clear C1 hm hf
          go_wp2_with ((with_reducible refine CC.out.mono ?_); rintro en u1 ⟨rfl, hk⟩; have J := Lib.hid hk; clear hk)
          go_ret
          exact ⟨rfl, RV.out.keeps.next (J.out.alloc _)⟩
        | ok lsG =>
          have IG := Lib.hid (mask_inv RV.out.inv hm)
          have UN := Lib.hid (fun h0 => unmask RV.out.inv HF.out h0 hm)
          have C1 := mask_ok (x := 8) (y := 8) (z := z) id 0 wc RV.out.new.docV RV.out.inv.good SV.out S33.out hm
          simp only [docV, edV, edCells, mk7, Hd.nil] at C1
          have CC := Lib.hid C1
          clear C1 hm
          go_upto_region 28 with ((with_reducible refine CC.out.mono ?_); rintro en u1 ⟨hG, lG, rfl, eG, nG, hk⟩; have J := Lib.hid hk; have EG := Lib.hid eG; have NG := Lib.hid nG; clear hk eG nG)
          have ka := (Keeps.refl none' u1).alloc (.cells #[.int .i64 8, .int .i64 8, .int .i64 z, .slice hG.a hG.n hG.c] 25)
          have DG := Lib.hid (Dc.new u1 8 8 z hG)
          have JG := Lib.hid (J.out.next ka)
          have NG2 := Lib.hid (NG.out.later ka)
          have GB2 := Lib.hid (show Lb (u1.alloc (.cells #[.int .i64 8, .int .i64 8, .int .i64 z, .slice hG.a hG.n hG.c] 25)) G d p m q k from (JG.out.later G GB.out.lt).trans GB.out)
          obtain ⟨X, hX⟩ : ∃ X, X = u1.heap.size := ⟨_, rfl⟩
          rw [← hX] at DG
          rw [← hX]
          clear hX ka c0 c1 c2 c3 g8 J NG CC
          generalize u1.alloc (.cells #[.int .i64 8, .int .i64 8, .int .i64 z, .slice hG.a hG.n hG.c] 25) = v2 at *
          have g8 := GB2.out.c8
          have c0 := DG.out.c0
          have c1 := DG.out.c1
          have c2 := DG.out.c2
          have c3 := DG.out.c3
          by_cases h0 : m.n = 0
          · have hm0 : r.d.mask = [] := List.eq_nil_of_length_eq_zero (by rw [← DM.out.2]; exact h0)
            have t1 : ((m.n : Int) == 0) = true := by simp [h0]
            have t2 : decide ((m.n : Int) = 0) = true := by simp [h0]
            have C2 := mask_ok (x := 8) (y := 8) (z := z) (shape := []) (s := Hd.nil) id 2 v2 NG2.out.docV (z0 := z) (by rw [EG.out]; exact IG.out.good) (pts_nil v2) (by show 0 ≤ _; omega) (by rw [EG.out]; exact UN.out hm0)
            simp only [docV, edV, edCells, mk7, Hd.nil] at C2
            have CC := Lib.hid C2
            clear C2 hm0
            go_upto_region 30 with ((with_reducible refine CC.out.mono ?_); rintro en u2 ⟨hH, lH, rfl, eH, nH, hk⟩; have J := Lib.hid hk; have EH := Lib.hid eH; have NH := Lib.hid nH; clear hk eH nH)
            have ka := (Keeps.refl none' u2).alloc (.cells #[.int .i64 8, .int .i64 8, .int .i64 z, .slice hH.a hH.n hH.c] 25)
            have DH := Lib.hid (Dc.new u2 8 8 z hH)
            have JH := Lib.hid (JG.out.next (J.out.next ka))
            have NH2 := Lib.hid (NH.out.later ka)
            obtain ⟨Y, hY⟩ : ∃ Y, Y = u2.heap.size := ⟨_, rfl⟩
            rw [← hY] at DH
            rw [← hY]
            clear hY ka c0 c1 c2 c3 g8 J NH CC
            generalize u2.alloc (.cells #[.int .i64 8, .int .i64 8, .int .i64 z, .slice hH.a hH.n hH.c] 25) = v3 at *
            have c0 := DH.out.c0
            have c1 := DH.out.c1
            have c2 := DH.out.c2
            have c3 := DH.out.c3
            have d0 := (RV.out.later JH.out).doc.c0
            have d1 := (RV.out.later JH.out).doc.c1
            have d2 := (RV.out.later JH.out).doc.c2
            have d3 := (RV.out.later JH.out).doc.c3
            have S1 := same13 8 8 z hH lH 8 8 z h l v3 NH2.out.docV (RV.out.later JH.out).new.docV
            rw [same_true EH.out] at S1
            simp only [docV] at S1
            have SS := Lib.hid S1
            clear S1
            go_wp2_with ((with_reducible refine SS.out.mono ?_); rintro en u3 ⟨rfl, hk⟩; have J := Lib.hid hk; clear hk)
            go_ret
            exact ⟨rfl, RV.out.keeps.next (JH.out.next J.out)⟩
          · have t1 : ((m.n : Int) == 0) = false := by simp; omega
            have t2 : decide ((m.n : Int) = 0) = false := by simp; omega
            clear h0
            go_wp2_with fail
            go_ret
            exact ⟨rfl, RV.out.keeps.next JG.out⟩
end Go.Proofs.Ytfcpbpfemmdklaa

/- TreeBack over what comes in. -/
namespace Go.Proofs.Ytfcpbpfemmdklaa
open Go.RowKit Go.Lib
set_option linter.unusedSimpArgs false
set_option linter.unusedVariables false

def ptB (p : La.Pt) : Int × Int := (p.X, p.Y)
theorem ptB_map (ps : List La.Pt) : (ps.map ptB).map ptOf = ps := by
  rw [List.map_map]
  exact List.map_id'' (fun p => rfl) ps
theorem back_law (a : Option Addr) (n c : Nat) (xs : List EdH) (id t at_ : Int) (sa : Option Addr) (sn sc : Nat) (ps : List La.Pt) (w : World) (E : Eds w a n xs) (S : La.Pts w sa sn ps) : Calls Try.prog 4 #[.slice a n c, .int .i64 id, .int .i64 t, .int .i64 at_, .slice sa sn sc] w (Yes w) :=
  back_walk a sa n c sn sc id t at_ (ps.map ptB) xs w E (by rw [ptB_map]; exact S)
end Go.Proofs.Ytfcpbpfemmdklaa
