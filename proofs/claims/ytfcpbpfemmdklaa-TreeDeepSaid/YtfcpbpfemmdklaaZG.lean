/- TreeDeep's walk (3). -/
import Derived.Test.YtfcpbpfemmdklaaZF
namespace Go.Proofs.Ytfcpbpfemmdklaa
open Go.RowKit Go.Lib
set_option linter.unusedSimpArgs false
set_option linter.unusedVariables false

theorem newD_nil (B : Nat) (w : World) : NewD B w Hd.nil [] :=
  ⟨⟨⟨by rw [flat]; rfl, .inl ⟨rfl, rfl⟩⟩, fun u hu => (by rw [flat] at hu; cases hu), by show 0 ≤ _; omega⟩, by unfold Own; rw [All]; trivial, by simp [Hd.blk, Hd.nil, blks, hds]⟩
/-- A play's document under way. -/
structure Run (w : World) (A : Nat) (x y z : Int) (ls : List Lay) (w' : World) (h : Hd) (l : List Loc) (B : Nat) : Prop where
  doc : Dc w' A x y z h
  low : A < B
  new : NewD B w' h l
  same : er l = ls
  good : Good z ls
  keeps : Keeps none' w w'
  old : w.heap.size ≤ A
theorem Run.later {w : World} {A : Nat} {x y z : Int} {ls : List Lay} {w' w'' : World} {h : Hd} {l : List Loc} {B : Nat} (r : Run w A x y z ls w' h l B) (k : Keeps none' w' w'') : Run w A x y z ls w'' h l B :=
  ⟨r.doc.later k, r.low, r.new.later k, r.same, r.good, r.keeps.next k, r.old⟩
theorem Run.docV {w : World} {A : Nat} {x y z : Int} {ls : List Lay} {w' : World} {h : Hd} {l : List Loc} {B : Nat} (r : Run w A x y z ls w' h l B) : DocV w' h l := r.new.docV
theorem Run.goodE {w : World} {A : Nat} {x y z : Int} {ls : List Lay} {w' : World} {h : Hd} {l : List Loc} {B : Nat} (r : Run w A x y z ls w' h l B) : Good z (er l) := by rw [r.same]; exact r.good
/-- The next document, in the variable of the old one. -/
theorem Run.next {w : World} {A : Nat} {x y z z' : Int} {ls ls' : List Lay} {w0 w3 : World} {h h' : Hd} {l l' : List Loc} {B : Nat} (r : Run w A x y z ls w0 h l B) (k : Keeps none' w0 w3) (e : er l' = ls') (n : NewD w0.heap.size w3 h' l') (g : Good z' ls') :
    Run w A x y z' ls' ((((w3.setCell ⟨A, 0, none⟩ (.int .i64 x)).setCell ⟨A, 1, none⟩ (.int .i64 y)).setCell ⟨A, 2, none⟩ (.int .i64 z')).setCell ⟨A, 3, none⟩ (.slice h'.a h'.n h'.c)) h' l' w0.heap.size := by
  obtain ⟨a, b, c⟩ := set_doc (x' := x) (y' := y) (z' := z') (r.doc.later k) n r.doc.lt (r.keeps.next k) r.old
  exact ⟨a, r.doc.lt, b, e, g, c, r.old⟩
set_option maxRecDepth 100000 in
set_option maxHeartbeats 6400000 in
theorem deep_walk (a b : Int) (w : World) : Calls Try.prog 3 #[.int .i64 a, .int .i64 b] w (Yes w) := by
  have AN := Lib.hid (anchor6 w)
  go_enter Try.func3, Try.ntmps3
  go_upto_region 3 with ((with_reducible refine AN.out.mono ?_); rintro en w1 ⟨rfl, hk⟩; have K1 := Lib.hid hk; clear hk)
  clear AN
  go_cut [33] from 20 (fun s33 w' => Keeps none' w1 w' ∧ s33 = .bool (decide (a < 0) || decide (70 < a) || decide (b < 0) || decide (6 < b)))
  case first =>
    by_cases t1 : a < 0
    · have d1 : decide (a < 0) = true := by simpa using t1
      have HR := Lib.hid (show (decide (a < 0) || decide (70 < a) || decide (b < 0) || decide (6 < b)) = true from by simp [t1])
      clear t1
      go_wp2_with fail
      go_meet
      case rel => exact ⟨Keeps.refl _ _, by rw [HR.out]⟩
    · have d1 : decide (a < 0) = false := by simpa using t1
      by_cases t2 : 70 < a
      · have d2 : decide (a > 70) = true := by simpa using t2
        have HR := Lib.hid (show (decide (a < 0) || decide (70 < a) || decide (b < 0) || decide (6 < b)) = true from by simp [t2])
        clear t1 t2
        go_wp2_with fail
        go_meet
        case rel => exact ⟨Keeps.refl _ _, by rw [HR.out]⟩
      · have d2 : decide (a > 70) = false := by simpa using t2
        by_cases t3 : b < 0
        · have d3 : decide (b < 0) = true := by simpa using t3
          have HR := Lib.hid (show (decide (a < 0) || decide (70 < a) || decide (b < 0) || decide (6 < b)) = true from by simp [t3])
          clear t1 t2 t3
          go_wp2_with fail
          go_meet
          case rel => exact ⟨Keeps.refl _ _, by rw [HR.out]⟩
        · have d3 : decide (b < 0) = false := by simpa using t3
          by_cases t4 : 6 < b
          · have d4 : decide (b > 6) = true := by simpa using t4
            have HR := Lib.hid (show (decide (a < 0) || decide (70 < a) || decide (b < 0) || decide (6 < b)) = true from by simp [t4])
            clear t1 t2 t3 t4
            go_wp2_with fail
            go_meet
            case rel => exact ⟨Keeps.refl _ _, by rw [HR.out]⟩
          · have d4 : decide (b > 6) = false := by simpa using t4
            have HR := Lib.hid (show (decide (a < 0) || decide (70 < a) || decide (b < 0) || decide (6 < b)) = false from by simp [t1, t2, t3, t4])
            clear t1 t2 t3 t4
            go_wp2_with fail
            go_meet
            case rel => exact ⟨Keeps.refl _ _, by rw [HR.out]⟩
  case rest =>
  obtain ⟨kc, rfl⟩ := hcut
  have K2 := Lib.hid (K1.out.next kc)
  clear kc K1
  cases hv : (decide (a < 0) || decide (70 < a) || decide (b < 0) || decide (6 < b)) with
  | true =>
    clear hv
    go_wp2_with fail
    go_ret
    exact ⟨rfl, K2.out⟩
  | false =>
  simp only [Bool.or_eq_false_iff, decide_eq_false_iff_not] at hv
  obtain ⟨dn, rfl⟩ : ∃ dn : Nat, a = (dn : Int) := ⟨a.toNat, by omega⟩
  obtain ⟨wn, rfl⟩ : ∃ wn : Nat, b = (wn : Int) := ⟨b.toNat, by omega⟩
  have BD := Lib.hid (show dn ≤ 70 ∧ wn ≤ 6 from by omega)
  clear hv
  have N1 := new7 2 2 wc
  rw [show areaP 2 2 = true from by decide, if_pos rfl] at N1
  simp only [docV, Hd.nil] at N1
  have HN := Lib.hid N1
  clear N1
  go_wp2_with ((with_reducible refine HN.out.mono ?_); rintro en w3 ⟨rfl, hk⟩; have K3 := Lib.hid (K2.out.next hk); clear hk)
  have ka := (Keeps.refl none' w3).alloc (.cells #[.int .i64 2, .int .i64 2, .int .i64 1, .slice none 0 0] 25)
  have A4 := Lib.hid (Dc.new w3 2 2 1 Hd.nil)
  obtain ⟨A, hA⟩ : ∃ A, A = w3.heap.size := ⟨_, rfl⟩
  rw [← hA] at A4
  rw [← hA]
  have R4 := Lib.hid (show Run w A 2 2 1 [] (w3.alloc (.cells #[.int .i64 2, .int .i64 2, .int .i64 1, .slice none 0 0] 25)) Hd.nil [] (A + 1) from ⟨A4.out, Nat.lt_succ_self _, newD_nil _ _, by rw [er], gx0, K3.out.next ka, by rw [hA]; exact K3.out.size⟩)
  clear hA ka K2 K3 A4 HN
  generalize w3.alloc (.cells #[.int .i64 2, .int .i64 2, .int .i64 1, .slice none 0 0] 25) = w4 at *
  go_loopw [7] (fun s7 wr => ∃ (k : Nat) (z : Int) (h : Hd) (l : List Loc) (B : Nat), k ≤ dn ∧ s7 = .int .i64 k ∧ z = ((min k 64 : Nat) : Int) + 1 ∧ Run w A 2 2 z (chx 1 (min k 64) []) wr h l B) (fun s7 _ => dn - (intOf s7).toNat)
  case atStart => exact ⟨0, 1, Hd.nil, [], A + 1, Nat.zero_le _, rfl, rfl, R4.out⟩
  case round =>
    clear R4
    obtain ⟨k, z, h, l, B, hkd, rfl, hz, rr⟩ := hrel
    have RR := Lib.hid rr
    have HZ := Lib.hid hz
    have c0 := rr.doc.c0
    have c1 := rr.doc.c1
    have c2 := rr.doc.c2
    have c3 := rr.doc.c3
    clear rr hz
    by_cases hlt : k < dn
    · have tk : decide ((k : Int) < (dn : Int)) = true := by simp; omega
      by_cases h64 : k < 64
      · have mk : min k 64 = k := by omega
        have mk1 : min (k + 1) 64 = k + 1 := by omega
        rw [mk] at RR HZ
        have p1 := add_one k h64
        have hz2 : ((k + 1 : Nat) : Int) = z := by rw [HZ.out]; omega
        rw [hz2] at p1
        have g1 := good_add RR.out.good p1
        have d1 := add_ok (x := 2) (y := 2) (k : Int) (-1) 1 0 0 wr RR.out.docV RR.out.goodE (by rw [HZ.out]; omega) (by rw [RR.out.same]; exact p1)
        simp only [docV, edV, edCells, ed, Hd.nil] at d1
        have D1 := Lib.hid d1
        have G1 := Lib.hid g1.1
        have t1 : decide ((k : Int) < 64) = true := by simp; omega
        have t2 : decide ((k : Int) ≥ 64) = false := by simp; omega
        have t3 : ((k : Int) == 64) = false := by simp; omega
        clear p1 d1 g1 hz2
        go_upto_region 14 with ((with_reducible refine D1.out.mono ?_); rintro en w5 ⟨h', l', rfl, e1, n1, hk⟩; have H5 := Lib.hid hk; have E1 := Lib.hid e1; have N1 := Lib.hid n1; clear hk e1 n1)
        have ka := (Keeps.refl none' w5).alloc (.cells #[.int .i64 2, .int .i64 2, .int .i64 (z + 1), .slice h'.a h'.n h'.c] 25)
        have B6 := Lib.hid (Dc.new w5 2 2 (z + 1) h')
        have H6 := Lib.hid (H5.out.next ka)
        have N6 := Lib.hid (N1.out.later ka)
        have A6 := Lib.hid (RR.out.doc.later H6.out)
        obtain ⟨Gb, hGb⟩ : ∃ Gb, Gb = w5.heap.size := ⟨_, rfl⟩
        rw [← hGb] at B6
        rw [← hGb]
        clear hGb ka c0 c1 c2 c3 H5 N1 D1
        generalize w5.alloc (.cells #[.int .i64 2, .int .i64 2, .int .i64 (z + 1), .slice h'.a h'.n h'.c] 25) = w6 at *
        have c0 := B6.out.c0
        have c1 := B6.out.c1
        have c2 := B6.out.c2
        have c3 := B6.out.c3
        obtain ⟨⟨b0, b1, b2, b3⟩, bf⟩ := four_cells A6.out
        have f0 := bf 0
        have f1 := bf 1
        have f2 := bf 2
        have f3 := bf 3
        clear bf
        have NX := Lib.hid (RR.out.next H6.out E1.out N6.out G1.out)
        have bd := BD.out
        have kw : wrap64 ((k : Int) + 1) = (k : Int) + 1 := wrap64_id _ (by omega) (by omega)
        have kw2 : IntKind.i64.wrap ((k : Int) + 1) = (k : Int) + 1 := wrap_i64 _ (by omega) (by omega)
        have hz3 : z + 1 = ((min (k + 1) 64 : Nat) : Int) + 1 := by rw [mk1, HZ.out]; omega
        have HZ3 := Lib.hid hz3
        have MK1 := Lib.hid mk1
        clear hz3 mk mk1 bd
        go_wp2_with fail
        go_roundw
        case rel => exact ⟨k + 1, z + 1, h', l', wr.heap.size, by omega, by go_num, HZ3.out, by rw [MK1.out]; exact NX.out⟩
        case measure => simp [intOf]; omega
      · have mk : min k 64 = 64 := by omega
        have mk1 : min (k + 1) 64 = 64 := by omega
        rw [mk] at RR HZ
        have hz2 : z = ((65 : Nat) : Int) := by rw [HZ.out]; rfl
        have t1 : decide ((k : Int) < 64) = false := by simp; omega
        have t2 : decide ((k : Int) ≥ 64) = true := by simp; omega
        have bd := BD.out
        have kw : wrap64 ((k : Int) + 1) = (k : Int) + 1 := wrap64_id _ (by omega) (by omega)
        have kw2 : IntKind.i64.wrap ((k : Int) + 1) = (k : Int) + 1 := wrap_i64 _ (by omega) (by omega)
        have HZ3 := Lib.hid (show z = ((min (k + 1) 64 : Nat) : Int) + 1 from by rw [mk1, HZ.out])
        have MK1 := Lib.hid mk1
        clear bd
        by_cases he : k = 64
        · have t3 : ((k : Int) == 64) = true := by simp; omega
          have d1 := add_bad (x := 2) (y := 2) (k : Int) (-1) 1 0 0 wr RR.out.docV RR.out.goodE (by rw [hz2]; omega) (by rw [RR.out.same, hz2, he]; exact add_full)
          clear he
          simp only [docV, edV, edCells, ed, Hd.nil] at d1
          have D1 := Lib.hid d1
          clear d1 mk mk1 hz2
          go_wp2_with ((with_reducible refine D1.out.mono ?_); rintro en w5 ⟨rfl, hk⟩; have H5 := Lib.hid hk; clear hk)
          go_roundw
          case rel => exact ⟨k + 1, z, h, l, B, by omega, by go_num, HZ3.out, by rw [MK1.out]; exact RR.out.later (H5.out.alloc _)⟩
          case measure => simp [intOf]; omega
        · have t3 : ((k : Int) == 64) = false := by simp; omega
          have d1 := add_bad (x := 2) (y := 2) (k : Int) (-1) 1 0 0 wr RR.out.docV RR.out.goodE (by rw [hz2]; omega) (by rw [RR.out.same, hz2]; exact add_none k (by omega))
          simp only [docV, edV, edCells, ed, Hd.nil] at d1
          have D1 := Lib.hid d1
          clear d1 mk mk1 hz2
          go_wp2_with ((with_reducible refine D1.out.mono ?_); rintro en w5 ⟨rfl, hk⟩; have H5 := Lib.hid hk; clear hk)
          go_roundw
          case rel => exact ⟨k + 1, z, h, l, B, by omega, by go_num, HZ3.out, by rw [MK1.out]; exact RR.out.later (H5.out.alloc _)⟩
          case measure => simp [intOf]; omega
    · obtain rfl : k = dn := by omega
      have tk : decide ((k : Int) < (k : Int)) = false := by simp
      obtain ⟨n, hn⟩ : ∃ n, n = min k 64 := ⟨_, rfl⟩
      rw [← hn] at RR HZ
      have hmin : (if (64 : Int) < (k : Int) then (64 : Int) else (k : Int)) = (n : Int) := by rw [hn]; split <;> omega
      have hmin2 : (if (k : Int) ≤ (64 : Int) then (k : Int) else (64 : Int)) = (n : Int) := by rw [hn]; split <;> omega
      have hn64 : n ≤ 64 := by omega
      have HN := Lib.hid hn64
      have nw : wrap64 ((n : Int) + 1) = (n : Int) + 1 := wrap64_id _ (by omega) (by omega)
      clear hn
      have nw2 : IntKind.i64.wrap ((n : Int) + 1) = (n : Int) + 1 := wrap_i64 _ (by omega) (by omega)
      clear c0 c1 c2 c3 hlt hkd hn64
      go_wp2_with fail
      have R2 := Lib.hid (show Run w A 2 2 z (two n 0) wr h l B from by unfold two; rw [chx, List.append_nil]; exact RR.out)
      have BD2 := Lib.hid BD.out.2
      clear RR hmin hmin2 nw nw2 tk
      go_loopw [12] (fun s12 wr => ∃ (j : Nat) (z : Int) (h : Hd) (l : List Loc) (B : Nat), j ≤ wn + 1 ∧ s12 = .int .i64 j ∧ z = ((n + j + 1 : Nat) : Int) ∧ Run w A 2 2 z (two n j) wr h l B) (fun s12 _ => wn + 1 - (intOf s12).toNat)
      case atStart => exact ⟨0, z, h, l, B, Nat.zero_le _, rfl, by rw [HZ.out]; omega, R2.out⟩
      case round =>
        clear R2 HZ
        obtain ⟨j, z, h, l, B, hj, rfl, hz, rr⟩ := hrel
        have RR := Lib.hid rr
        have HZ := Lib.hid hz
        have c0 := rr.doc.c0
        have c1 := rr.doc.c1
        have c2 := rr.doc.c2
        have c3 := rr.doc.c3
        clear rr hz
        have bd2 := BD2.out
        have hn2 := HN.out
        by_cases hlt : j ≤ wn
        · have tj : decide ((j : Int) ≤ (wn : Int)) = true := by simp; omega
          have p1 := add_two n j hn2 (by omega)
          rw [← HZ.out] at p1
          have G1 := Lib.hid (good_add RR.out.good p1).1
          have kw : wrap64 ((j : Int) + 1) = (j : Int) + 1 := wrap64_id _ (by omega) (by omega)
          have kw2 : IntKind.i64.wrap ((j : Int) + 1) = (j : Int) + 1 := wrap_i64 _ (by omega) (by omega)
          have HZ3 := Lib.hid (show z + 1 = ((n + (j + 1) + 1 : Nat) : Int) from by rw [HZ.out]; omega)
          have zle := Lib.hid (show z ≤ 4611686018427387904 from by rw [HZ.out]; omega)
          by_cases h0 : j = 0
          · subst h0
            rw [if_pos rfl] at p1
            have d1 := add_ok (x := 2) (y := 2) 0 (-1) 1 0 0 wr RR.out.docV RR.out.goodE zle.out (by rw [RR.out.same]; exact p1)
            simp only [docV, edV, edCells, ed, Hd.nil] at d1
            have D1 := Lib.hid d1
            clear p1 d1 bd2 hn2
            go_upto_region 27 with ((with_reducible refine D1.out.mono ?_); rintro en w5 ⟨h', l', rfl, e1, n1, hk⟩; have H5 := Lib.hid hk; have E1 := Lib.hid e1; have N1 := Lib.hid n1; clear hk e1 n1)
            have ka := (Keeps.refl none' w5).alloc (.cells #[.int .i64 2, .int .i64 2, .int .i64 (z + 1), .slice h'.a h'.n h'.c] 25)
            have B6 := Lib.hid (Dc.new w5 2 2 (z + 1) h')
            have H6 := Lib.hid (H5.out.next ka)
            have N6 := Lib.hid (N1.out.later ka)
            have A6 := Lib.hid (RR.out.doc.later H6.out)
            obtain ⟨Gb, hGb⟩ : ∃ Gb, Gb = w5.heap.size := ⟨_, rfl⟩
            rw [← hGb] at B6
            rw [← hGb]
            clear hGb ka c0 c1 c2 c3 H5 N1 D1
            generalize w5.alloc (.cells #[.int .i64 2, .int .i64 2, .int .i64 (z + 1), .slice h'.a h'.n h'.c] 25) = w6 at *
            have c0 := B6.out.c0
            have c1 := B6.out.c1
            have c2 := B6.out.c2
            have c3 := B6.out.c3
            obtain ⟨⟨b0, b1, b2, b3⟩, bf⟩ := four_cells A6.out
            have f0 := bf 0
            have f1 := bf 1
            have f2 := bf 2
            have f3 := bf 3
            clear bf
            have NX := Lib.hid (RR.out.next H6.out E1.out N6.out G1.out)
            go_wp2_with fail
            go_roundw
            case rel => exact ⟨1, z + 1, h', l', wr.heap.size, by omega, by go_num, HZ3.out, NX.out⟩
            case measure => simp [intOf]
          · have tj0 : decide ((j : Int) > 0) = true := by simp; omega
            have tj1 : decide (0 < j) = true := by simp; omega
            rw [if_neg h0] at p1
            have sw : wrap64 ((n : Int) + (j : Int)) = ((n + j : Nat) : Int) := by rw [wrap64_id _ (by omega) (by omega)]; omega
            have sw2 : IntKind.i64.wrap ((n : Int) + (j : Int)) = ((n + j : Nat) : Int) := by rw [wrap_i64 _ (by omega) (by omega)]; omega
            obtain ⟨T, hT⟩ : ∃ T, T = n + j := ⟨_, rfl⟩
            rw [← hT] at sw sw2 p1
            have d1 := add_ok (x := 2) (y := 2) (T : Int) (-1) 1 0 0 wr RR.out.docV RR.out.goodE zle.out (by rw [RR.out.same]; exact p1)
            simp only [docV, edV, edCells, ed, Hd.nil] at d1
            have D1 := Lib.hid d1
            have HT := Lib.hid hT
            have H0 := Lib.hid h0
            clear p1 d1 bd2 hn2 hT
            go_upto_region 27 with ((with_reducible refine D1.out.mono ?_); rintro en w5 ⟨h', l', rfl, e1, n1, hk⟩; have H5 := Lib.hid hk; have E1 := Lib.hid e1; have N1 := Lib.hid n1; clear hk e1 n1)
            have ka := (Keeps.refl none' w5).alloc (.cells #[.int .i64 2, .int .i64 2, .int .i64 (z + 1), .slice h'.a h'.n h'.c] 25)
            have B6 := Lib.hid (Dc.new w5 2 2 (z + 1) h')
            have H6 := Lib.hid (H5.out.next ka)
            have N6 := Lib.hid (N1.out.later ka)
            have A6 := Lib.hid (RR.out.doc.later H6.out)
            obtain ⟨Gb, hGb⟩ : ∃ Gb, Gb = w5.heap.size := ⟨_, rfl⟩
            rw [← hGb] at B6
            rw [← hGb]
            clear hGb ka c0 c1 c2 c3 H5 N1 D1
            generalize w5.alloc (.cells #[.int .i64 2, .int .i64 2, .int .i64 (z + 1), .slice h'.a h'.n h'.c] 25) = w6 at *
            have c0 := B6.out.c0
            have c1 := B6.out.c1
            have c2 := B6.out.c2
            have c3 := B6.out.c3
            obtain ⟨⟨b0, b1, b2, b3⟩, bf⟩ := four_cells A6.out
            have f0 := bf 0
            have f1 := bf 1
            have f2 := bf 2
            have f3 := bf 3
            clear bf
            have NX := Lib.hid (RR.out.next H6.out E1.out N6.out G1.out)
            go_wp2_with fail
            go_roundw
            case rel => exact ⟨j + 1, z + 1, h', l', wr.heap.size, by omega, by go_num, HZ3.out, NX.out⟩
            case measure => simp [intOf]; omega
        · obtain rfl : j = wn + 1 := by omega
          have tj : decide (((wn + 1 : Nat) : Int) ≤ (wn : Int)) = false := by simp; omega
          have tj2 : decide ((wn : Int) + 1 ≤ (wn : Int)) = false := by simp; omega
          obtain ⟨r, hr, r1, r2⟩ := move_two n wn hn2
          have cast1 : ((n + 1 : Nat) : Int) = (n : Int) + 1 := by omega
          rw [cast1] at hr
          have s1 : wrap64 ((n : Int) + (wn : Int)) = (n : Int) + (wn : Int) := wrap64_id _ (by omega) (by omega)
          have s2 : wrap64 ((n : Int) + (wn : Int) + 1) = (n : Int) + (wn : Int) + 1 := wrap64_id _ (by omega) (by omega)
          by_cases t : 64 < n + wn + 1
          · have d2 : decide ((n : Int) + (wn : Int) + 1 > 64) = true := by simp; omega
            have d1 := move_bad (x := 2) (y := 2) ((n : Int) + 1) (n : Int) (-1) wr RR.out.docV RR.out.goodE (by rw [RR.out.same, hr]; exact r1 t)
            simp only [docV, edV, edCells, ed, Hd.nil] at d1
            have D1 := Lib.hid d1
            clear d1 r1 r2 hr cast1 hlt hj
            go_wp2_with ((with_reducible refine D1.out.mono ?_); rintro en w5 ⟨rfl, hk⟩; have H5 := Lib.hid hk; clear hk)
            go_ret
            exact ⟨rfl, RR.out.keeps.next (H5.out.alloc _)⟩
          · have d2 : decide ((n : Int) + (wn : Int) + 1 > 64) = false := by simp; omega
            obtain ⟨lsM, r3⟩ := r2 t
            have d1 := move_ok (x := 2) (y := 2) ((n : Int) + 1) (n : Int) (-1) wr RR.out.docV RR.out.goodE (by rw [RR.out.same, hr]; exact r3)
            simp only [docV, edV, edCells, ed, Hd.nil] at d1
            have D1 := Lib.hid d1
            clear d1 r1 r2 r3 hr cast1 hlt hj
            go_wp2_with ((with_reducible refine D1.out.mono ?_); rintro en w5 ⟨h', l', rfl, e1, n1, hk⟩; have H5 := Lib.hid hk; clear hk)
            go_ret
            exact ⟨rfl, RR.out.keeps.next (H5.out.alloc _)⟩
end Go.Proofs.Ytfcpbpfemmdklaa
