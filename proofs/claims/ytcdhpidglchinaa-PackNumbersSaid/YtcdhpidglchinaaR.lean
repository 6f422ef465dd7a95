/- PackNumbers' walk. -/
import Derived.Test.YtcdhpidglchinaaQ
namespace Go.Proofs.Ytcdhpidglchinaa
open Go.RowKit Go.Lib Pk
set_option linter.unusedSimpArgs false
set_option linter.unusedVariables false

def e1 (n m : Int) : PEd := ⟨n, m, 0, 0, 0, 0, 0, 0, 0, 0, [], [], 0, 0, 0, 0, 0, 0, []⟩
theorem fit0 : Fit 0 := ⟨by decide, by decide⟩
theorem e1_ok {n m : Int} (hn : Fit n) (hm : Fit m) : EdOk (e1 n m).ed := by
  refine ⟨⟨?_, rfl⟩, ⟨fun a h => absurd h List.not_mem_nil, by simp [e1, PEd.ed]⟩, ⟨fun a h => absurd h List.not_mem_nil, by simp [e1, PEd.ed]⟩, ⟨?_, rfl⟩, ⟨fun a h => absurd h List.not_mem_nil, by simp [e1, PEd.ed]⟩⟩
  · intro a ha
    simp only [PEd.ed, e1, PEd.ten, List.mem_cons, List.not_mem_nil, or_false] at ha
    rcases ha with rfl | rfl | rfl | rfl | rfl | rfl | rfl | rfl | rfl | rfl <;> first | exact hn | exact hm | exact fit0
  · intro a ha
    simp only [PEd.ed, e1, PEd.six, List.mem_cons, List.not_mem_nil, or_false] at ha
    rcases ha with rfl | rfl | rfl | rfl | rfl | rfl <;> exact fit0
theorem e1_bytes (n m : Int) : ∃ r, putE (e1 n m).ed = (put n ++ put m) ++ r ∧ r.length ≤ 100 := by
  refine ⟨_, by simp [putE, PEd.ed, e1, PEd.ten, PEd.six, putL, put0]; rfl, by simp⟩
/-- A row that a call of this one told, and another one behind it. -/
theorem own_next {w w1 w2 : World} {g n c : Nat} {zs : List Nat} (r : Row w w1 g n c zs) (k : Keeps none' w1 w2) : w2.ownsRow w.heap.size 5 1 (.slice (some ⟨g, 0, none⟩) n c) n (bys zs) :=
  own_kept r.own (fun q hq => k.later q (own_lt r.own q hq).2)
set_option maxRecDepth 100000 in
set_option maxHeartbeats 1600000 in
theorem numbers_walk (w : World) (n m : Int) (hn : Fit n) (hm : Fit m) : Calls Try.prog 5 #[.int .i64 n, .int .i64 m] w (Yes w) := by
  obtain ⟨i0, hi, hz0, hz1, hz2⟩ := info_parts info5
  obtain ⟨zs, hzs⟩ : ∃ zs, zs = putE (e1 n m).ed := ⟨_, rfl⟩
  obtain ⟨r, hr, hr2⟩ := e1_bytes n m
  rw [← hzs] at hr
  have l1 := put_short hn
  have l2 := put_short hm
  have p1 := put_pos n
  have p2 := put_pos m
  have ok := e1_ok hn hm
  have hlz : zs.length = (put n).length + (put m).length + r.length := by rw [hr, List.length_append, List.length_append]
  have A := Lib.hid (anchor_any w)
  have C1 := Lib.hid (fun (w1 : World) => show Calls Try.prog 8 #[.agg #[.int .i64 n, .int .i64 m, .int .i64 0, .int .i64 0, .int .i64 0, .int .i64 0, .int .i64 0, .int .i64 0, .int .i64 0, .int .i64 0, .slice none 0 0, .slice none 0 0, .int .i64 0, .int .i64 0, .int .i64 0, .int .i64 0, .int .i64 0, .int .i64 0, .slice none 0 0]] w1 (ToldB w1 zs) from by rw [hzs]; exact PutEdit_any w1 (e1 n m) Hd.nil Hd.nil Hd.nil ⟨Cells.nil 1 w1, Cells.nil 2 w1, Cells.nil 1 w1⟩ ok (by simp [e1]))
  have N1 := Lib.hid (fun (w1 : World) => Num_any w1 n hn)
  have N2 := Lib.hid (fun (w1 : World) => Num_any w1 m hm)
  have C2 := Lib.hid (fun (w1 w2 w3 : World) (g k c : Nat) (r : Row w1 w2 g k c zs) (kk : Keeps none' w2 w3) => show Calls Try.prog 9 #[.slice (some ⟨g, 0, none⟩) k c] w3 _ from get_back (w := w3) (e := e1 n m) ok ⟨some ⟨g, 0, none⟩, k, c⟩ (by rw [← hzs]; exact r.cells.later kk) (by rw [← hzs]; omega))
  have S := Lib.hid (fun (w1 w2 w3 : World) (g k c : Nat) (h : Hd) (r2 : Row w1 w2 g k c zs) (kk : Keeps none' w2 w3) (hc : Cells 1 w3 h (bys (put n ++ put m))) => show Calls Try.prog 10 #[.slice (some ⟨g, 0, none⟩) h.n c, .slice h.a h.n h.c] w3 (fun en w' => en = .returned (.bool true) ∧ Keeps none' w3 w') from by
    have hh : (put n ++ put m).length = h.n := by have := hc.len; rw [bys_length] at this; omega
    have e : zs.take h.n = put n ++ put m := by rw [hr, ← hh, List.take_left]
    refine (Same_any w3 ⟨some ⟨g, 0, none⟩, h.n, c⟩ h (zs.take h.n) (put n ++ put m) ((r2.cells.later kk).take (k := 1) (by have := r2.len; rw [← hh, List.length_append]; omega)) hc (by rw [List.length_take]; omega) (by rw [List.length_append]; omega)).mono ?_
    rintro en w' ⟨he, hk⟩
    exact ⟨by rw [he]; exact ret_bool (decide_eq_true e), hk⟩)
  have ZB := Lib.hid (fun (w1 : World) => heap_alloc_new w1 (.cells #[.int .i64 0, .int .i64 0, .int .i64 0, .int .i64 0, .int .i64 0, .int .i64 0, .int .i64 0, .int .i64 0, .int .i64 0, .int .i64 0, .slice none 0 0, .slice none 0 0, .int .i64 0, .int .i64 0, .int .i64 0, .int .i64 0, .int .i64 0, .int .i64 0, .slice none 0 0] 27))
  have sz := szEd
  have ST := Lib.hid (fun (w1 w2 : World) (e : PEd) (a b c : Hd) (hw : w2 = (w1.alloc (.cells #[.int .i64 0, .int .i64 0, .int .i64 0, .int .i64 0, .int .i64 0, .int .i64 0, .int .i64 0, .int .i64 0, .int .i64 0, .int .i64 0, .slice none 0 0, .slice none 0 0, .int .i64 0, .int .i64 0, .int .i64 0, .int .i64 0, .int .i64 0, .int .i64 0, .slice none 0 0] 27)).setRow w1.heap.size (edCells e a b c).toArray) => show Keeps none' w1 w2 ∧ Eb w2 27 w1.heap.size e a b c from by
    have hb : w2.heap[w1.heap.size]? = some (.cells (edCells e a b c).toArray 27 (0, 0)) := by rw [hw]; exact setRow_heap _ _ _ _ _ _ (heap_alloc_new w1 _)
    exact ⟨by rw [hw]; exact ((Keeps.refl none' w1).alloc _).trans (keeps_row _ _ _) (fun i hi x => by omega), hb⟩)
  obtain ⟨ln, hln⟩ : ∃ x, x = (put n).length := ⟨_, rfl⟩
  obtain ⟨lm, hlm⟩ : ∃ x, x = (put m).length := ⟨_, rfl⟩
  rw [← hln] at l1 p1 hlz
  rw [← hlm] at l2 p2 hlz
  have HL := Lib.hid (And.intro hln (And.intro hlm hlz))
  obtain ⟨lz, hlz2⟩ : ∃ x, x = zs.length := ⟨_, rfl⟩
  have hge : ln + lm ≤ lz := by omega
  have HZ := Lib.hid hlz2
  have PZ := Lib.hid (show 0 < zs.length by omega)
  have PN := Lib.hid (show 0 < (put n).length by omega)
  have PM := Lib.hid (show 0 < (put m).length by omega)
  have LE1 := Lib.hid (fun (w1 w2 : World) (g q c : Nat) (r : Row w1 w2 g q c zs) => show lz = q from hlz2.trans r.len)
  have LE2 := Lib.hid (fun (w1 w2 : World) (g q c : Nat) (r : Row w1 w2 g q c (put n)) => show ln = q from hln.trans r.len)
  have LE3 := Lib.hid (fun (w1 w2 : World) (g q c : Nat) (r : Row w1 w2 g q c (put m)) => show lm = q from hlm.trans r.len)
  clear hr hr2 hzs hlz hln hlm ok hn hm hlz2
  go_enter Try.func5, Try.ntmps5
  go_wp2_with (first
    | (go_at_call 7; ((with_reducible refine A.out.mono ?_); rintro en w1 ⟨rfl, k1⟩; have K1 := Lib.hid k1; clear k1))
    | (go_at_call 8; ((with_reducible refine (C1.out _).mono ?_); rintro en w2 t1; obtain ⟨g, q, c, rfl, r1⟩ := told_row t1 PZ.out; obtain rfl := LE1.out _ _ _ _ _ r1; have hcap := r1.cap; have R1 := Lib.hid r1; clear t1 r1))
    | (go_at_call 15; ((with_reducible refine (N1.out _).mono ?_); rintro en w3 t1; obtain ⟨g3, q3, c3, rfl, r3⟩ := told_row t1 PN.out; obtain rfl := LE2.out _ _ _ _ _ r3; have R3 := Lib.hid r3; clear t1 r3))
    | (go_at_call 15; ((with_reducible refine (N2.out _).mono ?_); rintro en w4 t1; obtain ⟨g4, q4, c4, rfl, r4⟩ := told_row t1 PM.out; obtain rfl := LE3.out _ _ _ _ _ r4; have R4 := Lib.hid r4; have szz : w2.heap.size ≤ w4.heap.size := Nat.le_trans R3.out.keep.size r4.keep.size; clear t1 r4))
    | (at_builtin; go_loud (refine wpList_append_row rfl 29 5 _ _ rfl i0 _ 1 1 Try.underlying29 hi hz0 hz1 hz2 rfl (by decide) (by decide) w2.heap.size ln (.slice (some ⟨g3, 0, none⟩) ln c3) _ rfl (own_next R3.out R4.out.keep) ⟨some ⟨g4, 0, none⟩, lm, c4⟩ _ rfl R4.out.cells (by omega) (by show lm ≤ _; omega) szz ?_; intro aa cap w5 ho hg hat; have K5 := Lib.hid ((R3.out.keep.next R4.out.keep).grown hg (fun x hx e => by have := (own_lt R3.out.own x e).1; omega)); rw [← bys_append] at ho; have cw := (own_cells2 (hd := ⟨aa, ln + lm, cap⟩) ho (bys_one _)).1; have hcap5 : ln + lm ≤ cap := cw.cap; have CW := Lib.hid cw; clear ho hg hat cw))
    | (go_at_call 10; go_loud (((with_reducible refine (S.out _ _ _ _ _ _ ⟨aa, ln + lm, cap⟩ R1.out K5.out CW.out).mono ?_); rintro en w6 ⟨rfl, k6⟩; have K6 := Lib.hid k6; clear k6)))
    | (go_at_call 9; ((with_reducible refine (C2.out _ _ _ _ _ _ R1.out (K5.out.next K6.out)).mono ?_); rintro en w7 ⟨a, b, d, rfl, -, k7⟩; have K7 := Lib.hid k7; clear k7))
    | (refine wpList_store_row rfl 27 _ _ rfl w7.heap.size (edCells (e1 n m) a b d).toArray rfl rfl 27 _ (ZB.out w7) (sz (e1 n m) a b d) rfl (ed_all (e1 n m) a b d) ?_; obtain ⟨w8, hw⟩ : ∃ w8, w8 = (w7.alloc (.cells #[.int .i64 0, .int .i64 0, .int .i64 0, .int .i64 0, .int .i64 0, .int .i64 0, .int .i64 0, .int .i64 0, .int .i64 0, .int .i64 0, .slice none 0 0, .slice none 0 0, .int .i64 0, .int .i64 0, .int .i64 0, .int .i64 0, .int .i64 0, .int .i64 0, .slice none 0 0] 27)).setRow w7.heap.size (edCells (e1 n m) a b d).toArray := ⟨_, rfl⟩; rw [← hw]; obtain ⟨k8, b8⟩ := ST.out w7 w8 (e1 n m) a b d hw; have K8 := Lib.hid k8; have d0 : w8.cell? ⟨w7.heap.size, 0, none⟩ = some (.int .i64 n) := b8.c0; have d1 : w8.cell? ⟨w7.heap.size, 1, none⟩ = some (.int .i64 m) := b8.c1; clear hw k8 b8))
  go_ret
  exact ⟨rfl, K1.out.next (R1.out.keep.next (K5.out.next (K6.out.next (K7.out.next K8.out))))⟩
end Go.Proofs.Ytcdhpidglchinaa
