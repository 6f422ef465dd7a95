/- PackReads' walk. -/
import Derived.Test.YtcdhpidglchinaaRF
import Derived.Test.YtcdhpidglchinaaPE
namespace Go.Proofs.Ytcdhpidglchinaa
open Go.RowKit Go.Lib Pk
set_option linter.unusedSimpArgs false
set_option linter.unusedVariables false

theorem flat_len {α : Type} {p : α → List Nat} (hp : ∀ a, 0 < (p a).length) (l : List α) : l.length ≤ (l.flatMap p).length := by
  induction l with
  | nil => exact Nat.zero_le _
  | cons a l ih => rw [List.flatMap_cons, List.length_append, List.length_cons]; have := hp a; omega
theorem put_lens (e : PEd) : e.p.length + e.s.length + e.q.length ≤ (putE e.ed).length ∧ 0 < (putE e.ed).length := by
  have e1 : (putE e.ed).length = (e.ten.flatMap put).length + ((putL put e.p).length + ((putL putPt e.s).length + ((e.six.flatMap put).length + (putL put e.q).length))) := by
    show (e.ten.flatMap put ++ (putL put e.p ++ (putL putPt e.s ++ (e.six.flatMap put ++ putL put e.q)))).length = _
    simp only [List.length_append]
  have h1 := flat_len put_pos e.p
  have h2 := flat_len putPt_pos e.s
  have h3 := flat_len put_pos e.q
  have h4 := put_pos (e.p.length : Int)
  unfold putL at e1
  simp only [List.length_append] at e1
  omega
attribute [local go_sem ↓] ldxE ldxR
attribute [local go_sem] ptrBlock_some
set_option maxRecDepth 100000 in
set_option maxHeartbeats 800000 in
theorem reads_early (w : World) (g : Hd) (hc : 3000 < g.n) : Calls Try.prog 4 #[.slice g.a g.n g.c] w (Yes w) := by
  have A := Lib.hid (anchor_any w)
  have hc2 : (3000 : Int) < g.n := by omega
  go_enter Try.func4, Try.ntmps4
  go_wp2_with (go_at_call 7; ((with_reducible refine A.out.mono ?_); rintro en w1 ⟨rfl, k1⟩; have K1 := Lib.hid k1; clear k1))
  go_ret
  exact ⟨rfl, K1.out⟩
set_option maxRecDepth 100000 in
set_option maxHeartbeats 3200000 in
theorem reads_good (w : World) (g : Hd) (xs : List Nat) (hc : Cells 1 w g (bys xs)) (hy : ∀ y ∈ xs, y < 256) (hn : g.n ≤ 3000) (hF : fin (getE ⟨0, xs⟩).2 = 0) : Calls Try.prog 4 #[.slice g.a g.n g.c] w (Yes w) := by
  have hl : xs.length = g.n := by have := hc.len; rw [bys_length] at this; omega
  have A := Lib.hid (anchor_any w)
  have hn2 : ¬ (3000 : Int) < g.n := by omega
  have sz := szEd
  have szR := szREd
  have ZB := Lib.hid (fun (w1 : World) => heap_alloc_new w1 (.cells #[.int .i64 0, .int .i64 0, .int .i64 0, .int .i64 0, .int .i64 0, .int .i64 0, .int .i64 0, .int .i64 0, .int .i64 0, .int .i64 0, .slice none 0 0, .slice none 0 0, .int .i64 0, .int .i64 0, .int .i64 0, .int .i64 0, .int .i64 0, .int .i64 0, .slice none 0 0] 27))
  have ZR := Lib.hid (fun (w1 : World) => heap_alloc_new w1 (.cells #[.int .i64 0, .int .i64 0, .int .i64 0, .int .i64 0, .int .i64 0, .int .i64 0, .int .i64 0, .int .i64 0, .int .i64 0, .int .i64 0, .slice none 0 0, .slice none 0 0, .int .i64 0, .int .i64 0, .int .i64 0, .int .i64 0, .int .i64 0, .int .i64 0, .slice none 0 0] 39))
  have ST := Lib.hid (fun (w1 w2 : World) (T : TypeId) (e : PEd) (a b c : Hd) (hw : w2 = (w1.alloc (.cells #[.int .i64 0, .int .i64 0, .int .i64 0, .int .i64 0, .int .i64 0, .int .i64 0, .int .i64 0, .int .i64 0, .int .i64 0, .int .i64 0, .slice none 0 0, .slice none 0 0, .int .i64 0, .int .i64 0, .int .i64 0, .int .i64 0, .int .i64 0, .int .i64 0, .slice none 0 0] T)).setRow w1.heap.size (edCells e a b c).toArray) => show Keeps none' w1 w2 ∧ Eb w2 T w1.heap.size e a b c from by
    have hb : w2.heap[w1.heap.size]? = some (.cells (edCells e a b c).toArray T (0, 0)) := by rw [hw]; exact setRow_heap _ _ _ _ _ _ (heap_alloc_new w1 _)
    exact ⟨by rw [hw]; exact ((Keeps.refl none' w1).alloc _).trans (keeps_row _ _ _) (fun i hi x => by omega), hb⟩)
  obtain ⟨ok, hxs⟩ := edit_fore hy hF
  obtain ⟨d, hd⟩ : ∃ d, d = (getE ⟨0, xs⟩).1 := ⟨_, rfl⟩
  rw [← hd] at ok hxs
  have GE := Lib.hid (fun (w1 : World) (k : Keeps none' w w1) => show Calls Try.prog 9 #[.slice g.a g.n g.c] w1 (fun en w' => ∃ (e : PEd) (a b c : Hd), en = .returned (.tuple #[.agg (edCells e a b c).toArray, .int .i64 0]) ∧ e.ed = d ∧ EdIn w' e a b c ∧ Keeps none' w1 w') from (GetEdit_any w1 g xs (hc.later k) hy (by omega)).mono (by
    rintro en w' ⟨e, a, b, c, he, hi, -, hk, hif, -⟩
    exact ⟨e, a, b, c, by rw [he, hF]; rfl, by rw [hif hF, hd], hi, hk⟩))
  have GR := Lib.hid (fun (w1 : World) (k : Keeps none' w w1) (e : PEd) (hed : e.ed = d) => show Calls Try.prog 14 #[.slice g.a g.n g.c] w1 (fun en w' => ∃ (a b c : Hd), en = .returned (.tuple #[.agg (edCells e a b c).toArray, .int .i64 0]) ∧ EdIn w' e a b c ∧ Keeps none' w1 w') from (RGetEdit_any w1 g xs (hc.later k) hy (by omega)).mono (by
    rintro en w' ⟨e', a, b, c, he, hi, hk, hif, -⟩
    obtain rfl : e' = e := ed_inj (by rw [hif hF, ← hd, hed])
    exact ⟨a, b, c, by rw [he, hF]; rfl, hi, hk⟩))
  have LN := Lib.hid (fun (e : PEd) (hed : e.ed = d) => show e.p.length + e.s.length + e.q.length ≤ 3000 ∧ 0 < xs.length from by
    have := put_lens e
    rw [hed, ← hxs] at this
    omega)
  have C8 := Lib.hid (fun (w1 : World) (e : PEd) (a b c : Hd) (hi : EdIn w1 e a b c) (hed : e.ed = d) => show Calls Try.prog 8 #[.agg (edCells e a b c).toArray] w1 (ToldB w1 xs) from by
    have := PutEdit_any w1 e a b c hi (by rw [hed]; exact ok) (by have := LN.out e hed; omega)
    rw [hed, ← hxs] at this
    exact this)
  have CL := Lib.hid (fun (w1 : World) (e : PEd) (a b c a2 b2 c2 : Hd) (hi : EdIn w1 e a b c) (hj : EdIn w1 e a2 b2 c2) (hed : e.ed = d) => show Calls Try.prog 13 #[.agg (edCells e a b c).toArray, .agg (edCells e a2 b2 c2).toArray] w1 (Yes w1) from likeEdit_yes w1 e a b c a2 b2 c2 hi hj (by have := LN.out e hed; omega) (by have := LN.out e hed; omega) (by have := LN.out e hed; omega))
  have CS := Lib.hid (fun (w2 w4 : World) (g' n' c' : Nat) (kk : Keeps none' w w4) (r' : Row w2 w4 g' n' c' xs) => show Calls Try.prog 10 #[.slice (some ⟨g', 0, none⟩) n' c', .slice g.a g.n g.c] w4 (fun en w' => en = .returned (.bool true) ∧ Keeps none' w4 w') from
    (Same_any w4 ⟨some ⟨g', 0, none⟩, n', c'⟩ g xs xs r'.cells (hc.later kk) (by omega) (by omega)).mono (fun en w' ⟨a, b⟩ => ⟨by rw [a]; exact ret_bool (decide_eq_true rfl), b⟩))
  clear hc hy hF ok hxs hd hl
  go_enter Try.func4, Try.ntmps4
  go_upto_region 7 with (first
    | (go_at_call 7; ((with_reducible refine A.out.mono ?_); rintro en w1 ⟨rfl, k1⟩; have K1 := Lib.hid k1; clear k1))
    | (go_at_call 9; ((with_reducible refine (GE.out _ K1.out).mono ?_); rintro en w3 ⟨e, a, b, c, rfl, hed, i3, k3⟩; have HD := Lib.hid hed; have I3 := Lib.hid i3; have K3 := Lib.hid (K1.out.next k3); clear hed i3 k3))
    | (refine wpList_store_row rfl 27 _ _ rfl w3.heap.size (edCells e a b c).toArray rfl rfl 27 _ (ZB.out w3) (sz e a b c) rfl (ed_all _ _ _ _) ?_; obtain ⟨w4, hw⟩ : ∃ w4, w4 = (w3.alloc (.cells #[.int .i64 0, .int .i64 0, .int .i64 0, .int .i64 0, .int .i64 0, .int .i64 0, .int .i64 0, .int .i64 0, .int .i64 0, .int .i64 0, .slice none 0 0, .slice none 0 0, .int .i64 0, .int .i64 0, .int .i64 0, .int .i64 0, .int .i64 0, .int .i64 0, .slice none 0 0] 27)).setRow w3.heap.size (edCells e a b c).toArray := ⟨_, rfl⟩; rw [← hw]; obtain ⟨k4, b4⟩ := ST.out w3 w4 _ e a b c hw; have K4 := Lib.hid (K3.out.next k4); have I4 := Lib.hid (I3.out.keep k4 (fun _ _ x => x)); have X4 := Lib.hid b4; clear hw k4 b4)
    | (go_at_call 14; ((with_reducible refine (GR.out _ K4.out e HD.out).mono ?_); rintro en w5 ⟨a2, b2, c2, rfl, j5, k5⟩; have J5 := Lib.hid j5; have I5 := Lib.hid (I4.out.keep k5 (fun _ _ x => x)); have K5 := Lib.hid (K4.out.next k5); have X5 := Lib.hid (X4.out.keep k5 (fun x => x)); clear j5 k5))
    | (refine wpList_store_row rfl 39 _ _ rfl w5.heap.size (edCells e a2 b2 c2).toArray rfl rfl 39 _ (ZR.out w5) (szR e a2 b2 c2) rfl (ed_all _ _ _ _) ?_; obtain ⟨w6, hw⟩ : ∃ w6, w6 = (w5.alloc (.cells #[.int .i64 0, .int .i64 0, .int .i64 0, .int .i64 0, .int .i64 0, .int .i64 0, .int .i64 0, .int .i64 0, .int .i64 0, .int .i64 0, .slice none 0 0, .slice none 0 0, .int .i64 0, .int .i64 0, .int .i64 0, .int .i64 0, .int .i64 0, .int .i64 0, .slice none 0 0] 39)).setRow w5.heap.size (edCells e a2 b2 c2).toArray := ⟨_, rfl⟩; rw [← hw]; obtain ⟨k6, b6⟩ := ST.out w5 w6 _ e a2 b2 c2 hw; have K6 := Lib.hid (K5.out.next k6); have X6 := Lib.hid (X5.out.keep k6 (fun x => x)); have I6 := Lib.hid (I5.out.keep k6 (fun _ _ x => x)); have J6 := Lib.hid (J5.out.keep k6 (fun _ _ x => x)); have Y6 := Lib.hid b6; clear hw k6 b6))
  obtain ⟨X, hX⟩ : ∃ X, X = w3.heap.size := ⟨_, rfl⟩
  rw [← hX] at X6
  obtain ⟨Y, hY⟩ : ∃ Y, Y = w5.heap.size := ⟨_, rfl⟩
  rw [← hY] at Y6
  rw [← hX, ← hY]
  clear hX hY X4 X5
  obtain ⟨rE, aE⟩ := X6.out.row
  obtain ⟨rR, aR⟩ := Y6.out.row
  go_wp2_with (first
    | (go_at_call 13; ((with_reducible refine (CL.out w6 _ _ _ _ _ _ _ I6.out J6.out HD.out).mono ?_); rintro en w7 ⟨rfl, k7⟩; have K7 := Lib.hid (K6.out.next k7); have I7 := Lib.hid (I6.out.keep k7 (fun _ _ x => x)); obtain ⟨rE7, aE7⟩ := (X6.out.keep k7 (fun x => x)).row; clear k7))
    | (go_at_call 8; ((with_reducible refine (C8.out w7 _ _ _ _ I7.out HD.out).mono ?_); rintro en w8 t8; obtain ⟨g8, n8, c8, rfl, r8⟩ := told_row t8 (LN.out _ HD.out).2; have R8 := Lib.hid r8; have K8 := Lib.hid (K7.out.next r8.keep); clear t8 r8))
    | (go_at_call 10; ((with_reducible refine (CS.out _ _ _ _ _ K8.out R8.out).mono ?_); rintro en w9 ⟨rfl, k9⟩; have K9 := Lib.hid (K8.out.next k9); clear k9)))
  go_ret
  exact ⟨rfl, K9.out⟩
set_option maxRecDepth 100000 in
set_option maxHeartbeats 3200000 in
theorem reads_bad (w : World) (g : Hd) (xs : List Nat) (hc : Cells 1 w g (bys xs)) (hy : ∀ y ∈ xs, y < 256) (hn : g.n ≤ 3000) (F : Nat) (hF : fin (getE ⟨0, xs⟩).2 = F) (h0 : F ≠ 0) : Calls Try.prog 4 #[.slice g.a g.n g.c] w (Yes w) := by
  have hl : xs.length = g.n := by have := hc.len; rw [bys_length] at this; omega
  have A := Lib.hid (anchor_any w)
  have hn2 : ¬ (3000 : Int) < g.n := by omega
  have sz := szEd
  have szR := szREd
  have ZB := Lib.hid (fun (w1 : World) => heap_alloc_new w1 (.cells #[.int .i64 0, .int .i64 0, .int .i64 0, .int .i64 0, .int .i64 0, .int .i64 0, .int .i64 0, .int .i64 0, .int .i64 0, .int .i64 0, .slice none 0 0, .slice none 0 0, .int .i64 0, .int .i64 0, .int .i64 0, .int .i64 0, .int .i64 0, .int .i64 0, .slice none 0 0] 27))
  have ZR := Lib.hid (fun (w1 : World) => heap_alloc_new w1 (.cells #[.int .i64 0, .int .i64 0, .int .i64 0, .int .i64 0, .int .i64 0, .int .i64 0, .int .i64 0, .int .i64 0, .int .i64 0, .int .i64 0, .slice none 0 0, .slice none 0 0, .int .i64 0, .int .i64 0, .int .i64 0, .int .i64 0, .int .i64 0, .int .i64 0, .slice none 0 0] 39))
  have ST := Lib.hid (fun (w1 w2 : World) (T : TypeId) (e : PEd) (a b c : Hd) (hw : w2 = (w1.alloc (.cells #[.int .i64 0, .int .i64 0, .int .i64 0, .int .i64 0, .int .i64 0, .int .i64 0, .int .i64 0, .int .i64 0, .int .i64 0, .int .i64 0, .slice none 0 0, .slice none 0 0, .int .i64 0, .int .i64 0, .int .i64 0, .int .i64 0, .int .i64 0, .int .i64 0, .slice none 0 0] T)).setRow w1.heap.size (edCells e a b c).toArray) => show Keeps none' w1 w2 ∧ Eb w2 T w1.heap.size e a b c from by
    have hb : w2.heap[w1.heap.size]? = some (.cells (edCells e a b c).toArray T (0, 0)) := by rw [hw]; exact setRow_heap _ _ _ _ _ _ (heap_alloc_new w1 _)
    exact ⟨by rw [hw]; exact ((Keeps.refl none' w1).alloc _).trans (keeps_row _ _ _) (fun i hi x => by omega), hb⟩)
  have hb1 : ((F : Int) != (F : Int)) = false := by simp
  have hb2 : ((F : Int) != 0) = true := by simp [h0]
  have GE := Lib.hid (fun (w1 : World) (k : Keeps none' w w1) => get_no (w := w1) g (hc.later k) hy (by omega) hF h0)
  have GR := Lib.hid (fun (w1 : World) (k : Keeps none' w w1) => show Calls Try.prog 14 #[.slice g.a g.n g.c] w1 (fun en w' => en = .returned (.tuple #[.agg (edCells PEd.no Hd.nil Hd.nil Hd.nil).toArray, .int .i64 (F : Int)]) ∧ Keeps none' w1 w') from (RGetEdit_any w1 g xs (hc.later k) hy (by omega)).mono (by
    rintro en w' ⟨e', a, b, c, he, hi, hk, -, hif⟩
    obtain ⟨rfl, rfl, rfl, rfl⟩ := hif (by rw [hF]; exact h0)
    exact ⟨by rw [he, hF]; rfl, hk⟩))
  have CL := Lib.hid (fun (w1 : World) => show Calls Try.prog 13 #[.agg (edCells PEd.no Hd.nil Hd.nil Hd.nil).toArray, .agg (edCells PEd.no Hd.nil Hd.nil Hd.nil).toArray] w1 (Yes w1) from likeEdit_yes w1 PEd.no _ _ _ _ _ _ (EdIn.no w1) (EdIn.no w1) (by decide) (by decide) (by decide))
  clear hc hy hF h0 hl
  go_enter Try.func4, Try.ntmps4
  go_upto_region 7 with (first
    | (go_at_call 7; ((with_reducible refine A.out.mono ?_); rintro en w1 ⟨rfl, k1⟩; have K1 := Lib.hid k1; clear k1))
    | (go_at_call 9; ((with_reducible refine (GE.out _ K1.out).mono ?_); rintro en w3 ⟨rfl, k3⟩; have I3 := Lib.hid (EdIn.no w3); have K3 := Lib.hid (K1.out.next k3); clear k3))
    | (refine wpList_store_row rfl 27 _ _ rfl w3.heap.size (edCells PEd.no Hd.nil Hd.nil Hd.nil).toArray rfl rfl 27 _ (ZB.out w3) (sz PEd.no Hd.nil Hd.nil Hd.nil) rfl (ed_all _ _ _ _) ?_; obtain ⟨w4, hw⟩ : ∃ w4, w4 = (w3.alloc (.cells #[.int .i64 0, .int .i64 0, .int .i64 0, .int .i64 0, .int .i64 0, .int .i64 0, .int .i64 0, .int .i64 0, .int .i64 0, .int .i64 0, .slice none 0 0, .slice none 0 0, .int .i64 0, .int .i64 0, .int .i64 0, .int .i64 0, .int .i64 0, .int .i64 0, .slice none 0 0] 27)).setRow w3.heap.size (edCells PEd.no Hd.nil Hd.nil Hd.nil).toArray := ⟨_, rfl⟩; rw [← hw]; obtain ⟨k4, b4⟩ := ST.out w3 w4 _ PEd.no Hd.nil Hd.nil Hd.nil hw; have K4 := Lib.hid (K3.out.next k4); have I4 := Lib.hid (I3.out.keep k4 (fun _ _ x => x)); have X4 := Lib.hid b4; clear hw k4 b4)
    | (go_at_call 14; ((with_reducible refine (GR.out _ K4.out).mono ?_); rintro en w5 ⟨rfl, k5⟩; have J5 := Lib.hid (EdIn.no w5); have I5 := Lib.hid (EdIn.no w5); have K5 := Lib.hid (K4.out.next k5); have X5 := Lib.hid (X4.out.keep k5 (fun x => x)); clear k5))
    | (refine wpList_store_row rfl 39 _ _ rfl w5.heap.size (edCells PEd.no Hd.nil Hd.nil Hd.nil).toArray rfl rfl 39 _ (ZR.out w5) (szR PEd.no Hd.nil Hd.nil Hd.nil) rfl (ed_all _ _ _ _) ?_; obtain ⟨w6, hw⟩ : ∃ w6, w6 = (w5.alloc (.cells #[.int .i64 0, .int .i64 0, .int .i64 0, .int .i64 0, .int .i64 0, .int .i64 0, .int .i64 0, .int .i64 0, .int .i64 0, .int .i64 0, .slice none 0 0, .slice none 0 0, .int .i64 0, .int .i64 0, .int .i64 0, .int .i64 0, .int .i64 0, .int .i64 0, .slice none 0 0] 39)).setRow w5.heap.size (edCells PEd.no Hd.nil Hd.nil Hd.nil).toArray := ⟨_, rfl⟩; rw [← hw]; obtain ⟨k6, b6⟩ := ST.out w5 w6 _ PEd.no Hd.nil Hd.nil Hd.nil hw; have K6 := Lib.hid (K5.out.next k6); have X6 := Lib.hid (X5.out.keep k6 (fun x => x)); have I6 := Lib.hid (I5.out.keep k6 (fun _ _ x => x)); have J6 := Lib.hid (J5.out.keep k6 (fun _ _ x => x)); have Y6 := Lib.hid b6; clear hw k6 b6))
  obtain ⟨X, hX⟩ : ∃ X, X = w3.heap.size := ⟨_, rfl⟩
  rw [← hX] at X6
  obtain ⟨Y, hY⟩ : ∃ Y, Y = w5.heap.size := ⟨_, rfl⟩
  rw [← hY] at Y6
  rw [← hX, ← hY]
  clear hX hY X4 X5
  obtain ⟨rE, aE⟩ := X6.out.row
  obtain ⟨rR, aR⟩ := Y6.out.row
  go_wp2_with (first
    | (go_at_call 13; ((with_reducible refine (CL.out w6).mono ?_); rintro en w7 ⟨rfl, k7⟩; have K7 := Lib.hid (K6.out.next k7); clear k7)))
  go_ret
  exact ⟨rfl, K7.out⟩
theorem reads_walk (w : World) (g : Hd) (xs : List Nat) (h : BytesIn w g xs) : Calls Try.prog 4 #[.slice g.a g.n g.c] w (Yes w) := by
  by_cases n0 : g.n ≤ 3000
  · by_cases hF : fin (getE ⟨0, xs⟩).2 = 0
    · exact reads_good w g xs h.1 h.2 n0 hF
    · exact reads_bad w g xs h.1 h.2 n0 _ rfl hF
  · exact reads_early w g (by omega)
end Go.Proofs.Ytcdhpidglchinaa
