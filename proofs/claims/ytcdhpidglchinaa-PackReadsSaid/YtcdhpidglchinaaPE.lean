/- PackEdits' walk. -/
import Derived.Test.YtcdhpidglchinaaLK
import Derived.Test.YtcdhpidglchinaaT
namespace Go.Proofs.Ytcdhpidglchinaa
open Go.RowKit Go.Lib Pk
set_option linter.unusedSimpArgs false
set_option linter.unusedVariables false

attribute [local go_sem ↓] ldxE ldxR
attribute [local go_sem] ptrBlock_some
set_option maxRecDepth 100000 in
set_option maxHeartbeats 800000 in
theorem edits_early0 (w : World) (e : PEd) (p s q : Hd)  (hc : 1000 < p.n) :
    Calls Try.prog 3 #[edV e p s q] w (Yes w) := by
  obtain ⟨EV, hEV⟩ : ∃ EV, EV = (edCells e p s q).toArray := ⟨_, rfl⟩
  obtain ⟨u, hu⟩ : ∃ u, u = w.alloc (.cells EV 27) := ⟨_, rfl⟩
  have K0 := Lib.hid (show Keeps none' w u by rw [hu]; exact (Keeps.refl none' w).alloc _)
  have E0 := Lib.hid (show Eb u 27 w.heap.size e p s q by rw [hu, hEV]; exact Eb.new w _ e p s q)
  have A := Lib.hid (anchor_any u)
  unfold edV
  rw [← hEV]
  clear hEV
  go_enter Try.func3, Try.ntmps3
  go_upto_region 1 with (fail)
  rw [← hu]
  clear hu
  go_wp2_with (go_at_call 7; ((with_reducible refine A.out.mono ?_); rintro en w1 ⟨rfl, k1⟩; have e1 := (E0.out).keep k1 (fun x => x); have c10 := e1.c10; have c11 := e1.c11; have c18 := e1.c18; have K1 := Lib.hid k1; clear k1 e1))
  go_ret
  exact ⟨rfl, K0.out.next K1.out⟩
set_option maxRecDepth 100000 in
set_option maxHeartbeats 800000 in
theorem edits_early1 (w : World) (e : PEd) (p s q : Hd) (n0 : p.n ≤ 1000) (hc : 1000 < s.n) :
    Calls Try.prog 3 #[edV e p s q] w (Yes w) := by
  obtain ⟨EV, hEV⟩ : ∃ EV, EV = (edCells e p s q).toArray := ⟨_, rfl⟩
  obtain ⟨u, hu⟩ : ∃ u, u = w.alloc (.cells EV 27) := ⟨_, rfl⟩
  have K0 := Lib.hid (show Keeps none' w u by rw [hu]; exact (Keeps.refl none' w).alloc _)
  have E0 := Lib.hid (show Eb u 27 w.heap.size e p s q by rw [hu, hEV]; exact Eb.new w _ e p s q)
  have A := Lib.hid (anchor_any u)
  unfold edV
  rw [← hEV]
  clear hEV
  go_enter Try.func3, Try.ntmps3
  go_upto_region 1 with (fail)
  rw [← hu]
  clear hu
  go_wp2_with (go_at_call 7; ((with_reducible refine A.out.mono ?_); rintro en w1 ⟨rfl, k1⟩; have e1 := (E0.out).keep k1 (fun x => x); have c10 := e1.c10; have c11 := e1.c11; have c18 := e1.c18; have K1 := Lib.hid k1; clear k1 e1))
  go_ret
  exact ⟨rfl, K0.out.next K1.out⟩
set_option maxRecDepth 100000 in
set_option maxHeartbeats 800000 in
theorem edits_early2 (w : World) (e : PEd) (p s q : Hd) (n0 : p.n ≤ 1000) (n1 : s.n ≤ 1000) (hc : 1000 < q.n) :
    Calls Try.prog 3 #[edV e p s q] w (Yes w) := by
  obtain ⟨EV, hEV⟩ : ∃ EV, EV = (edCells e p s q).toArray := ⟨_, rfl⟩
  obtain ⟨u, hu⟩ : ∃ u, u = w.alloc (.cells EV 27) := ⟨_, rfl⟩
  have K0 := Lib.hid (show Keeps none' w u by rw [hu]; exact (Keeps.refl none' w).alloc _)
  have E0 := Lib.hid (show Eb u 27 w.heap.size e p s q by rw [hu, hEV]; exact Eb.new w _ e p s q)
  have A := Lib.hid (anchor_any u)
  unfold edV
  rw [← hEV]
  clear hEV
  go_enter Try.func3, Try.ntmps3
  go_upto_region 1 with (fail)
  rw [← hu]
  clear hu
  go_wp2_with (go_at_call 7; ((with_reducible refine A.out.mono ?_); rintro en w1 ⟨rfl, k1⟩; have e1 := (E0.out).keep k1 (fun x => x); have c10 := e1.c10; have c11 := e1.c11; have c18 := e1.c18; have K1 := Lib.hid k1; clear k1 e1))
  go_ret
  exact ⟨rfl, K0.out.next K1.out⟩
theorem edits_short {e : PEd} (ok : EdOk e.ed) {p s q : Hd} {w : World} (hi : EdIn w e p s q) (n0 : p.n ≤ 1000) (n1 : s.n ≤ 1000) (n2 : q.n ≤ 1000) : (putE e.ed).length ≤ 50000 ∧ 0 < (putE e.ed).length ∧ e.p.length + e.s.length + e.q.length ≤ 10000 := by
  have h1 := hi.p.len
  have h2 := hi.s.len
  have h3 := hi.q.len
  rw [ints_length] at h1 h3
  rw [pts_length] at h2
  obtain ⟨ok10, okp, oks, ok6, okq⟩ := ok
  simp only [PEd.ed] at ok10 okp oks ok6 okq
  have l1 := flat_short ok10.1
  have l2 := putL_short okp.1 (by omega)
  have l3 := putLP_short oks.1 (by omega)
  have l4 := flat_short ok6.1
  have l5 := putL_short okq.1 (by omega)
  have l6 := put_pos (e.p.length : Int)
  rw [ok10.2] at l1
  rw [ok6.2] at l4
  have e1 : (putE e.ed).length = (e.ten.flatMap put).length + ((putL put e.p).length + ((putL putPt e.s).length + ((e.six.flatMap put).length + (putL put e.q).length))) := by
    show (e.ten.flatMap put ++ (putL put e.p ++ (putL putPt e.s ++ (e.six.flatMap put ++ putL put e.q)))).length = _
    simp only [List.length_append]
  have l7 : 0 < (putL put e.p).length := by unfold putL; rw [List.length_append]; omega
  refine ⟨by omega, by omega, by omega⟩
set_option maxRecDepth 100000 in
set_option maxHeartbeats 3200000 in
theorem edits_good (w : World) (e : PEd) (p s q : Hd) (hi : EdIn w e p s q) (ok : EdOk e.ed) (n0 : p.n ≤ 1000) (n1 : s.n ≤ 1000) (n2 : q.n ≤ 1000) :
    Calls Try.prog 3 #[edV e p s q] w (Yes w) := by
  obtain ⟨EV, hEV⟩ : ∃ EV, EV = (edCells e p s q).toArray := ⟨_, rfl⟩
  obtain ⟨u, hu⟩ : ∃ u, u = w.alloc (.cells EV 27) := ⟨_, rfl⟩
  have K0 := Lib.hid (show Keeps none' w u by rw [hu]; exact (Keeps.refl none' w).alloc _)
  have E0 := Lib.hid (show Eb u 27 w.heap.size e p s q by rw [hu, hEV]; exact Eb.new w _ e p s q)
  have A := Lib.hid (anchor_any u)
  obtain ⟨ls1, ls2, ls3⟩ := edits_short ok hi n0 n1 n2
  obtain ⟨zs, hzs⟩ : ∃ zs, zs = putE e.ed := ⟨_, rfl⟩
  have C1 := Lib.hid (fun (w1 : World) (k : Keeps none' w w1) => show Calls Try.prog 8 #[.agg (edCells e p s q).toArray] w1 (ToldB w1 zs) from by rw [hzs]; exact PutEdit_any w1 e p s q (hi.keep k (fun _ _ x => x)) ok ls3)
  have C2 := Lib.hid (fun (w1 w2 : World) (g k c : Nat) (r : Row w1 w2 g k c zs) => show Calls Try.prog 9 #[.slice (some ⟨g, 0, none⟩) k c] w2 _ from get_back (w := w2) (e := e) ok ⟨some ⟨g, 0, none⟩, k, c⟩ (by rw [← hzs]; exact r.cells) (by omega))
  have CM := Lib.hid (fun (w1 : World) (k : Keeps none' w w1) => show Calls Try.prog 12 #[.agg (edCells e p s q).toArray] w1 (MadeE w1 e p q) from MEdit_any w1 e p s q (hi.keep k (fun _ _ x => x)) (by omega))
  have CR := Lib.hid (fun (w1 : World) (s1 : Hd) (i1 : EdIn w1 e p s1 q) => show Calls Try.prog 11 #[.agg (edCells e p s1 q).toArray] w1 (ToldB w1 zs) from by rw [hzs]; exact REdit_any w1 e p s1 q i1 ok ls3)
  rw [← hzs] at ls1 ls2
  have CS := Lib.hid (fun (w1 w2 w3 w4 : World) (g n c g' n' c' : Nat) (r : Row w1 w2 g n c zs) (kk : Keeps none' w2 w4) (r' : Row w3 w4 g' n' c' zs) => show Calls Try.prog 10 #[.slice (some ⟨g, 0, none⟩) n c, .slice (some ⟨g', 0, none⟩) n' c'] w4 (fun en w' => en = .returned (.bool true) ∧ Keeps none' w4 w') from
    (Same_any w4 ⟨some ⟨g, 0, none⟩, n, c⟩ ⟨some ⟨g', 0, none⟩, n', c'⟩ zs zs (r.cells.later kk) r'.cells (by omega) (by omega)).mono (fun en w' ⟨a, b⟩ => ⟨by rw [a]; exact ret_bool (decide_eq_true rfl), b⟩))
  have CL := Lib.hid (fun (w1 : World) (a b c s2 : Hd) (i1 : EdIn w1 e a b c) (i2 : EdIn w1 e p s2 q) => show Calls Try.prog 13 #[.agg (edCells e a b c).toArray, .agg (edCells e p s2 q).toArray] w1 (Yes w1) from likeEdit_yes w1 e a b c p s2 q i1 i2 (by omega) (by omega) (by omega))
  have PZ := Lib.hid (show 0 < zs.length by omega)
  have sz := szEd
  have ZB := Lib.hid (fun (w1 : World) => heap_alloc_new w1 (.cells #[.int .i64 0, .int .i64 0, .int .i64 0, .int .i64 0, .int .i64 0, .int .i64 0, .int .i64 0, .int .i64 0, .int .i64 0, .int .i64 0, .slice none 0 0, .slice none 0 0, .int .i64 0, .int .i64 0, .int .i64 0, .int .i64 0, .int .i64 0, .int .i64 0, .slice none 0 0] 27))
  have ST := Lib.hid (fun (w1 w2 : World) (e : PEd) (a b c : Hd) (hw : w2 = (w1.alloc (.cells #[.int .i64 0, .int .i64 0, .int .i64 0, .int .i64 0, .int .i64 0, .int .i64 0, .int .i64 0, .int .i64 0, .int .i64 0, .int .i64 0, .slice none 0 0, .slice none 0 0, .int .i64 0, .int .i64 0, .int .i64 0, .int .i64 0, .int .i64 0, .int .i64 0, .slice none 0 0] 27)).setRow w1.heap.size (edCells e a b c).toArray) => show Keeps none' w1 w2 ∧ Eb w2 27 w1.heap.size e a b c from by
    have hb : w2.heap[w1.heap.size]? = some (.cells (edCells e a b c).toArray 27 (0, 0)) := by rw [hw]; exact setRow_heap _ _ _ _ _ _ (heap_alloc_new w1 _)
    exact ⟨by rw [hw]; exact ((Keeps.refl none' w1).alloc _).trans (keeps_row _ _ _) (fun i hi x => by omega), hb⟩)
  unfold edV
  rw [← hEV]
  have HEV := Lib.hid hEV
  clear hEV hi ok ls1 ls2 ls3 hzs
  go_enter Try.func3, Try.ntmps3
  go_upto_region 1 with (fail)
  rw [← hu]
  obtain ⟨E, hE⟩ : ∃ E, E = w.heap.size := ⟨_, rfl⟩
  rw [← hE] at E0
  rw [← hE]
  clear hu hE
  go_upto_region 7 with (first
    | (go_at_call 7; ((with_reducible refine A.out.mono ?_); rintro en w1 ⟨rfl, k1⟩; have e1 := (E0.out).keep k1 (fun x => x); have c10 := e1.c10; have c11 := e1.c11; have c18 := e1.c18; have K1 := Lib.hid (K0.out.next k1); have E1 := Lib.hid e1; clear k1 e1))
    | (refine wpList_load_row rfl 27 _ rfl E rfl 27 (edCells e p s q).toArray (0, 0) _ E1.out Try.underlying27 rfl (sz e p s q) ?_)
    | (go_at_call 8; ((with_reducible refine (C1.out _ K1.out).mono ?_); rintro en w2 t1; obtain ⟨g, lz, c, rfl, r1⟩ := told_row t1 PZ.out; have K2 := Lib.hid (K1.out.next r1.keep); have R1 := Lib.hid r1; clear t1 r1))
    | (go_at_call 9; ((with_reducible refine (C2.out _ _ _ _ _ R1.out).mono ?_); rintro en w3 ⟨a, b, d, rfl, i3, k3⟩; have I3 := Lib.hid i3; have K3 := Lib.hid k3; clear i3 k3))
    | (refine wpList_store_row rfl 27 _ _ rfl w3.heap.size (edCells e a b d).toArray rfl rfl 27 _ (ZB.out w3) (sz e a b d) rfl (ed_all _ _ _ _) ?_; obtain ⟨w5, hw⟩ : ∃ w5, w5 = (w3.alloc (.cells #[.int .i64 0, .int .i64 0, .int .i64 0, .int .i64 0, .int .i64 0, .int .i64 0, .int .i64 0, .int .i64 0, .int .i64 0, .int .i64 0, .slice none 0 0, .slice none 0 0, .int .i64 0, .int .i64 0, .int .i64 0, .int .i64 0, .int .i64 0, .int .i64 0, .slice none 0 0] 27)).setRow w3.heap.size (edCells e a b d).toArray := ⟨_, rfl⟩; rw [← hw]; obtain ⟨k5, b5⟩ := ST.out w3 w5 e a b d hw; have KR := Lib.hid (K3.out.next k5); have KW := Lib.hid ((K2.out.next K3.out).next k5); have I5 := Lib.hid (I3.out.keep k5 (fun _ _ x => x)); have X5 := Lib.hid b5; have E5 := Lib.hid (((E1.out.keep R1.out.keep (fun x => x)).keep (K3.out.next k5)) (fun x => x)); clear hw k5 b5))
  obtain ⟨X, hX⟩ : ∃ X, X = w3.heap.size := ⟨_, rfl⟩
  rw [← hX] at X5
  rw [← hX]
  clear hX c10 c11 c18
  have KV := Lib.hid (Keeps.refl none' w5)
  obtain ⟨rE, aE⟩ := E5.out.row
  obtain ⟨rX, aX⟩ := X5.out.row
  have rEd : RowE w5.drew 27 E := rE
  have aEd : rowAt w5.drew E = (edCells e p s q).toArray := aE
  go_region_law (first
    | (go_simp; ((with_reducible refine (CM.out _ (by first | exact KW.out | exact KW.out.drew)).mono ?_); rintro en w6 ⟨s1, rfl, i6, k6⟩; have KV := Lib.hid (show Keeps none' w5 w6 from by first | exact KV.out.next k6 | exact KV.out.drew.next k6); have KW := Lib.hid (show Keeps none' w w6 from by first | exact KW.out.next k6 | exact KW.out.drew.next k6); have I6 := Lib.hid i6; obtain ⟨rE6, aE6⟩ := (E5.out.keep KV.out (fun x => x)).row; obtain ⟨rX6, aX6⟩ := (X5.out.keep KV.out (fun x => x)).row; clear i6 k6))
    | (go_simp; ((with_reducible refine (CR.out _ _ I6.out).mono ?_); rintro en w7 t7; obtain ⟨g7, n7, c7, rfl, r7⟩ := told_row t7 PZ.out; have R7 := Lib.hid r7; have KV := Lib.hid (KV.out.next r7.keep); have KW := Lib.hid (KW.out.next r7.keep); clear t7 r7))
    | (go_simp; ((with_reducible refine (CS.out _ _ _ _ _ _ _ _ _ _ R1.out (KR.out.next KV.out) R7.out).mono ?_); rintro en w8 ⟨rfl, k8⟩; have KV := Lib.hid (KV.out.next k8); have KW := Lib.hid (KW.out.next k8); obtain ⟨rE8, aE8⟩ := (E5.out.keep KV.out (fun x => x)).row; obtain ⟨rX8, aX8⟩ := (X5.out.keep KV.out (fun x => x)).row; clear k8))
    | (go_simp; ((with_reducible refine (CL.out _ _ _ _ _ (I5.out.keep KV.out (fun _ _ x => x)) I6.out).mono ?_); rintro en w9 ⟨rfl, k9⟩; have KW := Lib.hid (KW.out.next k9); clear k9)))
  all_goals
    go_wp2_with fail
    go_ret
    exact ⟨rfl, KW.out⟩
theorem edits_walk (w : World) (e : PEd) (p s q : Hd) (hi : EditIn w e p s q) : Calls Try.prog 3 #[edV e p s q] w (Yes w) := by
  by_cases n0 : p.n ≤ 1000
  · by_cases n1 : s.n ≤ 1000
    · by_cases n2 : q.n ≤ 1000
      · exact edits_good w e p s q hi.cells hi.ok n0 n1 n2
      · exact edits_early2 w e p s q n0 n1 (by omega)
    · exact edits_early1 w e p s q n0 (by omega)
  · exact edits_early0 w e p s q (by omega)
end Go.Proofs.Ytcdhpidglchinaa
