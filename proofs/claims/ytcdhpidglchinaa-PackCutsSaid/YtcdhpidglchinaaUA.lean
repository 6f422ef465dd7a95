/- PackCuts' walk: kind. -/
import Derived.Test.YtcdhpidglchinaaU
namespace Go.Proofs.Ytcdhpidglchinaa
open Go.RowKit Go.Lib Pk
set_option linter.unusedSimpArgs false
set_option linter.unusedVariables false

attribute [local go_sem ↓] ldxE
attribute [local go_sem] ptrBlock_some
set_option maxRecDepth 100000 in
set_option maxHeartbeats 3200000 in
theorem cuts_kind (w : World) (e : PEd) (p s q : Hd) (at_ : Int) (h : Hd) (xs : List Nat) (which : Int) (hi : EdIn w e p s q) (ok : EdOk e.ed) (hh : Cells 1 w h (bys xs)) (hx : ∀ y ∈ xs, y < 256) (n0 : p.n ≤ 300) (n1 : s.n ≤ 300) (n2 : q.n ≤ 300) (n3 : 0 ≤ at_) (n4 : 1 ≤ h.n) (n5 : h.n ≤ 50) (hw0 : which = 0) :
    Calls Try.prog 6 #[edV e p s q, .int .i64 at_, .slice h.a h.n h.c, .int .i64 which] w (Yes w) := by
  obtain ⟨EV, hEV⟩ : ∃ EV, EV = (edCells e p s q).toArray := ⟨_, rfl⟩
  obtain ⟨u, hu⟩ : ∃ u, u = w.alloc (.cells EV 27) := ⟨_, rfl⟩
  have K0 := Lib.hid (show Keeps none' w u by rw [hu]; exact (Keeps.refl none' w).alloc _)
  have E0 := Lib.hid (show Eb u 27 w.heap.size e p s q by rw [hu, hEV]; exact Eb.new w _ e p s q)
  have A := Lib.hid (anchor_any u)
  obtain ⟨ls1, ls2, ls3⟩ := cuts_short ok hi (by omega) (by omega) (by omega)
  obtain ⟨zs, hzs⟩ : ∃ zs, zs = putE e.ed := ⟨_, rfl⟩
  have hxl : xs.length = h.n := by have := hh.len; rw [bys_length] at this; omega
  have zlt : ∀ y ∈ zs, y < 256 := by rw [hzs]; exact putE_lt _
  have C1 := Lib.hid (fun (w1 : World) (k : Keeps none' w w1) => show Calls Try.prog 8 #[.agg (edCells e p s q).toArray] w1 (ToldB w1 zs) from by rw [hzs]; exact PutEdit_any w1 e p s q (hi.keep k (fun _ _ x => x)) ok ls3)
  rw [← hzs] at ls1 ls2
  obtain ⟨T, rfl⟩ : ∃ T : Nat, at_ = T := ⟨at_.toNat, by omega⟩
  obtain ⟨lz, hlz⟩ : ∃ lz, lz = zs.length := ⟨_, rfl⟩
  rw [← hlz] at ls1 ls2
  obtain ⟨k, hk⟩ : ∃ k, k = T % lz := ⟨_, rfl⟩
  have hkl : k < lz := by rw [hk]; exact Nat.mod_lt _ ls2
  have emod : (T : Int) % (lz : Int) = (k : Int) := by rw [hk]; simp
  have G1 := Lib.hid (fun (w1 w2 w3 : World) (g n c : Nat) (r : Row w1 w2 g n c zs) (kk : Keeps none' w2 w3) => show Calls Try.prog 9 #[.slice (some ⟨g, 0, none⟩) k c] w3 (fun en w' => en = .returned (.tuple #[.agg (edCells PEd.no Hd.nil Hd.nil Hd.nil).toArray, .int .i64 20]) ∧ Keeps none' w3 w') from
    get_no (w := w3) (ys := zs.take k) (F := 20) ⟨some ⟨g, 0, none⟩, k, c⟩ ((r.cells.later kk).take (k := 1) (by have := r.len; omega)) (fun y hy => zlt y (List.mem_of_mem_take hy)) (by rw [List.length_take]; omega) (by rw [hzs]; exact edit_cut ok (by rw [← hzs]; omega)) (by decide))
  have JJ := Lib.hid (fun (w1 w2 w3 : World) (g n c : Nat) (r : Row w1 w2 g n c zs) (kk : Keeps none' w2 w3) (k0 : Keeps none' w w3) => Join_any w3 ⟨some ⟨g, 0, none⟩, n, c⟩ h zs xs (r.cells.later kk) (hh.later k0) (by omega) (by omega))
  have G2 := Lib.hid (fun (w1 w2 : World) (g n c : Nat) (r : Row w1 w2 g n c (zs ++ xs)) => show Calls Try.prog 9 #[.slice (some ⟨g, 0, none⟩) n c] w2 (fun en w' => en = .returned (.tuple #[.agg (edCells PEd.no Hd.nil Hd.nil Hd.nil).toArray, .int .i64 25]) ∧ Keeps none' w2 w') from
    get_no (w := w2) (ys := zs ++ xs) (F := 25) ⟨some ⟨g, 0, none⟩, n, c⟩ r.cells (fun y hy => by rcases List.mem_append.1 hy with h | h; exact zlt y h; exact hx y h) (by rw [List.length_append]; omega) (by rw [hzs]; exact edit_more ok (by omega)) (by decide))
  obtain ⟨xf, xn⟩ := xor_one e.kind (ok.1.1 e.kind (by simp [PEd.ed, PEd.ten]))
  obtain ⟨e', he'⟩ : ∃ e', e' = { e with kind := bits .xor .i64 e.kind 1 } := ⟨_, rfl⟩
  obtain ⟨q', hqq⟩ : ∃ q', q' = q := ⟨_, rfl⟩
  have hq' : q'.n ≤ 301 := by rw [hqq]; omega
  have ok' : EdOk e'.ed := by
    obtain ⟨o1, o2, o3, o4, o5⟩ := ok
    rw [he']
    refine ⟨?_, o2, o3, ?_, o5⟩
    · refine ⟨?_, rfl⟩
      intro a ha
      simp only [PEd.ed, PEd.ten, List.mem_cons, List.not_mem_nil, or_false] at ha
      have o1 := o1.1
      simp only [PEd.ed, PEd.ten, List.mem_cons, List.not_mem_nil, or_false] at o1
      rcases ha with rfl | rfl | rfl | rfl | rfl | rfl | rfl | rfl | rfl | rfl <;> first | exact xf | exact o1 _ (by simp)
    · refine ⟨?_, rfl⟩
      intro a ha
      simp only [PEd.ed, PEd.six, List.mem_cons, List.not_mem_nil, or_false] at ha
      have o4 := o4.1
      simp only [PEd.ed, PEd.six, List.mem_cons, List.not_mem_nil, or_false] at o4
      rcases ha with rfl | rfl | rfl | rfl | rfl | rfl <;> first | exact xf | exact o4 _ (by simp)
  have hne : e' ≠ e := by rw [he']; intro x; exact xn (congrArg PEd.kind x)
  have S9 := Lib.hid (fun (w8 : World) (X : Nat) (b : Eb w8 27 X e p s q) => show Eb (w8.setCell ⟨X, 0, none⟩ (.int .i64 (bits .xor .i64 e.kind 1))) 27 X e' p s q' from by
    unfold Eb
    rw [block_set b, he', hqq]
    rfl)
  have I0 := Lib.hid (fun (w9 : World) (k : Keeps none' w w9) => show EdIn w9 e' p s q' from by
    have := hi.keep k (fun _ _ x => x)
    rw [he', hqq]
    exact ⟨this.p, this.s, this.q⟩)

  have C2 := Lib.hid (fun (w1 : World) (hi' : EdIn w1 e' p s q') => show Calls Try.prog 8 #[.agg (edCells e' p s q').toArray] w1 (ToldB w1 (putE e'.ed)) from PutEdit_any w1 e' p s q' hi' ok' (cuts_short ok' hi' (by omega) (by omega) hq').2.2)
  have zs' : putE e'.ed ≠ zs := fun x => hne (ed_inj (edit_inj ok' ok (x.trans hzs)))
  have SS := Lib.hid (fun (w1 w2 w3 w4 : World) (g n c g' n' c' : Nat) (hi' : EdIn w3 e' p s q') (r : Row w1 w2 g n c zs) (kk : Keeps none' w2 w4) (r' : Row w3 w4 g' n' c' (putE e'.ed)) => show Calls Try.prog 10 #[.slice (some ⟨g, 0, none⟩) n c, .slice (some ⟨g', 0, none⟩) n' c'] w4 (fun en w' => en = .returned (.bool false) ∧ Keeps none' w4 w') from
    (Same_any w4 ⟨some ⟨g, 0, none⟩, n, c⟩ ⟨some ⟨g', 0, none⟩, n', c'⟩ zs (putE e'.ed) (r.cells.later kk) r'.cells (by omega) (by have := (cuts_short ok' hi' (by omega) (by omega) hq').1; omega)).mono (fun en w' ⟨a, b⟩ => ⟨by rw [a]; exact ret_bool (decide_eq_false (fun x => zs' x.symm)), b⟩))
  have PZ := Lib.hid (show 0 < zs.length by omega)
  have PX := Lib.hid (show 0 < (zs ++ xs).length by rw [List.length_append]; omega)
  have PE := Lib.hid (fun (w1 : World) (hi' : EdIn w1 e' p s q') => (cuts_short ok' hi' (by omega) (by omega) hq').2.1)
  have LE1 := Lib.hid (fun (w1 w2 : World) (g q c : Nat) (r : Row w1 w2 g q c zs) => show lz = q from hlz.trans r.len)
  have sz := szEd
  have ZB := Lib.hid (fun (w1 : World) => heap_alloc_new w1 (.cells #[.int .i64 0, .int .i64 0, .int .i64 0, .int .i64 0, .int .i64 0, .int .i64 0, .int .i64 0, .int .i64 0, .int .i64 0, .int .i64 0, .slice none 0 0, .slice none 0 0, .int .i64 0, .int .i64 0, .int .i64 0, .int .i64 0, .int .i64 0, .int .i64 0, .slice none 0 0] 27))
  have ST := Lib.hid (fun (w1 w2 : World) (e : PEd) (a b c : Hd) (hw : w2 = (w1.alloc (.cells #[.int .i64 0, .int .i64 0, .int .i64 0, .int .i64 0, .int .i64 0, .int .i64 0, .int .i64 0, .int .i64 0, .int .i64 0, .int .i64 0, .slice none 0 0, .slice none 0 0, .int .i64 0, .int .i64 0, .int .i64 0, .int .i64 0, .int .i64 0, .int .i64 0, .slice none 0 0] 27)).setRow w1.heap.size (edCells e a b c).toArray) => show Keeps none' w1 w2 ∧ Eb w2 27 w1.heap.size e a b c from by
    have hb : w2.heap[w1.heap.size]? = some (.cells (edCells e a b c).toArray 27 (0, 0)) := by rw [hw]; exact setRow_heap _ _ _ _ _ _ (heap_alloc_new w1 _)
    exact ⟨by rw [hw]; exact ((Keeps.refl none' w1).alloc _).trans (keeps_row _ _ _) (fun i hi x => by omega), hb⟩)
  have HI := Lib.hid hi
  unfold edV
  rw [← hEV]
  have HEV := Lib.hid hEV
  clear hEV hi ok hh hx ls3 hzs hxl zlt hlz hk
  clear hne ok' zs' he' hqq xf xn hq'
  subst hw0
  go_enter Try.func6, Try.ntmps6
  go_upto_region 1 with (fail)
  rw [← hu]
  clear hu
  go_wp2_with (first
    | (go_at_call 7; ((with_reducible refine A.out.mono ?_); rintro en w1 ⟨rfl, k1⟩; have e1 := keep3 E0.out k1; have c10 := e1.c10; have c11 := e1.c11; have c18 := e1.c18; have K1 := Lib.hid (K0.out.next k1); have E1 := Lib.hid e1; clear k1 e1))
    | (refine wpList_load_row rfl 27 _ rfl w.heap.size rfl 27 (edCells e p s q).toArray (0, 0) _ E1.out Try.underlying27 rfl (sz e p s q) ?_)
    | (go_at_call 8; ((with_reducible refine (C1.out _ K1.out).mono ?_); rintro en w2 t1; obtain ⟨g, lz', c, rfl, r1⟩ := told_row t1 PZ.out; obtain rfl := LE1.out _ _ _ _ _ r1; have hcap := r1.cap; have K2 := Lib.hid (K1.out.next r1.keep); have R1 := Lib.hid r1; clear t1 r1))
    | (go_at_call 9; ((with_reducible refine (G1.out _ _ w2 _ _ _ R1.out (Keeps.refl _ _)).mono ?_); rintro en w3 ⟨rfl, k3⟩; have K3 := Lib.hid k3; clear k3))
    | (refine wpList_store_row rfl 27 _ _ rfl w3.heap.size (edCells PEd.no Hd.nil Hd.nil Hd.nil).toArray rfl rfl 27 _ (ZB.out w3) (sz PEd.no Hd.nil Hd.nil Hd.nil) rfl (ed_all _ _ _ _) ?_; obtain ⟨w4, hw⟩ : ∃ w4, w4 = (w3.alloc (.cells #[.int .i64 0, .int .i64 0, .int .i64 0, .int .i64 0, .int .i64 0, .int .i64 0, .int .i64 0, .int .i64 0, .int .i64 0, .int .i64 0, .slice none 0 0, .slice none 0 0, .int .i64 0, .int .i64 0, .int .i64 0, .int .i64 0, .int .i64 0, .int .i64 0, .slice none 0 0] 27)).setRow w3.heap.size (edCells PEd.no Hd.nil Hd.nil Hd.nil).toArray := ⟨_, rfl⟩; rw [← hw]; have K4 := Lib.hid (K3.out.next (ST.out w3 w4 PEd.no Hd.nil Hd.nil Hd.nil hw).1); clear hw)
    | (go_at_call 16; ((with_reducible refine (JJ.out _ _ w4 _ _ _ R1.out K4.out (K2.out.next K4.out)).mono ?_); rintro en w5 t5; obtain ⟨g5, n5', c5, rfl, r5⟩ := told_row t5 PX.out; have R5 := Lib.hid r5; clear t5 r5))
    | (go_at_call 9; ((with_reducible refine (G2.out _ _ _ _ _ R5.out).mono ?_); rintro en w6 ⟨rfl, k6⟩; have K6 := Lib.hid k6; clear k6))
    | (refine wpList_store_row rfl 27 _ _ rfl w6.heap.size (edCells PEd.no Hd.nil Hd.nil Hd.nil).toArray rfl rfl 27 _ (ZB.out w6) (sz PEd.no Hd.nil Hd.nil Hd.nil) rfl (ed_all _ _ _ _) ?_; obtain ⟨w7, hw⟩ : ∃ w7, w7 = (w6.alloc (.cells #[.int .i64 0, .int .i64 0, .int .i64 0, .int .i64 0, .int .i64 0, .int .i64 0, .int .i64 0, .int .i64 0, .int .i64 0, .int .i64 0, .slice none 0 0, .slice none 0 0, .int .i64 0, .int .i64 0, .int .i64 0, .int .i64 0, .int .i64 0, .int .i64 0, .slice none 0 0] 27)).setRow w6.heap.size (edCells PEd.no Hd.nil Hd.nil Hd.nil).toArray := ⟨_, rfl⟩; rw [← hw]; have K7 := Lib.hid (((K4.out.next R5.out.keep).next K6.out).next (ST.out w6 w7 PEd.no Hd.nil Hd.nil Hd.nil hw).1); have E7 := Lib.hid (keep3 (keep3 E1.out R1.out.keep) K7.out); clear hw)
    | (refine wpList_load_row rfl 27 _ rfl w.heap.size rfl 27 (edCells e p s q).toArray (0, 0) _ E7.out Try.underlying27 rfl (sz e p s q) ?_)
    | (refine wpList_store_row rfl 27 _ _ rfl w7.heap.size (edCells e p s q).toArray rfl rfl 27 _ (ZB.out w7) (sz e p s q) rfl (ed_all _ _ _ _) ?_; obtain ⟨w8, hw⟩ : ∃ w8, w8 = (w7.alloc (.cells #[.int .i64 0, .int .i64 0, .int .i64 0, .int .i64 0, .int .i64 0, .int .i64 0, .int .i64 0, .int .i64 0, .int .i64 0, .int .i64 0, .slice none 0 0, .slice none 0 0, .int .i64 0, .int .i64 0, .int .i64 0, .int .i64 0, .int .i64 0, .int .i64 0, .slice none 0 0] 27)).setRow w7.heap.size (edCells e p s q).toArray := ⟨_, rfl⟩; rw [← hw]; obtain ⟨k8, b8⟩ := ST.out w7 w8 e p s q hw; have K8 := Lib.hid (K7.out.next k8); have B8 := Lib.hid b8; have d0 : w8.cell? ⟨w7.heap.size, 0, none⟩ = some (.int .i64 e.kind) := b8.c0; have f0 := free_at (i := 0) b8; have K9 := Lib.hid ((K7.out.next k8).next ((Keeps.refl none' w8).weak (fun _ _ x => x))); have k9 : Keeps none' w7 (w8.setCell ⟨w7.heap.size, 0, none⟩ (.int .i64 (bits .xor .i64 e.kind 1))) := (k8.trans (keeps_at _ _ _ _) (fun i hi x => by omega)); have K9 := Lib.hid (K7.out.next k9); have B9 := Lib.hid (S9.out _ _ b8); have I9 := Lib.hid (I0.out _ (K2.out.next K9.out)); obtain ⟨rw9, ra9⟩ := (S9.out _ _ b8).row; clear k9; clear hw k8 b8)
    | (refine wpList_load_row rfl 27 _ rfl w7.heap.size rfl 27 (edCells e' p s q').toArray (0, 0) _ B9.out Try.underlying27 rfl (sz e' p s q') ?_)
    | (go_at_call 8; ((with_reducible refine (C2.out _ I9.out).mono ?_); rintro en w10 t10; obtain ⟨g10, n10, c10', rfl, r10⟩ := told_row t10 (PE.out _ I9.out); have R10 := Lib.hid r10; clear t10 r10))
    | (go_at_call 10; ((with_reducible refine (SS.out _ _ _ _ _ _ _ _ _ _ I9.out R1.out (K9.out.next R10.out.keep) R10.out).mono ?_); rintro en w11 ⟨rfl, k11⟩; have K11 := Lib.hid k11; clear k11)))
  go_ret
  exact ⟨rfl, (((K2.out.next K9.out).next R10.out.keep).next K11.out)⟩
end Go.Proofs.Ytcdhpidglchinaa
