/- PackCuts' walk: pars. -/
import Derived.Test.YtcdhpidglchinaaU
namespace Go.Proofs.Ytcdhpidglchinaa
open Go.RowKit Go.Lib Pk
set_option linter.unusedSimpArgs false
set_option linter.unusedVariables false

attribute [local go_sem ↓] ldxE
attribute [local go_sem] ptrBlock_some
set_option maxRecDepth 100000 in
set_option maxHeartbeats 3200000 in
theorem cuts_pars (w : World) (e : PEd) (p s q : Hd) (at_ : Int) (h : Hd) (xs : List Nat) (which : Int) (hi : EdIn w e p s q) (ok : EdOk e.ed) (hh : Cells 1 w h (bys xs)) (hx : ∀ y ∈ xs, y < 256) (n0 : p.n ≤ 300) (n1 : s.n ≤ 300) (n2 : q.n ≤ 300) (n3 : 0 ≤ at_) (n4 : 1 ≤ h.n) (n5 : h.n ≤ 50) (hw0 : which ≠ 0) (hw1 : which ≠ 1) (hw2 : which ≠ 2) :
    Calls Try.prog 6 #[edV e p s q, .int .i64 at_, .slice h.a h.n h.c, .int .i64 which] w (Yes w) := by
  obtain ⟨i0, hi0, hz0, hz1, hz2⟩ := info_parts info3
  obtain ⟨EV, hEV⟩ : ∃ EV, EV = (edCells e p s q).toArray := ⟨_, rfl⟩
  obtain ⟨u, hu⟩ : ∃ u, u = w.alloc (.cells EV 27) := ⟨_, rfl⟩
  have K0 := Lib.hid (show Keeps none' w u by rw [hu]; exact (Keeps.refl none' w).alloc _)
  have E0 := Lib.hid (show Eb u 27 w.heap.size e p s q by rw [hu, hEV]; exact Eb.new w _ e p s q)
  have A := Lib.hid (anchor_any u)
  obtain ⟨ls1, ls2, ls3⟩ := cuts_short ok hi (by omega) (by omega) (by omega)
  obtain ⟨zs, hzs⟩ : ∃ zs, zs = putE e.ed := ⟨_, rfl⟩
  have hxl : xs.length = h.n := by have := hh.len; rw [bys_length] at this; omega
  have zlt : ∀ y ∈ zs, y < 256 := by rw [hzs]; exact putE_lt _
  have C1 := Lib.hid (fun (w1 : World) (k : Keeps none' w w1) => show Calls Try.prog 8 #[.agg (edCells e p s q).toArray] w1 (ToldB w1 zs) from by rw [hzs]; exact PutEdit_any w1 e p s q (hi.keep k (fun _ _ x => x)) ok ls3)
  rw [← hzs] at ls1 ls2
  obtain ⟨T, rfl⟩ : ∃ T : Nat, at_ = T := ⟨at_.toNat, by omega⟩
  obtain ⟨lz, hlz⟩ : ∃ lz, lz = zs.length := ⟨_, rfl⟩
  rw [← hlz] at ls1 ls2
  obtain ⟨k, hk⟩ : ∃ k, k = T % lz := ⟨_, rfl⟩
  have hkl : k < lz := by rw [hk]; exact Nat.mod_lt _ ls2
  have emod : (T : Int) % (lz : Int) = (k : Int) := by rw [hk]; simp
  have G1 := Lib.hid (fun (w1 w2 w3 : World) (g n c : Nat) (r : Row w1 w2 g n c zs) (kk : Keeps none' w2 w3) => show Calls Try.prog 9 #[.slice (some ⟨g, 0, none⟩) k c] w3 (fun en w' => en = .returned (.tuple #[.agg (edCells PEd.no Hd.nil Hd.nil Hd.nil).toArray, .int .i64 20]) ∧ Keeps none' w3 w') from
    get_no (w := w3) (ys := zs.take k) (F := 20) ⟨some ⟨g, 0, none⟩, k, c⟩ ((r.cells.later kk).take (k := 1) (by have := r.len; omega)) (fun y hy => zlt y (List.mem_of_mem_take hy)) (by rw [List.length_take]; omega) (by rw [hzs]; exact edit_cut ok (by rw [← hzs]; omega)) (by decide))
  have JJ := Lib.hid (fun (w1 w2 w3 : World) (g n c : Nat) (r : Row w1 w2 g n c zs) (kk : Keeps none' w2 w3) (k0 : Keeps none' w w3) => Join_any w3 ⟨some ⟨g, 0, none⟩, n, c⟩ h zs xs (r.cells.later kk) (hh.later k0) (by omega) (by omega))
  have G2 := Lib.hid (fun (w1 w2 : World) (g n c : Nat) (r : Row w1 w2 g n c (zs ++ xs)) => show Calls Try.prog 9 #[.slice (some ⟨g, 0, none⟩) n c] w2 (fun en w' => en = .returned (.tuple #[.agg (edCells PEd.no Hd.nil Hd.nil Hd.nil).toArray, .int .i64 25]) ∧ Keeps none' w2 w') from
    get_no (w := w2) (ys := zs ++ xs) (F := 25) ⟨some ⟨g, 0, none⟩, n, c⟩ r.cells (fun y hy => by rcases List.mem_append.1 hy with h | h; exact zlt y h; exact hx y h) (by rw [List.length_append]; omega) (by rw [hzs]; exact edit_more ok (by omega)) (by decide))
  obtain ⟨e', he'⟩ : ∃ e', e' = { e with q := e.q ++ [0] } := ⟨_, rfl⟩
  have hql : e.q.length = q.n := by have := hi.q.len; rw [ints_length] at this; omega
  have ok' : EdOk e'.ed := by
    obtain ⟨o1, o2, o3, o4, o5⟩ := ok
    rw [he']
    refine ⟨o1, o2, o3, o4, ?_, ?_⟩
    · intro a ha
      simp only [PEd.ed, List.mem_append, List.mem_singleton] at ha
      rcases ha with ha | rfl
      · exact o5.1 a ha
      · exact ⟨by decide, by decide⟩
    · show (e.q ++ [0]).length ≤ _
      simp
      omega
  have hne : e' ≠ e := by
    rw [he']
    intro x
    have := congrArg (fun f => f.q.length) x
    simp at this
  have W0 := Lib.hid (show ¬ (which = 0) ∧ ¬ (which = 1) ∧ ¬ (which = 2) from ⟨hw0, hw1, hw2⟩)
  have O0 := Lib.hid (fun (w8 : World) => World.ownsRow_made (e := 3) (size := 1) w8 #[] 0 (Nat.le_refl _) (Nat.zero_le _) (by simp))
  have Q8 := Lib.hid (fun (w8 : World) (k : Keeps none' w w8) => (hi.q.later k).later ((Keeps.refl none' w8).alloc (.cells #[] 3)))
  have N1 := Lib.hid (fun (w8 : World) => cells_new 1 w8 #[.int .i64 0] 3 1 1 (ints [0]) rfl rfl (Nat.le_refl _) (ints_one _))
  have S9 := Lib.hid (fun (v4 : World) (X : Nat) (a2 : Option Addr) (n2 c2 : Nat) (b : Eb v4 27 X e p s q) => show Eb (v4.setCell ⟨X, 18, none⟩ (.slice a2 n2 c2)) 27 X e' p s ⟨a2, n2, c2⟩ from by
    unfold Eb
    rw [block_set b, he']
    rfl)
  have I0 := Lib.hid (fun (v4 : World) (X B : Nat) (a2 : Option Addr) (n2 c2 : Nat) (v : Value) (k : Keeps none' w v4) (hX : w.heap.size ≤ X) (hB : X < B) (o : v4.ownsRow B 3 1 (.slice a2 n2 c2) n2 (ints e.q ++ ints [0])) => show EdIn (v4.setCell ⟨X, 18, none⟩ v) e' p s ⟨a2, n2, c2⟩ from by
    have h1 := hi.keep k (fun _ _ x => x)
    have kx := keeps_at v4 X 18 v
    rw [← ints_append] at o
    obtain ⟨c, l⟩ := own_cells2 (hd := ⟨a2, n2, c2⟩) o (ints_one _)
    rw [he']
    exact ⟨h1.p.keep kx (fun x hx hp e => by have := (hi.p.at' x hx hp).2.1; omega), h1.s.keep kx (fun x hx hp e => by have := (hi.s.at' x hx hp).2.1; omega), c.keep kx (fun x hx hp e => by have := (l x hx).1; omega)⟩)
  have C2 := Lib.hid (fun (w1 : World) (q' : Hd) (hq' : q'.n ≤ 301) (hi' : EdIn w1 e' p s q') => show Calls Try.prog 8 #[.agg (edCells e' p s q').toArray] w1 (ToldB w1 (putE e'.ed)) from PutEdit_any w1 e' p s q' hi' ok' (cuts_short ok' hi' (by omega) (by omega) hq').2.2)
  have zs' : putE e'.ed ≠ zs := fun x => hne (ed_inj (edit_inj ok' ok (x.trans hzs)))
  have SS := Lib.hid (fun (w1 w2 w3 w4 : World) (g n c g' n' c' : Nat) (q' : Hd) (hq' : q'.n ≤ 301) (hi' : EdIn w3 e' p s q') (r : Row w1 w2 g n c zs) (kk : Keeps none' w2 w4) (r' : Row w3 w4 g' n' c' (putE e'.ed)) => show Calls Try.prog 10 #[.slice (some ⟨g, 0, none⟩) n c, .slice (some ⟨g', 0, none⟩) n' c'] w4 (fun en w' => en = .returned (.bool false) ∧ Keeps none' w4 w') from
    (Same_any w4 ⟨some ⟨g, 0, none⟩, n, c⟩ ⟨some ⟨g', 0, none⟩, n', c'⟩ zs (putE e'.ed) (r.cells.later kk) r'.cells (by omega) (by have := (cuts_short ok' hi' (by omega) (by omega) hq').1; omega)).mono (fun en w' ⟨a, b⟩ => ⟨by rw [a]; exact ret_bool (decide_eq_false (fun x => zs' x.symm)), b⟩))
  have PZ := Lib.hid (show 0 < zs.length by omega)
  have PX := Lib.hid (show 0 < (zs ++ xs).length by rw [List.length_append]; omega)
  have PE := Lib.hid (fun (w1 : World) (q' : Hd) (hq' : q'.n ≤ 301) (hi' : EdIn w1 e' p s q') => (cuts_short ok' hi' (by omega) (by omega) hq').2.1)
  have LE1 := Lib.hid (fun (w1 w2 : World) (g q c : Nat) (r : Row w1 w2 g q c zs) => show lz = q from hlz.trans r.len)
  have sz := szEd
  have ZB := Lib.hid (fun (w1 : World) => heap_alloc_new w1 (.cells #[.int .i64 0, .int .i64 0, .int .i64 0, .int .i64 0, .int .i64 0, .int .i64 0, .int .i64 0, .int .i64 0, .int .i64 0, .int .i64 0, .slice none 0 0, .slice none 0 0, .int .i64 0, .int .i64 0, .int .i64 0, .int .i64 0, .int .i64 0, .int .i64 0, .slice none 0 0] 27))
  have ST := Lib.hid (fun (w1 w2 : World) (e : PEd) (a b c : Hd) (hw : w2 = (w1.alloc (.cells #[.int .i64 0, .int .i64 0, .int .i64 0, .int .i64 0, .int .i64 0, .int .i64 0, .int .i64 0, .int .i64 0, .int .i64 0, .int .i64 0, .slice none 0 0, .slice none 0 0, .int .i64 0, .int .i64 0, .int .i64 0, .int .i64 0, .int .i64 0, .int .i64 0, .slice none 0 0] 27)).setRow w1.heap.size (edCells e a b c).toArray) => show Keeps none' w1 w2 ∧ Eb w2 27 w1.heap.size e a b c from by
    have hb : w2.heap[w1.heap.size]? = some (.cells (edCells e a b c).toArray 27 (0, 0)) := by rw [hw]; exact setRow_heap _ _ _ _ _ _ (heap_alloc_new w1 _)
    exact ⟨by rw [hw]; exact ((Keeps.refl none' w1).alloc _).trans (keeps_row _ _ _) (fun i hi x => by omega), hb⟩)
  have HI := Lib.hid hi
  unfold edV
  rw [← hEV]
  have HEV := Lib.hid hEV
  clear hEV hi ok hh hx ls3 hzs hxl zlt hlz hk
  clear hne ok' zs' he' hql
  have hw0' : (which == 0) = false := by simpa using hw0
  have hw1' : (which == 1) = false := by simpa using hw1
  have hw2' : (which == 2) = false := by simpa using hw2
  clear hw0 hw1 hw2
  go_enter Try.func6, Try.ntmps6
  go_upto_region 1 with (fail)
  rw [← hu]
  clear hu
  go_wp2_with (first
    | (go_at_call 7; ((with_reducible refine A.out.mono ?_); rintro en w1 ⟨rfl, k1⟩; have e1 := keep3 E0.out k1; have c10 := e1.c10; have c11 := e1.c11; have c18 := e1.c18; have K1 := Lib.hid (K0.out.next k1); have E1 := Lib.hid e1; clear k1 e1))
    | (refine wpList_load_row rfl 27 _ rfl w.heap.size rfl 27 (edCells e p s q).toArray (0, 0) _ E1.out Try.underlying27 rfl (sz e p s q) ?_)
    | (go_at_call 8; ((with_reducible refine (C1.out _ K1.out).mono ?_); rintro en w2 t1; obtain ⟨g, lz', c, rfl, r1⟩ := told_row t1 PZ.out; obtain rfl := LE1.out _ _ _ _ _ r1; have hcap := r1.cap; have K2 := Lib.hid (K1.out.next r1.keep); have R1 := Lib.hid r1; clear t1 r1))
    | (go_at_call 9; ((with_reducible refine (G1.out _ _ w2 _ _ _ R1.out (Keeps.refl _ _)).mono ?_); rintro en w3 ⟨rfl, k3⟩; have K3 := Lib.hid k3; clear k3))
    | (refine wpList_store_row rfl 27 _ _ rfl w3.heap.size (edCells PEd.no Hd.nil Hd.nil Hd.nil).toArray rfl rfl 27 _ (ZB.out w3) (sz PEd.no Hd.nil Hd.nil Hd.nil) rfl (ed_all _ _ _ _) ?_; obtain ⟨w4, hw⟩ : ∃ w4, w4 = (w3.alloc (.cells #[.int .i64 0, .int .i64 0, .int .i64 0, .int .i64 0, .int .i64 0, .int .i64 0, .int .i64 0, .int .i64 0, .int .i64 0, .int .i64 0, .slice none 0 0, .slice none 0 0, .int .i64 0, .int .i64 0, .int .i64 0, .int .i64 0, .int .i64 0, .int .i64 0, .slice none 0 0] 27)).setRow w3.heap.size (edCells PEd.no Hd.nil Hd.nil Hd.nil).toArray := ⟨_, rfl⟩; rw [← hw]; have K4 := Lib.hid (K3.out.next (ST.out w3 w4 PEd.no Hd.nil Hd.nil Hd.nil hw).1); clear hw)
    | (go_at_call 16; ((with_reducible refine (JJ.out _ _ w4 _ _ _ R1.out K4.out (K2.out.next K4.out)).mono ?_); rintro en w5 t5; obtain ⟨g5, n5', c5, rfl, r5⟩ := told_row t5 PX.out; have R5 := Lib.hid r5; clear t5 r5))
    | (go_at_call 9; ((with_reducible refine (G2.out _ _ _ _ _ R5.out).mono ?_); rintro en w6 ⟨rfl, k6⟩; have K6 := Lib.hid k6; clear k6))
    | (refine wpList_store_row rfl 27 _ _ rfl w6.heap.size (edCells PEd.no Hd.nil Hd.nil Hd.nil).toArray rfl rfl 27 _ (ZB.out w6) (sz PEd.no Hd.nil Hd.nil Hd.nil) rfl (ed_all _ _ _ _) ?_; obtain ⟨w7, hw⟩ : ∃ w7, w7 = (w6.alloc (.cells #[.int .i64 0, .int .i64 0, .int .i64 0, .int .i64 0, .int .i64 0, .int .i64 0, .int .i64 0, .int .i64 0, .int .i64 0, .int .i64 0, .slice none 0 0, .slice none 0 0, .int .i64 0, .int .i64 0, .int .i64 0, .int .i64 0, .int .i64 0, .int .i64 0, .slice none 0 0] 27)).setRow w6.heap.size (edCells PEd.no Hd.nil Hd.nil Hd.nil).toArray := ⟨_, rfl⟩; rw [← hw]; have K7 := Lib.hid (((K4.out.next R5.out.keep).next K6.out).next (ST.out w6 w7 PEd.no Hd.nil Hd.nil Hd.nil hw).1); have E7 := Lib.hid (keep3 (keep3 E1.out R1.out.keep) K7.out); clear hw)
    | (refine wpList_load_row rfl 27 _ rfl w.heap.size rfl 27 (edCells e p s q).toArray (0, 0) _ E7.out Try.underlying27 rfl (sz e p s q) ?_)
    | (refine wpList_store_row rfl 27 _ _ rfl w7.heap.size (edCells e p s q).toArray rfl rfl 27 _ (ZB.out w7) (sz e p s q) rfl (ed_all _ _ _ _) ?_; obtain ⟨w8, hw⟩ : ∃ w8, w8 = (w7.alloc (.cells #[.int .i64 0, .int .i64 0, .int .i64 0, .int .i64 0, .int .i64 0, .int .i64 0, .int .i64 0, .int .i64 0, .int .i64 0, .int .i64 0, .slice none 0 0, .slice none 0 0, .int .i64 0, .int .i64 0, .int .i64 0, .int .i64 0, .int .i64 0, .int .i64 0, .slice none 0 0] 27)).setRow w7.heap.size (edCells e p s q).toArray := ⟨_, rfl⟩; rw [← hw]; obtain ⟨k8, b8⟩ := ST.out w7 w8 e p s q hw; have K8 := Lib.hid (K7.out.next k8); have B8 := Lib.hid b8; have E8 := keep3 E7.out k8; have c18x := ((Keeps.refl none' w8).alloc (.cells #[] 3)).cell E8.c18; have X8 := Lib.hid (show w7.heap.size < w8.heap.size from b8.lt); have W7 := Lib.hid (show w.heap.size ≤ w7.heap.size from (K2.out.next K7.out).size); clear E8; clear hw k8 b8)
    | (at_builtin; refine wpList_append_row rfl 22 3 _ _ rfl i0 _ 1 8 Try.underlying22 hi0 hz0 hz1 hz2 rfl (by decide) (by decide) w8.heap.size 0 (.slice (some ⟨w8.heap.size, 0, none⟩) 0 0) _ rfl (O0.out w8) q _ rfl (Q8.out w8 (K2.out.next K8.out)) (by omega) (by omega) (by simp) ?_; intro a1 c1 v2 ho hg hat; simp only [Nat.zero_add, List.nil_append] at ho; have L2 := Lib.hid (((Keeps.refl none' w8).alloc (.cells #[] 3)).grown hg (fun q hq e => by simp [Value.ownBlock] at e; omega)); have O2 := Lib.hid (own_kept ho (w' := v2.alloc (.cells #[.int .i64 0] 3)) (fun g hg => Below.heap_alloc _ _ _ (own_lt ho g hg).2)); have sz2 : w8.heap.size ≤ (v2.alloc (.cells #[.int .i64 0] 3)).heap.size := (L2.out.alloc _).size; clear ho hg hat c18x)
    | (at_builtin; refine wpList_append_row rfl 22 3 _ _ rfl i0 _ 1 8 Try.underlying22 hi0 hz0 hz1 hz2 rfl (by decide) (by decide) w8.heap.size q.n (.slice a1 q.n c1) _ rfl O2.out ⟨some ⟨v2.heap.size, 0, none⟩, 1, 1⟩ _ rfl (N1.out v2) (by omega) (by show 1 ≤ _; omega) sz2 ?_; intro a2 c2 v4 ho hg hat; have L4 := Lib.hid ((L2.out.alloc _).grown hg (fun q hq e => by have := (own_lt O2.out q e).1; omega)); have b4 := keep3 B8.out L4.out; have d0 := b4.c18; have f0 := free_at (i := 18) b4; have B9 := Lib.hid (S9.out _ _ a2 (q.n + 1) c2 b4); have I9 := Lib.hid (I0.out v4 w7.heap.size w8.heap.size a2 (q.n + 1) c2 (.slice a2 (q.n + 1) c2) ((K2.out.next K8.out).next L4.out) W7.out X8.out ho); have HQ := Lib.hid (show (⟨a2, q.n + 1, c2⟩ : Hd).n ≤ 301 from by show q.n + 1 ≤ 301; omega); have K9 := Lib.hid (show Keeps none' w2 (v4.setCell ⟨w7.heap.size, 18, none⟩ (.slice a2 (q.n + 1) c2)) from (K8.out.next L4.out).trans (keeps_at _ _ _ _) (fun i hi x => by have := K7.out.size; omega)); obtain ⟨rw9, ra9⟩ := B9.out.row; clear ho hg hat b4)
    | (refine wpList_load_row rfl 27 _ rfl w7.heap.size rfl 27 (edCells e' p s ⟨a2, q.n + 1, c2⟩).toArray (0, 0) _ B9.out Try.underlying27 rfl (sz e' p s ⟨a2, q.n + 1, c2⟩) ?_)
    | (go_at_call 8; ((with_reducible refine (C2.out _ _ HQ.out I9.out).mono ?_); rintro en w10 t10; obtain ⟨g10, n10, c10', rfl, r10⟩ := told_row t10 (PE.out _ _ HQ.out I9.out); have R10 := Lib.hid r10; clear t10 r10))
    | (go_at_call 10; ((with_reducible refine (SS.out _ _ _ _ _ _ _ _ _ _ _ HQ.out I9.out R1.out (K9.out.next R10.out.keep) R10.out).mono ?_); rintro en w11 ⟨rfl, k11⟩; have K11 := Lib.hid k11; clear k11)))
  go_ret
  exact ⟨rfl, (((K2.out.next K9.out).next R10.out.keep).next K11.out)⟩
end Go.Proofs.Ytcdhpidglchinaa
