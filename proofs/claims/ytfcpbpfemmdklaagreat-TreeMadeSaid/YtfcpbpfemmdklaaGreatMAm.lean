/- Texts of a layer, one behind the other. -/
import Derived.Test.YtfcpbpfemmdklaaGreatMAl
/- Do, for the kinds 5 and 6. (printed by genZW.py) -/
namespace Go.Proofs.YtfcpbpfemmdklaaGreat.Tr
open Go.RowKit Go.Lib
set_option linter.unusedSimpArgs false
set_option linter.unusedVariables false

theorem lookP_err {ls : List Lay} {id n m : Int} {f : Int} (e : lookP ls id n m = .error f) : f ≠ 0 := by
  unfold lookP at e
  split at e
  · cases e; decide
  split at e
  · cases e; decide
  split at e
  · cases e; decide
  · cases e
theorem hideP_err {ls : List Lay} {id n : Int} {f : Int} (e : hideP ls id n = .error f) : f ≠ 0 := by
  unfold hideP at e
  split at e
  · cases e; decide
  split at e
  · cases e; decide
  · cases e
attribute [local go_sem ↓] ldx35
attribute [local go_sem] ptrBlock_some aggCells_agg
set_option maxRecDepth 100000 in
set_option maxHeartbeats 3200000 in
theorem doLook (x y z : Int) (h : Hd) (ls : List Loc) (e : PEd) (p s q : Hd) (w : World) (D : DocV w h ls) {z0 : Int} (G : Good z0 (er ls)) (hk : e.kind = 5) :
    Calls Tryz.prog 9 #[docV x y z h, edV e p s q] w fun en w' => Done w x y (z) (lookP (er ls) e.id e.n e.m) en w' := by
  have HD := Lib.hid D
  have HG := Lib.hid G
  skip
  have C0 := Lib.hid (((Dc.new w x y z h).later ((Keeps.refl none' _).alloc (.cells (edCells e p s q).toArray 38))).later ((Keeps.refl none' _).alloc (.cells #[.int .i64 0, .int .i64 0, .int .i64 0, .slice none 0 0] 26)))
  have E0 := Lib.hid ((Eb.new (w.alloc (.cells #[.int .i64 x, .int .i64 y, .int .i64 z, .slice h.a h.n h.c] 26)) e p s q).later ((Keeps.refl none' _).alloc (.cells #[.int .i64 0, .int .i64 0, .int .i64 0, .slice none 0 0] 26)))
  have K0 := Lib.hid ((((Keeps.refl none' w).alloc (.cells #[.int .i64 x, .int .i64 y, .int .i64 z, .slice h.a h.n h.c] 26)).alloc (.cells (edCells e p s q).toArray 38)).alloc (.cells #[.int .i64 0, .int .i64 0, .int .i64 0, .slice none 0 0] 26))
  have R0 := Lib.hid (heap_alloc_new ((w.alloc (.cells #[.int .i64 x, .int .i64 y, .int .i64 z, .slice h.a h.n h.c] 26)).alloc (.cells (edCells e p s q).toArray 38)) (.cells #[.int .i64 0, .int .i64 0, .int .i64 0, .slice none 0 0] 26))
  have hs1 : (w.alloc (.cells #[.int .i64 x, .int .i64 y, .int .i64 z, .slice h.a h.n h.c] 26)).heap.size = w.heap.size + 1 := by simp
  have hs2 : ((w.alloc (.cells #[.int .i64 x, .int .i64 y, .int .i64 z, .slice h.a h.n h.c] 26)).alloc (.cells (edCells e p s q).toArray 38)).heap.size = w.heap.size + 1 + 1 := by simp
  rw [hs1] at E0
  rw [hs2] at R0
  clear hs1 hs2 D G
  unfold docV edV
  obtain ⟨EV, hEV⟩ : ∃ EV, EV = (edCells e p s q).toArray := ⟨_, rfl⟩
  rw [← hEV]
  rw [← hEV] at C0 E0 K0 R0
  have HEV := Lib.hid hEV
  have e0v := E0.out.c0
  rw [hk] at e0v
  clear hEV
  obtain ⟨Dk, hDk⟩ : ∃ Dk, Dk = w.heap.size := ⟨_, rfl⟩
  obtain ⟨E, hE⟩ : ∃ E, E = Dk + 1 := ⟨_, rfl⟩
  obtain ⟨Z, hZ⟩ : ∃ Z, Z = E + 1 := ⟨_, rfl⟩
  rw [← hDk] at C0
  rw [← hDk, ← hE] at E0 e0v
  rw [← hDk, ← hE, ← hZ] at R0
  have EE := Lib.hid (And.intro hDk (And.intro hE hZ))
  go_enter Tryz.func9, Tryz.ntmps9
  go_upto_region 1 with (fail)
  rw [← hDk, ← hE, ← hZ]
  clear hDk hE hZ
  generalize ((w.alloc (.cells #[.int .i64 x, .int .i64 y, .int .i64 z, .slice h.a h.n h.c] 26)).alloc (.cells EV 38)).alloc (.cells #[.int .i64 0, .int .i64 0, .int .i64 0, .slice none 0 0] 26) = w1 at *
  go_upto_region 2 with ((with_reducible refine (deeds17 w1).mono ?_); rintro en w2 ⟨rfl, f0, hw2⟩; have HW2 := Lib.hid hw2; clear hw2)
  have db := heap_alloc_new w1 (.cells #[f0, .func (.func 46) #[] #[], .func (.func 47) #[] #[], .func (.func 48) #[] #[], .func (.func 49) #[] #[], .func (.func 50) #[] #[], .func (.func 51) #[] #[], .func (.func 52) #[] #[], .func (.func 53) #[] #[], .func (.func 54) #[] #[]] 73)
  rw [← HW2.out] at db
  have DB := Lib.hid db
  have k12 : Keeps none' w1 w2 := by rw [HW2.out]; exact (Keeps.refl none' w1).alloc _
  clear db
  obtain ⟨DD, hDD⟩ : ∃ DD, DD = w1.heap.size := ⟨_, rfl⟩
  rw [← hDD] at DB
  rw [← hDD]
  clear hDD HW2
  have K2 := Lib.hid (K0.out.next k12)
  have C2 := Lib.hid (C0.out.later k12)
  have E2 := Lib.hid (E0.out.later k12)
  have R2 := Lib.hid ((k12.later Z (lt_of_block R0.out)).trans R0.out)
  have e0w := k12.cell e0v
  clear k12 C0 E0 K0 R0 e0v
  have c0 := C2.out.c0
  have c1 := C2.out.c1
  have c2 := C2.out.c2
  have c3 := C2.out.c3
  have cp := copied18 x y z h ls w2 (HD.out.later K2.out)
  unfold docV at cp
  have CP := Lib.hid cp
  clear cp
  go_upto_region 5 with ((with_reducible refine CP.out.mono ?_); rintro en w3 ⟨h', ls', rfl, hcp⟩; have CD := Lib.hid hcp; clear hcp)
  have ka := (Keeps.refl none' w3).alloc (.cells #[.int .i64 x, .int .i64 y, .int .i64 z, .slice h'.a h'.n h'.c] 26)
  have N4 := Lib.hid (Dc.new w3 x y z h')
  have K24 := Lib.hid (CD.out.keeps.next ka)
  have E4 := Lib.hid (E2.out.later K24.out)
  have R4 := Lib.hid ((K24.out.later Z (lt_of_block R2.out)).trans R2.out)
  have D4 := Lib.hid ((K24.out.later DD (lt_of_block DB.out)).trans DB.out)
  have e0 := K24.out.cell e0w
  have K4 := Lib.hid (K2.out.next K24.out)
  obtain ⟨Nx, hNx⟩ : ∃ Nx, Nx = w3.heap.size := ⟨_, rfl⟩
  have W4 := Lib.hid (show Whole w2.heap.size (w3.alloc (.cells #[.int .i64 x, .int .i64 y, .int .i64 z, .slice h'.a h'.n h'.c] 26)) Nx x y z h' ls' from by
    have hB : w2.heap.size ≤ w2.heap.size + 2 := by omega
    refine ⟨by rw [hNx]; exact N4.out, (CD.out.row.later ka).low hB, (CD.out.own.later ka).low hB, CD.out.nodup, fun hm => ?_⟩
    rcases List.mem_append.1 hm with hm | hm
    · have := (CD.out.row.range _ hm).2; omega
    · have := (CD.out.own.range _ hm).2; omega)
  obtain ⟨B2, hB2⟩ : ∃ B2, B2 = w2.heap.size := ⟨_, rfl⟩
  have NB := Lib.hid (show B2 ≤ Nx ∧ Z < B2 ∧ w.heap.size ≤ B2 from by rw [hNx, hB2]; exact ⟨CD.out.keeps.size, lt_of_block R2.out, K2.out.size⟩)
  rw [← hB2] at W4
  have SAME := Lib.hid CD.out.same
  rw [← hNx]
  clear hNx hB2 ka N4 c0 c1 c2 c3 CP CD K24 E2 R2 DB C2 K2 e0w
  generalize w3.alloc (.cells #[.int .i64 x, .int .i64 y, .int .i64 z, .slice h'.a h'.n h'.c] 26) = w4 at *
  have deed := look34 B2 Nx x y z h' ls' e p s q w4.drew (W4.out.later ((Keeps.refl none' w4).drew)) (by rw [SAME.out]; exact HG.out) (Nat.le_of_lt (Nat.lt_of_le_of_lt NB.out.1 (lt_of_block W4.out.doc)))
  unfold edV at deed
  rw [← HEV.out, SAME.out] at deed
  have DE := Lib.hid (show Calls Tryz.prog 50 #[.pointer (some ⟨Nx, 0, none⟩), .agg EV] w4.drew (fun en w' => ∃ v : Int, en = .returned (.int .i64 v) ∧ Edited B2 w4.drew Nx x y (z) (lookP (er ls) e.id e.n e.m) (.returned (.int .i64 v)) w') from deed.mono (fun _ _ h => h.val))
  clear deed
  have r5 : Row35 w4 E := E4.out.row.1
  have r6 : rowAt w4 E = EV := by rw [E4.out.row.2, HEV.out]
  have r5d : Row35 w4.drew E := r5
  have r6d : rowAt w4.drew E = EV := r6
  have fk : w4.cell? ⟨DD, 5, none⟩ = some (.func (.func 50) #[] #[]) := by simp [World.cell?, D4.out]
  go_cut [8] from 23 (fun s8 w' => ∃ v : Int, s8 = .int .i64 v ∧ Edited B2 w4.drew Nx x y (z) (lookP (er ls) e.id e.n e.m) (.returned (.int .i64 v)) w')
  case first =>
    go_region_law (go_simp; (with_reducible refine DE.out.mono ?_); rintro en w5 ⟨v, rfl, hed⟩)
    all_goals
      go_wp2_with fail
      go_meet
      case rel => exact ⟨v, rfl, hed⟩
  case rest =>
    obtain ⟨v, rfl, hed⟩ := hcut
    have ZW := Lib.hid (show w.heap.size ≤ Z from by have := EE.out; omega)
    clear r5 r6 r5d r6d fk e0
    cases hr : lookP (er ls) e.id e.n e.m with
    | error f =>
      rw [hr] at hed
      obtain ⟨hv, hk9⟩ := hed
      simp only [Ending.returned.injEq, Value.int.injEq, true_and] at hv
      subst hv
      have e1 : (v != 0) = true := by simpa using lookP_err hr
      have RS := Lib.hid hr
      have K9 := Lib.hid (keeps_of_from K4.out.drew hk9 NB.out.2.2)
      have R9 := Lib.hid ((hk9.block Z (lt_of_block R4.out) (by have := NB.out; omega)).trans R4.out)
      obtain ⟨⟨r0, r1, r2, r3⟩, rf⟩ := four_cells R9.out
      have f0' := rf 0
      have f1' := rf 1
      have f2' := rf 2
      have f3' := rf 3
      clear rf hr hk9
      go_wp2_with fail
      refine bodyPost_ret (results_cell_row2 rfl _ _ Z 26 _ (0, 0) _ rfl (four_set R9.out _ _ _ _) Tryz.underlying26 rfl (by kernel_rfl)) rfl ?_
      exact Done.err RS.out (keeps_set4 K9.out ZW.out _ _ _ _)
    | ok lsP =>
      rw [hr] at hed
      obtain ⟨hv, h2, lsL, q1, q2, hk9⟩ := hed
      simp only [Ending.returned.injEq, Value.int.injEq, true_and] at hv
      subst hv
      have RS := Lib.hid hr
      have Q := Lib.hid (And.intro q1 q2)
      have K9 := Lib.hid (keeps_of_from K4.out.drew hk9 NB.out.2.2)
      have R9 := Lib.hid ((hk9.block Z (lt_of_block R4.out) (by have := NB.out; omega)).trans R4.out)
      obtain ⟨⟨r0, r1, r2, r3⟩, rf⟩ := four_cells R9.out
      have f0' := rf 0
      have f1' := rf 1
      have f2' := rf 2
      have f3' := rf 3
      have c0 := Dc.c0 (x := x) (y := y) (z := z) (h := h2) q2.doc
      have c1 := Dc.c1 (x := x) (y := y) (z := z) (h := h2) q2.doc
      have c2 := Dc.c2 (x := x) (y := y) (z := z) (h := h2) q2.doc
      have c3 := Dc.c3 (x := x) (y := y) (z := z) (h := h2) q2.doc
      clear rf hr hk9 q1 q2
      go_wp2_with fail
      refine bodyPost_ret (results_cell_row2 rfl _ _ Z 26 _ (0, 0) _ rfl (four_set R9.out _ _ _ _) Tryz.underlying26 rfl (by kernel_rfl)) rfl ?_
      refine Done.good RS.out Q.out.1 ?_ (keeps_set4 K9.out ZW.out _ _ _ _)
      have nd := Q.out.2.newD
      exact (nd.keep (keeps_at4 wc Z _ _ _ _) (fun b hb e => by have e' : b = Z := e; have := (nd.range b hb).1; have := NB.out; omega)).low NB.out.2.2
set_option maxRecDepth 100000 in
set_option maxHeartbeats 3200000 in
theorem doHide (x y z : Int) (h : Hd) (ls : List Loc) (e : PEd) (p s q : Hd) (w : World) (D : DocV w h ls) {z0 : Int} (G : Good z0 (er ls)) (hk : e.kind = 6) :
    Calls Tryz.prog 9 #[docV x y z h, edV e p s q] w fun en w' => Done w x y (z) (hideP (er ls) e.id e.n) en w' := by
  have HD := Lib.hid D
  have HG := Lib.hid G
  skip
  have C0 := Lib.hid (((Dc.new w x y z h).later ((Keeps.refl none' _).alloc (.cells (edCells e p s q).toArray 38))).later ((Keeps.refl none' _).alloc (.cells #[.int .i64 0, .int .i64 0, .int .i64 0, .slice none 0 0] 26)))
  have E0 := Lib.hid ((Eb.new (w.alloc (.cells #[.int .i64 x, .int .i64 y, .int .i64 z, .slice h.a h.n h.c] 26)) e p s q).later ((Keeps.refl none' _).alloc (.cells #[.int .i64 0, .int .i64 0, .int .i64 0, .slice none 0 0] 26)))
  have K0 := Lib.hid ((((Keeps.refl none' w).alloc (.cells #[.int .i64 x, .int .i64 y, .int .i64 z, .slice h.a h.n h.c] 26)).alloc (.cells (edCells e p s q).toArray 38)).alloc (.cells #[.int .i64 0, .int .i64 0, .int .i64 0, .slice none 0 0] 26))
  have R0 := Lib.hid (heap_alloc_new ((w.alloc (.cells #[.int .i64 x, .int .i64 y, .int .i64 z, .slice h.a h.n h.c] 26)).alloc (.cells (edCells e p s q).toArray 38)) (.cells #[.int .i64 0, .int .i64 0, .int .i64 0, .slice none 0 0] 26))
  have hs1 : (w.alloc (.cells #[.int .i64 x, .int .i64 y, .int .i64 z, .slice h.a h.n h.c] 26)).heap.size = w.heap.size + 1 := by simp
  have hs2 : ((w.alloc (.cells #[.int .i64 x, .int .i64 y, .int .i64 z, .slice h.a h.n h.c] 26)).alloc (.cells (edCells e p s q).toArray 38)).heap.size = w.heap.size + 1 + 1 := by simp
  rw [hs1] at E0
  rw [hs2] at R0
  clear hs1 hs2 D G
  unfold docV edV
  obtain ⟨EV, hEV⟩ : ∃ EV, EV = (edCells e p s q).toArray := ⟨_, rfl⟩
  rw [← hEV]
  rw [← hEV] at C0 E0 K0 R0
  have HEV := Lib.hid hEV
  have e0v := E0.out.c0
  rw [hk] at e0v
  clear hEV
  obtain ⟨Dk, hDk⟩ : ∃ Dk, Dk = w.heap.size := ⟨_, rfl⟩
  obtain ⟨E, hE⟩ : ∃ E, E = Dk + 1 := ⟨_, rfl⟩
  obtain ⟨Z, hZ⟩ : ∃ Z, Z = E + 1 := ⟨_, rfl⟩
  rw [← hDk] at C0
  rw [← hDk, ← hE] at E0 e0v
  rw [← hDk, ← hE, ← hZ] at R0
  have EE := Lib.hid (And.intro hDk (And.intro hE hZ))
  go_enter Tryz.func9, Tryz.ntmps9
  go_upto_region 1 with (fail)
  rw [← hDk, ← hE, ← hZ]
  clear hDk hE hZ
  generalize ((w.alloc (.cells #[.int .i64 x, .int .i64 y, .int .i64 z, .slice h.a h.n h.c] 26)).alloc (.cells EV 38)).alloc (.cells #[.int .i64 0, .int .i64 0, .int .i64 0, .slice none 0 0] 26) = w1 at *
  go_upto_region 2 with ((with_reducible refine (deeds17 w1).mono ?_); rintro en w2 ⟨rfl, f0, hw2⟩; have HW2 := Lib.hid hw2; clear hw2)
  have db := heap_alloc_new w1 (.cells #[f0, .func (.func 46) #[] #[], .func (.func 47) #[] #[], .func (.func 48) #[] #[], .func (.func 49) #[] #[], .func (.func 50) #[] #[], .func (.func 51) #[] #[], .func (.func 52) #[] #[], .func (.func 53) #[] #[], .func (.func 54) #[] #[]] 73)
  rw [← HW2.out] at db
  have DB := Lib.hid db
  have k12 : Keeps none' w1 w2 := by rw [HW2.out]; exact (Keeps.refl none' w1).alloc _
  clear db
  obtain ⟨DD, hDD⟩ : ∃ DD, DD = w1.heap.size := ⟨_, rfl⟩
  rw [← hDD] at DB
  rw [← hDD]
  clear hDD HW2
  have K2 := Lib.hid (K0.out.next k12)
  have C2 := Lib.hid (C0.out.later k12)
  have E2 := Lib.hid (E0.out.later k12)
  have R2 := Lib.hid ((k12.later Z (lt_of_block R0.out)).trans R0.out)
  have e0w := k12.cell e0v
  clear k12 C0 E0 K0 R0 e0v
  have c0 := C2.out.c0
  have c1 := C2.out.c1
  have c2 := C2.out.c2
  have c3 := C2.out.c3
  have cp := copied18 x y z h ls w2 (HD.out.later K2.out)
  unfold docV at cp
  have CP := Lib.hid cp
  clear cp
  go_upto_region 5 with ((with_reducible refine CP.out.mono ?_); rintro en w3 ⟨h', ls', rfl, hcp⟩; have CD := Lib.hid hcp; clear hcp)
  have ka := (Keeps.refl none' w3).alloc (.cells #[.int .i64 x, .int .i64 y, .int .i64 z, .slice h'.a h'.n h'.c] 26)
  have N4 := Lib.hid (Dc.new w3 x y z h')
  have K24 := Lib.hid (CD.out.keeps.next ka)
  have E4 := Lib.hid (E2.out.later K24.out)
  have R4 := Lib.hid ((K24.out.later Z (lt_of_block R2.out)).trans R2.out)
  have D4 := Lib.hid ((K24.out.later DD (lt_of_block DB.out)).trans DB.out)
  have e0 := K24.out.cell e0w
  have K4 := Lib.hid (K2.out.next K24.out)
  obtain ⟨Nx, hNx⟩ : ∃ Nx, Nx = w3.heap.size := ⟨_, rfl⟩
  have W4 := Lib.hid (show Whole w2.heap.size (w3.alloc (.cells #[.int .i64 x, .int .i64 y, .int .i64 z, .slice h'.a h'.n h'.c] 26)) Nx x y z h' ls' from by
    have hB : w2.heap.size ≤ w2.heap.size + 2 := by omega
    refine ⟨by rw [hNx]; exact N4.out, (CD.out.row.later ka).low hB, (CD.out.own.later ka).low hB, CD.out.nodup, fun hm => ?_⟩
    rcases List.mem_append.1 hm with hm | hm
    · have := (CD.out.row.range _ hm).2; omega
    · have := (CD.out.own.range _ hm).2; omega)
  obtain ⟨B2, hB2⟩ : ∃ B2, B2 = w2.heap.size := ⟨_, rfl⟩
  have NB := Lib.hid (show B2 ≤ Nx ∧ Z < B2 ∧ w.heap.size ≤ B2 from by rw [hNx, hB2]; exact ⟨CD.out.keeps.size, lt_of_block R2.out, K2.out.size⟩)
  rw [← hB2] at W4
  have SAME := Lib.hid CD.out.same
  rw [← hNx]
  clear hNx hB2 ka N4 c0 c1 c2 c3 CP CD K24 E2 R2 DB C2 K2 e0w
  generalize w3.alloc (.cells #[.int .i64 x, .int .i64 y, .int .i64 z, .slice h'.a h'.n h'.c] 26) = w4 at *
  have deed := hide35 B2 Nx x y z h' ls' e p s q w4.drew (W4.out.later ((Keeps.refl none' w4).drew)) (by rw [SAME.out]; exact HG.out) (Nat.le_of_lt (Nat.lt_of_le_of_lt NB.out.1 (lt_of_block W4.out.doc)))
  unfold edV at deed
  rw [← HEV.out, SAME.out] at deed
  have DE := Lib.hid (show Calls Tryz.prog 51 #[.pointer (some ⟨Nx, 0, none⟩), .agg EV] w4.drew (fun en w' => ∃ v : Int, en = .returned (.int .i64 v) ∧ Edited B2 w4.drew Nx x y (z) (hideP (er ls) e.id e.n) (.returned (.int .i64 v)) w') from deed.mono (fun _ _ h => h.val))
  clear deed
  have r5 : Row35 w4 E := E4.out.row.1
  have r6 : rowAt w4 E = EV := by rw [E4.out.row.2, HEV.out]
  have r5d : Row35 w4.drew E := r5
  have r6d : rowAt w4.drew E = EV := r6
  have fk : w4.cell? ⟨DD, 6, none⟩ = some (.func (.func 51) #[] #[]) := by simp [World.cell?, D4.out]
  go_cut [8] from 23 (fun s8 w' => ∃ v : Int, s8 = .int .i64 v ∧ Edited B2 w4.drew Nx x y (z) (hideP (er ls) e.id e.n) (.returned (.int .i64 v)) w')
  case first =>
    go_region_law (go_simp; (with_reducible refine DE.out.mono ?_); rintro en w5 ⟨v, rfl, hed⟩)
    all_goals
      go_wp2_with fail
      go_meet
      case rel => exact ⟨v, rfl, hed⟩
  case rest =>
    obtain ⟨v, rfl, hed⟩ := hcut
    have ZW := Lib.hid (show w.heap.size ≤ Z from by have := EE.out; omega)
    clear r5 r6 r5d r6d fk e0
    cases hr : hideP (er ls) e.id e.n with
    | error f =>
      rw [hr] at hed
      obtain ⟨hv, hk9⟩ := hed
      simp only [Ending.returned.injEq, Value.int.injEq, true_and] at hv
      subst hv
      have e1 : (v != 0) = true := by simpa using hideP_err hr
      have RS := Lib.hid hr
      have K9 := Lib.hid (keeps_of_from K4.out.drew hk9 NB.out.2.2)
      have R9 := Lib.hid ((hk9.block Z (lt_of_block R4.out) (by have := NB.out; omega)).trans R4.out)
      obtain ⟨⟨r0, r1, r2, r3⟩, rf⟩ := four_cells R9.out
      have f0' := rf 0
      have f1' := rf 1
      have f2' := rf 2
      have f3' := rf 3
      clear rf hr hk9
      go_wp2_with fail
      refine bodyPost_ret (results_cell_row2 rfl _ _ Z 26 _ (0, 0) _ rfl (four_set R9.out _ _ _ _) Tryz.underlying26 rfl (by kernel_rfl)) rfl ?_
      exact Done.err RS.out (keeps_set4 K9.out ZW.out _ _ _ _)
    | ok lsP =>
      rw [hr] at hed
      obtain ⟨hv, h2, lsL, q1, q2, hk9⟩ := hed
      simp only [Ending.returned.injEq, Value.int.injEq, true_and] at hv
      subst hv
      have RS := Lib.hid hr
      have Q := Lib.hid (And.intro q1 q2)
      have K9 := Lib.hid (keeps_of_from K4.out.drew hk9 NB.out.2.2)
      have R9 := Lib.hid ((hk9.block Z (lt_of_block R4.out) (by have := NB.out; omega)).trans R4.out)
      obtain ⟨⟨r0, r1, r2, r3⟩, rf⟩ := four_cells R9.out
      have f0' := rf 0
      have f1' := rf 1
      have f2' := rf 2
      have f3' := rf 3
      have c0 := Dc.c0 (x := x) (y := y) (z := z) (h := h2) q2.doc
      have c1 := Dc.c1 (x := x) (y := y) (z := z) (h := h2) q2.doc
      have c2 := Dc.c2 (x := x) (y := y) (z := z) (h := h2) q2.doc
      have c3 := Dc.c3 (x := x) (y := y) (z := z) (h := h2) q2.doc
      clear rf hr hk9 q1 q2
      go_wp2_with fail
      refine bodyPost_ret (results_cell_row2 rfl _ _ Z 26 _ (0, 0) _ rfl (four_set R9.out _ _ _ _) Tryz.underlying26 rfl (by kernel_rfl)) rfl ?_
      refine Done.good RS.out Q.out.1 ?_ (keeps_set4 K9.out ZW.out _ _ _ _)
      have nd := Q.out.2.newD
      exact (nd.keep (keeps_at4 wc Z _ _ _ _) (fun b hb e => by have e' : b = Z := e; have := (nd.range b hb).1; have := NB.out; omega)).low NB.out.2.2
end Go.Proofs.YtfcpbpfemmdklaaGreat.Tr

/- Do, for painting. (printed by genZL.py) -/
namespace Go.Proofs.YtfcpbpfemmdklaaGreat.Tr
open Go.RowKit Go.Lib
set_option linter.unusedSimpArgs false
set_option linter.unusedVariables false

theorem paintP_err {ls : List Lay} {id x y w h : Int} {pix : List Int} {f : Int} (e : paintP ls id x y w h pix = .error f) : f ≠ 0 := by
  unfold paintP at e
  split at e
  · cases e; decide
  split at e
  · cases e; decide
  split at e
  · split at e
    · cases e; decide
    split at e
    · cases e; decide
    · cases e
  · cases e; decide
attribute [local go_sem ↓] ldx35
attribute [local go_sem] ptrBlock_some aggCells_agg
set_option maxRecDepth 100000 in
set_option maxHeartbeats 3200000 in
theorem doPaint (x y z : Int) (h : Hd) (ls : List Loc) (e : PEd) (p s q : Hd) (w : World) (D : DocV w h ls) {z0 : Int} (G : Good z0 (er ls)) (PR : ReadR w 3 1 p (ints e.p)) (hw : ∀ r, fnd e.id (er ls) = some r → r.d.kind = 0 → 0 ≤ r.d.w ∧ r.d.w ≤ 32768) (hk : e.kind = 4) :
    Calls Tryz.prog 9 #[docV x y z h, edV e p s q] w fun en w' => Done w x y (z) (paintP (er ls) e.id e.x e.y e.w e.h e.p) en w' := by
  have HD := Lib.hid D
  have HG := Lib.hid G
  have HZ := Lib.hid (And.intro PR hw)
  clear PR hw
  have C0 := Lib.hid (((Dc.new w x y z h).later ((Keeps.refl none' _).alloc (.cells (edCells e p s q).toArray 38))).later ((Keeps.refl none' _).alloc (.cells #[.int .i64 0, .int .i64 0, .int .i64 0, .slice none 0 0] 26)))
  have E0 := Lib.hid ((Eb.new (w.alloc (.cells #[.int .i64 x, .int .i64 y, .int .i64 z, .slice h.a h.n h.c] 26)) e p s q).later ((Keeps.refl none' _).alloc (.cells #[.int .i64 0, .int .i64 0, .int .i64 0, .slice none 0 0] 26)))
  have K0 := Lib.hid ((((Keeps.refl none' w).alloc (.cells #[.int .i64 x, .int .i64 y, .int .i64 z, .slice h.a h.n h.c] 26)).alloc (.cells (edCells e p s q).toArray 38)).alloc (.cells #[.int .i64 0, .int .i64 0, .int .i64 0, .slice none 0 0] 26))
  have R0 := Lib.hid (heap_alloc_new ((w.alloc (.cells #[.int .i64 x, .int .i64 y, .int .i64 z, .slice h.a h.n h.c] 26)).alloc (.cells (edCells e p s q).toArray 38)) (.cells #[.int .i64 0, .int .i64 0, .int .i64 0, .slice none 0 0] 26))
  have hs1 : (w.alloc (.cells #[.int .i64 x, .int .i64 y, .int .i64 z, .slice h.a h.n h.c] 26)).heap.size = w.heap.size + 1 := by simp
  have hs2 : ((w.alloc (.cells #[.int .i64 x, .int .i64 y, .int .i64 z, .slice h.a h.n h.c] 26)).alloc (.cells (edCells e p s q).toArray 38)).heap.size = w.heap.size + 1 + 1 := by simp
  rw [hs1] at E0
  rw [hs2] at R0
  clear hs1 hs2 D G
  unfold docV edV
  obtain ⟨EV, hEV⟩ : ∃ EV, EV = (edCells e p s q).toArray := ⟨_, rfl⟩
  rw [← hEV]
  rw [← hEV] at C0 E0 K0 R0
  have HEV := Lib.hid hEV
  have e0v := E0.out.c0
  rw [hk] at e0v
  clear hEV
  obtain ⟨Dk, hDk⟩ : ∃ Dk, Dk = w.heap.size := ⟨_, rfl⟩
  obtain ⟨E, hE⟩ : ∃ E, E = Dk + 1 := ⟨_, rfl⟩
  obtain ⟨Z, hZ⟩ : ∃ Z, Z = E + 1 := ⟨_, rfl⟩
  rw [← hDk] at C0
  rw [← hDk, ← hE] at E0 e0v
  rw [← hDk, ← hE, ← hZ] at R0
  have EE := Lib.hid (And.intro hDk (And.intro hE hZ))
  go_enter Tryz.func9, Tryz.ntmps9
  go_upto_region 1 with (fail)
  rw [← hDk, ← hE, ← hZ]
  clear hDk hE hZ
  generalize ((w.alloc (.cells #[.int .i64 x, .int .i64 y, .int .i64 z, .slice h.a h.n h.c] 26)).alloc (.cells EV 38)).alloc (.cells #[.int .i64 0, .int .i64 0, .int .i64 0, .slice none 0 0] 26) = w1 at *
  go_upto_region 2 with ((with_reducible refine (deeds17 w1).mono ?_); rintro en w2 ⟨rfl, f0, hw2⟩; have HW2 := Lib.hid hw2; clear hw2)
  have db := heap_alloc_new w1 (.cells #[f0, .func (.func 46) #[] #[], .func (.func 47) #[] #[], .func (.func 48) #[] #[], .func (.func 49) #[] #[], .func (.func 50) #[] #[], .func (.func 51) #[] #[], .func (.func 52) #[] #[], .func (.func 53) #[] #[], .func (.func 54) #[] #[]] 73)
  rw [← HW2.out] at db
  have DB := Lib.hid db
  have k12 : Keeps none' w1 w2 := by rw [HW2.out]; exact (Keeps.refl none' w1).alloc _
  clear db
  obtain ⟨DD, hDD⟩ : ∃ DD, DD = w1.heap.size := ⟨_, rfl⟩
  rw [← hDD] at DB
  rw [← hDD]
  clear hDD HW2
  have K2 := Lib.hid (K0.out.next k12)
  have C2 := Lib.hid (C0.out.later k12)
  have E2 := Lib.hid (E0.out.later k12)
  have R2 := Lib.hid ((k12.later Z (lt_of_block R0.out)).trans R0.out)
  have e0w := k12.cell e0v
  clear k12 C0 E0 K0 R0 e0v
  have c0 := C2.out.c0
  have c1 := C2.out.c1
  have c2 := C2.out.c2
  have c3 := C2.out.c3
  have cp := copied18 x y z h ls w2 (HD.out.later K2.out)
  unfold docV at cp
  have CP := Lib.hid cp
  clear cp
  go_upto_region 5 with ((with_reducible refine CP.out.mono ?_); rintro en w3 ⟨h', ls', rfl, hcp⟩; have CD := Lib.hid hcp; clear hcp)
  have ka := (Keeps.refl none' w3).alloc (.cells #[.int .i64 x, .int .i64 y, .int .i64 z, .slice h'.a h'.n h'.c] 26)
  have N4 := Lib.hid (Dc.new w3 x y z h')
  have K24 := Lib.hid (CD.out.keeps.next ka)
  have E4 := Lib.hid (E2.out.later K24.out)
  have R4 := Lib.hid ((K24.out.later Z (lt_of_block R2.out)).trans R2.out)
  have D4 := Lib.hid ((K24.out.later DD (lt_of_block DB.out)).trans DB.out)
  have e0 := K24.out.cell e0w
  have K4 := Lib.hid (K2.out.next K24.out)
  obtain ⟨Nx, hNx⟩ : ∃ Nx, Nx = w3.heap.size := ⟨_, rfl⟩
  have W4 := Lib.hid (show Whole w2.heap.size (w3.alloc (.cells #[.int .i64 x, .int .i64 y, .int .i64 z, .slice h'.a h'.n h'.c] 26)) Nx x y z h' ls' from by
    have hB : w2.heap.size ≤ w2.heap.size + 2 := by omega
    refine ⟨by rw [hNx]; exact N4.out, (CD.out.row.later ka).low hB, (CD.out.own.later ka).low hB, CD.out.nodup, fun hm => ?_⟩
    rcases List.mem_append.1 hm with hm | hm
    · have := (CD.out.row.range _ hm).2; omega
    · have := (CD.out.own.range _ hm).2; omega)
  obtain ⟨B2, hB2⟩ : ∃ B2, B2 = w2.heap.size := ⟨_, rfl⟩
  have NB := Lib.hid (show B2 ≤ Nx ∧ Z < B2 ∧ w.heap.size ≤ B2 from by rw [hNx, hB2]; exact ⟨CD.out.keeps.size, lt_of_block R2.out, K2.out.size⟩)
  rw [← hB2] at W4
  have SAME := Lib.hid CD.out.same
  rw [← hNx]
  clear hNx hB2 ka N4 c0 c1 c2 c3 CP CD K24 E2 R2 DB C2 K2 e0w
  generalize w3.alloc (.cells #[.int .i64 x, .int .i64 y, .int .i64 z, .slice h'.a h'.n h'.c] 26) = w4 at *
  have deed := paint33 B2 Nx x y z h' ls' e p s q w4.drew (W4.out.later ((Keeps.refl none' w4).drew)) (by rw [SAME.out]; exact HG.out) (Nat.le_of_lt (Nat.lt_of_le_of_lt NB.out.1 (lt_of_block W4.out.doc))) (HZ.out.1.keep K4.out.drew (fun _ _ h => h)) (fun u hu => Nat.lt_of_lt_of_le (HZ.out.1.1.at' u hu).2.1 NB.out.2.2) (by rw [SAME.out]; exact HZ.out.2)
  unfold edV at deed
  rw [← HEV.out, SAME.out] at deed
  have DE := Lib.hid (show Calls Tryz.prog 49 #[.pointer (some ⟨Nx, 0, none⟩), .agg EV] w4.drew (fun en w' => ∃ v : Int, en = .returned (.int .i64 v) ∧ Edited B2 w4.drew Nx x y (z) (paintP (er ls) e.id e.x e.y e.w e.h e.p) (.returned (.int .i64 v)) w') from deed.mono (fun _ _ h => h.val))
  clear deed
  have r5 : Row35 w4 E := E4.out.row.1
  have r6 : rowAt w4 E = EV := by rw [E4.out.row.2, HEV.out]
  have r5d : Row35 w4.drew E := r5
  have r6d : rowAt w4.drew E = EV := r6
  have fk : w4.cell? ⟨DD, 4, none⟩ = some (.func (.func 49) #[] #[]) := by simp [World.cell?, D4.out]
  go_cut [8] from 23 (fun s8 w' => ∃ v : Int, s8 = .int .i64 v ∧ Edited B2 w4.drew Nx x y (z) (paintP (er ls) e.id e.x e.y e.w e.h e.p) (.returned (.int .i64 v)) w')
  case first =>
    go_region_law (go_simp; (with_reducible refine DE.out.mono ?_); rintro en w5 ⟨v, rfl, hed⟩)
    all_goals
      go_wp2_with fail
      go_meet
      case rel => exact ⟨v, rfl, hed⟩
  case rest =>
    obtain ⟨v, rfl, hed⟩ := hcut
    have ZW := Lib.hid (show w.heap.size ≤ Z from by have := EE.out; omega)
    clear r5 r6 r5d r6d fk e0
    cases hr : paintP (er ls) e.id e.x e.y e.w e.h e.p with
    | error f =>
      rw [hr] at hed
      obtain ⟨hv, hk9⟩ := hed
      simp only [Ending.returned.injEq, Value.int.injEq, true_and] at hv
      subst hv
      have e1 : (v != 0) = true := by simpa using paintP_err hr
      have RS := Lib.hid hr
      have K9 := Lib.hid (keeps_of_from K4.out.drew hk9 NB.out.2.2)
      have R9 := Lib.hid ((hk9.block Z (lt_of_block R4.out) (by have := NB.out; omega)).trans R4.out)
      obtain ⟨⟨r0, r1, r2, r3⟩, rf⟩ := four_cells R9.out
      have f0' := rf 0
      have f1' := rf 1
      have f2' := rf 2
      have f3' := rf 3
      clear rf hr hk9
      go_wp2_with fail
      refine bodyPost_ret (results_cell_row2 rfl _ _ Z 26 _ (0, 0) _ rfl (four_set R9.out _ _ _ _) Tryz.underlying26 rfl (by kernel_rfl)) rfl ?_
      exact Done.err RS.out (keeps_set4 K9.out ZW.out _ _ _ _)
    | ok lsP =>
      rw [hr] at hed
      obtain ⟨hv, h2, lsL, q1, q2, hk9⟩ := hed
      simp only [Ending.returned.injEq, Value.int.injEq, true_and] at hv
      subst hv
      have RS := Lib.hid hr
      have Q := Lib.hid (And.intro q1 q2)
      have K9 := Lib.hid (keeps_of_from K4.out.drew hk9 NB.out.2.2)
      have R9 := Lib.hid ((hk9.block Z (lt_of_block R4.out) (by have := NB.out; omega)).trans R4.out)
      obtain ⟨⟨r0, r1, r2, r3⟩, rf⟩ := four_cells R9.out
      have f0' := rf 0
      have f1' := rf 1
      have f2' := rf 2
      have f3' := rf 3
      have c0 := Dc.c0 (x := x) (y := y) (z := z) (h := h2) q2.doc
      have c1 := Dc.c1 (x := x) (y := y) (z := z) (h := h2) q2.doc
      have c2 := Dc.c2 (x := x) (y := y) (z := z) (h := h2) q2.doc
      have c3 := Dc.c3 (x := x) (y := y) (z := z) (h := h2) q2.doc
      clear rf hr hk9 q1 q2
      go_wp2_with fail
      refine bodyPost_ret (results_cell_row2 rfl _ _ Z 26 _ (0, 0) _ rfl (four_set R9.out _ _ _ _) Tryz.underlying26 rfl (by kernel_rfl)) rfl ?_
      refine Done.good RS.out Q.out.1 ?_ (keeps_set4 K9.out ZW.out _ _ _ _)
      have nd := Q.out.2.newD
      exact (nd.keep (keeps_at4 wc Z _ _ _ _) (fun b hb e => by have e' : b = Z := e; have := (nd.range b hb).1; have := NB.out; omega)).low NB.out.2.2
end Go.Proofs.YtfcpbpfemmdklaaGreat.Tr
