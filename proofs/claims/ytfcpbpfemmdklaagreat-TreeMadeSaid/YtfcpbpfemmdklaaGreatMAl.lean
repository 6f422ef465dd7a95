/- Texts of a layer, one behind the other. -/
import Derived.Test.YtfcpbpfemmdklaaGreatMAk
import Derived.Test.YtfcpbpfemmdklaaGreatMAi
import Derived.Test.YtfcpbpfemmdklaaGreatMAj
/- Do, for the kinds 1 to 3. (printed by genZD.py) -/
namespace Go.Proofs.YtfcpbpfemmdklaaGreat.Tr
open Go.RowKit Go.Lib
set_option linter.unusedSimpArgs false
set_option linter.unusedVariables false

/-- A document in memory of its own, from block B on. -/
structure NewD (B : Nat) (w : World) (h : Hd) (ls : List Loc) : Prop where
  row : OwnR B w 51 19 h (flat ls)
  own : Own B w ls
  nodup : (h.blk ++ blks ls).Nodup
theorem NewD.docV {B : Nat} {w : World} {h : Hd} {ls : List Loc} (d : NewD B w h ls) : DocV w h ls := ⟨d.row.read.1, d.own.rep⟩
theorem NewD.keep {X : Nat → Prop} {B : Nat} {w w' : World} {h : Hd} {ls : List Loc} (d : NewD B w h ls) (k : Keeps X w w') (hX : ∀ b ∈ h.blk ++ blks ls, ¬ X b) : NewD B w' h ls :=
  ⟨d.row.keepB k (fun b hb => hX b (List.mem_append.2 (.inl hb))), d.own.keep k (fun b hb => hX b (List.mem_append.2 (.inr hb))), d.nodup⟩
theorem NewD.later {B : Nat} {w w' : World} {h : Hd} {ls : List Loc} (d : NewD B w h ls) (k : Keeps none' w w') : NewD B w' h ls := d.keep k (fun _ _ h => h)
theorem NewD.range {B : Nat} {w : World} {h : Hd} {ls : List Loc} (d : NewD B w h ls) : ∀ b ∈ h.blk ++ blks ls, B ≤ b ∧ b < w.heap.size := by
  intro b hb
  rcases List.mem_append.1 hb with hb | hb
  · exact d.row.range b hb
  · exact d.own.range b hb
/-- What Do tells. -/
def Done (w : World) (x y z' : Int) (r : Except Int (List Lay)) (en : Ending) (w' : World) : Prop :=
  match r with
  | .error f => en = .returned (.tuple #[docV 0 0 0 Hd.nil, .int .i64 f]) ∧ Keeps none' w w'
  | .ok ls' => ∃ h' lsL, en = .returned (.tuple #[docV x y z' h', .int .i64 0]) ∧ er lsL = ls' ∧ NewD w.heap.size w' h' lsL ∧ Keeps none' w w'
theorem Done.err {w : World} {x y z' : Int} {r : Except Int (List Lay)} {f : Int} {w' : World} (e : r = .error f) (k : Keeps none' w w') : Done w x y z' r (.returned (.tuple #[docV 0 0 0 Hd.nil, .int .i64 f])) w' := by
  subst e
  exact ⟨rfl, k⟩
theorem Done.good {w : World} {x y z' : Int} {r : Except Int (List Lay)} {ls' : List Lay} {h' : Hd} {lsL : List Loc} {w' : World} (e : r = .ok ls') (e1 : er lsL = ls') (n : NewD w.heap.size w' h' lsL) (k : Keeps none' w w') : Done w x y z' r (.returned (.tuple #[docV x y z' h', .int .i64 0])) w' := by
  subst e
  exact ⟨h', lsL, rfl, e1, n, k⟩
theorem keeps_of_from {B : Nat} {w w1 w' : World} (k : Keeps none' w w1) (k2 : Keeps (fun q => B ≤ q) w1 w') (hB : w.heap.size ≤ B) : Keeps none' w w' := k.trans k2 (fun q hq e => by have e' : B ≤ q := e; omega)
theorem Edited.val {B : Nat} {w : World} {R : Nat} {x y z' : Int} {r : Except Int (List Lay)} {en : Ending} {w' : World} (e : Edited B w R x y z' r en w') : ∃ v : Int, en = .returned (.int .i64 v) ∧ Edited B w R x y z' r (.returned (.int .i64 v)) w' := by
  cases r with
  | error f => exact ⟨f, e.1, rfl, e.2⟩
  | ok ls' => exact ⟨0, e.1, rfl, e.2⟩
theorem homeP_err {to : Int} {ls : List Lay} {f : Int} (h : homeP to ls = .error f) : f ≠ 0 := by
  unfold homeP at h
  split at h
  · cases h
  · split at h
    · cases h; decide
    · split at h
      · cases h
      · cases h; decide
theorem addP_err {z : Int} {ls : List Lay} {to at_ n w h : Int} {f : Int} (e : addP z ls to at_ n w h = .error f) : f ≠ 0 := by
  unfold addP at e
  split at e
  · cases e; decide
  split at e
  · cases e; decide
  split at e
  · rename_i hh; cases e; exact homeP_err hh
  split at e
  · cases e; decide
  split at e
  · cases e; decide
  · cases e
theorem removeP_err {ls : List Lay} {id f : Int} (e : removeP ls id = .error f) : f ≠ 0 := by
  unfold removeP at e
  split at e
  · cases e; decide
  · cases e
theorem moveP_err {ls : List Lay} {id to at_ f : Int} (e : moveP ls id to at_ = .error f) : f ≠ 0 := by
  unfold moveP at e
  split at e
  · cases e; decide
  rename_i r hr
  split at e
  · rename_i hh; cases e; exact homeP_err hh
  rename_i C kids hh
  generalize ((kids.length : Int) - (if pidOf r.C = pidOf C then 1 else 0)) = room at e
  split at e
  · cases e; decide
  split at e
  · cases e; decide
  split at e
  · cases e; decide
  split at e
  · rename_i hh2; cases e; exact homeP_err hh2
  · cases e
theorem Whole.newD {B : Nat} {w : World} {R : Nat} {x y z : Int} {h : Hd} {ls : List Loc} (W : Whole B w R x y z h ls) : NewD B w h ls := ⟨W.row, W.own, W.nodup⟩
theorem NewD.low {B B' : Nat} {w : World} {h : Hd} {ls : List Loc} (d : NewD B w h ls) (hB : B' ≤ B) : NewD B' w h ls := ⟨d.row.low hB, d.own.low hB, d.nodup⟩
theorem keeps_at4 (w : World) (Z : Nat) (x y z v : Value) : Keeps (fun q => q = Z) w ((((w.setCell ⟨Z, 0, none⟩ x).setCell ⟨Z, 1, none⟩ y).setCell ⟨Z, 2, none⟩ z).setCell ⟨Z, 3, none⟩ v) :=
  (keeps_at3 w Z x y z).trans (keeps_at _ Z 3 v) (fun _ _ e => e)
attribute [local go_sem ↓] ldx35
attribute [local go_sem] ptrBlock_some aggCells_agg
set_option maxRecDepth 100000 in
set_option maxHeartbeats 3200000 in
theorem doAdd (x y z : Int) (h : Hd) (ls : List Loc) (e : PEd) (p s q : Hd) (w : World) (D : DocV w h ls) (G : Good z (er ls)) (hz : z ≤ 4611686018427387904) (hk : e.kind = 1) :
    Calls Tryz.prog 9 #[docV x y z h, edV e p s q] w fun en w' => Done w x y (z + 1) (addP z (er ls) e.to e.at_ e.n e.w e.h) en w' := by
  have HD := Lib.hid D
  have HG := Lib.hid G
  have HZ := Lib.hid hz
  have C0 := Lib.hid (((Dc.new w x y z h).later ((Keeps.refl none' _).alloc (.cells (edCells e p s q).toArray 38))).later ((Keeps.refl none' _).alloc (.cells #[.int .i64 0, .int .i64 0, .int .i64 0, .slice none 0 0] 26)))
  have E0 := Lib.hid ((Eb.new (w.alloc (.cells #[.int .i64 x, .int .i64 y, .int .i64 z, .slice h.a h.n h.c] 26)) e p s q).later ((Keeps.refl none' _).alloc (.cells #[.int .i64 0, .int .i64 0, .int .i64 0, .slice none 0 0] 26)))
  have K0 := Lib.hid ((((Keeps.refl none' w).alloc (.cells #[.int .i64 x, .int .i64 y, .int .i64 z, .slice h.a h.n h.c] 26)).alloc (.cells (edCells e p s q).toArray 38)).alloc (.cells #[.int .i64 0, .int .i64 0, .int .i64 0, .slice none 0 0] 26))
  have R0 := Lib.hid (heap_alloc_new ((w.alloc (.cells #[.int .i64 x, .int .i64 y, .int .i64 z, .slice h.a h.n h.c] 26)).alloc (.cells (edCells e p s q).toArray 38)) (.cells #[.int .i64 0, .int .i64 0, .int .i64 0, .slice none 0 0] 26))
  have hs1 : (w.alloc (.cells #[.int .i64 x, .int .i64 y, .int .i64 z, .slice h.a h.n h.c] 26)).heap.size = w.heap.size + 1 := by simp
  have hs2 : ((w.alloc (.cells #[.int .i64 x, .int .i64 y, .int .i64 z, .slice h.a h.n h.c] 26)).alloc (.cells (edCells e p s q).toArray 38)).heap.size = w.heap.size + 1 + 1 := by simp
  rw [hs1] at E0
  rw [hs2] at R0
  clear hs1 hs2 D G
  unfold docV edV
  obtain ⟨EV, hEV⟩ : ∃ EV, EV = (edCells e p s q).toArray := ⟨_, rfl⟩
  rw [← hEV]
  rw [← hEV] at C0 E0 K0 R0
  have HEV := Lib.hid hEV
  have e0v := E0.out.c0
  rw [hk] at e0v
  clear hEV
  obtain ⟨Dk, hDk⟩ : ∃ Dk, Dk = w.heap.size := ⟨_, rfl⟩
  obtain ⟨E, hE⟩ : ∃ E, E = Dk + 1 := ⟨_, rfl⟩
  obtain ⟨Z, hZ⟩ : ∃ Z, Z = E + 1 := ⟨_, rfl⟩
  rw [← hDk] at C0
  rw [← hDk, ← hE] at E0 e0v
  rw [← hDk, ← hE, ← hZ] at R0
  have EE := Lib.hid (And.intro hDk (And.intro hE hZ))
  go_enter Tryz.func9, Tryz.ntmps9
  go_upto_region 1 with (fail)
  rw [← hDk, ← hE, ← hZ]
  clear hDk hE hZ
  generalize ((w.alloc (.cells #[.int .i64 x, .int .i64 y, .int .i64 z, .slice h.a h.n h.c] 26)).alloc (.cells EV 38)).alloc (.cells #[.int .i64 0, .int .i64 0, .int .i64 0, .slice none 0 0] 26) = w1 at *
  go_upto_region 2 with ((with_reducible refine (deeds17 w1).mono ?_); rintro en w2 ⟨rfl, f0, hw2⟩; have HW2 := Lib.hid hw2; clear hw2)
  have db := heap_alloc_new w1 (.cells #[f0, .func (.func 46) #[] #[], .func (.func 47) #[] #[], .func (.func 48) #[] #[], .func (.func 49) #[] #[], .func (.func 50) #[] #[], .func (.func 51) #[] #[], .func (.func 52) #[] #[], .func (.func 53) #[] #[], .func (.func 54) #[] #[]] 73)
  rw [← HW2.out] at db
  have DB := Lib.hid db
  have k12 : Keeps none' w1 w2 := by rw [HW2.out]; exact (Keeps.refl none' w1).alloc _
  clear db
  obtain ⟨DD, hDD⟩ : ∃ DD, DD = w1.heap.size := ⟨_, rfl⟩
  rw [← hDD] at DB
  rw [← hDD]
  clear hDD HW2
  have K2 := Lib.hid (K0.out.next k12)
  have C2 := Lib.hid (C0.out.later k12)
  have E2 := Lib.hid (E0.out.later k12)
  have R2 := Lib.hid ((k12.later Z (lt_of_block R0.out)).trans R0.out)
  have e0w := k12.cell e0v
  clear k12 C0 E0 K0 R0 e0v
  have c0 := C2.out.c0
  have c1 := C2.out.c1
  have c2 := C2.out.c2
  have c3 := C2.out.c3
  have cp := copied18 x y z h ls w2 (HD.out.later K2.out)
  unfold docV at cp
  have CP := Lib.hid cp
  clear cp
  go_upto_region 5 with ((with_reducible refine CP.out.mono ?_); rintro en w3 ⟨h', ls', rfl, hcp⟩; have CD := Lib.hid hcp; clear hcp)
  have ka := (Keeps.refl none' w3).alloc (.cells #[.int .i64 x, .int .i64 y, .int .i64 z, .slice h'.a h'.n h'.c] 26)
  have N4 := Lib.hid (Dc.new w3 x y z h')
  have K24 := Lib.hid (CD.out.keeps.next ka)
  have E4 := Lib.hid (E2.out.later K24.out)
  have R4 := Lib.hid ((K24.out.later Z (lt_of_block R2.out)).trans R2.out)
  have D4 := Lib.hid ((K24.out.later DD (lt_of_block DB.out)).trans DB.out)
  have e0 := K24.out.cell e0w
  have K4 := Lib.hid (K2.out.next K24.out)
  obtain ⟨Nx, hNx⟩ : ∃ Nx, Nx = w3.heap.size := ⟨_, rfl⟩
  have W4 := Lib.hid (show Whole w2.heap.size (w3.alloc (.cells #[.int .i64 x, .int .i64 y, .int .i64 z, .slice h'.a h'.n h'.c] 26)) Nx x y z h' ls' from by
    have hB : w2.heap.size ≤ w2.heap.size + 2 := by omega
    refine ⟨by rw [hNx]; exact N4.out, (CD.out.row.later ka).low hB, (CD.out.own.later ka).low hB, CD.out.nodup, fun hm => ?_⟩
    rcases List.mem_append.1 hm with hm | hm
    · have := (CD.out.row.range _ hm).2; omega
    · have := (CD.out.own.range _ hm).2; omega)
  obtain ⟨B2, hB2⟩ : ∃ B2, B2 = w2.heap.size := ⟨_, rfl⟩
  have NB := Lib.hid (show B2 ≤ Nx ∧ Z < B2 ∧ w.heap.size ≤ B2 from by rw [hNx, hB2]; exact ⟨CD.out.keeps.size, lt_of_block R2.out, K2.out.size⟩)
  rw [← hB2] at W4
  have SAME := Lib.hid CD.out.same
  rw [← hNx]
  clear hNx hB2 ka N4 c0 c1 c2 c3 CP CD K24 E2 R2 DB C2 K2 e0w
  generalize w3.alloc (.cells #[.int .i64 x, .int .i64 y, .int .i64 z, .slice h'.a h'.n h'.c] 26) = w4 at *
  have deed := add30 B2 Nx x y z h' ls' e p s q w4.drew (W4.out.later ((Keeps.refl none' w4).drew)) (by rw [SAME.out]; exact HG.out) HZ.out NB.out.1
  unfold edV at deed
  rw [← HEV.out, SAME.out] at deed
  have DE := Lib.hid (show Calls Tryz.prog 46 #[.pointer (some ⟨Nx, 0, none⟩), .agg EV] w4.drew (fun en w' => ∃ v : Int, en = .returned (.int .i64 v) ∧ Edited B2 w4.drew Nx x y (z + 1) (addP z (er ls) e.to e.at_ e.n e.w e.h) (.returned (.int .i64 v)) w') from deed.mono (fun _ _ h => h.val))
  clear deed
  have r5 : Row35 w4 E := E4.out.row.1
  have r6 : rowAt w4 E = EV := by rw [E4.out.row.2, HEV.out]
  have r5d : Row35 w4.drew E := r5
  have r6d : rowAt w4.drew E = EV := r6
  have fk : w4.cell? ⟨DD, 1, none⟩ = some (.func (.func 46) #[] #[]) := by simp [World.cell?, D4.out]
  go_cut [8] from 23 (fun s8 w' => ∃ v : Int, s8 = .int .i64 v ∧ Edited B2 w4.drew Nx x y (z + 1) (addP z (er ls) e.to e.at_ e.n e.w e.h) (.returned (.int .i64 v)) w')
  case first =>
    go_region_law (go_simp; (with_reducible refine DE.out.mono ?_); rintro en w5 ⟨v, rfl, hed⟩)
    all_goals
      go_wp2_with fail
      go_meet
      case rel => exact ⟨v, rfl, hed⟩
  case rest =>
    obtain ⟨v, rfl, hed⟩ := hcut
    have ZW := Lib.hid (show w.heap.size ≤ Z from by have := EE.out; omega)
    clear r5 r6 r5d r6d fk e0
    cases hr : addP z (er ls) e.to e.at_ e.n e.w e.h with
    | error f =>
      rw [hr] at hed
      obtain ⟨hv, hk9⟩ := hed
      simp only [Ending.returned.injEq, Value.int.injEq, true_and] at hv
      subst hv
      have e1 : (v != 0) = true := by simpa using addP_err hr
      have RS := Lib.hid hr
      have K9 := Lib.hid (keeps_of_from K4.out.drew hk9 NB.out.2.2)
      have R9 := Lib.hid ((hk9.block Z (lt_of_block R4.out) (by have := NB.out; omega)).trans R4.out)
      obtain ⟨⟨r0, r1, r2, r3⟩, rf⟩ := four_cells R9.out
      have f0' := rf 0
      have f1' := rf 1
      have f2' := rf 2
      have f3' := rf 3
      clear rf hr hk9
      go_wp2_with fail
      refine bodyPost_ret (results_cell_row2 rfl _ _ Z 26 _ (0, 0) _ rfl (four_set R9.out _ _ _ _) Tryz.underlying26 rfl (by kernel_rfl)) rfl ?_
      exact Done.err RS.out (keeps_set4 K9.out ZW.out _ _ _ _)
    | ok lsP =>
      rw [hr] at hed
      obtain ⟨hv, h2, lsL, q1, q2, hk9⟩ := hed
      simp only [Ending.returned.injEq, Value.int.injEq, true_and] at hv
      subst hv
      have RS := Lib.hid hr
      have Q := Lib.hid (And.intro q1 q2)
      have K9 := Lib.hid (keeps_of_from K4.out.drew hk9 NB.out.2.2)
      have R9 := Lib.hid ((hk9.block Z (lt_of_block R4.out) (by have := NB.out; omega)).trans R4.out)
      obtain ⟨⟨r0, r1, r2, r3⟩, rf⟩ := four_cells R9.out
      have f0' := rf 0
      have f1' := rf 1
      have f2' := rf 2
      have f3' := rf 3
      have c0 := Dc.c0 (x := x) (y := y) (z := z + 1) (h := h2) q2.doc
      have c1 := Dc.c1 (x := x) (y := y) (z := z + 1) (h := h2) q2.doc
      have c2 := Dc.c2 (x := x) (y := y) (z := z + 1) (h := h2) q2.doc
      have c3 := Dc.c3 (x := x) (y := y) (z := z + 1) (h := h2) q2.doc
      clear rf hr hk9 q1 q2
      go_wp2_with fail
      refine bodyPost_ret (results_cell_row2 rfl _ _ Z 26 _ (0, 0) _ rfl (four_set R9.out _ _ _ _) Tryz.underlying26 rfl (by kernel_rfl)) rfl ?_
      refine Done.good RS.out Q.out.1 ?_ (keeps_set4 K9.out ZW.out _ _ _ _)
      have nd := Q.out.2.newD
      exact (nd.keep (keeps_at4 wc Z _ _ _ _) (fun b hb e => by have e' : b = Z := e; have := (nd.range b hb).1; have := NB.out; omega)).low NB.out.2.2
set_option maxRecDepth 100000 in
set_option maxHeartbeats 3200000 in
theorem doRemove (x y z : Int) (h : Hd) (ls : List Loc) (e : PEd) (p s q : Hd) (w : World) (D : DocV w h ls) (G : Good z (er ls)) (hk : e.kind = 2) :
    Calls Tryz.prog 9 #[docV x y z h, edV e p s q] w fun en w' => Done w x y (z) (removeP (er ls) e.id) en w' := by
  have HD := Lib.hid D
  have HG := Lib.hid G
  skip
  have C0 := Lib.hid (((Dc.new w x y z h).later ((Keeps.refl none' _).alloc (.cells (edCells e p s q).toArray 38))).later ((Keeps.refl none' _).alloc (.cells #[.int .i64 0, .int .i64 0, .int .i64 0, .slice none 0 0] 26)))
  have E0 := Lib.hid ((Eb.new (w.alloc (.cells #[.int .i64 x, .int .i64 y, .int .i64 z, .slice h.a h.n h.c] 26)) e p s q).later ((Keeps.refl none' _).alloc (.cells #[.int .i64 0, .int .i64 0, .int .i64 0, .slice none 0 0] 26)))
  have K0 := Lib.hid ((((Keeps.refl none' w).alloc (.cells #[.int .i64 x, .int .i64 y, .int .i64 z, .slice h.a h.n h.c] 26)).alloc (.cells (edCells e p s q).toArray 38)).alloc (.cells #[.int .i64 0, .int .i64 0, .int .i64 0, .slice none 0 0] 26))
  have R0 := Lib.hid (heap_alloc_new ((w.alloc (.cells #[.int .i64 x, .int .i64 y, .int .i64 z, .slice h.a h.n h.c] 26)).alloc (.cells (edCells e p s q).toArray 38)) (.cells #[.int .i64 0, .int .i64 0, .int .i64 0, .slice none 0 0] 26))
  have hs1 : (w.alloc (.cells #[.int .i64 x, .int .i64 y, .int .i64 z, .slice h.a h.n h.c] 26)).heap.size = w.heap.size + 1 := by simp
  have hs2 : ((w.alloc (.cells #[.int .i64 x, .int .i64 y, .int .i64 z, .slice h.a h.n h.c] 26)).alloc (.cells (edCells e p s q).toArray 38)).heap.size = w.heap.size + 1 + 1 := by simp
  rw [hs1] at E0
  rw [hs2] at R0
  clear hs1 hs2 D G
  unfold docV edV
  obtain ⟨EV, hEV⟩ : ∃ EV, EV = (edCells e p s q).toArray := ⟨_, rfl⟩
  rw [← hEV]
  rw [← hEV] at C0 E0 K0 R0
  have HEV := Lib.hid hEV
  have e0v := E0.out.c0
  rw [hk] at e0v
  clear hEV
  obtain ⟨Dk, hDk⟩ : ∃ Dk, Dk = w.heap.size := ⟨_, rfl⟩
  obtain ⟨E, hE⟩ : ∃ E, E = Dk + 1 := ⟨_, rfl⟩
  obtain ⟨Z, hZ⟩ : ∃ Z, Z = E + 1 := ⟨_, rfl⟩
  rw [← hDk] at C0
  rw [← hDk, ← hE] at E0 e0v
  rw [← hDk, ← hE, ← hZ] at R0
  have EE := Lib.hid (And.intro hDk (And.intro hE hZ))
  go_enter Tryz.func9, Tryz.ntmps9
  go_upto_region 1 with (fail)
  rw [← hDk, ← hE, ← hZ]
  clear hDk hE hZ
  generalize ((w.alloc (.cells #[.int .i64 x, .int .i64 y, .int .i64 z, .slice h.a h.n h.c] 26)).alloc (.cells EV 38)).alloc (.cells #[.int .i64 0, .int .i64 0, .int .i64 0, .slice none 0 0] 26) = w1 at *
  go_upto_region 2 with ((with_reducible refine (deeds17 w1).mono ?_); rintro en w2 ⟨rfl, f0, hw2⟩; have HW2 := Lib.hid hw2; clear hw2)
  have db := heap_alloc_new w1 (.cells #[f0, .func (.func 46) #[] #[], .func (.func 47) #[] #[], .func (.func 48) #[] #[], .func (.func 49) #[] #[], .func (.func 50) #[] #[], .func (.func 51) #[] #[], .func (.func 52) #[] #[], .func (.func 53) #[] #[], .func (.func 54) #[] #[]] 73)
  rw [← HW2.out] at db
  have DB := Lib.hid db
  have k12 : Keeps none' w1 w2 := by rw [HW2.out]; exact (Keeps.refl none' w1).alloc _
  clear db
  obtain ⟨DD, hDD⟩ : ∃ DD, DD = w1.heap.size := ⟨_, rfl⟩
  rw [← hDD] at DB
  rw [← hDD]
  clear hDD HW2
  have K2 := Lib.hid (K0.out.next k12)
  have C2 := Lib.hid (C0.out.later k12)
  have E2 := Lib.hid (E0.out.later k12)
  have R2 := Lib.hid ((k12.later Z (lt_of_block R0.out)).trans R0.out)
  have e0w := k12.cell e0v
  clear k12 C0 E0 K0 R0 e0v
  have c0 := C2.out.c0
  have c1 := C2.out.c1
  have c2 := C2.out.c2
  have c3 := C2.out.c3
  have cp := copied18 x y z h ls w2 (HD.out.later K2.out)
  unfold docV at cp
  have CP := Lib.hid cp
  clear cp
  go_upto_region 5 with ((with_reducible refine CP.out.mono ?_); rintro en w3 ⟨h', ls', rfl, hcp⟩; have CD := Lib.hid hcp; clear hcp)
  have ka := (Keeps.refl none' w3).alloc (.cells #[.int .i64 x, .int .i64 y, .int .i64 z, .slice h'.a h'.n h'.c] 26)
  have N4 := Lib.hid (Dc.new w3 x y z h')
  have K24 := Lib.hid (CD.out.keeps.next ka)
  have E4 := Lib.hid (E2.out.later K24.out)
  have R4 := Lib.hid ((K24.out.later Z (lt_of_block R2.out)).trans R2.out)
  have D4 := Lib.hid ((K24.out.later DD (lt_of_block DB.out)).trans DB.out)
  have e0 := K24.out.cell e0w
  have K4 := Lib.hid (K2.out.next K24.out)
  obtain ⟨Nx, hNx⟩ : ∃ Nx, Nx = w3.heap.size := ⟨_, rfl⟩
  have W4 := Lib.hid (show Whole w2.heap.size (w3.alloc (.cells #[.int .i64 x, .int .i64 y, .int .i64 z, .slice h'.a h'.n h'.c] 26)) Nx x y z h' ls' from by
    have hB : w2.heap.size ≤ w2.heap.size + 2 := by omega
    refine ⟨by rw [hNx]; exact N4.out, (CD.out.row.later ka).low hB, (CD.out.own.later ka).low hB, CD.out.nodup, fun hm => ?_⟩
    rcases List.mem_append.1 hm with hm | hm
    · have := (CD.out.row.range _ hm).2; omega
    · have := (CD.out.own.range _ hm).2; omega)
  obtain ⟨B2, hB2⟩ : ∃ B2, B2 = w2.heap.size := ⟨_, rfl⟩
  have NB := Lib.hid (show B2 ≤ Nx ∧ Z < B2 ∧ w.heap.size ≤ B2 from by rw [hNx, hB2]; exact ⟨CD.out.keeps.size, lt_of_block R2.out, K2.out.size⟩)
  rw [← hB2] at W4
  have SAME := Lib.hid CD.out.same
  rw [← hNx]
  clear hNx hB2 ka N4 c0 c1 c2 c3 CP CD K24 E2 R2 DB C2 K2 e0w
  generalize w3.alloc (.cells #[.int .i64 x, .int .i64 y, .int .i64 z, .slice h'.a h'.n h'.c] 26) = w4 at *
  have deed := remove31 B2 Nx x y z h' ls' e p s q w4.drew (W4.out.later ((Keeps.refl none' w4).drew)) (by rw [SAME.out]; exact HG.out) NB.out.1
  unfold edV at deed
  rw [← HEV.out, SAME.out] at deed
  have DE := Lib.hid (show Calls Tryz.prog 47 #[.pointer (some ⟨Nx, 0, none⟩), .agg EV] w4.drew (fun en w' => ∃ v : Int, en = .returned (.int .i64 v) ∧ Edited B2 w4.drew Nx x y (z) (removeP (er ls) e.id) (.returned (.int .i64 v)) w') from deed.mono (fun _ _ h => h.val))
  clear deed
  have r5 : Row35 w4 E := E4.out.row.1
  have r6 : rowAt w4 E = EV := by rw [E4.out.row.2, HEV.out]
  have r5d : Row35 w4.drew E := r5
  have r6d : rowAt w4.drew E = EV := r6
  have fk : w4.cell? ⟨DD, 2, none⟩ = some (.func (.func 47) #[] #[]) := by simp [World.cell?, D4.out]
  go_cut [8] from 23 (fun s8 w' => ∃ v : Int, s8 = .int .i64 v ∧ Edited B2 w4.drew Nx x y (z) (removeP (er ls) e.id) (.returned (.int .i64 v)) w')
  case first =>
    go_region_law (go_simp; (with_reducible refine DE.out.mono ?_); rintro en w5 ⟨v, rfl, hed⟩)
    all_goals
      go_wp2_with fail
      go_meet
      case rel => exact ⟨v, rfl, hed⟩
  case rest =>
    obtain ⟨v, rfl, hed⟩ := hcut
    have ZW := Lib.hid (show w.heap.size ≤ Z from by have := EE.out; omega)
    clear r5 r6 r5d r6d fk e0
    cases hr : removeP (er ls) e.id with
    | error f =>
      rw [hr] at hed
      obtain ⟨hv, hk9⟩ := hed
      simp only [Ending.returned.injEq, Value.int.injEq, true_and] at hv
      subst hv
      have e1 : (v != 0) = true := by simpa using removeP_err hr
      have RS := Lib.hid hr
      have K9 := Lib.hid (keeps_of_from K4.out.drew hk9 NB.out.2.2)
      have R9 := Lib.hid ((hk9.block Z (lt_of_block R4.out) (by have := NB.out; omega)).trans R4.out)
      obtain ⟨⟨r0, r1, r2, r3⟩, rf⟩ := four_cells R9.out
      have f0' := rf 0
      have f1' := rf 1
      have f2' := rf 2
      have f3' := rf 3
      clear rf hr hk9
      go_wp2_with fail
      refine bodyPost_ret (results_cell_row2 rfl _ _ Z 26 _ (0, 0) _ rfl (four_set R9.out _ _ _ _) Tryz.underlying26 rfl (by kernel_rfl)) rfl ?_
      exact Done.err RS.out (keeps_set4 K9.out ZW.out _ _ _ _)
    | ok lsP =>
      rw [hr] at hed
      obtain ⟨hv, h2, lsL, q1, q2, hk9⟩ := hed
      simp only [Ending.returned.injEq, Value.int.injEq, true_and] at hv
      subst hv
      have RS := Lib.hid hr
      have Q := Lib.hid (And.intro q1 q2)
      have K9 := Lib.hid (keeps_of_from K4.out.drew hk9 NB.out.2.2)
      have R9 := Lib.hid ((hk9.block Z (lt_of_block R4.out) (by have := NB.out; omega)).trans R4.out)
      obtain ⟨⟨r0, r1, r2, r3⟩, rf⟩ := four_cells R9.out
      have f0' := rf 0
      have f1' := rf 1
      have f2' := rf 2
      have f3' := rf 3
      have c0 := Dc.c0 (x := x) (y := y) (z := z) (h := h2) q2.doc
      have c1 := Dc.c1 (x := x) (y := y) (z := z) (h := h2) q2.doc
      have c2 := Dc.c2 (x := x) (y := y) (z := z) (h := h2) q2.doc
      have c3 := Dc.c3 (x := x) (y := y) (z := z) (h := h2) q2.doc
      clear rf hr hk9 q1 q2
      go_wp2_with fail
      refine bodyPost_ret (results_cell_row2 rfl _ _ Z 26 _ (0, 0) _ rfl (four_set R9.out _ _ _ _) Tryz.underlying26 rfl (by kernel_rfl)) rfl ?_
      refine Done.good RS.out Q.out.1 ?_ (keeps_set4 K9.out ZW.out _ _ _ _)
      have nd := Q.out.2.newD
      exact (nd.keep (keeps_at4 wc Z _ _ _ _) (fun b hb e => by have e' : b = Z := e; have := (nd.range b hb).1; have := NB.out; omega)).low NB.out.2.2
set_option maxRecDepth 100000 in
set_option maxHeartbeats 3200000 in
theorem doMove (x y z : Int) (h : Hd) (ls : List Loc) (e : PEd) (p s q : Hd) (w : World) (D : DocV w h ls) (G : Good z (er ls)) (hk : e.kind = 3) :
    Calls Tryz.prog 9 #[docV x y z h, edV e p s q] w fun en w' => Done w x y (z) (moveP (er ls) e.id e.to e.at_) en w' := by
  have HD := Lib.hid D
  have HG := Lib.hid G
  skip
  have C0 := Lib.hid (((Dc.new w x y z h).later ((Keeps.refl none' _).alloc (.cells (edCells e p s q).toArray 38))).later ((Keeps.refl none' _).alloc (.cells #[.int .i64 0, .int .i64 0, .int .i64 0, .slice none 0 0] 26)))
  have E0 := Lib.hid ((Eb.new (w.alloc (.cells #[.int .i64 x, .int .i64 y, .int .i64 z, .slice h.a h.n h.c] 26)) e p s q).later ((Keeps.refl none' _).alloc (.cells #[.int .i64 0, .int .i64 0, .int .i64 0, .slice none 0 0] 26)))
  have K0 := Lib.hid ((((Keeps.refl none' w).alloc (.cells #[.int .i64 x, .int .i64 y, .int .i64 z, .slice h.a h.n h.c] 26)).alloc (.cells (edCells e p s q).toArray 38)).alloc (.cells #[.int .i64 0, .int .i64 0, .int .i64 0, .slice none 0 0] 26))
  have R0 := Lib.hid (heap_alloc_new ((w.alloc (.cells #[.int .i64 x, .int .i64 y, .int .i64 z, .slice h.a h.n h.c] 26)).alloc (.cells (edCells e p s q).toArray 38)) (.cells #[.int .i64 0, .int .i64 0, .int .i64 0, .slice none 0 0] 26))
  have hs1 : (w.alloc (.cells #[.int .i64 x, .int .i64 y, .int .i64 z, .slice h.a h.n h.c] 26)).heap.size = w.heap.size + 1 := by simp
  have hs2 : ((w.alloc (.cells #[.int .i64 x, .int .i64 y, .int .i64 z, .slice h.a h.n h.c] 26)).alloc (.cells (edCells e p s q).toArray 38)).heap.size = w.heap.size + 1 + 1 := by simp
  rw [hs1] at E0
  rw [hs2] at R0
  clear hs1 hs2 D G
  unfold docV edV
  obtain ⟨EV, hEV⟩ : ∃ EV, EV = (edCells e p s q).toArray := ⟨_, rfl⟩
  rw [← hEV]
  rw [← hEV] at C0 E0 K0 R0
  have HEV := Lib.hid hEV
  have e0v := E0.out.c0
  rw [hk] at e0v
  clear hEV
  obtain ⟨Dk, hDk⟩ : ∃ Dk, Dk = w.heap.size := ⟨_, rfl⟩
  obtain ⟨E, hE⟩ : ∃ E, E = Dk + 1 := ⟨_, rfl⟩
  obtain ⟨Z, hZ⟩ : ∃ Z, Z = E + 1 := ⟨_, rfl⟩
  rw [← hDk] at C0
  rw [← hDk, ← hE] at E0 e0v
  rw [← hDk, ← hE, ← hZ] at R0
  have EE := Lib.hid (And.intro hDk (And.intro hE hZ))
  go_enter Tryz.func9, Tryz.ntmps9
  go_upto_region 1 with (fail)
  rw [← hDk, ← hE, ← hZ]
  clear hDk hE hZ
  generalize ((w.alloc (.cells #[.int .i64 x, .int .i64 y, .int .i64 z, .slice h.a h.n h.c] 26)).alloc (.cells EV 38)).alloc (.cells #[.int .i64 0, .int .i64 0, .int .i64 0, .slice none 0 0] 26) = w1 at *
  go_upto_region 2 with ((with_reducible refine (deeds17 w1).mono ?_); rintro en w2 ⟨rfl, f0, hw2⟩; have HW2 := Lib.hid hw2; clear hw2)
  have db := heap_alloc_new w1 (.cells #[f0, .func (.func 46) #[] #[], .func (.func 47) #[] #[], .func (.func 48) #[] #[], .func (.func 49) #[] #[], .func (.func 50) #[] #[], .func (.func 51) #[] #[], .func (.func 52) #[] #[], .func (.func 53) #[] #[], .func (.func 54) #[] #[]] 73)
  rw [← HW2.out] at db
  have DB := Lib.hid db
  have k12 : Keeps none' w1 w2 := by rw [HW2.out]; exact (Keeps.refl none' w1).alloc _
  clear db
  obtain ⟨DD, hDD⟩ : ∃ DD, DD = w1.heap.size := ⟨_, rfl⟩
  rw [← hDD] at DB
  rw [← hDD]
  clear hDD HW2
  have K2 := Lib.hid (K0.out.next k12)
  have C2 := Lib.hid (C0.out.later k12)
  have E2 := Lib.hid (E0.out.later k12)
  have R2 := Lib.hid ((k12.later Z (lt_of_block R0.out)).trans R0.out)
  have e0w := k12.cell e0v
  clear k12 C0 E0 K0 R0 e0v
  have c0 := C2.out.c0
  have c1 := C2.out.c1
  have c2 := C2.out.c2
  have c3 := C2.out.c3
  have cp := copied18 x y z h ls w2 (HD.out.later K2.out)
  unfold docV at cp
  have CP := Lib.hid cp
  clear cp
  go_upto_region 5 with ((with_reducible refine CP.out.mono ?_); rintro en w3 ⟨h', ls', rfl, hcp⟩; have CD := Lib.hid hcp; clear hcp)
  have ka := (Keeps.refl none' w3).alloc (.cells #[.int .i64 x, .int .i64 y, .int .i64 z, .slice h'.a h'.n h'.c] 26)
  have N4 := Lib.hid (Dc.new w3 x y z h')
  have K24 := Lib.hid (CD.out.keeps.next ka)
  have E4 := Lib.hid (E2.out.later K24.out)
  have R4 := Lib.hid ((K24.out.later Z (lt_of_block R2.out)).trans R2.out)
  have D4 := Lib.hid ((K24.out.later DD (lt_of_block DB.out)).trans DB.out)
  have e0 := K24.out.cell e0w
  have K4 := Lib.hid (K2.out.next K24.out)
  obtain ⟨Nx, hNx⟩ : ∃ Nx, Nx = w3.heap.size := ⟨_, rfl⟩
  have W4 := Lib.hid (show Whole w2.heap.size (w3.alloc (.cells #[.int .i64 x, .int .i64 y, .int .i64 z, .slice h'.a h'.n h'.c] 26)) Nx x y z h' ls' from by
    have hB : w2.heap.size ≤ w2.heap.size + 2 := by omega
    refine ⟨by rw [hNx]; exact N4.out, (CD.out.row.later ka).low hB, (CD.out.own.later ka).low hB, CD.out.nodup, fun hm => ?_⟩
    rcases List.mem_append.1 hm with hm | hm
    · have := (CD.out.row.range _ hm).2; omega
    · have := (CD.out.own.range _ hm).2; omega)
  obtain ⟨B2, hB2⟩ : ∃ B2, B2 = w2.heap.size := ⟨_, rfl⟩
  have NB := Lib.hid (show B2 ≤ Nx ∧ Z < B2 ∧ w.heap.size ≤ B2 from by rw [hNx, hB2]; exact ⟨CD.out.keeps.size, lt_of_block R2.out, K2.out.size⟩)
  rw [← hB2] at W4
  have SAME := Lib.hid CD.out.same
  rw [← hNx]
  clear hNx hB2 ka N4 c0 c1 c2 c3 CP CD K24 E2 R2 DB C2 K2 e0w
  generalize w3.alloc (.cells #[.int .i64 x, .int .i64 y, .int .i64 z, .slice h'.a h'.n h'.c] 26) = w4 at *
  have deed := move32 B2 Nx x y z h' ls' e p s q w4.drew (W4.out.later ((Keeps.refl none' w4).drew)) (by rw [SAME.out]; exact HG.out) NB.out.1
  unfold edV at deed
  rw [← HEV.out, SAME.out] at deed
  have DE := Lib.hid (show Calls Tryz.prog 48 #[.pointer (some ⟨Nx, 0, none⟩), .agg EV] w4.drew (fun en w' => ∃ v : Int, en = .returned (.int .i64 v) ∧ Edited B2 w4.drew Nx x y (z) (moveP (er ls) e.id e.to e.at_) (.returned (.int .i64 v)) w') from deed.mono (fun _ _ h => h.val))
  clear deed
  have r5 : Row35 w4 E := E4.out.row.1
  have r6 : rowAt w4 E = EV := by rw [E4.out.row.2, HEV.out]
  have r5d : Row35 w4.drew E := r5
  have r6d : rowAt w4.drew E = EV := r6
  have fk : w4.cell? ⟨DD, 3, none⟩ = some (.func (.func 48) #[] #[]) := by simp [World.cell?, D4.out]
  go_cut [8] from 23 (fun s8 w' => ∃ v : Int, s8 = .int .i64 v ∧ Edited B2 w4.drew Nx x y (z) (moveP (er ls) e.id e.to e.at_) (.returned (.int .i64 v)) w')
  case first =>
    go_region_law (go_simp; (with_reducible refine DE.out.mono ?_); rintro en w5 ⟨v, rfl, hed⟩)
    all_goals
      go_wp2_with fail
      go_meet
      case rel => exact ⟨v, rfl, hed⟩
  case rest =>
    obtain ⟨v, rfl, hed⟩ := hcut
    have ZW := Lib.hid (show w.heap.size ≤ Z from by have := EE.out; omega)
    clear r5 r6 r5d r6d fk e0
    cases hr : moveP (er ls) e.id e.to e.at_ with
    | error f =>
      rw [hr] at hed
      obtain ⟨hv, hk9⟩ := hed
      simp only [Ending.returned.injEq, Value.int.injEq, true_and] at hv
      subst hv
      have e1 : (v != 0) = true := by simpa using moveP_err hr
      have RS := Lib.hid hr
      have K9 := Lib.hid (keeps_of_from K4.out.drew hk9 NB.out.2.2)
      have R9 := Lib.hid ((hk9.block Z (lt_of_block R4.out) (by have := NB.out; omega)).trans R4.out)
      obtain ⟨⟨r0, r1, r2, r3⟩, rf⟩ := four_cells R9.out
      have f0' := rf 0
      have f1' := rf 1
      have f2' := rf 2
      have f3' := rf 3
      clear rf hr hk9
      go_wp2_with fail
      refine bodyPost_ret (results_cell_row2 rfl _ _ Z 26 _ (0, 0) _ rfl (four_set R9.out _ _ _ _) Tryz.underlying26 rfl (by kernel_rfl)) rfl ?_
      exact Done.err RS.out (keeps_set4 K9.out ZW.out _ _ _ _)
    | ok lsP =>
      rw [hr] at hed
      obtain ⟨hv, h2, lsL, q1, q2, hk9⟩ := hed
      simp only [Ending.returned.injEq, Value.int.injEq, true_and] at hv
      subst hv
      have RS := Lib.hid hr
      have Q := Lib.hid (And.intro q1 q2)
      have K9 := Lib.hid (keeps_of_from K4.out.drew hk9 NB.out.2.2)
      have R9 := Lib.hid ((hk9.block Z (lt_of_block R4.out) (by have := NB.out; omega)).trans R4.out)
      obtain ⟨⟨r0, r1, r2, r3⟩, rf⟩ := four_cells R9.out
      have f0' := rf 0
      have f1' := rf 1
      have f2' := rf 2
      have f3' := rf 3
      have c0 := Dc.c0 (x := x) (y := y) (z := z) (h := h2) q2.doc
      have c1 := Dc.c1 (x := x) (y := y) (z := z) (h := h2) q2.doc
      have c2 := Dc.c2 (x := x) (y := y) (z := z) (h := h2) q2.doc
      have c3 := Dc.c3 (x := x) (y := y) (z := z) (h := h2) q2.doc
      clear rf hr hk9 q1 q2
      go_wp2_with fail
      refine bodyPost_ret (results_cell_row2 rfl _ _ Z 26 _ (0, 0) _ rfl (four_set R9.out _ _ _ _) Tryz.underlying26 rfl (by kernel_rfl)) rfl ?_
      refine Done.good RS.out Q.out.1 ?_ (keeps_set4 K9.out ZW.out _ _ _ _)
      have nd := Q.out.2.newD
      exact (nd.keep (keeps_at4 wc Z _ _ _ _) (fun b hb e => by have e' : b = Z := e; have := (nd.range b hb).1; have := NB.out; omega)).low NB.out.2.2
end Go.Proofs.YtfcpbpfemmdklaaGreat.Tr

/- A row of pixels painted. -/
namespace Go.Proofs.YtfcpbpfemmdklaaGreat.Tr
open Go.RowKit Go.Lib
set_option linter.unusedSimpArgs false
set_option linter.unusedVariables false

/-- One pixel painted. -/
def pone (W y x : Int) (i : Nat) (v : Int) (p : List Int) : List Int :=
  if (0 ≤ x + (i : Int) ∧ x + (i : Int) < W) ∧ (0 ≤ y * W + x + (i : Int) ∧ y * W + x + (i : Int) < (p.length : Int)) then p.set (y * W + x + (i : Int)).toNat v else p
/-- A row painted. -/
def prow (W y x : Int) : Nat → List Int → List Int → List Int
  | _, [], p => p
  | i, v :: vs, p => prow W y x (i + 1) vs (pone W y x i v p)
theorem pone_len (W y x : Int) (i : Nat) (v : Int) (p : List Int) : (pone W y x i v p).length = p.length := by
  unfold pone
  split
  · rw [List.length_set]
  · rfl
theorem prow_len (W y x : Int) : ∀ (vs : List Int) (i : Nat) (p : List Int), (prow W y x i vs p).length = p.length
  | [], i, p => rfl
  | v :: vs, i, p => by rw [prow, prow_len W y x vs, pone_len]
theorem prow_snoc (W y x : Int) : ∀ (vs : List Int) (i : Nat) (p : List Int) (v : Int), prow W y x i (vs ++ [v]) p = pone W y x (i + vs.length) v (prow W y x i vs p)
  | [], i, p, v => rfl
  | u :: vs, i, p, v => by
    rw [List.cons_append, prow, prow_snoc W y x vs, prow, List.length_cons, show i + 1 + vs.length = i + (vs.length + 1) by omega]
theorem OwnR.setI {B : Nat} {w w' : World} {h : Hd} {vs : List Value} {i : Nat} {v : Value} (o : OwnR B w 3 1 h vs) (hi : i < vs.length) (h1 : v.oneCell' = true)
    (hk : w'.heap[h.b]? = (w.setCell ⟨h.b, h.o + i, none⟩ v).heap[h.b]?) : OwnR B w' 3 1 h (vs.set i v) := by
  have hl := o.1.1
  refine ⟨⟨by rw [List.length_set]; exact hl, ?_⟩, fun u hu => ?_, o.2.2⟩
  · obtain ⟨a, n, c⟩ := h
    rcases o.1.2 with ⟨-, e0⟩ | ⟨g, c', cur, e, hB, hh, p1, p2, p3, p4⟩
    · have e0' : n = 0 := e0
      subst e0'
      have hl' : vs.length = 0 * 1 := hl
      omega
    · simp only [Value.slice.injEq, true_and] at e
      obtain ⟨rfl, rfl⟩ := e
      have hk' : w'.heap[g]? = (w.setCell ⟨g, 0 + i, none⟩ v).heap[g]? := hk
      rw [Nat.zero_add, block_set hh] at hk'
      refine .inr ⟨g, c, cur.setIfInBounds i v, rfl, hB, hk', p1, p2, by rw [Array.size_setIfInBounds]; exact p3, ?_⟩
      rw [Array.toList_setIfInBounds, ← p4, List.take_set]
  · rcases List.mem_or_eq_of_mem_set hu with hu | rfl
    · exact o.2.1 u hu
    · exact h1
theorem ints_set (l : List Int) (i : Nat) (v : Int) : (ints l).set i (.int .i64 v) = ints (l.set i v) := by unfold ints; rw [List.map_set]
theorem atI_own {B : Nat} {w : World} {h : Hd} {l : List Int} (o : OwnR B w 3 1 h (ints l)) {i : Nat} (hi : i < l.length) : ∃ b u, h.a = some ⟨b, 0, none⟩ ∧ h.blk = [b] ∧ h.b = b ∧ h.o = 0 ∧ w.cell? ⟨b, i, none⟩ = some (.int .i64 u) ∧ w.frozen? ⟨b, i, none⟩ = false ∧ h.n = l.length ∧ l.length ≤ h.c := by
  have hl := o.1.1
  have hil : (ints l).length = l.length := by simp [ints]
  obtain ⟨a, n, c⟩ := h
  rcases o.1.2 with ⟨-, e0⟩ | ⟨g, c', cur, e, hB, hh, p1, p2, p3, p4⟩
  · have e0' : n = 0 := e0
    subst e0'
    have hl' : (ints l).length = 0 * 1 := hl
    omega
  · simp only [Value.slice.injEq, true_and] at e
    obtain ⟨rfl, rfl⟩ := e
    have hl' : (ints l).length = n * 1 := hl
    have hc' : cur.size = c * 1 := p3
    have hnc : n ≤ c := p1
    obtain ⟨u, hu⟩ : ∃ u, l[i]? = some u := ⟨_, List.getElem?_eq_getElem hi⟩
    have h4 : (ints l)[i]? = some (.int .i64 u) := by unfold ints; rw [List.getElem?_map, hu]; rfl
    refine ⟨g, u, rfl, rfl, rfl, rfl, ?_, by simp [World.frozen?, hh], by show n = _; omega, by show _ ≤ c; omega⟩
    rw [cell_of_row _ _ _ _ _ _ hh, ← Array.getElem?_toList]
    rw [← p4, List.getElem?_take_of_lt (by show i < n * 1; omega)] at h4
    exact h4
set_option maxRecDepth 100000 in
set_option maxHeartbeats 3200000 in
theorem prow56 (B g o : Nat) (W : Int) (p : Hd) (pl : List Int) (x y : Int) (rb ro rn rc : Nat) (row : List Int) (w : World)
    (c5 : w.cell? ⟨g, o + 5, none⟩ = some (.int .i64 W)) (c7 : w.cell? ⟨g, o + 7, none⟩ = some (.slice p.a p.n p.c)) (OP : OwnR B w 3 1 p (ints pl)) (RR : ReadR w 3 1 ⟨some ⟨rb, ro, none⟩, rn, rc⟩ (ints row)) (hrb : rb ∉ p.blk) (hg : g ∉ p.blk)
    (hW : 0 ≤ W ∧ W ≤ 32768) (hx : -100000 ≤ x ∧ x ≤ 100000) (hy : -100000 ≤ y ∧ y ≤ 100000) (hrn : rn ≤ 1000000) :
    Calls Tryz.prog 83 #[.pointer (some ⟨g, o, none⟩), .int .i64 x, .int .i64 y, .slice (some ⟨rb, ro, none⟩) rn rc] w fun e w' => e = .returned (.tuple #[]) ∧ OwnR B w' 3 1 p (ints (prow W y x 0 row pl)) ∧ Keeps (fun q => q ∈ p.blk) w w' := by
  have hl : row.length = rn := by
    have h1 := RR.1.len
    have h2 : (ints row).length = row.length := by simp [ints]
    have h3 : (ints row).length = rn * 1 := h1
    omega
  have hm0 : -3276800000 ≤ y * W := by
    have := Int.mul_le_mul_of_nonneg_right hy.1 hW.1
    have h2 : -100000 * W ≥ -100000 * 32768 := by omega
    omega
  have hm1 : y * W ≤ 3276800000 := by
    have := Int.mul_le_mul_of_nonneg_right hy.2 hW.1
    omega
  have HL := Lib.hid (And.intro hl hrn)
  have HM := Lib.hid (And.intro hm0 (And.intro hm1 (And.intro hx hW)))
  have C5 := Lib.hid c5
  have C7 := Lib.hid c7
  have HR := Lib.hid RR
  have HN := Lib.hid (And.intro hrb hg)
  have O0 := Lib.hid OP
  have PN := Lib.hid (show p.n = pl.length from by have h1 := OP.1.1; have h2 : (ints pl).length = pl.length := by simp [ints]
                                                   omega)
  have ymW : wrap64 (y * W) = y * W := wrap64_id _ (by omega) (by omega)
  obtain ⟨YW, hYW⟩ : ∃ YW, YW = y * W := ⟨_, rfl⟩
  have EY := Lib.hid hYW
  rw [← hYW] at hm0 hm1
  have ymW2 : wrap64 (y * W) = YW := by rw [ymW, hYW]
  obtain ⟨YX, hYX⟩ : ∃ YX, YX = YW + x := ⟨_, rfl⟩
  have yxw : wrap64 (YW + x) = YX := by rw [hYX]; exact wrap64_id _ (by omega) (by omega)
  have EX := Lib.hid (And.intro hYX (And.intro hm0 hm1))
  clear c5 c7 OP RR hrb hg hl hm0 hm1 hx hy hrn hW ymW hYW hYX
  go_enter Tryz.func83, Tryz.ntmps83
  go_wp2_with fail
  go_loopw [13] (fun s13 wr => ∃ i : Nat, i ≤ rn ∧ s13 = .int .i64 i ∧ OwnR B wr 3 1 p (ints (prow W y x 0 (row.take i) pl)) ∧ Keeps (fun q => q ∈ p.blk) w wr) (fun s13 _ => rn - (intOf s13).toNat)
  case atStart => exact ⟨0, Nat.zero_le _, rfl, by rw [List.take_zero, prow]; exact O0.out, Keeps.refl _ _⟩
  case round =>
    obtain ⟨i, hi, rfl, ho, hk⟩ := hrel
    have OI := Lib.hid ho
    have K := Lib.hid hk
    clear ho hk
    by_cases hlt : i < rn
    · have tk : decide ((i : Int) < (rn : Int)) = true := by simp; omega
      have tk2 : decide (i < rn) = true := by simp; omega
      obtain ⟨v, hv⟩ : ∃ v, row[i]? = some v := ⟨_, List.getElem?_eq_getElem (by have := HL.out.1; omega)⟩
      have ce : wr.cell? ⟨rb, ro + i, none⟩ = some (.int .i64 v) := K.out.cellS HN.out.1 ((HR.out.1.at' _ rfl).2.2 i _ (by unfold ints; rw [List.getElem?_map, hv]; rfl))
      have ri := prow_snoc W y x (row.take i) 0 pl v
      rw [← take_more hv, List.length_take, show 0 + min i row.length = i by have := HL.out.1; omega] at ri
      have RI := Lib.hid ri
      have c5 := K.out.cellS HN.out.2 C5.out
      have c7 := K.out.cellS HN.out.2 C7.out
      have iw : wrap64 ((i : Int) + 1) = (i : Int) + 1 := wrap64_id _ (by have := HL.out; omega) (by have := HL.out; omega)
      obtain ⟨XI, hXI⟩ : ∃ XI, XI = x + (i : Int) := ⟨_, rfl⟩
      obtain ⟨AT, hAT⟩ : ∃ AT, AT = YX + (i : Int) := ⟨_, rfl⟩
      have xw : wrap64 (x + (i : Int)) = XI := by rw [hXI]; exact wrap64_id _ (by have := HL.out; have := HM.out; omega) (by have := HL.out; have := HM.out; omega)
      have aw : wrap64 (YX + (i : Int)) = AT := by rw [hAT]; exact wrap64_id _ (by have := HL.out; have := HM.out; have := EX.out; omega) (by have := HL.out; have := HM.out; have := EX.out; omega)
      have hlen : (prow W y x 0 (row.take i) pl).length = p.n := by rw [prow_len]; exact PN.out.symm
      have PO := Lib.hid (show pone W y x i v (prow W y x 0 (row.take i) pl) = if (0 ≤ XI ∧ XI < W) ∧ (0 ≤ AT ∧ AT < (p.n : Int)) then (prow W y x 0 (row.take i) pl).set AT.toNat v else prow W y x 0 (row.take i) pl from by
        unfold pone
        rw [hlen, ← EY.out, ← EX.out.1, ← hXI, ← hAT])
      have HLEN := Lib.hid hlen
      have HLT := Lib.hid (And.intro hlt iw)
      clear hv ri hXI hAT hlen
      by_cases tc : (0 ≤ XI ∧ XI < W) ∧ (0 ≤ AT ∧ AT < (p.n : Int))
      · obtain ⟨A, rfl⟩ : ∃ A : Nat, AT = (A : Int) := ⟨AT.toNat, by omega⟩
        obtain ⟨b, u, hab, hblk, hb, ho, hcell, hfr, -, -⟩ := atI_own OI.out (i := A) (by rw [HLEN.out]; omega)
        have d1 : decide (XI ≥ 0) = true := by simpa using tc.1.1
        have d2 : decide (XI < W) = true := by simpa using tc.1.2
        have d4 : decide ((A : Int) < (p.n : Int)) = true := by simpa using tc.2.2
        have d5 : decide (A < p.n) = true := by have := tc.2.2; simp; omega
        have hA : A < p.n := by have := tc.2.2; omega
        have NX := Lib.hid (show OwnR B (wr.setCell ⟨b, A, none⟩ (.int .i64 v)) 3 1 p (ints (prow W y x 0 (row.take (i + 1)) pl)) from by
          rw [RI.out, PO.out, if_pos tc, Int.toNat_natCast, ← ints_set]
          exact OI.out.setI (by have h2 : (ints (prow W y x 0 (row.take i) pl)).length = (prow W y x 0 (row.take i) pl).length := by simp [ints]
                                rw [h2, HLEN.out]; exact hA) rfl (by rw [hb, ho, Nat.zero_add]))
        have NK := Lib.hid (K.out.trans (keeps_weak (Y := fun q => q ∈ p.blk) (keeps_at wr b A (.int .i64 v)) (fun q _ e => by have e' : q = b := e; rw [e', hblk]; simp)) (fun _ _ e => e))
        clear PO RI tc hblk hb ho tk2
        go_wp2_with fail
        go_roundw
        case rel => exact ⟨i + 1, Nat.succ_le_of_lt HLT.out.1, by (show Value.int .i64 (wrap64 ((i : Int) + 1)) = Value.int .i64 ((i + 1 : Nat) : Int)); rw [HLT.out.2]; rfl, NX.out, NK.out⟩
        case measure => exact meas_lt HLT.out.1 HLT.out.2
      · have NX := Lib.hid (show OwnR B wr 3 1 p (ints (prow W y x 0 (row.take (i + 1)) pl)) from by
          rw [RI.out, PO.out, if_neg tc]
          exact OI.out)
        clear PO RI
        by_cases t1 : 0 ≤ XI
        · have d1 : decide (XI ≥ 0) = true := by simpa using t1
          by_cases t2 : XI < W
          · have d2 : decide (XI < W) = true := by simpa using t2
            by_cases t3 : 0 ≤ AT
            · have d3 : decide (AT ≥ 0) = true := by simpa using t3
              have t4 : ¬ AT < (p.n : Int) := fun h => tc ⟨⟨t1, t2⟩, ⟨t3, h⟩⟩
              have d4 : decide (AT < (p.n : Int)) = false := by simpa using t4
              clear t1 t2 t3 t4 tc tk2
              go_wp2_with fail
              go_roundw
              case rel => exact ⟨i + 1, Nat.succ_le_of_lt HLT.out.1, by (show Value.int .i64 (wrap64 ((i : Int) + 1)) = Value.int .i64 ((i + 1 : Nat) : Int)); rw [HLT.out.2]; rfl, NX.out, K.out⟩
              case measure => exact meas_lt HLT.out.1 HLT.out.2
            · have d3 : decide (AT ≥ 0) = false := by simpa using t3
              clear t1 t2 t3 tc tk2
              go_wp2_with fail
              go_roundw
              case rel => exact ⟨i + 1, Nat.succ_le_of_lt HLT.out.1, by (show Value.int .i64 (wrap64 ((i : Int) + 1)) = Value.int .i64 ((i + 1 : Nat) : Int)); rw [HLT.out.2]; rfl, NX.out, K.out⟩
              case measure => exact meas_lt HLT.out.1 HLT.out.2
          · have d2 : decide (XI < W) = false := by simpa using t2
            clear t1 t2 tc tk2
            go_wp2_with fail
            go_roundw
            case rel => exact ⟨i + 1, Nat.succ_le_of_lt HLT.out.1, by (show Value.int .i64 (wrap64 ((i : Int) + 1)) = Value.int .i64 ((i + 1 : Nat) : Int)); rw [HLT.out.2]; rfl, NX.out, K.out⟩
            case measure => exact meas_lt HLT.out.1 HLT.out.2
        · have d1 : decide (XI ≥ 0) = false := by simpa using t1
          clear t1 tc tk2
          go_wp2_with fail
          go_roundw
          case rel => exact ⟨i + 1, Nat.succ_le_of_lt HLT.out.1, by (show Value.int .i64 (wrap64 ((i : Int) + 1)) = Value.int .i64 ((i + 1 : Nat) : Int)); rw [HLT.out.2]; rfl, NX.out, K.out⟩
          case measure => exact meas_lt HLT.out.1 HLT.out.2
    · obtain rfl : i = rn := by omega
      have tk : decide ((i : Int) < (i : Int)) = false := by simp
      have FIN := Lib.hid (show row.take i = row from List.take_of_length_le (by have := HL.out.1; omega))
      rw [FIN.out] at OI
      clear hlt hi
      go_wp2_with fail
      exact bodyPost_end (results_none rfl _ _ _) rfl ⟨rfl, OI.out, K.out⟩
end Go.Proofs.YtfcpbpfemmdklaaGreat.Tr

/- Painting. -/
namespace Go.Proofs.YtfcpbpfemmdklaaGreat.Tr
open Go.RowKit Go.Lib
set_option linter.unusedSimpArgs false
set_option linter.unusedVariables false

/-- So many rows painted. -/
def paintN (W y x : Int) (wn : Nat) (pix : List Int) : Nat → List Int → List Int
  | 0, p => p
  | r + 1, p => prow W (y + (r : Int)) x 0 ((pix.drop (r * wn)).take wn) (paintN W y x wn pix r p)
theorem paintN_len (W y x : Int) (wn : Nat) (pix : List Int) : ∀ (r : Nat) (p : List Int), (paintN W y x wn pix r p).length = p.length
  | 0, p => rfl
  | r + 1, p => by rw [paintN, prow_len, paintN_len W y x wn pix r]
def setP (d : Dat) (p : List Int) : Dat := { d with p := p }
def formP (w h : Int) (pix : List Int) : Bool := sideP w && (sideP h && (decide ((pix.length : Int) = w * h) && pix.all pixB))
/-- What painting leaves. -/
def paintP (ls : List Lay) (id x y w h : Int) (pix : List Int) : Except Int (List Lay) :=
  if id = 0 then .error 41 else
  match fnd id ls with
  | none => .error 40
  | some r =>
    if r.d.kind = 0 then
      if formP w h pix = false then .error 25 else
      if (shiftP x && shiftP y) = false then .error 31 else
      .ok (plugP r.C (r.pre ++ .mk (setP r.d (paintN r.d.w y x w.toNat pix h.toNat r.d.p)) r.kids :: r.post))
    else .error 41
theorem kind_doc (id kind : Int) (R : Nat) (h : Hd) (ls : List Loc) :
    (id = 0 ∧ kindV id kind (sps 0 R 3 0 h.b h.o 0 ls) = (none, 41)) ∨
    (id ≠ 0 ∧ fnd id (er ls) = none ∧ kindV id kind (sps 0 R 3 0 h.b h.o 0 ls) = (none, 40)) ∨
    ∃ C pre l post h', id ≠ 0 ∧ fnd id (er ls) = some ⟨C.map Frm.er, er pre, l.dat, er l.kids, er post⟩ ∧ plugH C h' = h ∧ plugL C h' (pre ++ l :: post) = ls ∧
      kindV id kind (sps 0 R 3 0 h.b h.o 0 ls) = if l.dat.kind = kind then (some ⟨h'.b, h'.o + pre.length * 19, none⟩, 0) else (none, 41) := by
  unfold kindV
  by_cases h0 : id = 0
  · exact .inl ⟨h0, by rw [if_pos h0]⟩
  · rw [if_neg h0]
    rcases find_doc id R h ls with ⟨a, b⟩ | ⟨C, pre, l, post, h', a1, a2, a3, a4⟩
    · exact .inr (.inl ⟨h0, b, by rw [a]⟩)
    · refine .inr (.inr ⟨C, pre, l, post, h', h0, a2, a3, a4, ?_⟩)
      rw [a1]
      rfl
/-- A part of a row that may be read. -/
theorem sliceI {w : World} {pb po pn pc : Nat} {l : List Int} (D : ReadR w 3 1 ⟨some ⟨pb, po, none⟩, pn, pc⟩ (ints l)) {lo m : Nat} (h : lo + m ≤ pn) : ReadR w 3 1 ⟨some ⟨pb, po + lo, none⟩, m, pc - lo⟩ (ints ((l.drop lo).take m)) := by
  have hl : l.length = pn := by
    have h1 := D.1.len
    have h2 : (ints l).length = l.length := by simp [ints]
    have h3 : (ints l).length = pn * 1 := h1
    omega
  have hc : pn ≤ pc := D.1.cap
  have hn : pn ≤ 536870912 := D.2
  refine ⟨⟨?_, by show m ≤ pc - lo; omega, fun e => (by cases e), ints_one _, fun x hx => ?_⟩, by show m ≤ _; omega⟩
  · show (ints ((l.drop lo).take m)).length = m * 1
    simp only [ints, List.length_map, List.length_take, List.length_drop]
    omega
  · cases hx
    obtain ⟨h1, h2, h3⟩ := D.1.at' _ rfl
    refine ⟨rfl, h2, fun j u hj => ?_⟩
    have h4 : (ints l)[lo + j]? = some u := by
      unfold ints at hj ⊢
      rw [List.map_take, List.map_drop] at hj
      have hjm : j < m := by have := (List.getElem?_eq_some_iff.1 hj).1; rw [List.length_take] at this; omega
      rw [List.getElem?_take_of_lt hjm, List.getElem?_drop] at hj
      exact hj
    have := h3 (lo + j) u h4
    rw [← Nat.add_assoc] at this
    exact this
theorem cells_setP (d : Dat) (P : List Int) (p m q k : Hd) : cells19 (setP d P) p m q k = cells19 d p m q k := rfl
theorem flat_setP (pre : List Loc) (d : Dat) (P : List Int) (p m q k : Hd) (kids post : List Loc) : flat (pre ++ .mk (setP d P) p m q k kids :: post) = flat (pre ++ .mk d p m q k kids :: post) := by
  rw [flat_append, flat_append, flat, flat]
  rfl
theorem blks_setP (pre : List Loc) (d : Dat) (P : List Int) (p m q k : Hd) (kids post : List Loc) : blks (pre ++ .mk (setP d P) p m q k kids :: post) = blks (pre ++ .mk d p m q k kids :: post) := by
  rw [blks_append, blks_append, blks_cons, blks_cons]
/-- A layer's pixels turned. -/
theorem paint_whole {B : Nat} {w w' : World} {R : Nat} {x y z : Int} {C : List Frm} {h : Hd} {pre post : List Loc} {d : Dat} {p m q k : Hd} {kids : List Loc} {P : List Int} (W : Whole B w R x y z (plugH C h) (plugL C h (pre ++ .mk d p m q k kids :: post)))
    (o : OwnR B w' 3 1 p (ints P)) (kk : Keeps (fun b => b ∈ p.blk) w w') : Whole B w' R x y z (plugH C h) (plugL C h (pre ++ .mk (setP d P) p m q k kids :: post)) := by
  obtain ⟨rowh, ownl, c0⟩ := W.ctx
  have nd := W.nd
  have out := W.out'
  rw [blks_append, blks_cons] at nd out
  rw [own_append, own_cons] at ownl
  obtain ⟨o1, o2, o3, o4, o5, o6, o7⟩ := ownl
  have ndc : ∀ b ∈ p.blk, (b ∉ h.blk ∧ b ∉ blks pre) ∧ (b ∉ m.blk ∧ b ∉ q.blk ∧ b ∉ k.blk ∧ b ∉ blks kids ∧ b ∉ blks post) ∧ b ∉ outs C := by
    intro b hb
    rw [List.nodup_iff_count] at nd
    have h1 := nd b
    simp only [List.count_append] at h1
    have hp : 1 ≤ List.count b p.blk := List.count_pos_iff.2 hb
    refine ⟨⟨fun e => ?_, fun e => ?_⟩, ⟨fun e => ?_, fun e => ?_, fun e => ?_, fun e => ?_, fun e => ?_⟩, fun e => ?_⟩ <;> (have := List.count_pos_iff.2 e; omega)
  refine Whole.swap0 _ W kk ?_ ?_ ?_ ?_ ?_
  · rintro b (rfl | hb) e
    · exact out (by simp [e])
    · exact (ndc b e).2.2 hb
  · rw [flat_setP]
    exact rowh.keepB kk (fun b hb e => (ndc b e).1.1 hb)
  · rw [own_append, own_cons]
    exact ⟨o1.keep kk (fun b hb e => (ndc b e).1.2 hb), o, o3.keepB kk (fun b hb e => (ndc b e).2.1.1 hb), o4.keepB kk (fun b hb e => (ndc b e).2.1.2.1 hb), o5.keepB kk (fun b hb e => (ndc b e).2.1.2.2.1 hb), o6.keep kk (fun b hb e => (ndc b e).2.1.2.2.2.1 hb), o7.keep kk (fun b hb e => (ndc b e).2.1.2.2.2.2 hb)⟩
  · rw [blks_setP]
    exact (List.nodup_append.1 W.nd).1
  · intro b hb
    rw [blks_setP] at hb
    exact ⟨fun e => W.out' (by rw [← e]; exact List.mem_append.2 (.inl hb)), fun e => (List.nodup_append.1 W.nd).2.2 b hb b e rfl⟩
end Go.Proofs.YtfcpbpfemmdklaaGreat.Tr

/- Painting. -/
namespace Go.Proofs.YtfcpbpfemmdklaaGreat.Tr
open Go.RowKit Go.Lib
set_option linter.unusedSimpArgs false
set_option linter.unusedVariables false

/-- No layer of pixels is found. -/
def PaintNo (B R : Nat) (x y z : Int) (h : Hd) (ls : List Loc) (e : PEd) : Prop :=
  ∃ f, f ≠ 0 ∧ kindV e.id 0 (sps 0 R 3 0 h.b h.o 0 ls) = (none, f) ∧ paintP (er ls) e.id e.x e.y e.w e.h e.p = .error f
theorem ints_len {w : World} {p : Hd} {l : List Int} (D : ReadR w 3 1 p (ints l)) : l.length = p.n := by
  have h1 := D.1.len
  have h2 : (ints l).length = l.length := by simp [ints]
  have h3 : (ints l).length = p.n * 1 := h1
  omega
set_option maxRecDepth 100000 in
set_option maxHeartbeats 3200000 in
theorem paint_no (B R : Nat) (x y z : Int) (h : Hd) (ls : List Loc) (e : PEd) (p s q : Hd) (w : World) (W : Whole B w R x y z h ls) {z0 : Int} (G : Good z0 (er ls)) (N : PaintNo B R x y z h ls e) :
    Calls Tryz.prog 49 #[.pointer (some ⟨R, 0, none⟩), edV e p s q] w fun en w' => Edited B w R x y z (paintP (er ls) e.id e.x e.y e.w e.h e.p) en w' := by
  obtain ⟨f, f0, kv, pe⟩ := N
  have A := Lib.hid pe
  have HC : cnt ls ≤ 4096 := by rw [cnt_eq]; exact G.cnt
  have E0 := Lib.hid (Eb.new w e p s q)
  have K0 := Lib.hid ((Keeps.refl none' w).alloc (.cells (edCells e p s q).toArray 38))
  have KD := kind53 R x y z h ls e.id 0 (w.alloc (.cells (edCells e p s q).toArray 38)) (W.later K0.out).doc ((W.later K0.out).docV) (by omega)
  rw [kv] at KD
  have KN := Lib.hid KD
  have f1 : (f != 0) = true := by simpa using f0
  clear W G kv pe f0 KD HC
  unfold edV
  obtain ⟨EV, hEV⟩ : ∃ EV, EV = (edCells e p s q).toArray := ⟨_, rfl⟩
  rw [← hEV]
  rw [← hEV] at E0 K0 KN
  clear hEV
  go_enter Tryz.func49, Tryz.ntmps49
  go_upto_region 1 with (fail)
  generalize w.alloc (.cells EV 38) = w1 at *
  obtain ⟨E, hE⟩ : ∃ E, E = w.heap.size := ⟨_, rfl⟩
  rw [← hE] at E0
  rw [← hE]
  clear hE
  have e1 := E0.out.c1
  go_wp2_with ((with_reducible refine KN.out.mono ?_); rintro en w2 ⟨rfl, hk⟩; have K2 := Lib.hid (K0.out.next hk); clear hk)
  go_ret
  exact Edited.err A.out K2.out
theorem form_cases (w h : Int) (l : List Int) (n : Nat) (hn : l.length = n) (X : Int) (hX : sideP w = true → sideP h = true → X = w * h) (b : Bool) (hb : l.all pixB = b) :
    (sideP w = false ∧ formP w h l = false) ∨ (sideP w = true ∧ sideP h = false ∧ formP w h l = false) ∨ (sideP w = true ∧ sideP h = true ∧ ((n : Int) != X) = true ∧ formP w h l = false) ∨
    (sideP w = true ∧ sideP h = true ∧ ((n : Int) != X) = false ∧ formP w h l = b) := by
  unfold formP
  cases h1 : sideP w with
  | false => exact .inl ⟨rfl, rfl⟩
  | true =>
    cases h2 : sideP h with
    | false => exact .inr (.inl ⟨rfl, rfl, rfl⟩)
    | true =>
      have e := hX h1 h2
      subst e
      by_cases h3 : (n : Int) = w * h
      · exact .inr (.inr (.inr ⟨rfl, rfl, by simp [h3], by simp [hn, h3, hb]⟩))
      · exact .inr (.inr (.inl ⟨rfl, rfl, by simp [h3], by simp [hn, h3]⟩))
theorem side_mul {w h : Int} (h1 : sideP w = true) (h2 : sideP h = true) : wrap64 (w * h) = w * h := by
  unfold sideP at h1 h2
  simp at h1 h2
  have a := Int.mul_le_mul h1.2 h2.2 (by omega) (by omega : (0:Int) ≤ 32768)
  have b : 0 ≤ w * h := Int.mul_nonneg (by omega) (by omega)
  exact wrap64_id _ (by omega) (by omega)
theorem at_layer {B : Nat} {w : World} {R : Nat} {x y z : Int} {C : List Frm} {h : Hd} {pre post : List Loc} {d : Dat} {lp lm lq lk : Hd} {kids : List Loc} (W : Whole B w R x y z (plugH C h) (plugL C h (pre ++ .mk d lp lm lq lk kids :: post))) :
    w.cell? ⟨h.b, h.o + pre.length * 19 + 5, none⟩ = some (.int .i64 d.w) ∧ w.cell? ⟨h.b, h.o + pre.length * 19 + 7, none⟩ = some (.slice lp.a lp.n lp.c) ∧ OwnR B w 3 1 lp (ints d.p) ∧ h.b ∉ lp.blk := by
  obtain ⟨rowh, ownl, -⟩ := W.ctx
  obtain ⟨g, n, c, rfl⟩ := row_some rowh
  have nd := W.nd
  rw [blks_append, blks_cons] at nd
  have hfl := flat_at _ _ _ (mid_at pre (.mk d lp lm lq lk kids) post)
  have hc : ∀ j u, (flat (pre ++ .mk d lp lm lq lk kids :: post))[j]? = some u → w.cell? ⟨g, 0 + j, none⟩ = some u := (rowh.read.1.1.at' _ rfl).2.2
  rw [own_append, own_cons] at ownl
  refine ⟨?_, ?_, ownl.2.1, fun e => ?_⟩
  · have := hc _ _ (hfl 5 _ rfl)
    rw [← Nat.add_assoc] at this
    exact this
  · have := hc _ _ (hfl 7 _ rfl)
    rw [← Nat.add_assoc] at this
    exact this
  · have h1 : g ∈ lp.blk := e
    have h3 := List.nodup_iff_count.1 nd g
    simp only [List.count_append] at h3
    have hp : 1 ≤ List.count g lp.blk := List.count_pos_iff.2 h1
    have hq : 1 ≤ List.count g (⟨some ⟨g, 0, none⟩, n, c⟩ : Hd).blk := List.count_pos_iff.2 (List.mem_singleton.2 rfl)
    omega
/-- How the rows of an edit's pixels lie. -/
structure RowsOk (e : PEd) (p : Hd) (H M pb po : Nat) : Prop where
  hh : e.h = (H : Int)
  hw : e.w = (M : Int)
  h1 : 1 ≤ H ∧ H ≤ 32768
  m1 : 1 ≤ M ∧ M ≤ 32768
  pn : p.n = H * M
  pc : p.n ≤ p.c
  pa : p.a = some ⟨pb, po, none⟩
theorem rows_ok {w : World} {e : PEd} {p : Hd} (D : ReadR w 3 1 p (ints e.p)) (h : formP e.w e.h e.p = true) : ∃ H M pb po, RowsOk e p H M pb po := by
  unfold formP sideP at h
  simp at h
  obtain ⟨⟨a1, a2⟩, ⟨b1, b2⟩, c, -⟩ := h
  have hn := ints_len D
  have hm : e.w * e.h = ((e.h.toNat * e.w.toNat : Nat) : Int) := by
    rw [Int.natCast_mul, Int.toNat_of_nonneg (by omega), Int.toNat_of_nonneg (by omega), Int.mul_comm]
  have hp : 0 < e.h.toNat * e.w.toNat := Nat.mul_pos (by omega) (by omega)
  have pn : p.n = e.h.toNat * e.w.toNat := by omega
  cases ha : p.a with
  | none => have := (D.1.abs ha).1; omega
  | some u =>
    obtain ⟨q1, -, -⟩ := D.1.at' u ha
    obtain ⟨ub, uo, us⟩ := u
    cases q1
    exact ⟨e.h.toNat, e.w.toNat, ub, uo, by omega, by omega, by omega, by omega, pn, D.1.cap, ha⟩
theorem RowsOk.eta {e : PEd} {p : Hd} {H M pb po : Nat} (r : RowsOk e p H M pb po) : p = ⟨some ⟨pb, po, none⟩, p.n, p.c⟩ := by
  have h := r.pa
  cases p
  cases h
  rfl
theorem shift_in {v : Int} (h : shiftP v = true) : -32768 ≤ v ∧ v ≤ 32768 := by
  unfold shiftP at h
  simpa using h
theorem mul_le_n {i H M : Nat} (h : i < H) : i * M + M ≤ H * M := by
  rw [← Nat.succ_mul]
  exact Nat.mul_le_mul_right M h
structure RowFacts (e : PEd) (p : Hd) (i LOW M : Nat) : Prop where
  yw : wrap64 (e.y + (i : Int)) = e.y + (i : Int)
  iw : wrap64 ((i : Int) + 1) = (i : Int) + 1
  lw : wrap64 ((i : Int) * (M : Int)) = (LOW : Int)
  hw : wrap64 (((i : Int) + 1) * (M : Int)) = ((LOW + M : Nat) : Int)
  s1 : LOW + M ≤ p.c
  s2 : LOW + M ≤ p.n
  x : -100000 ≤ e.x ∧ e.x ≤ 100000
  y : -100000 ≤ e.y + (i : Int) ∧ e.y + (i : Int) ≤ 100000
  m : M ≤ 1000000
theorem RowsOk.facts {e : PEd} {p : Hd} {H M pb po i : Nat} (r : RowsOk e p H M pb po) (h : i < H) (pr : p.n ≤ 536870912) (hs : (shiftP e.x && shiftP e.y) = true) : RowFacts e p i (i * M) M := by
  have mn := mul_le_n (M := M) h
  rw [Bool.and_eq_true] at hs
  have sx := shift_in hs.1
  have sy := shift_in hs.2
  have h1 := r.h1
  have m1 := r.m1
  have pn := r.pn
  have pc := r.pc
  have e1 : (i : Int) * (M : Int) = ((i * M : Nat) : Int) := (Int.natCast_mul i M).symm
  have e2 : ((i : Int) + 1) * (M : Int) = ((i * M + M : Nat) : Int) := by rw [Int.add_mul, Int.one_mul, Int.natCast_add, e1]
  obtain ⟨L, hL⟩ : ∃ L, L = i * M := ⟨_, rfl⟩
  obtain ⟨T, hT⟩ : ∃ T, T = H * M := ⟨_, rfl⟩
  rw [← hL] at e1 e2 mn ⊢
  rw [← hT] at mn pn
  clear hL hT r hs
  refine ⟨wrap64_id _ (by omega) (by omega), wrap64_id _ (by omega) (by omega), ?_, ?_, by omega, by omega, by omega, by omega, by omega⟩
  · rw [e1]; clear e1 e2; exact wrap64_id _ (by omega) (by omega)
  · rw [e2]; clear e1 e2; exact wrap64_id _ (by omega) (by omega)
theorem row_call {B LB LO pb po M i LOW : Nat} {W : Int} {lp p : Hd} {pl : List Int} {e : PEd} {w w' : World} (RF : RowFacts e p i LOW M) (RP : ReadR w 3 1 ⟨some ⟨pb, po, none⟩, p.n, p.c⟩ (ints e.p)) (kw : Keeps (fun q => q ∈ lp.blk) w w') (OI : OwnR B w' 3 1 lp (ints pl))
    (c5 : w'.cell? ⟨LB, LO + 5, none⟩ = some (.int .i64 W)) (c7 : w'.cell? ⟨LB, LO + 7, none⟩ = some (.slice lp.a lp.n lp.c)) (hpb : pb ∉ lp.blk) (hlb : LB ∉ lp.blk) (hW : 0 ≤ W ∧ W ≤ 32768) :
    Calls Tryz.prog 83 #[.pointer (some ⟨LB, LO, none⟩), .int .i64 e.x, .int .i64 (e.y + (i : Int)), .slice (some ⟨pb, po + LOW, none⟩) M (p.c - LOW)] w' fun en w3 => en = .returned (.tuple #[]) ∧ OwnR B w3 3 1 lp (ints (prow W (e.y + (i : Int)) e.x 0 ((e.p.drop LOW).take M) pl)) ∧ Keeps (fun q => q ∈ lp.blk) w' w3 :=
  prow56 B LB LO W lp pl e.x (e.y + (i : Int)) pb (po + LOW) M (p.c - LOW) _ w' c5 c7 OI (sliceI (RP.keep kw (fun u hu he => by cases hu; exact hpb he)) RF.s2) hpb hlb hW RF.x RF.y RF.m
set_option maxRecDepth 100000 in
set_option maxHeartbeats 3200000 in
theorem paint_yes (B R : Nat) (x y z : Int) (e : PEd) (p s q : Hd) (w : World) (C : List Frm) (h' : Hd) (pre post : List Loc) (d : Dat) (lp lm lq lk : Hd) (kids : List Loc)
    (W : Whole B w R x y z (plugH C h') (plugL C h' (pre ++ .mk d lp lm lq lk kids :: post))) (hB : B ≤ w.heap.size) {z0 : Int} (G : Good z0 (er (plugL C h' (pre ++ .mk d lp lm lq lk kids :: post))))
    (PR : ReadR w 3 1 p (ints e.p)) (PB : ∀ u, p.a = some u → u.block < B) (hw : 0 ≤ d.w ∧ d.w ≤ 32768)
    (kv : kindV e.id 0 (sps 0 R 3 0 (plugH C h').b (plugH C h').o 0 (plugL C h' (pre ++ .mk d lp lm lq lk kids :: post))) = (some ⟨h'.b, h'.o + pre.length * 19, none⟩, 0))
    (pe : paintP (er (plugL C h' (pre ++ .mk d lp lm lq lk kids :: post))) e.id e.x e.y e.w e.h e.p = if formP e.w e.h e.p = false then .error 25 else
      if (shiftP e.x && shiftP e.y) = false then .error 31 else
      .ok (plugP (C.map Frm.er) (er pre ++ .mk (setP d (paintN d.w e.y e.x e.w.toNat e.p e.h.toNat d.p)) (er kids) :: er post))) :
    Calls Tryz.prog 49 #[.pointer (some ⟨R, 0, none⟩), edV e p s q] w fun en w' => Edited B w R x y z (paintP (er (plugL C h' (pre ++ .mk d lp lm lq lk kids :: post))) e.id e.x e.y e.w e.h e.p) en w' := by
  have A := Lib.hid pe
  have HC : cnt (plugL C h' (pre ++ .mk d lp lm lq lk kids :: post)) ≤ 4096 := by rw [cnt_eq]; exact G.cnt
  have HW := Lib.hid W
  have HP := Lib.hid (And.intro PR PB)
  have E0 := Lib.hid (Eb.new w e p s q)
  have K0 := Lib.hid ((Keeps.refl none' w).alloc (.cells (edCells e p s q).toArray 38))
  have KD := kind53 R x y z (plugH C h') _ e.id 0 (w.alloc (.cells (edCells e p s q).toArray 38)) (W.later K0.out).doc ((W.later K0.out).docV) (by omega)
  rw [kv] at KD
  have KN := Lib.hid KD
  have HH := Lib.hid (And.intro hw hB)
  clear W G kv pe KD HC PR PB hw hB
  unfold edV
  obtain ⟨EV, hEV⟩ : ∃ EV, EV = (edCells e p s q).toArray := ⟨_, rfl⟩
  rw [← hEV]
  rw [← hEV] at E0 K0 KN
  clear hEV
  obtain ⟨RES, hRES⟩ : ∃ RES, RES = paintP (er (plugL C h' (pre ++ .mk d lp lm lq lk kids :: post))) e.id e.x e.y e.w e.h e.p := ⟨_, rfl⟩
  rw [← hRES]
  rw [← hRES] at A
  clear hRES
  obtain ⟨LO, hLO⟩ : ∃ LO, LO = h'.o + pre.length * 19 := ⟨_, rfl⟩
  rw [← hLO] at KN
  have HLO := Lib.hid hLO
  clear hLO
  obtain ⟨LB, hLB⟩ : ∃ LB, LB = h'.b := ⟨_, rfl⟩
  rw [← hLB] at KN
  have HLB := Lib.hid hLB
  clear hLB
  go_enter Tryz.func49, Tryz.ntmps49
  go_upto_region 1 with (fail)
  generalize w.alloc (.cells EV 38) = w1 at *
  obtain ⟨E, hE⟩ : ∃ E, E = w.heap.size := ⟨_, rfl⟩
  rw [← hE] at E0
  rw [← hE]
  have HE := Lib.hid hE
  clear hE
  have e1 := E0.out.c1
  go_upto_region 4 with ((with_reducible refine KN.out.mono ?_); rintro en w2 ⟨rfl, hk⟩; have K2 := Lib.hid (K0.out.next hk); have E2 := Lib.hid (E0.out.later hk); clear hk)
  clear e1 KN E0 K0
  have e8 := E2.out.c8
  have e9 := E2.out.c9
  have e10 := E2.out.c10
  go_cut [44] from 18 (fun s44 w' => Keeps none' w2 w' ∧ s44 = .bool (!(formP e.w e.h e.p)))
  case first =>
    have S1 := Lib.hid (fun w' => side29 e.w w')
    have S2 := Lib.hid (fun w' => side29 e.h w')
    have S3 := Lib.hid (pixels54 p e.p w2 (HP.out.1.keep K2.out (fun _ _ h => h)))
    rcases form_cases e.w e.h e.p p.n (ints_len HP.out.1) (wrap64 (e.w * e.h)) (fun a b => side_mul a b) _ rfl with ⟨c1, c⟩ | ⟨c1, c2, c⟩ | ⟨c1, c2, c3, c⟩ | ⟨c1, c2, c3, c⟩ <;> have FM := Lib.hid c <;> clear c
    · rw [c1] at S1
      clear c1
      go_wp2_with ((with_reducible refine (S1.out _).mono ?_); rintro en w3 ⟨rfl, hw⟩; subst hw)
      go_meet
      case rel => exact ⟨Keeps.refl _ _, by rw [FM.out]; rfl⟩
    · rw [c1] at S1
      rw [c2] at S2
      clear c1 c2
      go_wp2_with ((first | (with_reducible refine (S1.out _).mono ?_) | (with_reducible refine (S2.out _).mono ?_)); rintro en w3 ⟨rfl, hw⟩; subst hw)
      go_meet
      case rel => exact ⟨Keeps.refl _ _, by rw [FM.out]; rfl⟩
    · rw [c1] at S1
      rw [c2] at S2
      clear c1 c2
      go_wp2_with ((first | (with_reducible refine (S1.out _).mono ?_) | (with_reducible refine (S2.out _).mono ?_)); rintro en w3 ⟨rfl, hw⟩; subst hw)
      go_meet
      case rel => exact ⟨Keeps.refl _ _, by rw [FM.out]; rfl⟩
    · rw [c1] at S1
      rw [c2] at S2
      clear c1 c2
      go_wp2_with (first | ((with_reducible refine (S1.out _).mono ?_); rintro en w3 ⟨rfl, hw⟩; subst hw) | ((with_reducible refine (S2.out _).mono ?_); rintro en w3 ⟨rfl, hw⟩; subst hw) | ((with_reducible refine S3.out.mono ?_); rintro en w3 ⟨rfl, hk3⟩))
      go_meet
      case rel => exact ⟨hk3, by rw [FM.out]⟩
  case rest =>
  obtain ⟨kc, rfl⟩ := hcut
  have K3 := Lib.hid (K2.out.next kc)
  have E3 := Lib.hid (E2.out.later kc)
  clear kc e8 e9 e10 K2 E2
  cases hf : formP e.w e.h e.p with
  | false =>
    have A1 := Lib.hid (show RES = .error 25 from by rw [A.out, if_pos hf])
    clear hf
    go_wp2_with fail
    go_ret
    exact Edited.err A1.out K3.out
  | true =>
    have A1 := Lib.hid (show RES = if (shiftP e.x && shiftP e.y) = false then .error 31 else
      .ok (plugP (C.map Frm.er) (er pre ++ .mk (setP d (paintN d.w e.y e.x e.w.toNat e.p e.h.toNat d.p)) (er kids) :: er post)) from by rw [A.out, if_neg (by rw [hf]; exact fun h => by cases h)])
    have HF := Lib.hid hf
    clear hf A
    simp only [Bool.not_true]
    go_upto_region 6 with (fail)
    have e6 := E3.out.c6
    have e7 := E3.out.c7
    go_cut [54] from 45 (fun s54 w' => Keeps none' wc w' ∧ s54 = .bool (!(shiftP e.x && shiftP e.y)))
    case first =>
      have S1 := Lib.hid (fun w' => shift55 e.x w')
      have S2 := Lib.hid (fun w' => shift55 e.y w')
      cases h1 : shiftP e.x with
      | false =>
        rw [h1] at S1
        have FM := Lib.hid h1
        clear h1
        go_wp2_with ((with_reducible refine (S1.out _).mono ?_); rintro en w3 ⟨rfl, hw⟩; subst hw)
        go_meet
        case rel => exact ⟨Keeps.refl _ _, by rw [FM.out]; rfl⟩
      | true =>
        rw [h1] at S1
        have FM := Lib.hid h1
        clear h1
        go_wp2_with ((first | (with_reducible refine (S1.out _).mono ?_) | (with_reducible refine (S2.out _).mono ?_)); rintro en w3 ⟨rfl, hw⟩; subst hw)
        go_meet
        case rel => exact ⟨Keeps.refl _ _, by rw [FM.out]; simp⟩
    case rest =>
    obtain ⟨kc2, rfl⟩ := hcut
    have K4 := Lib.hid (K3.out.next kc2)
    have E4 := Lib.hid (E3.out.later kc2)
    clear kc2 e6 e7 K3 E3
    cases hs : (shiftP e.x && shiftP e.y) with
    | false =>
      have A2 := Lib.hid (show RES = .error 31 from by rw [A1.out, if_pos hs])
      clear hs
      go_wp2_with fail
      go_ret
      exact Edited.err A2.out K4.out
    | true =>
      have A2 := Lib.hid (show RES = .ok (plugP (C.map Frm.er) (er pre ++ .mk (setP d (paintN d.w e.y e.x e.w.toNat e.p e.h.toNat d.p)) (er kids) :: er post)) from by rw [A1.out, if_neg (by rw [hs]; exact fun h => by cases h)])
      have HS := Lib.hid hs
      clear hs A1
      obtain ⟨H, M, pb, po, RO⟩ := rows_ok HP.out.1 HF.out
      have W4 := Lib.hid (HW.out.later K4.out)
      have L4 := Lib.hid (at_layer W4.out)
      have NE := Lib.hid (show E ∉ lp.blk from fun he => by
        have := ((at_layer HW.out).2.2.1.range E he).2
        have := HE.out
        omega)
      have NP := Lib.hid (show pb ∉ lp.blk from fun he => by
        have := ((at_layer HW.out).2.2.1.range pb he).1
        have h2 : pb < B := HP.out.2 _ RO.pa
        omega)
      have ROH := Lib.hid RO
      have e9 := E4.out.c9
      rw [RO.hh] at e9
      have c5 := L4.out.1
      have c7 := L4.out.2.1
      rw [← HLB.out, ← HLO.out] at c5 c7
      have C57 := Lib.hid (And.intro c5 c7)
      clear RO c5 c7
      simp only [Bool.not_true]
      go_wp2_with fail
      go_loopw [57] (fun s57 wr => ∃ i : Nat, i ≤ H ∧ s57 = .int .i64 i ∧ OwnR B wr 3 1 lp (ints (paintN d.w e.y e.x M e.p i d.p)) ∧ Keeps (fun q => q ∈ lp.blk) wc wr) (fun s57 _ => H - (intOf s57).toNat)
      case atStart => exact ⟨0, Nat.zero_le _, rfl, by rw [paintN]; exact L4.out.2.2.1, Keeps.refl _ _⟩
      case round =>
        obtain ⟨i, hi, rfl, ho, hk⟩ := hrel
        have OI := Lib.hid ho
        have K := Lib.hid hk
        clear ho hk e9
        by_cases hlt : i < H
        · have tk : decide ((i : Int) < (H : Int)) = true := by simp; omega
          have RF := Lib.hid (ROH.out.facts hlt HP.out.1.2 HS.out)
          have RP := HP.out.1.keep K4.out (fun _ _ h => h)
          rw [ROH.out.eta] at RP
          have c5 := K.out.cellS (by rw [HLB.out]; exact L4.out.2.2.2) C57.out.1
          have c7 := K.out.cellS (by rw [HLB.out]; exact L4.out.2.2.2) C57.out.2
          have PC := Lib.hid (fun (w' : World) (k : Keeps none' wr w') => row_call RF.out RP (K.out.trans k (fun _ _ h => h.elim)) (OI.out.later k) (k.cell c5) (k.cell c7) NP.out (by rw [HLB.out]; exact L4.out.2.2.2) HH.out.1)
          clear RP c5 c7
          have RFL := RF.out
          have yw := RFL.yw
          have iw := RFL.iw
          have lw := RFL.lw
          have hwv := RFL.hw
          have LL := Lib.hid (And.intro RFL.s1 RFL.s2)
          clear RFL RF
          have e6 := K.out.cellS NE.out E4.out.c6
          have e7 := K.out.cellS NE.out E4.out.c7
          have e8 := K.out.cellS NE.out E4.out.c8
          have e10 := K.out.cellS NE.out E4.out.c10
          rw [ROH.out.hw] at e8
          rw [ROH.out.pa] at e10
          have HLT := Lib.hid (And.intro hlt iw)
          obtain ⟨LOW, hLOW⟩ : ∃ LOW, LOW = i * M := ⟨_, rfl⟩
          have ELOW := Lib.hid hLOW
          rw [← hLOW] at PC lw hwv LL
          clear hLOW
          obtain ⟨HI, hHI⟩ : ∃ HI, HI = LOW + M := ⟨_, rfl⟩
          have n4 : ¬ p.c = LOW := by have := LL.out.1; have := ROH.out.m1; omega
          have s1 : HI ≤ p.c := by rw [hHI]; exact LL.out.1
          have s3 : LOW ≤ HI := by omega
          have s1i : (HI : Int) ≤ (p.c : Int) := by omega
          have s3i : (LOW : Int) ≤ (HI : Int) := by omega
          have sm : HI - LOW = M := by omega
          have smi : ((HI : Int) - (LOW : Int)).toNat = M := by omega
          rw [← hHI] at hwv
          clear hHI
          have lw2 : IntKind.i64.wrap ((i : Int) * (M : Int)) = (LOW : Int) := by rw [IntWalk.i64_left]; exact lw
          have hw2 : IntKind.i64.wrap (((i : Int) + 1) * (M : Int)) = (HI : Int) := by rw [IntWalk.i64_left]; exact hwv
          have yw2 : IntKind.i64.wrap (e.y + (i : Int)) = e.y + (i : Int) := by rw [IntWalk.i64_left]; exact yw
          have iw2 : IntKind.i64.wrap ((i : Int) + 1) = (i : Int) + 1 := by rw [IntWalk.i64_left]; exact iw
          go_upto_region 11 with (fail)
          go_still_tail 19, (by kernel_rfl)
          change wpList _ _ _ _ _ (World.drew _)
          have pd : Keeps none' wr wr.drew := (Keeps.refl none' wr).drew
          have PD := Lib.hid (PC.out _ pd)
          generalize wr.drew = wd at *
          go_wp2_with ((with_reducible refine PD.out.mono ?_); rintro en w3 ⟨rfl, ho3, hk3⟩)
          go_roundw
          case rel => exact ⟨i + 1, Nat.succ_le_of_lt HLT.out.1, rfl, by rw [paintN, ← ELOW.out]; exact ho3, (K.out.trans pd (fun _ _ h => h.elim)).trans hk3 (fun _ _ h => h)⟩
          case measure => exact meas_lt HLT.out.1 rfl
        · obtain rfl : i = H := by omega
          have tk : decide ((i : Int) < (i : Int)) = false := by simp
          clear hlt hi
          go_wp2_with fail
          go_ret
          refine Edited.good A2.out ?_ (paint_whole W4.out (P := paintN d.w e.y e.x M e.p i d.p) OI.out K.out) ?_
          · rw [er_plug, er_append, ROH.out.hh, ROH.out.hw, Int.toNat_natCast, Int.toNat_natCast, er]
          · exact (keeps_weak K4.out (fun q _ e => e.elim)).trans K.out (fun q _ hq => ((at_layer HW.out).2.2.1.range q hq).1)
/-- Painting. -/
theorem paint33 (B R : Nat) (x y z : Int) (h : Hd) (ls : List Loc) (e : PEd) (p s q : Hd) (w : World) (W : Whole B w R x y z h ls) {z0 : Int} (G : Good z0 (er ls)) (hB : B ≤ w.heap.size) (PR : ReadR w 3 1 p (ints e.p)) (PB : ∀ u, p.a = some u → u.block < B)
    (hw : ∀ r, fnd e.id (er ls) = some r → r.d.kind = 0 → 0 ≤ r.d.w ∧ r.d.w ≤ 32768) :
    Calls Tryz.prog 49 #[.pointer (some ⟨R, 0, none⟩), edV e p s q] w fun en w' => Edited B w R x y z (paintP (er ls) e.id e.x e.y e.w e.h e.p) en w' := by
  rcases kind_doc e.id 0 R h ls with ⟨h0, kv⟩ | ⟨h0, hf, kv⟩ | ⟨C, pre, l, post, h', h0, hf, e1, e2, kv⟩
  · exact paint_no B R x y z h ls e p s q w W G ⟨41, by decide, kv, by unfold paintP; rw [if_pos h0]⟩
  · exact paint_no B R x y z h ls e p s q w W G ⟨40, by decide, kv, by unfold paintP; rw [if_neg h0, hf]⟩
  · by_cases hk : l.dat.kind = 0
    · obtain ⟨d, lp, lm, lq, lk, kids⟩ := l
      subst e1 e2
      refine paint_yes B R x y z e p s q w C h' pre post d lp lm lq lk kids W hB G PR PB (hw _ hf hk) (by rw [kv, if_pos hk]) ?_
      unfold paintP
      rw [if_neg h0, hf]
      exact if_pos hk
    · refine paint_no B R x y z h ls e p s q w W G ⟨41, by decide, by rw [kv, if_neg hk], ?_⟩
      unfold paintP
      rw [if_neg h0, hf]
      exact if_neg hk
end Go.Proofs.YtfcpbpfemmdklaaGreat.Tr

/- A layer turned where it stands: its numbers, its mask, its params. -/
namespace Go.Proofs.YtfcpbpfemmdklaaGreat.Tr
open Go.RowKit Go.Lib
set_option linter.unusedSimpArgs false
set_option linter.unusedVariables false

theorem count_out {l : List Nat} {n b : Nat} (h : ∀ x ∈ l, x < n) (hb : n ≤ b) : l.count b = 0 := List.count_eq_zero.2 (fun hm => by have := h b hm; omega)
theorem count_in {l : List Nat} {n b : Nat} (h : ∀ x ∈ l, n ≤ x) (hb : b < n) : l.count b = 0 := List.count_eq_zero.2 (fun hm => by have := h b hm; omega)
/-- A list of a layer that is the old one, or lies in a block that is new. -/
def OldNew (w w' : World) (e : Nat) (m m' : Hd) (vs vs' : List Value) : Prop := (m' = m ∧ vs' = vs) ∨ OwnR w.heap.size w' e 1 m' vs'
theorem turn_whole {B : Nat} {w w' : World} {R : Nat} {x y z : Int} {C : List Frm} {h : Hd} {pre post : List Loc} {d d' : Dat} {p m q k m' q' : Hd} {kids : List Loc}
    (W : Whole B w R x y z (plugH C h) (plugL C h (pre ++ .mk d p m q k kids :: post)))
    (row : OwnR B w' 51 19 h (flat (pre ++ .mk d' p m' q' k kids :: post))) (kk : Keeps (fun b => b = h.b) w w') (hp : d'.p = d.p)
    (om : OldNew w w' 5 m m' (bytes d.mask) (bytes d'.mask)) (oq : OldNew w w' 3 q q' (ints d.pars) (ints d'.pars)) (one : m' = m ∨ q' = q) (hB : B ≤ w.heap.size) :
    Whole B w' R x y z (plugH C h) (plugL C h (pre ++ .mk d' p m' q' k kids :: post)) := by
  obtain ⟨rowh, ownl, c0⟩ := W.ctx
  have nd := W.nd
  have out := W.out'
  have hlt := W.lt
  have hRlt := lt_of_block W.doc
  have hb : h.blk = [h.b] := by
    obtain ⟨g, n, c, rfl⟩ := row_some rowh
    rfl
  have hbm : h.b ∈ h.blk := by rw [hb]; exact List.mem_singleton.2 rfl
  rw [own_append, own_cons] at ownl
  obtain ⟨o1, o2, o3, o4, o5, o6, o7⟩ := ownl
  rw [blks_append, blks_cons] at nd out hlt
  have ndc : ∀ b, List.count b h.blk + (List.count b (blks pre) + (List.count b p.blk + (List.count b m.blk + (List.count b q.blk + (List.count b k.blk + (List.count b (blks kids) + List.count b (blks post))))))) + List.count b (outs C) ≤ 1 := fun b => by
    have h1 := List.nodup_iff_count.1 nd b
    simp only [List.count_append] at h1
    exact h1
  have far : ∀ b, b ∈ blks pre ∨ b ∈ p.blk ∨ b ∈ m.blk ∨ b ∈ q.blk ∨ b ∈ k.blk ∨ b ∈ blks kids ∨ b ∈ blks post ∨ b ∈ outs C → ¬ b = h.b := by
    rintro b hm rfl
    have h1 := ndc h.b
    have h2 : 1 ≤ List.count h.b h.blk := List.count_pos_iff.2 hbm
    rcases hm with hm | hm | hm | hm | hm | hm | hm | hm <;> (have h3 := List.count_pos_iff.2 hm; omega)
  have om' : OwnR B w' 5 1 m' (bytes d'.mask) := by
    rcases om with ⟨rfl, e⟩ | o
    · rw [e]; exact o3.keepB kk (fun b hb => far b (.inr (.inr (.inl hb))))
    · exact o.low hB
  have oq' : OwnR B w' 3 1 q' (ints d'.pars) := by
    rcases oq with ⟨rfl, e⟩ | o
    · rw [e]; exact o4.keepB kk (fun b hb => far b (.inr (.inr (.inr (.inl hb)))))
    · exact o.low hB
  have lt0 : ∀ b, b ∈ h.blk ∨ b ∈ blks pre ∨ b ∈ p.blk ∨ b ∈ m.blk ∨ b ∈ q.blk ∨ b ∈ k.blk ∨ b ∈ blks kids ∨ b ∈ blks post ∨ b ∈ outs C → b < w.heap.size := by
    intro b hm
    refine (hlt b ?_).2
    simp only [List.mem_append]
    rcases hm with hm | hm | hm | hm | hm | hm | hm | hm | hm <;> simp [hm]
  have cm : ∀ b, (b < w.heap.size → List.count b m'.blk ≤ List.count b m.blk) ∧ (w.heap.size ≤ b → List.count b m'.blk ≤ 1 ∧ (m' = m → List.count b m'.blk = 0)) := by
    intro b
    have e0 : w.heap.size ≤ b → List.count b m.blk = 0 := fun hb => count_out (fun x hx => lt0 x (.inr (.inr (.inr (.inl hx))))) hb
    refine ⟨fun hb => ?_, fun hb => ⟨List.nodup_iff_count.1 (Hd.blk_nodup m') b, fun e => by rw [e]; exact e0 hb⟩⟩
    rcases om with ⟨e, -⟩ | o
    · rw [e]; exact Nat.le_refl _
    · rw [count_in (fun x hx => (o.range x hx).1) hb]; exact Nat.zero_le _
  have cq : ∀ b, (b < w.heap.size → List.count b q'.blk ≤ List.count b q.blk) ∧ (w.heap.size ≤ b → List.count b q'.blk ≤ 1 ∧ (q' = q → List.count b q'.blk = 0)) := by
    intro b
    have e0 : w.heap.size ≤ b → List.count b q.blk = 0 := fun hb => count_out (fun x hx => lt0 x (.inr (.inr (.inr (.inr (.inl hx)))))) hb
    refine ⟨fun hb => ?_, fun hb => ⟨List.nodup_iff_count.1 (Hd.blk_nodup q') b, fun e => by rw [e]; exact e0 hb⟩⟩
    rcases oq with ⟨e, -⟩ | o
    · rw [e]; exact Nat.le_refl _
    · rw [count_in (fun x hx => (o.range x hx).1) hb]; exact Nat.zero_le _
  have mm : ∀ b ∈ m'.blk, b ∈ m.blk ∨ w.heap.size ≤ b := by
    intro b hb
    rcases om with ⟨e, -⟩ | o
    · exact .inl (e ▸ hb)
    · exact .inr (o.range b hb).1
  have mq : ∀ b ∈ q'.blk, b ∈ q.blk ∨ w.heap.size ≤ b := by
    intro b hb
    rcases oq with ⟨e, -⟩ | o
    · exact .inl (e ▸ hb)
    · exact .inr (o.range b hb).1
  have outl : ∀ b, b ∈ outs C → b < w.heap.size := fun b hb => lt0 b (.inr (.inr (.inr (.inr (.inr (.inr (.inr (.inr hb))))))))
  refine Whole.swap0 _ W kk ?_ row ?_ ?_ ?_
  · rintro b (rfl | hb) e
    · exact out (by rw [e]; simp [hbm])
    · exact far b (.inr (.inr (.inr (.inr (.inr (.inr (.inr hb))))))) e
  · rw [own_append, own_cons]
    exact ⟨o1.keep kk (fun b hb => far b (.inl hb)), by rw [hp]; exact o2.keepB kk (fun b hb => far b (.inr (.inl hb))), om', oq', o5.keepB kk (fun b hb => far b (.inr (.inr (.inr (.inr (.inl hb)))))), o6.keep kk (fun b hb => far b (.inr (.inr (.inr (.inr (.inr (.inl hb))))))), o7.keep kk (fun b hb => far b (.inr (.inr (.inr (.inr (.inr (.inr (.inl hb)))))))) ⟩
  · rw [blks_append, blks_cons, List.nodup_iff_count]
    intro b
    simp only [List.count_append]
    have h1 := ndc b
    by_cases hb : b < w.heap.size
    · have h2 := (cm b).1 hb
      have h3 := (cq b).1 hb
      omega
    · have hb' : w.heap.size ≤ b := by omega
      have z1 : List.count b h.blk = 0 := count_out (fun x hx => lt0 x (.inl hx)) hb'
      have z2 : List.count b (blks pre) = 0 := count_out (fun x hx => lt0 x (.inr (.inl hx))) hb'
      have z3 : List.count b p.blk = 0 := count_out (fun x hx => lt0 x (.inr (.inr (.inl hx)))) hb'
      have z4 : List.count b k.blk = 0 := count_out (fun x hx => lt0 x (.inr (.inr (.inr (.inr (.inr (.inl hx))))))) hb'
      have z5 : List.count b (blks kids) = 0 := count_out (fun x hx => lt0 x (.inr (.inr (.inr (.inr (.inr (.inr (.inl hx)))))))) hb'
      have z6 : List.count b (blks post) = 0 := count_out (fun x hx => lt0 x (.inr (.inr (.inr (.inr (.inr (.inr (.inr (.inl hx))))))))) hb'
      obtain ⟨h2, h3⟩ := (cm b).2 hb'
      obtain ⟨h4, h5⟩ := (cq b).2 hb'
      rcases one with e | e
      · have := h3 e; omega
      · have := h5 e; omega
  · intro b hb
    rw [blks_append, blks_cons] at hb
    have hmem : (b ∈ (h.blk ++ (blks pre ++ (p.blk ++ (m.blk ++ (q.blk ++ (k.blk ++ (blks kids ++ blks post)))))))) ∨ w.heap.size ≤ b := by
      simp only [List.mem_append] at hb ⊢
      rcases hb with hb | hb | hb | hb | hb | hb | hb | hb
      · exact .inl (by simp [hb])
      · exact .inl (by simp [hb])
      · exact .inl (by simp [hb])
      · rcases mm b hb with hb | hb
        · exact .inl (by simp [hb])
        · exact .inr hb
      · rcases mq b hb with hb | hb
        · exact .inl (by simp [hb])
        · exact .inr hb
      · exact .inl (by simp [hb])
      · exact .inl (by simp [hb])
      · exact .inl (by simp [hb])
    rcases hmem with hm | hm
    · exact ⟨fun e => out (by rw [← e]; exact List.mem_append.2 (.inl hm)), fun e => (List.nodup_append.1 nd).2.2 b hm b e rfl⟩
    · exact ⟨by omega, fun e => by have := outl b e; omega⟩
/-- The cells of a row in which one layer has turned. -/
theorem flat_set (pre : List Loc) (d d' : Dat) (p m q k m' q' : Hd) (kids post : List Loc) (j : Nat) (u : Value) (hc : (cells19 d p m q k).set j u = cells19 d' p m' q' k) (hj : j < 19) :
    (flat (pre ++ .mk d p m q k kids :: post)).set (pre.length * 19 + j) u = flat (pre ++ .mk d' p m' q' k kids :: post) := by
  rw [flat_append, flat_append, flat, flat]
  rw [List.set_append_right _ _ (by rw [flat_length]; omega), flat_length, show pre.length * 19 + j - pre.length * 19 = j by omega]
  rw [List.set_append_left _ _ (by rw [Loc.cells_length]; exact hj)]
  show flat pre ++ ((cells19 d p m q k).set j u ++ flat post) = _
  rw [hc]
  rfl
theorem flat_len19 (pre post : List Loc) (d : Dat) (p m q k : Hd) (kids : List Loc) (j : Nat) (hj : j < 19) : pre.length * 19 + j < (flat (pre ++ .mk d p m q k kids :: post)).length := by
  rw [flat_length, List.length_append, List.length_cons]
  omega
theorem oldnew_set {w0 w : World} {e : Nat} {m m' : Hd} {vs vs' : List Value} {A i : Nat} {u : Value} (o : OldNew w0 w e m m' vs vs') (hA : A < w0.heap.size) : OldNew w0 (w.setCell ⟨A, i, none⟩ u) e m m' vs vs' := by
  rcases o with h | h
  · exact .inl h
  · exact .inr (h.set hA u)
/-- One cell of a layer turned. -/
theorem turn1 {B : Nat} {w0 w : World} {R : Nat} {x y z : Int} {C : List Frm} {h : Hd} {pre post : List Loc} {d d' : Dat} {p m q k m' q' : Hd} {kids : List Loc} {j : Nat} {u : Value}
    (W : Whole B w0 R x y z (plugH C h) (plugL C h (pre ++ .mk d p m q k kids :: post))) (kk : Keeps none' w0 w) (hj : j < 19) (hu : u.oneCell' = true)
    (hc : (cells19 d p m q k).set j u = cells19 d' p m' q' k) (hp : d'.p = d.p)
    (om : OldNew w0 w 5 m m' (bytes d.mask) (bytes d'.mask)) (oq : OldNew w0 w 3 q q' (ints d.pars) (ints d'.pars)) (one : m' = m ∨ q' = q) (hB : B ≤ w0.heap.size) :
    Whole B (w.setCell ⟨h.b, h.o + pre.length * 19 + j, none⟩ u) R x y z (plugH C h) (plugL C h (pre ++ .mk d' p m' q' k kids :: post)) ∧ Keeps (fun b => b = h.b) w0 (w.setCell ⟨h.b, h.o + pre.length * 19 + j, none⟩ u) := by
  have k2 : Keeps (fun b => b = h.b) w0 (w.setCell ⟨h.b, h.o + pre.length * 19 + j, none⟩ u) := (keeps_weak kk (fun q _ e => e.elim)).trans (keeps_at w h.b _ u) (fun i _ e => e)
  have hlt : h.b < w0.heap.size := by
    obtain ⟨rowh, -, -⟩ := W.ctx
    obtain ⟨g, n, c, rfl⟩ := row_some rowh
    exact (rowh.range g (List.mem_singleton.2 rfl)).2
  refine ⟨turn_whole W ?_ k2 hp (oldnew_set om hlt) (oldnew_set oq hlt) one hB, k2⟩
  obtain ⟨rowh, -, -⟩ := W.ctx
  have r2 := (rowh.later kk).set1 (i := pre.length * 19 + j) (v := u) (w' := w.setCell ⟨h.b, h.o + pre.length * 19 + j, none⟩ u) (flat_len19 pre post d p m q k kids j hj) hu (by rw [Nat.add_assoc])
  rw [flat_set pre d d' p m q k m' q' kids post j u hc hj] at r2
  exact r2
/-- One number of a layer turned; its lists stay. -/
theorem turn0 {B : Nat} {w0 w : World} {R : Nat} {x y z : Int} {C : List Frm} {h : Hd} {pre post : List Loc} {d d' : Dat} {p m q k : Hd} {kids : List Loc} {j : Nat} {u : Value}
    (W : Whole B w0 R x y z (plugH C h) (plugL C h (pre ++ .mk d p m q k kids :: post))) (kk : Keeps none' w0 w) (hj : j < 19) (hu : u.oneCell' = true)
    (hc : (cells19 d p m q k).set j u = cells19 d' p m q k) (hp : d'.p = d.p) (hm : d'.mask = d.mask) (hq : d'.pars = d.pars) (hB : B ≤ w0.heap.size) :
    Whole B (w.setCell ⟨h.b, h.o + pre.length * 19 + j, none⟩ u) R x y z (plugH C h) (plugL C h (pre ++ .mk d' p m q k kids :: post)) ∧ Keeps (fun b => b = h.b) w0 (w.setCell ⟨h.b, h.o + pre.length * 19 + j, none⟩ u) :=
  turn1 W kk hj hu hc hp (.inl ⟨rfl, by rw [hm]⟩) (.inl ⟨rfl, by rw [hq]⟩) (.inl rfl) hB
end Go.Proofs.YtfcpbpfemmdklaaGreat.Tr

/- Opacity and mode of a layer, hiding it. (printed by genZV.py) -/
namespace Go.Proofs.YtfcpbpfemmdklaaGreat.Tr
open Go.RowKit Go.Lib
set_option linter.unusedSimpArgs false
set_option linter.unusedVariables false

def uptoB (n most : Int) : Bool := decide (0 ≤ n) && decide (n ≤ most)
def setOM (d : Dat) (n m : Int) : Dat := { d with op := n, mode := m }
def setHid (d : Dat) (b : Bool) : Dat := { d with hid := b }
/-- A layer's cells, where it stands in a document. -/
structure LaySpot (B : Nat) (w : World) (R : Nat) (h : Hd) (i : Nat) (d : Dat) (lp lm lq lk : Hd) : Prop where
  cell : ∀ j u, (cells19 d lp lm lq lk)[j]? = some u → w.cell? ⟨h.b, h.o + i * 19 + j, none⟩ = some u
  fr : ∀ j, w.frozen? ⟨h.b, j, none⟩ = false
  lt : h.b < w.heap.size
  low : B ≤ h.b
  ne : h.b ≠ R
theorem LaySpot.later {B : Nat} {w w' : World} {R : Nat} {h : Hd} {i : Nat} {d : Dat} {lp lm lq lk : Hd} (s : LaySpot B w R h i d lp lm lq lk) (k : Keeps none' w w') : LaySpot B w' R h i d lp lm lq lk :=
  ⟨fun j u hj => k.cell (s.cell j u hj), fun j => by
    have h1 := s.fr j
    unfold World.frozen? at h1 ⊢
    rw [show w'.heap[h.b]? = w.heap[h.b]? from k.later _ s.lt]
    exact h1, Nat.lt_of_lt_of_le s.lt k.size, s.low, s.ne⟩
theorem lay_spot {B : Nat} {w : World} {R : Nat} {x y z : Int} {C : List Frm} {h : Hd} {pre post : List Loc} {d : Dat} {lp lm lq lk : Hd} {kids : List Loc} (W : Whole B w R x y z (plugH C h) (plugL C h (pre ++ .mk d lp lm lq lk kids :: post))) : LaySpot B w R h pre.length d lp lm lq lk := by
  obtain ⟨rowh, ownl, -⟩ := W.ctx
  have hlt := W.lt
  have out := W.out'
  have hn : 0 < h.n := by
    have h1 := rowh.1.1
    rw [flat_length] at h1
    simp at h1
    omega
  obtain ⟨g, c, cur, e, hB, hg, hc, hs, ht⟩ := rowh.some hn
  have hfl := flat_at _ _ _ (mid_at pre (.mk d lp lm lq lk kids) post)
  obtain ⟨ha, hnn, hcc⟩ : h.a = some ⟨g, 0, none⟩ ∧ True ∧ True := ⟨by rw [e], trivial, trivial⟩
  have hb : h.b = g := by unfold Hd.b; rw [ha]
  have ho : h.o = 0 := by unfold Hd.o; rw [ha]
  have hbm : g ∈ h.blk := by unfold Hd.blk; rw [ha]; exact List.mem_singleton.2 rfl
  have hcl : ∀ j u, (flat (pre ++ .mk d lp lm lq lk kids :: post))[j]? = some u → w.cell? ⟨g, 0 + j, none⟩ = some u := (rowh.read.1.1.at' _ ha).2.2
  refine ⟨fun j u hj => ?_, fun j => ?_, ?_, ?_, ?_⟩
  · rw [hb, ho, Nat.add_assoc]
    exact hcl _ _ (hfl j u hj)
  · rw [hb]; simp [World.frozen?, hg]
  · rw [hb]; exact lt_of_block hg
  · rw [hb]; exact hB
  · rw [hb]
    rintro rfl
    exact out (by simp [hbm])
def lookP (ls : List Lay) (id n m : Int) : Except Int (List Lay) :=
  match fnd id ls with
  | none => .error 40
  | some r => if (uptoB n 255 && uptoB m 11) = false then .error 32 else if (decide (r.d.kind = 2) && decide (m ≠ 0)) = true then .error 41 else
    .ok (plugP r.C (r.pre ++ .mk (setOM r.d n m) r.kids :: r.post))
def hideP (ls : List Lay) (id n : Int) : Except Int (List Lay) :=
  match fnd id ls with
  | none => .error 40
  | some r => if uptoB n 1 = false then .error 32 else .ok (plugP r.C (r.pre ++ .mk (setHid r.d (decide (n = 1))) r.kids :: r.post))
/-- A layer by its number, or none. -/
def layV (R : Nat) (h : Hd) (ls : List Loc) (id : Int) : Value := match findP id (sps 0 R 3 0 h.b h.o 0 ls) with
  | some X => .tuple #[.pointer (some ⟨X.b, X.o, none⟩), .int .i64 0]
  | none => .tuple #[.pointer none, .int .i64 40]
theorem lay57 (R : Nat) (x y z : Int) (h : Hd) (ls : List Loc) (id : Int) (w : World) (C : Dc w R x y z h) (D : DocV w h ls) (hc : cnt ls ≤ 1099511627776) :
    Calls Tryz.prog 84 #[.pointer (some ⟨R, 0, none⟩), .int .i64 id] w fun e w' => e = .returned (layV R h ls id) ∧ Keeps none' w w' := by
  refine (layer57 R x y z h ls id w C D hc).mono ?_
  rintro e w' ⟨he, k⟩
  refine ⟨?_, k⟩
  unfold layV
  revert he
  cases findP id (sps 0 R 3 0 h.b h.o 0 ls) <;> exact fun h => h
theorem lay_doc (id : Int) (R : Nat) (h : Hd) (ls : List Loc) :
    (fnd id (er ls) = none ∧ layV R h ls id = .tuple #[.pointer none, .int .i64 40]) ∨
    ∃ C pre l post h', fnd id (er ls) = some ⟨C.map Frm.er, er pre, l.dat, er l.kids, er post⟩ ∧ plugH C h' = h ∧ plugL C h' (pre ++ l :: post) = ls ∧ layV R h ls id = .tuple #[.pointer (some ⟨h'.b, h'.o + pre.length * 19, none⟩), .int .i64 0] := by
  unfold layV
  rcases find_doc id R h ls with ⟨a, b⟩ | ⟨C, pre, l, post, h', a1, a2, a3, a4⟩
  · exact .inl ⟨b, by rw [a]⟩
  · exact .inr ⟨C, pre, l, post, h', a2, a3, a4, by rw [a1]; rfl⟩
set_option maxRecDepth 100000 in
set_option maxHeartbeats 3200000 in
theorem look_no (B R : Nat) (x y z : Int) (h : Hd) (ls : List Loc) (e : PEd) (p s q : Hd) (w : World) (W : Whole B w R x y z h ls) {z0 : Int} (G : Good z0 (er ls)) (kv : layV R h ls e.id = .tuple #[.pointer none, .int .i64 40]) (pe : lookP (er ls) e.id e.n e.m = .error 40) :
    Calls Tryz.prog 50 #[.pointer (some ⟨R, 0, none⟩), edV e p s q] w fun en w' => Edited B w R x y z (lookP (er ls) e.id e.n e.m) en w' := by
  have A := Lib.hid pe
  have HC : cnt ls ≤ 4096 := by rw [cnt_eq]; exact G.cnt
  have E0 := Lib.hid (Eb.new w e p s q)
  have K0 := Lib.hid ((Keeps.refl none' w).alloc (.cells (edCells e p s q).toArray 38))
  have KD := lay57 R x y z h ls e.id (w.alloc (.cells (edCells e p s q).toArray 38)) (W.later K0.out).doc ((W.later K0.out).docV) (by omega)
  rw [kv] at KD
  have KN := Lib.hid KD
  clear W G kv pe KD HC
  unfold edV
  obtain ⟨EV, hEV⟩ : ∃ EV, EV = (edCells e p s q).toArray := ⟨_, rfl⟩
  rw [← hEV]
  rw [← hEV] at E0 K0 KN
  clear hEV
  go_enter Tryz.func50, Tryz.ntmps50
  go_upto_region 1 with (fail)
  generalize w.alloc (.cells EV 38) = w1 at *
  obtain ⟨E, hE⟩ : ∃ E, E = w.heap.size := ⟨_, rfl⟩
  rw [← hE] at E0
  rw [← hE]
  clear hE
  have e1 := E0.out.c1
  go_wp2_with ((with_reducible refine KN.out.mono ?_); rintro en w2 ⟨rfl, hk⟩; have K2 := Lib.hid (K0.out.next hk); clear hk)
  go_ret
  exact Edited.err A.out K2.out
set_option maxRecDepth 100000 in
set_option maxHeartbeats 3200000 in
theorem look_yes (B R : Nat) (x y z : Int) (e : PEd) (p s q : Hd) (w : World) (C : List Frm) (h' : Hd) (pre post : List Loc) (d : Dat) (lp lm lq lk : Hd) (kids : List Loc)
    (W : Whole B w R x y z (plugH C h') (plugL C h' (pre ++ .mk d lp lm lq lk kids :: post))) (hB : B ≤ w.heap.size) {z0 : Int} (G : Good z0 (er (plugL C h' (pre ++ .mk d lp lm lq lk kids :: post))))
    (kv : layV R (plugH C h') (plugL C h' (pre ++ .mk d lp lm lq lk kids :: post)) e.id = .tuple #[.pointer (some ⟨h'.b, h'.o + pre.length * 19, none⟩), .int .i64 0])
    (hf : fnd e.id (er (plugL C h' (pre ++ .mk d lp lm lq lk kids :: post))) = some ⟨C.map Frm.er, er pre, d, er kids, er post⟩) :
    Calls Tryz.prog 50 #[.pointer (some ⟨R, 0, none⟩), edV e p s q] w fun en w' => Edited B w R x y z (lookP (er (plugL C h' (pre ++ .mk d lp lm lq lk kids :: post))) e.id e.n e.m) en w' := by
  have HC : cnt (plugL C h' (pre ++ .mk d lp lm lq lk kids :: post)) ≤ 4096 := by rw [cnt_eq]; exact G.cnt
  have HW := Lib.hid W
  have HF := Lib.hid hf
  have E0 := Lib.hid (Eb.new w e p s q)
  have K0 := Lib.hid ((Keeps.refl none' w).alloc (.cells (edCells e p s q).toArray 38))
  have KD := lay57 R x y z (plugH C h') _ e.id (w.alloc (.cells (edCells e p s q).toArray 38)) (W.later K0.out).doc ((W.later K0.out).docV) (by omega)
  rw [kv] at KD
  have KN := Lib.hid KD
  have HB := Lib.hid hB
  have LS := Lib.hid (lay_spot W)
  clear W G kv hf KD HC hB
  unfold edV
  obtain ⟨EV, hEV⟩ : ∃ EV, EV = (edCells e p s q).toArray := ⟨_, rfl⟩
  rw [← hEV]
  rw [← hEV] at E0 K0 KN
  clear hEV
  obtain ⟨RES, hRES⟩ : ∃ RES, RES = lookP (er (plugL C h' (pre ++ .mk d lp lm lq lk kids :: post))) e.id e.n e.m := ⟨_, rfl⟩
  rw [← hRES]
  have HS := Lib.hid hRES
  clear hRES
  obtain ⟨LO, hLO⟩ : ∃ LO, LO = h'.o + pre.length * 19 := ⟨_, rfl⟩
  rw [← hLO] at KN
  have HLO := Lib.hid hLO
  clear hLO
  obtain ⟨LB, hLB⟩ : ∃ LB, LB = h'.b := ⟨_, rfl⟩
  rw [← hLB] at KN
  have HLB := Lib.hid hLB
  clear hLB
  go_enter Tryz.func50, Tryz.ntmps50
  go_upto_region 1 with (fail)
  generalize w.alloc (.cells EV 38) = w1 at *
  obtain ⟨E, hE⟩ : ∃ E, E = w.heap.size := ⟨_, rfl⟩
  rw [← hE] at E0
  rw [← hE]
  have HE := Lib.hid hE
  clear hE
  have e1 := E0.out.c1
  go_upto_region 4 with ((with_reducible refine KN.out.mono ?_); rintro en w2 ⟨rfl, hk⟩; have K2 := Lib.hid (K0.out.next hk); have E2 := Lib.hid (E0.out.later hk); have K12 := Lib.hid hk; clear hk)
  clear e1 KN E0 K0
  have L2 := Lib.hid (LS.out.later K2.out)
  have e4 := E2.out.c4
  have e5 := E2.out.c5
  have nE : LB ≠ E := by
    have h1 := LS.out.lt
    rw [HLB.out, HE.out]
    omega
  have nE' : E ≠ LB := fun h => nE h.symm
  have U1 := Lib.hid (fun w' => upto46 e.n 255 w')
  have U2 := Lib.hid (fun w' => upto46 e.m 11 w')
  cases u1 : uptoB e.n 255 with
  | false =>
    unfold uptoB at u1
    rw [u1] at U1
    have ER := Lib.hid (show RES = .error 32 from by
      rw [HS.out]
      unfold lookP
      rw [HF.out]
      simp only [show uptoB e.n 255 = false from u1, Bool.false_and, if_true])
    clear u1
    go_wp2_with ((with_reducible refine (U1.out _).mono ?_); rintro en w3 ⟨rfl, hw⟩; subst hw)
    go_ret
    exact Edited.err ER.out K2.out
  | true =>
  cases u2 : uptoB e.m 11 with
  | false =>
    unfold uptoB at u1 u2
    rw [u1] at U1
    rw [u2] at U2
    have ER := Lib.hid (show RES = .error 32 from by
      rw [HS.out]
      unfold lookP
      rw [HF.out]
      simp only [show uptoB e.m 11 = false from u2, Bool.and_false, if_true])
    clear u1 u2
    go_wp2_with (first
      | ((with_reducible refine (U1.out _).mono ?_); rintro en w3 ⟨rfl, hw⟩; subst hw)
      | ((with_reducible refine (U2.out _).mono ?_); rintro en w3 ⟨rfl, hw⟩; subst hw))
    go_ret
    exact Edited.err ER.out K2.out
  | true =>
  have UU := Lib.hid (show (uptoB e.n 255 && uptoB e.m 11) = true from by rw [u1, u2]; rfl)
  unfold uptoB at u1 u2
  rw [u1] at U1
  rw [u2] at U2
  clear u1 u2
  have x1 : w2.cell? ⟨LB, LO + 1, none⟩ = some (.int .i64 d.kind) := by rw [HLB.out, HLO.out]; exact L2.out.cell 1 _ rfl
  by_cases t : d.kind = 2 ∧ e.m ≠ 0
  · have t1 : (d.kind == 2) = true := by simp [t.1]
    have t2 : (e.m == 0) = false := by simp [t.2]
    have t3 : (e.m != 0) = true := by simp [t.2]
    have t4 : decide (d.kind = 2) = true := by simp [t.1]
    have ER := Lib.hid (show RES = .error 41 from by
      rw [HS.out]
      unfold lookP
      rw [HF.out]
      simp only [UU.out, show (decide (d.kind = 2) && decide (e.m ≠ 0)) = true from by simp [t.1, t.2], if_true]
      rfl)
    clear t
    go_wp2_with (first
      | ((with_reducible refine (U1.out _).mono ?_); rintro en w3 ⟨rfl, hw⟩; subst hw)
      | ((with_reducible refine (U2.out _).mono ?_); rintro en w3 ⟨rfl, hw⟩; subst hw))
    go_ret
    exact Edited.err ER.out K2.out
  · have t0 : (decide (d.kind = 2) && decide (e.m ≠ 0)) = false := by
      cases hq : (decide (d.kind = 2) && decide (e.m ≠ 0)) with
      | false => rfl
      | true => simp at hq; exact absurd hq t
    have ER := Lib.hid (show RES = .ok (plugP (C.map Frm.er) (er pre ++ .mk (setOM d e.n e.m) (er kids) :: er post)) from by
      rw [HS.out]
      unfold lookP
      rw [HF.out]
      simp only [UU.out, t0]
      rfl)
    have T0 := Lib.hid (show (d.kind == 2) = false ∨ ((d.kind == 2) = true ∧ (e.m == 0) = true ∧ (e.m != 0) = false) from by
      by_cases t1 : d.kind = 2
      · have t2 : e.m = 0 := by
          by_cases t2 : e.m = 0
          · exact t2
          · exact absurd ⟨t1, t2⟩ t
        exact .inr ⟨by simp [t1], by simp [t2], by simp [t2]⟩
      · exact .inl (by simp [t1]))
    clear t0 t
    rcases T0.out with s1 | ⟨s1, s2, s3⟩
    · have x3 : w2.cell? ⟨LB, LO + 3, none⟩ = some (.int .i64 d.op) := by rw [HLB.out, HLO.out]; exact L2.out.cell 3 _ rfl
      have x4 : w2.cell? ⟨LB, LO + 4, none⟩ = some (.int .i64 d.mode) := by rw [HLB.out, HLO.out]; exact L2.out.cell 4 _ rfl
      have f3 : w2.frozen? ⟨LB, LO + 3, none⟩ = false := by rw [HLB.out]; exact L2.out.fr _
      have f4 : w2.frozen? ⟨LB, LO + 4, none⟩ = false := by rw [HLB.out]; exact L2.out.fr _
      go_wp2_with (first
        | ((with_reducible refine (U1.out _).mono ?_); rintro en w3 ⟨rfl, hw⟩; subst hw)
        | ((with_reducible refine (U2.out _).mono ?_); rintro en w3 ⟨rfl, hw⟩; subst hw))
      go_region
      all_goals go_wp2_with fail
      all_goals go_ret
      obtain ⟨wa, ka⟩ := turn0 (d' := { d with op := e.n }) (j := 3) (u := .int .i64 e.n) HW.out K2.out (by omega) rfl rfl rfl rfl rfl HB.out
      obtain ⟨wb, kb⟩ := turn0 (d' := setOM d e.n e.m) (j := 4) (u := .int .i64 e.m) wa (Keeps.refl none' _) (by omega) rfl rfl rfl rfl rfl (Nat.le_trans HB.out ka.size)
      rw [← HLB.out, ← HLO.out] at wa wb ka kb
      exact Edited.good ER.out (by rw [er_plug, er_append, er_cons]; rfl) (wb.later ((Keeps.refl none' _).drew)) ((keeps_weak (ka.trans kb (fun i _ e => e)) (fun q _ e => by have h1 := LS.out.low; rw [← HLB.out] at h1; have e' : q = LB := e; omega)).drew)
    · have x3 : w2.cell? ⟨LB, LO + 3, none⟩ = some (.int .i64 d.op) := by rw [HLB.out, HLO.out]; exact L2.out.cell 3 _ rfl
      have x4 : w2.cell? ⟨LB, LO + 4, none⟩ = some (.int .i64 d.mode) := by rw [HLB.out, HLO.out]; exact L2.out.cell 4 _ rfl
      have f3 : w2.frozen? ⟨LB, LO + 3, none⟩ = false := by rw [HLB.out]; exact L2.out.fr _
      have f4 : w2.frozen? ⟨LB, LO + 4, none⟩ = false := by rw [HLB.out]; exact L2.out.fr _
      go_wp2_with (first
        | ((with_reducible refine (U1.out _).mono ?_); rintro en w3 ⟨rfl, hw⟩; subst hw)
        | ((with_reducible refine (U2.out _).mono ?_); rintro en w3 ⟨rfl, hw⟩; subst hw))
      go_region
      all_goals go_wp2_with fail
      all_goals go_ret
      obtain ⟨wa, ka⟩ := turn0 (d' := { d with op := e.n }) (j := 3) (u := .int .i64 e.n) HW.out K2.out (by omega) rfl rfl rfl rfl rfl HB.out
      obtain ⟨wb, kb⟩ := turn0 (d' := setOM d e.n e.m) (j := 4) (u := .int .i64 e.m) wa (Keeps.refl none' _) (by omega) rfl rfl rfl rfl rfl (Nat.le_trans HB.out ka.size)
      rw [← HLB.out, ← HLO.out] at wa wb ka kb
      exact Edited.good ER.out (by rw [er_plug, er_append, er_cons]; rfl) (wb.later ((Keeps.refl none' _).drew)) ((keeps_weak (ka.trans kb (fun i _ e => e)) (fun q _ e => by have h1 := LS.out.low; rw [← HLB.out] at h1; have e' : q = LB := e; omega)).drew)
theorem look34 (B R : Nat) (x y z : Int) (h : Hd) (ls : List Loc) (e : PEd) (p s q : Hd) (w : World) (W : Whole B w R x y z h ls) {z0 : Int} (G : Good z0 (er ls)) (hB : B ≤ w.heap.size) :
    Calls Tryz.prog 50 #[.pointer (some ⟨R, 0, none⟩), edV e p s q] w fun en w' => Edited B w R x y z (lookP (er ls) e.id e.n e.m) en w' := by
  rcases lay_doc e.id R h ls with ⟨a, b⟩ | ⟨C, pre, l, post, h', a1, a2, a3, a4⟩
  · exact look_no B R x y z h ls e p s q w W G b (by unfold lookP; rw [a])
  · obtain ⟨d, lp, lm, lq, lk, kids⟩ := l
    subst a2 a3
    exact look_yes B R x y z e p s q w C h' pre post d lp lm lq lk kids W hB G a4 a1
set_option maxRecDepth 100000 in
set_option maxHeartbeats 3200000 in
theorem hide_no (B R : Nat) (x y z : Int) (h : Hd) (ls : List Loc) (e : PEd) (p s q : Hd) (w : World) (W : Whole B w R x y z h ls) {z0 : Int} (G : Good z0 (er ls)) (kv : layV R h ls e.id = .tuple #[.pointer none, .int .i64 40]) (pe : hideP (er ls) e.id e.n = .error 40) :
    Calls Tryz.prog 51 #[.pointer (some ⟨R, 0, none⟩), edV e p s q] w fun en w' => Edited B w R x y z (hideP (er ls) e.id e.n) en w' := by
  have A := Lib.hid pe
  have HC : cnt ls ≤ 4096 := by rw [cnt_eq]; exact G.cnt
  have E0 := Lib.hid (Eb.new w e p s q)
  have K0 := Lib.hid ((Keeps.refl none' w).alloc (.cells (edCells e p s q).toArray 38))
  have KD := lay57 R x y z h ls e.id (w.alloc (.cells (edCells e p s q).toArray 38)) (W.later K0.out).doc ((W.later K0.out).docV) (by omega)
  rw [kv] at KD
  have KN := Lib.hid KD
  clear W G kv pe KD HC
  unfold edV
  obtain ⟨EV, hEV⟩ : ∃ EV, EV = (edCells e p s q).toArray := ⟨_, rfl⟩
  rw [← hEV]
  rw [← hEV] at E0 K0 KN
  clear hEV
  go_enter Tryz.func51, Tryz.ntmps51
  go_upto_region 1 with (fail)
  generalize w.alloc (.cells EV 38) = w1 at *
  obtain ⟨E, hE⟩ : ∃ E, E = w.heap.size := ⟨_, rfl⟩
  rw [← hE] at E0
  rw [← hE]
  clear hE
  have e1 := E0.out.c1
  go_wp2_with ((with_reducible refine KN.out.mono ?_); rintro en w2 ⟨rfl, hk⟩; have K2 := Lib.hid (K0.out.next hk); clear hk)
  go_ret
  exact Edited.err A.out K2.out
set_option maxRecDepth 100000 in
set_option maxHeartbeats 3200000 in
theorem hide_yes (B R : Nat) (x y z : Int) (e : PEd) (p s q : Hd) (w : World) (C : List Frm) (h' : Hd) (pre post : List Loc) (d : Dat) (lp lm lq lk : Hd) (kids : List Loc)
    (W : Whole B w R x y z (plugH C h') (plugL C h' (pre ++ .mk d lp lm lq lk kids :: post))) (hB : B ≤ w.heap.size) {z0 : Int} (G : Good z0 (er (plugL C h' (pre ++ .mk d lp lm lq lk kids :: post))))
    (kv : layV R (plugH C h') (plugL C h' (pre ++ .mk d lp lm lq lk kids :: post)) e.id = .tuple #[.pointer (some ⟨h'.b, h'.o + pre.length * 19, none⟩), .int .i64 0])
    (hf : fnd e.id (er (plugL C h' (pre ++ .mk d lp lm lq lk kids :: post))) = some ⟨C.map Frm.er, er pre, d, er kids, er post⟩) :
    Calls Tryz.prog 51 #[.pointer (some ⟨R, 0, none⟩), edV e p s q] w fun en w' => Edited B w R x y z (hideP (er (plugL C h' (pre ++ .mk d lp lm lq lk kids :: post))) e.id e.n) en w' := by
  have HC : cnt (plugL C h' (pre ++ .mk d lp lm lq lk kids :: post)) ≤ 4096 := by rw [cnt_eq]; exact G.cnt
  have HW := Lib.hid W
  have HF := Lib.hid hf
  have E0 := Lib.hid (Eb.new w e p s q)
  have K0 := Lib.hid ((Keeps.refl none' w).alloc (.cells (edCells e p s q).toArray 38))
  have KD := lay57 R x y z (plugH C h') _ e.id (w.alloc (.cells (edCells e p s q).toArray 38)) (W.later K0.out).doc ((W.later K0.out).docV) (by omega)
  rw [kv] at KD
  have KN := Lib.hid KD
  have HB := Lib.hid hB
  have LS := Lib.hid (lay_spot W)
  clear W G kv hf KD HC hB
  unfold edV
  obtain ⟨EV, hEV⟩ : ∃ EV, EV = (edCells e p s q).toArray := ⟨_, rfl⟩
  rw [← hEV]
  rw [← hEV] at E0 K0 KN
  clear hEV
  obtain ⟨RES, hRES⟩ : ∃ RES, RES = hideP (er (plugL C h' (pre ++ .mk d lp lm lq lk kids :: post))) e.id e.n := ⟨_, rfl⟩
  rw [← hRES]
  have HS := Lib.hid hRES
  clear hRES
  obtain ⟨LO, hLO⟩ : ∃ LO, LO = h'.o + pre.length * 19 := ⟨_, rfl⟩
  rw [← hLO] at KN
  have HLO := Lib.hid hLO
  clear hLO
  obtain ⟨LB, hLB⟩ : ∃ LB, LB = h'.b := ⟨_, rfl⟩
  rw [← hLB] at KN
  have HLB := Lib.hid hLB
  clear hLB
  go_enter Tryz.func51, Tryz.ntmps51
  go_upto_region 1 with (fail)
  generalize w.alloc (.cells EV 38) = w1 at *
  obtain ⟨E, hE⟩ : ∃ E, E = w.heap.size := ⟨_, rfl⟩
  rw [← hE] at E0
  rw [← hE]
  have HE := Lib.hid hE
  clear hE
  have e1 := E0.out.c1
  go_upto_region 4 with ((with_reducible refine KN.out.mono ?_); rintro en w2 ⟨rfl, hk⟩; have K2 := Lib.hid (K0.out.next hk); have E2 := Lib.hid (E0.out.later hk); have K12 := Lib.hid hk; clear hk)
  clear e1 KN E0 K0
  have L2 := Lib.hid (LS.out.later K2.out)
  have e4 := E2.out.c4
  have e5 := E2.out.c5
  have nE : LB ≠ E := by
    have h1 := LS.out.lt
    rw [HLB.out, HE.out]
    omega
  have nE' : E ≠ LB := fun h => nE h.symm
  have U1 := Lib.hid (fun w' => upto46 e.n 1 w')
  cases u1 : uptoB e.n 1 with
  | false =>
    unfold uptoB at u1
    rw [u1] at U1
    have ER := Lib.hid (show RES = .error 32 from by
      rw [HS.out]
      unfold hideP
      rw [HF.out]
      simp only [show uptoB e.n 1 = false from u1, if_true])
    clear u1
    go_wp2_with ((with_reducible refine (U1.out _).mono ?_); rintro en w3 ⟨rfl, hw⟩; subst hw)
    go_ret
    exact Edited.err ER.out K2.out
  | true =>
  have ER := Lib.hid (show RES = .ok (plugP (C.map Frm.er) (er pre ++ .mk (setHid d (decide (e.n = 1))) (er kids) :: er post)) from by
    rw [HS.out]
    unfold hideP
    rw [HF.out]
    simp only [u1]
    rfl)
  unfold uptoB at u1
  rw [u1] at U1
  clear u1
  have x2 : w2.cell? ⟨LB, LO + 2, none⟩ = some (.bool d.hid) := by rw [HLB.out, HLO.out]; exact L2.out.cell 2 _ rfl
  have f2 : w2.frozen? ⟨LB, LO + 2, none⟩ = false := by rw [HLB.out]; exact L2.out.fr _
  obtain ⟨b, hb⟩ : ∃ b, b = decide (e.n = 1) := ⟨_, rfl⟩
  have b1 : (e.n == 1) = b := by rw [hb]; simp [Bool.beq_eq_decide_eq]
  have b2 : decide (e.n = 1) = b := hb.symm
  rw [b2] at ER
  have HBB := Lib.hid hb
  clear hb
  go_wp2_with ((with_reducible refine (U1.out _).mono ?_); rintro en w3 ⟨rfl, hw⟩; subst hw)
  go_ret
  obtain ⟨wa, ka⟩ := turn0 (d' := setHid d b) (j := 2) (u := .bool b) HW.out K2.out (by omega) rfl rfl rfl rfl rfl HB.out
  rw [← HLB.out, ← HLO.out] at wa ka
  exact Edited.good ER.out (by rw [er_plug, er_append, er_cons]; rfl) wa (keeps_weak ka (fun q _ e => by have h1 := LS.out.low; rw [← HLB.out] at h1; have e' : q = LB := e; omega))
theorem hide35 (B R : Nat) (x y z : Int) (h : Hd) (ls : List Loc) (e : PEd) (p s q : Hd) (w : World) (W : Whole B w R x y z h ls) {z0 : Int} (G : Good z0 (er ls)) (hB : B ≤ w.heap.size) :
    Calls Tryz.prog 51 #[.pointer (some ⟨R, 0, none⟩), edV e p s q] w fun en w' => Edited B w R x y z (hideP (er ls) e.id e.n) en w' := by
  rcases lay_doc e.id R h ls with ⟨a, b⟩ | ⟨C, pre, l, post, h', a1, a2, a3, a4⟩
  · exact hide_no B R x y z h ls e p s q w W G b (by unfold hideP; rw [a])
  · obtain ⟨d, lp, lm, lq, lk, kids⟩ := l
    subst a2 a3
    exact hide_yes B R x y z e p s q w C h' pre post d lp lm lq lk kids W hB G a4 a1
end Go.Proofs.YtfcpbpfemmdklaaGreat.Tr
