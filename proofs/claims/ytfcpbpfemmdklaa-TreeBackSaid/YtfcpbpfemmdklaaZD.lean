/- Do (8), for the kinds 1 to 3. (printed by genZD.py) -/
import Derived.Test.YtfcpbpfemmdklaaZC
namespace Go.Proofs.Ytfcpbpfemmdklaa
open Go.RowKit Go.Lib
set_option linter.unusedSimpArgs false
set_option linter.unusedVariables false

/-- A document in memory of its own, from block B on. -/
structure NewD (B : Nat) (w : World) (h : Hd) (ls : List Loc) : Prop where
  row : OwnR B w 48 19 h (flat ls)
  own : Own B w ls
  nodup : (h.blk ++ blks ls).Nodup
theorem NewD.docV {B : Nat} {w : World} {h : Hd} {ls : List Loc} (d : NewD B w h ls) : DocV w h ls := ⟨d.row.read.1, d.own.rep⟩
theorem NewD.keep {X : Nat → Prop} {B : Nat} {w w' : World} {h : Hd} {ls : List Loc} (d : NewD B w h ls) (k : Keeps X w w') (hX : ∀ b ∈ h.blk ++ blks ls, ¬ X b) : NewD B w' h ls :=
  ⟨d.row.keepB k (fun b hb => hX b (List.mem_append.2 (.inl hb))), d.own.keep k (fun b hb => hX b (List.mem_append.2 (.inr hb))), d.nodup⟩
theorem NewD.later {B : Nat} {w w' : World} {h : Hd} {ls : List Loc} (d : NewD B w h ls) (k : Keeps none' w w') : NewD B w' h ls := d.keep k (fun _ _ h => h)
theorem NewD.range {B : Nat} {w : World} {h : Hd} {ls : List Loc} (d : NewD B w h ls) : ∀ b ∈ h.blk ++ blks ls, B ≤ b ∧ b < w.heap.size := by
  intro b hb
  rcases List.mem_append.1 hb with hb | hb
  · exact d.row.range b hb
  · exact d.own.range b hb
/-- What Do tells. -/
def Done (w : World) (x y z' : Int) (r : Except Int (List Lay)) (en : Ending) (w' : World) : Prop :=
  match r with
  | .error f => en = .returned (.tuple #[docV 0 0 0 Hd.nil, .int .i64 f]) ∧ Keeps none' w w'
  | .ok ls' => ∃ h' lsL, en = .returned (.tuple #[docV x y z' h', .int .i64 0]) ∧ er lsL = ls' ∧ NewD w.heap.size w' h' lsL ∧ Keeps none' w w'
theorem Done.err {w : World} {x y z' : Int} {r : Except Int (List Lay)} {f : Int} {w' : World} (e : r = .error f) (k : Keeps none' w w') : Done w x y z' r (.returned (.tuple #[docV 0 0 0 Hd.nil, .int .i64 f])) w' := by
  subst e
  exact ⟨rfl, k⟩
theorem Done.good {w : World} {x y z' : Int} {r : Except Int (List Lay)} {ls' : List Lay} {h' : Hd} {lsL : List Loc} {w' : World} (e : r = .ok ls') (e1 : er lsL = ls') (n : NewD w.heap.size w' h' lsL) (k : Keeps none' w w') : Done w x y z' r (.returned (.tuple #[docV x y z' h', .int .i64 0])) w' := by
  subst e
  exact ⟨h', lsL, rfl, e1, n, k⟩
theorem keeps_of_from {B : Nat} {w w1 w' : World} (k : Keeps none' w w1) (k2 : Keeps (fun q => B ≤ q) w1 w') (hB : w.heap.size ≤ B) : Keeps none' w w' := k.trans k2 (fun q hq e => by have e' : B ≤ q := e; omega)
theorem Edited.val {B : Nat} {w : World} {R : Nat} {x y z' : Int} {r : Except Int (List Lay)} {en : Ending} {w' : World} (e : Edited B w R x y z' r en w') : ∃ v : Int, en = .returned (.int .i64 v) ∧ Edited B w R x y z' r (.returned (.int .i64 v)) w' := by
  cases r with
  | error f => exact ⟨f, e.1, rfl, e.2⟩
  | ok ls' => exact ⟨0, e.1, rfl, e.2⟩
theorem homeP_err {to : Int} {ls : List Lay} {f : Int} (h : homeP to ls = .error f) : f ≠ 0 := by
  unfold homeP at h
  split at h
  · cases h
  · split at h
    · cases h; decide
    · split at h
      · cases h
      · cases h; decide
theorem addP_err {z : Int} {ls : List Lay} {to at_ n w h : Int} {f : Int} (e : addP z ls to at_ n w h = .error f) : f ≠ 0 := by
  unfold addP at e
  split at e
  · cases e; decide
  split at e
  · cases e; decide
  split at e
  · rename_i hh; cases e; exact homeP_err hh
  split at e
  · cases e; decide
  split at e
  · cases e; decide
  · cases e
theorem removeP_err {ls : List Lay} {id f : Int} (e : removeP ls id = .error f) : f ≠ 0 := by
  unfold removeP at e
  split at e
  · cases e; decide
  · cases e
theorem moveP_err {ls : List Lay} {id to at_ f : Int} (e : moveP ls id to at_ = .error f) : f ≠ 0 := by
  unfold moveP at e
  split at e
  · cases e; decide
  rename_i r hr
  split at e
  · rename_i hh; cases e; exact homeP_err hh
  rename_i C kids hh
  generalize ((kids.length : Int) - (if pidOf r.C = pidOf C then 1 else 0)) = room at e
  split at e
  · cases e; decide
  split at e
  · cases e; decide
  split at e
  · cases e; decide
  split at e
  · rename_i hh2; cases e; exact homeP_err hh2
  · cases e
theorem Whole.newD {B : Nat} {w : World} {R : Nat} {x y z : Int} {h : Hd} {ls : List Loc} (W : Whole B w R x y z h ls) : NewD B w h ls := ⟨W.row, W.own, W.nodup⟩
theorem NewD.low {B B' : Nat} {w : World} {h : Hd} {ls : List Loc} (d : NewD B w h ls) (hB : B' ≤ B) : NewD B' w h ls := ⟨d.row.low hB, d.own.low hB, d.nodup⟩
theorem keeps_at4 (w : World) (Z : Nat) (x y z v : Value) : Keeps (fun q => q = Z) w ((((w.setCell ⟨Z, 0, none⟩ x).setCell ⟨Z, 1, none⟩ y).setCell ⟨Z, 2, none⟩ z).setCell ⟨Z, 3, none⟩ v) :=
  (keeps_at3 w Z x y z).trans (keeps_at _ Z 3 v) (fun _ _ e => e)
attribute [local go_sem ↓] ldx35
attribute [local go_sem] ptrBlock_some aggCells_agg
set_option maxRecDepth 100000 in
set_option maxHeartbeats 3200000 in
theorem doAdd (x y z : Int) (h : Hd) (ls : List Loc) (e : PEd) (p s q : Hd) (w : World) (D : DocV w h ls) (G : Good z (er ls)) (hz : z ≤ 4611686018427387904) (hk : e.kind = 1) :
    Calls Try.prog 8 #[docV x y z h, edV e p s q] w fun en w' => Done w x y (z + 1) (addP z (er ls) e.to e.at_ e.n e.w e.h) en w' := by
  have HD := Lib.hid D
  have HG := Lib.hid G
  have HZ := Lib.hid hz
  have C0 := Lib.hid (((Dc.new w x y z h).later ((Keeps.refl none' _).alloc (.cells (edCells e p s q).toArray 35))).later ((Keeps.refl none' _).alloc (.cells #[.int .i64 0, .int .i64 0, .int .i64 0, .slice none 0 0] 25)))
  have E0 := Lib.hid ((Eb.new (w.alloc (.cells #[.int .i64 x, .int .i64 y, .int .i64 z, .slice h.a h.n h.c] 25)) e p s q).later ((Keeps.refl none' _).alloc (.cells #[.int .i64 0, .int .i64 0, .int .i64 0, .slice none 0 0] 25)))
  have K0 := Lib.hid ((((Keeps.refl none' w).alloc (.cells #[.int .i64 x, .int .i64 y, .int .i64 z, .slice h.a h.n h.c] 25)).alloc (.cells (edCells e p s q).toArray 35)).alloc (.cells #[.int .i64 0, .int .i64 0, .int .i64 0, .slice none 0 0] 25))
  have R0 := Lib.hid (heap_alloc_new ((w.alloc (.cells #[.int .i64 x, .int .i64 y, .int .i64 z, .slice h.a h.n h.c] 25)).alloc (.cells (edCells e p s q).toArray 35)) (.cells #[.int .i64 0, .int .i64 0, .int .i64 0, .slice none 0 0] 25))
  have hs1 : (w.alloc (.cells #[.int .i64 x, .int .i64 y, .int .i64 z, .slice h.a h.n h.c] 25)).heap.size = w.heap.size + 1 := by simp
  have hs2 : ((w.alloc (.cells #[.int .i64 x, .int .i64 y, .int .i64 z, .slice h.a h.n h.c] 25)).alloc (.cells (edCells e p s q).toArray 35)).heap.size = w.heap.size + 1 + 1 := by simp
  rw [hs1] at E0
  rw [hs2] at R0
  clear hs1 hs2 D G
  unfold docV edV
  obtain ⟨EV, hEV⟩ : ∃ EV, EV = (edCells e p s q).toArray := ⟨_, rfl⟩
  rw [← hEV]
  rw [← hEV] at C0 E0 K0 R0
  have HEV := Lib.hid hEV
  have e0v := E0.out.c0
  rw [hk] at e0v
  clear hEV
  obtain ⟨Dk, hDk⟩ : ∃ Dk, Dk = w.heap.size := ⟨_, rfl⟩
  obtain ⟨E, hE⟩ : ∃ E, E = Dk + 1 := ⟨_, rfl⟩
  obtain ⟨Z, hZ⟩ : ∃ Z, Z = E + 1 := ⟨_, rfl⟩
  rw [← hDk] at C0
  rw [← hDk, ← hE] at E0 e0v
  rw [← hDk, ← hE, ← hZ] at R0
  have EE := Lib.hid (And.intro hDk (And.intro hE hZ))
  go_enter Try.func8, Try.ntmps8
  go_upto_region 1 with (fail)
  rw [← hDk, ← hE, ← hZ]
  clear hDk hE hZ
  generalize ((w.alloc (.cells #[.int .i64 x, .int .i64 y, .int .i64 z, .slice h.a h.n h.c] 25)).alloc (.cells EV 35)).alloc (.cells #[.int .i64 0, .int .i64 0, .int .i64 0, .slice none 0 0] 25) = w1 at *
  go_upto_region 2 with ((with_reducible refine (deeds17 w1).mono ?_); rintro en w2 ⟨rfl, f0, hw2⟩; have HW2 := Lib.hid hw2; clear hw2)
  have db := heap_alloc_new w1 (.cells #[f0, .func (.func 30) #[] #[], .func (.func 31) #[] #[], .func (.func 32) #[] #[], .func (.func 33) #[] #[], .func (.func 34) #[] #[], .func (.func 35) #[] #[], .func (.func 36) #[] #[], .func (.func 37) #[] #[], .func (.func 38) #[] #[]] 59)
  rw [← HW2.out] at db
  have DB := Lib.hid db
  have k12 : Keeps none' w1 w2 := by rw [HW2.out]; exact (Keeps.refl none' w1).alloc _
  clear db
  obtain ⟨DD, hDD⟩ : ∃ DD, DD = w1.heap.size := ⟨_, rfl⟩
  rw [← hDD] at DB
  rw [← hDD]
  clear hDD HW2
  have K2 := Lib.hid (K0.out.next k12)
  have C2 := Lib.hid (C0.out.later k12)
  have E2 := Lib.hid (E0.out.later k12)
  have R2 := Lib.hid ((k12.later Z (lt_of_block R0.out)).trans R0.out)
  have e0w := k12.cell e0v
  clear k12 C0 E0 K0 R0 e0v
  have c0 := C2.out.c0
  have c1 := C2.out.c1
  have c2 := C2.out.c2
  have c3 := C2.out.c3
  have cp := copied18 x y z h ls w2 (HD.out.later K2.out)
  unfold docV at cp
  have CP := Lib.hid cp
  clear cp
  go_upto_region 5 with ((with_reducible refine CP.out.mono ?_); rintro en w3 ⟨h', ls', rfl, hcp⟩; have CD := Lib.hid hcp; clear hcp)
  have ka := (Keeps.refl none' w3).alloc (.cells #[.int .i64 x, .int .i64 y, .int .i64 z, .slice h'.a h'.n h'.c] 25)
  have N4 := Lib.hid (Dc.new w3 x y z h')
  have K24 := Lib.hid (CD.out.keeps.next ka)
  have E4 := Lib.hid (E2.out.later K24.out)
  have R4 := Lib.hid ((K24.out.later Z (lt_of_block R2.out)).trans R2.out)
  have D4 := Lib.hid ((K24.out.later DD (lt_of_block DB.out)).trans DB.out)
  have e0 := K24.out.cell e0w
  have K4 := Lib.hid (K2.out.next K24.out)
  obtain ⟨Nx, hNx⟩ : ∃ Nx, Nx = w3.heap.size := ⟨_, rfl⟩
  have W4 := Lib.hid (show Whole w2.heap.size (w3.alloc (.cells #[.int .i64 x, .int .i64 y, .int .i64 z, .slice h'.a h'.n h'.c] 25)) Nx x y z h' ls' from by
    have hB : w2.heap.size ≤ w2.heap.size + 2 := by omega
    refine ⟨by rw [hNx]; exact N4.out, (CD.out.row.later ka).low hB, (CD.out.own.later ka).low hB, CD.out.nodup, fun hm => ?_⟩
    rcases List.mem_append.1 hm with hm | hm
    · have := (CD.out.row.range _ hm).2; omega
    · have := (CD.out.own.range _ hm).2; omega)
  obtain ⟨B2, hB2⟩ : ∃ B2, B2 = w2.heap.size := ⟨_, rfl⟩
  have NB := Lib.hid (show B2 ≤ Nx ∧ Z < B2 ∧ w.heap.size ≤ B2 from by rw [hNx, hB2]; exact ⟨CD.out.keeps.size, lt_of_block R2.out, K2.out.size⟩)
  rw [← hB2] at W4
  have SAME := Lib.hid CD.out.same
  rw [← hNx]
  clear hNx hB2 ka N4 c0 c1 c2 c3 CP CD K24 E2 R2 DB C2 K2 e0w
  generalize w3.alloc (.cells #[.int .i64 x, .int .i64 y, .int .i64 z, .slice h'.a h'.n h'.c] 25) = w4 at *
  have deed := add30 B2 Nx x y z h' ls' e p s q w4.drew (W4.out.later ((Keeps.refl none' w4).drew)) (by rw [SAME.out]; exact HG.out) HZ.out NB.out.1
  unfold edV at deed
  rw [← HEV.out, SAME.out] at deed
  have DE := Lib.hid (show Calls Try.prog 30 #[.pointer (some ⟨Nx, 0, none⟩), .agg EV] w4.drew (fun en w' => ∃ v : Int, en = .returned (.int .i64 v) ∧ Edited B2 w4.drew Nx x y (z + 1) (addP z (er ls) e.to e.at_ e.n e.w e.h) (.returned (.int .i64 v)) w') from deed.mono (fun _ _ h => h.val))
  clear deed
  have r5 : Row35 w4 E := E4.out.row.1
  have r6 : rowAt w4 E = EV := by rw [E4.out.row.2, HEV.out]
  have r5d : Row35 w4.drew E := r5
  have r6d : rowAt w4.drew E = EV := r6
  have fk : w4.cell? ⟨DD, 1, none⟩ = some (.func (.func 30) #[] #[]) := by simp [World.cell?, D4.out]
  go_cut [8] from 23 (fun s8 w' => ∃ v : Int, s8 = .int .i64 v ∧ Edited B2 w4.drew Nx x y (z + 1) (addP z (er ls) e.to e.at_ e.n e.w e.h) (.returned (.int .i64 v)) w')
  case first =>
    go_region_law (go_simp; (with_reducible refine DE.out.mono ?_); rintro en w5 ⟨v, rfl, hed⟩)
    all_goals
      go_wp2_with fail
      go_meet
      case rel => exact ⟨v, rfl, hed⟩
  case rest =>
    obtain ⟨v, rfl, hed⟩ := hcut
    have ZW := Lib.hid (show w.heap.size ≤ Z from by have := EE.out; omega)
    clear r5 r6 r5d r6d fk e0
    cases hr : addP z (er ls) e.to e.at_ e.n e.w e.h with
    | error f =>
      rw [hr] at hed
      obtain ⟨hv, hk9⟩ := hed
      simp only [Ending.returned.injEq, Value.int.injEq, true_and] at hv
      subst hv
      have e1 : (v != 0) = true := by simpa using addP_err hr
      have RS := Lib.hid hr
      have K9 := Lib.hid (keeps_of_from K4.out.drew hk9 NB.out.2.2)
      have R9 := Lib.hid ((hk9.block Z (lt_of_block R4.out) (by have := NB.out; omega)).trans R4.out)
      obtain ⟨⟨r0, r1, r2, r3⟩, rf⟩ := four_cells R9.out
      have f0' := rf 0
      have f1' := rf 1
      have f2' := rf 2
      have f3' := rf 3
      clear rf hr hk9
      go_wp2_with fail
      refine bodyPost_ret (results_cell_row2 rfl _ _ Z 25 _ (0, 0) _ rfl (four_set R9.out _ _ _ _) Try.underlying25 rfl (by kernel_rfl)) rfl ?_
      exact Done.err RS.out (keeps_set4 K9.out ZW.out _ _ _ _)
    | ok lsP =>
      rw [hr] at hed
      obtain ⟨hv, h2, lsL, q1, q2, hk9⟩ := hed
      simp only [Ending.returned.injEq, Value.int.injEq, true_and] at hv
      subst hv
      have RS := Lib.hid hr
      have Q := Lib.hid (And.intro q1 q2)
      have K9 := Lib.hid (keeps_of_from K4.out.drew hk9 NB.out.2.2)
      have R9 := Lib.hid ((hk9.block Z (lt_of_block R4.out) (by have := NB.out; omega)).trans R4.out)
      obtain ⟨⟨r0, r1, r2, r3⟩, rf⟩ := four_cells R9.out
      have f0' := rf 0
      have f1' := rf 1
      have f2' := rf 2
      have f3' := rf 3
      have c0 := Dc.c0 (x := x) (y := y) (z := z + 1) (h := h2) q2.doc
      have c1 := Dc.c1 (x := x) (y := y) (z := z + 1) (h := h2) q2.doc
      have c2 := Dc.c2 (x := x) (y := y) (z := z + 1) (h := h2) q2.doc
      have c3 := Dc.c3 (x := x) (y := y) (z := z + 1) (h := h2) q2.doc
      clear rf hr hk9 q1 q2
      go_wp2_with fail
      refine bodyPost_ret (results_cell_row2 rfl _ _ Z 25 _ (0, 0) _ rfl (four_set R9.out _ _ _ _) Try.underlying25 rfl (by kernel_rfl)) rfl ?_
      refine Done.good RS.out Q.out.1 ?_ (keeps_set4 K9.out ZW.out _ _ _ _)
      have nd := Q.out.2.newD
      exact (nd.keep (keeps_at4 wc Z _ _ _ _) (fun b hb e => by have e' : b = Z := e; have := (nd.range b hb).1; have := NB.out; omega)).low NB.out.2.2
set_option maxRecDepth 100000 in
set_option maxHeartbeats 3200000 in
theorem doRemove (x y z : Int) (h : Hd) (ls : List Loc) (e : PEd) (p s q : Hd) (w : World) (D : DocV w h ls) (G : Good z (er ls)) (hk : e.kind = 2) :
    Calls Try.prog 8 #[docV x y z h, edV e p s q] w fun en w' => Done w x y (z) (removeP (er ls) e.id) en w' := by
  have HD := Lib.hid D
  have HG := Lib.hid G
  skip
  have C0 := Lib.hid (((Dc.new w x y z h).later ((Keeps.refl none' _).alloc (.cells (edCells e p s q).toArray 35))).later ((Keeps.refl none' _).alloc (.cells #[.int .i64 0, .int .i64 0, .int .i64 0, .slice none 0 0] 25)))
  have E0 := Lib.hid ((Eb.new (w.alloc (.cells #[.int .i64 x, .int .i64 y, .int .i64 z, .slice h.a h.n h.c] 25)) e p s q).later ((Keeps.refl none' _).alloc (.cells #[.int .i64 0, .int .i64 0, .int .i64 0, .slice none 0 0] 25)))
  have K0 := Lib.hid ((((Keeps.refl none' w).alloc (.cells #[.int .i64 x, .int .i64 y, .int .i64 z, .slice h.a h.n h.c] 25)).alloc (.cells (edCells e p s q).toArray 35)).alloc (.cells #[.int .i64 0, .int .i64 0, .int .i64 0, .slice none 0 0] 25))
  have R0 := Lib.hid (heap_alloc_new ((w.alloc (.cells #[.int .i64 x, .int .i64 y, .int .i64 z, .slice h.a h.n h.c] 25)).alloc (.cells (edCells e p s q).toArray 35)) (.cells #[.int .i64 0, .int .i64 0, .int .i64 0, .slice none 0 0] 25))
  have hs1 : (w.alloc (.cells #[.int .i64 x, .int .i64 y, .int .i64 z, .slice h.a h.n h.c] 25)).heap.size = w.heap.size + 1 := by simp
  have hs2 : ((w.alloc (.cells #[.int .i64 x, .int .i64 y, .int .i64 z, .slice h.a h.n h.c] 25)).alloc (.cells (edCells e p s q).toArray 35)).heap.size = w.heap.size + 1 + 1 := by simp
  rw [hs1] at E0
  rw [hs2] at R0
  clear hs1 hs2 D G
  unfold docV edV
  obtain ⟨EV, hEV⟩ : ∃ EV, EV = (edCells e p s q).toArray := ⟨_, rfl⟩
  rw [← hEV]
  rw [← hEV] at C0 E0 K0 R0
  have HEV := Lib.hid hEV
  have e0v := E0.out.c0
  rw [hk] at e0v
  clear hEV
  obtain ⟨Dk, hDk⟩ : ∃ Dk, Dk = w.heap.size := ⟨_, rfl⟩
  obtain ⟨E, hE⟩ : ∃ E, E = Dk + 1 := ⟨_, rfl⟩
  obtain ⟨Z, hZ⟩ : ∃ Z, Z = E + 1 := ⟨_, rfl⟩
  rw [← hDk] at C0
  rw [← hDk, ← hE] at E0 e0v
  rw [← hDk, ← hE, ← hZ] at R0
  have EE := Lib.hid (And.intro hDk (And.intro hE hZ))
  go_enter Try.func8, Try.ntmps8
  go_upto_region 1 with (fail)
  rw [← hDk, ← hE, ← hZ]
  clear hDk hE hZ
  generalize ((w.alloc (.cells #[.int .i64 x, .int .i64 y, .int .i64 z, .slice h.a h.n h.c] 25)).alloc (.cells EV 35)).alloc (.cells #[.int .i64 0, .int .i64 0, .int .i64 0, .slice none 0 0] 25) = w1 at *
  go_upto_region 2 with ((with_reducible refine (deeds17 w1).mono ?_); rintro en w2 ⟨rfl, f0, hw2⟩; have HW2 := Lib.hid hw2; clear hw2)
  have db := heap_alloc_new w1 (.cells #[f0, .func (.func 30) #[] #[], .func (.func 31) #[] #[], .func (.func 32) #[] #[], .func (.func 33) #[] #[], .func (.func 34) #[] #[], .func (.func 35) #[] #[], .func (.func 36) #[] #[], .func (.func 37) #[] #[], .func (.func 38) #[] #[]] 59)
  rw [← HW2.out] at db
  have DB := Lib.hid db
  have k12 : Keeps none' w1 w2 := by rw [HW2.out]; exact (Keeps.refl none' w1).alloc _
  clear db
  obtain ⟨DD, hDD⟩ : ∃ DD, DD = w1.heap.size := ⟨_, rfl⟩
  rw [← hDD] at DB
  rw [← hDD]
  clear hDD HW2
  have K2 := Lib.hid (K0.out.next k12)
  have C2 := Lib.hid (C0.out.later k12)
  have E2 := Lib.hid (E0.out.later k12)
  have R2 := Lib.hid ((k12.later Z (lt_of_block R0.out)).trans R0.out)
  have e0w := k12.cell e0v
  clear k12 C0 E0 K0 R0 e0v
  have c0 := C2.out.c0
  have c1 := C2.out.c1
  have c2 := C2.out.c2
  have c3 := C2.out.c3
  have cp := copied18 x y z h ls w2 (HD.out.later K2.out)
  unfold docV at cp
  have CP := Lib.hid cp
  clear cp
  go_upto_region 5 with ((with_reducible refine CP.out.mono ?_); rintro en w3 ⟨h', ls', rfl, hcp⟩; have CD := Lib.hid hcp; clear hcp)
  have ka := (Keeps.refl none' w3).alloc (.cells #[.int .i64 x, .int .i64 y, .int .i64 z, .slice h'.a h'.n h'.c] 25)
  have N4 := Lib.hid (Dc.new w3 x y z h')
  have K24 := Lib.hid (CD.out.keeps.next ka)
  have E4 := Lib.hid (E2.out.later K24.out)
  have R4 := Lib.hid ((K24.out.later Z (lt_of_block R2.out)).trans R2.out)
  have D4 := Lib.hid ((K24.out.later DD (lt_of_block DB.out)).trans DB.out)
  have e0 := K24.out.cell e0w
  have K4 := Lib.hid (K2.out.next K24.out)
  obtain ⟨Nx, hNx⟩ : ∃ Nx, Nx = w3.heap.size := ⟨_, rfl⟩
  have W4 := Lib.hid (show Whole w2.heap.size (w3.alloc (.cells #[.int .i64 x, .int .i64 y, .int .i64 z, .slice h'.a h'.n h'.c] 25)) Nx x y z h' ls' from by
    have hB : w2.heap.size ≤ w2.heap.size + 2 := by omega
    refine ⟨by rw [hNx]; exact N4.out, (CD.out.row.later ka).low hB, (CD.out.own.later ka).low hB, CD.out.nodup, fun hm => ?_⟩
    rcases List.mem_append.1 hm with hm | hm
    · have := (CD.out.row.range _ hm).2; omega
    · have := (CD.out.own.range _ hm).2; omega)
  obtain ⟨B2, hB2⟩ : ∃ B2, B2 = w2.heap.size := ⟨_, rfl⟩
  have NB := Lib.hid (show B2 ≤ Nx ∧ Z < B2 ∧ w.heap.size ≤ B2 from by rw [hNx, hB2]; exact ⟨CD.out.keeps.size, lt_of_block R2.out, K2.out.size⟩)
  rw [← hB2] at W4
  have SAME := Lib.hid CD.out.same
  rw [← hNx]
  clear hNx hB2 ka N4 c0 c1 c2 c3 CP CD K24 E2 R2 DB C2 K2 e0w
  generalize w3.alloc (.cells #[.int .i64 x, .int .i64 y, .int .i64 z, .slice h'.a h'.n h'.c] 25) = w4 at *
  have deed := remove31 B2 Nx x y z h' ls' e p s q w4.drew (W4.out.later ((Keeps.refl none' w4).drew)) (by rw [SAME.out]; exact HG.out) NB.out.1
  unfold edV at deed
  rw [← HEV.out, SAME.out] at deed
  have DE := Lib.hid (show Calls Try.prog 31 #[.pointer (some ⟨Nx, 0, none⟩), .agg EV] w4.drew (fun en w' => ∃ v : Int, en = .returned (.int .i64 v) ∧ Edited B2 w4.drew Nx x y (z) (removeP (er ls) e.id) (.returned (.int .i64 v)) w') from deed.mono (fun _ _ h => h.val))
  clear deed
  have r5 : Row35 w4 E := E4.out.row.1
  have r6 : rowAt w4 E = EV := by rw [E4.out.row.2, HEV.out]
  have r5d : Row35 w4.drew E := r5
  have r6d : rowAt w4.drew E = EV := r6
  have fk : w4.cell? ⟨DD, 2, none⟩ = some (.func (.func 31) #[] #[]) := by simp [World.cell?, D4.out]
  go_cut [8] from 23 (fun s8 w' => ∃ v : Int, s8 = .int .i64 v ∧ Edited B2 w4.drew Nx x y (z) (removeP (er ls) e.id) (.returned (.int .i64 v)) w')
  case first =>
    go_region_law (go_simp; (with_reducible refine DE.out.mono ?_); rintro en w5 ⟨v, rfl, hed⟩)
    all_goals
      go_wp2_with fail
      go_meet
      case rel => exact ⟨v, rfl, hed⟩
  case rest =>
    obtain ⟨v, rfl, hed⟩ := hcut
    have ZW := Lib.hid (show w.heap.size ≤ Z from by have := EE.out; omega)
    clear r5 r6 r5d r6d fk e0
    cases hr : removeP (er ls) e.id with
    | error f =>
      rw [hr] at hed
      obtain ⟨hv, hk9⟩ := hed
      simp only [Ending.returned.injEq, Value.int.injEq, true_and] at hv
      subst hv
      have e1 : (v != 0) = true := by simpa using removeP_err hr
      have RS := Lib.hid hr
      have K9 := Lib.hid (keeps_of_from K4.out.drew hk9 NB.out.2.2)
      have R9 := Lib.hid ((hk9.block Z (lt_of_block R4.out) (by have := NB.out; omega)).trans R4.out)
      obtain ⟨⟨r0, r1, r2, r3⟩, rf⟩ := four_cells R9.out
      have f0' := rf 0
      have f1' := rf 1
      have f2' := rf 2
      have f3' := rf 3
      clear rf hr hk9
      go_wp2_with fail
      refine bodyPost_ret (results_cell_row2 rfl _ _ Z 25 _ (0, 0) _ rfl (four_set R9.out _ _ _ _) Try.underlying25 rfl (by kernel_rfl)) rfl ?_
      exact Done.err RS.out (keeps_set4 K9.out ZW.out _ _ _ _)
    | ok lsP =>
      rw [hr] at hed
      obtain ⟨hv, h2, lsL, q1, q2, hk9⟩ := hed
      simp only [Ending.returned.injEq, Value.int.injEq, true_and] at hv
      subst hv
      have RS := Lib.hid hr
      have Q := Lib.hid (And.intro q1 q2)
      have K9 := Lib.hid (keeps_of_from K4.out.drew hk9 NB.out.2.2)
      have R9 := Lib.hid ((hk9.block Z (lt_of_block R4.out) (by have := NB.out; omega)).trans R4.out)
      obtain ⟨⟨r0, r1, r2, r3⟩, rf⟩ := four_cells R9.out
      have f0' := rf 0
      have f1' := rf 1
      have f2' := rf 2
      have f3' := rf 3
      have c0 := Dc.c0 (x := x) (y := y) (z := z) (h := h2) q2.doc
      have c1 := Dc.c1 (x := x) (y := y) (z := z) (h := h2) q2.doc
      have c2 := Dc.c2 (x := x) (y := y) (z := z) (h := h2) q2.doc
      have c3 := Dc.c3 (x := x) (y := y) (z := z) (h := h2) q2.doc
      clear rf hr hk9 q1 q2
      go_wp2_with fail
      refine bodyPost_ret (results_cell_row2 rfl _ _ Z 25 _ (0, 0) _ rfl (four_set R9.out _ _ _ _) Try.underlying25 rfl (by kernel_rfl)) rfl ?_
      refine Done.good RS.out Q.out.1 ?_ (keeps_set4 K9.out ZW.out _ _ _ _)
      have nd := Q.out.2.newD
      exact (nd.keep (keeps_at4 wc Z _ _ _ _) (fun b hb e => by have e' : b = Z := e; have := (nd.range b hb).1; have := NB.out; omega)).low NB.out.2.2
set_option maxRecDepth 100000 in
set_option maxHeartbeats 3200000 in
theorem doMove (x y z : Int) (h : Hd) (ls : List Loc) (e : PEd) (p s q : Hd) (w : World) (D : DocV w h ls) (G : Good z (er ls)) (hk : e.kind = 3) :
    Calls Try.prog 8 #[docV x y z h, edV e p s q] w fun en w' => Done w x y (z) (moveP (er ls) e.id e.to e.at_) en w' := by
  have HD := Lib.hid D
  have HG := Lib.hid G
  skip
  have C0 := Lib.hid (((Dc.new w x y z h).later ((Keeps.refl none' _).alloc (.cells (edCells e p s q).toArray 35))).later ((Keeps.refl none' _).alloc (.cells #[.int .i64 0, .int .i64 0, .int .i64 0, .slice none 0 0] 25)))
  have E0 := Lib.hid ((Eb.new (w.alloc (.cells #[.int .i64 x, .int .i64 y, .int .i64 z, .slice h.a h.n h.c] 25)) e p s q).later ((Keeps.refl none' _).alloc (.cells #[.int .i64 0, .int .i64 0, .int .i64 0, .slice none 0 0] 25)))
  have K0 := Lib.hid ((((Keeps.refl none' w).alloc (.cells #[.int .i64 x, .int .i64 y, .int .i64 z, .slice h.a h.n h.c] 25)).alloc (.cells (edCells e p s q).toArray 35)).alloc (.cells #[.int .i64 0, .int .i64 0, .int .i64 0, .slice none 0 0] 25))
  have R0 := Lib.hid (heap_alloc_new ((w.alloc (.cells #[.int .i64 x, .int .i64 y, .int .i64 z, .slice h.a h.n h.c] 25)).alloc (.cells (edCells e p s q).toArray 35)) (.cells #[.int .i64 0, .int .i64 0, .int .i64 0, .slice none 0 0] 25))
  have hs1 : (w.alloc (.cells #[.int .i64 x, .int .i64 y, .int .i64 z, .slice h.a h.n h.c] 25)).heap.size = w.heap.size + 1 := by simp
  have hs2 : ((w.alloc (.cells #[.int .i64 x, .int .i64 y, .int .i64 z, .slice h.a h.n h.c] 25)).alloc (.cells (edCells e p s q).toArray 35)).heap.size = w.heap.size + 1 + 1 := by simp
  rw [hs1] at E0
  rw [hs2] at R0
  clear hs1 hs2 D G
  unfold docV edV
  obtain ⟨EV, hEV⟩ : ∃ EV, EV = (edCells e p s q).toArray := ⟨_, rfl⟩
  rw [← hEV]
  rw [← hEV] at C0 E0 K0 R0
  have HEV := Lib.hid hEV
  have e0v := E0.out.c0
  rw [hk] at e0v
  clear hEV
  obtain ⟨Dk, hDk⟩ : ∃ Dk, Dk = w.heap.size := ⟨_, rfl⟩
  obtain ⟨E, hE⟩ : ∃ E, E = Dk + 1 := ⟨_, rfl⟩
  obtain ⟨Z, hZ⟩ : ∃ Z, Z = E + 1 := ⟨_, rfl⟩
  rw [← hDk] at C0
  rw [← hDk, ← hE] at E0 e0v
  rw [← hDk, ← hE, ← hZ] at R0
  have EE := Lib.hid (And.intro hDk (And.intro hE hZ))
  go_enter Try.func8, Try.ntmps8
  go_upto_region 1 with (fail)
  rw [← hDk, ← hE, ← hZ]
  clear hDk hE hZ
  generalize ((w.alloc (.cells #[.int .i64 x, .int .i64 y, .int .i64 z, .slice h.a h.n h.c] 25)).alloc (.cells EV 35)).alloc (.cells #[.int .i64 0, .int .i64 0, .int .i64 0, .slice none 0 0] 25) = w1 at *
  go_upto_region 2 with ((with_reducible refine (deeds17 w1).mono ?_); rintro en w2 ⟨rfl, f0, hw2⟩; have HW2 := Lib.hid hw2; clear hw2)
  have db := heap_alloc_new w1 (.cells #[f0, .func (.func 30) #[] #[], .func (.func 31) #[] #[], .func (.func 32) #[] #[], .func (.func 33) #[] #[], .func (.func 34) #[] #[], .func (.func 35) #[] #[], .func (.func 36) #[] #[], .func (.func 37) #[] #[], .func (.func 38) #[] #[]] 59)
  rw [← HW2.out] at db
  have DB := Lib.hid db
  have k12 : Keeps none' w1 w2 := by rw [HW2.out]; exact (Keeps.refl none' w1).alloc _
  clear db
  obtain ⟨DD, hDD⟩ : ∃ DD, DD = w1.heap.size := ⟨_, rfl⟩
  rw [← hDD] at DB
  rw [← hDD]
  clear hDD HW2
  have K2 := Lib.hid (K0.out.next k12)
  have C2 := Lib.hid (C0.out.later k12)
  have E2 := Lib.hid (E0.out.later k12)
  have R2 := Lib.hid ((k12.later Z (lt_of_block R0.out)).trans R0.out)
  have e0w := k12.cell e0v
  clear k12 C0 E0 K0 R0 e0v
  have c0 := C2.out.c0
  have c1 := C2.out.c1
  have c2 := C2.out.c2
  have c3 := C2.out.c3
  have cp := copied18 x y z h ls w2 (HD.out.later K2.out)
  unfold docV at cp
  have CP := Lib.hid cp
  clear cp
  go_upto_region 5 with ((with_reducible refine CP.out.mono ?_); rintro en w3 ⟨h', ls', rfl, hcp⟩; have CD := Lib.hid hcp; clear hcp)
  have ka := (Keeps.refl none' w3).alloc (.cells #[.int .i64 x, .int .i64 y, .int .i64 z, .slice h'.a h'.n h'.c] 25)
  have N4 := Lib.hid (Dc.new w3 x y z h')
  have K24 := Lib.hid (CD.out.keeps.next ka)
  have E4 := Lib.hid (E2.out.later K24.out)
  have R4 := Lib.hid ((K24.out.later Z (lt_of_block R2.out)).trans R2.out)
  have D4 := Lib.hid ((K24.out.later DD (lt_of_block DB.out)).trans DB.out)
  have e0 := K24.out.cell e0w
  have K4 := Lib.hid (K2.out.next K24.out)
  obtain ⟨Nx, hNx⟩ : ∃ Nx, Nx = w3.heap.size := ⟨_, rfl⟩
  have W4 := Lib.hid (show Whole w2.heap.size (w3.alloc (.cells #[.int .i64 x, .int .i64 y, .int .i64 z, .slice h'.a h'.n h'.c] 25)) Nx x y z h' ls' from by
    have hB : w2.heap.size ≤ w2.heap.size + 2 := by omega
    refine ⟨by rw [hNx]; exact N4.out, (CD.out.row.later ka).low hB, (CD.out.own.later ka).low hB, CD.out.nodup, fun hm => ?_⟩
    rcases List.mem_append.1 hm with hm | hm
    · have := (CD.out.row.range _ hm).2; omega
    · have := (CD.out.own.range _ hm).2; omega)
  obtain ⟨B2, hB2⟩ : ∃ B2, B2 = w2.heap.size := ⟨_, rfl⟩
  have NB := Lib.hid (show B2 ≤ Nx ∧ Z < B2 ∧ w.heap.size ≤ B2 from by rw [hNx, hB2]; exact ⟨CD.out.keeps.size, lt_of_block R2.out, K2.out.size⟩)
  rw [← hB2] at W4
  have SAME := Lib.hid CD.out.same
  rw [← hNx]
  clear hNx hB2 ka N4 c0 c1 c2 c3 CP CD K24 E2 R2 DB C2 K2 e0w
  generalize w3.alloc (.cells #[.int .i64 x, .int .i64 y, .int .i64 z, .slice h'.a h'.n h'.c] 25) = w4 at *
  have deed := move32 B2 Nx x y z h' ls' e p s q w4.drew (W4.out.later ((Keeps.refl none' w4).drew)) (by rw [SAME.out]; exact HG.out) NB.out.1
  unfold edV at deed
  rw [← HEV.out, SAME.out] at deed
  have DE := Lib.hid (show Calls Try.prog 32 #[.pointer (some ⟨Nx, 0, none⟩), .agg EV] w4.drew (fun en w' => ∃ v : Int, en = .returned (.int .i64 v) ∧ Edited B2 w4.drew Nx x y (z) (moveP (er ls) e.id e.to e.at_) (.returned (.int .i64 v)) w') from deed.mono (fun _ _ h => h.val))
  clear deed
  have r5 : Row35 w4 E := E4.out.row.1
  have r6 : rowAt w4 E = EV := by rw [E4.out.row.2, HEV.out]
  have r5d : Row35 w4.drew E := r5
  have r6d : rowAt w4.drew E = EV := r6
  have fk : w4.cell? ⟨DD, 3, none⟩ = some (.func (.func 32) #[] #[]) := by simp [World.cell?, D4.out]
  go_cut [8] from 23 (fun s8 w' => ∃ v : Int, s8 = .int .i64 v ∧ Edited B2 w4.drew Nx x y (z) (moveP (er ls) e.id e.to e.at_) (.returned (.int .i64 v)) w')
  case first =>
    go_region_law (go_simp; (with_reducible refine DE.out.mono ?_); rintro en w5 ⟨v, rfl, hed⟩)
    all_goals
      go_wp2_with fail
      go_meet
      case rel => exact ⟨v, rfl, hed⟩
  case rest =>
    obtain ⟨v, rfl, hed⟩ := hcut
    have ZW := Lib.hid (show w.heap.size ≤ Z from by have := EE.out; omega)
    clear r5 r6 r5d r6d fk e0
    cases hr : moveP (er ls) e.id e.to e.at_ with
    | error f =>
      rw [hr] at hed
      obtain ⟨hv, hk9⟩ := hed
      simp only [Ending.returned.injEq, Value.int.injEq, true_and] at hv
      subst hv
      have e1 : (v != 0) = true := by simpa using moveP_err hr
      have RS := Lib.hid hr
      have K9 := Lib.hid (keeps_of_from K4.out.drew hk9 NB.out.2.2)
      have R9 := Lib.hid ((hk9.block Z (lt_of_block R4.out) (by have := NB.out; omega)).trans R4.out)
      obtain ⟨⟨r0, r1, r2, r3⟩, rf⟩ := four_cells R9.out
      have f0' := rf 0
      have f1' := rf 1
      have f2' := rf 2
      have f3' := rf 3
      clear rf hr hk9
      go_wp2_with fail
      refine bodyPost_ret (results_cell_row2 rfl _ _ Z 25 _ (0, 0) _ rfl (four_set R9.out _ _ _ _) Try.underlying25 rfl (by kernel_rfl)) rfl ?_
      exact Done.err RS.out (keeps_set4 K9.out ZW.out _ _ _ _)
    | ok lsP =>
      rw [hr] at hed
      obtain ⟨hv, h2, lsL, q1, q2, hk9⟩ := hed
      simp only [Ending.returned.injEq, Value.int.injEq, true_and] at hv
      subst hv
      have RS := Lib.hid hr
      have Q := Lib.hid (And.intro q1 q2)
      have K9 := Lib.hid (keeps_of_from K4.out.drew hk9 NB.out.2.2)
      have R9 := Lib.hid ((hk9.block Z (lt_of_block R4.out) (by have := NB.out; omega)).trans R4.out)
      obtain ⟨⟨r0, r1, r2, r3⟩, rf⟩ := four_cells R9.out
      have f0' := rf 0
      have f1' := rf 1
      have f2' := rf 2
      have f3' := rf 3
      have c0 := Dc.c0 (x := x) (y := y) (z := z) (h := h2) q2.doc
      have c1 := Dc.c1 (x := x) (y := y) (z := z) (h := h2) q2.doc
      have c2 := Dc.c2 (x := x) (y := y) (z := z) (h := h2) q2.doc
      have c3 := Dc.c3 (x := x) (y := y) (z := z) (h := h2) q2.doc
      clear rf hr hk9 q1 q2
      go_wp2_with fail
      refine bodyPost_ret (results_cell_row2 rfl _ _ Z 25 _ (0, 0) _ rfl (four_set R9.out _ _ _ _) Try.underlying25 rfl (by kernel_rfl)) rfl ?_
      refine Done.good RS.out Q.out.1 ?_ (keeps_set4 K9.out ZW.out _ _ _ _)
      have nd := Q.out.2.newD
      exact (nd.keep (keeps_at4 wc Z _ _ _ _) (fun b hb e => by have e' : b = Z := e; have := (nd.range b hb).1; have := NB.out; omega)).low NB.out.2.2
end Go.Proofs.Ytfcpbpfemmdklaa
