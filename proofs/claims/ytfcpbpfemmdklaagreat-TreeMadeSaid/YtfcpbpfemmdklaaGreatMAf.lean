/- Texts of a layer, one behind the other. -/
import Derived.Test.YtfcpbpfemmdklaaGreatMAe
import Derived.Test.YtfcpbpfemmdklaaGreatMAd
/- The layer that an edit adds. -/
namespace Go.Proofs.YtfcpbpfemmdklaaGreat.Tr
open Go.RowKit Go.Lib
set_option linter.unusedSimpArgs false
set_option linter.unusedVariables false

/-- What an edit's cells hold. -/
def edCells (e : PEd) (p s q : Hd) : List Value := [.int .i64 e.kind, .int .i64 e.id, .int .i64 e.to, .int .i64 e.at_, .int .i64 e.n, .int .i64 e.m, .int .i64 e.x, .int .i64 e.y, .int .i64 e.w, .int .i64 e.h, .slice p.a p.n p.c, .slice s.a s.n s.c, .int .i64 e.ma, .int .i64 e.mb, .int .i64 e.mc, .int .i64 e.md, .int .i64 e.me, .int .i64 e.mf, .slice q.a q.n q.c]
def edV (e : PEd) (p s q : Hd) : Value := .agg (edCells e p s q).toArray
/-- An edit in a block of its own. -/
def Eb (w : World) (E : Nat) (e : PEd) (p s q : Hd) : Prop := w.heap[E]? = some (.cells (edCells e p s q).toArray 38 (0, 0))
theorem Eb.lt {w : World} {E : Nat} {e : PEd} {p s q : Hd} (h : Eb w E e p s q) : E < w.heap.size := lt_of_block h
theorem Eb.later {w w' : World} {E : Nat} {e : PEd} {p s q : Hd} (h : Eb w E e p s q) (k : Keeps none' w w') : Eb w' E e p s q := (k.later E h.lt).trans h
theorem Eb.keep {X : Nat → Prop} {w w' : World} {E : Nat} {e : PEd} {p s q : Hd} (h : Eb w E e p s q) (k : Keeps X w w') (hX : ¬ X E) : Eb w' E e p s q := (k.block E h.lt hX).trans h
theorem Eb.new (w : World) (e : PEd) (p s q : Hd) : Eb (w.alloc (.cells (edCells e p s q).toArray 38)) w.heap.size e p s q := heap_alloc_new _ _
theorem Eb.c0 {w : World} {E : Nat} {e : PEd} {p s q : Hd} (h : Eb w E e p s q) : w.cell? ⟨E, 0, none⟩ = some (.int .i64 e.kind) := by simp [World.cell?, show w.heap[E]? = _ from h, edCells]
theorem Eb.c1 {w : World} {E : Nat} {e : PEd} {p s q : Hd} (h : Eb w E e p s q) : w.cell? ⟨E, 1, none⟩ = some (.int .i64 e.id) := by simp [World.cell?, show w.heap[E]? = _ from h, edCells]
theorem Eb.c2 {w : World} {E : Nat} {e : PEd} {p s q : Hd} (h : Eb w E e p s q) : w.cell? ⟨E, 2, none⟩ = some (.int .i64 e.to) := by simp [World.cell?, show w.heap[E]? = _ from h, edCells]
theorem Eb.c3 {w : World} {E : Nat} {e : PEd} {p s q : Hd} (h : Eb w E e p s q) : w.cell? ⟨E, 3, none⟩ = some (.int .i64 e.at_) := by simp [World.cell?, show w.heap[E]? = _ from h, edCells]
theorem Eb.c4 {w : World} {E : Nat} {e : PEd} {p s q : Hd} (h : Eb w E e p s q) : w.cell? ⟨E, 4, none⟩ = some (.int .i64 e.n) := by simp [World.cell?, show w.heap[E]? = _ from h, edCells]
theorem Eb.c5 {w : World} {E : Nat} {e : PEd} {p s q : Hd} (h : Eb w E e p s q) : w.cell? ⟨E, 5, none⟩ = some (.int .i64 e.m) := by simp [World.cell?, show w.heap[E]? = _ from h, edCells]
theorem Eb.c6 {w : World} {E : Nat} {e : PEd} {p s q : Hd} (h : Eb w E e p s q) : w.cell? ⟨E, 6, none⟩ = some (.int .i64 e.x) := by simp [World.cell?, show w.heap[E]? = _ from h, edCells]
theorem Eb.c7 {w : World} {E : Nat} {e : PEd} {p s q : Hd} (h : Eb w E e p s q) : w.cell? ⟨E, 7, none⟩ = some (.int .i64 e.y) := by simp [World.cell?, show w.heap[E]? = _ from h, edCells]
theorem Eb.c8 {w : World} {E : Nat} {e : PEd} {p s q : Hd} (h : Eb w E e p s q) : w.cell? ⟨E, 8, none⟩ = some (.int .i64 e.w) := by simp [World.cell?, show w.heap[E]? = _ from h, edCells]
theorem Eb.c9 {w : World} {E : Nat} {e : PEd} {p s q : Hd} (h : Eb w E e p s q) : w.cell? ⟨E, 9, none⟩ = some (.int .i64 e.h) := by simp [World.cell?, show w.heap[E]? = _ from h, edCells]
theorem Eb.c10 {w : World} {E : Nat} {e : PEd} {p s q : Hd} (h : Eb w E e p s q) : w.cell? ⟨E, 10, none⟩ = some (.slice p.a p.n p.c) := by simp [World.cell?, show w.heap[E]? = _ from h, edCells]
theorem Eb.c11 {w : World} {E : Nat} {e : PEd} {p s q : Hd} (h : Eb w E e p s q) : w.cell? ⟨E, 11, none⟩ = some (.slice s.a s.n s.c) := by simp [World.cell?, show w.heap[E]? = _ from h, edCells]
theorem Eb.c18 {w : World} {E : Nat} {e : PEd} {p s q : Hd} (h : Eb w E e p s q) : w.cell? ⟨E, 18, none⟩ = some (.slice q.a q.n q.c) := by simp [World.cell?, show w.heap[E]? = _ from h, edCells]
/-- The layer as it is built first. -/
def plain48 (z n : Int) : List Value := cells19 ⟨z, n, false, 255, 0, 0, 0, [], [], 65536, 0, 0, 65536, 0, 0, false, 2, []⟩ Hd.nil Hd.nil Hd.nil Hd.nil
def One19 (cs : Array Value) : Prop := cs.size = 19 ∧ cs.all (·.oneCell') = true
theorem stx48 {ev : Operand → Value} {x y : Operand} {w : World} {d : Option Tmp} {t : TypeId} {p : String} {af} {g} (h : ev x = .pointer (some ⟨ptrBlock (ev x), 0, none⟩)) (h2 : ev y = .agg (aggCells (ev y))) (r : Row48 w (ptrBlock (ev x))) (r3 : One19 (aggCells (ev y))) :
    (execOp ev { dst := d, op := Op.store 51 x y, type := t, pos := p, after := af, guard := g }).run Tryz.prog w = .ok .skip (w.setRow (ptrBlock (ev x)) (aggCells (ev y))) := by
  obtain ⟨cs, h3, h4⟩ := r
  obtain ⟨r2, r3⟩ := r3
  unfold execOp
  generalize ptrBlock (ev x) = b at *
  generalize aggCells (ev y) = cy at *
  simp only [h, h2, Instr.storeAt, Instr.sureAddr, Sem.run_bind, Sem.run_pure, Result.andThen_ok, run_storeVar_row w b 51 51 cs cy h3 (by rw [r2]; exact size48) (h4.trans r2.symm) r3]
attribute [local go_sem ↓] ld48 ldv48 ldx48 bsx48 stx48
attribute [local go_sem] ptrBlock_some aggCells_agg
theorem row_new (w : World) : Row48 (w.alloc Z48) w.heap.size := ⟨_, heap_alloc_new _ _, rfl⟩
theorem row_later {w w' : World} {b : Nat} (r : Row48 w b) (k : Keeps none' w w') : Row48 w' b := by
  obtain ⟨cs, h1, h2⟩ := r
  exact ⟨cs, (k.later b (lt_of_block h1)).trans h1, h2⟩
theorem plain_all (z n : Int) : One19 (plain48 z n).toArray := by
  refine ⟨rfl, ?_⟩
  rw [Array.all_eq_true_iff_forall_mem]
  intro u hu
  have h : u ∈ plain48 z n := by simpa using hu
  exact Loc.cells_one (.mk ⟨z, n, false, 255, 0, 0, 0, [], [], 65536, 0, 0, 65536, 0, 0, false, 2, []⟩ Hd.nil Hd.nil Hd.nil Hd.nil []) u h
theorem run_make_ints (k : Nat) (hk : k ≤ 4194304) (w : World) : (Instr.makeSlice 33 (.int .i64 (k : Int)) (.int .i64 (k : Int))).run Tryz.prog w = .ok (.slice (some ⟨w.heap.size, 0, none⟩) k k) (w.alloc (.cells (madeCells #[.int .i64 0] k) 3)) := by
  obtain ⟨i, hi, hzz⟩ := Option.map_eq_some_iff.1 info3
  simp only [Prod.mk.injEq] at hzz
  obtain ⟨hz, hs, hb⟩ := hzz
  have hr := run_make (P := Tryz.prog) w 33 3 i _ Tryz.underlying33 hi hz .i64 .i64 k k (by omega) (Int.le_refl _) (by rw [hb]; omega) (by omega)
  simp only [Int.toNat_natCast, hs, Nat.mul_one] at hr
  exact hr
theorem made_ints (k : Nat) : (madeCells #[.int .i64 0] k).toList = ints (List.replicate k 0) := by
  refine List.ext_getElem (by simp [madeCells, ints]) (fun i h1 h2 => ?_)
  simp [madeCells, ints, Nat.mod_one]
theorem made_own {B N g : Nat} {W : World} (hB : B ≤ g) (bM : W.heap[g]? = some (.cells (madeCells #[.int .i64 0] N) 3 (0, 0))) (hN : N ≤ 4194304) : OwnR B W 3 1 ⟨some ⟨g, 0, none⟩, N, N⟩ (ints (List.replicate N 0)) := by
  have hl : (ints (List.replicate N 0)).length = N * 1 := by simp [ints]
  refine ⟨⟨hl, .inr ⟨g, N, madeCells #[.int .i64 0] N, rfl, hB, bM, Nat.le_refl _, by unfold maxLen; omega, by rw [size_madeCells]; omega, ?_⟩⟩, ints_one _, by show N ≤ 536870912; omega⟩
  rw [made_ints]; exact List.take_of_length_le (Nat.le_of_eq hl)
theorem fresh_fin {N L g B : Nat} {z n ew eh : Int} {w wc W : World} {c : Array Value} (hL : w.heap.size ≤ L) (kw : Keeps none' w wc) (k : Keeps (fun q => q = L) wc W) (bL : W.heap[L]? = some (.cells c 51 (0, 0)))
    (hc : c = (cells19 ⟨z, n, false, 255, 0, ew, eh, List.replicate N 0, [], 65536, 0, 0, 65536, 0, 0, false, 2, []⟩ ⟨some ⟨g, 0, none⟩, N, N⟩ Hd.nil Hd.nil Hd.nil).toArray) (hg : B ≤ g) (bM : W.heap[g]? = some (.cells (madeCells #[.int .i64 0] N) 3 (0, 0))) (hN : N ≤ 4194304) (D : Dat) (hD : D = ⟨z, n, false, 255, 0, ew, eh, List.replicate N 0, [], 65536, 0, 0, 65536, 0, 0, false, 2, []⟩) {Z : Nat} (rZ : Row48 W Z) :
    ∃ p' : Hd, W.heap[L]? = some (.cells (cells19 D p' Hd.nil Hd.nil Hd.nil).toArray 51 (0, 0)) ∧ OwnR B W 3 1 p' (ints D.p) ∧ Keeps none' w W ∧ Row48 W Z ∧ L < W.heap.size := by
  subst hD hc
  exact ⟨_, bL, made_own hg bM hN, kw.trans k (fun q hq e => by have e' : q = L := e; omega), rZ, lt_of_block bL⟩
theorem row_keep1 {X : Nat → Prop} {w w' : World} {b : Nat} (r : Row48 w b) (k : Keeps X w w') (hX : ¬ X b) : Row48 w' b := by
  obtain ⟨cs, h1, h2⟩ := r
  exact ⟨cs, (k.block b (lt_of_block h1) hX).trans h1, h2⟩
theorem made_at {w W : World} {N L : Nat} {i : Nat} {v : Value} (hL : L ≠ w.heap.size) (h : W.heap[w.heap.size]? = some (.cells (madeCells #[.int .i64 0] N) 3 (0, 0))) : (W.setCell ⟨L, i, none⟩ v).heap[w.heap.size]? = some (.cells (madeCells #[.int .i64 0] N) 3 (0, 0)) := (Below.heap_setCell _ _ _ _ (fun e => hL e.symm)).trans h
theorem L48 {w : World} {L : Nat} {z n : Int} (h : w.heap[L]? = some (.cells (plain48 z n).toArray 51 (0, 0))) : (w.cell? ⟨L, 5, none⟩ = some (.int .i64 0) ∧ w.cell? ⟨L, 6, none⟩ = some (.int .i64 0) ∧ w.cell? ⟨L, 7, none⟩ = some (.slice none 0 0)) ∧ ∀ i, w.frozen? ⟨L, i, none⟩ = false := by
  refine ⟨⟨?_, ?_, ?_⟩, fun i => ?_⟩ <;> simp [World.cell?, World.frozen?, h, plain48, cells19, Hd.nil]
set_option maxRecDepth 100000 in
set_option maxHeartbeats 1600000 in
theorem fresh49 (R : Nat) (x y z : Int) (h : Hd) (e : PEd) (p s q : Hd) (w : World) (C : Dc w R x y z h) (hfd : e.n = 0 → areaP e.w e.h = true) :
    Calls Tryz.prog 76 #[.pointer (some ⟨R, 0, none⟩), edV e p s q] w fun en w' => ∃ p' : Hd, en = .returned (.agg (cells19 (freshD z e.n e.w e.h) p' Hd.nil Hd.nil Hd.nil).toArray) ∧ OwnR w.heap.size w' 3 1 p' (ints (freshD z e.n e.w e.h).p) ∧ Keeps none' w w' := by
  have HC := Lib.hid C
  have E0 := Lib.hid ((Eb.new w e p s q).later ((Keeps.refl none' _).alloc Z48))
  have K0 := Lib.hid (((Keeps.refl none' w).alloc (.cells (edCells e p s q).toArray 38)).alloc Z48)
  have R0 := Lib.hid (heap_alloc_new (w.alloc (.cells (edCells e p s q).toArray 38)) Z48)
  have hs : (w.alloc (.cells (edCells e p s q).toArray 38)).heap.size = w.heap.size + 1 := by simp
  have Z0 := Lib.hid (show ((w.alloc (.cells (edCells e p s q).toArray 38)).alloc Z48).heap.size = w.heap.size + 2 from by simp)
  rw [hs] at R0
  clear hs C
  unfold edV
  obtain ⟨EV, hEV⟩ : ∃ EV, EV = (edCells e p s q).toArray := ⟨_, rfl⟩
  rw [← hEV]
  rw [← hEV] at E0 K0 R0 Z0
  clear hEV
  unfold Z48 at E0 K0 R0 Z0
  go_enter Tryz.func76, Tryz.ntmps76
  go_upto_region 1 with (fail)
  generalize (w.alloc (.cells EV 38)).alloc _ = w1 at *
  obtain ⟨E, hE⟩ : ∃ E, E = w.heap.size := ⟨_, rfl⟩
  obtain ⟨Z, hZ⟩ : ∃ Z, Z = E + 1 := ⟨_, rfl⟩
  rw [← hE] at E0 Z0
  rw [← hE, ← hZ] at R0
  rw [← hE, ← hZ]
  have EE := Lib.hid (And.intro hE hZ)
  clear hE hZ
  have C1 := Lib.hid (HC.out.later K0.out)
  have c2 := C1.out.c2
  have e4 := E0.out.c4
  have rn := row_new w1
  have rn2 := row_new w1.drew
  have pa := plain_all z e.n
  simp only [plain48, cells19, Hd.nil] at pa
  have c2b := ((Keeps.refl none' w1).alloc Z48).cell c2
  have e4b := ((Keeps.refl none' w1).alloc Z48).cell e4
  unfold Z48 at rn rn2 c2b e4b
  go_cut [5] from 6 (fun s5 w' => ∃ L, s5 = .pointer (some ⟨L, 0, none⟩) ∧ w'.heap[L]? = some (.cells (plain48 z e.n).toArray 51 (0, 0)) ∧ Keeps none' w1 w' ∧ w1.heap.size ≤ L)
  case first =>
    go_region_law (go_simp; (with_reducible refine (one66 _).mono ?_); rintro en w3 ⟨rfl, hk3⟩; have k13 : Keeps none' w1 w3 := (by first | exact (Keeps.refl none' w1).drew.next hk3 | exact ((Keeps.refl none' w1).alloc _).drew.next hk3 | exact ((Keeps.refl none' w1).drew.alloc _).next hk3); have c2' := k13.cell c2; have e4' := k13.cell e4; have q1 := row_new w3; have c2a := ((Keeps.refl none' w3).alloc Z48).cell c2'; have e4a := ((Keeps.refl none' w3).alloc Z48).cell e4'; unfold Z48 at q1 c2a e4a; first | (have q2 := row_later (w := (w1.alloc Z48).drew) (row_new w1) hk3) | skip)
    all_goals
      go_wp2_with fail
      go_meet
      case rel =>
        first
          | exact ⟨w3.heap.size, rfl, setRow_heap _ _ _ _ _ _ (heap_alloc_new w3 Z48), (k13.alloc Z48).setRow k13.size _, k13.size⟩
          | (obtain ⟨cs, g1, g2⟩ := q2; exact ⟨w1.heap.size, rfl, setRow_heap _ _ _ _ _ _ g1, k13.setRow (Nat.le_refl _) _, Nat.le_refl _⟩)
  case rest =>
    obtain ⟨L, rfl, lb, k1, ls⟩ := hcut
    have K2 := Lib.hid (K0.out.next k1)
    have E2 := Lib.hid (E0.out.later k1)
    have R2 := Lib.hid ((k1.later Z (lt_of_block R0.out)).trans R0.out)
    have LB := Lib.hid lb
    have LS := Lib.hid (And.intro ls (And.intro k1.size (lt_of_block lb)))
    clear lb k1 ls c2 e4 c2b e4b rn rn2 pa K0 E0 R0
    have e4 := E2.out.c4
    have FD := Lib.hid hfd
    by_cases hn : e.n = 0
    · have en0 : (e.n == 0) = true := by simpa using hn
      have HA := FD.out hn
      have bx := side_bounds (show sideP e.w = true from by unfold areaP at HA; simp only [Bool.and_eq_true] at HA; exact HA.1)
      have bY := side_bounds (show sideP e.h = true from by unfold areaP at HA; simp only [Bool.and_eq_true] at HA; exact HA.2.1)
      have hm0 : 0 ≤ e.w * e.h := Int.mul_nonneg (by omega) (by omega)
      have hm1 : e.w * e.h ≤ 4194304 := by unfold areaP at HA; simp only [Bool.and_eq_true, decide_eq_true_eq] at HA; exact HA.2.2
      obtain ⟨N, hN⟩ : ∃ N : Nat, (N : Int) = e.w * e.h := ⟨(e.w * e.h).toNat, by omega⟩
      have wm : IntKind.i64.wrap (e.w * e.h) = (N : Int) := by rw [hN]; exact wrap_i64 _ (by omega) (by omega)
      have wm2 : wrap64 (e.w * e.h) = (N : Int) := by rw [hN]; exact wrap64_id _ (by omega) (by omega)
      have hN4 : N ≤ 4194304 := by omega
      have hmk := run_make_ints N hN4
      have eF : freshD z e.n e.w e.h = ⟨z, e.n, false, 255, 0, e.w, e.h, List.replicate N 0, [], 65536, 0, 0, 65536, 0, 0, false, 2, []⟩ := by
        unfold freshD
        rw [if_pos hn, show (e.w * e.h).toNat = N by omega]
      have HF := Lib.hid (And.intro eF hN4)
      clear bx bY hm0 hm1 hN hN4 HA eF hn
      have e8 := E2.out.c8
      have e9 := E2.out.c9
      have LC := Lib.hid (L48 LB.out)
      obtain ⟨⟨l5, l6, l7⟩, lf⟩ := L48 LB.out
      have lf5 := lf 5
      have lf6 := lf 6
      have lf7 := lf 7
      clear lf
      go_upto_if 16 with (fail)
      go_cut [] from 17 (fun w' => ∃ p' : Hd, w'.heap[L]? = some (.cells (cells19 (freshD z e.n e.w e.h) p' Hd.nil Hd.nil Hd.nil).toArray 51 (0, 0)) ∧ OwnR (Z + 1) w' 3 1 p' (ints (freshD z e.n e.w e.h).p) ∧ Keeps none' w w' ∧ Row48 w' Z ∧ L < w'.heap.size)
      case first =>
        have ka := Lib.hid ((Keeps.refl none' wc).alloc (.cells (madeCells #[.int .i64 0] N) 3))
        have e8a := ka.out.cell e8
        have e9a := ka.out.cell e9
        have l5a := ka.out.cell l5
        have l6a := ka.out.cell l6
        have l7a := ka.out.cell l7
        have f5a := ka.out.frozenS (fun h => h) LS.out.2.2 lf5
        have f6a := ka.out.frozenS (fun h => h) LS.out.2.2 lf6
        have f7a := ka.out.frozenS (fun h => h) LS.out.2.2 lf7
        have hEL : ¬ E = L := by have h1 := LS.out.1; have h2 := Z0.out; have h3 := EE.out; omega
        have g8 : ∀ W : World, Keeps (fun q => q = L) wc W → W.cell? ⟨E, 8, none⟩ = some (.int .i64 e.w) ∧ W.cell? ⟨E, 9, none⟩ = some (.int .i64 e.h) := fun W k => ⟨k.cellS hEL e8, k.cellS hEL e9⟩
        have k5 := keeps_at wc L 5 (.int .i64 e.w)
        have k56 := k5.trans (keeps_at (wc.setCell ⟨L, 5, none⟩ (.int .i64 e.w)) L 6 (.int .i64 e.h)) (fun _ _ e => e)
        have b5 := block_set (i := 5) LB.out (.int .i64 e.w)
        have b56 := block_set (i := 6) b5 (.int .i64 e.h)
        have a5 := ((Keeps.refl none' (wc.setCell ⟨L, 5, none⟩ (.int .i64 e.w))).alloc (.cells (madeCells #[.int .i64 0] N) 3))
        have a56 := ((Keeps.refl none' ((wc.setCell ⟨L, 5, none⟩ (.int .i64 e.w)).setCell ⟨L, 6, none⟩ (.int .i64 e.h))).alloc (.cells (madeCells #[.int .i64 0] N) 3))
        have q5 := (a5.later L (lt_of_block b5)).trans b5
        have q56 := (a56.later L (lt_of_block b56)).trans b56
        have m6 : ((wc.setCell ⟨L, 5, none⟩ (.int .i64 e.w)).alloc (.cells (madeCells #[.int .i64 0] N) 3)).cell? ⟨L, 6, none⟩ = some (.int .i64 0) := by simp [World.cell?, q5, plain48, cells19]
        have m7 : ((wc.setCell ⟨L, 5, none⟩ (.int .i64 e.w)).alloc (.cells (madeCells #[.int .i64 0] N) 3)).cell? ⟨L, 7, none⟩ = some (.slice none 0 0) := by simp [World.cell?, q5, plain48, cells19, Hd.nil]
        have n6 : ((wc.setCell ⟨L, 5, none⟩ (.int .i64 e.w)).alloc (.cells (madeCells #[.int .i64 0] N) 3)).frozen? ⟨L, 6, none⟩ = false := by simp [World.frozen?, q5]
        have n7 : ((wc.setCell ⟨L, 5, none⟩ (.int .i64 e.w)).alloc (.cells (madeCells #[.int .i64 0] N) 3)).frozen? ⟨L, 7, none⟩ = false := by simp [World.frozen?, q5]
        have m77 : (((wc.setCell ⟨L, 5, none⟩ (.int .i64 e.w)).setCell ⟨L, 6, none⟩ (.int .i64 e.h)).alloc (.cells (madeCells #[.int .i64 0] N) 3)).cell? ⟨L, 7, none⟩ = some (.slice none 0 0) := by simp [World.cell?, q56, plain48, cells19, Hd.nil]
        have n77 : (((wc.setCell ⟨L, 5, none⟩ (.int .i64 e.w)).setCell ⟨L, 6, none⟩ (.int .i64 e.h)).alloc (.cells (madeCells #[.int .i64 0] N) 3)).frozen? ⟨L, 7, none⟩ = false := by simp [World.frozen?, q56]
        obtain ⟨e85, e95⟩ := g8 _ k5
        obtain ⟨e856, e956⟩ := g8 _ k56
        have e85a := a5.cell e85
        have e95a := a5.cell e95
        have e856a := a56.cell e856
        have e956a := a56.cell e956
        have KK := Lib.hid (And.intro k5 (And.intro k56 (And.intro a5 a56)))
        have BB := Lib.hid (And.intro b5 (And.intro b56 (And.intro q5 q56)))
        clear k5 k56 a5 a56 b5 b56 q5 q56 g8
        go_upto_region 3 with (fail)
        have hne : L ≠ wc.heap.size := by have := LS.out.2.2; omega
        have hLw : w.heap.size ≤ L := by have h1 := LS.out.1; have h2 := Z0.out; have h3 := EE.out; omega
        have hZL : ¬ Z = L := by have h1 := LS.out.1; have h2 := Z0.out; have h3 := EE.out; omega
        have ZR := Lib.hid (show Row48 wc Z from ⟨_, R2.out, rfl⟩)
        have NE := Lib.hid (And.intro hne (And.intro hLw hZL))
        have SW := Lib.hid (show Z + 1 ≤ wc.heap.size from lt_of_block R2.out)
        clear hne hLw hZL
        go_region
        · go_wp2_with fail
          go_meet
          case rel =>
            obtain ⟨k5, k56, a5, a56⟩ := KK.out
            obtain ⟨b5, b56, q5, q56⟩ := BB.out
            have k7 := (((k5.trans (keeps_weak a5 (fun _ _ h => h.elim)) (fun _ _ e => e)).trans (keeps_at _ L 6 (.int .i64 e.h)) (fun _ _ e => e)).trans (keeps_at _ L 7 (.slice (some ⟨wc.heap.size, 0, none⟩) N N)) (fun _ _ e => e)).drew
            exact fresh_fin NE.out.2.1 K2.out k7 (block_set (i := 7) (block_set (i := 6) q5 _) _) rfl SW.out (made_at NE.out.1 (made_at NE.out.1 (by have := heap_alloc_new (wc.setCell ⟨L, 5, none⟩ (.int .i64 e.w)) (.cells (madeCells #[.int .i64 0] N) 3); simpa [World.setCell] using this))) HF.out.2 _ HF.out.1 (row_keep1 ZR.out k7 NE.out.2.2)
        · go_wp2_with fail
          go_meet
          case rel =>
            obtain ⟨k5, k56, a5, a56⟩ := KK.out
            obtain ⟨b5, b56, q5, q56⟩ := BB.out
            have k7 := ((k56.trans (keeps_weak a56 (fun _ _ h => h.elim)) (fun _ _ e => e)).trans (keeps_at _ L 7 (.slice (some ⟨wc.heap.size, 0, none⟩) N N)) (fun _ _ e => e)).drew
            exact fresh_fin NE.out.2.1 K2.out k7 (block_set (i := 7) q56 _) rfl SW.out (made_at NE.out.1 (by have := heap_alloc_new ((wc.setCell ⟨L, 5, none⟩ (.int .i64 e.w)).setCell ⟨L, 6, none⟩ (.int .i64 e.h)) (.cells (madeCells #[.int .i64 0] N) 3); simpa [World.setCell] using this)) HF.out.2 _ HF.out.1 (row_keep1 ZR.out k7 NE.out.2.2)
        · go_wp2_with fail
          go_meet
          case rel =>
            have k7 := ((((keeps_weak (Y := fun q => q = L) ka.out (fun _ _ h => h.elim)).trans (keeps_at _ L 5 (.int .i64 e.w)) (fun _ _ e => e)).trans (keeps_at _ L 6 (.int .i64 e.h)) (fun _ _ e => e)).trans (keeps_at _ L 7 (.slice (some ⟨wc.heap.size, 0, none⟩) N N)) (fun _ _ e => e)).drew
            exact fresh_fin NE.out.2.1 K2.out k7 (block_set (i := 7) (block_set (i := 6) (block_set (i := 5) ((ka.out.later L LS.out.2.2).trans LB.out) _) _) _) rfl SW.out (made_at NE.out.1 (made_at NE.out.1 (made_at NE.out.1 (heap_alloc_new wc _)))) HF.out.2 _ HF.out.1 (row_keep1 ZR.out k7 NE.out.2.2)
      case rest =>
        clear e8 e9 l5 l6 l7 lf5 lf6 lf7 e4 en0
        obtain ⟨p', lb3, op3, k3, rz3, ll3⟩ := hcut
        have SZ : (Tryz.prog.info? 51).map (·.size) = some (cells19 (freshD z e.n e.w e.h) p' Hd.nil Hd.nil Hd.nil).toArray.size := by exact size48
        have AL := Lib.hid (show (cells19 (freshD z e.n e.w e.h) p' Hd.nil Hd.nil Hd.nil).toArray.all (·.oneCell') = true from by
          rw [Array.all_eq_true_iff_forall_mem]
          intro u hu
          have h : u ∈ cells19 (freshD z e.n e.w e.h) p' Hd.nil Hd.nil Hd.nil := by simpa using hu
          exact Loc.cells_one (.mk (freshD z e.n e.w e.h) p' Hd.nil Hd.nil Hd.nil []) u h)
        obtain ⟨zs, rz4, rz5⟩ := rz3
        have LB3 := Lib.hid lb3
        have OP3 := Lib.hid op3
        have K3 := Lib.hid k3
        clear lb3 op3 k3
        go_wp2_with (first
          | (refine wpList_load_row rfl 51 _ rfl L rfl 51 (cells19 (freshD z e.n e.w e.h) p' Hd.nil Hd.nil Hd.nil).toArray (0, 0) _ LB3.out Tryz.underlying51 rfl SZ ?_)
          | (refine wpList_store_row rfl 51 _ _ rfl Z (cells19 (freshD z e.n e.w e.h) p' Hd.nil Hd.nil Hd.nil).toArray rfl rfl 51 _ rz4 SZ rz5 AL.out ?_))
        refine bodyPost_ret (results_cell_row rfl _ _ Z 51 (cells19 (freshD z e.n e.w e.h) p' Hd.nil Hd.nil Hd.nil).toArray (0, 0) _ rfl (setRow_heap _ _ _ _ _ _ rz4) Tryz.underlying51 rfl SZ) rfl ?_
        have hZw : w.heap.size ≤ Z := by have := EE.out; omega
        have hZp : ∀ x, p'.a = some x → ¬ (x.block = Z) := by
          intro x hx e'
          have h1 := (OP3.out.read.2 x hx).1
          omega
        exact ⟨p', rfl, (OP3.out.keep (keeps_row _ Z _) hZp).low (by omega), K3.out.setRow hZw _⟩
    · have en0 : (e.n == 0) = false := by simpa using hn
      have eD : cells19 (freshD z e.n e.w e.h) Hd.nil Hd.nil Hd.nil Hd.nil = plain48 z e.n := by unfold freshD; rw [if_neg hn]; rfl
      have eP : (freshD z e.n e.w e.h).p = [] := by unfold freshD; rw [if_neg hn]
      have SZ : (Tryz.prog.info? 51).map (·.size) = some (plain48 z e.n).toArray.size := by exact size48
      have AL := Lib.hid (plain_all z e.n)
      have HE := Lib.hid (And.intro eD eP)
      clear eD eP hn
      go_wp2_with (first
        | (refine wpList_load_row rfl 51 _ rfl L rfl 51 (plain48 z e.n).toArray (0, 0) _ LB.out Tryz.underlying51 rfl SZ ?_)
        | (refine wpList_store_row rfl 51 _ _ rfl Z (plain48 z e.n).toArray rfl rfl 51 _ R2.out SZ rfl AL.out.2 ?_))
      refine bodyPost_ret (results_cell_row rfl _ _ Z 51 (plain48 z e.n).toArray (0, 0) _ rfl (setRow_heap _ _ _ _ _ _ R2.out) Tryz.underlying51 rfl SZ) rfl ?_
      refine ⟨Hd.nil, by rw [HE.out.1], ?_, K2.out.setRow (by have := EE.out; omega) _⟩
      rw [HE.out.2]
      exact ⟨⟨rfl, .inl ⟨rfl, rfl⟩⟩, fun u hu => (by cases hu), by show 0 ≤ _; omega⟩
end Go.Proofs.YtfcpbpfemmdklaaGreat.Tr
