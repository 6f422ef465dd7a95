/- Texts of a layer, one behind the other. -/
import Derived.Test.YtfcpbpfemmdklaaGreatMAb
import Derived.Deep.RegionHeld3
import Derived.Deep.MidRow
import Derived.Test.YtfcpbpfemmdklaaGreatMAa
import Derived.Deep.Cut
/- A layer put into a row. (printed by genTM.py) -/
namespace Go.Proofs.YtfcpbpfemmdklaaGreat.Tr
open Go.RowKit Go.Lib
set_option linter.unusedSimpArgs false
set_option linter.unusedVariables false

theorem Keeps.cellS {X : Nat → Prop} {w w' : World} (h : Keeps X w w') {p : Addr} {v : Value} (hX : ¬ X p.block) (hc : w.cell? p = some v) : w'.cell? p = some v := by
  have hb := World.block_lt_of_cell? w _ hc
  exact (World.cell?_of_block (w := w) (h.block p.block hb hX)).trans hc
theorem Keeps.frozenS {X : Nat → Prop} {w w' : World} (h : Keeps X w w') {p : Addr} (hX : ¬ X p.block) (hb : p.block < w.heap.size) (hc : w.frozen? p = false) : w'.frozen? p = false := by
  have e := h.block p.block hb hX
  unfold World.frozen? at hc ⊢
  rw [e]
  exact hc
/-- The layer that lies in a block of its own. -/
def rowAt (w : World) (b : Nat) : Array Value := match w.heap[b]? with | some (.cells cs _ _) => cs | _ => #[]
def Row48 (w : World) (b : Nat) : Prop := ∃ cs, w.heap[b]? = some (.cells cs 51 (0, 0)) ∧ cs.size = 19
theorem row_keep {X : Nat → Prop} {w w' : World} (h : Keeps X w w') {b : Nat} {cs : Array Value} (hX : ¬ X b) (hc : Row48 w b ∧ rowAt w b = cs) : Row48 w' b ∧ rowAt w' b = cs := by
  obtain ⟨⟨c, h1, h2⟩, h3⟩ := hc
  have e := h.block b (lt_of_block h1) hX
  refine ⟨⟨c, e.trans h1, h2⟩, ?_⟩
  unfold rowAt at h3 ⊢
  rw [e]
  exact h3
theorem ld48 {w : World} {b : Nat} (h : Row48 w b) : (Instr.loadAt 51 (.pointer (some ⟨b, 0, none⟩))).run Tryz.prog w = .ok (.agg (rowAt w b)) w := by
  obtain ⟨cs, h1, h2⟩ := h
  simp only [Instr.loadAt, Instr.sureAddr, Sem.run_bind, Sem.run_pure, Result.andThen_ok]
  rw [run_loadVar_row w b 51 51 cs (0, 0) _ h1 Tryz.underlying51 rfl (by rw [h2]; exact size48)]
  unfold rowAt
  rw [h1]
theorem ldv48 {w : World} {b : Nat} (h : Row48 w b) : (loadVar 51 ⟨b, 0, none⟩).run Tryz.prog w = .ok (.agg (rowAt w b)) w := by
  obtain ⟨cs, h1, h2⟩ := h
  rw [run_loadVar_row w b 51 51 cs (0, 0) _ h1 Tryz.underlying51 rfl (by rw [h2]; exact size48)]
  unfold rowAt
  rw [h1]
/-- Where a pointer points. -/
def ptrBlock : Value → Nat
  | .pointer (some a) => a.block
  | _ => 0
theorem ptrBlock_some (b i : Nat) : ptrBlock (.pointer (some ⟨b, i, none⟩)) = b := rfl
theorem ldx48 {ev : Operand → Value} {x : Operand} {w : World} {d : Option Tmp} {t : TypeId} {p : String} {af} {g} (h : ev x = .pointer (some ⟨ptrBlock (ev x), 0, none⟩)) (r : Row48 w (ptrBlock (ev x))) :
    (execOp ev { dst := d, op := Op.load 51 x, type := t, pos := p, after := af, guard := g }).run Tryz.prog w = .ok (.value (.agg (rowAt w (ptrBlock (ev x))))) w := by
  unfold execOp
  generalize ptrBlock (ev x) = b at *
  simp only [h, Instr.loadAt, Instr.sureAddr, Sem.run_bind, Sem.run_pure, Result.andThen_ok, ldv48 r]
theorem range_hold {X : Nat → Prop} {w w' : World} (h : Keeps X w w') {b o : Nat} {cs : List Value} (hX : ¬ X b) (hc : w.rangeAt b o cs) : w'.rangeAt b o cs := fun j v hj => h.cellS (p := ⟨b, o + j, none⟩) hX (hc j v hj)
theorem held_drew {R kb ko L : Nat} {h : Hd} {x : Loc} {w : World} (s : w.cell? ⟨R, 1, none⟩ = some (.pointer (some ⟨kb, ko, none⟩)) ∧ w.cell? ⟨kb, ko, none⟩ = some (.slice h.a h.n h.c) ∧ Row48 w L ∧ rowAt w L = x.cells.toArray) : w.drew.cell? ⟨R, 1, none⟩ = some (.pointer (some ⟨kb, ko, none⟩)) ∧ w.drew.cell? ⟨kb, ko, none⟩ = some (.slice h.a h.n h.c) ∧ Row48 w.drew L ∧ rowAt w.drew L = x.cells.toArray := s
theorem held_alloc {R kb ko L : Nat} {h : Hd} {x : Loc} {w : World} (s : w.cell? ⟨R, 1, none⟩ = some (.pointer (some ⟨kb, ko, none⟩)) ∧ w.cell? ⟨kb, ko, none⟩ = some (.slice h.a h.n h.c) ∧ Row48 w L ∧ rowAt w L = x.cells.toArray) (o : Obj) : (w.alloc o).cell? ⟨R, 1, none⟩ = some (.pointer (some ⟨kb, ko, none⟩)) ∧ (w.alloc o).cell? ⟨kb, ko, none⟩ = some (.slice h.a h.n h.c) ∧ Row48 (w.alloc o) L ∧ rowAt (w.alloc o) L = x.cells.toArray :=
  ⟨((Keeps.refl none' w).alloc o).cell s.1, ((Keeps.refl none' w).alloc o).cell s.2.1, row_keep ((Keeps.refl none' w).alloc o) (fun h => h) s.2.2⟩
theorem list19 (l : List Value) (h : l.length = 19) : ∃ a0 a1 a2 a3 a4 a5 a6 a7 a8 a9 a10 a11 a12 a13 a14 a15 a16 a17 a18, l = [a0, a1, a2, a3, a4, a5, a6, a7, a8, a9, a10, a11, a12, a13, a14, a15, a16, a17, a18] := by
  match l, h with
  | [a0, a1, a2, a3, a4, a5, a6, a7, a8, a9, a10, a11, a12, a13, a14, a15, a16, a17, a18], _ => exact ⟨a0, a1, a2, a3, a4, a5, a6, a7, a8, a9, a10, a11, a12, a13, a14, a15, a16, a17, a18, rfl⟩
theorem fill19 (Z : Array Value) (hZ : Z.size = 19) (cs : Array Value) (h : cs.size = 19) : Instr.fill (fun i => some (i * 19, 19)) ((Array.range (1 * 19)).map (Z[· % Z.size]!)) [(0, .agg cs)] = some cs := by
  obtain ⟨l⟩ := cs
  obtain ⟨a0, a1, a2, a3, a4, a5, a6, a7, a8, a9, a10, a11, a12, a13, a14, a15, a16, a17, a18, rfl⟩ := list19 l h
  obtain ⟨z⟩ := Z
  have hz : z.length = 19 := hZ
  have e : (Array.map (fun x => (⟨z⟩ : Array Value)[x % (⟨z⟩ : Array Value).size]!) (Array.range (1 * 19))).size = 19 := by simp
  generalize (Array.map (fun x => (⟨z⟩ : Array Value)[x % (⟨z⟩ : Array Value).size]!) (Array.range (1 * 19))) = y at e ⊢
  obtain ⟨y⟩ := y
  obtain ⟨b0, b1, b2, b3, b4, b5, b6, b7, b8, b9, b10, b11, b12, b13, b14, b15, b16, b17, b18, rfl⟩ := list19 y e
  simp [Instr.fill, Value.cells]
set_option maxRecDepth 100000 in
set_option maxHeartbeats 400000 in
theorem bs48 (cs : Array Value) (h : cs.size = 19) (w : World) : (Instr.buildSlice 24 1 #[(0, .agg cs)]).run Tryz.prog w = .ok (.slice (some ⟨w.heap.size, 0, none⟩) 1 1) (w.alloc (.cells cs 51)) := by
  obtain ⟨i0, hi, hz0, hz1, hz2⟩ := info_parts info48
  have hsz : ∀ w, (sizeOf 51).run Tryz.prog w = .ok 19 w := fun w => by simp [sizeOf, typeInfo, hi, hz1]
  obtain ⟨Z, hZ0, hZ⟩ : ∃ Z, i0.zero = some Z ∧ Z.cells.size = 19 := ⟨_, hz0, by kernel_rfl⟩
  have hzv : ∀ w, (zeroValue 51).run Tryz.prog w = .ok Z w := fun w => by simp [zeroValue, typeInfo, hi, hZ0]
  have hf := fill19 Z.cells hZ cs h
  unfold Instr.buildSlice
  rw [Sem.run_bind, run_underlying Tryz.underlying24 w]
  simp only [Result.andThen_ok, Sem.run_bind, hsz]
  rw [if_neg (by decide), if_neg (by decide)]
  simp only [Sem.run_bind, hzv, Result.andThen_ok, Sem.run_pure, hf]
  simp only [newRow, Sem.run_bind, run_newObj_alloc, Result.andThen_ok, Sem.run_pure]
/-- The cells of a struct's value. -/
def aggCells : Value → Array Value
  | .agg cs => cs
  | _ => #[]
theorem aggCells_agg (cs : Array Value) : aggCells (.agg cs) = cs := rfl
theorem bsx48 {ev : Operand → Value} {x : Operand} {w : World} {d : Option Tmp} {t : TypeId} {p : String} {af} {g} (h : ev x = .agg (aggCells (ev x))) (r : (aggCells (ev x)).size = 19) :
    (execOp ev { dst := d, op := Op.buildSlice 24 1 #[(0, x)], type := t, pos := p, after := af, guard := g }).run Tryz.prog w = .ok (.value (.slice (some ⟨w.heap.size, 0, none⟩) 1 1)) (w.alloc (.cells (aggCells (ev x)) 51)) := by
  unfold execOp
  generalize aggCells (ev x) = cs at *
  simp only [h, Sem.run_bind, Sem.run_pure, Result.andThen_ok, List.map_toArray, List.map_cons, List.map_nil, bs48 cs r]
attribute [local go_sem ↓] ld48 ldv48 ldx48 bsx48
attribute [local go_sem] ptrBlock_some aggCells_agg
set_option maxRecDepth 100000 in
set_option maxHeartbeats 1600000 in
theorem put_any (B : Nat) (id : Int) (kb ko dep : Nat) (h : Hd) (ls : List Loc) (at_ : Int) (i : Nat) (x : Loc) (w : World) (hp : w.cell? ⟨kb, ko, none⟩ = some (.slice h.a h.n h.c)) (hf : w.frozen? ⟨kb, ko, none⟩ = false) (O : OwnR B w 51 19 h (flat ls)) (hB : B ≤ w.heap.size) (hn : h.n < 536870912) (hi : i ≤ h.n)
    (hat : at_ = (i : Int) ∨ (at_ = -1 ∧ i = h.n)) (hne : (Value.slice h.a h.n h.c).ownBlock ≠ some kb) :
    Calls Tryz.prog 75 #[.agg #[.int .i64 id, .pointer (some ⟨kb, ko, none⟩), .int .i64 (dep : Int)], .int .i64 at_, .agg x.cells.toArray] w fun e w' =>
      ∃ (h' : Hd) (W1 : World), e = .returned (.tuple #[]) ∧ h'.n = h.n + 1 ∧ OwnR B W1 51 19 h' (flat (ls.take i ++ x :: ls.drop i)) ∧ Keeps (fun q => (Value.slice h.a h.n h.c).ownBlock = some q) w W1 ∧ w' = W1.setCell ⟨kb, ko, none⟩ (.slice h'.a h'.n h'.c) ∧ NewOr w h h' := by
  have hkb : kb < w.heap.size := World.block_lt_of_cell? w _ hp
  have hrow : ∀ q, (Value.slice h.a h.n h.c).ownBlock = some q → q < w.heap.size := by
    intro q hq
    rcases O.1.2 with ⟨e, -⟩ | ⟨g, cap, cur, e, h1, h2, h3⟩
    · rw [e] at hq; cases hq
    · rw [e] at hq
      have e2 : g = q := by simpa [Value.ownBlock] using hq
      subst e2
      exact lt_of_block h2
  obtain ⟨w0, hw0⟩ : ∃ w0, w0 = (w.alloc (.cells #[.int .i64 id, .pointer (some ⟨kb, ko, none⟩), .int .i64 (dep : Int)] 84)).alloc (.cells x.cells.toArray 51) := ⟨_, rfl⟩
  have k0 : Keeps none' w w0 := by rw [hw0]; exact ((Keeps.refl none' w).alloc _).alloc _
  have R0 : w0.heap[w.heap.size]? = some (.cells #[.int .i64 id, .pointer (some ⟨kb, ko, none⟩), .int .i64 (dep : Int)] 84 (0, 0)) := by
    rw [hw0]
    exact ((((Keeps.refl none' _).alloc (.cells x.cells.toArray 51)).later w.heap.size (by simp))).trans (heap_alloc_new _ _)
  have L0 : w0.heap[w.heap.size + 1]? = some (.cells x.cells.toArray 51 (0, 0)) := by
    rw [hw0]
    have hs : (w.alloc (.cells #[.int .i64 id, .pointer (some ⟨kb, ko, none⟩), .int .i64 (dep : Int)] 84)).heap.size = w.heap.size + 1 := by simp
    rw [← hs]
    exact heap_alloc_new _ _
  have z0 : w0.heap.size = w.heap.size + 2 := by rw [hw0]; simp
  obtain ⟨R, hR⟩ : ∃ R, R = w.heap.size := ⟨_, rfl⟩
  obtain ⟨L, hL⟩ : ∃ L, L = w.heap.size + 1 := ⟨_, rfl⟩
  have e0 : w0.cell? ⟨R, 1, none⟩ = some (.pointer (some ⟨kb, ko, none⟩)) := by rw [hR, cell_of_row _ _ _ _ _ _ R0]; rfl
  have e1 : w0.cell? ⟨kb, ko, none⟩ = some (.slice h.a h.n h.c) := k0.cell hp
  have e23 : Row48 w0 L ∧ rowAt w0 L = x.cells.toArray := by
    rw [hL]
    refine ⟨⟨_, L0, by rw [List.size_toArray, Loc.cells_length]⟩, ?_⟩
    unfold rowAt
    rw [L0]
  have CI : ∀ w' : World, w'.heap = (w0.alloc (.cells x.cells.toArray 51)).heap → w'.os = w0.os → w'.tape = w0.tape → w'.output = w0.output → Calls Tryz.prog 102 #[.slice h.a h.n h.c, .int .i64 (i : Int), .slice (some ⟨w0.heap.size, 0, none⟩) 1 1] w' fun e w'' =>
      ∃ h' : Hd, e = .returned (.slice h'.a h'.n h'.c) ∧ (w''.cell? ⟨R, 1, none⟩ = some (.pointer (some ⟨kb, ko, none⟩)) ∧ w''.cell? ⟨kb, ko, none⟩ = some (.slice h.a h.n h.c) ∧ Row48 w'' L ∧ rowAt w'' L = x.cells.toArray) ∧ w''.frozen? ⟨kb, ko, none⟩ = false ∧ h'.n = h.n + 1 ∧ OwnR B w'' 51 19 h' (flat (ls.take i ++ x :: ls.drop i)) ∧ Keeps (fun q => (Value.slice h.a h.n h.c).ownBlock = some q) w w'' ∧ NewOr w h h' := by
    intro w' hh ho ht hu
    have k1 : Keeps none' w0 w' := ⟨ho, ht, hu, by rw [hh]; simp, fun q hq _ => by rw [hh]; exact ((Keeps.refl none' w0).alloc _).later q hq⟩
    have kw : Keeps none' w w' := k0.next k1
    refine (insert_any B h i ls x w0.heap.size 1 w' (O.keep kw (fun _ _ h => h)) (by have := kw.size; omega) hn hi (by rw [hh]; exact heap_alloc_new _ _) (fun e => by have := hrow _ e; omega)).mono ?_
    rintro e w'' ⟨h', e1', e2', e3', k, no⟩
    have hnX : ∀ q, q = kb ∨ w.heap.size ≤ q → ¬ (Value.slice h.a h.n h.c).ownBlock = some q := by
      rintro q (rfl | hq) e
      · exact hne e
      · have := hrow _ e; omega
    exact ⟨h', e1', ⟨k.cellS (hnX _ (.inr (by show w.heap.size ≤ R; omega))) (k1.cell e0), k.cellS (hnX _ (.inl rfl)) (k1.cell e1), row_keep k (hnX _ (.inr (by omega))) (row_keep k1 (fun h => h) e23)⟩,
      k.frozenS (hnX _ (.inl rfl)) (by show kb < _; have := kw.size; omega) (kw.frozenS (fun h => h) hkb hf), e2', e3', (show Keeps (fun q => (Value.slice h.a h.n h.c).ownBlock = some q) w w' from ⟨kw.os, kw.tape, kw.output, kw.size, fun q hq _ => kw.later q hq⟩).trans k (fun _ _ e => e), fun b hb => (no b hb).imp (fun e => e) (fun hs => Nat.le_trans kw.size hs)⟩
  have SZ : (Tryz.prog.info? 51).map (·.size) = some x.cells.length := by rw [Loc.cells_length]; exact size48
  have SZ19 : x.cells.toArray.size = 19 := by rw [List.size_toArray, Loc.cells_length]
  have HCI := Lib.hid CI
  have E0 := Lib.hid e0
  have E1 := Lib.hid e1
  have E2 := Lib.hid e23
  have hz : ¬ ((i : Int) = -1) := by omega
  have HW := Lib.hid hw0
  clear hw0 SZ CI e0 e1 e23 L0 R0 z0 hp hf O hB hrow hne k0 hkb
  go_enter Tryz.func75, Tryz.ntmps75
  rcases hat with rfl | ⟨rfl, rfl⟩
  · go_upto_region 3 with (fail)
    rw [← HW.out, ← hL, ← hR]
    clear hL hR hz HW
    have e0 := E0.out
    have e1 := E1.out
    have e2 := E2.out.1
    have e3 := E2.out.2
    have e4 : Row48 w0.drew L := e2
    have e5 : rowAt w0.drew L = x.cells.toArray := e3
    have e6 := (held_alloc ⟨e0, e1, e2, e3⟩ (.cells x.cells.toArray 51)).1
    have e7 := (held_alloc ⟨e0, e1, e2, e3⟩ (.cells x.cells.toArray 51)).2.1
    go_region_law (go_simp; refine (HCI.out (w0.alloc (.cells x.cells.toArray 51)).drew rfl rfl rfl rfl).mono ?_; rintro e w9 ⟨h', rfl, ⟨k0, k1, k2, k3⟩, kf, kn, ko9, kk, no9⟩)
    all_goals exact bodyPost_end (results_none rfl _ _ _) rfl ⟨h', w9, rfl, kn, ko9, kk, by rw [kn], no9⟩
  · go_upto_region 2 with (fail)
    rw [← HW.out, ← hL, ← hR]
    clear hL hR hz HW
    have e0 := E0.out
    have e1 := E1.out
    have e2 := E2.out.1
    have e3 := E2.out.2
    go_upto_region 3 with (fail)
    have e4 : Row48 w0.drew L := e2
    have e5 : rowAt w0.drew L = x.cells.toArray := e3
    have e6 := (held_alloc ⟨e0, e1, e2, e3⟩ (.cells x.cells.toArray 51)).1
    have e7 := (held_alloc ⟨e0, e1, e2, e3⟩ (.cells x.cells.toArray 51)).2.1
    go_region_law (go_simp; refine (HCI.out (w0.alloc (.cells x.cells.toArray 51)).drew rfl rfl rfl rfl).mono ?_; rintro e w9 ⟨h', rfl, ⟨k0, k1, k2, k3⟩, kf, kn, ko9, kk, no9⟩)
    all_goals exact bodyPost_end (results_none rfl _ _ _) rfl ⟨h', w9, rfl, kn, ko9, kk, by rw [kn], no9⟩
end Go.Proofs.YtfcpbpfemmdklaaGreat.Tr

/- A layer taken out of a row. (printed by genTN.py) -/
namespace Go.Proofs.YtfcpbpfemmdklaaGreat.Tr
open Go.RowKit Go.Lib
set_option linter.unusedSimpArgs false
set_option linter.unusedVariables false

/-- What memory holds behind a taking: the row without the layer, the header set. -/
structure Took (B : Nat) (w : World) (kb ko g n c : Nat) (vs : List Value) (w' : World) : Prop where
  keeps : Keeps (fun q => q = g ∨ q = kb) w w'
  row : OwnR B w' 51 19 ⟨some ⟨g, 0, none⟩, n, c⟩ vs
  kb : w'.heap[kb]? = (w.setCell ⟨kb, ko, none⟩ (.slice (some ⟨g, 0, none⟩) n c)).heap[kb]?
theorem Took.later {B : Nat} {w w1 w2 : World} {kb ko g n c : Nat} {vs : List Value} (t : Took B w kb ko g n c vs w1) (hg : g < w.heap.size) (hk : kb < w.heap.size) (k : Keeps (fun q => w.heap.size ≤ q) w1 w2) : Took B w kb ko g n c vs w2 :=
  ⟨⟨k.os.trans t.keeps.os, k.tape.trans t.keeps.tape, k.output.trans t.keeps.output, Nat.le_trans t.keeps.size k.size, fun q hq hn => (k.block q (Nat.lt_of_lt_of_le hq t.keeps.size) (by omega)).trans (t.keeps.block q hq hn)⟩,
   t.row.keep k (fun x hx e => by
     have e1 : x = ⟨g, 0, none⟩ := by simpa using hx.symm
     subst e1
     have e2 : w.heap.size ≤ g := e
     omega),
   (k.block kb (Nat.lt_of_lt_of_le hk t.keeps.size) (by omega)).trans t.kb⟩
/-- Out of what delete tells, and the store of the header. -/
theorem Took.mk1 {B : Nat} {w w0 w1 : World} {kb ko g n c : Nat} {vs : List Value} (k0 : Keeps none' w w0) (row : OwnR B w1 51 19 ⟨some ⟨g, 0, none⟩, n, c⟩ vs) (k : Keeps (fun q => q = g) w0 w1) (hne : kb ≠ g) (hk : kb < w.heap.size) : Took B w kb ko g n c vs (w1.setCell ⟨kb, ko, none⟩ (.slice (some ⟨g, 0, none⟩) n c)) := by
  have ks := keeps_at w1 kb ko (.slice (some ⟨g, 0, none⟩) n c)
  have e1 : w1.heap[kb]? = w.heap[kb]? := (k.block kb (Nat.lt_of_lt_of_le hk k0.size) hne).trans (k0.later kb hk)
  refine ⟨⟨ks.os.trans (k.os.trans k0.os), ks.tape.trans (k.tape.trans k0.tape), ks.output.trans (k.output.trans k0.output), Nat.le_trans k0.size (Nat.le_trans k.size ks.size), fun q hq hn => ?_⟩, ?_, ?_⟩
  · exact ((ks.block q (Nat.lt_of_lt_of_le hq (Nat.le_trans k0.size k.size)) (fun e => hn (.inr e))).trans (k.block q (Nat.lt_of_lt_of_le hq k0.size) (fun e => hn (.inl e)))).trans (k0.later q hq)
  · refine row.keep ks (fun x hx e => ?_)
    have e2 : x = ⟨g, 0, none⟩ := by simpa using hx.symm
    subst e2
    exact hne (Eq.symm e)
  · simp only [World.setCell, Array.getElem?_modify, e1]
end Go.Proofs.YtfcpbpfemmdklaaGreat.Tr
